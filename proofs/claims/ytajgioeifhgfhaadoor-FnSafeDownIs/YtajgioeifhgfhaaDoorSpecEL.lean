/- What the model's ExprList answers. -/
import Derived.Test.YtajgioeifhgfhaaDoorSpecHas
import Derived.Test.YtajgioeifhgfhaaDoorSpecOk
import Derived.Test.YtajgioeifhgfhaaDoorExprO
import Derived.Deep.RegionHeld3
namespace Go.Proofs.YtajgioeifhgfhaaDoor
open Go.RowKit Go.Maps

theorem exTo_ok {ss : List St} (hok : okB ss = true) (k : Nat) : ∀ x ∈ exTo ss k, exprB x = true := fun x hx => by
  obtain ⟨j, s, _, h2, h3, h4⟩ := mem_exTo.1 hx
  rw [← h4]
  exact ok_expr hok (List.mem_of_getElem? h2) h3

set_option maxHeartbeats 1000000 in
theorem l11Of_p {Q : Ending → World → Prop} (s : St) (A : Option Addr) (n c : Nat) (w : World)
    (hQ : ∀ w', Below w.heap.size w w' → Q (.returned (exV (eOf s))) w') :
    Calls Tryd.prog 59 #[stepV s (.slice A n c)] w Q := by
  have HQ : Hid _ := hQ
  clear hQ
  unfold stepV
  go_enter Tryd.func59, Tryd.ntmps59
  go_wp2
  refine bodyPost_ret (v := exV (eOf s)) (by simp [results, Tryd.results59, go_sem, exV, eOf]) rfl ?_
  refine HQ.out _ ?_
  repeat (first | exact (Below.refl _ _).alloc (Nat.le_refl _) _ | exact ((Below.refl _ _).alloc (Nat.le_refl _) _).alloc (by simp) _ | refine Below.setCell ?_ (by simp) _)

theorem l11Of_w {Q : Ending → World → Prop} (kd : Int) (s : St) (A : Option Addr) (n c : Nat) (w : World)
    (hQ : ∀ w', Below w.heap.size w w' → Q (.returned (.agg #[.int .i64 s.op, .int .i64 s.av, .int .i64 s.an, .int .i64 s.bv, .int .i64 s.bn])) w') :
    Calls Tryd.prog 59 #[.agg #[.int .i64 kd, .int .i64 s.dst, .int .i64 s.op, .int .i64 s.av, .int .i64 s.an, .int .i64 s.bv, .int .i64 s.bn, .slice A n c]] w Q := l11Of_p { s with kind := kd } A n c w hQ

theorem l11Has_u {Q : Ending → World → Prop} (v : Value) (es : List E5) (e : E5) (lo : Nat) (w : World) (h : w.ownsRow lo 29 5 v es.length (es.flatMap exC)) (hes : ∀ x ∈ es, exprB x = true) (he : exprB e = true) (hl : es.length ≤ 1000)
    (hQ : ∀ w', Below w.heap.size w w' → Q (.returned (.bool (decide (e ∈ es)))) w') :
    Calls Tryd.prog 66 #[v, .agg #[.int .i64 e.op, .int .i64 e.av, .int .i64 e.an, .int .i64 e.bv, .int .i64 e.bn]] w Q := l11Has_any v es e lo w h hes he hl hQ

set_option maxRecDepth 100000 in
set_option maxHeartbeats 4000000 in
theorem specExprList_any {Q : Ending → World → Prop} (v : Value) (ss : List St) (w : World) (h : StepsAt w v ss) (hl : ss.length ≤ 1048576) (hls : ∀ s ∈ ss, s.next.length ≤ 1048576)
    (hQ : ∀ v' es w', Below w.heap.size w w' → ExprsOr ss es → w'.ownsRow w.heap.size 29 5 v' es.length (es.flatMap exC) → Q (.returned v') w') :
    Calls Tryd.prog 25 #[.agg #[v]] w Q := by
  have HQ : Hid _ := hQ
  clear hQ
  obtain ⟨ao, b, o, cap, rfl, ha, hc⟩ := id h
  have HA : Hid (0 < ss.length → ao = some ⟨b, o, none⟩) := ha
  have HC : Hid (∀ i s, ss[i]? = some s → ∃ nv, StepCells w b (o + i * 8) s nv ∧ IntsAt w nv s.next) := hc
  have HH : Hid (StepsAt w (.slice ao ss.length cap) ss) := h
  have HL : Hid (∀ s ∈ ss, s.next.length ≤ 1048576) := hls
  clear ha hc hls h
  obtain ⟨i0, hi, hz0, hz1, hz2⟩ := info_partsR infoExpr
  have hb0 : ∀ O O', Below w.heap.size w ((w.alloc O).alloc O') := fun O O' => ((Below.refl _ _).alloc (Nat.le_refl _) O).alloc (by simp) O'
  go_enter Tryd.func25, Tryd.ntmps25
  go_wp2_with fail
  have e0 := fun c : Array Value => World.ownsRow_lit (base := w.heap.size + 1) (e := 29) (size := 5) (w.alloc (.cells c 25)) #[] 0 (by simp) (by decide) (by simp)
  refine specOk_any _ ss _ (HH.out.keep (hb0 _ _)) hl HL.out fun w3 hb3 => ?_
  have HB3 : Hid (Below w.heap.size w w3) := (hb0 _ _).trans (hb3.mono (by simp; omega))
  have q3 : w3.cell? ⟨w.heap.size, 0, none⟩ = some (.slice ao ss.length cap) := cell_keep hb3 (by simp [go_sem])
  have HE3 : Hid (w3.ownsRow (w.heap.size + 1) 29 5 (.slice (some ⟨w.heap.size + 1, 0, none⟩) 0 0) 0 []) := by
    have h1 := ownsRow_out (e0 _) (Out.of_below (lo := 0) (hi := 0) hb3) (fun _ _ => Or.inr (Nat.zero_le _))
    simpa [Hid] using h1
  have hsz3 := (HE3.out.lt _ rfl).2
  clear hb3 hb0 e0
  cases hok : okB ss
  · have HR : Hid (ExprsOr ss []) := by simp [Hid, ExprsOr, hok]
    clear hok
    go_wp2
    exact HQ.out _ [] _ HB3.out HR.out (own_lower HE3.out (by omega))
  have HOK : Hid (okB ss = true) := hok
  have hn2 : ss.length ≤ 60 := (ok_len hok).2
  clear hok
  go_wp2_with fail
  go_loopw [3, 4] (fun ov i wr => ∃ k : Nat, k ≤ ss.length ∧ i = .int .i64 k ∧ wr.ownsRow (w.heap.size + 1) 29 5 ov (exTo ss k).length ((exTo ss k).flatMap exC) ∧ Below (w.heap.size + 1) w3 wr) (fun _ i _ => ss.length - (intOf i).toNat)
  case atStart => exact ⟨0, Nat.zero_le _, rfl, HE3.out, Below.refl _ _⟩
  case round =>
    obtain ⟨k, hk, rfl, hown, hB⟩ := hrel
    have HOW : Hid (wr.ownsRow (w.heap.size + 1) 29 5 u3 (exTo ss k).length ((exTo ss k).flatMap exC)) := hown
    have HB : Hid (Below (w.heap.size + 1) w3 wr) := hB
    have hsz : w3.heap.size ≤ wr.heap.size := hB.size
    have qr : wr.cell? ⟨w.heap.size, 0, none⟩ = some (.slice ao ss.length cap) := (hB.cell (p := ⟨w.heap.size, 0, none⟩) (by show w.heap.size < w.heap.size + 1; omega)).trans q3
    by_cases hkn : k < ss.length
    · have hki : (k : Int) < (ss.length : Int) := by omega
      have hbw : Below w.heap.size w wr := HB3.out.trans (hB.mono (by omega))
      have HBW : Hid (Below w.heap.size w wr) := hbw
      obtain rfl := HA.out (by omega)
      obtain ⟨nu, cu, iu⟩ := HC.out k ss[k] (by simp [hkn])
      obtain ⟨nao, nb, no, ncap, rfl, _, _⟩ := id iu
      have HCU : Hid (StepCells w b (o + k * 8) ss[k] (.slice nao ss[k].next.length ncap)) := cu
      have cw := cu.keep hbw
      have d0 := cw.c0
      have d1 := cw.c1
      have d2 := cw.c2
      have d3 := cw.c3
      have d4 := cw.c4
      have d5 := cw.c5
      have d6 := cw.c6
      have d7 := cw.c7
      have HS : Hid (ss[k]? = some ss[k]) := List.getElem?_eq_getElem hkn
      have HEK : Hid (ss[k].kind = 1 → exprB (eOf ss[k]) = true) := fun h => ok_expr HOK.out (List.getElem_mem hkn) h
      have hel : (exTo ss k).length ≤ 60 := Nat.le_trans (exTo_len ss k) (by omega)
      clear cu iu cw hown hB hbw
      generalize ss[k] = s at *
      by_cases h1 : s.kind = 1
      · have HNX : Hid (exTo ss (k + 1) = if eOf s ∈ exTo ss k then exTo ss k else exTo ss k ++ [eOf s]) := by rw [Hid, exTo_succ HS.out]; simp [exStep, h1]
        go_wp2_with fail
        refine l11Of_w _ s nao s.next.length ncap _ fun w4 hb4 => ?_
        have HK4 : Hid (w4.ownsRow (w.heap.size + 1) 29 5 u3 (exTo ss k).length ((exTo ss k).flatMap exC)) := ownsRow_out HOW.out (Out.of_below (lo := 0) (hi := 0) hb4) (fun _ _ => Or.inr (Nat.zero_le _))
        have HB4 : Hid (Below (w.heap.size + 1) w3 w4) := HB.out.trans (hb4.mono (by omega))
        have HW4 : Hid (Below w.heap.size w w4) := HBW.out.trans (hb4.mono HBW.out.size)
        have q4 := cell_keep hb4 qr
        have hs4 := hb4.size
        clear hb4 d0 d1 d2 d3 d4 d5 d6 d7 qr HB HBW
        go_wp2_with fail
        refine l11Has_u u3 (exTo ss k) (eOf s) (w.heap.size + 1) _ HK4.out (exTo_ok HOK.out k) (HEK.out h1) (by omega) fun w5 hb5 => ?_
        have HK5 : Hid (w5.ownsRow (w.heap.size + 1) 29 5 u3 (exTo ss k).length ((exTo ss k).flatMap exC)) := ownsRow_out HK4.out (Out.of_below (lo := 0) (hi := 0) hb5) (fun _ _ => Or.inr (Nat.zero_le _))
        have HB5 : Hid (Below (w.heap.size + 1) w3 w5) := HB4.out.trans (hb5.mono (by omega))
        have HW5 : Hid (Below w.heap.size w w5) := HW4.out.trans (hb5.mono HW4.out.size)
        have q5 := cell_keep hb5 q4
        have hs5 := hb5.size
        clear hb5 q4 HK4 HB4 HW4
        by_cases hm : eOf s ∈ exTo ss k
        · have HN : Hid (exTo ss (k + 1) = exTo ss k) := by rw [Hid, HNX.out, if_pos hm]
          rw [decide_eq_true hm]
          clear hm HNX
          go_wp2
          go_roundw
          case rel => exact ⟨k + 1, by omega, by go_num, HN.out ▸ HK5.out, HB5.out⟩
          case measure => simp [intOf]; omega
        · have HN : Hid (exTo ss (k + 1) = exTo ss k ++ [eOf s]) := by rw [Hid, HNX.out, if_neg hm]
          rw [decide_eq_false hm]
          clear hm HNX
          have cw := HCU.out.keep HW5.out
          have d0 := cw.c0
          have d1 := cw.c1
          have d2 := cw.c2
          have d3 := cw.c3
          have d4 := cw.c4
          have d5 := cw.c5
          have d6 := cw.c6
          have d7 := cw.c7
          clear cw
          go_wp2_with fail
          refine l11Of_w _ s nao s.next.length ncap _ fun w6 hb6 => ?_
          have HK6 : Hid (w6.ownsRow (w.heap.size + 1) 29 5 u3 (exTo ss k).length ((exTo ss k).flatMap exC)) := ownsRow_out HK5.out (Out.of_below (lo := 0) (hi := 0) hb6) (fun _ _ => Or.inr (Nat.zero_le _))
          have HB6 : Hid (Below (w.heap.size + 1) w3 w6) := HB5.out.trans (hb6.mono (by omega))
          have q6 := cell_keep hb6 q5
          have hs6 := hb6.size
          clear hb6 d0 d1 d2 d3 d4 d5 d6 d7 q5 HB5 HK5
          go_wp2_with (at_builtin; refine wpList_append_lies _ rfl _ _ 45 rfl (w.heap.size + 1) 29 i0 (.agg #[.int .i64 0, .int .i64 0, .int .i64 0, .int .i64 0, .int .i64 0]) 5 40 Tryd.underlying45 hi hz0 hz1 hz2 rfl (by decide) u3 (exTo ss k).length ((exTo ss k).flatMap exC) rfl (HK6.out.alloc _) ⟨w6.heap.size, 0, none⟩ 1 1 (exC (eOf s)) rfl rfl (exC_new w6 (eOf s) _) (exC_one (eOf s)) (by decide) (by unfold maxLen; omega) (by omega) (by simp; omega) (w6.heap.size + 1) (by simp) ?_; intro g8 cap8 w8 hown8 hgrow8 hat8 hlt8)
          have hlow : ∀ q, (Value.ownBlock u3) = some q → w.heap.size + 1 ≤ q := fun q hq => (HOW.out.lt q hq).1
          have HBN : Hid (Below (w.heap.size + 1) w3 w8) := (HB6.out.alloc (by omega) _).grown hgrow8 (by simp; omega) (fun q hq => hlow q hq)
          have HOWN : Hid (w8.ownsRow (w.heap.size + 1) 29 5 (.slice (some ⟨g8, 0, none⟩) ((exTo ss k).length + 1) cap8) (exTo ss (k + 1)).length ((exTo ss (k + 1)).flatMap exC)) := by
            rw [Hid, HN.out, List.length_append, List.length_singleton, List.flatMap_append]
            simpa using hown8
          clear hown8 hgrow8 hat8
          go_wp2
          go_roundw
          case rel => exact ⟨k + 1, by omega, by go_num, HOWN.out, HBN.out⟩
          case measure => simp [intOf]; omega
      · have HN : Hid (exTo ss (k + 1) = exTo ss k) := by rw [Hid, exTo_succ HS.out]; simp [exStep, h1]
        have h1b : (s.kind == 1) = false := by simp [h1]
        go_wp2
        go_roundw
        case rel => exact ⟨k + 1, by omega, by go_num, HN.out ▸ HOW.out, HB.out⟩
        case measure => simp [intOf]; omega
    · have hki : ¬ (k : Int) < (ss.length : Int) := by omega
      obtain rfl : k = ss.length := by omega
      have HR : Hid (ExprsOr ss (exprsOf ss)) := by simp [Hid, ExprsOr, HOK.out]
      have HFIN : Hid (wr.ownsRow w.heap.size 29 5 u3 (exprsOf ss).length ((exprsOf ss).flatMap exC)) := by
        rw [exTo_all] at hown
        exact own_lower hown (by omega)
      clear hown hB
      go_wp2
      exact HQ.out _ _ _ (HB3.out.trans (HB.out.mono (by omega))) HR.out HFIN.out
end Go.Proofs.YtajgioeifhgfhaaDoor
