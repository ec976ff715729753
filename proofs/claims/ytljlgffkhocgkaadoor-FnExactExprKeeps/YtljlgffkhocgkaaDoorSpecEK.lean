/- What the model's ExprComp, ExprKeeps and ExprList answer. -/
import Derived.Test.YtljlgffkhocgkaaDoorExprO
import Derived.Test.YtljlgffkhocgkaaDoorSpecOk
import Derived.Test.YtljlgffkhocgkaaDoorOwnK
import Derived.Deep.AppendLies
import Derived.Deep.RegionLaw
namespace Go.Proofs.YtljlgffkhocgkaaDoor
open Go.RowKit

theorem bool_oneCellE (x : Bool) : ∀ u ∈ [Value.bool x], u.oneCell' = true := by
  intro u hu; simp at hu; subst hu; rfl

theorem infoBoolE : (Tryd.prog.info? 4).map (fun i => (i.zero, i.size, i.bytes)) = some (some (.bool false), 1, 1) := by kernel_rfl

theorem info_partsE {t : TypeId} {z : Value} {n k : Nat} (h : (Tryd.prog.info? t).map (fun i => (i.zero, i.size, i.bytes)) = some (some z, n, k)) : ∃ i, Tryd.prog.info? t = some i ∧ i.zero = some z ∧ i.size = n ∧ i.bytes = k := by
  simp only [Option.map_eq_some_iff, Prod.mk.injEq] at h
  obtain ⟨i, h1, h2, h3, h4⟩ := h
  exact ⟨i, h1, h2, h3, h4⟩

theorem take_snoc {α β : Type} {ss : List α} {k : Nat} (h : k < ss.length) (f : α → β) : (ss.take (k + 1)).map f = (ss.take k).map f ++ [f ss[k]] := by
  rw [List.take_succ_eq_append_getElem h, List.map_append]
  rfl

set_option maxHeartbeats 1000000 in
theorem l11Sets_any {Q : Ending → World → Prop} (s : St) (A : Option Addr) (n c : Nat) (w : World)
    (hQ : ∀ w', Below w.heap.size w w' → Q (.returned (.int .i64 (setsI s))) w') :
    Calls Tryd.prog 28 #[stepV s (.slice A n c)] w Q := by
  have HQ : Hid _ := hQ
  clear hQ
  unfold stepV
  have hb0 : ∀ O, Below w.heap.size w (w.alloc O) := fun O => (Below.refl _ _).alloc (Nat.le_refl _) O
  by_cases h1 : s.kind = 1
  · rw [show setsI s = s.dst by simp [setsI, h1]] at HQ
    go_enter Tryd.func28, Tryd.ntmps28
    go_wp2
    exact HQ.out _ (hb0 _)
  · by_cases h2 : s.kind = 2
    · rw [show setsI s = s.dst by simp [setsI, h2]] at HQ
      go_enter Tryd.func28, Tryd.ntmps28
      go_wp2
      exact HQ.out _ (hb0 _)
    · by_cases h3 : s.kind = 3
      · rw [show setsI s = s.dst by simp [setsI, h3]] at HQ
        go_enter Tryd.func28, Tryd.ntmps28
        go_wp2
        exact HQ.out _ (hb0 _)
      · rw [show setsI s = -1 by simp [setsI, h1, h2, h3]] at HQ
        have g1 : (s.kind == 1) = false := by simp [h1]
        have g2 : (s.kind == 2) = false := by simp [h2]
        have g3 : (s.kind == 3) = false := by simp [h3]
        go_enter Tryd.func28, Tryd.ntmps28
        go_wp2
        exact HQ.out _ (hb0 _)

set_option maxRecDepth 100000 in
set_option maxHeartbeats 4000000 in
theorem specKeeps_any {Q : Ending → World → Prop} (v : Value) (ss : List St) (e : E5) (w : World) (h : StepsAt w v ss) (hl : ss.length ≤ 1048576) (hls : ∀ s ∈ ss, s.next.length ≤ 1048576)
    (hQ : ∀ v' rs w', Below w.heap.size w w' → RowOr keepB ss e rs → w'.ownsRow w.heap.size 4 1 v' rs.length (rs.map Value.bool) → Q (.returned v') w') :
    Calls Tryd.prog 7 #[.agg #[v], exV e] w Q := by
  have HQ : Hid _ := hQ
  clear hQ
  obtain ⟨ao, b, o, cap, rfl, ha, hc⟩ := id h
  have HA : Hid (0 < ss.length → ao = some ⟨b, o, none⟩) := ha
  have HC : Hid (∀ i s, ss[i]? = some s → ∃ nv, StepCells w b (o + i * 8) s nv ∧ IntsAt w nv s.next) := hc
  have HH : Hid (StepsAt w (.slice ao ss.length cap) ss) := h
  have HL : Hid (∀ s ∈ ss, s.next.length ≤ 1048576) := hls
  clear ha hc hls h
  obtain ⟨i0, hi, hz0, hz1, hz2⟩ := info_partsE infoBoolE
  have hb0 : ∀ O O' O'', Below w.heap.size w (((w.alloc O).alloc O').alloc O'') := fun O O' O'' => (((Below.refl _ _).alloc (Nat.le_refl _) O).alloc (by simp) O').alloc (by simp; omega) O''
  have hexv : ∀ W : World, exV e = .agg #[.int .i64 e.op, .int .i64 e.av, .int .i64 e.an, .int .i64 e.bv, .int .i64 e.bn] := fun _ => rfl
  rw [hexv w]
  go_enter Tryd.func7, Tryd.ntmps7
  go_wp2_with fail
  have e0 := fun c c' : Array Value => World.ownsRow_lit (base := w.heap.size + 2) (e := 4) (size := 1) ((w.alloc (.cells c 34)).alloc (.cells c' 38)) #[] 0 (by simp) (by decide) (by simp)
  refine specOk_any _ ss _ (HH.out.keep (hb0 _ _ _)) hl HL.out fun w2 hb2 => ?_
  have hbB : Below w.heap.size w w2 := (hb0 _ _ _).trans (hb2.mono (by simp; omega))
  have q2 : w2.cell? ⟨w.heap.size, 0, none⟩ = some (.slice ao ss.length cap) := cell_keep hb2 (by simp [go_sem])
  have x0 : w2.cell? ⟨w.heap.size + 1, 0, none⟩ = some (.int .i64 e.op) := cell_keep hb2 (by simp [go_sem])
  have x1 : w2.cell? ⟨w.heap.size + 1, 1, none⟩ = some (.int .i64 e.av) := cell_keep hb2 (by simp [go_sem])
  have x2 : w2.cell? ⟨w.heap.size + 1, 2, none⟩ = some (.int .i64 e.an) := cell_keep hb2 (by simp [go_sem])
  have x3 : w2.cell? ⟨w.heap.size + 1, 3, none⟩ = some (.int .i64 e.bv) := cell_keep hb2 (by simp [go_sem])
  have x4 : w2.cell? ⟨w.heap.size + 1, 4, none⟩ = some (.int .i64 e.bn) := cell_keep hb2 (by simp [go_sem])
  have e2 : w2.ownsRow (w.heap.size + 2) 4 1 (.slice (some ⟨w.heap.size + 2, 0, none⟩) 0 0) 0 [] := by
    have h1 := ownsRow_out (e0 _ _) (Out.of_below (lo := 0) (hi := 0) hb2) (fun _ _ => Or.inr (Nat.zero_le _))
    simpa using h1
  have HB2 : Hid (Below w.heap.size w w2) := hbB
  have HE2 : Hid (w2.ownsRow (w.heap.size + 2) 4 1 (.slice (some ⟨w.heap.size + 2, 0, none⟩) 0 0) 0 []) := e2
  have hsz2 := (e2.lt _ rfl).2
  clear hb2 hb0 e0 hbB e2
  cases hok : okB ss
  · have HR : Hid (RowOr keepB ss e []) := by simp [Hid, RowOr, hok]
    clear hok
    go_wp2
    exact HQ.out _ [] _ HB2.out HR.out (own_lower HE2.out (by omega))
  have HOK : Hid (okB ss = true) := hok
  have hn2 : ss.length ≤ 60 := by have := hok; unfold okB at this; simp only [Bool.and_eq_true, decide_eq_true_eq] at this; omega
  clear hok
  go_wp2_with fail
  rw [← hexv w]
  refine specExprOk_any e _ fun w3 hb3 => ?_
  have q3 := cell_keep hb3 q2
  have y0 := cell_keep hb3 x0
  have y1 := cell_keep hb3 x1
  have y2 := cell_keep hb3 x2
  have y3 := cell_keep hb3 x3
  have y4 := cell_keep hb3 x4
  have HB3 : Hid (Below w.heap.size w w3) := HB2.out.trans (hb3.mono HB2.out.size)
  have HE3 : Hid (w3.ownsRow (w.heap.size + 2) 4 1 (.slice (some ⟨w.heap.size + 2, 0, none⟩) 0 0) 0 []) := ownsRow_out HE2.out (Out.of_below (lo := 0) (hi := 0) hb3) (fun _ _ => Or.inr (Nat.zero_le _))
  have hsz3 : w2.heap.size ≤ w3.heap.size := hb3.size
  clear hb3 q2 x0 x1 x2 x3 x4 HE2 HB2
  cases hex : exprB e
  · have HR : Hid (RowOr keepB ss e []) := by simp [Hid, RowOr, hex]
    clear hex
    go_wp2
    exact HQ.out _ [] _ HB3.out HR.out (own_lower HE3.out (by omega))
  have HEX : Hid (exprB e = true) := hex
  clear hex
  go_wp2_with fail
  go_loopw [5, 6] (fun ov i wr => ∃ k : Nat, k ≤ ss.length ∧ i = .int .i64 k ∧ wr.ownsRow (w.heap.size + 2) 4 1 ov k ((ss.take k).map (fun s => .bool (keepB e s))) ∧ Below (w.heap.size + 2) w3 wr) (fun _ i _ => ss.length - (intOf i).toNat)
  case atStart => exact ⟨0, Nat.zero_le _, rfl, HE3.out, Below.refl _ _⟩
  case round =>
    obtain ⟨k, hk, rfl, hown, hB⟩ := hrel
    have HOW : Hid (wr.ownsRow (w.heap.size + 2) 4 1 u5 k ((ss.take k).map (fun s => .bool (keepB e s)))) := hown
    have HB : Hid (Below (w.heap.size + 2) w3 wr) := hB
    have hsz : w3.heap.size ≤ wr.heap.size := hB.size
    have qr : wr.cell? ⟨w.heap.size, 0, none⟩ = some (.slice ao ss.length cap) := (hB.cell (p := ⟨w.heap.size, 0, none⟩) (by show w.heap.size < w.heap.size + 2; omega)).trans q3
    have z0 : wr.cell? ⟨w.heap.size + 1, 0, none⟩ = some (.int .i64 e.op) := (hB.cell (p := ⟨w.heap.size + 1, 0, none⟩) (by show w.heap.size + 1 < w.heap.size + 2; omega)).trans y0
    have z1 : wr.cell? ⟨w.heap.size + 1, 1, none⟩ = some (.int .i64 e.av) := (hB.cell (p := ⟨w.heap.size + 1, 1, none⟩) (by show w.heap.size + 1 < w.heap.size + 2; omega)).trans y1
    have z2 : wr.cell? ⟨w.heap.size + 1, 2, none⟩ = some (.int .i64 e.an) := (hB.cell (p := ⟨w.heap.size + 1, 2, none⟩) (by show w.heap.size + 1 < w.heap.size + 2; omega)).trans y2
    have z3 : wr.cell? ⟨w.heap.size + 1, 3, none⟩ = some (.int .i64 e.bv) := (hB.cell (p := ⟨w.heap.size + 1, 3, none⟩) (by show w.heap.size + 1 < w.heap.size + 2; omega)).trans y3
    have z4 : wr.cell? ⟨w.heap.size + 1, 4, none⟩ = some (.int .i64 e.bn) := (hB.cell (p := ⟨w.heap.size + 1, 4, none⟩) (by show w.heap.size + 1 < w.heap.size + 2; omega)).trans y4
    by_cases hkn : k < ss.length
    · have hki : (k : Int) < (ss.length : Int) := by omega
      have hbw : Below w.heap.size w wr := HB3.out.trans (hB.mono (by omega))
      obtain rfl := HA.out (by omega)
      obtain ⟨nu, cu, iu⟩ := HC.out k ss[k] (by simp [hkn])
      obtain ⟨nao, nb, no, ncap, rfl, _, _⟩ := id iu
      have cw := cu.keep hbw
      have d0 := cw.c0
      have d1 := cw.c1
      have d2 := cw.c2
      have d3 := cw.c3
      have d4 := cw.c4
      have d5 := cw.c5
      have d6 := cw.c6
      have d7 := cw.c7
      have HSN : Hid ((ss.take (k + 1)).map (fun s => Value.bool (keepB e s)) = (ss.take k).map (fun s => Value.bool (keepB e s)) ++ [Value.bool (keepB e ss[k])]) := take_snoc hkn _
      clear cu iu cw hown hB hbw
      go_wp2_with fail
      refine l11Sets_any ss[k] nao ss[k].next.length ncap _ fun w5 hb5 => ?_
      have HK5 : Hid (w5.ownsRow (w.heap.size + 2) 4 1 u5 k ((ss.take k).map (fun s => .bool (keepB e s)))) := ownsRow_out HOW.out (Out.of_below (lo := 0) (hi := 0) hb5) (fun _ _ => Or.inr (Nat.zero_le _))
      have HB5 : Hid (Below (w.heap.size + 2) w3 w5) := HB.out.trans (hb5.mono (by omega))
      have hsz5 := hb5.size
      have y1' := cell_keep hb5 z1
      have y3' := cell_keep hb5 z3
      have q5 := cell_keep hb5 qr
      clear hb5 z0 z1 z2 z3 z4 qr d0 d1 d2 d3 d4 d5 d6 d7
      have HXX : Hid (keepB e ss[k] = (decide (setsI ss[k] < 0) || (decide (setsI ss[k] ≠ e.av) && decide (setsI ss[k] ≠ e.bv)))) := rfl
      by_cases hd : setsI ss[k] < 0
      · have HX : Hid (keepB e ss[k] = true) := by rw [Hid, HXX.out]; simp [hd]
        go_wp2_with (at_builtin; refine wpList_append_lies _ rfl _ _ 30 rfl (w.heap.size + 2) 4 i0 (.bool false) 1 1 Tryd.underlying30 hi hz0 hz1 hz2 rfl (by decide) u5 k ((ss.take k).map (fun s => .bool (keepB e s))) rfl (HK5.out.alloc _) ⟨w5.heap.size, 0, none⟩ 1 1 [.bool true] rfl rfl (cell_one_new w5 _ _) (bool_oneCellE _) (by decide) (by unfold maxLen; omega) (by omega) (by simp; omega) (w5.heap.size + 1) (by simp) ?_; intro g8 cap8 w8 hown8 hgrow8 hat8 hlt8)
        have hlow : ∀ q, (Value.ownBlock u5) = some q → w.heap.size + 2 ≤ q := fun q hq => (HOW.out.lt q hq).1
        have HBN : Hid (Below (w.heap.size + 2) w3 w8) := (HB5.out.alloc (by omega) _).grown hgrow8 (by simp; omega) (fun q hq => hlow q hq)
        have HOWN : Hid (w8.ownsRow (w.heap.size + 2) 4 1 (.slice (some ⟨g8, 0, none⟩) (k + 1) cap8) (k + 1) ((ss.take (k + 1)).map (fun s => .bool (keepB e s)))) := by
          rw [Hid, HSN.out, HX.out]
          exact hown8
        clear hown8 hgrow8 hat8
        go_wp2
        go_roundw
        case rel => exact ⟨k + 1, by omega, by go_num, HOWN.out, HBN.out⟩
        case measure => simp [intOf]; omega
      · by_cases h1 : setsI ss[k] = e.av
        · have HX : Hid (keepB e ss[k] = decide (e.av < 0)) := by rw [Hid, HXX.out, h1]; simp
          have g1 : ¬ e.av < 0 := by rw [← h1]; exact hd
          go_wp2_with (at_builtin; refine wpList_append_lies _ rfl _ _ 30 rfl (w.heap.size + 2) 4 i0 (.bool false) 1 1 Tryd.underlying30 hi hz0 hz1 hz2 rfl (by decide) u5 k ((ss.take k).map (fun s => .bool (keepB e s))) rfl (HK5.out.alloc _) ⟨w5.heap.size, 0, none⟩ 1 1 [.bool (decide (e.av < 0))] rfl rfl (cell_one_new w5 _ _) (bool_oneCellE _) (by decide) (by unfold maxLen; omega) (by omega) (by simp; omega) (w5.heap.size + 1) (by simp) ?_; intro g8 cap8 w8 hown8 hgrow8 hat8 hlt8)
          have hlow : ∀ q, (Value.ownBlock u5) = some q → w.heap.size + 2 ≤ q := fun q hq => (HOW.out.lt q hq).1
          have HBN : Hid (Below (w.heap.size + 2) w3 w8) := (HB5.out.alloc (by omega) _).grown hgrow8 (by simp; omega) (fun q hq => hlow q hq)
          have HOWN : Hid (w8.ownsRow (w.heap.size + 2) 4 1 (.slice (some ⟨g8, 0, none⟩) (k + 1) cap8) (k + 1) ((ss.take (k + 1)).map (fun s => .bool (keepB e s)))) := by
            rw [Hid, HSN.out, HX.out]
            exact hown8
          clear hown8 hgrow8 hat8
          go_wp2
          go_roundw
          case rel => exact ⟨k + 1, by omega, by go_num, HOWN.out, HBN.out⟩
          case measure => simp [intOf]; omega
        · by_cases h2 : setsI ss[k] = e.bv
          · have HX : Hid (keepB e ss[k] = decide (e.bv < 0)) := by rw [Hid, HXX.out, h2]; simp
            have g1 : ¬ e.bv < 0 := by rw [← h2]; exact hd
            have g2 : ¬ e.bv = e.av := by rw [← h2]; exact h1
            go_wp2_with (at_builtin; refine wpList_append_lies _ rfl _ _ 30 rfl (w.heap.size + 2) 4 i0 (.bool false) 1 1 Tryd.underlying30 hi hz0 hz1 hz2 rfl (by decide) u5 k ((ss.take k).map (fun s => .bool (keepB e s))) rfl (HK5.out.alloc _) ⟨w5.heap.size, 0, none⟩ 1 1 [.bool (decide (e.bv < 0))] rfl rfl (cell_one_new w5 _ _) (bool_oneCellE _) (by decide) (by unfold maxLen; omega) (by omega) (by simp; omega) (w5.heap.size + 1) (by simp) ?_; intro g8 cap8 w8 hown8 hgrow8 hat8 hlt8)
            have hlow : ∀ q, (Value.ownBlock u5) = some q → w.heap.size + 2 ≤ q := fun q hq => (HOW.out.lt q hq).1
            have HBN : Hid (Below (w.heap.size + 2) w3 w8) := (HB5.out.alloc (by omega) _).grown hgrow8 (by simp; omega) (fun q hq => hlow q hq)
            have HOWN : Hid (w8.ownsRow (w.heap.size + 2) 4 1 (.slice (some ⟨g8, 0, none⟩) (k + 1) cap8) (k + 1) ((ss.take (k + 1)).map (fun s => .bool (keepB e s)))) := by
              rw [Hid, HSN.out, HX.out]
              exact hown8
            clear hown8 hgrow8 hat8
            go_wp2
            go_roundw
            case rel => exact ⟨k + 1, by omega, by go_num, HOWN.out, HBN.out⟩
            case measure => simp [intOf]; omega
          · have HX : Hid (keepB e ss[k] = true) := by rw [Hid, HXX.out]; simp [hd, h1, h2]
            have g1 : (setsI ss[k] != e.av) = true := by simp [h1]
            have g2 : (setsI ss[k] != e.bv) = true := by simp [h2]
            go_wp2_with (at_builtin; refine wpList_append_lies _ rfl _ _ 30 rfl (w.heap.size + 2) 4 i0 (.bool false) 1 1 Tryd.underlying30 hi hz0 hz1 hz2 rfl (by decide) u5 k ((ss.take k).map (fun s => .bool (keepB e s))) rfl (HK5.out.alloc _) ⟨w5.heap.size, 0, none⟩ 1 1 [.bool true] rfl rfl (cell_one_new w5 _ _) (bool_oneCellE _) (by decide) (by unfold maxLen; omega) (by omega) (by simp; omega) (w5.heap.size + 1) (by simp) ?_; intro g8 cap8 w8 hown8 hgrow8 hat8 hlt8)
            have hlow : ∀ q, (Value.ownBlock u5) = some q → w.heap.size + 2 ≤ q := fun q hq => (HOW.out.lt q hq).1
            have HBN : Hid (Below (w.heap.size + 2) w3 w8) := (HB5.out.alloc (by omega) _).grown hgrow8 (by simp; omega) (fun q hq => hlow q hq)
            have HOWN : Hid (w8.ownsRow (w.heap.size + 2) 4 1 (.slice (some ⟨g8, 0, none⟩) (k + 1) cap8) (k + 1) ((ss.take (k + 1)).map (fun s => .bool (keepB e s)))) := by
              rw [Hid, HSN.out, HX.out]
              exact hown8
            clear hown8 hgrow8 hat8
            go_wp2
            go_roundw
            case rel => exact ⟨k + 1, by omega, by go_num, HOWN.out, HBN.out⟩
            case measure => simp [intOf]; omega
    · have hki : ¬ (k : Int) < (ss.length : Int) := by omega
      obtain rfl : k = ss.length := by omega
      have HR : Hid (RowOr keepB ss e (ss.map (keepB e))) := by simp [Hid, RowOr, HOK.out, HEX.out]
      have HFIN : Hid (wr.ownsRow w.heap.size 4 1 u5 (ss.map (keepB e)).length ((ss.map (keepB e)).map Value.bool)) := by
        rw [List.take_length] at hown
        rw [Hid, List.length_map, List.map_map]
        exact own_lower hown (by omega)
      clear hown hB
      go_wp2
      exact HQ.out _ _ _ (HB3.out.trans (HB.out.mono (by omega))) HR.out HFIN.out
end Go.Proofs.YtljlgffkhocgkaaDoor
