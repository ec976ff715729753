/- What the model's l2Goes and FlowPreds answer. -/
import Derived.Test.YtljlgffkhocgkaaDoorPreds
import Derived.Test.YtljlgffkhocgkaaDoorPredsB
import Derived.Test.YtljlgffkhocgkaaDoorSpecL2
import Derived.Test.YtljlgffkhocgkaaDoorSpecOk
import Derived.Test.YtljlgffkhocgkaaDoorSpecReach
import Derived.Deep.AppendLies
namespace Go.Proofs.YtljlgffkhocgkaaDoor
open Go.RowKit


set_option maxRecDepth 100000 in
set_option maxHeartbeats 8000000 in
theorem specPreds_yes {Q : Ending → World → Prop} (v : Value) (ss : List St) (w : World) (h : StepsAt w v ss) (hok : okB ss = true)
    (hQ : ∀ v' rs w', Below w.heap.size w w' → IsReach ss rs → RowsI (w.heap.size + 1) w'.heap.size w' v' (predsL ss rs) → Q (.returned v') w') :
    Calls Tryd.prog 39 #[.agg #[v]] w Q := by
  have HQ : Hid _ := hQ
  clear hQ
  obtain ⟨hn1, hn2⟩ := ok_len hok
  have HOK : Hid (okB ss = true) := hok
  obtain ⟨ao, b, o, cap, rfl, ha, hc⟩ := id h
  obtain rfl := ha (by omega)
  have HC : Hid _ := hc
  have HH : Hid (StepsAt w (.slice (some ⟨b, o, none⟩) ss.length cap) ss) := h
  clear ha hc h
  obtain ⟨i0, hi, hz0, hz1, hz2⟩ := info_parts infoInt2
  obtain ⟨i1, hj, hy0, hy1, hy2⟩ := info_parts infoInts2
  go_enter Tryd.func39, Tryd.ntmps39
  go_wp2_with fail
  have hb0 : ∀ O O', Below w.heap.size w ((w.alloc O).alloc O') := fun O O' => ((Below.refl _ _).alloc (Nat.le_refl _) O).alloc (by simp) O'
  refine specOk_any _ ss _ (HH.out.keep (hb0 _ _)) (by omega) (ok_nexts HOK.out) fun w1 hb1 => ?_
  rw [hok]
  have hbA : Below w.heap.size w w1 := (hb0 _ _).trans (hb1.mono (by simp; omega))
  have q1 : w1.cell? ⟨w.heap.size, 0, none⟩ = some (.slice (some ⟨b, o, none⟩) ss.length cap) := cell_keep hb1 (by simp [go_sem])
  have e1 : w1.ownsRow (w.heap.size + 1) 55 1 (.slice (some ⟨w.heap.size + 1, 0, none⟩) 0 0) 0 [] := by
    have h0 := World.ownsRow_lit (base := w.heap.size + 1) (e := 55) (size := 1) (w.alloc (.cells #[.slice (some ⟨b, o, none⟩) ss.length cap] 34)) #[] 0 (by simp) (by decide) (by simp)
    have h1 := ownsRow_out h0 (Out.of_below (lo := 0) (hi := 0) hb1) (fun _ _ => Or.inr (Nat.zero_le _))
    simpa using h1
  clear hb1 hb0 hok
  go_wp2_with fail
  refine specReach_yes _ ss _ (HH.out.keep hbA) HOK.out fun v3 rs w3 hb3 hrs hown3 => ?_
  have hbC : Below w.heap.size w w3 := hbA.trans (hb3.mono hbA.size)
  have q3 := cell_keep hb3 q1
  have e3 : w3.ownsRow (w.heap.size + 1) 55 1 (.slice (some ⟨w.heap.size + 1, 0, none⟩) 0 0) 0 [] := ownsRow_out e1 (Out.of_below (lo := 0) (hi := 0) hb3) (fun _ _ => Or.inr (Nat.zero_le _))
  have HRS : Hid (IsReach ss rs) := hrs
  obtain ⟨g, cap3, rfl, hg1, hg2, _, hg3, _⟩ := own_slice1 hown3 (by omega)
  have HG : Hid (∀ i, i < ss.length → w3.cell? ⟨g, i, none⟩ = (rs.map Value.bool)[i]?) := hg3
  have HB3 : Hid (Below w.heap.size w w3) := hbC
  have HE3 : Hid (RowsI (w.heap.size + 1) w3.heap.size w3 (.slice (some ⟨w.heap.size + 1, 0, none⟩) 0 0) []) := RowsI.nil e3 (fun k hk => (e3.lt k hk).2)
  have hw13 : w.heap.size + 2 ≤ g := Nat.le_trans (by have := (e1.lt (w.heap.size + 1) rfl).2; omega) hg1
  have hws : w.heap.size + 2 ≤ w3.heap.size := by omega
  clear hb3 q1 e1 e3 hrs hown3 hg3 hbC hbA
  go_wp2_with fail
  go_loopw [3, 5] (fun ov i wr => ∃ k : Nat, k ≤ ss.length ∧ i = .int .i64 k ∧ RowsI (w.heap.size + 1) wr.heap.size wr ov ((List.range k).map (fun j => predsK ss rs j ss.length)) ∧ Out (w.heap.size + 1) (w.heap.size + 2) w3 wr ∧ ∀ q, ov.ownBlock = some q → q = w.heap.size + 1 ∨ w3.heap.size ≤ q) (fun _ i _ => ss.length - (intOf i).toNat)
  case atStart => exact ⟨0, Nat.zero_le _, rfl, HE3.out, Out.refl _ _ _, fun q hq => by simp [Value.ownBlock] at hq; omega⟩
  case round =>
    obtain ⟨k, hk, rfl, hR, hO, hov⟩ := hrel
    have HR : Hid (RowsI (w.heap.size + 1) wr.heap.size wr u3 ((List.range k).map (fun j => predsK ss rs j ss.length))) := hR
    have HO : Hid (Out (w.heap.size + 1) (w.heap.size + 2) w3 wr) := hO
    have HOV : Hid (∀ q, u3.ownBlock = some q → q = w.heap.size + 1 ∨ w3.heap.size ≤ q) := hov
    have q4 := hO.cell q3 (Or.inl (by show w.heap.size < w.heap.size + 1; omega))
    have HB : Hid (Below w.heap.size w wr) := HB3.out.trans (hO.below (by omega) (by omega))
    have hsz : w3.heap.size ≤ wr.heap.size := hO.size
    clear hO hov
    by_cases hkn : k < ss.length
    · have hki : (k : Int) < (ss.length : Int) := by omega
      obtain ⟨vs, h1, h2, h3, h4, h5⟩ := hR
      have HV2 : Hid _ := h2
      have HV4 : Hid _ := h4
      have HV5 : Hid _ := h5
      rw [List.length_map, List.length_range] at h1
      clear h2 h3 h4 h5
      go_wp2
      have hb5 : ∀ O, Below wr.heap.size wr (wr.alloc O) := fun O => (Below.refl _ _).alloc (Nat.le_refl _) O
      have hl5 : (wr.alloc (.cells #[] 3)).ownsRow wr.heap.size 3 1 (.slice (some ⟨wr.heap.size, 0, none⟩) 0 0) 0 [] := World.ownsRow_lit _ #[] 0 (Nat.le_refl _) (by decide) (by simp)
      have HB5 : Hid _ := hb5
      have HL5 : Hid _ := hl5
      clear hb5 hl5
      generalize wr = W5 at *
      go_loopw [6, 7] (fun lv kk wr2 => ∃ t : Nat, t ≤ ss.length ∧ kk = .int .i64 t ∧ Below W5.heap.size W5 wr2 ∧ W5.heap.size < wr2.heap.size ∧ wr2.ownsRow W5.heap.size 3 1 lv (predsK ss rs k t).length ((predsK ss rs k t).map (Value.int .i64))) (fun _ kk _ => ss.length - (intOf kk).toNat)
      case atStart => exact ⟨0, Nat.zero_le _, rfl, HB5.out _, by simp, by rw [predsK_zero]; exact HL5.out⟩
      case round =>
        obtain ⟨t, ht, rfl, hb6, hs6, hl6⟩ := hrel
        have HB6 : Hid (Below W5.heap.size W5 wr) := hb6
        have HL6 : Hid (wr.ownsRow W5.heap.size 3 1 u6 (predsK ss rs k t).length ((predsK ss rs k t).map (Value.int .i64))) := hl6
        have q5 := cell_keep hb6 q4
        have HBW : Hid (Below w.heap.size w wr) := HB.out.trans (hb6.mono HB.out.size)
        have hpl := predsK_len ss rs k t
        by_cases htl : t < ss.length
        · have hti : (t : Int) < (ss.length : Int) := by omega
          have hrt : t < rs.length := by rw [HRS.out.1]; exact htl
          have cg : wr.cell? ⟨g, t, none⟩ = some (.bool rs[t]) := cell_keep hb6 (HO.out.cell ((HG.out t htl).trans (by rw [List.getElem?_map, List.getElem?_eq_getElem hrt]; rfl)) (Or.inr hw13))
          have HSUC : Hid _ := predsK_succ ss rs k t
          have HGD : Hid (rs.getD t false = rs[t]) := by simp [Hid, List.getD, hrt]
          cases hrv : rs[t]
          · rw [hrv] at cg
            have HEQ : Hid (predsK ss rs k (t + 1) = predsK ss rs k t) := by
              refine HSUC.out.trans ?_
              rw [if_neg (by rw [HGD.out, hrv]; simp), List.append_nil]
            clear hb6 hl6 hrv
            go_wp2
            go_roundw
            case rel => exact ⟨t + 1, by omega, by go_num, HB6.out, hs6, by rw [HEQ.out]; exact HL6.out⟩
            case measure => simp [intOf]; omega
          · rw [hrv] at cg
            obtain ⟨nu, cu, iu⟩ := HC.out t ss[t] (by simp [htl])
            obtain ⟨nao, nb, no, ncap, rfl, _, _⟩ := id iu
            obtain ⟨c0, c1, c2, c3, c4, c5, c6, c7⟩ := cu.keep HBW.out
            have HIU : Hid (IntsAt wr (.slice nao ss[t].next.length ncap) ss[t].next) := iu.keep HBW.out
            have h2 := step_many (ok_step HOK.out (List.getElem?_eq_getElem htl))
            have HEY : Hid ((k : Int) ∈ ss[t].next → predsK ss rs k (t + 1) = predsK ss rs k t ++ [(t : Int)]) := by
              intro hm
              refine HSUC.out.trans ?_
              rw [if_pos ⟨by rw [HGD.out, hrv], by rw [nextOf_get htl]; exact hm⟩]
            have HEN : Hid (¬ (k : Int) ∈ ss[t].next → predsK ss rs k (t + 1) = predsK ss rs k t) := by
              intro hm
              refine HSUC.out.trans ?_
              rw [if_neg (by rw [nextOf_get htl]; exact fun h => hm h.2), List.append_nil]
            clear hb6 hl6 hrv cu iu
            go_wp2_with fail
            refine l2Goes_any _ ss[t] (k : Int) _ HIU.out (by omega) fun w7 hb7 => ?_
            have HB7 : Hid (Below W5.heap.size W5 w7) := HB6.out.trans (hb7.mono HB6.out.size)
            have hs7 : W5.heap.size < w7.heap.size := Nat.lt_of_lt_of_le hs6 hb7.size
            have HL7 : Hid (w7.ownsRow W5.heap.size 3 1 u6 (predsK ss rs k t).length ((predsK ss rs k t).map (Value.int .i64))) := ownsRow_out HL6.out (Out.of_below (lo := 0) (hi := 0) hb7) (fun _ _ => Or.inr (Nat.zero_le _))
            clear hb7 c0 c1 c2 c3 c4 c5 c6 c7 cg
            by_cases hm : (k : Int) ∈ ss[t].next
            · rw [decide_eq_true hm]
              have HE : Hid _ := HEY.out hm
              clear hm
              go_wp2_with (at_builtin; refine wpList_append_own _ rfl _ _ 55 rfl W5.heap.size 3 i0 (.int .i64 0) 1 8 Tryd.underlying55 hi hz0 hz1 hz2 rfl (by decide) u6 (predsK ss rs k t).length ((predsK ss rs k t).map (Value.int .i64)) rfl (HL7.out.alloc _) ⟨w7.heap.size, 0, none⟩ 1 1 [.int .i64 (t : Int)] rfl rfl (cell_one_new w7 _ _) (int_oneCell _ _) (by unfold maxLen; omega) (by omega) (by simp; omega) ?_; intro v8 w8 hown8 hgrow8 _)
              have HB8 : Hid (Below W5.heap.size W5 w8) := (HB7.out.alloc (by omega) _).grown hgrow8 (by simp; omega) (fun q hq => (HL7.out.lt q hq).1)
              have hs8 : W5.heap.size < w8.heap.size := Nat.lt_of_lt_of_le hs7 (Nat.le_trans (by simp) hgrow8.size)
              have HO8 : Hid (w8.ownsRow W5.heap.size 3 1 v8 (predsK ss rs k (t + 1)).length ((predsK ss rs k (t + 1)).map (Value.int .i64))) := by
                have e := HE.out
                rw [Hid, e]
                simpa using hown8
              clear hown8 hgrow8
              go_wp2
              go_roundw
              case rel => exact ⟨t + 1, by omega, by go_num, HB8.out, hs8, HO8.out⟩
              case measure => simp [intOf]; omega
            · rw [decide_eq_false hm]
              have HE : Hid _ := HEN.out hm
              clear hm
              go_wp2
              go_roundw
              case rel =>
                have e := HE.out
                exact ⟨t + 1, by omega, by go_num, HB7.out, hs7, by rw [e]; exact HL7.out⟩
              case measure => simp [intOf]; omega
        · have hti : ¬ (t : Int) < (ss.length : Int) := by omega
          obtain rfl : t = ss.length := by omega
          have HVr : Hid (wr.ownsRow (w.heap.size + 1) 55 1 u3 k vs) := by
            have := ownsRow_out HV2.out (Out.of_below (lo := 0) (hi := 0) hb6) (fun _ _ => Or.inr (Nat.zero_le _))
            rwa [List.length_map, List.length_range] at this
          obtain ⟨A6, n6, c6, hv6⟩ : ∃ A n c, u6 = .slice A n c := by
            rcases hl6.2 with ⟨e, _⟩ | ⟨g', c, _, e, _⟩
            · exact ⟨_, _, _, e⟩
            · exact ⟨_, _, _, e⟩
          subst hv6
          clear hb6 hl6
          go_wp2_with (at_builtin; refine wpList_append_lies _ rfl _ _ 45 rfl (w.heap.size + 1) 55 i1 (.slice none 0 0) 1 24 Tryd.underlying45 hj hy0 hy1 hy2 rfl (by decide) u3 k vs rfl (HVr.out.alloc _) ⟨wr.heap.size, 0, none⟩ 1 1 [.slice A6 n6 c6] rfl rfl (cell_one_new wr _ _) (slice_int_one _ _ _) (by decide) (by unfold maxLen; omega) (by omega) (by simp; omega) (wr.heap.size + 1) (by simp) ?_; intro g8 cap8 w8 hown8 hgrow8 hat8 hlt8)
          have hs8 : wr.heap.size + 1 ≤ w8.heap.size := Nat.le_trans (by simp) hgrow8.size
          have HRN : Hid (RowsI (w.heap.size + 1) w8.heap.size w8 (.slice (some ⟨g8, 0, none⟩) (k + 1) cap8) ((List.range (k + 1)).map (fun j => predsK ss rs j ss.length))) := by
            have hgen := RowsI.snoc (lo := w.heap.size + 1) (hi := W5.heap.size) (s := W5.heap.size) (W := wr.alloc (.cells #[.slice A6 n6 c6] 55)) (w' := w8) (v := u3) (v' := .slice (some ⟨g8, 0, none⟩) (k + 1) cap8) (x := .slice A6 n6 c6) (zss := (List.range k).map (fun j => predsK ss rs j ss.length)) (zs := predsK ss rs k ss.length) (vs := vs) (by simp [h1]) (by simpa using HVr.out.alloc _) (fun i y zs hy hz => ((HV4.out i y zs hy hz).keep HB6.out).keep ((Below.refl _ _).alloc (Nat.le_refl _) _)) HV5.out (HL6.out.alloc _) (Nat.le_refl _) (by omega) hgrow8 (by simpa using hown8)
            rw [Hid, List.range_succ, List.map_append]
            exact hgen
          have HOutN : Hid (Out (w.heap.size + 1) (w.heap.size + 2) w3 w8) := by
            refine ⟨hgrow8.os.trans (HB6.out.os.trans HO.out.os), hgrow8.tape.trans (HB6.out.tape.trans HO.out.tape), hgrow8.output.trans (HB6.out.output.trans HO.out.output), by omega, fun q hq hr => ?_⟩
            have h7 : (wr.alloc (.cells #[.slice A6 n6 c6] 55)).heap[q]? = wr.heap[q]? := Below.heap_alloc _ _ _ (by omega)
            refine ((hgrow8.block q (by simp; omega) (fun e => ?_)).trans h7).trans ((HB6.out.block q (by omega)).trans (HO.out.block q hq hr))
            have := HOV.out q e.symm
            omega
          have HOVN : Hid (∀ q, (Value.slice (some ⟨g8, 0, none⟩) (k + 1) cap8).ownBlock = some q → q = w.heap.size + 1 ∨ w3.heap.size ≤ q) := by
            intro q hq
            simp [Value.ownBlock] at hq
            subst hq
            rcases hat8 with e | e
            · exact HOV.out _ e
            · omega
          clear hown8 hgrow8 hat8
          go_wp2
          go_roundw
          case rel => exact ⟨k + 1, by omega, by go_num, HRN.out, HOutN.out, HOVN.out⟩
          case measure => simp [intOf]; omega
    · have hki : ¬ (k : Int) < (ss.length : Int) := by omega
      obtain rfl : k = ss.length := by omega
      clear hR
      go_wp2
      exact HQ.out _ rs _ HB.out HRS.out HR.out

set_option maxHeartbeats 1000000 in
theorem specPreds_no {Q : Ending → World → Prop} (v : Value) (ss : List St) (w : World) (h : StepsAt w v ss) (hl : ss.length ≤ 1048576) (hls : ∀ s ∈ ss, s.next.length ≤ 1048576) (hok : okB ss = false)
    (hQ : ∀ v' w', Below w.heap.size w w' → RowsI (w.heap.size + 1) w'.heap.size w' v' [] → Q (.returned v') w') :
    Calls Tryd.prog 39 #[.agg #[v]] w Q := by
  have HQ : Hid _ := hQ
  clear hQ
  obtain ⟨ao, b, o, cap, rfl, ha, hc⟩ := id h
  clear ha hc
  have HH : Hid (StepsAt w (.slice ao ss.length cap) ss) := h
  have HL : Hid _ := hls
  clear hls h
  go_enter Tryd.func39, Tryd.ntmps39
  go_wp2_with fail
  have hb0 : ∀ O O', Below w.heap.size w ((w.alloc O).alloc O') := fun O O' => ((Below.refl _ _).alloc (Nat.le_refl _) O).alloc (by simp) O'
  refine specOk_any _ ss _ (HH.out.keep (hb0 _ _)) hl HL.out fun w1 hb1 => ?_
  rw [hok]
  have hbA : Below w.heap.size w w1 := (hb0 _ _).trans (hb1.mono (by simp; omega))
  have e1 : w1.ownsRow (w.heap.size + 1) 55 1 (.slice (some ⟨w.heap.size + 1, 0, none⟩) 0 0) 0 [] := by
    have h0 := World.ownsRow_lit (base := w.heap.size + 1) (e := 55) (size := 1) (w.alloc (.cells #[.slice ao ss.length cap] 34)) #[] 0 (by simp) (by decide) (by simp)
    have h1 := ownsRow_out h0 (Out.of_below (lo := 0) (hi := 0) hb1) (fun _ _ => Or.inr (Nat.zero_le _))
    simpa using h1
  have HE1 : Hid (RowsI (w.heap.size + 1) w1.heap.size w1 (.slice (some ⟨w.heap.size + 1, 0, none⟩) 0 0) []) := RowsI.nil e1 (fun k hk => (e1.lt k hk).2)
  clear hb1 hb0 e1
  go_wp2
  exact HQ.out _ _ hbA HE1.out

theorem specPreds_any {Q : Ending → World → Prop} (v : Value) (ss : List St) (w : World) (h : StepsAt w v ss) (hl : ss.length ≤ 1048576) (hls : ∀ s ∈ ss, s.next.length ≤ 1048576)
    (hQ : ∀ v' zss w', Below w.heap.size w w' → PredsOr ss zss → RowsI w.heap.size w'.heap.size w' v' zss → Q (.returned v') w') :
    Calls Tryd.prog 39 #[.agg #[v]] w Q := by
  cases hok : okB ss
  · exact specPreds_no v ss w h hl hls hok fun v' w' h1 h2 => hQ v' [] w' h1 (Or.inr ⟨hok, rfl⟩) (h2.lower (by omega))
  · exact specPreds_yes v ss w h hok fun v' rs w' h1 h2 h3 => hQ v' (predsL ss rs) w' h1 (Or.inl ⟨hok, rs, h2, rfl⟩) (h3.lower (by omega))
end Go.Proofs.YtljlgffkhocgkaaDoor
