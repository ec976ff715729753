/- What the model's FlowIsTidy answers. -/
import Derived.Test.YtmplkchdfloppaaGreatDoorSpecWays
namespace Go.Proofs.YtmplkchdfloppaaGreatDoor
open Go.RowKit

set_option maxHeartbeats 4000000 in
theorem specIsTidy_any {Q : Ending → World → Prop} (v : Value) (ss : List St) (w : World) (h : StepsAt w v ss) (hl : ss.length ≤ 1048576) (hls : ∀ s ∈ ss, s.next.length ≤ 1048576)
    (hQ : ∀ (r : Bool) w', Below w.heap.size w w' → (r = true ↔ (okB ss = true ∧ Tidy ss)) → Q (.returned (.bool r)) w') :
    Calls Tryz.prog 13 #[.agg #[v]] w Q := by
  have HQ : Hid _ := hQ
  clear hQ
  obtain ⟨ao, b, o, cap, rfl, ha, hc⟩ := id h
  have HH : Hid (StepsAt w (.slice ao ss.length cap) ss) := h
  have HA : Hid _ := ha
  have HC : Hid _ := hc
  have HL : Hid _ := hls
  clear hls h ha hc
  have hb0 : ∀ O, Below w.heap.size w (w.alloc O) := fun O => (Below.refl _ _).alloc (Nat.le_refl _) O
  cases hok : okB ss
  · have HOK : Hid (okB ss = false) := hok
    go_enter Tryz.func13, Tryz.ntmps13
    go_wp2_with fail
    refine specOk_any _ ss _ (HH.out.keep (hb0 _)) hl HL.out fun w1 hb1 => ?_
    rw [hok]
    have hbA : Below w.heap.size w w1 := (hb0 _).trans (hb1.mono (by simp))
    clear hb1 hb0 hok
    go_wp2
    exact HQ.out false _ hbA (by rw [HOK.out]; simp)
  · have HOK : Hid (okB ss = true) := hok
    obtain ⟨hn1, hn2⟩ := ok_len hok
    obtain rfl := HA.out (by omega)
    go_enter Tryz.func13, Tryz.ntmps13
    go_wp2_with fail
    refine specOk_any _ ss _ (HH.out.keep (hb0 _)) hl HL.out fun w1 hb1 => ?_
    rw [hok]
    have hbA : Below w.heap.size w w1 := (hb0 _).trans (hb1.mono (by simp))
    have q1 : w1.cell? ⟨w.heap.size, 0, none⟩ = some (.slice (some ⟨b, o, none⟩) ss.length cap) := cell_keep hb1 (by simp [go_sem])
    clear hb1 hb0 hok
    go_wp2_with fail
    refine l2Ways_any _ ss 0 _ (HH.out.keep hbA) (by omega) (ok_fit HOK.out).two fun w2 hb2 => ?_
    have hbB : Below w.heap.size w w2 := hbA.trans (hb2.mono hbA.size)
    have q2 := cell_keep hb2 q1
    clear hb2 q1 hbA
    by_cases hw0 : ways ss 0 = 0
    · have HW0 : Hid (ways ss 0 = 0) := hw0
      rw [hw0]
      clear hw0
      go_wp2_with fail
      refine specReach_yes _ ss _ (HH.out.keep hbB) HOK.out fun v3 rs w3 hb3 hrs hown3 => ?_
      have hbC : Below w.heap.size w w3 := hbB.trans (hb3.mono hbB.size)
      have q3 := cell_keep hb3 q2
      have HRS : Hid (IsReach ss rs) := hrs
      obtain ⟨g, cap3, rfl, hg1, hg2, _, hg3, _⟩ := own_slice1 hown3 (by omega)
      have HG : Hid (∀ i, i < ss.length → w3.cell? ⟨g, i, none⟩ = (rs.map Value.bool)[i]?) := hg3
      have HB3 : Hid (Below w.heap.size w w3) := hbC
      clear hb3 q2 hbB hrs hown3 hg3 hbC
      go_wp2_with fail
      go_loopw [4] (fun i wr => ∃ k : Nat, k ≤ ss.length ∧ i = .int .i64 k ∧ Below w3.heap.size w3 wr ∧ ∀ j s, j < k → ss[j]? = some s → Reaches ss j ∧ (s.kind ≠ 6 → ∀ x ∈ s.next, ways ss x ≤ 1)) (fun i _ => ss.length - (intOf i).toNat)
      case atStart => exact ⟨0, Nat.zero_le _, rfl, Below.refl _ _, by omega⟩
      case round =>
        obtain ⟨k, hk, rfl, hb, hall⟩ := hrel
        have HALL : Hid _ := hall
        have q4 := cell_keep hb q3
        have HB : Hid (Below w.heap.size w wr) := HB3.out.trans (hb.mono HB3.out.size)
        have HBr : Hid (Below w3.heap.size w3 wr) := hb
        clear hall
        by_cases hkl : k < ss.length
        · have hki : (k : Int) < (ss.length : Int) := by omega
          have hrk : k < rs.length := by rw [HRS.out.1]; exact hkl
          have cg := cell_keep hb ((HG.out k hkl).trans (by rw [List.getElem?_map, List.getElem?_eq_getElem hrk]; rfl))
          have hre := HRS.out.2 k hkl
          rw [List.getElem?_eq_getElem hrk] at hre
          have HRE : Hid _ := hre
          clear hre
          cases hrv : rs[k]
          · rw [hrv] at cg
            have HF : Hid (¬ Reaches ss k) := by
              intro hr
              have := HRE.out.2 hr
              rw [hrv] at this
              cases this
            clear hb
            go_wp2
            exact HQ.out false _ HB.out ⟨by simp, fun ht => absurd (ht.2.2.1 k hkl) HF.out⟩
          · rw [hrv] at cg
            have HT : Hid (Reaches ss k) := HRE.out.1 (by rw [hrv])
            obtain ⟨nu, cu, iu⟩ := HC.out k ss[k] (by simp [hkl])
            obtain ⟨nao, nb, no, ncap, rfl, hna, hnc⟩ := id iu
            have C7 : Hid _ := cu.c7
            have C0 : Hid _ := cu.c0
            have HNA : Hid _ := hna
            have HNC : Hid _ := hnc
            have h2 := step_many (ok_step HOK.out (List.getElem?_eq_getElem hkl))
            have hbw := HB.out
            clear cu iu hna hnc hb
            go_wp2_with fail
            go_loopw [5] (fun i wr2 => ∃ t : Nat, t ≤ ss[k].next.length ∧ i = .int .i64 t ∧ Below w3.heap.size w3 wr2 ∧ ∀ t', t' < t → ways ss (ss[k].next.getD t' 0) ≤ 1) (fun i _ => ss[k].next.length - (intOf i).toNat)
            case atStart => exact ⟨0, Nat.zero_le _, rfl, HBr.out, by omega⟩
            case round =>
              obtain ⟨t, ht, rfl, hb, hall⟩ := hrel
              have HALL2 : Hid _ := hall
              have q5 := cell_keep hb q3
              have HB5 : Hid (Below w.heap.size w wr) := HB3.out.trans (hb.mono HB3.out.size)
              have HBr5 : Hid (Below w3.heap.size w3 wr) := hb
              have c7 := cell_keep HB5.out C7.out
              have c0 := cell_keep HB5.out C0.out
              clear hall
              by_cases htl : t < ss[k].next.length
              · have hti : (t : Int) < (ss[k].next.length : Int) := by omega
                by_cases h6 : ss[k].kind = 6
                · rw [h6] at c0
                  clear hb
                  go_wp2
                  go_roundw
                  case rel =>
                    refine ⟨k + 1, by omega, by go_num, HBr5.out, fun j s hj hs => ?_⟩
                    by_cases hjk : j = k
                    · subst hjk
                      rw [List.getElem?_eq_getElem hkl] at hs
                      cases hs
                      exact ⟨HT.out, fun h => absurd h6 h⟩
                    · exact HALL.out j s (by omega) hs
                  case measure => simp [intOf]; omega
                · obtain rfl := HNA.out (by omega)
                  have cx := cell_keep HB5.out (HNC.out t htl)
                  have hwx := waysK_le (ok_fit HOK.out).two ss.length (ss[k].next.getD t 0)
                  rw [waysK_all] at hwx
                  have HX : Hid (ss[k].next.getD t 0 ∈ ss[k].next) := mem_of_getD htl
                  have HLT : Hid (∀ y, y = ss[k].next.getD t 0 → ways ss y ≤ 1 → ∀ t', t' < t + 1 → ways ss (ss[k].next.getD t' 0) ≤ 1) := by
                    intro y hy h1 t' ht'
                    by_cases e : t' = t
                    · subst e; rw [← hy]; exact h1
                    · exact HALL2.out t' (by omega)
                  have h6' : ¬ (ss[k].kind = 6) := h6
                  generalize ss[k].next.getD t 0 = x at *
                  clear hb
                  go_wp2_with fail
                  go_region_with (go_at_call 34; refine l2Ways_any _ ss x _ (HH.out.keep (HB5.out.trans (by exact ⟨rfl, rfl, rfl, Nat.le_refl _, fun _ _ => rfl⟩))) (by omega) (ok_fit HOK.out).two ?_; intro w6 hb6)
                  all_goals
                    have hbr6 : Below wr.heap.size wr w6 := ⟨hb6.os, hb6.tape, hb6.output, hb6.size, hb6.block⟩
                    have HB6 : Hid (Below w.heap.size w w6) := HB5.out.trans (hbr6.mono HB5.out.size)
                    have HBr6 : Hid (Below w3.heap.size w3 w6) := HBr5.out.trans (hbr6.mono HBr5.out.size)
                    clear hb6 hbr6 c0 c7 cx q5
                    by_cases hwx1 : ways ss x ≤ 1
                    · have hwi : ¬ (1 : Int) < (ways ss x : Int) := by omega
                      go_wp2
                      go_roundw
                      case rel => exact ⟨t + 1, by omega, by go_num, HBr6.out, HLT.out x rfl hwx1⟩
                      case measure => simp [intOf]; omega
                    · have hwi : (1 : Int) < (ways ss x : Int) := by omega
                      go_wp2
                      exact HQ.out false _ HB6.out ⟨by simp, fun ht => absurd (ht.2.2.2 ss[k] (List.getElem_mem hkl) h6' x HX.out) hwx1⟩
              · have hti : ¬ (t : Int) < (ss[k].next.length : Int) := by omega
                clear hb
                go_wp2
                go_roundw
                case rel =>
                  refine ⟨k + 1, by omega, by go_num, HBr5.out, fun j s hj hs => ?_⟩
                  by_cases hjk : j = k
                  · subst hjk
                    rw [List.getElem?_eq_getElem hkl] at hs
                    cases hs
                    refine ⟨HT.out, fun _ x hx => ?_⟩
                    obtain ⟨t', ht', e⟩ := mem_getD' hx
                    rw [← e]
                    exact HALL2.out t' (by omega)
                  · exact HALL.out j s (by omega) hs
                case measure => simp [intOf]; omega
        · have hki : ¬ (k : Int) < (ss.length : Int) := by omega
          clear hb
          go_wp2
          refine HQ.out true _ HB.out ⟨fun _ => ⟨HOK.out, HW0.out, fun i hi => (HALL.out i ss[i] (by omega) (List.getElem?_eq_getElem hi)).1, fun s hs => ?_⟩, fun _ => rfl⟩
          obtain ⟨j, hj, rfl⟩ := List.mem_iff_getElem.1 hs
          exact (HALL.out j ss[j] (by omega) (List.getElem?_eq_getElem hj)).2
    · have hwx := waysK_le (ok_fit HOK.out).two ss.length 0
      rw [waysK_all] at hwx
      have hwi : (0 : Int) < (ways ss 0 : Int) := by omega
      have HW0 : Hid (¬ ways ss 0 = 0) := hw0
      clear hw0
      go_wp2
      exact HQ.out false _ hbB ⟨by simp, fun ht => absurd ht.2.1 HW0.out⟩
end Go.Proofs.YtmplkchdfloppaaGreatDoor
