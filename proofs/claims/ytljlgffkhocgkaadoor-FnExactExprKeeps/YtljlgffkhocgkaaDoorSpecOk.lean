/- What the model's ProgOk answers: okB of the steps. -/
import Derived.Test.YtljlgffkhocgkaaDoorSpecStep
namespace Go.Proofs.YtljlgffkhocgkaaDoor
open Go.RowKit

theorem l1Step_any {Q : Ending → World → Prop} (nv : Value) (s : St) (n : Int) (w : World) (h : IntsAt w nv s.next) (hl : s.next.length ≤ 1048576) (hn0 : 0 ≤ n) (hn1 : n ≤ 1048576)
    (hQ : ∀ w', Below w.heap.size w w' → Q (.returned (.bool (stepB s n))) w') :
    Calls Tryd.prog 52 #[stepV s nv, .int .i64 n] w Q := by
  by_cases hlen : (s.next.length : Int) = many s.kind
  · exact l1Step_yes nv s n w h hl hn0 hn1 hlen hQ
  · exact l1Step_no nv s n w h hl hlen hQ

set_option maxHeartbeats 2000000 in
theorem specOk_any {Q : Ending → World → Prop} (v : Value) (ss : List St) (w : World) (h : StepsAt w v ss) (hl : ss.length ≤ 1048576) (hls : ∀ s ∈ ss, s.next.length ≤ 1048576)
    (hQ : ∀ w', Below w.heap.size w w' → Q (.returned (.bool (okB ss))) w') :
    Calls Tryd.prog 26 #[.agg #[v]] w Q := by
  have HQ : Hid (∀ w', Below w.heap.size w w' → Q (.returned (.bool (okB ss))) w') := hQ
  clear hQ
  obtain ⟨ao, b, o, cap, rfl, ha, hc⟩ := h
  have HA : Hid _ := ha
  have HC : Hid _ := hc
  have HL : Hid _ := hls
  clear ha hc hls
  by_cases h1 : ss.length < 1
  · rw [show okB ss = false by simp [okB]; omega] at HQ
    have g1 : (ss.length : Int) < 1 := by omega
    go_enter Tryd.func26, Tryd.ntmps26
    go_wp2
    exact HQ.out _ ((Below.refl _ _).alloc (Nat.le_refl _) _)
  by_cases h2 : 60 < ss.length
  · rw [show okB ss = false by simp [okB]; omega] at HQ
    have g1 : ¬ (ss.length : Int) < 1 := by omega
    have g2 : (60 : Int) < (ss.length : Int) := by omega
    go_enter Tryd.func26, Tryd.ntmps26
    go_wp2
    exact HQ.out _ ((Below.refl _ _).alloc (Nat.le_refl _) _)
  have HS : Hid (okB ss = ss.all (fun s => stepB s ss.length)) := by
    simp only [Hid, okB, show 1 ≤ ss.length by omega, show ss.length ≤ 60 by omega, decide_true, Bool.true_and]
  have g1 : ¬ (ss.length : Int) < 1 := by omega
  have g2 : ¬ (60 : Int) < (ss.length : Int) := by omega
  obtain rfl := HA.out (by omega)
  go_enter Tryd.func26, Tryd.ntmps26
  go_wp2
  go_loopw [3] (fun i wr => ∃ k : Nat, k ≤ ss.length ∧ i = .int .i64 k ∧ Below w.heap.size w wr ∧ w.heap.size < wr.heap.size ∧ wr.cell? ⟨w.heap.size, 0, none⟩ = some (.slice (some ⟨b, o, none⟩) ss.length cap) ∧ ∀ j s, j < k → ss[j]? = some s → stepB s ss.length = true) (fun i _ => ss.length - (intOf i).toNat)
  case atStart => exact ⟨0, Nat.zero_le _, rfl, (Below.refl _ _).alloc (Nat.le_refl _) _, by simp, by simp [go_sem], by omega⟩
  case round =>
    obtain ⟨k, hk, rfl, hb, hsz, q0, hall⟩ := hrel
    have HALL : Hid _ := hall
    clear hall
    by_cases hkl : k < ss.length
    · have hki : (k : Int) < (ss.length : Int) := by omega
      obtain ⟨nu, cu, iu⟩ := HC.out k ss[k] (by simp [hkl])
      obtain ⟨c0, c1, c2, c3, c4, c5, c6, c7⟩ := cu.keep hb
      have IU : Hid (IntsAt w nu ss[k].next) := iu
      have HB : Hid (Below w.heap.size w wr) := hb
      have hm : Hid (ss[k] ∈ ss) := List.getElem_mem hkl
      clear hb cu iu
      go_wp2_with fail
      go_region_with (go_at_call 52; refine l1Step_any nu ss[k] _ _ (IU.out.keep (HB.out.trans (by exact ⟨rfl, rfl, rfl, Nat.le_refl _, fun _ _ => rfl⟩))) (HL.out _ hm.out) (by omega) (by omega) ?_; intro w1 hb1)
      all_goals
        have hbw : Below w.heap.size w w1 := HB.out.trans ((show Below wr.heap.size wr w1 from ⟨hb1.os, hb1.tape, hb1.output, hb1.size, hb1.block⟩).mono HB.out.size)
        have hsz1 : w.heap.size < w1.heap.size := Nat.lt_of_lt_of_le hsz hb1.size
        have p0 : w1.cell? ⟨w.heap.size, 0, none⟩ = some (.slice (some ⟨b, o, none⟩) ss.length cap) := cell_keep hb1 (by simpa using q0)
        clear hb1 c0 c1 c2 c3 c4 c5 c6 c7 q0
        cases hst : stepB ss[k] ss.length
        · have HF : Hid (okB ss = false) := by
            refine HS.out.trans ?_
            rw [List.all_eq_false]
            exact ⟨_, hm.out, by simp [hst]⟩
          rw [HF.out] at HQ
          go_wp2
          exact HQ.out _ hbw
        · go_wp2
          go_roundw
          case rel =>
            refine ⟨k + 1, by omega, by go_num, hbw, hsz1, p0, fun j s hj hs => ?_⟩
            by_cases hjk : j = k
            · subst hjk
              rw [List.getElem?_eq_getElem hkl] at hs
              cases hs
              exact hst
            · exact HALL.out j s (by omega) hs
          case measure => simp [intOf]; omega
    · have HT : Hid (okB ss = true) := by
        refine HS.out.trans ?_
        rw [List.all_eq_true]
        intro s hs
        obtain ⟨j, hj, rfl⟩ := List.mem_iff_getElem.1 hs
        exact HALL.out j _ (by omega) (List.getElem?_eq_getElem hj)
      rw [HT.out] at HQ
      go_wp2
      exact HQ.out _ hb
end Go.Proofs.YtljlgffkhocgkaaDoor
