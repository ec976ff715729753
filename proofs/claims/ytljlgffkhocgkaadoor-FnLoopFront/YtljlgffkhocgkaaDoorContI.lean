/- slices.Contains over numbers. -/
import Derived.Test.YtljlgffkhocgkaaDoorPredsB
import Derived.Test.YtljlgffkhocgkaaDoorKit
namespace Go.Proofs.YtljlgffkhocgkaaDoor
open Go.RowKit

set_option maxHeartbeats 1000000 in
theorem containsInt_any {Q : Ending → World → Prop} (v : Value) (zs : List Int) (x : Int) (w : World) (h : IntsAt w v zs) (hl : zs.length ≤ 1048576)
    (hQ : Q (.returned (.bool (decide (x ∈ zs)))) w) :
    Calls Tryd.prog 95 #[v, .int .i64 x] w Q := by
  have HQ : Hid _ := hQ
  clear hQ
  obtain ⟨ao, b, o, cap, rfl, ha, hc⟩ := h
  have HA : Hid _ := ha
  have HC : Hid _ := hc
  clear ha hc
  have HI : Hid (∀ {Q' : Ending → World → Prop}, (∀ (z : Int), (0 ≤ z ↔ x ∈ zs) → z ≤ 1048576 → Q' (.returned (.int .i64 z)) w) → Calls Tryd.prog 101 #[.slice ao zs.length cap, .int .i64 x] w Q') := by
    intro Q' hQ'
    have HQ' : Hid _ := hQ'
    clear hQ' HQ
    go_enter Tryd.func101, Tryd.ntmps101
    go_wp2
    go_loop [8] (fun i => ∃ k : Nat, k ≤ zs.length ∧ i = .int .i64 k ∧ ∀ j, j < k → zs.getD j 0 ≠ x) (fun i => zs.length - (intOf i).toNat)
    case atStart => exact ⟨0, Nat.zero_le _, rfl, by omega⟩
    case round =>
      obtain ⟨k, hk, rfl, hall⟩ := hrel
      have HALL : Hid _ := hall
      clear hall
      by_cases hkl : k < zs.length
      · have hki : (k : Int) < (zs.length : Int) := by omega
        obtain rfl := HA.out (by omega)
        have c1 := HC.out k hkl
        have HM : Hid _ := mem_of_getD hkl
        have HNE : Hid (zs.getD k 0 ≠ x → ∀ j, j < k + 1 → zs.getD j 0 ≠ x) := by
          intro h1 j hj
          by_cases e : j = k
          · subst e; exact h1
          · exact HALL.out j (by omega)
        generalize zs.getD k 0 = y at *
        by_cases hy : y = x
        · subst hy
          go_wp2
          exact HQ'.out _ ⟨fun _ => HM.out, fun _ => by omega⟩ (by omega)
        · have hy' : ¬ x = y := fun e => hy e.symm
          go_wp2
          go_round
          case rel => exact ⟨k + 1, by omega, by go_num, HNE.out hy⟩
          case measure => simp [intOf]; omega
      · have hki : ¬ (k : Int) < (zs.length : Int) := by omega
        go_wp2
        refine HQ'.out _ ⟨by omega, fun hm => ?_⟩ (by omega)
        obtain ⟨t, ht, e⟩ := mem_getD' hm
        exact absurd e (HALL.out t (by omega))
  clear HC HA
  go_enter Tryd.func95, Tryd.ntmps95
  go_wp2_with fail
  refine HI.out fun z hz hz1 => ?_
  by_cases hm : x ∈ zs
  · have h1 := hz.2 hm
    rw [decide_eq_true hm] at HQ
    clear hz hm
    go_wp2
    exact HQ.out
  · have h1 : ¬ 0 ≤ z := fun h => hm (hz.1 h)
    have h1b : decide (0 ≤ z) = false := by simpa using h1
    rw [decide_eq_false hm] at HQ
    clear hz hm
    go_wp2
    exact HQ.out
end Go.Proofs.YtljlgffkhocgkaaDoor
