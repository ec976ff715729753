/- The model's l2Goes. -/
import Derived.Test.YtljlgffkhocgkaaDoorPredsB
import Derived.Test.YtljlgffkhocgkaaDoorPreds
import Derived.Test.YtljlgffkhocgkaaDoorKit
namespace Go.Proofs.YtljlgffkhocgkaaDoor
open Go.RowKit

set_option maxHeartbeats 1000000 in
theorem l2Goes_any {Q : Ending → World → Prop} (nv : Value) (s : St) (to : Int) (w : World) (h : IntsAt w nv s.next) (hl : s.next.length ≤ 1048576)
    (hQ : ∀ w', Below w.heap.size w w' → Q (.returned (.bool (decide (to ∈ s.next)))) w') :
    Calls Tryd.prog 67 #[stepV s nv, .int .i64 to] w Q := by
  have HQ : Hid _ := hQ
  clear hQ
  obtain ⟨ao, b, o, cap, rfl, ha, hc⟩ := h
  have HA : Hid _ := ha
  have HC : Hid _ := hc
  clear ha hc
  have hb0 : ∀ O, Below w.heap.size w (w.alloc O) := fun O => (Below.refl _ _).alloc (Nat.le_refl _) O
  unfold stepV
  go_enter Tryd.func67, Tryd.ntmps67
  go_wp2
  go_loop [5] (fun i => ∃ k : Nat, k ≤ s.next.length ∧ i = .int .i64 k ∧ ∀ j, j < k → s.next.getD j 0 ≠ to) (fun i => s.next.length - (intOf i).toNat)
  case atStart => exact ⟨0, Nat.zero_le _, rfl, by omega⟩
  case round =>
    obtain ⟨k, hk, rfl, hall⟩ := hrel
    have HALL : Hid _ := hall
    clear hall
    by_cases hkl : k < s.next.length
    · have hki : (k : Int) < (s.next.length : Int) := by omega
      obtain rfl := HA.out (by omega)
      have c1 := cell_keep (hb0 (.cells #[.int .i64 s.kind, .int .i64 s.dst, .int .i64 s.op, .int .i64 s.av, .int .i64 s.an, .int .i64 s.bv, .int .i64 s.bn, .slice (some ⟨b, o, none⟩) s.next.length cap] 62)) (HC.out k hkl)
      have HM : Hid _ := mem_of_getD hkl
      have HNE : Hid (s.next.getD k 0 ≠ to → ∀ j, j < k + 1 → s.next.getD j 0 ≠ to) := by
        intro h1 j hj
        by_cases e : j = k
        · subst e; exact h1
        · exact HALL.out j (by omega)
      generalize s.next.getD k 0 = x at *
      by_cases hx : x = to
      · subst hx
        rw [decide_eq_true HM.out] at HQ
        go_wp2
        exact HQ.out _ (hb0 _)
      · go_wp2
        go_round
        case rel => exact ⟨k + 1, by omega, by go_num, HNE.out hx⟩
        case measure => simp [intOf]; omega
    · have hki : ¬ (k : Int) < (s.next.length : Int) := by omega
      have hno : ¬ to ∈ s.next := by
        intro hm
        obtain ⟨t, ht, e⟩ := mem_getD' hm
        exact HALL.out t (by omega) e
      rw [decide_eq_false hno] at HQ
      clear hno
      go_wp2
      exact HQ.out _ (hb0 _)
end Go.Proofs.YtljlgffkhocgkaaDoor
