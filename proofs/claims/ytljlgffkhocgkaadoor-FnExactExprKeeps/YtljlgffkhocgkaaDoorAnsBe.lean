/- Answers that are bools: held against each other, marked, and found as they were marked. -/
import Derived.Test.YtljlgffkhocgkaaDoorRowsO
import Derived.Test.YtljlgffkhocgkaaDoorChecked
import Derived.Deep.QuietTactic
import Derived.BigQuiet
namespace Go.Proofs.YtljlgffkhocgkaaDoor
open Go.RowKit

set_option maxHeartbeats 1000000 in
theorem eqBoolS_any {Q : Ending → World → Prop} (u v : Value) (bs : List Bool) (lo hi lo' hi' : Nat) (w : World) (hu : BoolsOwn lo hi w u bs) (hv : BoolsOwn lo' hi' w v bs) (hl : bs.length ≤ 1048576)
    (hQ : ∀ w', Below w.heap.size w w' → Q (.returned (.bool true)) w') :
    Calls Tryd.prog 11 #[u, v] w Q := by
  have HQ : Hid _ := hQ
  clear hQ
  obtain ⟨ao, b, cap, rfl, hc⟩ := hu.read
  obtain ⟨ao', b', cap', rfl, hc'⟩ := hv.read
  have HC : Hid _ := hc
  have HC' : Hid _ := hc'
  clear hc hc' hu hv
  go_enter Tryd.func11, Tryd.ntmps11
  go_wp2
  go_loopw [5] (fun i wr => ∃ k : Nat, k ≤ bs.length ∧ i = .int .i64 k ∧ Below w.heap.size w wr) (fun i _ => bs.length - (intOf i).toNat)
  case atStart => exact ⟨0, Nat.zero_le _, rfl, Below.refl _ _⟩
  case round =>
    obtain ⟨k, hk, rfl, hb⟩ := hrel
    by_cases hkl : k < bs.length
    · obtain ⟨rfl, c1, _, _⟩ := HC.out k hkl
      obtain ⟨rfl, c2, _, _⟩ := HC'.out k hkl
      have d1 := cell_keep hb c1
      have d2 := cell_keep hb c2
      have hki : (k : Int) < (bs.length : Int) := by omega
      generalize bs.getD k false = x at *
      clear c1 c2
      cases x
      all_goals
        go_wp2_with fail
        go_quiet (fail)
        go_wp2
        go_roundw
        case rel => exact ⟨k + 1, by omega, by go_num, below_drewN hb _⟩
        case measure => simp [intOf]; omega
    · go_wp2
      exact HQ.out _ hb
end Go.Proofs.YtljlgffkhocgkaaDoor
