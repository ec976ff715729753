/- Two rows of numbers that are the same: the laws' own small function. -/
import Derived.Test.YtblagfndeffilaaBase
import Derived.Test.YtblagfndeffilaaChecked
import Derived.Deep.QuietTactic
import Derived.BigQuiet
namespace Go.Proofs.Ytblagfndeffilaa
open Go.RowKit

set_option maxHeartbeats 1000000 in
theorem lkInts_any {Q : Ending → World → Prop} (u v : Value) (zs : List Int) (w : World) (hu : IntsAt w u zs) (hv : IntsAt w v zs) (hl : zs.length ≤ 1048576)
    (hQ : ∀ w', Below w.heap.size w w' → Q (.returned (.bool true)) w') :
    Calls Try.prog 23 #[u, v] w Q := by
  have HQ : Hid _ := hQ
  clear hQ
  obtain ⟨ao, b, o, cap, rfl, ha, hc⟩ := hu
  obtain ⟨ao', b', o', cap', rfl, ha', hc'⟩ := hv
  have HA : Hid _ := ha
  have HA' : Hid _ := ha'
  have HC : Hid _ := hc
  have HC' : Hid _ := hc'
  clear hc hc' ha ha'
  go_enter Try.func23, Try.ntmps23
  go_wp2
  go_loopw [5] (fun i wr => ∃ k : Nat, k ≤ zs.length ∧ i = .int .i64 k ∧ Below w.heap.size w wr) (fun i _ => zs.length - (intOf i).toNat)
  case atStart => exact ⟨0, Nat.zero_le _, rfl, Below.refl _ _⟩
  case round =>
    obtain ⟨k, hk, rfl, hb⟩ := hrel
    by_cases hkl : k < zs.length
    · obtain rfl := HA.out (by omega)
      obtain rfl := HA'.out (by omega)
      have c1 := HC.out k hkl
      have c2 := HC'.out k hkl
      have d1 := cell_keep hb c1
      have d2 := cell_keep hb c2
      have hki : (k : Int) < (zs.length : Int) := by omega
      generalize zs.getD k 0 = x at *
      clear c1 c2
      go_wp2_with fail
      go_quiet (fail)
      go_wp2
      go_roundw
      case rel => exact ⟨k + 1, by omega, by go_num, below_drewN hb _⟩
      case measure => simp [intOf]; omega
    · go_wp2
      exact HQ.out _ hb
end Go.Proofs.Ytblagfndeffilaa
