/- Two rows of bools that are the same; whether a way leads from a step to a place: the laws' own small functions. The program's contracts of chapter 11 with the reckoning written out. -/
import Derived.Test.YthiafcmeblddbaaGreatDoorRowsO
import Derived.Test.YthiafcmeblddbaaGreatDoorChecked
import Derived.Test.YthiafcmeblddbaaGreatDoorReach
import Derived.Test.YthiafcmeblddbaaGreatDoorBoxUM
import Derived.Test.YthiafcmeblddbaaGreatDoorImplRowM
import Derived.Deep.QuietTactic
import Derived.BigQuiet
namespace Go.Proofs.YthiafcmeblddbaaGreatDoor
open Go.RowKit

set_option maxHeartbeats 1000000 in
theorem lkBools_any {Q : Ending → World → Prop} (u v : Value) (bs : List Bool) (lo hi lo' hi' : Nat) (w : World) (hu : BoolsOwn lo hi w u bs) (hv : BoolsOwn lo' hi' w v bs) (hl : bs.length ≤ 1048576)
    (hQ : ∀ w', Below w.heap.size w w' → Q (.returned (.bool true)) w') :
    Calls Tryz.prog 9 #[u, v] w Q := by
  have HQ : Hid _ := hQ
  clear hQ
  obtain ⟨ao, b, cap, rfl, hc⟩ := hu.read
  obtain ⟨ao', b', cap', rfl, hc'⟩ := hv.read
  have HC : Hid _ := hc
  have HC' : Hid _ := hc'
  clear hc hc' hu hv
  go_enter Tryz.func9, Tryz.ntmps9
  go_wp2
  go_loopw [5] (fun i wr => ∃ k : Nat, k ≤ bs.length ∧ i = .int .i64 k ∧ Below w.heap.size w wr) (fun i _ => bs.length - (intOf i).toNat)
  case atStart => exact ⟨0, Nat.zero_le _, rfl, Below.refl _ _⟩
  case round =>
    obtain ⟨k, hk, rfl, hb⟩ := hrel
    by_cases hkl : k < bs.length
    · obtain ⟨rfl, c1, _, _⟩ := HC.out k hkl
      obtain ⟨rfl, c2, _, _⟩ := HC'.out k hkl
      have d1 := cell_keep hb c1
      have d2 := cell_keep hb c2
      have hki : (k : Int) < (bs.length : Int) := by omega
      generalize bs.getD k false = x at *
      clear c1 c2
      cases x
      all_goals
        go_wp2_with fail
        go_quiet (fail)
        go_wp2
        go_roundw
        case rel => exact ⟨k + 1, by omega, by go_num, below_drewN hb _⟩
        case measure => simp [intOf]; omega
    · go_wp2
      exact HQ.out _ hb

end Go.Proofs.YthiafcmeblddbaaGreatDoor
namespace Go.Proofs.YthiafcmeblddbaaGreatDoor
open Go.RowKit

theorem implComp_u {Q : Ending → World → Prop} (v : Value) (ss : List St) (e : E5) (w : World) (h : StepsAt w v ss) (hT : Tab w) (hg : 0 < w.heap.size) (hl : ss.length ≤ 1048576) (hls : ∀ s ∈ ss, s.next.length ≤ 1048576)
    (hQ : ∀ v' rs w', Below w.heap.size w w' → RowOr compB ss e rs → w'.ownsRow w.heap.size 4 1 v' rs.length (rs.map Value.bool) → Q (.returned v') w') :
    Calls Tryz.prog 11 #[.agg #[v], .agg #[.int .i64 e.op, .int .i64 e.av, .int .i64 e.an, .int .i64 e.bv, .int .i64 e.bn]] w Q := implComp_any v ss e w h hT hg hl hls hQ

theorem implKeeps_u {Q : Ending → World → Prop} (v : Value) (ss : List St) (e : E5) (w : World) (h : StepsAt w v ss) (hT : Tab w) (hg : 0 < w.heap.size) (hl : ss.length ≤ 1048576) (hls : ∀ s ∈ ss, s.next.length ≤ 1048576)
    (hQ : ∀ v' rs w', Below w.heap.size w w' → RowOr keepB ss e rs → w'.ownsRow w.heap.size 4 1 v' rs.length (rs.map Value.bool) → Q (.returned v') w') :
    Calls Tryz.prog 12 #[.agg #[v], .agg #[.int .i64 e.op, .int .i64 e.av, .int .i64 e.an, .int .i64 e.bv, .int .i64 e.bn]] w Q := implKeeps_any v ss e w h hT hg hl hls hQ
end Go.Proofs.YthiafcmeblddbaaGreatDoor
