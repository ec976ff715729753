/- A step of one kind in new memory: where its list lies. -/
import Derived.Test.YtancacjnbbdbfaaFormM
import Derived.Test.YtancacjnbbdbfaaKit
namespace Go.Proofs.Ytancacjnbbdbfaa
open Go.RowKit

theorem newInt (w W : World) (x : Int) (hW : W.heap.size = w.heap.size + 1 + 1) : (W.alloc (.cells #[.int .i64 x] 3)).ownsRow w.heap.size 3 1 (.slice (some ⟨w.heap.size + 1 + 1, 0, none⟩) 1 1) 1 [.int .i64 x] := by
  have h1 := World.ownsRow_lit (base := w.heap.size) (e := 3) (size := 1) W #[.int .i64 x] 1 (by omega) (by decide) (by simp)
  rw [hW] at h1
  simpa using h1

set_option maxHeartbeats 1000000 in
theorem copyStepN_any {Q : Ending → World → Prop} (dst av an x : Int) (w : World)
    (hQ : ∀ g w', w.heap.size ≤ g → w'.ownsRow w.heap.size 3 1 (.slice (some ⟨g, 0, none⟩) 1 1) 1 [.int .i64 x] → Below w.heap.size w w' → Q (.returned (.agg #[.int .i64 2, .int .i64 dst, .int .i64 0, .int .i64 av, .int .i64 an, .int .i64 0, .int .i64 0, .slice (some ⟨g, 0, none⟩) 1 1])) w') :
    Calls Try.prog 64 #[copyV dst av an x] w Q := by
  have HQ : Hid _ := hQ
  clear hQ
  unfold copyV
  go_enter Try.func64, Try.ntmps64
  go_wp2
  refine bodyPost_ret (v := .agg #[.int .i64 2, .int .i64 dst, .int .i64 0, .int .i64 av, .int .i64 an, .int .i64 0, .int .i64 0, .slice (some ⟨w.heap.size + 1 + 1, 0, none⟩) 1 1]) (by simp [results, Try.results64, go_sem]) rfl ?_
  refine HQ.out (w.heap.size + 1 + 1) _ (by omega) (newInt w _ x (by simp)) ?_
  repeat (first | refine Below.alloc ?_ (by first | omega | (simp <;> omega)) _ | exact Below.refl _ _)

set_option maxHeartbeats 1000000 in
theorem skipStepN_any {Q : Ending → World → Prop} (x : Int) (w : World)
    (hQ : ∀ g w', w.heap.size ≤ g → w'.ownsRow w.heap.size 3 1 (.slice (some ⟨g, 0, none⟩) 1 1) 1 [.int .i64 x] → Below w.heap.size w w' → Q (.returned (.agg #[.int .i64 6, .int .i64 0, .int .i64 0, .int .i64 0, .int .i64 0, .int .i64 0, .int .i64 0, .slice (some ⟨g, 0, none⟩) 1 1])) w') :
    Calls Try.prog 66 #[skipV x] w Q := by
  have HQ : Hid _ := hQ
  clear hQ
  unfold skipV
  go_enter Try.func66, Try.ntmps66
  go_wp2
  refine bodyPost_ret (v := .agg #[.int .i64 6, .int .i64 0, .int .i64 0, .int .i64 0, .int .i64 0, .int .i64 0, .int .i64 0, .slice (some ⟨w.heap.size + 1 + 1, 0, none⟩) 1 1]) (by simp [results, Try.results66, go_sem]) rfl ?_
  refine HQ.out (w.heap.size + 1 + 1) _ (by omega) (newInt w _ x (by simp)) ?_
  repeat (first | refine Below.alloc ?_ (by first | omega | (simp <;> omega)) _ | exact Below.refl _ _)
end Go.Proofs.Ytancacjnbbdbfaa
