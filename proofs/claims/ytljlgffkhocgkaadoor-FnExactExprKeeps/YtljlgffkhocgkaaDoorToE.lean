/- What toExpr gives: the same reckoning. -/
import Derived.Test.YtljlgffkhocgkaaDoorExprP
import Derived.Test.YtljlgffkhocgkaaDoorTo
namespace Go.Proofs.YtljlgffkhocgkaaDoor
open Go.RowKit

set_option maxHeartbeats 1000000 in
theorem toExpr_any {Q : Ending → World → Prop} (e : E5) (w : World)
    (hQ : ∀ w', Below w.heap.size w w' → Q (.returned (exV e)) w') :
    Calls Tryd.prog 9 #[exV e] w Q := by
  have HQ : Hid _ := hQ
  clear hQ
  have hex : exV e = .agg #[.int .i64 e.op, .int .i64 e.av, .int .i64 e.an, .int .i64 e.bv, .int .i64 e.bn] := rfl
  rw [hex] at HQ ⊢
  clear hex
  go_enter Tryd.func9, Tryd.ntmps9
  go_wp2_with fail
  refine toOpnd_any _ _ _ ?_
  go_wp2_with fail
  refine toOpnd_any _ _ _ ?_
  go_wp2
  refine bodyPost_ret (v := .agg #[.int .i64 e.op, .int .i64 e.av, .int .i64 e.an, .int .i64 e.bv, .int .i64 e.bn]) (by simp [results, Tryd.results9, go_sem]) rfl ?_
  refine HQ.out _ ?_
  repeat (first | exact Below.refl _ _ | refine Below.alloc ?_ (by simp <;> omega) _)
end Go.Proofs.YtljlgffkhocgkaaDoor
