/- When a reckoning is ok: the program's ExprOk and the model's; toExpr. -/
import Derived.Test.YtljlgffkhocgkaaDoorExprP
import Derived.Test.YtljlgffkhocgkaaDoorImplLeaf
import Derived.Test.YtljlgffkhocgkaaDoorSpec
namespace Go.Proofs.YtljlgffkhocgkaaDoor
open Go.RowKit

set_option maxHeartbeats 1000000 in
theorem implExprOk_any {Q : Ending → World → Prop} (e : E5) (w : World)
    (hQ : ∀ w', Below w.heap.size w w' → Q (.returned (.bool (exprB e))) w') :
    Calls Tryd.prog 32 #[exV e] w Q := by
  have HQ : Hid _ := hQ
  clear hQ
  unfold exV
  have hb0 : ∀ O, Below w.heap.size w (w.alloc O) := fun O => (Below.refl _ _).alloc (Nat.le_refl _) O
  have e0 : exprB e = (inB e.op 1 4 && opndB e.av e.an && opndB e.bv e.bn) := rfl
  rw [e0] at HQ
  go_enter Tryd.func32, Tryd.ntmps32
  go_wp2_with fail
  refine isOp_any _ _ ?_
  cases hA : inB e.op 1 4 <;> rw [hA] at HQ
  · go_wp2
    exact HQ.out _ (hb0 _)
  · go_wp2_with fail
    refine isOpnd_any _ _ _ ?_
    cases hB : opndB e.av e.an <;> rw [hB] at HQ
    · go_wp2
      exact HQ.out _ ((hb0 _).alloc (by simp) _)
    · go_wp2_with fail
      refine isOpnd_any _ _ _ ?_
      cases hC : opndB e.bv e.bn <;> rw [hC] at HQ
      all_goals
        go_wp2
        exact HQ.out _ (((hb0 _).alloc (by simp) _).alloc (by simp; omega) _)

set_option maxHeartbeats 1000000 in
theorem specExprOk_any {Q : Ending → World → Prop} (e : E5) (w : World)
    (hQ : ∀ w', Below w.heap.size w w' → Q (.returned (.bool (exprB e))) w') :
    Calls Tryd.prog 27 #[exV e] w Q := by
  have HQ : Hid _ := hQ
  clear hQ
  unfold exV
  have hb0 : ∀ O, Below w.heap.size w (w.alloc O) := fun O => (Below.refl _ _).alloc (Nat.le_refl _) O
  have e0 : exprB e = (inB e.op 1 4 && opndB e.av e.an && opndB e.bv e.bn) := rfl
  rw [e0] at HQ
  go_enter Tryd.func27, Tryd.ntmps27
  go_wp2_with fail
  refine l6In_any _ _ _ _ ?_
  cases hA : inB e.op 1 4 <;> rw [hA] at HQ
  · go_wp2
    exact HQ.out _ (hb0 _)
  · go_wp2_with fail
    refine l1Opnd_any _ _ _ ?_
    cases hB : opndB e.av e.an <;> rw [hB] at HQ
    · go_wp2
      exact HQ.out _ ((hb0 _).alloc (by simp) _)
    · go_wp2_with fail
      refine l1Opnd_any _ _ _ ?_
      cases hC : opndB e.bv e.bn <;> rw [hC] at HQ
      all_goals
        go_wp2
        exact HQ.out _ (((hb0 _).alloc (by simp) _).alloc (by simp; omega) _)
end Go.Proofs.YtljlgffkhocgkaaDoor
