/-
  At every reckoning ExprOk answers as the model does: the law FnExactExprOk answers true. No condition.
-/
import Derived.Test.YtdgghpklhkgknaaRows
import Derived.Test.YtdgghpklhkgknaaExprO
import Derived.Test.YtdgghpklhkgknaaToE
import Derived.Test.YtdgghpklhkgknaaOpenE
import Derived.OpenShut
import Derived.ShutString
import Derived.ChangeOld
import Derived.Below
import Derived.ChangeShapes
import Derived.ProofKit
namespace Go.Proofs.Ytdgghpklhkgknaa
open Go.ChangeShapes Go.WideShapes Go.ChangeAt Go.RowKit

theorem own : ownKnob Try.prog.godebug = none := by kernel_rfl
theorem laidOut : laidOutB Try.prog = true := by kernel_rfl

set_option maxHeartbeats 1000000 in
theorem law_walk (e : E5) (w : World) {Q : Ending → World → Prop} (hQ : ∀ w', Below w.heap.size w w' → Q (.returned (.bool true)) w') :
    Calls Try.prog 3 #[exV e] w Q := by
  have HQ : Hid _ := hQ
  clear hQ
  have hex : exV e = .agg #[.int .i64 e.op, .int .i64 e.av, .int .i64 e.an, .int .i64 e.bv, .int .i64 e.bn] := rfl
  have HEX : Hid (exV e = .agg #[.int .i64 e.op, .int .i64 e.av, .int .i64 e.an, .int .i64 e.bv, .int .i64 e.bn]) := rfl
  have hb0 : ∀ O, Below w.heap.size w (w.alloc O) := fun O => (Below.refl _ _).alloc (Nat.le_refl _) O
  rw [hex]
  clear hex
  go_enter Try.func3, Try.ntmps3
  go_wp2_with fail
  rw [← HEX.out]
  refine toExpr_any e _ fun w1 hb1 => ?_
  have x0 : w1.cell? ⟨w.heap.size, 0, none⟩ = some (.int .i64 e.op) := cell_keep hb1 (by simp [go_sem])
  have x1 : w1.cell? ⟨w.heap.size, 1, none⟩ = some (.int .i64 e.av) := cell_keep hb1 (by simp [go_sem])
  have x2 : w1.cell? ⟨w.heap.size, 2, none⟩ = some (.int .i64 e.an) := cell_keep hb1 (by simp [go_sem])
  have x3 : w1.cell? ⟨w.heap.size, 3, none⟩ = some (.int .i64 e.bv) := cell_keep hb1 (by simp [go_sem])
  have x4 : w1.cell? ⟨w.heap.size, 4, none⟩ = some (.int .i64 e.bn) := cell_keep hb1 (by simp [go_sem])
  have hbA : Below w.heap.size w w1 := (hb0 _).trans (hb1.mono (by simp))
  clear hb1 hb0
  rw [HEX.out]
  go_wp2_with fail
  rw [← HEX.out]
  refine specExprOk_any e _ fun w2 hb2 => ?_
  have y0 := cell_keep hb2 x0
  have y1 := cell_keep hb2 x1
  have y2 := cell_keep hb2 x2
  have y3 := cell_keep hb2 x3
  have y4 := cell_keep hb2 x4
  have hbB : Below w.heap.size w w2 := hbA.trans (hb2.mono hbA.size)
  clear hb2 hbA x0 x1 x2 x3 x4
  rw [HEX.out]
  go_wp2_with fail
  rw [← HEX.out]
  refine toExpr_any e _ fun w3 hb3 => ?_
  have hbC : Below w.heap.size w w3 := hbB.trans (hb3.mono hbB.size)
  clear hb3 hbB y0 y1 y2 y3 y4
  rw [HEX.out]
  go_wp2_with fail
  rw [← HEX.out]
  refine implExprOk_any e _ fun w4 hb4 => ?_
  have hbD : Below w.heap.size w w4 := hbC.trans (hb4.mono hbC.size)
  clear hb4 hbC
  cases exprB e
  all_goals
    go_wp2
    exact HQ.out _ hbD

set_option maxRecDepth 100000 in
theorem law_lifted (os : Os) (started : os.Started) (H : Type) (enc : TypeId × Value → H) :
    ReturnsInHanded {} Try.checked os 3 .any (Rows.fnExactExprOkSpec.pre6 enc Try.prog Try.f3 Rows.fnExactExprOkRow.domain false) (Rows.fnExactExprOkSpec.post enc Try.prog Try.f3 false true false false) := by
  refine returnsInHanded_of_change (C := Try.checked) own started (by kernel_rfl) Try.func3
    (ChangeSpec.witness6 (enc := enc) (C := Try.checked) false ⟨#[], #[.agg #[.int .i64 0, .int .i64 0, .int .i64 0, .int .i64 0, .int .i64 0]], []⟩ 8 (by kernel_rfl) (by kernel_rfl) (by kernel_rfl) (by kernel_rfl)) ?_
  intro W base args ds gs before hval0 hW hcnd _
  have hval : ∀ (j : Nat) t v, Try.f3.params[j]? = some t → args[j]? = some v → Value.okWide Try.prog W .any base t v := hval0
  have hW' := hW
  obtain ⟨p, q, hA0, hV, rfl, hfz, hnd⟩ := hW
  have hA : DataW.TrodAll enc Try.prog W 0 (fun _ => true) true Try.f3.params.toList args.toList ds p := hA0
  rw [Try.params3] at hA hval
  obtain ⟨v0, vs0, d0, ds0, p0, q0, hargs, rfl, rfl, h0, r0⟩ := trodAll_cons hA
  obtain ⟨rfl, rfl, rfl⟩ := trodAll_nil r0
  obtain rfl : args = #[v0] := by cases args; simp_all
  obtain ⟨rfl, rfl⟩ := trodVars_none hV
  have k0 := h0
  have lt0 : ∀ x ∈ p0, x.block < W.heap.size := by obtain ⟨m, hm⟩ := k0; exact DataW.trod_lt m _ _ _ hm
  obtain ⟨e, hv0⟩ := open_expr (hval 0 25 v0 rfl rfl) h0
  subst hv0
  clear hA0 hval0
  refine law_walk e W fun W' bel => ?_
  exact ⟨_, rfl, _, _, _, [], _, [], hW', trodAll_mk1 (shut_bool Try.underlying4 _), (trodAll_cons_mk (Below.trod laidOut (by kernel_rfl) (of_decide_eq_true (by kernel_rfl)) k0 bel lt0) trodAll_mk0), rfl, bel.frame _, fun h => by cases h⟩

theorem fnExactExprOk_holds : Rows.FnExactExprOkSaid :=
  OpenClaim.holds_of_wide 3 Try.f3 rfl rfl rfl rfl rfl rfl rfl ⟨rfl, rfl, rfl, rfl, rfl⟩ rfl rfl rfl rfl rfl (by kernel_rfl) Try.func3 (by kernel_rfl)
    (of_decide_eq_true (by kernel_rfl)) (by unfold Func.isWrapper; first | (rw [if_pos (by decide +kernel)]; kernel_rfl) | (rw [if_neg (by decide +kernel)]; exact ⟨rfl, rfl⟩))
    (fun os started H enc _ => law_lifted os started H enc)
#print axioms fnExactExprOk_holds
end Go.Proofs.Ytdgghpklhkgknaa
