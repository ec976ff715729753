/- An argument of the laws' own type Expr, opened. -/
import Derived.Test.YtljlgffkhocgkaaDoorOpen
import Derived.Test.YtljlgffkhocgkaaDoorExprP
namespace Go.Proofs.YtljlgffkhocgkaaDoor
open Go.RowKit Go.ChangeShapes Go.WideShapes Go.ChangeAt

theorem cellsExpr : Tryd.prog.cellsOf 28 = 5 := by kernel_rfl

section
variable {H : Type} {enc : TypeId × Value → H} {w : World} {base : Nat} {spare : Nat → Bool} {held : Bool}

set_option maxRecDepth 100000 in
theorem open_exprL {fuel : Nat} {cs : List Value} {x : DataW H × List MemPlace} (h : DataW.trod enc Tryd.prog w base spare held fuel 28 cs = some x) :
    ∃ e : E5, cs = [.int .i64 e.op, .int .i64 e.av, .int .i64 e.an, .int .i64 e.bv, .int .i64 e.bn] := by
  obtain ⟨xs, m, _, _, hlen, hxs, hf⟩ := DataW.trod_struct Tryd.underlying28 h
  rw [cellsExpr] at hlen
  match cs, hlen with
  | [c0, c1, c2, c3, c4], _ =>
    have h0 : DataW.trod enc Tryd.prog w base spare held m 3 (([c0, c1, c2, c3, c4].drop 0).take (Tryd.prog.cellsOf 3)) = xs[0]? := hf 0 _ rfl
    have h1 : DataW.trod enc Tryd.prog w base spare held m 26 (([c0, c1, c2, c3, c4].drop 1).take (Tryd.prog.cellsOf 26)) = xs[1]? := hf 1 _ rfl
    have h2 : DataW.trod enc Tryd.prog w base spare held m 26 (([c0, c1, c2, c3, c4].drop 3).take (Tryd.prog.cellsOf 26)) = xs[2]? := hf 2 _ rfl
    simp only [cellsInt, cellsOpnd, List.drop_zero, List.drop_succ_cons, List.take_succ_cons, List.take_zero] at h0 h1 h2
    rw [List.getElem?_eq_getElem (by rw [hxs]; simp)] at h0 h1 h2
    obtain ⟨a, e0, _⟩ := DataW.trod_int Tryd.underlying3 h0
    obtain ⟨av, an, e1⟩ := open_opnd h1
    obtain ⟨bv, bn, e2⟩ := open_opnd h2
    simp at e0 e1 e2
    exact ⟨⟨a, av, an, bv, bn⟩, by rw [e0, e1.1, e1.2, e2.1, e2.2]⟩

set_option maxRecDepth 100000 in
theorem open_expr {v : Value} {d : DataW H} {ps : List MemPlace} {b0 : Nat} (hv : Value.okWide Tryd.prog w .any b0 28 v) (h : DataW.Trod enc Tryd.prog w base spare held 28 v d ps) : ∃ e : E5, v = exV e := by
  obtain ⟨fuel, hf⟩ := h
  obtain ⟨cs, rfl, hsz⟩ := okWide_struct Tryd.underlying28 hv
  obtain ⟨e, he⟩ := open_exprL hf
  refine ⟨e, ?_⟩
  obtain ⟨l⟩ := cs
  simp only [Value.cells] at he
  unfold exV
  rw [he]
end
end Go.Proofs.YtljlgffkhocgkaaDoor
