/- Two reckonings held against each other. -/
import Derived.Test.YtljlgffkhocgkaaImplER
namespace Go.Proofs.Ytljlgffkhocgkaa
open Go.RowKit Go.Maps

set_option maxRecDepth 100000 in
theorem guardE : Try.prog.eqGuardType Try.prog.depth 38 = false := by kernel_rfl

set_option maxRecDepth 100000 in
theorem equalE {a b : E5} (ha : exprB a = true) (hb : exprB b = true) (w : World) : (Op.equal 38 (.agg #[.int .i64 a.op, .int .i64 a.av, .int .i64 a.an, .int .i64 a.bv, .int .i64 a.bn]) (.agg #[.int .i64 b.op, .int .i64 b.av, .int .i64 b.an, .int .i64 b.bv, .int .i64 b.bn])).run Try.prog w = .ok (decide (a = b)) w := by
  obtain ⟨r, hr, hi⟩ := run_equal_deep w (m := 4) (by omega) (by kernel_rfl) wideE (keyE ha) (keyE hb)
  have e : r = decide (a = b) := by
    cases r with
    | true => exact (decide_eq_true (klE_inj ha hb (hi.1 rfl))).symm
    | false =>
      refine (decide_eq_false fun q => ?_).symm
      subst q
      have := hi.2 rfl
      cases this
  rw [← e]
  exact hr

theorem guardRun (x y : Operand) (u u2 : Array Value) (w : World) : (Go.eqGuard .eql 38 x y (.agg u) (.agg u2)).run Try.prog w = .ok () w := by
  unfold Go.eqGuard
  simp [Sem.run_bind, Sem.run_pure]

theorem binRun {a b : E5} (ha : exprB a = true) (hb : exprB b = true) (w : World) : (Go.binOp .eql 38 (.agg #[.int .i64 a.op, .int .i64 a.av, .int .i64 a.an, .int .i64 a.bv, .int .i64 a.bn]) (.agg #[.int .i64 b.op, .int .i64 b.av, .int .i64 b.an, .int .i64 b.bv, .int .i64 b.bn])).run Try.prog w = .ok (.bool (decide (a = b))) w := by
  unfold Go.binOp
  simp [equalE ha hb w]

theorem flat_get {es : List E5} : ∀ {i : Nat} (hi : i < es.length) (j : Nat) (_ : j < 5), (es.flatMap exC)[i * 5 + j]? = (exC es[i])[j]? := by
  induction es with
  | nil => intro i hi; simp at hi
  | cons x r ih =>
    intro i hi j hj
    rw [List.flatMap_cons]
    cases i with
    | zero =>
      rw [List.getElem?_append_left (by simp [exC]; omega)]
      simp
    | succ i =>
      rw [List.getElem?_append_right (by simp [exC]; omega)]
      have e : (i + 1) * 5 + j - (exC x).length = i * 5 + j := by simp [exC]; omega
      rw [e, ih (by simpa using hi) j hj]
      simp

/-- A list of reckonings in memory, cell by cell. -/
theorem own_exprs {w : World} {lo n : Nat} {v : Value} {es : List E5} (h : w.ownsRow lo 38 5 v n (es.flatMap exC)) (hn : n = es.length) : ∃ A g c, v = .slice A es.length c ∧ (0 < es.length → A = some ⟨g, 0, none⟩) ∧ ∀ (i : Nat) (hi : i < es.length), w.cell? ⟨g, i * 5, none⟩ = some (.int .i64 es[i].op) ∧ w.cell? ⟨g, i * 5 + 1, none⟩ = some (.int .i64 es[i].av) ∧ w.cell? ⟨g, i * 5 + 2, none⟩ = some (.int .i64 es[i].an) ∧ w.cell? ⟨g, i * 5 + 3, none⟩ = some (.int .i64 es[i].bv) ∧ w.cell? ⟨g, i * 5 + 4, none⟩ = some (.int .i64 es[i].bn) := by
  subst hn
  rcases Nat.eq_zero_or_pos es.length with h0 | h0
  · obtain ⟨A, c, hv⟩ := own_form h
    exact ⟨A, 0, c, hv, fun h => by omega, fun i hi => by omega⟩
  · obtain ⟨g, c, hv, _, _⟩ := h.form h0
    subst hv
    refine ⟨_, g, c, rfl, fun _ => rfl, fun i hi => ?_⟩
    have hc := fun j (hj : j < 5) => (h.cellAt (i * 5 + j) (by omega)).trans (flat_get hi j hj)
    exact ⟨by simpa [exC] using hc 0 (by omega), by simpa [exC] using hc 1 (by omega), by simpa [exC] using hc 2 (by omega), by simpa [exC] using hc 3 (by omega), by simpa [exC] using hc 4 (by omega)⟩
end Go.Proofs.Ytljlgffkhocgkaa
