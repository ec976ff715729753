/- Two operands held against each other. -/
import Derived.Test.YthaiiegofofnmaaDoorSpecEH
namespace Go.Proofs.YthaiiegofofnmaaDoor
open Go.RowKit Go.Maps

theorem wideO : (match Tryd.prog.underlying 30 with | some (.array _ _) | some (.struct _) => true | _ => false) = true := by kernel_rfl
theorem keyTypeO : Tryd.prog.keyType 30 = true := by kernel_rfl
theorem rowO : (30 : TypeId) < Tryd.prog.types.size := of_decide_eq_true (by kernel_rfl)
set_option maxRecDepth 100000 in
theorem lawO : Keyed Tryd.prog 30 := Keyed.of_law (deep_law_laid laidOutK (m := 4) (by omega) rowO (by kernel_rfl) wideO)

theorem keyO {a b : Int} (h1 : -1 ≤ a) (h2 : a ≤ 65535) (h3 : -1 ≤ b) (h4 : b ≤ 65535) : keyOf Tryd.prog 30 (.agg #[.int .i64 a, .int .i64 b]) = some (.string (keyBytes [.int .i64 a, .int .i64 b])) := by
  have w0 := wf_small h1 h2
  have w1 := wf_small h3 h4
  obtain ⟨m, hm⟩ := typesE
  unfold keyOf
  simp only [Tryd.underlying30]
  rw [if_pos (by simp [keyTypeO, Value.formed, Tryd.underlying30, cellsO]), hm]
  have k := keyLitsO (m + 1) w0 w1
  simp [Value.cells, k]

theorem keyO_inj {a b c d : Int} (ha : -1 ≤ a ∧ a ≤ 65535) (hb : -1 ≤ b ∧ b ≤ 65535) (hc : -1 ≤ c ∧ c ≤ 65535) (hd : -1 ≤ d ∧ d ≤ 65535) (k : (Lit.string (keyBytes [.int .i64 a, .int .i64 b])) = .string (keyBytes [.int .i64 c, .int .i64 d])) : a = c ∧ b = d := by
  have h1 := lawO.inj (keyO ha.1 ha.2 hb.1 hb.2) (by rw [k]; exact keyO hc.1 hc.2 hd.1 hd.2)
  simpa using h1

set_option maxRecDepth 100000 in
theorem equalO {a b c d : Int} (ha : -1 ≤ a ∧ a ≤ 65535) (hb : -1 ≤ b ∧ b ≤ 65535) (hc : -1 ≤ c ∧ c ≤ 65535) (hd : -1 ≤ d ∧ d ≤ 65535) (w : World) : (Op.equal 30 (.agg #[.int .i64 a, .int .i64 b]) (.agg #[.int .i64 c, .int .i64 d])).run Tryd.prog w = .ok (decide (a = c ∧ b = d)) w := by
  obtain ⟨r, hr, hi⟩ := run_equal_deep w (m := 4) (by omega) (by kernel_rfl) wideO (keyO ha.1 ha.2 hb.1 hb.2) (keyO hc.1 hc.2 hd.1 hd.2)
  have e : r = decide (a = c ∧ b = d) := by
    cases r with
    | true => exact (decide_eq_true (keyO_inj ha hb hc hd (hi.1 rfl))).symm
    | false =>
      refine (decide_eq_false fun q => ?_).symm
      obtain ⟨rfl, rfl⟩ := q
      have := hi.2 rfl
      cases this
  rw [← e]
  exact hr

theorem guardRunO (x y : Operand) (u u2 : Array Value) (w : World) : (Go.eqGuard .eql 30 x y (.agg u) (.agg u2)).run Tryd.prog w = .ok () w := by
  unfold Go.eqGuard
  simp [Sem.run_bind, Sem.run_pure]

theorem binRunO {a b c d : Int} (ha : -1 ≤ a ∧ a ≤ 65535) (hb : -1 ≤ b ∧ b ≤ 65535) (hc : -1 ≤ c ∧ c ≤ 65535) (hd : -1 ≤ d ∧ d ≤ 65535) (w : World) : (Go.binOp .eql 30 (.agg #[.int .i64 a, .int .i64 b]) (.agg #[.int .i64 c, .int .i64 d])).run Tryd.prog w = .ok (.bool (decide (a = c ∧ b = d))) w := by
  unfold Go.binOp
  simp [equalO ha hb hc hd w]
end Go.Proofs.YthaiiegofofnmaaDoor
