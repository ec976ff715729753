/- Two reckonings held against each other, and the model's l11Has. -/
import Derived.Test.YthaiiegofofnmaaDoorImplER
namespace Go.Proofs.YthaiiegofofnmaaDoor
open Go.RowKit Go.Maps

set_option maxRecDepth 100000 in
theorem guardE : Tryd.prog.eqGuardType Tryd.prog.depth 32 = false := by kernel_rfl

set_option maxRecDepth 100000 in
theorem equalE {a b : E5} (ha : exprB a = true) (hb : exprB b = true) (w : World) : (Op.equal 32 (.agg #[.int .i64 a.op, .int .i64 a.av, .int .i64 a.an, .int .i64 a.bv, .int .i64 a.bn]) (.agg #[.int .i64 b.op, .int .i64 b.av, .int .i64 b.an, .int .i64 b.bv, .int .i64 b.bn])).run Tryd.prog w = .ok (decide (a = b)) w := by
  obtain ⟨r, hr, hi⟩ := run_equal_deep w (m := 4) (by omega) (by kernel_rfl) wideE (keyE ha) (keyE hb)
  have e : r = decide (a = b) := by
    cases r with
    | true => exact (decide_eq_true (klE_inj ha hb (hi.1 rfl))).symm
    | false =>
      refine (decide_eq_false fun q => ?_).symm
      subst q
      have := hi.2 rfl
      cases this
  rw [← e]
  exact hr

theorem guardRun (x y : Operand) (u u2 : Array Value) (w : World) : (Go.eqGuard .eql 32 x y (.agg u) (.agg u2)).run Tryd.prog w = .ok () w := by
  unfold Go.eqGuard
  simp [Sem.run_bind, Sem.run_pure]

theorem binRun {a b : E5} (ha : exprB a = true) (hb : exprB b = true) (w : World) : (Go.binOp .eql 32 (.agg #[.int .i64 a.op, .int .i64 a.av, .int .i64 a.an, .int .i64 a.bv, .int .i64 a.bn]) (.agg #[.int .i64 b.op, .int .i64 b.av, .int .i64 b.an, .int .i64 b.bv, .int .i64 b.bn])).run Tryd.prog w = .ok (.bool (decide (a = b))) w := by
  unfold Go.binOp
  simp [equalE ha hb w]

theorem flat_get {es : List E5} : ∀ {i : Nat} (hi : i < es.length) (j : Nat) (_ : j < 5), (es.flatMap exC)[i * 5 + j]? = (exC es[i])[j]? := by
  induction es with
  | nil => intro i hi; simp at hi
  | cons x r ih =>
    intro i hi j hj
    rw [List.flatMap_cons]
    cases i with
    | zero =>
      rw [List.getElem?_append_left (by simp [exC]; omega)]
      simp
    | succ i =>
      rw [List.getElem?_append_right (by simp [exC]; omega)]
      have e : (i + 1) * 5 + j - (exC x).length = i * 5 + j := by simp [exC]; omega
      rw [e, ih (by simpa using hi) j hj]
      simp

/-- A list of reckonings in memory, cell by cell. -/
theorem own_exprs {w : World} {lo n : Nat} {v : Value} {es : List E5} (h : w.ownsRow lo 32 5 v n (es.flatMap exC)) (hn : n = es.length) : ∃ A g c, v = .slice A es.length c ∧ (0 < es.length → A = some ⟨g, 0, none⟩) ∧ ∀ (i : Nat) (hi : i < es.length), w.cell? ⟨g, i * 5, none⟩ = some (.int .i64 es[i].op) ∧ w.cell? ⟨g, i * 5 + 1, none⟩ = some (.int .i64 es[i].av) ∧ w.cell? ⟨g, i * 5 + 2, none⟩ = some (.int .i64 es[i].an) ∧ w.cell? ⟨g, i * 5 + 3, none⟩ = some (.int .i64 es[i].bv) ∧ w.cell? ⟨g, i * 5 + 4, none⟩ = some (.int .i64 es[i].bn) := by
  subst hn
  rcases Nat.eq_zero_or_pos es.length with h0 | h0
  · obtain ⟨A, c, hv⟩ := own_form h
    exact ⟨A, 0, c, hv, fun h => by omega, fun i hi => by omega⟩
  · obtain ⟨g, c, hv, _, _⟩ := h.form h0
    subst hv
    refine ⟨_, g, c, rfl, fun _ => rfl, fun i hi => ?_⟩
    have hc := fun j (hj : j < 5) => (h.cellAt (i * 5 + j) (by omega)).trans (flat_get hi j hj)
    exact ⟨by simpa [exC] using hc 0 (by omega), by simpa [exC] using hc 1 (by omega), by simpa [exC] using hc 2 (by omega), by simpa [exC] using hc 3 (by omega), by simpa [exC] using hc 4 (by omega)⟩

set_option maxRecDepth 100000 in
set_option maxHeartbeats 1000000 in
theorem l11Has_any {Q : Ending → World → Prop} (v : Value) (es : List E5) (e : E5) (lo : Nat) (w : World) (h : w.ownsRow lo 32 5 v es.length (es.flatMap exC)) (hes : ∀ x ∈ es, exprB x = true) (he : exprB e = true) (hl : es.length ≤ 1000)
    (hQ : ∀ w', Below w.heap.size w w' → Q (.returned (.bool (decide (e ∈ es)))) w') :
    Calls Tryd.prog 30 #[v, exV e] w Q := by
  have HQ : Hid _ := hQ
  clear hQ
  obtain ⟨A, g, c, rfl, ha, hc⟩ := own_exprs h rfl
  have HA : Hid (0 < es.length → A = some ⟨g, 0, none⟩) := ha
  have HC : Hid _ := hc
  have HES : Hid (∀ x ∈ es, exprB x = true) := hes
  have HE : Hid (exprB e = true) := he
  have hex : exV e = .agg #[.int .i64 e.op, .int .i64 e.av, .int .i64 e.an, .int .i64 e.bv, .int .i64 e.bn] := rfl
  have hgE := guardE
  rw [hex]
  clear ha hc hes hex h
  go_enter Tryd.func30, Tryd.ntmps30
  go_wp2
  have hb0 : Below w.heap.size w (w.alloc (.cells #[.int .i64 e.op, .int .i64 e.av, .int .i64 e.an, .int .i64 e.bv, .int .i64 e.bn] 32)) := (Below.refl _ _).alloc (Nat.le_refl _) _
  go_loopw [5] (fun i wr => ∃ k : Nat, k ≤ es.length ∧ i = .int .i64 k ∧ Below (w.heap.size + 1) (w.alloc (.cells #[.int .i64 e.op, .int .i64 e.av, .int .i64 e.an, .int .i64 e.bv, .int .i64 e.bn] 32)) wr ∧ ∀ j (hj : j < es.length), j < k → es[j] ≠ e) (fun i _ => es.length - (intOf i).toNat)
  case atStart => exact ⟨0, Nat.zero_le _, rfl, Below.refl _ _, fun j _ h => by omega⟩
  case round =>
    obtain ⟨k, hk, rfl, hB, hno⟩ := hrel
    have HNO : Hid (∀ j (hj : j < es.length), j < k → es[j] ≠ e) := hno
    have HBW : Hid (Below w.heap.size w wr) := hb0.trans (hB.mono (by omega))
    have HB : Hid (Below (w.heap.size + 1) (w.alloc (.cells #[.int .i64 e.op, .int .i64 e.av, .int .i64 e.an, .int .i64 e.bv, .int .i64 e.bn] 32)) wr) := hB
    have z0 : wr.cell? ⟨w.heap.size, 0, none⟩ = some (.int .i64 e.op) := (hB.cell (p := ⟨w.heap.size, 0, none⟩) (by simp)).trans (by simp [go_sem])
    have z1 : wr.cell? ⟨w.heap.size, 1, none⟩ = some (.int .i64 e.av) := (hB.cell (p := ⟨w.heap.size, 1, none⟩) (by simp)).trans (by simp [go_sem])
    have z2 : wr.cell? ⟨w.heap.size, 2, none⟩ = some (.int .i64 e.an) := (hB.cell (p := ⟨w.heap.size, 2, none⟩) (by simp)).trans (by simp [go_sem])
    have z3 : wr.cell? ⟨w.heap.size, 3, none⟩ = some (.int .i64 e.bv) := (hB.cell (p := ⟨w.heap.size, 3, none⟩) (by simp)).trans (by simp [go_sem])
    have z4 : wr.cell? ⟨w.heap.size, 4, none⟩ = some (.int .i64 e.bn) := (hB.cell (p := ⟨w.heap.size, 4, none⟩) (by simp)).trans (by simp [go_sem])
    clear hno hB
    by_cases hkl : k < es.length
    · have hki : (k : Int) < (es.length : Int) := by omega
      obtain rfl := HA.out (by omega)
      obtain ⟨a0, a1, a2, a3, a4⟩ := HC.out k hkl
      have y0 := cell_keep HBW.out a0
      have y1 := cell_keep HBW.out a1
      have y2 := cell_keep HBW.out a2
      have y3 := cell_keep HBW.out a3
      have y4 := cell_keep HBW.out a4
      have hq := binRun (HES.out _ (List.getElem_mem hkl)) HE.out
      have hg := guardRun (.tmp 15) (.tmp 16) #[.int .i64 es[k].op, .int .i64 es[k].av, .int .i64 es[k].an, .int .i64 es[k].bv, .int .i64 es[k].bn] #[.int .i64 e.op, .int .i64 e.av, .int .i64 e.an, .int .i64 e.bv, .int .i64 e.bn]
      have HKE : Hid (es[k] = e → e ∈ es) := fun q => q ▸ List.getElem_mem hkl
      have HST : Hid (es[k] ≠ e → ∀ j (hj : j < es.length), j < k + 1 → es[j] ≠ e) := fun q j hj h => by
        by_cases e1 : j = k
        · subst e1; exact q
        · exact HNO.out j hj (by omega)
      clear a0 a1 a2 a3 a4
      generalize es[k] = x at *
      go_wp2_with fail
      go_quiet (fail)
      by_cases hx : x = e
      · have HM : Hid (e ∈ es) := HKE.out hx
        rw [show decide (e ∈ es) = true from decide_eq_true HM.out] at HQ
        simp only [hx, decide_true]
        go_wp2
        exact HQ.out _ (below_drewN HBW.out _)
      · have HN : Hid _ := HST.out hx
        simp only [hx, decide_false]
        go_wp2
        go_roundw
        case rel => exact ⟨k + 1, by omega, by go_num, below_drewN HB.out _, HN.out⟩
        case measure => simp [intOf]; omega
    · have hki : ¬ (k : Int) < (es.length : Int) := by omega
      have hno : e ∉ es := fun q => by
        obtain ⟨j, hj, q2⟩ := List.getElem_of_mem q
        exact HNO.out j hj (by omega) q2
      rw [show decide (e ∈ es) = false from decide_eq_false hno] at HQ
      clear hno
      go_wp2
      exact HQ.out _ HBW.out
end Go.Proofs.YthaiiegofofnmaaDoor
