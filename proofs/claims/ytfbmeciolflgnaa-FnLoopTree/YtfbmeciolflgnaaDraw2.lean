/- The model's drawing of operands, reckonings and ways. -/
import Derived.Test.YtfbmeciolflgnaaDraw
import Derived.Deep.RegionWith
namespace Go.Proofs.Ytfbmeciolflgnaa
open Go.RowKit

/-- An operand as it is drawn. -/
def OpndD (v n : Int) : Prop := (v = -1 ∧ 0 ≤ n ∧ n ≤ 65535) ∨ (0 ≤ v ∧ v ≤ 11 ∧ n = 0)

set_option maxHeartbeats 1000000 in
theorem l71Opnd_any {Q : Ending → World → Prop} (rb p : Nat) (w : World) (h : Rd w rb p) (hp : p + 2 ≤ 1000000)
    (hQ : ∀ (v n : Int) (p' : Nat) w', OpndD v n → Rd w' rb p' → p' ≤ p + 2 → Ex rb w w' → Q (.returned (.agg #[.int .i64 v, .int .i64 n])) w') :
    Calls Try.prog 88 #[.pointer (some ⟨rb, 0, none⟩)] w Q := by
  have HQ : Hid _ := hQ
  clear hQ
  have hlt := h.lt
  go_enter Try.func88, Try.ntmps88
  go_wp2_with fail
  refine pick_any rb p _ _ (h.keep ((Below.refl _ _).alloc (Nat.le_refl _) _)) (by omega) (by omega) fun z w1 _ hr1 hx1 => ?_
  have c0 : w1.cell? ⟨w.heap.size, 0, none⟩ = some (.int .i64 0) := hx1.cell (by simp [go_sem]) (by simp; omega)
  have c1 : w1.cell? ⟨w.heap.size, 1, none⟩ = some (.int .i64 0) := hx1.cell (by simp [go_sem]) (by simp; omega)
  have fz : ∀ j, w1.frozen? ⟨w.heap.size, j, none⟩ = false := fun j => (hx1.frozen (by simp) (by simp; omega)).trans (by simp [go_sem])
  have hx : Ex rb w w1 := ((Ex.refl _ _).alloc _).trans hx1
  have hs1 : w.heap.size < w1.heap.size := Nat.lt_of_lt_of_le (by simp) hx1.size
  have HX : Hid _ := hx
  clear hx hx1
  by_cases hz : z = 0
  · subst hz
    go_wp2_with fail
    refine pick_any rb (p + 1) _ _ (hr1.keep ((Below.refl _ _).alloc (Nat.le_refl _) _)) (by omega) (by omega) fun z2 w2 hz2 hr2 hx2 => ?_
    have hc : ∃ m : Int, 0 ≤ m ∧ m ≤ 65535 ∧ w2.cell? ⟨w1.heap.size, z2, none⟩ = some (.int .i64 m) := by
      have h5 : z2 < 5 := by have := hz2 (by omega); omega
      have hne : w1.heap.size ≠ rb := by omega
      rcases (by omega : z2 = 0 ∨ z2 = 1 ∨ z2 = 2 ∨ z2 = 3 ∨ z2 = 4) with rfl | rfl | rfl | rfl | rfl
      · exact ⟨0, by omega, by omega, hx2.cell (by simp [go_sem]) hne⟩
      · exact ⟨1, by omega, by omega, hx2.cell (by simp [go_sem]) hne⟩
      · exact ⟨2, by omega, by omega, hx2.cell (by simp [go_sem]) hne⟩
      · exact ⟨7, by omega, by omega, hx2.cell (by simp [go_sem]) hne⟩
      · exact ⟨65535, by omega, by omega, hx2.cell (by simp [go_sem]) hne⟩
    obtain ⟨m, hm0, hm1, hm⟩ := hc
    have hi5 : (z2 : Int) < 5 := hz2 (by omega)
    have hb1 : Below w1.heap.size w1 (w1.alloc (.cells #[.int .i64 0, .int .i64 1, .int .i64 2, .int .i64 7, .int .i64 65535] 3)) := (Below.refl _ _).alloc (Nat.le_refl _) _
    have c0' := hx2.cell (cell_keep hb1 c0) (by simp; omega)
    have c1' := hx2.cell (cell_keep hb1 c1) (by simp; omega)
    have fz' : ∀ j, w2.frozen? ⟨w.heap.size, j, none⟩ = false := fun j => (hx2.frozen (by simp; omega) (by simp; omega)).trans ((hb1.frozen (by simp; omega)).trans (fz j))
    have HX2 : Hid (Ex rb w w2) := (HX.out.alloc _).trans hx2
    clear hx2 hb1 c0 c1 fz hz2
    go_wp2
    refine bodyPost_ret (v := .agg #[.int .i64 (-1), .int .i64 m]) (by simp [results, Try.results88, go_sem, c0', c1']) rfl ?_
    refine HQ.out (-1) m _ _ (Or.inl ⟨rfl, hm0, hm1⟩) ((hr2.setCell ?_ _).setCell ?_ _) (Nat.le_refl _) ((HX2.out.setCell (Or.inr ?_) _).setCell (Or.inr ?_) _)
    all_goals (simp <;> omega)
  · have hzz : ((z : Int) == 0) = false := by simp; omega
    go_wp2_with fail
    refine pick_any rb (p + 1) _ _ hr1 (by omega) (by omega) fun z2 w2 hz2 hr2 hx2 => ?_
    have c0' := hx2.cell c0 (by simp; omega)
    have c1' := hx2.cell c1 (by simp; omega)
    have fz' : ∀ j, w2.frozen? ⟨w.heap.size, j, none⟩ = false := fun j => (hx2.frozen (by simp; omega) (by simp; omega)).trans (fz j)
    clear c0 c1 fz
    have HX2 : Hid _ := hx2
    clear hx2
    go_wp2
    refine bodyPost_ret (v := .agg #[.int .i64 z2, .int .i64 0]) (by simp [results, Try.results88, go_sem, c0', c1']) rfl ?_
    refine HQ.out z2 0 _ _ (Or.inr ⟨by omega, by have := hz2 (by omega); omega, rfl⟩) ((hr2.setCell ?_ _).setCell ?_ _) (Nat.le_refl _) (((HX.out.trans HX2.out).setCell (Or.inr ?_) _).setCell (Or.inr ?_) _)
    all_goals (simp <;> omega)

set_option maxHeartbeats 1000000 in
theorem l71Next_any {Q : Ending → World → Prop} (rb p at0 n : Nat) (w : World) (h : Rd w rb p) (hp : p + 2 ≤ 1000000) (hn : 0 < n) (hn' : n ≤ 1000) (hat : at0 ≤ 1000)
    (hQ : ∀ (v : Nat) (p' : Nat) w', v < n → Rd w' rb p' → p' ≤ p + 2 → Ex rb w w' → Q (.returned (.int .i64 v)) w') :
    Calls Try.prog 86 #[.pointer (some ⟨rb, 0, none⟩), .int .i64 at0, .int .i64 n] w Q := by
  have HQ : Hid _ := hQ
  clear hQ
  have hlt := h.lt
  go_enter Try.func86, Try.ntmps86
  go_wp2_with fail
  refine pick_any rb p _ _ h (by omega) (by omega) fun z w1 _ hr1 hx1 => ?_
  have HX : Hid _ := hx1
  clear hx1
  by_cases hz : z = 0
  · subst hz
    go_wp2_with fail
    refine pick_any rb (p + 1) _ _ hr1 (by omega) (by omega) fun z2 w2 hz2 hr2 hx2 => ?_
    have HX2 : Hid _ := hx2
    clear hx2
    go_wp2
    exact HQ.out z2 _ _ (by have := hz2 (by omega); omega) hr2 (Nat.le_refl _) (HX.out.trans HX2.out)
  · have hzz : ((z : Int) == 0) = false := by simp; omega
    go_wp2_with fail
    refine pick_any rb (p + 1) _ _ hr1 (by omega) (by omega) fun z2 w2 hz2 hr2 hx2 => ?_
    have h3 : (z2 : Int) < 3 := hz2 (by omega)
    have HX2 : Hid _ := hx2
    clear hx2
    by_cases hto : n ≤ at0 + 1 + z2
    · go_wp2
      obtain ⟨m, rfl⟩ : ∃ m, n = m + 1 := ⟨n - 1, by omega⟩
      have e : ((m + 1 : Nat) : Int) - 1 = (m : Int) := by omega
      first | (rw [e]) | skip
      exact HQ.out m _ _ (by omega) hr2 (Nat.le_refl _) (HX.out.trans HX2.out)
    · go_wp2
      exact HQ.out (at0 + 1 + z2) _ _ (by omega) hr2 (Nat.le_refl _) (HX.out.trans HX2.out)

/-- A reckoning as it is drawn. -/
def ExprD (op av an bv bn : Int) : Prop := 1 ≤ op ∧ op ≤ 4 ∧ OpndD av an ∧ OpndD bv bn

set_option maxHeartbeats 1000000 in
theorem l71Expr_any {Q : Ending → World → Prop} (rb p : Nat) (w : World) (h : Rd w rb p) (hp : p + 6 ≤ 1000000)
    (hQ : ∀ (op av an bv bn : Int) (p' : Nat) w', ExprD op av an bv bn → Rd w' rb p' → p' ≤ p + 6 → Ex rb w w' → Q (.returned (.agg #[.int .i64 op, .int .i64 av, .int .i64 an, .int .i64 bv, .int .i64 bn])) w') :
    Calls Try.prog 87 #[.pointer (some ⟨rb, 0, none⟩)] w Q := by
  have HQ : Hid _ := hQ
  clear hQ
  have hlt := h.lt
  go_enter Try.func87, Try.ntmps87
  go_wp2_with fail
  refine pick_any rb p _ _ (h.keep ((Below.refl _ _).alloc (Nat.le_refl _) _)) (by omega) (by omega) fun z w1 _ hr1 hx1 => ?_
  have c0 : w1.cell? ⟨w.heap.size, 0, none⟩ = some (.int .i64 0) := hx1.cell (by simp [go_sem]) (by simp; omega)
  have c1 : w1.cell? ⟨w.heap.size, 1, none⟩ = some (.int .i64 0) := hx1.cell (by simp [go_sem]) (by simp; omega)
  have c2 : w1.cell? ⟨w.heap.size, 2, none⟩ = some (.int .i64 0) := hx1.cell (by simp [go_sem]) (by simp; omega)
  have c3 : w1.cell? ⟨w.heap.size, 3, none⟩ = some (.int .i64 0) := hx1.cell (by simp [go_sem]) (by simp; omega)
  have c4 : w1.cell? ⟨w.heap.size, 4, none⟩ = some (.int .i64 0) := hx1.cell (by simp [go_sem]) (by simp; omega)
  have fz : ∀ j, w1.frozen? ⟨w.heap.size, j, none⟩ = false := fun j => (hx1.frozen (by simp) (by simp; omega)).trans (by simp [go_sem])
  have hx : Ex rb w w1 := ((Ex.refl _ _).alloc _).trans hx1
  have hs1 : w.heap.size < w1.heap.size := Nat.lt_of_lt_of_le (by simp) hx1.size
  have HX : Hid _ := hx
  clear hx hx1
  by_cases h0 : z = 0 ∨ z = 1
  · rcases h0 with rfl | rfl
    all_goals
      go_wp2
      refine bodyPost_ret (v := .agg #[.int .i64 1, .int .i64 0, .int .i64 0, .int .i64 1, .int .i64 0]) (by simp [results, Try.results87, go_sem, c0, c1, c2, c3, c4]) rfl ?_
      refine HQ.out 1 0 0 1 0 _ _ ⟨by omega, by omega, Or.inr ⟨by omega, by omega, rfl⟩, Or.inr ⟨by omega, by omega, rfl⟩⟩ (((((hr1.setCell ?_ _).setCell ?_ _).setCell ?_ _).setCell ?_ _).setCell ?_ _) (by omega) (((((HX.out.setCell (Or.inr ?_) _).setCell (Or.inr ?_) _).setCell (Or.inr ?_) _).setCell (Or.inr ?_) _).setCell (Or.inr ?_) _)
      all_goals (simp <;> omega)
  · have g0 : ((z : Int) == 0) = false := by simp; omega
    have g1 : ((z : Int) == 1) = false := by simp; omega
    by_cases h2 : z = 2
    · subst h2
      go_wp2
      refine bodyPost_ret (v := .agg #[.int .i64 3, .int .i64 0, .int .i64 0, .int .i64 0, .int .i64 0]) (by simp [results, Try.results87, go_sem, c0, c1, c2, c3, c4]) rfl ?_
      refine HQ.out 3 0 0 0 0 _ _ ⟨by omega, by omega, Or.inr ⟨by omega, by omega, rfl⟩, Or.inr ⟨by omega, by omega, rfl⟩⟩ (((((hr1.setCell ?_ _).setCell ?_ _).setCell ?_ _).setCell ?_ _).setCell ?_ _) (by omega) (((((HX.out.setCell (Or.inr ?_) _).setCell (Or.inr ?_) _).setCell (Or.inr ?_) _).setCell (Or.inr ?_) _).setCell (Or.inr ?_) _)
      all_goals (simp <;> omega)
    · have g2 : ((z : Int) == 2) = false := by simp; omega
      by_cases h3 : z = 3
      · subst h3
        go_wp2
        refine bodyPost_ret (v := .agg #[.int .i64 2, .int .i64 1, .int .i64 0, .int .i64 (-1), .int .i64 1]) (by simp [results, Try.results87, go_sem, c0, c1, c2, c3, c4]) rfl ?_
        refine HQ.out 2 1 0 (-1) 1 _ _ ⟨by omega, by omega, Or.inr ⟨by omega, by omega, rfl⟩, Or.inl ⟨by omega, by omega, by omega⟩⟩ (((((hr1.setCell ?_ _).setCell ?_ _).setCell ?_ _).setCell ?_ _).setCell ?_ _) (by omega) (((((HX.out.setCell (Or.inr ?_) _).setCell (Or.inr ?_) _).setCell (Or.inr ?_) _).setCell (Or.inr ?_) _).setCell (Or.inr ?_) _)
        all_goals (simp <;> omega)
      · have g3 : ((z : Int) == 3) = false := by simp; omega
        go_wp2_with fail
        refine pick_any rb (p + 1) _ _ hr1 (by omega) (by omega) fun z2 w2 hz2 hr2 hx2 => ?_
        have h4 : (z2 : Int) < 4 := hz2 (by omega)
        go_wp2_with fail
        refine l71Opnd_any rb (p + 1 + 1) _ hr2 (by omega) fun av an p3 w3 ho3 hr3 hp3 hx3 => ?_
        go_wp2_with fail
        refine l71Opnd_any rb p3 _ hr3 (by omega) fun bv bn p4 w4 ho4 hr4 hp4 hx4 => ?_
        have hx := hx2.trans (hx3.trans hx4)
        have HX2 : Hid _ := hx
        clear hx2 hx3 hx4
        have d0 := hx.cell c0 (by simp; omega)
        have d1 := hx.cell c1 (by simp; omega)
        have d2 := hx.cell c2 (by simp; omega)
        have d3 := hx.cell c3 (by simp; omega)
        have d4 := hx.cell c4 (by simp; omega)
        have fz' : ∀ j, w4.frozen? ⟨w.heap.size, j, none⟩ = false := fun j => (hx.frozen (by simp; omega) (by simp; omega)).trans (fz j)
        clear hx c0 c1 c2 c3 c4 fz
        go_wp2
        refine bodyPost_ret (v := .agg #[.int .i64 (1 + z2), .int .i64 av, .int .i64 an, .int .i64 bv, .int .i64 bn]) (by simp [results, Try.results87, go_sem, d0, d1, d2, d3, d4]) rfl ?_
        refine HQ.out (1 + z2) av an bv bn _ _ ⟨by omega, by omega, ho3, ho4⟩ (((((hr4.setCell ?_ _).setCell ?_ _).setCell ?_ _).setCell ?_ _).setCell ?_ _) (by omega) ((((((HX.out.trans HX2.out).setCell (Or.inr ?_) _).setCell (Or.inr ?_) _).setCell (Or.inr ?_) _).setCell (Or.inr ?_) _).setCell (Or.inr ?_) _)
        all_goals (simp <;> omega)
end Go.Proofs.Ytfbmeciolflgnaa
