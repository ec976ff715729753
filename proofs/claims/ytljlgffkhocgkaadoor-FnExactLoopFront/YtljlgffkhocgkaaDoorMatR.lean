/- A square of bools that is read alone. -/
import Derived.Test.YtljlgffkhocgkaaDoorMat
namespace Go.Proofs.YtljlgffkhocgkaaDoor
open Go.RowKit

structure MatR (w : World) (g n : Nat) (gs cs : Nat → Nat) (m : Nat → Nat → Bool) : Prop where
  row : ∀ i, i < n → w.cell? ⟨g, i, none⟩ = some (.slice (some ⟨gs i, 0, none⟩) n (cs i))
  cell : ∀ i k, i < n → k < n → w.cell? ⟨gs i, k, none⟩ = some (.bool (m i k))

theorem MatR.keep {w w' : World} {g n : Nat} {gs cs : Nat → Nat} {m : Nat → Nat → Bool} (h : MatR w g n gs cs m) (hb : Below w.heap.size w w') : MatR w' g n gs cs m :=
  ⟨fun i hi => cell_keep hb (h.row i hi), fun i k hi hk => cell_keep hb (h.cell i k hi hk)⟩

theorem MatR.ofLow {lo hi : Nat} {w : World} {v : Value} {n : Nat} {m : Nat → Nat → Bool} (h : RowsB lo hi w v (matL n m)) (hn : 1 ≤ n) : ∃ g cap gs cs, v = .slice (some ⟨g, 0, none⟩) n cap ∧ MatR w g n gs cs m ∧ lo ≤ g ∧ ∀ i, i < n → lo ≤ gs i := by
  obtain ⟨ao, g, cap, hv, hr⟩ := h.read
  rw [matL_len] at hv
  have h1 : ∀ i, ∃ gc : Nat × Nat, i < n → ao = some ⟨g, 0, none⟩ ∧ w.cell? ⟨g, i, none⟩ = some (.slice (some ⟨gc.1, 0, none⟩) n gc.2) ∧ lo ≤ gc.1 ∧ ∀ k, k < n → w.cell? ⟨gc.1, k, none⟩ = some (.bool (m i k)) := by
    intro i
    by_cases hi : i < n
    · obtain ⟨x, A, c, e1, e2, e3, e4⟩ := hr i _ (matL_get hi)
      obtain ⟨ao2, g2, cap2, hv2, hr2⟩ := e4.read
      subst e3
      simp only [List.length_map, List.length_range] at hv2 e2
      simp only [Value.slice.injEq, true_and] at hv2
      have e5 := (hr2 0 (by simp; omega)).1
      refine ⟨(g2, c), fun _ => ⟨e1, ?_, (hr2 0 (by simp; omega)).2.2.2.1, fun k hk => ?_⟩⟩
      · rw [e2, hv2.1, e5]
      · have := (hr2 k (by simpa using hk)).2.1
        rw [this]
        simp [List.getD, hk]
    · exact ⟨(0, 0), fun h => absurd h hi⟩
  obtain ⟨f, hf⟩ := Classical.axiomOfChoice h1
  have e := (hf 0 (by omega)).1
  subst e
  obtain ⟨vs, _, h2, _⟩ := h
  have hlo := (h2.lt g (by rw [hv]; rfl)).1
  exact ⟨g, cap, fun i => (f i).1, fun i => (f i).2, hv, ⟨fun i hi => (hf i hi).2.1, fun i k hi hk => (hf i hi).2.2.2 k hk⟩, hlo, fun i hi => (hf i hi).2.2.1⟩

theorem MatR.of {lo hi : Nat} {w : World} {v : Value} {n : Nat} {m : Nat → Nat → Bool} (h : RowsB lo hi w v (matL n m)) (hn : 1 ≤ n) : ∃ g cap gs cs, v = .slice (some ⟨g, 0, none⟩) n cap ∧ MatR w g n gs cs m := by
  obtain ⟨g, cap, gs, cs, h1, h2, _⟩ := MatR.ofLow h hn
  exact ⟨g, cap, gs, cs, h1, h2⟩
end Go.Proofs.YtljlgffkhocgkaaDoor
