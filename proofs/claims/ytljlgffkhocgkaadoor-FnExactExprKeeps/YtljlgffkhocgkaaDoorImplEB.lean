/- What the program's reckonedBy and stepsOf answer. -/
import Derived.Test.YtljlgffkhocgkaaDoorImplER
import Derived.Test.YtljlgffkhocgkaaDoorReach
import Derived.Laws.OwnMore
import Derived.OneCell
namespace Go.Proofs.YtljlgffkhocgkaaDoor
open Go.RowKit Go.Maps

/-- Words of bits that tell who reckons what, among the first k steps. -/
def CB (ss : List St) (k : Nat) (es : List E5) (bs : List (BitVec 64)) : Prop := ∀ (i : Nat) e, es[i]? = some e → ∃ b, bs[i]? = some b ∧ ∀ j, j < 64 → (b.getLsbD j = true ↔ j < k ∧ ∃ s, ss[j]? = some s ∧ s.kind = 1 ∧ eOf s = e)

theorem CB.nil (ss : List St) : CB ss 0 [] [] := fun i e h => by simp at h

theorem CB.skip {ss : List St} {k : Nat} {es : List E5} {bs : List (BitVec 64)} {s : St} (h : CB ss k es bs) (hs : ss[k]? = some s) (hk : s.kind ≠ 1) : CB ss (k + 1) es bs := fun i e he => by
  obtain ⟨b, h1, h2⟩ := h i e he
  refine ⟨b, h1, fun j hj => (h2 j hj).trans ?_⟩
  constructor
  · rintro ⟨h3, h4⟩
    exact ⟨by omega, h4⟩
  · rintro ⟨h3, t, h4, h5, h6⟩
    have : j ≠ k := fun q => by subst q; rw [hs] at h4; cases h4; exact hk h5
    exact ⟨by omega, t, h4, h5, h6⟩

theorem CB.new {ss : List St} {k : Nat} {bs : List (BitVec 64)} {e : E5} (h : CB ss k (exTo ss k) bs) (hl : bs.length = (exTo ss k).length) (hn : e ∉ exTo ss k) : CB ss k (exTo ss k ++ [e]) (bs ++ [0#64]) := fun i e' he => by
  rcases Nat.lt_or_ge i (exTo ss k).length with hi | hi
  · rw [List.getElem?_append_left hi] at he
    obtain ⟨b, h1, h2⟩ := h i e' he
    exact ⟨b, by rw [List.getElem?_append_left (by omega)]; exact h1, h2⟩
  · rw [List.getElem?_append_right hi] at he
    have hi0 : i = (exTo ss k).length := by
      rcases Nat.eq_or_lt_of_le hi with q | q
      · exact q.symm
      · rw [List.getElem?_eq_none (by simp; omega)] at he; cases he
    subst hi0
    simp at he
    subst he
    refine ⟨0#64, by rw [List.getElem?_append_right (by omega)]; simp [hl], fun j hj => ?_⟩
    simp only [BitVec.getLsbD_zero, Bool.false_eq_true, false_iff]
    rintro ⟨h1, s, h2, h3, h4⟩
    exact hn (mem_exTo.2 ⟨j, s, h1, h2, h3, h4⟩)

theorem CB.step {ss : List St} {k i : Nat} {es : List E5} {bs : List (BitVec 64)} {s : St} {b : BitVec 64} (h : CB ss k es bs) (hk : k < 64) (hs : ss[k]? = some s) (h1 : s.kind = 1) (hnd : es.Nodup) (hi : es[i]? = some (eOf s)) (hb : bs[i]? = some b) : CB ss (k + 1) es (bs.set i (addB b k)) := fun i' e' he => by
  obtain ⟨b', h2, h3⟩ := h i' e' he
  by_cases q : i' = i
  · subst q
    rw [hi] at he
    cases he
    rw [hb] at h2
    cases h2
    refine ⟨addB b k, by rw [List.getElem?_set]; simp; exact (List.getElem?_eq_some_iff.1 hb).1, fun j hj => ?_⟩
    rw [addB_get hk hj]
    simp only [Bool.or_eq_true, decide_eq_true_eq]
    rw [h3 j hj]
    constructor
    · rintro (⟨h4, h5⟩ | rfl)
      · exact ⟨by omega, h5⟩
      · exact ⟨by omega, s, hs, h1, rfl⟩
    · rintro ⟨h4, h5⟩
      by_cases q : j = k
      · exact Or.inr q
      · exact Or.inl ⟨by omega, h5⟩
  · have hne : e' ≠ eOf s := fun q2 => by
      subst q2
      obtain ⟨l1, g1⟩ := List.getElem?_eq_some_iff.1 he
      obtain ⟨l2, g2⟩ := List.getElem?_eq_some_iff.1 hi
      rcases Nat.lt_or_gt_of_ne q with q3 | q3
      · exact (List.pairwise_iff_getElem.1 hnd i' i l1 l2 q3) (g1.trans g2.symm)
      · exact (List.pairwise_iff_getElem.1 hnd i i' l2 l1 q3) (g2.trans g1.symm)
    refine ⟨b', by rw [List.getElem?_set_ne (fun e => q e.symm)]; exact h2, fun j hj => (h3 j hj).trans ?_⟩
    constructor
    · rintro ⟨h4, h5⟩
      exact ⟨by omega, h5⟩
    · rintro ⟨h4, t, h5, h6, h7⟩
      have : j ≠ k := fun q2 => by subst q2; rw [hs] at h5; cases h5; exact hne h7.symm
      exact ⟨by omega, t, h5, h6, h7⟩

end Go.Proofs.YtljlgffkhocgkaaDoor
