/- What the program's ExprComp answers. -/
import Derived.Test.YtljlgffkhocgkaaDoorImplEB
import Derived.Test.YtljlgffkhocgkaaDoorImplOk
import Derived.Test.YtljlgffkhocgkaaDoorExprO
import Derived.Test.YtljlgffkhocgkaaDoorOnB
import Derived.Test.YtljlgffkhocgkaaDoorBits
namespace Go.Proofs.YtljlgffkhocgkaaDoor
open Go.RowKit Go.Maps

/-- The steps that reckon it, as a word of bits. -/
def CompW (ss : List St) (e : E5) (b : BitVec 64) : Prop := ∀ j, j < 64 → (b.getLsbD j = true ↔ ∃ s, ss[j]? = some s ∧ s.kind = 1 ∧ eOf s = e)

theorem CompW.get {ss : List St} {e : E5} {b : BitVec 64} (h : CompW ss e b) {j : Nat} (hl : j < ss.length) (hj : j < 64) : b.getLsbD j = compB e ss[j] := by
  have key : b.getLsbD j = true ↔ compB e ss[j] = true := by
    rw [h j hj]
    unfold compB
    simp only [Bool.and_eq_true, decide_eq_true_eq]
    constructor
    · rintro ⟨s, h1, h2, h3⟩
      rw [List.getElem?_eq_getElem hl] at h1
      cases h1
      exact ⟨h2, h3⟩
    · rintro ⟨h1, h2⟩
      exact ⟨ss[j], List.getElem?_eq_getElem hl, h1, h2⟩
  cases e1 : b.getLsbD j <;> cases e2 : compB e ss[j] <;> simp_all

theorem CompW.lt {ss : List St} {e : E5} {b : BitVec 64} (h : CompW ss e b) {j : Nat} (hj : j < 64) (hb : b.getLsbD j = true) : j < ss.length := by
  obtain ⟨s, h1, _⟩ := (h j hj).1 hb
  exact (List.getElem?_eq_some_iff.1 h1).1

end Go.Proofs.YtljlgffkhocgkaaDoor
