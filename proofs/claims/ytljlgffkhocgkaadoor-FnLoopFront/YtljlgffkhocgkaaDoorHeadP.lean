/- Heads of loops, plainly. -/
import Derived.Test.YtljlgffkhocgkaaDoorMat
import Derived.Test.YtljlgffkhocgkaaDoorBits
namespace Go.Proofs.YtljlgffkhocgkaaDoor

/-- A way leads to a step from one over which it stands. -/
def IsHead (ss : List St) (i : Nat) : Prop := ∃ p, Reaches ss p ∧ Edge ss p i ∧ Dom ss i p

def HeadsM (ss : List St) (h : Nat → Bool) : Prop := ∀ i, i < ss.length → (h i = true ↔ IsHead ss i)

def HeadsOr (ss : List St) (bs : List Bool) : Prop := (okB ss = true ∧ ∃ h, HeadsM ss h ∧ bs = (List.range ss.length).map h) ∨ (okB ss = false ∧ bs = [])

theorem HeadsOr.unique {ss : List St} {a b : List Bool} (ha : HeadsOr ss a) (hb : HeadsOr ss b) : a = b := by
  rcases ha with ⟨h1, f, h2, h3⟩ | ⟨h1, h2⟩ <;> rcases hb with ⟨h4, g, h5, h6⟩ | ⟨h4, h5⟩
  · rw [h3, h6]
    apply List.map_congr_left
    intro i hi
    have e1 := h2 i (by simpa using hi)
    have e2 := h5 i (by simpa using hi)
    cases e3 : f i <;> cases e4 : g i <;> simp_all
  · rw [h1] at h4; cases h4
  · rw [h1] at h4; cases h4
  · rw [h2, h5]

theorem HeadsOr.bound {ss : List St} {a : List Bool} (ha : HeadsOr ss a) (hn : ss.length ≤ 1048576) : a.length ≤ 1048576 := by
  rcases ha with ⟨_, f, _, h2⟩ | ⟨_, h2⟩
  · rw [h2]; simpa using hn
  · rw [h2]; simp

/-- What two words have in common. -/
theorem head_bits {ss : List St} (hok : okB ss = true) {a u : BitVec 64} {i : Nat} (ha : ∀ x, x < 64 → (a.getLsbD x = true ↔ (Reaches ss x ∧ Edge ss x i))) (hu : ∀ x, x < 64 → (u.getLsbD x = true ↔ Dom ss i x)) : ((a &&& u) ≠ 0#64) ↔ IsHead ss i := by
  have hl := ok_len hok
  constructor
  · intro h
    apply Classical.byContradiction
    intro hn
    apply h
    apply bs_eq
    intro x hx
    rw [BitVec.getLsbD_and]
    cases e1 : a.getLsbD x <;> cases e2 : u.getLsbD x <;> simp
    have h1 := (ha x hx).1 e1
    exact hn ⟨x, h1.1, h1.2, (hu x hx).1 e2⟩
  · rintro ⟨p, h1, h2, h3⟩ h
    have hp := reach_lt hok h1
    have e1 := (ha p (by omega)).2 ⟨h1, h2⟩
    have e2 := (hu p (by omega)).2 h3
    have : (a &&& u).getLsbD p = true := by rw [BitVec.getLsbD_and, e1, e2]; rfl
    rw [h] at this
    simp at this
end Go.Proofs.YtljlgffkhocgkaaDoor
