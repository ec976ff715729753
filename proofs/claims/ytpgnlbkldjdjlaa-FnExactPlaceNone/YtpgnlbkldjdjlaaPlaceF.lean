/- Ways of moving, plainly: to move nothing, as early as can be, as late as can be. -/
import Derived.Test.YtpgnlbkldjdjlaaSafeF
namespace Go.Proofs.Ytpgnlbkldjdjlaa

/-- A way of moving of a program and a reckoning that are ok; else nothing. -/
def PlOr (P : List St → E5 → List Bool → (Nat → Bool) → (Nat → Bool) → Prop) (ss : List St) (e : E5) (ps ts : List Bool) : Prop :=
  (okB ss = true ∧ exprB e = true ∧ ∃ rs f g, IsReach ss rs ∧ P ss e rs f g ∧ ps = (List.range ss.length).map f ∧ ts = (List.range ss.length).map g) ∨ (¬ (okB ss = true ∧ exprB e = true) ∧ ps = [] ∧ ts = [])

theorem PlOr.unique {P : List St → E5 → List Bool → (Nat → Bool) → (Nat → Bool) → Prop} (hu : ∀ ss, okB ss = true → ∀ e rs f g f' g', P ss e rs f g → P ss e rs f' g' → ∀ i, i < ss.length → f i = f' i ∧ g i = g' i) {ss : List St} {e : E5} {a b a' b' : List Bool} (ha : PlOr P ss e a b) (hb : PlOr P ss e a' b') : a = a' ∧ b = b' := by
  rcases ha with ⟨h1, h2, rs, f, g, h3, h4, rfl, rfl⟩ | ⟨h1, rfl, rfl⟩
  · rcases hb with ⟨_, _, rs', f', g', k3, k4, rfl, rfl⟩ | ⟨k1, rfl, rfl⟩
    · obtain rfl := h3.unique k3
      exact ⟨List.map_congr_left fun i hi => (hu ss h1 e rs f g f' g' h4 k4 i (by simpa using hi)).1, List.map_congr_left fun i hi => (hu ss h1 e rs f g f' g' h4 k4 i (by simpa using hi)).2⟩
    · exact absurd ⟨h1, h2⟩ k1
  · rcases hb with ⟨k1, k2, _⟩ | ⟨_, rfl, rfl⟩
    · exact absurd ⟨k1, k2⟩ h1
    · exact ⟨rfl, rfl⟩

theorem PlOr.bound {P : List St → E5 → List Bool → (Nat → Bool) → (Nat → Bool) → Prop} {ss : List St} {e : E5} {a b : List Bool} (ha : PlOr P ss e a b) (hl : ss.length ≤ 1048576) : a.length ≤ 1048576 ∧ b.length ≤ 1048576 := by
  rcases ha with ⟨_, _, rs, f, g, _, _, rfl, rfl⟩ | ⟨_, rfl, rfl⟩
  · simpa using hl
  · simp

theorem PlOr.len {P : List St → E5 → List Bool → (Nat → Bool) → (Nat → Bool) → Prop} {ss : List St} {e : E5} {a b : List Bool} (ha : PlOr P ss e a b) : a.length = b.length := by
  rcases ha with ⟨_, _, rs, f, g, _, _, rfl, rfl⟩ | ⟨_, rfl, rfl⟩
  · simp
  · rfl

def IsNone (_ : List St) (_ : E5) (_ : List Bool) (f g : Nat → Bool) : Prop := ∀ i, f i = false ∧ g i = false
def IsBusy (ss : List St) (e : E5) (rs : List Bool) (f g : Nat → Bool) : Prop := IsEarly ss e rs f ∧ ∀ i, i < ss.length → g i = (cF e ss i && rF rs i)
def IsLazy (ss : List St) (e : E5) (rs : List Bool) (f g : Nat → Bool) : Prop := ∃ l a, IsLate ss e rs l ∧ IsAlone ss e rs a ∧ ∀ i, i < ss.length → f i = (l i && !a i) ∧ g i = (cF e ss i && rF rs i && !(l i && a i))

theorem IsNone.unique (ss : List St) (_ : okB ss = true) (e : E5) (rs : List Bool) (f g f' g' : Nat → Bool) (h : IsNone ss e rs f g) (h' : IsNone ss e rs f' g') : ∀ i, i < ss.length → f i = f' i ∧ g i = g' i := fun i _ => ⟨(h i).1.trans (h' i).1.symm, (h i).2.trans (h' i).2.symm⟩

theorem IsBusy.unique (ss : List St) (_ : okB ss = true) (e : E5) (rs : List Bool) (f g f' g' : Nat → Bool) (h : IsBusy ss e rs f g) (h' : IsBusy ss e rs f' g') : ∀ i, i < ss.length → f i = f' i ∧ g i = g' i :=
  fun i hi => ⟨IsEarly.unique ss e rs f f' h.1 h'.1 i hi, (h.2 i hi).trans (h'.2 i hi).symm⟩

theorem IsLazy.unique (ss : List St) (hok : okB ss = true) (e : E5) (rs : List Bool) (f g f' g' : Nat → Bool) (h : IsLazy ss e rs f g) (h' : IsLazy ss e rs f' g') : ∀ i, i < ss.length → f i = f' i ∧ g i = g' i := by
  obtain ⟨l, a, h1, h2, h3⟩ := h
  obtain ⟨l', a', k1, k2, k3⟩ := h'
  intro i hi
  obtain ⟨e1, e2⟩ := h3 i hi
  obtain ⟨e3, e4⟩ := k3 i hi
  rw [e1, e2, e3, e4, IsLate.unique ss hok e rs l l' h1 k1 i hi, IsAlone.unique ss hok e rs a a' h2 k2 i hi]
  exact ⟨rfl, rfl⟩

theorem IsDown.reach {ss : List St} {e : E5} {rs : List Bool} {f : Nat → Bool} (h : IsDown ss e rs f) {i : Nat} (hi : i < ss.length) (hf : f i = true) : rF rs i = true := (h.fit i hi hf).1
theorem IsEarly.reach {ss : List St} {e : E5} {rs : List Bool} {f : Nat → Bool} (h : IsEarly ss e rs f) {i : Nat} (hi : i < ss.length) (hf : f i = true) : rF rs i = true := by
  obtain ⟨d, u, h1, _, h3⟩ := h
  rw [h3 i hi] at hf
  unfold earlyB at hf
  simp only [Bool.and_eq_true] at hf
  exact h1.reach hi hf.1
theorem IsLate.reach {ss : List St} {e : E5} {rs : List Bool} {f : Nat → Bool} (h : IsLate ss e rs f) {i : Nat} (hi : i < ss.length) (hf : f i = true) : rF rs i = true := by
  obtain ⟨l, ⟨ea, _, h2⟩, h3⟩ := h
  rw [h3 i hi] at hf
  unfold lateB at hf
  simp only [Bool.and_eq_true] at hf
  exact (h2.fit i hi hf.1).1
end Go.Proofs.Ytpgnlbkldjdjlaa
