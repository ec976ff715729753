/- Where what is put is held, plainly; an admissible way of moving. -/
import Derived.Test.YtacgfbcfkjflmaaGreatAnsBeG
import Derived.Test.YtacgfbcfkjflmaaGreatBaseG
namespace Go.Proofs.YtacgfbcfkjflmaaGreat
open Go.RowKit

def heldF (k p : Nat → Bool) (P : Nat → List Int) : (Nat → Bool) → Nat → Bool := fun g i => p i || (decide (i ≠ 0) && allI (P i) (fun m => k m && g m))

theorem heldF_mono {n : Nat} {k p : Nat → Bool} {P : Nat → List Int} (hl : Low n P) : Mono n (heldF k p P) := by
  intro g h hg i hi hF
  unfold heldF at *
  simp only [Bool.or_eq_true, Bool.and_eq_true] at *
  rcases hF with h1 | ⟨h1, h2⟩
  · exact Or.inl h1
  · refine Or.inr ⟨h1, ?_⟩
    unfold allI at *
    rw [List.all_eq_true] at *
    intro x hx
    have h3 := h2 x hx
    have h4 := hl i hi x hx
    simp only [Bool.and_eq_true] at *
    exact ⟨h3.1, hg _ (by omega) h3.2⟩

theorem heldF_off {n : Nat} {k p g : Nat → Bool} {P : Nat → List Int} (hl : Low n P) {x i : Nat} (hi : i < n) (hx : (x : Int) ∉ P i) : heldF k p P (offB g x) i = heldF k p P g i := by
  have e1 : allI (P i) (fun m => k m && offB g x m) = allI (P i) (fun m => k m && g m) := allI_congr fun y hy => by
    have h1 := hl i hi y hy
    have h2 : y.toNat ≠ x := fun e => hx (by rw [← e, Int.toNat_of_nonneg h1.1]; exact hy)
    simp [offB, h2]
  unfold heldF
  rw [e1]

/-- Where what is put is there on each way. -/
def IsHeld (ss : List St) (e : E5) (rs : List Bool) (p : Nat → Bool) (f : Nat → Bool) : Prop := Gr ss.length (rF rs) (heldF (kF e ss) p (pF ss rs)) f

theorem IsHeld.unique (ss : List St) (e : E5) (rs : List Bool) (p f f' : Nat → Bool) (h : IsHeld ss e rs p f) (h' : IsHeld ss e rs p f') : ∀ i, i < ss.length → f i = f' i := Gr.unique h h'

/-- A step's move is admissible. -/
def admB (d u h c p t : Nat → Bool) (i : Nat) : Bool := !((p i && !d i && !u i) || (t i && !(c i && h i)))

/-- A way of moving is admissible. -/
def PlaceOkP (ss : List St) (e : E5) (ps ts : List Bool) : Prop :=
  FormP ss e ps ts ∧ ∃ rs d u h, IsReach ss rs ∧ IsDown ss e rs d ∧ IsUp ss e rs u ∧ IsHeld ss e rs (fun j => ps.getD j false) h ∧ ∀ i, i < ss.length → admB d u h (cF e ss) (fun j => ps.getD j false) (fun j => ts.getD j false) i = true

theorem PlaceOkP.of {ss : List St} {e : E5} {ps ts : List Bool} {rs : List Bool} {d u h : Nat → Bool} (h0 : FormP ss e ps ts) (h1 : IsReach ss rs) (h2 : IsDown ss e rs d) (h3 : IsUp ss e rs u) (h4 : IsHeld ss e rs (fun j => ps.getD j false) h) :
    PlaceOkP ss e ps ts ↔ ∀ i, i < ss.length → admB d u h (cF e ss) (fun j => ps.getD j false) (fun j => ts.getD j false) i = true := by
  constructor
  · rintro ⟨_, rs', d', u', h', k1, k2, k3, k4, k5⟩ i hi
    obtain rfl := h1.unique k1
    have := k5 i hi
    unfold admB at *
    rw [IsDown.unique ss e rs d d' h2 k2 i hi, IsUp.unique ss e rs u u' h3 k3 i hi, IsHeld.unique ss e rs _ h h' h4 k4 i hi]
    exact this
  · exact fun h5 => ⟨h0, rs, d, u, h, h1, h2, h3, h4, h5⟩
end Go.Proofs.YtacgfbcfkjflmaaGreat
