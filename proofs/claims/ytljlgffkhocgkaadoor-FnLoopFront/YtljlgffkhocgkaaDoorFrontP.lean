/- Where what a step stands over ends, told of each step: plain lists. -/
import Derived.Test.YtljlgffkhocgkaaDoorMat
namespace Go.Proofs.YtljlgffkhocgkaaDoor

/-- A way leads to x from one over which i stands, and i does not stand over x, or is x. -/
def IsFront (ss : List St) (i x : Nat) : Prop := (∃ p, Reaches ss p ∧ Edge ss p x ∧ Dom ss i p) ∧ (x = i ∨ ¬ Dom ss i x)

def frK (fr : Nat → Nat → Bool) (i k : Nat) : List Int := ((List.range k).filter (fr i)).map (fun x : Nat => (x : Int))

theorem frK_zero (fr : Nat → Nat → Bool) (i : Nat) : frK fr i 0 = [] := by simp [frK]

theorem frK_succ (fr : Nat → Nat → Bool) (i k : Nat) : frK fr i (k + 1) = frK fr i k ++ if fr i k = true then [(k : Int)] else [] := by
  unfold frK
  rw [List.range_succ, List.filter_append, List.map_append]
  congr 1
  cases h : fr i k <;> simp [h]

theorem frK_len (fr : Nat → Nat → Bool) (i k : Nat) : (frK fr i k).length ≤ k := by
  unfold frK
  rw [List.length_map]
  have := List.length_filter_le (fr i) (List.range k)
  simpa using this

def frL (n : Nat) (fr : Nat → Nat → Bool) : List (List Int) := (List.range n).map (fun i => frK fr i n)

def FrontM (ss : List St) (fr : Nat → Nat → Bool) : Prop := ∀ i x, i < ss.length → x < ss.length → (fr i x = true ↔ IsFront ss i x)

theorem FrontM.some (ss : List St) : ∃ fr : Nat → Nat → Bool, ∀ i x, (fr i x = true ↔ IsFront ss i x) := by
  have h1 : ∀ p : Nat × Nat, ∃ b : Bool, (b = true ↔ IsFront ss p.1 p.2) := fun p => by
    by_cases hp : IsFront ss p.1 p.2
    · exact ⟨true, by simp [hp]⟩
    · exact ⟨false, by simp [hp]⟩
  obtain ⟨f, hf⟩ := Classical.axiomOfChoice h1
  exact ⟨fun i k => f (i, k), fun i k => hf (i, k)⟩

theorem frL_same {n : Nat} {f g : Nat → Nat → Bool} (h : ∀ i x, i < n → x < n → f i x = g i x) : frL n f = frL n g := by
  unfold frL
  apply List.map_congr_left
  intro i hi
  unfold frK
  congr 1
  apply List.filter_congr
  intro x hx
  exact h i x (by simpa using hi) (by simpa using hx)

def FrontOr (ss : List St) (zss : List (List Int)) : Prop := (okB ss = true ∧ ∃ fr, FrontM ss fr ∧ zss = frL ss.length fr) ∨ (okB ss = false ∧ zss = [])

theorem FrontOr.unique {ss : List St} {a b : List (List Int)} (ha : FrontOr ss a) (hb : FrontOr ss b) : a = b := by
  rcases ha with ⟨h1, f, h2, h3⟩ | ⟨h1, h2⟩ <;> rcases hb with ⟨h4, g, h5, h6⟩ | ⟨h4, h5⟩
  · rw [h3, h6]
    apply frL_same
    intro i x hi hx
    have e1 := h2 i x hi hx
    have e2 := h5 i x hi hx
    cases e3 : f i x <;> cases e4 : g i x <;> simp_all
  · rw [h1] at h4; cases h4
  · rw [h1] at h4; cases h4
  · rw [h2, h5]

theorem FrontOr.bound {ss : List St} {a : List (List Int)} (ha : FrontOr ss a) : a.length ≤ 1000 ∧ ∀ zs ∈ a, zs.length ≤ 1000 := by
  rcases ha with ⟨h1, f, _, rfl⟩ | ⟨_, rfl⟩
  · have := ok_len h1
    refine ⟨by simp [frL]; omega, fun zs hz => ?_⟩
    simp only [frL, List.mem_map, List.mem_range] at hz
    obtain ⟨j, _, rfl⟩ := hz
    have := frK_len f j ss.length
    omega
  · simp
end Go.Proofs.YtljlgffkhocgkaaDoor
