/- A way by choices, plainly. -/
import Derived.Test.YtmplkchdfloppaaGreatDoorPathPG
import Derived.Test.YtmplkchdfloppaaGreatDoorMoveR
namespace Go.Proofs.YtmplkchdfloppaaGreatDoor
open Go.RowKit

/-- Does one take the second way: at a choice, where the next choice is yes. -/
def sndC (ss : List St) (cs : List Bool) (a n : Nat) : Bool := decide (kindAt ss a = 5) && (decide (n < cs.length) && cs.getD n false)

/-- Where one stands behind so many steps, and how many choices were asked for. -/
def chC (ss : List St) (cs : List Bool) : Nat → Nat × Nat
  | 0 => (0, 0)
  | t + 1 => (((nextOf ss (chC ss cs t).1).getD (if sndC ss cs (chC ss cs t).1 (chC ss cs t).2 then 1 else 0) 0).toNat, (chC ss cs t).2 + (if kindAt ss (chC ss cs t).1 = 5 then 1 else 0))

def aC (ss : List St) (cs : List Bool) (t : Nat) : Nat := (chC ss cs t).1
def nC (ss : List St) (cs : List Bool) (t : Nat) : Nat := (chC ss cs t).2
theorem aC_succ (ss : List St) (cs : List Bool) (t : Nat) : aC ss cs (t + 1) = ((nextOf ss (aC ss cs t)).getD (if sndC ss cs (aC ss cs t) (nC ss cs t) then 1 else 0) 0).toNat := rfl
theorem nC_succ (ss : List St) (cs : List Bool) (t : Nat) : nC ss cs (t + 1) = nC ss cs t + (if kindAt ss (aC ss cs t) = 5 then 1 else 0) := rfl
theorem nC_le (ss : List St) (cs : List Bool) (t : Nat) : nC ss cs t ≤ t := by
  induction t with
  | zero => exact Nat.le_refl _
  | succ t ih =>
    rw [nC_succ]
    split <;> omega

/-- All steps that were come to. -/
def outC (ss : List St) (cs : List Bool) (t : Nat) : List Int := (List.range (t + 1)).map (fun j => (aC ss cs j : Int))
theorem outC_zero (ss : List St) (cs : List Bool) : outC ss cs 0 = [0] := rfl
theorem outC_succ (ss : List St) (cs : List Bool) (t : Nat) : outC ss cs (t + 1) = outC ss cs t ++ [(aC ss cs (t + 1) : Int)] := by
  unfold outC
  rw [List.range_succ, List.map_append]
  rfl
theorem outC_len (ss : List St) (cs : List Bool) (t : Nat) : (outC ss cs t).length = t + 1 := by simp [outC]

/-- No end was come to. -/
def OnC (ss : List St) (cs : List Bool) (t : Nat) : Prop := ∀ j, j < t → kindAt ss (aC ss cs j) ≠ 7

theorem step_kinds {ss : List St} (hok : okB ss = true) {a : Nat} (ha : a < ss.length) : ((nextOf ss a).length : Int) = many (kindAt ss a) ∧ many (kindAt ss a) ≠ -1 := by
  have h1 := ok_stepE hok (List.getElem_mem ha)
  unfold stepB at h1
  simp only [Bool.and_eq_true, decide_eq_true_eq] at h1
  rw [nextOf_get ha, kindAt_get ha]
  exact ⟨h1.1.1, by have := h1.1.1; omega⟩

/-- A step that is no end has a way, a choice two. -/
theorem step_goes {ss : List St} (hok : okB ss = true) {a : Nat} (ha : a < ss.length) (h7 : kindAt ss a ≠ 7) : 0 < (nextOf ss a).length ∧ (kindAt ss a = 5 → (nextOf ss a).length = 2) := by
  obtain ⟨h1, h2⟩ := step_kinds hok ha
  have h3 := many_cases h2
  unfold many at h1
  constructor
  · rcases h3 with e | e | e | e | e | e | e <;> rw [e] at h1 h7 <;> simp at h1 <;> first | omega | exact absurd rfl h7
  · intro e
    rw [e] at h1
    simp at h1
    omega

theorem OnC.place {ss : List St} (hok : okB ss = true) {cs : List Bool} : ∀ {t : Nat}, OnC ss cs t → aC ss cs t < ss.length
  | 0, _ => (ok_len hok).1
  | t + 1, h => by
    have ih := OnC.place (t := t) hok (cs := cs) fun j hj => h j (by omega)
    obtain ⟨h1, h2⟩ := step_goes hok ih (h t (by omega))
    rw [aC_succ]
    have key : ∀ k, k < (nextOf ss (aC ss cs t)).length → ((nextOf ss (aC ss cs t)).getD k 0).toNat < ss.length := fun k hk => by
      have h3 := low_next hok _ ih ((nextOf ss (aC ss cs t)).getD k 0) (by rw [List.getD_eq_getElem?_getD, List.getElem?_eq_getElem hk]; exact List.getElem_mem hk)
      have := h3.1
      have := h3.2
      omega
    cases hs : sndC ss cs (aC ss cs t) (nC ss cs t)
    · exact key 0 h1
    · unfold sndC at hs
      simp only [Bool.and_eq_true, decide_eq_true_eq] at hs
      exact key 1 (by have := h2 hs.1; omega)

/-- What PathOf tells. -/
def PathOr (ss : List St) (cs : List Bool) (zs : List Int) (b : Bool) : Prop :=
  (okB ss = true ∧ ∃ t, t < 200 ∧ OnC ss cs t ∧ kindAt ss (aC ss cs t) = 7 ∧ zs = outC ss cs t ∧ b = true) ∨ ((okB ss = true → OnC ss cs 200) ∧ zs = [] ∧ b = false)

theorem PathOr.unique {ss : List St} {cs : List Bool} {zs zs' : List Int} {b b' : Bool} (h : PathOr ss cs zs b) (h' : PathOr ss cs zs' b') : zs = zs' ∧ b = b' := by
  rcases h with ⟨h1, t, h2, h3, h4, rfl, rfl⟩ | ⟨h1, rfl, rfl⟩
  · rcases h' with ⟨_, t', k2, k3, k4, rfl, rfl⟩ | ⟨k1, rfl, rfl⟩
    · have : t = t' := by
        by_cases e1 : t < t'
        · exact absurd h4 (k3 t e1)
        · by_cases e2 : t' < t
          · exact absurd k4 (h3 t' e2)
          · omega
      subst this
      exact ⟨rfl, rfl⟩
    · exact absurd h4 (k1 h1 t h2)
  · rcases h' with ⟨k1, t', k2, k3, k4, rfl, rfl⟩ | ⟨_, rfl, rfl⟩
    · exact absurd k4 (h1 k1 t' k2)
    · exact ⟨rfl, rfl⟩

theorem PathOr.len {ss : List St} {cs : List Bool} {zs : List Int} {b : Bool} (h : PathOr ss cs zs b) : zs.length ≤ 200 := by
  rcases h with ⟨_, t, h2, _, _, rfl, _⟩ | ⟨_, rfl, _⟩
  · rw [outC_len]; omega
  · simp

/-- What it tells is a path. -/
theorem PathOr.path {ss : List St} {cs : List Bool} {zs : List Int} (h : PathOr ss cs zs true) : okB ss = true ∧ IsPath ss zs := by
  rcases h with ⟨hok, t, h2, h3, h4, rfl, _⟩ | ⟨_, _, h⟩
  · refine ⟨hok, (List.range t).map (fun j => (aC ss cs (j + 1) : Int)), ?_, by simpa using h2, ?_, ?_⟩
    · unfold outC
      rw [List.range_succ_eq_map, List.map_cons, List.map_map]
      rfl
    · have hat : ∀ j, j ≤ t → atP ((List.range t).map (fun j => (aC ss cs (j + 1) : Int))) j = (aC ss cs j : Int) := fun j hj => by
        cases j with
        | zero => rfl
        | succ j =>
          rw [atP_succ, List.getD_eq_getElem?_getD, List.getElem?_map, List.getElem?_range (by omega)]
          rfl
      intro j hj
      simp only [List.length_map, List.length_range] at hj
      have e1 : ((List.range t).map (fun j => (aC ss cs (j + 1) : Int))).getD j 0 = (aC ss cs (j + 1) : Int) := by
        rw [List.getD_eq_getElem?_getD, List.getElem?_map, List.getElem?_range hj]
        rfl
      rw [e1, hat j (by omega), Int.toNat_natCast]
      have hp := OnC.place hok (cs := cs) (t := j) fun i hi => h3 i (by omega)
      obtain ⟨g1, g2⟩ := step_goes hok hp (h3 j hj)
      have key : ∀ k, k < (nextOf ss (aC ss cs j)).length → ((((nextOf ss (aC ss cs j)).getD k 0).toNat : Nat) : Int) ∈ nextOf ss (aC ss cs j) := fun k hk => by
        have hm : (nextOf ss (aC ss cs j)).getD k 0 ∈ nextOf ss (aC ss cs j) := by rw [List.getD_eq_getElem?_getD, List.getElem?_eq_getElem hk]; exact List.getElem_mem hk
        have h5 := low_next hok _ hp _ hm
        rw [Int.toNat_of_nonneg h5.1]
        exact hm
      rw [aC_succ]
      cases hs : sndC ss cs (aC ss cs j) (nC ss cs j)
      · exact key 0 g1
      · unfold sndC at hs
        simp only [Bool.and_eq_true, decide_eq_true_eq] at hs
        exact key 1 (by have := g2 hs.1; omega)
    · have hat : atP ((List.range t).map (fun j => (aC ss cs (j + 1) : Int))) ((List.range t).map (fun j => (aC ss cs (j + 1) : Int))).length = (aC ss cs t : Int) := by
        rw [List.length_map, List.length_range]
        cases t with
        | zero => rfl
        | succ t =>
          rw [atP_succ, List.getD_eq_getElem?_getD, List.getElem?_map, List.getElem?_range (by omega)]
          rfl
      rw [hat, Int.toNat_natCast]
      exact h4
  · cases h
end Go.Proofs.YtmplkchdfloppaaGreatDoor
