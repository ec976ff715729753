/- How often a reckoning is reckoned on a path, plainly. -/
import Derived.Test.YtacgfbcfkjflmaaPathP
import Derived.Test.YtacgfbcfkjflmaaMoveR
namespace Go.Proofs.Ytacgfbcfkjflmaa
open Go.RowKit

/-- Of a row of places, how many are so, and how many are so the other way, together. -/
def cntP (f g : Nat → Bool) (zs : List Int) : Nat := (zs.map (fun z => (if f z.toNat then 1 else 0) + (if g z.toNat then 1 else 0))).sum

theorem cntP_le (f g : Nat → Bool) (zs : List Int) : cntP f g zs ≤ 2 * zs.length := by
  induction zs with
  | nil => simp [cntP]
  | cons z zs ih =>
    unfold cntP at *
    simp only [List.map_cons, List.sum_cons, List.length_cons]
    have h1 : (if f z.toNat then 1 else 0) ≤ 1 := by split <;> omega
    have h2 : (if g z.toNat then 1 else 0) ≤ 1 := by split <;> omega
    omega

theorem cntP_take (f g : Nat → Bool) {zs : List Int} {k : Nat} (h : k < zs.length) : cntP f g (zs.take (k + 1)) = cntP f g (zs.take k) + ((if f (zs.getD k 0).toNat then 1 else 0) + (if g (zs.getD k 0).toNat then 1 else 0)) := by
  have e : zs.getD k 0 = zs[k] := by rw [List.getD_eq_getElem?_getD, List.getElem?_eq_getElem h]; rfl
  unfold cntP
  rw [List.take_add_one, List.getElem?_eq_getElem h, e, List.map_append, List.sum_append]
  simp only [Option.toList_some, List.map_cons, List.map_nil, List.sum_cons, List.sum_nil, Nat.add_zero]

theorem cntP_at (f g : Nat → Bool) {zs : List Int} {k m : Nat} (h : k < zs.length) (hm : zs.getD k 0 = (m : Int)) : cntP f g (zs.take (k + 1)) = cntP f g (zs.take k) + ((if f m then 1 else 0) + (if g m then 1 else 0)) := by
  have h1 := cntP_take f g h
  rw [hm] at h1
  exact h1

/-- What is told of a path: its count, if the way has the form and it is a path; else -1. -/
def CountOr (ss : List St) (e : E5) (ps ts : List Bool) (zs : List Int) (n : Int) : Prop :=
  (FormP ss e ps ts ∧ IsPath ss zs ∧ n = (cntP (fun j => ps.getD j false) (fun j => cF e ss j && !ts.getD j false) zs : Int)) ∨ (¬ (FormP ss e ps ts ∧ IsPath ss zs) ∧ n = -1)

theorem CountOr.unique {ss : List St} {e : E5} {ps ts : List Bool} {zs : List Int} {n m : Int} (h : CountOr ss e ps ts zs n) (h' : CountOr ss e ps ts zs m) : n = m := by
  rcases h with ⟨h1, h2, rfl⟩ | ⟨h1, rfl⟩
  · rcases h' with ⟨_, _, rfl⟩ | ⟨k1, rfl⟩
    · rfl
    · exact absurd ⟨h1, h2⟩ k1
  · rcases h' with ⟨k1, k2, rfl⟩ | ⟨_, rfl⟩
    · exact absurd ⟨k1, k2⟩ h1
    · rfl

theorem IsPath.places {ss : List St} (hok : okB ss = true) {zs : List Int} (h : IsPath ss zs) : ∀ z ∈ zs, 0 ≤ z ∧ z.toNat < ss.length := by
  obtain ⟨r, rfl, _, h2, _⟩ := h
  intro z hz
  rcases List.mem_cons.1 hz with rfl | h3
  · exact ⟨Int.le_refl _, (ok_len hok).1⟩
  · obtain ⟨j, hj, rfl⟩ := List.mem_iff_getElem.1 h3
    obtain ⟨m, h4, h5⟩ := (h2.le (j := j + 1) (by omega)).place hok
    rw [atP_succ, List.getD_eq_getElem?_getD, List.getElem?_eq_getElem hj] at h4
    simp only [Option.getD_some] at h4
    omega

theorem IsPath.len {ss : List St} {zs : List Int} (h : IsPath ss zs) : zs.length ≤ 200 := by
  obtain ⟨r, rfl, h1, _, _⟩ := h
  simp only [List.length_cons]
  omega
end Go.Proofs.Ytacgfbcfkjflmaa
