/- A way turned in place, where no two lists lie in one block. -/
import Derived.Test.YtnlcdecokpdkpaaDoorProgF
namespace Go.Proofs.YtnlcdecokpdkpaaDoor
open Go.RowKit

theorem PF.turn {lo N i g c t : Nat} {w : World} {v : Value} {F : Nat → St} {xs : List Value} {nvs : Nat → Value} (h : PF lo w v N F xs nvs) (ap : Apart nvs N) (hi : i < N) (hv : nvs i = .slice (some ⟨g, 0, none⟩) (F i).next.length c) (z : Int) :
    PF lo (w.setCell ⟨g, t, none⟩ (.int .i64 z)) v N (fun j => if j = i then { F i with next := (F i).next.set t z } else F j) xs nvs := by
  have ho := h.own i hi
  rw [hv] at ho
  obtain ⟨s1, s2⟩ := ho.stored t (.int .i64 z)
  have kept : ∀ {b : Nat} {e : TypeId} {m : Nat} {y : Value} {n : Nat} {ys : List Value}, w.ownsRow b e m y n ys → y.ownBlock ≠ some g → (w.setCell ⟨g, t, none⟩ (.int .i64 z)).ownsRow b e m y n ys := by
    intro b e m y n ys hy hne
    exact hy.kept s2 (Or.inr hne)
  have hrow : v.ownBlock ≠ some g := by
    rcases own_diff h.row ho (by decide) with e | e
    · rw [e]; simp
    · exact e
  refine ⟨kept h.row hrow, fun j hj => ?_, fun j hj => ?_⟩
  · by_cases e : j = i
    · subst e
      rw [if_pos rfl]
      exact h.cells j hj
    · rw [if_neg e]
      exact h.cells j hj
  · by_cases e : j = i
    · subst e
      rw [if_pos rfl]
      simp only [List.length_set, List.map_set]
      rw [hv]
      exact s1
    · rw [if_neg e]
      exact kept (h.own j hj) (ap i j g hi hj (Ne.symm e) (by rw [hv]; rfl))

/-- A store into a row leaves rows of other types. -/
theorem own_store {w : World} {b1 b2 m1 m2 n1 n2 g c q : Nat} {e1 e2 : TypeId} {y u : Value} {xs ys : List Value} (hy : w.ownsRow b1 e1 m1 y n1 ys) (hr : w.ownsRow b2 e2 m2 (.slice (some ⟨g, 0, none⟩) n2 c) n2 xs) (he : e1 ≠ e2) : (w.setCell ⟨g, q, none⟩ u).ownsRow b1 e1 m1 y n1 ys := by
  refine hy.kept (hr.stored q u).2 ?_
  rcases own_diff hy hr he with e | e
  · exact Or.inl e
  · exact Or.inr e

/-- So does an append to it. -/
theorem own_grow {w w' : World} {b1 b2 m1 m2 n1 n2 : Nat} {e1 e2 : TypeId} {y v : Value} {xs ys : List Value} (hy : w.ownsRow b1 e1 m1 y n1 ys) (hr : w.ownsRow b2 e2 m2 v n2 xs) (he : e1 ≠ e2) (hg : w.grownBy w' v.ownBlock) : w'.ownsRow b1 e1 m1 y n1 ys := by
  refine hy.kept hg ?_
  rcases own_diff hy hr he with e | e
  · exact Or.inl e
  · exact Or.inr e

theorem own_keepB {w w' : World} {b1 m1 n1 : Nat} {e1 : TypeId} {y : Value} {ys : List Value} (hy : w.ownsRow b1 e1 m1 y n1 ys) (hb : Below w.heap.size w w') : w'.ownsRow b1 e1 m1 y n1 ys :=
  ownsRow_out hy (Out.of_below (lo := 0) (hi := 0) hb) (fun _ _ => Or.inr (Nat.zero_le _))

/-- A store into the box leaves the program. -/
theorem PF.box {lo N D q b2 n2 c : Nat} {w : World} {v u : Value} {F : Nat → St} {xs bs : List Value} {nvs : Nat → Value} (h : PF lo w v N F xs nvs) (hr : w.ownsRow b2 32 1 (.slice (some ⟨D, 0, none⟩) n2 c) n2 bs) : PF lo (w.setCell ⟨D, q, none⟩ u) v N F xs nvs :=
  ⟨own_store h.row hr (by decide), h.cells, fun i hi => own_store (h.own i hi) hr (by decide)⟩
end Go.Proofs.YtnlcdecokpdkpaaDoor
