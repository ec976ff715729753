/- The same, told by a function of places: steps that are written in place. A way turned in place, where no two lists lie in one block. -/
import Derived.Test.YtfbmeciolflgnaaProgO
namespace Go.Proofs.Ytfbmeciolflgnaa
open Go.RowKit

structure PF (lo : Nat) (w : World) (v : Value) (N : Nat) (F : Nat → St) (xs : List Value) (nvs : Nat → Value) : Prop where
  row : w.ownsRow lo 77 8 v N xs
  cells : ∀ i, i < N → StepX xs (i * 8) (F i) (nvs i)
  own : ∀ i, i < N → w.ownsRow lo 3 1 (nvs i) (F i).next.length ((F i).next.map (Value.int .i64))

/-- No two of the first m lists lie in one block. -/
def Apart (nvs : Nat → Value) (m : Nat) : Prop := ∀ i j k, i < m → j < m → i ≠ j → (nvs i).ownBlock = some k → (nvs j).ownBlock ≠ some k

theorem PF.keep {lo N : Nat} {w w' : World} {v : Value} {F : Nat → St} {xs : List Value} {nvs : Nat → Value} (h : PF lo w v N F xs nvs) (hb : Below w.heap.size w w') : PF lo w' v N F xs nvs :=
  ⟨ownsRow_out h.row (Out.of_below (lo := 0) (hi := 0) hb) (fun _ _ => Or.inr (Nat.zero_le _)), h.cells, fun i hi => ownsRow_out (h.own i hi) (Out.of_below (lo := 0) (hi := 0) hb) (fun _ _ => Or.inr (Nat.zero_le _))⟩

theorem PF.below {lo N : Nat} {w : World} {v : Value} {F : Nat → St} {xs : List Value} {nvs : Nat → Value} (h : PF lo w v N F xs nvs) {a : Addr} (ha : a.block < lo) (u : Value) : PF lo (w.setCell a u) v N F xs nvs :=
  ⟨ownsRow_setCell_below h.row ha u, h.cells, fun i hi => ownsRow_setCell_below (h.own i hi) ha u⟩

/-- A store into a block that is none of its own. -/
theorem PF.other {lo N : Nat} {w : World} {v : Value} {F : Nat → St} {xs : List Value} {nvs : Nat → Value} (h : PF lo w v N F xs nvs) {a : Addr} (hv : v.ownBlock ≠ some a.block) (hn : ∀ i, i < N → (nvs i).ownBlock ≠ some a.block) (u : Value) : PF lo (w.setCell a u) v N F xs nvs :=
  ⟨ownsRow_setCell_other h.row hv u, h.cells, fun i hi => ownsRow_setCell_other (h.own i hi) (hn i hi) u⟩

theorem PF.congr {lo N : Nat} {w : World} {v : Value} {F G : Nat → St} {xs : List Value} {nvs : Nat → Value} (h : PF lo w v N F xs nvs) (e : ∀ i, i < N → G i = F i) : PF lo w v N G xs nvs :=
  ⟨h.row, fun i hi => by rw [e i hi]; exact h.cells i hi, fun i hi => by rw [e i hi]; exact h.own i hi⟩

theorem PF.lower {lo lo' N : Nat} {w : World} {v : Value} {F : Nat → St} {xs : List Value} {nvs : Nat → Value} (h : PF lo w v N F xs nvs) (hl : lo' ≤ lo) : PF lo' w v N F xs nvs :=
  ⟨own_lower h.row hl, h.cells, fun i hi => own_lower (h.own i hi) hl⟩

theorem PF.po {lo N : Nat} {w : World} {v : Value} {F : Nat → St} {xs : List Value} {nvs : Nat → Value} (h : PF lo w v N F xs nvs) (ha : Apart nvs N) : PO lo w v ((List.range N).map F) xs nvs := by
  have hg : ∀ (i : Nat) (s : St), ((List.range N).map F)[i]? = some s → i < N ∧ s = F i := by
    intro i s hs
    have l := (List.getElem?_eq_some_iff.1 hs).1
    simp at l
    simp [l] at hs
    exact ⟨l, hs.symm⟩
  refine ⟨by simpa using h.row, fun i s hs => ?_, fun i s hs => ?_, by simpa [Apart] using ha⟩
  · obtain ⟨l, rfl⟩ := hg i s hs
    exact h.cells i l
  · obtain ⟨l, rfl⟩ := hg i s hs
    exact h.own i l

theorem PO.pf {lo : Nat} {w : World} {v : Value} {ss : List St} {xs : List Value} {nvs : Nat → Value} (h : PO lo w v ss xs nvs) (d : St) : PF lo w v ss.length (fun i => ss.getD i d) xs nvs := by
  have hg : ∀ i, i < ss.length → ss[i]? = some (ss.getD i d) := fun i hi => by simp [List.getD, hi]
  exact ⟨h.row, fun i hi => h.cells i _ (hg i hi), fun i hi => h.own i _ (hg i hi)⟩

theorem PF.at {lo N : Nat} {w : World} {v : Value} {F : Nat → St} {xs : List Value} {nvs : Nat → Value} (h : PF lo w v N F xs nvs) : ∃ A c, v = .slice A N c ∧ ∀ i, i < N → ∃ g, A = some ⟨g, 0, none⟩ ∧ lo ≤ g ∧ g < w.heap.size ∧ StepCells w g (i * 8) (F i) (nvs i) ∧ ∀ j, w.frozen? ⟨g, j, none⟩ = false := by
  rcases id h.row.2 with ⟨e, e2⟩ | ⟨g, cap, cur, e, _⟩
  · exact ⟨none, 0, by rw [e2]; exact e, fun i hi => by omega⟩
  · refine ⟨_, cap, e, fun i hi => ⟨g, rfl, (h.row.lt g (by rw [e]; rfl)).1, (h.row.lt g (by rw [e]; rfl)).2, ?_, ?_⟩⟩
    · have hrow := h.row
      rw [e] at hrow
      obtain ⟨c0, c1, c2, c3, c4, c5, c6, c7⟩ := (h.cells i hi).cells
      have rd : ∀ j, j < 8 → w.cell? ⟨g, i * 8 + j, none⟩ = xs[i * 8 + j]? := fun j hj => hrow.cellAt _ (by omega)
      exact ⟨(rd 0 (by omega)).trans c0, (rd 1 (by omega)).trans c1, (rd 2 (by omega)).trans c2, (rd 3 (by omega)).trans c3, (rd 4 (by omega)).trans c4, (rd 5 (by omega)).trans c5, (rd 6 (by omega)).trans c6, (rd 7 (by omega)).trans c7⟩
    · have hrow := h.row
      rw [e] at hrow
      exact hrow.frozenAt

/-- One list of one step in another one's place. -/
theorem PF.putNext {lo N i g c : Nat} {w : World} {F : Nat → St} {xs : List Value} {nvs : Nat → Value} {nv : Value} {zs : List Int} (h : PF lo w (.slice (some ⟨g, 0, none⟩) N c) N F xs nvs) (hi : i < N) (hn : w.ownsRow lo 3 1 nv zs.length (zs.map (Value.int .i64))) :
    PF lo (w.setCell ⟨g, i * 8 + 7, none⟩ nv) (.slice (some ⟨g, 0, none⟩) N c) N (fun j => if j = i then { F i with next := zs } else F j) (xs.set (i * 8 + 7) nv) (fun j => if j = i then nv else nvs j) := by
  obtain ⟨s1, s2⟩ := h.row.stored (i * 8 + 7) nv
  have kept : ∀ {b : Nat} {y : Value} {n : Nat} {ys : List Value}, w.ownsRow b 3 1 y n ys → (w.setCell ⟨g, i * 8 + 7, none⟩ nv).ownsRow b 3 1 y n ys := by
    intro b y n ys hy
    refine hy.kept s2 ?_
    rcases own_diff hy h.row (by decide) with e | e
    · exact Or.inl e
    · exact Or.inr e
  have hlen : xs.length = N * 8 := h.row.1
  refine ⟨s1, fun j hj => ?_, fun j hj => ?_⟩
  · by_cases e : j = i
    · subst e
      rw [if_pos rfl, if_pos rfl]
      intro q u hu
      have hq : q < 8 := by have := (List.getElem?_eq_some_iff.1 hu).1; simpa [cells8] using this
      by_cases e7 : q = 7
      · subst e7
        simp [cells8] at hu
        subst hu
        rw [List.getElem?_set_self (by omega)]
      · rw [List.getElem?_set_ne (by omega)]
        refine h.cells j hj q u ?_
        rw [← hu]
        rcases (by omega : q = 0 ∨ q = 1 ∨ q = 2 ∨ q = 3 ∨ q = 4 ∨ q = 5 ∨ q = 6) with rfl | rfl | rfl | rfl | rfl | rfl | rfl <;> rfl
    · rw [if_neg e, if_neg e]
      intro q u hu
      have hq : q < 8 := by have := (List.getElem?_eq_some_iff.1 hu).1; simpa [cells8] using this
      rw [List.getElem?_set_ne (by omega)]
      exact h.cells j hj q u hu
  · by_cases e : j = i
    · subst e
      rw [if_pos rfl, if_pos rfl]
      exact kept hn
    · rw [if_neg e, if_neg e]
      exact kept (h.own j hj)

/-- Eight cells stored, one behind the other. -/
def set8 (w : World) (g o : Nat) (s : St) (nv : Value) : World := (((((((w.setCell ⟨g, o, none⟩ (.int .i64 s.kind)).setCell ⟨g, o + 1, none⟩ (.int .i64 s.dst)).setCell ⟨g, o + 2, none⟩ (.int .i64 s.op)).setCell ⟨g, o + 3, none⟩ (.int .i64 s.av)).setCell ⟨g, o + 4, none⟩ (.int .i64 s.an)).setCell ⟨g, o + 5, none⟩ (.int .i64 s.bv)).setCell ⟨g, o + 6, none⟩ (.int .i64 s.bn)).setCell ⟨g, o + 7, none⟩ nv

theorem set8_below {B : Nat} {a w : World} {g o : Nat} {s : St} {nv : Value} (h : Below B a w) (hg : B ≤ g) : Below B a (set8 w g o s nv) :=
  (((((((h.setCell hg _).setCell hg _).setCell hg _).setCell hg _).setCell hg _).setCell hg _).setCell hg _).setCell hg _

theorem set8_size (w : World) (g o : Nat) (s : St) (nv : Value) : (set8 w g o s nv).heap.size = w.heap.size := by simp [set8, World.setCell]

theorem set8_block (w : World) (g o : Nat) (s : St) (nv : Value) (k : Nat) (h : k ≠ g) : (set8 w g o s nv).heap[k]? = w.heap[k]? := by
  unfold set8
  rw [Below.heap_setCell _ _ _ _ h, Below.heap_setCell _ _ _ _ h, Below.heap_setCell _ _ _ _ h, Below.heap_setCell _ _ _ _ h, Below.heap_setCell _ _ _ _ h, Below.heap_setCell _ _ _ _ h, Below.heap_setCell _ _ _ _ h, Below.heap_setCell _ _ _ _ h]

/-- One step in another one's place, its list in a block that is laid behind. -/
theorem PF.putStep {lo N i g c : Nat} {w : World} {F : Nat → St} {xs : List Value} {nvs : Nat → Value} {nv : Value} {s : St} {O : Obj} {o : Nat} (ho : i * 8 = o) (h : PF lo w (.slice (some ⟨g, 0, none⟩) N c) N F xs nvs) (hi : i < N) (hn : ((set8 w g o s nv).alloc O).ownsRow lo 3 1 nv s.next.length (s.next.map (Value.int .i64))) :
    ∃ ys, PF lo ((set8 w g o s nv).alloc O) (.slice (some ⟨g, 0, none⟩) N c) N (fun j => if j = i then s else F j) ys (fun j => if j = i then nv else nvs j) := by
  subst ho
  have kept : ∀ {w : World} {xs : List Value} {b q : Nat} {y u : Value} {n : Nat} {ys : List Value}, w.ownsRow lo 77 8 (.slice (some ⟨g, 0, none⟩) N c) N xs → w.ownsRow b 3 1 y n ys → (w.setCell ⟨g, q, none⟩ u).ownsRow b 3 1 y n ys := by
    intro w xs b q y u n ys hr hy
    refine hy.kept (hr.stored q u).2 ?_
    rcases own_diff hy hr (by decide) with e | e
    · exact Or.inl e
    · exact Or.inr e
  have hlen : xs.length = N * 8 := h.row.1
  have r0 := h.row
  have r1 := (r0.stored (i * 8) (.int .i64 s.kind)).1
  have r2 := (r1.stored (i * 8 + 1) (.int .i64 s.dst)).1
  have r3 := (r2.stored (i * 8 + 2) (.int .i64 s.op)).1
  have r4 := (r3.stored (i * 8 + 3) (.int .i64 s.av)).1
  have r5 := (r4.stored (i * 8 + 4) (.int .i64 s.an)).1
  have r6 := (r5.stored (i * 8 + 5) (.int .i64 s.bv)).1
  have r7 := (r6.stored (i * 8 + 6) (.int .i64 s.bn)).1
  have r8 := (r7.stored (i * 8 + 7) nv).1
  refine ⟨_, World.ownsRow.alloc r8 O, fun j hj => ?_, fun j hj => ?_⟩
  · by_cases e : j = i
    · subst e
      rw [if_pos rfl, if_pos rfl]
      intro q u hu
      have hq : q < 8 := by have := (List.getElem?_eq_some_iff.1 hu).1; simpa [cells8] using this
      rcases (by omega : q = 0 ∨ q = 1 ∨ q = 2 ∨ q = 3 ∨ q = 4 ∨ q = 5 ∨ q = 6 ∨ q = 7) with rfl | rfl | rfl | rfl | rfl | rfl | rfl | rfl <;> (simp [cells8] at hu; subst hu; simp [List.getElem?_set, hlen]; omega)
    · rw [if_neg e, if_neg e]
      intro q u hu
      have hq : q < 8 := by have := (List.getElem?_eq_some_iff.1 hu).1; simpa [cells8] using this
      rw [List.getElem?_set_ne (by omega), List.getElem?_set_ne (by omega), List.getElem?_set_ne (by omega), List.getElem?_set_ne (by omega), List.getElem?_set_ne (by omega), List.getElem?_set_ne (by omega), List.getElem?_set_ne (by omega), List.getElem?_set_ne (by omega)]
      exact h.cells j hj q u hu
  · by_cases e : j = i
    · subst e
      rw [if_pos rfl, if_pos rfl]
      exact hn
    · rw [if_neg e, if_neg e]
      exact (kept r7 (kept r6 (kept r5 (kept r4 (kept r3 (kept r2 (kept r1 (kept r0 (h.own j hj)))))))) : (set8 w g (i * 8) s nv).ownsRow _ _ _ _ _ _).alloc O

/-- One step more at the end. -/
theorem PF.snoc {lo N : Nat} {W w' : World} {v v' nv : Value} {F : Nat → St} {s : St} {xs : List Value} {nvs : Nat → Value} (h : PF lo W v N F xs nvs)
    (hx : W.ownsRow lo 3 1 nv s.next.length (s.next.map (Value.int .i64))) (hg : W.grownBy w' v.ownBlock) (hown : w'.ownsRow lo 77 8 v' (N + 1) (xs ++ cells8 s nv)) :
    PF lo w' v' (N + 1) (fun i => if i = N then s else F i) (xs ++ cells8 s nv) (fun i => if i = N then nv else nvs i) := by
  have kept : ∀ {b : Nat} {y : Value} {n : Nat} {ys : List Value}, W.ownsRow b 3 1 y n ys → w'.ownsRow b 3 1 y n ys := by
    intro b y n ys hy
    refine hy.kept hg ?_
    rcases own_diff hy h.row (by decide) with e | e
    · exact Or.inl e
    · exact Or.inr e
  have hlen : xs.length = N * 8 := h.row.1
  refine ⟨hown, fun i hi => ?_, fun i hi => ?_⟩
  · by_cases e : i = N
    · subst e
      rw [if_pos rfl, if_pos rfl]
      intro j u hu
      rw [List.getElem?_append_right (by omega), hlen]
      rwa [show i * 8 + j - i * 8 = j by omega]
    · rw [if_neg e, if_neg e]
      intro j u hu
      have hj : j < 8 := by have := (List.getElem?_eq_some_iff.1 hu).1; simpa [cells8] using this
      rw [List.getElem?_append_left (by omega)]
      exact h.cells i (by omega) j u hu
  · by_cases e : i = N
    · subst e
      rw [if_pos rfl, if_pos rfl]
      exact kept hx
    · rw [if_neg e, if_neg e]
      exact kept (h.own i (by omega))
end Go.Proofs.Ytfbmeciolflgnaa
namespace Go.Proofs.Ytfbmeciolflgnaa
open Go.RowKit

theorem PF.turn {lo N i g c t : Nat} {w : World} {v : Value} {F : Nat → St} {xs : List Value} {nvs : Nat → Value} (h : PF lo w v N F xs nvs) (ap : Apart nvs N) (hi : i < N) (hv : nvs i = .slice (some ⟨g, 0, none⟩) (F i).next.length c) (z : Int) :
    PF lo (w.setCell ⟨g, t, none⟩ (.int .i64 z)) v N (fun j => if j = i then { F i with next := (F i).next.set t z } else F j) xs nvs := by
  have ho := h.own i hi
  rw [hv] at ho
  obtain ⟨s1, s2⟩ := ho.stored t (.int .i64 z)
  have kept : ∀ {b : Nat} {e : TypeId} {m : Nat} {y : Value} {n : Nat} {ys : List Value}, w.ownsRow b e m y n ys → y.ownBlock ≠ some g → (w.setCell ⟨g, t, none⟩ (.int .i64 z)).ownsRow b e m y n ys := by
    intro b e m y n ys hy hne
    exact hy.kept s2 (Or.inr hne)
  have hrow : v.ownBlock ≠ some g := by
    rcases own_diff h.row ho (by decide) with e | e
    · rw [e]; simp
    · exact e
  refine ⟨kept h.row hrow, fun j hj => ?_, fun j hj => ?_⟩
  · by_cases e : j = i
    · subst e
      rw [if_pos rfl]
      exact h.cells j hj
    · rw [if_neg e]
      exact h.cells j hj
  · by_cases e : j = i
    · subst e
      rw [if_pos rfl]
      simp only [List.length_set, List.map_set]
      rw [hv]
      exact s1
    · rw [if_neg e]
      exact kept (h.own j hj) (ap i j g hi hj (Ne.symm e) (by rw [hv]; rfl))

/-- A store into a row leaves rows of other types. -/
theorem own_store {w : World} {b1 b2 m1 m2 n1 n2 g c q : Nat} {e1 e2 : TypeId} {y u : Value} {xs ys : List Value} (hy : w.ownsRow b1 e1 m1 y n1 ys) (hr : w.ownsRow b2 e2 m2 (.slice (some ⟨g, 0, none⟩) n2 c) n2 xs) (he : e1 ≠ e2) : (w.setCell ⟨g, q, none⟩ u).ownsRow b1 e1 m1 y n1 ys := by
  refine hy.kept (hr.stored q u).2 ?_
  rcases own_diff hy hr he with e | e
  · exact Or.inl e
  · exact Or.inr e

/-- So does an append to it. -/
theorem own_grow {w w' : World} {b1 b2 m1 m2 n1 n2 : Nat} {e1 e2 : TypeId} {y v : Value} {xs ys : List Value} (hy : w.ownsRow b1 e1 m1 y n1 ys) (hr : w.ownsRow b2 e2 m2 v n2 xs) (he : e1 ≠ e2) (hg : w.grownBy w' v.ownBlock) : w'.ownsRow b1 e1 m1 y n1 ys := by
  refine hy.kept hg ?_
  rcases own_diff hy hr he with e | e
  · exact Or.inl e
  · exact Or.inr e

theorem own_keepB {w w' : World} {b1 m1 n1 : Nat} {e1 : TypeId} {y : Value} {ys : List Value} (hy : w.ownsRow b1 e1 m1 y n1 ys) (hb : Below w.heap.size w w') : w'.ownsRow b1 e1 m1 y n1 ys :=
  ownsRow_out hy (Out.of_below (lo := 0) (hi := 0) hb) (fun _ _ => Or.inr (Nat.zero_le _))

/-- A store into the box leaves the program. -/
theorem PF.box {lo N D q b2 n2 c : Nat} {w : World} {v u : Value} {F : Nat → St} {xs bs : List Value} {nvs : Nat → Value} (h : PF lo w v N F xs nvs) (hr : w.ownsRow b2 30 1 (.slice (some ⟨D, 0, none⟩) n2 c) n2 bs) : PF lo (w.setCell ⟨D, q, none⟩ u) v N F xs nvs :=
  ⟨own_store h.row hr (by decide), h.cells, fun i hi => own_store (h.own i hi) hr (by decide)⟩
end Go.Proofs.Ytfbmeciolflgnaa
