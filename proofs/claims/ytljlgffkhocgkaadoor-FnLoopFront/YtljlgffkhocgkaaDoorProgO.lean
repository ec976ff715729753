/- A program that the call itself has made, rows that it owns: a step more, a way turned. -/
import Derived.Test.YtljlgffkhocgkaaDoorOwnK
import Derived.Test.YtljlgffkhocgkaaDoorRowsO
import Derived.Test.YtljlgffkhocgkaaDoorNiceOwn
namespace Go.Proofs.YtljlgffkhocgkaaDoor
open Go.RowKit

/-- The eight cells of a step. -/
def cells8 (s : St) (nv : Value) : List Value := [.int .i64 s.kind, .int .i64 s.dst, .int .i64 s.op, .int .i64 s.av, .int .i64 s.an, .int .i64 s.bv, .int .i64 s.bn, nv]

/-- A step's cells in a list, from an offset on. -/
def StepX (xs : List Value) (o : Nat) (s : St) (nv : Value) : Prop := ∀ j u, (cells8 s nv)[j]? = some u → xs[o + j]? = some u

theorem StepX.cells {xs : List Value} {o : Nat} {s : St} {nv : Value} (h : StepX xs o s nv) : xs[o]? = some (.int .i64 s.kind) ∧ xs[o + 1]? = some (.int .i64 s.dst) ∧ xs[o + 2]? = some (.int .i64 s.op) ∧ xs[o + 3]? = some (.int .i64 s.av) ∧ xs[o + 4]? = some (.int .i64 s.an) ∧ xs[o + 5]? = some (.int .i64 s.bv) ∧ xs[o + 6]? = some (.int .i64 s.bn) ∧ xs[o + 7]? = some nv :=
  ⟨h 0 _ rfl, h 1 _ rfl, h 2 _ rfl, h 3 _ rfl, h 4 _ rfl, h 5 _ rfl, h 6 _ rfl, h 7 _ rfl⟩

structure PO (lo : Nat) (w : World) (v : Value) (ss : List St) (xs : List Value) (nvs : Nat → Value) : Prop where
  row : w.ownsRow lo 62 8 v ss.length xs
  cells : ∀ (i : Nat) (s : St), ss[i]? = some s → StepX xs (i * 8) s (nvs i)
  own : ∀ (i : Nat) (s : St), ss[i]? = some s → w.ownsRow lo 3 1 (nvs i) s.next.length (s.next.map (Value.int .i64))
  apart : ∀ i j k, i < ss.length → j < ss.length → i ≠ j → (nvs i).ownBlock = some k → (nvs j).ownBlock ≠ some k

theorem PO.nil (lo : Nat) (w : World) (nvs : Nat → Value) : PO lo w (.slice none 0 0) [] [] nvs :=
  ⟨World.ownsRow_nil _ _ _ _, by simp, by simp, by simp⟩

theorem PO.out {lo lo' hi' : Nat} {w w' : World} {v : Value} {ss : List St} {xs : List Value} {nvs : Nat → Value} (h : PO lo w v ss xs nvs) (ho : Out lo' hi' w w') (hr : hi' ≤ lo) : PO lo w' v ss xs nvs :=
  ⟨ownsRow_out h.row ho (fun k hk => by have := (h.row.lt k hk).1; omega), h.cells, fun i s hs => ownsRow_out (h.own i s hs) ho (fun k hk => by have := ((h.own i s hs).lt k hk).1; omega), h.apart⟩

theorem PO.keep {lo : Nat} {w w' : World} {v : Value} {ss : List St} {xs : List Value} {nvs : Nat → Value} (h : PO lo w v ss xs nvs) (hb : Below w.heap.size w w') : PO lo w' v ss xs nvs :=
  h.out (Out.of_below (lo := 0) (hi := 0) hb) (Nat.zero_le _)

theorem PO.below {lo : Nat} {w : World} {v : Value} {ss : List St} {xs : List Value} {nvs : Nat → Value} (h : PO lo w v ss xs nvs) {a : Addr} (ha : a.block < lo) (u : Value) : PO lo (w.setCell a u) v ss xs nvs :=
  ⟨ownsRow_setCell_below h.row ha u, h.cells, fun i s hs => ownsRow_setCell_below (h.own i s hs) ha u, h.apart⟩

theorem PO.lower {lo lo' : Nat} {w : World} {v : Value} {ss : List St} {xs : List Value} {nvs : Nat → Value} (h : PO lo w v ss xs nvs) (hl : lo' ≤ lo) : PO lo' w v ss xs nvs :=
  ⟨own_lower h.row hl, h.cells, fun i s hs => own_lower (h.own i s hs) hl, h.apart⟩

theorem own_ints {w : World} {lo : Nat} {v : Value} {zs : List Int} (h : w.ownsRow lo 3 1 v zs.length (zs.map (Value.int .i64))) : IntsAt w v zs :=
  IntsO.at (lo := lo) (hi := w.heap.size) ⟨h, fun k hk => (h.lt k hk).2⟩

theorem PO.slice {lo : Nat} {w : World} {v : Value} {ss : List St} {xs : List Value} {nvs : Nat → Value} (h : PO lo w v ss xs nvs) : ∃ A c, v = .slice A ss.length c ∧ ∀ i, i < ss.length → ∃ g, A = some ⟨g, 0, none⟩ ∧ lo ≤ g ∧ g < w.heap.size := by
  rcases id h.row.2 with ⟨e, e2⟩ | ⟨g, c, _, e, _⟩
  · exact ⟨none, 0, by rw [e2]; exact e, fun i hi => by omega⟩
  · exact ⟨_, _, e, fun _ _ => ⟨g, rfl, (h.row.lt g (by rw [e]; rfl)).1, (h.row.lt g (by rw [e]; rfl)).2⟩⟩

theorem PO.at {lo : Nat} {w : World} {v : Value} {ss : List St} {xs : List Value} {nvs : Nat → Value} (h : PO lo w v ss xs nvs) : StepsAt w v ss := by
  rcases id h.row.2 with ⟨e, e2⟩ | ⟨g, cap, cur, e, _⟩
  · refine ⟨none, 0, 0, 0, by rw [e2]; exact e, fun hp => by omega, fun i s hs => ?_⟩
    have := (List.getElem?_eq_some_iff.1 hs).1
    omega
  · refine ⟨_, g, 0, cap, e, fun _ => rfl, fun i s hs => ⟨nvs i, ?_, own_ints (h.own i s hs)⟩⟩
    have hi := (List.getElem?_eq_some_iff.1 hs).1
    have hrow := h.row
    rw [e] at hrow
    obtain ⟨c0, c1, c2, c3, c4, c5, c6, c7⟩ := (h.cells i s hs).cells
    have rd : ∀ j, j < 8 → w.cell? ⟨g, i * 8 + j, none⟩ = xs[i * 8 + j]? := fun j hj => hrow.cellAt _ (by omega)
    refine ⟨?_, ?_, ?_, ?_, ?_, ?_, ?_, ?_⟩
    · rw [Nat.zero_add]; exact (rd 0 (by omega)).trans c0
    · rw [Nat.zero_add]; exact (rd 1 (by omega)).trans c1
    · rw [Nat.zero_add]; exact (rd 2 (by omega)).trans c2
    · rw [Nat.zero_add]; exact (rd 3 (by omega)).trans c3
    · rw [Nat.zero_add]; exact (rd 4 (by omega)).trans c4
    · rw [Nat.zero_add]; exact (rd 5 (by omega)).trans c5
    · rw [Nat.zero_add]; exact (rd 6 (by omega)).trans c6
    · rw [Nat.zero_add]; exact (rd 7 (by omega)).trans c7

theorem own_nice {w : World} {lo n m : Nat} {e : TypeId} {v : Value} {xs : List Value} (h : w.ownsRow lo e m v n xs) : Nice v := by
  intro a c hv
  rcases h.2 with ⟨e, _⟩ | ⟨g, cap, cur, e, _⟩
  · rw [e] at hv; cases hv; exact ⟨rfl, rfl⟩
  · rw [e] at hv; cases hv

theorem PO.n {lo : Nat} {w : World} {v : Value} {ss : List St} {xs : List Value} {nvs : Nat → Value} (h : PO lo w v ss xs nvs) : StepsN w v ss := by
  obtain ⟨ao, b, o, cap, hv, ha, hc⟩ := h.at
  rcases id h.row.2 with ⟨e, e2⟩ | ⟨g, cap2, cur, e, _⟩
  · exact ⟨ao, b, o, cap, hv, ha, fun i s hs => by have := (List.getElem?_eq_some_iff.1 hs).1; omega⟩
  · refine ⟨ao, b, o, cap, hv, ha, fun i s hs => ?_⟩
    have hi := (List.getElem?_eq_some_iff.1 hs).1
    obtain ⟨nv, h1, h2⟩ := hc i s hs
    refine ⟨nv, h1, h2, ?_⟩
    have hao := ha (by omega)
    rw [hao, e] at hv
    cases hv
    have hrow := h.row
    rw [e] at hrow
    have c7 := hrow.cellAt (i * 8 + 7) (by omega)
    rw [(h.cells i s hs).cells.2.2.2.2.2.2.2] at c7
    have c7' := h1.c7
    rw [Nat.zero_add, c7] at c7'
    cases c7'
    exact own_nice (h.own i s hs)

/-- One step more at the end, its list newer than all that lies there. -/
theorem PO.snoc {lo hi sb : Nat} {W w' : World} {v v' nv : Value} {ss : List St} {s : St} {xs : List Value} {nvs : Nat → Value} (h : PO lo W v ss xs nvs) (hh : ∀ i k, i < ss.length → (nvs i).ownBlock = some k → k < hi)
    (hx : W.ownsRow sb 3 1 nv s.next.length (s.next.map (Value.int .i64))) (hs : hi ≤ sb) (hlo : lo ≤ sb) (hg : W.grownBy w' v.ownBlock) (hown : w'.ownsRow lo 62 8 v' (ss.length + 1) (xs ++ cells8 s nv)) :
    PO lo w' v' (ss ++ [s]) (xs ++ cells8 s nv) (fun i => if i = ss.length then nv else nvs i) := by
  have kept : ∀ {b : Nat} {y : Value} {n : Nat} {ys : List Value}, W.ownsRow b 3 1 y n ys → w'.ownsRow b 3 1 y n ys := by
    intro b y n ys hy
    refine hy.kept hg ?_
    rcases own_diff hy h.row (by decide) with e | e
    · exact Or.inl e
    · exact Or.inr e
  have hlen : xs.length = ss.length * 8 := h.row.1
  refine ⟨by simpa using hown, fun i t ht => ?_, fun i t ht => ?_, fun i j k hi hj hij => ?_⟩
  · by_cases hi : i < ss.length
    · rw [List.getElem?_append_left hi] at ht
      rw [if_neg (by omega)]
      intro j u hu
      have hj : j < 8 := by have := (List.getElem?_eq_some_iff.1 hu).1; simpa [cells8] using this
      rw [List.getElem?_append_left (by omega)]
      exact h.cells i t ht j u hu
    · have l := (List.getElem?_eq_some_iff.1 ht).1
      simp at l
      have e : i = ss.length := by omega
      subst e
      simp at ht
      subst ht
      rw [if_pos rfl]
      intro j u hu
      rw [List.getElem?_append_right (by omega), hlen]
      rwa [show ss.length * 8 + j - ss.length * 8 = j by omega]
  · by_cases hi : i < ss.length
    · rw [List.getElem?_append_left hi] at ht
      rw [if_neg (by omega)]
      exact kept (h.own i t ht)
    · have l := (List.getElem?_eq_some_iff.1 ht).1
      simp at l
      have e : i = ss.length := by omega
      subst e
      simp at ht
      subst ht
      rw [if_pos rfl]
      exact own_lower (kept hx) hlo
  · simp at hi hj
    by_cases e1 : i = ss.length <;> by_cases e2 : j = ss.length
    · omega
    · rw [if_pos e1, if_neg e2]
      intro hk hk2
      have o1 := (hx.lt k hk).1
      have o2 := hh j k (by omega) hk2
      omega
    · rw [if_neg e1, if_pos e2]
      intro hk hk2
      have o1 := (hx.lt k hk2).1
      have o2 := hh i k (by omega) hk
      omega
    · rw [if_neg e1, if_neg e2]
      exact h.apart i j k (by omega) (by omega) hij

theorem cells8_one (s : St) (A : Option Addr) (n c : Nat) : ∀ u ∈ cells8 s (.slice A n c), u.oneCell' = true := by
  intro u hu
  simp [cells8] at hu
  rcases hu with rfl | rfl | rfl | rfl | rfl | rfl | rfl | rfl <;> rfl

theorem cells8_new (W : World) (s : St) (nv : Value) (t : TypeId) {k : Nat} (hk : k = W.heap.size) : ∀ j x, (cells8 s nv)[j]? = some x → (W.alloc (.cells #[.int .i64 s.kind, .int .i64 s.dst, .int .i64 s.op, .int .i64 s.av, .int .i64 s.an, .int .i64 s.bv, .int .i64 s.bn, nv] t)).cell? ((⟨k, 0, none⟩ : Addr).add j) = some x := by
  subst hk
  intro j x hj
  match j, hj with
  | 0, hj => simp [cells8] at hj; subst hj; simp [Addr.add]
  | 1, hj => simp [cells8] at hj; subst hj; simp [Addr.add]
  | 2, hj => simp [cells8] at hj; subst hj; simp [Addr.add]
  | 3, hj => simp [cells8] at hj; subst hj; simp [Addr.add]
  | 4, hj => simp [cells8] at hj; subst hj; simp [Addr.add]
  | 5, hj => simp [cells8] at hj; subst hj; simp [Addr.add]
  | 6, hj => simp [cells8] at hj; subst hj; simp [Addr.add]
  | 7, hj => simp [cells8] at hj; subst hj; simp [Addr.add]
  | j + 8, hj => simp [cells8] at hj

/-- A way turned in place. -/
theorem PO.setNext {lo : Nat} {w : World} {v : Value} {ss : List St} {xs : List Value} {nvs : Nat → Value} (h : PO lo w v ss xs nvs) {i g c t : Nat} {s : St} (hs : ss[i]? = some s) (hv : nvs i = .slice (some ⟨g, 0, none⟩) s.next.length c) (z : Int) :
    PO lo (w.setCell ⟨g, t, none⟩ (.int .i64 z)) v (ss.set i { s with next := s.next.set t z }) xs nvs := by
  have hi := (List.getElem?_eq_some_iff.1 hs).1
  have ho := h.own i s hs
  rw [hv] at ho
  obtain ⟨s1, s2⟩ := ho.stored t (.int .i64 z)
  have kept : ∀ {b : Nat} {e : TypeId} {m : Nat} {y : Value} {n : Nat} {ys : List Value}, w.ownsRow b e m y n ys → y.ownBlock ≠ some g → (w.setCell ⟨g, t, none⟩ (.int .i64 z)).ownsRow b e m y n ys := by
    intro b e m y n ys hy hne
    exact hy.kept s2 (Or.inr hne)
  have hrow : v.ownBlock ≠ some g := by
    rcases own_diff h.row ho (by decide) with e | e
    · rw [e]; simp
    · exact e
  refine ⟨by simpa using kept h.row hrow, fun j q hq => ?_, fun j q hq => ?_, by simpa using h.apart⟩
  · by_cases e : j = i
    · subst e
      rw [List.getElem?_set_self hi] at hq
      cases hq
      exact h.cells j s hs
    · rw [List.getElem?_set_ne (Ne.symm e)] at hq
      exact h.cells j q hq
  · by_cases e : j = i
    · subst e
      rw [List.getElem?_set_self hi] at hq
      cases hq
      simp only [List.length_set, List.map_set]
      rw [hv]
      exact s1
    · rw [List.getElem?_set_ne (Ne.symm e)] at hq
      have hj := (List.getElem?_eq_some_iff.1 hq).1
      refine kept (h.own j q hq) ?_
      exact h.apart i j g hi hj (Ne.symm e) (by rw [hv]; rfl)
end Go.Proofs.YtljlgffkhocgkaaDoor
