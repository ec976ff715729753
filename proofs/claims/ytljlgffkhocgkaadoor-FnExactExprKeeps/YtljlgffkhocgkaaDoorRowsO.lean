/- Rows that a call owns, and rows of such: of numbers, of bools. -/
import Derived.Test.YtljlgffkhocgkaaDoorKit
namespace Go.Proofs.YtljlgffkhocgkaaDoor
open Go.RowKit

/-- An answer of numbers, its row in a block from lo on, below hi. -/
def IntsO (lo hi : Nat) (w : World) (v : Value) (bs : List Int) : Prop :=
  w.ownsRow lo 3 1 v bs.length (bs.map (Value.int .i64)) ∧ ∀ k, v.ownBlock = some k → k < hi

theorem IntsO.of {lo : Nat} {w : World} {v : Value} {bs : List Int} (h : w.ownsRow lo 3 1 v bs.length (bs.map (Value.int .i64))) : IntsO lo w.heap.size w v bs := ⟨h, fun k hk => (h.lt k hk).2⟩

theorem IntsO.keep {lo hi : Nat} {w w' : World} {v : Value} {bs : List Int} (h : IntsO lo hi w v bs) (hb : Below w.heap.size w w') : IntsO lo hi w' v bs :=
  ⟨ownsRow_out h.1 (Out.of_below (lo := 0) (hi := 0) hb) (fun _ _ => Or.inr (Nat.zero_le _)), h.2⟩

theorem IntsO.out {lo hi lo' hi' : Nat} {w w' : World} {v : Value} {bs : List Int} (h : IntsO lo hi w v bs) (ho : Out lo' hi' w w') (hr : hi ≤ lo' ∨ hi' ≤ lo) : IntsO lo hi w' v bs :=
  ⟨ownsRow_out h.1 ho (fun k hk => by have := h.2 k hk; have := (h.1.lt k hk).1; omega), h.2⟩

theorem IntsO.slice {lo hi : Nat} {w : World} {v : Value} {bs : List Int} (h : IntsO lo hi w v bs) : ∃ A c, v = .slice A bs.length c := by
  rcases h.1.2 with ⟨e, e2⟩ | ⟨g', c, _, e, _⟩
  · exact ⟨none, 0, by rw [e2]; exact e⟩
  · exact ⟨_, _, e⟩

/-- What the walk reads. -/
theorem IntsO.read {lo hi : Nat} {w : World} {v : Value} {bs : List Int} (h : IntsO lo hi w v bs) : ∃ ao g cap, v = .slice ao bs.length cap ∧ ∀ i, i < bs.length → ao = some ⟨g, 0, none⟩ ∧ w.cell? ⟨g, i, none⟩ = some (.int .i64 (bs.getD i 0)) ∧ w.frozen? ⟨g, i, none⟩ = false ∧ lo ≤ g ∧ g < hi := by
  rcases id h.1.2 with ⟨e, e2⟩ | ⟨g, cap, cur, e, _⟩
  · exact ⟨none, 0, 0, by rw [e2]; exact e, fun i hi => by omega⟩
  · refine ⟨some ⟨g, 0, none⟩, g, cap, e, fun i hi => ⟨rfl, ?_, ?_, ?_, ?_⟩⟩
    · have h1 := h.1
      rw [e] at h1
      rw [h1.cellAt i (by omega)]
      simp [hi]
    · have h1 := h.1
      rw [e] at h1
      exact h1.frozenAt i
    · exact (h.1.lt g (by rw [e]; rfl)).1
    · exact h.2 g (by rw [e]; rfl)

theorem IntsO.at {lo hi : Nat} {w : World} {v : Value} {zs : List Int} (h : IntsO lo hi w v zs) : IntsAt w v zs := by
  obtain ⟨ao, g, cap, hv, hc⟩ := h.read
  exact ⟨ao, g, 0, cap, hv, fun hp => (hc 0 hp).1, fun i hi => by rw [Nat.zero_add]; exact (hc i hi).2.1⟩

/-- An answer of bools, its row in a block from lo on, below hi. -/
def BoolsOwn (lo hi : Nat) (w : World) (v : Value) (bs : List Bool) : Prop :=
  w.ownsRow lo 4 1 v bs.length (bs.map Value.bool) ∧ ∀ k, v.ownBlock = some k → k < hi

theorem BoolsOwn.of {lo : Nat} {w : World} {v : Value} {bs : List Bool} (h : w.ownsRow lo 4 1 v bs.length (bs.map Value.bool)) : BoolsOwn lo w.heap.size w v bs := ⟨h, fun k hk => (h.lt k hk).2⟩

theorem BoolsOwn.keep {lo hi : Nat} {w w' : World} {v : Value} {bs : List Bool} (h : BoolsOwn lo hi w v bs) (hb : Below w.heap.size w w') : BoolsOwn lo hi w' v bs :=
  ⟨ownsRow_out h.1 (Out.of_below (lo := 0) (hi := 0) hb) (fun _ _ => Or.inr (Nat.zero_le _)), h.2⟩

theorem BoolsOwn.out {lo hi lo' hi' : Nat} {w w' : World} {v : Value} {bs : List Bool} (h : BoolsOwn lo hi w v bs) (ho : Out lo' hi' w w') (hr : hi ≤ lo' ∨ hi' ≤ lo) : BoolsOwn lo hi w' v bs :=
  ⟨ownsRow_out h.1 ho (fun k hk => by have := h.2 k hk; have := (h.1.lt k hk).1; omega), h.2⟩

theorem BoolsOwn.slice {lo hi : Nat} {w : World} {v : Value} {bs : List Bool} (h : BoolsOwn lo hi w v bs) : ∃ A c, v = .slice A bs.length c := by
  rcases h.1.2 with ⟨e, e2⟩ | ⟨g', c, _, e, _⟩
  · exact ⟨none, 0, by rw [e2]; exact e⟩
  · exact ⟨_, _, e⟩

/-- What the walk reads. -/
theorem BoolsOwn.read {lo hi : Nat} {w : World} {v : Value} {bs : List Bool} (h : BoolsOwn lo hi w v bs) : ∃ ao g cap, v = .slice ao bs.length cap ∧ ∀ i, i < bs.length → ao = some ⟨g, 0, none⟩ ∧ w.cell? ⟨g, i, none⟩ = some (.bool (bs.getD i false)) ∧ w.frozen? ⟨g, i, none⟩ = false ∧ lo ≤ g ∧ g < hi := by
  rcases id h.1.2 with ⟨e, e2⟩ | ⟨g, cap, cur, e, _⟩
  · exact ⟨none, 0, 0, by rw [e2]; exact e, fun i hi => by omega⟩
  · refine ⟨some ⟨g, 0, none⟩, g, cap, e, fun i hi => ⟨rfl, ?_, ?_, ?_, ?_⟩⟩
    · have h1 := h.1
      rw [e] at h1
      rw [h1.cellAt i (by omega)]
      simp [hi]
    · have h1 := h.1
      rw [e] at h1
      exact h1.frozenAt i
    · exact (h.1.lt g (by rw [e]; rfl)).1
    · exact h.2 g (by rw [e]; rfl)

/-- An answer of rows, all in blocks from lo on, below hi, no two in one. -/
def RowsI (lo hi : Nat) (w : World) (v : Value) (zss : List (List Int)) : Prop :=
  ∃ vs : List Value, vs.length = zss.length ∧ w.ownsRow lo 55 1 v zss.length vs ∧ (∀ k, v.ownBlock = some k → k < hi) ∧ (∀ (i : Nat) (x : Value) (zs : List Int), vs[i]? = some x → zss[i]? = some zs → IntsO lo hi w x zs) ∧
    (∀ (i j : Nat) (a b : Value) (k : Nat), vs[i]? = some a → vs[j]? = some b → i ≠ j → a.ownBlock = some k → b.ownBlock ≠ some k)

theorem RowsI.keep {lo hi : Nat} {w w' : World} {v : Value} {zss : List (List Int)} (h : RowsI lo hi w v zss) (hb : Below w.heap.size w w') : RowsI lo hi w' v zss := by
  obtain ⟨vs, h1, h2, h3, h4, h5⟩ := h
  exact ⟨vs, h1, ownsRow_out h2 (Out.of_below (lo := 0) (hi := 0) hb) (fun _ _ => Or.inr (Nat.zero_le _)), h3, fun i x zs a b => (h4 i x zs a b).keep hb, h5⟩

theorem RowsI.out {lo hi lo' hi' : Nat} {w w' : World} {v : Value} {zss : List (List Int)} (h : RowsI lo hi w v zss) (ho : Out lo' hi' w w') (hr : hi ≤ lo' ∨ hi' ≤ lo) : RowsI lo hi w' v zss := by
  obtain ⟨vs, h1, h2, h3, h4, h5⟩ := h
  exact ⟨vs, h1, ownsRow_out h2 ho (fun k hk => by have := h3 k hk; have := (h2.lt k hk).1; omega), h3, fun i x zs a b => (h4 i x zs a b).out ho hr, h5⟩

theorem RowsI.slice {lo hi : Nat} {w : World} {v : Value} {zss : List (List Int)} (h : RowsI lo hi w v zss) : ∃ A c, v = .slice A zss.length c := by
  obtain ⟨vs, h1, h2, _⟩ := h
  rcases h2.2 with ⟨e, e2⟩ | ⟨g', c, _, e, _⟩
  · exact ⟨none, 0, by rw [e2]; exact e⟩
  · exact ⟨_, _, e⟩

theorem RowsI.lower {lo lo' hi : Nat} {w : World} {v : Value} {zss : List (List Int)} (h : RowsI lo hi w v zss) (hl : lo' ≤ lo) : RowsI lo' hi w v zss := by
  obtain ⟨vs, h1, h2, h3, h4, h5⟩ := h
  have low : ∀ {e : TypeId} {x : Value} {n : Nat} {xs : List Value}, w.ownsRow lo e 1 x n xs → w.ownsRow lo' e 1 x n xs := by
    intro e x n xs hx
    obtain ⟨a, b⟩ := hx
    refine ⟨a, ?_⟩
    rcases b with b | ⟨g, cap, cur, hv, hg, r⟩
    · exact Or.inl b
    · exact Or.inr ⟨g, cap, cur, hv, by omega, r⟩
  exact ⟨vs, h1, low h2, h3, fun i x zs a b => ⟨low (h4 i x zs a b).1, (h4 i x zs a b).2⟩, h5⟩

theorem RowsI.nil {lo hi : Nat} {w : World} {v : Value} (h : w.ownsRow lo 55 1 v 0 []) (hh : ∀ k, v.ownBlock = some k → k < hi) : RowsI lo hi w v [] :=
  ⟨[], rfl, h, hh, by simp, by simp⟩

/-- What the walk reads. -/
theorem RowsI.read {lo hi : Nat} {w : World} {v : Value} {zss : List (List Int)} (h : RowsI lo hi w v zss) : ∃ ao g cap, v = .slice ao zss.length cap ∧ ∀ (i : Nat) (zs : List Int), zss[i]? = some zs → ∃ x A c, ao = some ⟨g, 0, none⟩ ∧ w.cell? ⟨g, i, none⟩ = some x ∧ x = .slice A zs.length c ∧ IntsO lo hi w x zs := by
  obtain ⟨vs, h1, h2, h3, h4, h5⟩ := h
  rcases id h2.2 with ⟨e, e2⟩ | ⟨g, cap, cur, e, _⟩
  · refine ⟨none, 0, 0, by rw [e2]; exact e, fun i zs hz => ?_⟩
    have := (List.getElem?_eq_some_iff.1 hz).1
    omega
  · refine ⟨some ⟨g, 0, none⟩, g, cap, e, fun i zs hz => ?_⟩
    have hi := (List.getElem?_eq_some_iff.1 hz).1
    have hx : vs[i]? = some vs[i] := List.getElem?_eq_getElem (by omega)
    have ho := h4 i _ zs hx hz
    obtain ⟨A, c, hs⟩ := ho.slice
    subst e
    exact ⟨vs[i], A, c, rfl, by rw [h2.cellAt i (by omega)]; exact hx, hs, ho⟩

/-- An answer of rows, all in blocks from lo on, below hi, no two in one. -/
def RowsB (lo hi : Nat) (w : World) (v : Value) (zss : List (List Bool)) : Prop :=
  ∃ vs : List Value, vs.length = zss.length ∧ w.ownsRow lo 30 1 v zss.length vs ∧ (∀ k, v.ownBlock = some k → k < hi) ∧ (∀ (i : Nat) (x : Value) (zs : List Bool), vs[i]? = some x → zss[i]? = some zs → BoolsOwn lo hi w x zs) ∧
    (∀ (i j : Nat) (a b : Value) (k : Nat), vs[i]? = some a → vs[j]? = some b → i ≠ j → a.ownBlock = some k → b.ownBlock ≠ some k)

theorem RowsB.keep {lo hi : Nat} {w w' : World} {v : Value} {zss : List (List Bool)} (h : RowsB lo hi w v zss) (hb : Below w.heap.size w w') : RowsB lo hi w' v zss := by
  obtain ⟨vs, h1, h2, h3, h4, h5⟩ := h
  exact ⟨vs, h1, ownsRow_out h2 (Out.of_below (lo := 0) (hi := 0) hb) (fun _ _ => Or.inr (Nat.zero_le _)), h3, fun i x zs a b => (h4 i x zs a b).keep hb, h5⟩

theorem RowsB.out {lo hi lo' hi' : Nat} {w w' : World} {v : Value} {zss : List (List Bool)} (h : RowsB lo hi w v zss) (ho : Out lo' hi' w w') (hr : hi ≤ lo' ∨ hi' ≤ lo) : RowsB lo hi w' v zss := by
  obtain ⟨vs, h1, h2, h3, h4, h5⟩ := h
  exact ⟨vs, h1, ownsRow_out h2 ho (fun k hk => by have := h3 k hk; have := (h2.lt k hk).1; omega), h3, fun i x zs a b => (h4 i x zs a b).out ho hr, h5⟩

theorem RowsB.slice {lo hi : Nat} {w : World} {v : Value} {zss : List (List Bool)} (h : RowsB lo hi w v zss) : ∃ A c, v = .slice A zss.length c := by
  obtain ⟨vs, h1, h2, _⟩ := h
  rcases h2.2 with ⟨e, e2⟩ | ⟨g', c, _, e, _⟩
  · exact ⟨none, 0, by rw [e2]; exact e⟩
  · exact ⟨_, _, e⟩

theorem RowsB.lower {lo lo' hi : Nat} {w : World} {v : Value} {zss : List (List Bool)} (h : RowsB lo hi w v zss) (hl : lo' ≤ lo) : RowsB lo' hi w v zss := by
  obtain ⟨vs, h1, h2, h3, h4, h5⟩ := h
  have low : ∀ {e : TypeId} {x : Value} {n : Nat} {xs : List Value}, w.ownsRow lo e 1 x n xs → w.ownsRow lo' e 1 x n xs := by
    intro e x n xs hx
    obtain ⟨a, b⟩ := hx
    refine ⟨a, ?_⟩
    rcases b with b | ⟨g, cap, cur, hv, hg, r⟩
    · exact Or.inl b
    · exact Or.inr ⟨g, cap, cur, hv, by omega, r⟩
  exact ⟨vs, h1, low h2, h3, fun i x zs a b => ⟨low (h4 i x zs a b).1, (h4 i x zs a b).2⟩, h5⟩

theorem RowsB.nil {lo hi : Nat} {w : World} {v : Value} (h : w.ownsRow lo 30 1 v 0 []) (hh : ∀ k, v.ownBlock = some k → k < hi) : RowsB lo hi w v [] :=
  ⟨[], rfl, h, hh, by simp, by simp⟩

/-- What the walk reads. -/
theorem RowsB.read {lo hi : Nat} {w : World} {v : Value} {zss : List (List Bool)} (h : RowsB lo hi w v zss) : ∃ ao g cap, v = .slice ao zss.length cap ∧ ∀ (i : Nat) (zs : List Bool), zss[i]? = some zs → ∃ x A c, ao = some ⟨g, 0, none⟩ ∧ w.cell? ⟨g, i, none⟩ = some x ∧ x = .slice A zs.length c ∧ BoolsOwn lo hi w x zs := by
  obtain ⟨vs, h1, h2, h3, h4, h5⟩ := h
  rcases id h2.2 with ⟨e, e2⟩ | ⟨g, cap, cur, e, _⟩
  · refine ⟨none, 0, 0, by rw [e2]; exact e, fun i zs hz => ?_⟩
    have := (List.getElem?_eq_some_iff.1 hz).1
    omega
  · refine ⟨some ⟨g, 0, none⟩, g, cap, e, fun i zs hz => ?_⟩
    have hi := (List.getElem?_eq_some_iff.1 hz).1
    have hx : vs[i]? = some vs[i] := List.getElem?_eq_getElem (by omega)
    have ho := h4 i _ zs hx hz
    obtain ⟨A, c, hs⟩ := ho.slice
    subst e
    exact ⟨vs[i], A, c, rfl, by rw [h2.cellAt i (by omega)]; exact hx, hs, ho⟩
end Go.Proofs.YtljlgffkhocgkaaDoor
