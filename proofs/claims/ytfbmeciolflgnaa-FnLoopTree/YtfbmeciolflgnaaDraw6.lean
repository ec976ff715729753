/- A program of which one step is laid anew: what l71Spoil leaves. -/
import Derived.Test.YtfbmeciolflgnaaDraw45
import Derived.Test.YtfbmeciolflgnaaSpecCopy
namespace Go.Proofs.Ytfbmeciolflgnaa
open Go.RowKit

/-- A program that the call owns, one step's list left out. -/
structure POx (lo k : Nat) (w : World) (v : Value) (ss : List St) (xs : List Value) (nvs : Nat → Value) : Prop where
  row : w.ownsRow lo 77 8 v ss.length xs
  cells : ∀ (i : Nat) (s : St), ss[i]? = some s → StepX xs (i * 8) s (nvs i)
  own : ∀ (i : Nat) (s : St), i ≠ k → ss[i]? = some s → w.ownsRow lo 3 1 (nvs i) s.next.length (s.next.map (Value.int .i64))

theorem PO.but {lo : Nat} {w : World} {v : Value} {ss : List St} {xs : List Value} {nvs : Nat → Value} (h : PO lo w v ss xs nvs) (k : Nat) : POx lo k w v ss xs nvs :=
  ⟨h.row, h.cells, fun i s _ hs => h.own i s hs⟩

/-- What a call leaves as it was, the reader's place aside. -/
theorem POx.ex {lo k rb : Nat} {w w' : World} {v : Value} {ss : List St} {xs : List Value} {nvs : Nat → Value} (h : POx lo k w v ss xs nvs) (hx : Ex rb w w') (hr : rb < lo) : POx lo k w' v ss xs nvs :=
  ⟨own_ex h.row hx hr, h.cells, fun i s hi hs => own_ex (h.own i s hi hs) hx hr⟩

/-- The list of the step that is left out grows. -/
theorem POx.grown {lo k : Nat} {w w' : World} {v y : Value} {ss : List St} {xs : List Value} {nvs : Nat → Value} (h : POx lo k w v ss xs nvs) (hg : w.grownBy w' y.ownBlock) (h1 : v.ownBlock = none ∨ v.ownBlock ≠ y.ownBlock) (h2 : ∀ i, i < ss.length → i ≠ k → (nvs i).ownBlock = none ∨ (nvs i).ownBlock ≠ y.ownBlock) : POx lo k w' v ss xs nvs := by
  exact ⟨h.row.kept hg h1, h.cells, fun i s hi hs => (h.own i s hi hs).kept hg (h2 i (List.getElem?_eq_some_iff.1 hs).1 hi)⟩

theorem own_from {w : World} {lo : Nat} {v : Value} {zs : List Int} (h : w.ownsRow lo 3 1 v zs.length (zs.map (Value.int .i64))) : IntsFrom lo w v zs := by
  obtain ⟨ao, b, o, cap, e1, e2, e3⟩ := own_ints h
  by_cases hz : 0 < zs.length
  · have hb := e2 hz
    rw [hb] at e1
    exact ⟨_, b, o, cap, e1, fun _ => rfl, (h.lt b (by rw [e1]; rfl)).1, e3⟩
  · exact ⟨ao, lo, o, cap, e1, fun hp => absurd hp hz, Nat.le_refl _, fun t ht => absurd ht (by omega)⟩

theorem POx.put {lo k g c : Nat} {w w' : World} {ss : List St} {xs : List Value} {nvs : Nat → Value} {s' : St} {nv' : Value} (h : POx lo k w (.slice (some ⟨g, 0, none⟩) ss.length c) ss xs nvs)
    (hother : ∀ (q : Addr) (x : Value), w.cell? q = some x → q.block ≠ g → lo ≤ q.block → w'.cell? q = some x)
    (hrow : ∀ (j : Nat) (x : Value), j < k * 8 ∨ k * 8 + 8 ≤ j → w.cell? ⟨g, j, none⟩ = some x → w'.cell? ⟨g, j, none⟩ = some x)
    (hnew : StepCells w' g (k * 8) s' nv') (hI : IntsFrom lo w' nv' s'.next) (hN : Nice nv') : StepsNF lo w' (.slice (some ⟨g, 0, none⟩) ss.length c) (ss.set k s') := by
  refine ⟨some ⟨g, 0, none⟩, g, 0, c, by simp, fun _ => rfl, (h.row.lt g rfl).1, fun i s hs => ?_⟩
  rw [Nat.zero_add]
  by_cases hik : i = k
  · subst hik
    have hi := (List.getElem?_eq_some_iff.1 hs).1
    rw [List.length_set] at hi
    rw [List.getElem?_set_self hi] at hs
    cases hs
    exact ⟨nv', hnew, hI, hN⟩
  · rw [List.getElem?_set_ne (Ne.symm hik)] at hs
    have hi := (List.getElem?_eq_some_iff.1 hs).1
    have ho := h.own i s hik hs
    have rd : ∀ j u, (cells8 s (nvs i))[j]? = some u → w'.cell? ⟨g, i * 8 + j, none⟩ = some u := fun j u hu => by
      have hj : j < 8 := by have := (List.getElem?_eq_some_iff.1 hu).1; simpa [cells8] using this
      refine hrow _ _ (by omega) ?_
      rw [h.row.cellAt _ (by omega)]
      exact h.cells i s hs j u hu
    refine ⟨nvs i, ⟨rd 0 _ rfl, rd 1 _ rfl, rd 2 _ rfl, rd 3 _ rfl, rd 4 _ rfl, rd 5 _ rfl, rd 6 _ rfl, rd 7 _ rfl⟩, ?_, own_nice ho⟩
    obtain ⟨ao, b, o, cap, e1, e2, elo, e3⟩ := own_from ho
    refine ⟨ao, b, o, cap, e1, e2, elo, fun t ht => ?_⟩
    have hb := e2 (by omega)
    rw [hb] at e1
    refine hother _ _ (e3 t ht) (fun e => ?_) elo
    rcases own_diff ho h.row (by decide) with e' | e'
    · rw [e1] at e'
      simp [Value.ownBlock] at e'
    · rw [e1] at e'
      simp [Value.ownBlock] at e'
      exact e' e

/-- What is kept while one step is spoilt: the boxes, the reader, the program but its step k, the step's copy. -/
structure SI (rb : Nat) (w W : World) (ss : List St) (k g c sb : Nat) (xs : List Value) (nvs : Nat → Value) (s : St) (nv : Value) (p : Nat) : Prop where
  ex : Ex rb w W
  rd : Rd W rb p
  po : POx (w.heap.size + 2) k W (.slice (some ⟨g, 0, none⟩) ss.length c) ss xs nvs
  box : W.cell? ⟨w.heap.size, 0, none⟩ = some (.slice (some ⟨g, 0, none⟩) ss.length c)
  boxF : W.frozen? ⟨w.heap.size, 0, none⟩ = false
  res : W.cell? ⟨w.heap.size + 1, 0, none⟩ = some (.slice none 0 0)
  resF : W.frozen? ⟨w.heap.size + 1, 0, none⟩ = false
  st : StepCells W sb 0 s nv
  stF : ∀ j, W.frozen? ⟨sb, j, none⟩ = false
  sb1 : w.heap.size + 2 ≤ sb
  sb2 : sb < W.heap.size
  own : W.ownsRow (w.heap.size + 2) 3 1 nv s.next.length (s.next.map (Value.int .i64))
  far : nv.ownBlock ≠ some sb
  farG : g ≠ sb
  farN : ∀ i, i < ss.length → i ≠ k → (nvs i).ownBlock ≠ some sb

theorem SI.go {rb : Nat} {w W W' : World} {ss : List St} {k g c sb : Nat} {xs : List Value} {nvs : Nat → Value} {s : St} {nv : Value} {p p' : Nat} (h : SI rb w W ss k g c sb xs nvs s nv p) (hr : rb < w.heap.size) (hx : Ex rb W W') (hd : Rd W' rb p') : SI rb w W' ss k g c sb xs nvs s nv p' := by
  have b0 := h.sb1
  have b1 := h.sb2
  exact ⟨h.ex.trans hx, hd, h.po.ex hx (by omega), hx.cell h.box (by show w.heap.size ≠ rb; omega), (hx.frozen (p := ⟨w.heap.size, 0, none⟩) (by show w.heap.size < W.heap.size; omega) (by show w.heap.size ≠ rb; omega)).trans h.boxF, hx.cell h.res (by show w.heap.size + 1 ≠ rb; omega), (hx.frozen (p := ⟨w.heap.size + 1, 0, none⟩) (by show w.heap.size + 1 < W.heap.size; omega) (by show w.heap.size + 1 ≠ rb; omega)).trans h.resF, h.st.ex hx (by omega), Ex.frozen0 hx h.stF b1 (by omega), h.sb1, Nat.lt_of_lt_of_le b1 hx.size, own_ex h.own hx (by omega), h.far, h.farG, h.farN⟩

/-- A row is kept when a cell of another block is stored. -/
theorem own_far {w : World} {base m n : Nat} {e : TypeId} {v : Value} {xs : List Value} (h : w.ownsRow base e m v n xs) {a : Addr} (ha : v.ownBlock ≠ some a.block) (u : Value) : (w.setCell a u).ownsRow base e m v n xs := by
  obtain ⟨h1, h2⟩ := h
  refine ⟨h1, ?_⟩
  rcases h2 with h2 | ⟨g, cap, cur, hv, hg, hh, r⟩
  · exact Or.inl h2
  · refine Or.inr ⟨g, cap, cur, hv, hg, (Below.heap_setCell w a u g (fun e => ha ?_)).trans hh, r⟩
    rw [hv, Value.ownBlock, e]

/-- A cell of the step's copy is stored. -/
theorem SI.set {rb : Nat} {w W : World} {ss : List St} {k g c sb : Nat} {xs : List Value} {nvs : Nat → Value} {s s' : St} {nv : Value} {p : Nat} (h : SI rb w W ss k g c sb xs nvs s nv p) (hr : rb < w.heap.size) (j : Nat) (u : Value) (hn : s'.next = s.next) (hst : StepCells (W.setCell ⟨sb, j, none⟩ u) sb 0 s' nv) : SI rb w (W.setCell ⟨sb, j, none⟩ u) ss k g c sb xs nvs s' nv p := by
  have b0 := h.sb1
  have b1 := h.sb2
  refine ⟨h.ex.setCell (Or.inr (by show w.heap.size ≤ sb; omega)) _, h.rd.setCell (by show rb < sb; omega) _, ⟨own_far h.po.row (by simp [Value.ownBlock]; exact h.farG) _, h.po.cells, fun i t hi ht => own_far (h.po.own i t hi ht) (h.farN i (List.getElem?_eq_some_iff.1 ht).1 hi) _⟩, ?_, ?_, ?_, ?_, hst, ?_, b0, by simpa [World.setCell] using b1, by rw [hn]; exact own_far h.own h.far _, h.far, h.farG, h.farN⟩
  · rw [cell_setOther _ _ _ _ (by show w.heap.size ≠ sb; omega)]
    exact h.box
  · simpa [go_sem] using h.boxF
  · rw [cell_setOther _ _ _ _ (by show w.heap.size + 1 ≠ sb; omega)]
    exact h.res
  · simpa [go_sem] using h.resF
  · intro i
    simpa [go_sem] using h.stF i

/-- The list of the step's copy is another. -/
theorem SI.setN {rb : Nat} {w W : World} {ss : List St} {k g c sb : Nat} {xs : List Value} {nvs : Nat → Value} {s s' : St} {nv nv' : Value} {p : Nat} (h : SI rb w W ss k g c sb xs nvs s nv p) (hr : rb < w.heap.size) (hst : StepCells (W.setCell ⟨sb, 7, none⟩ nv') sb 0 s' nv') (hown : W.ownsRow (w.heap.size + 2) 3 1 nv' s'.next.length (s'.next.map (Value.int .i64))) (hfar : nv'.ownBlock ≠ some sb) : SI rb w (W.setCell ⟨sb, 7, none⟩ nv') ss k g c sb xs nvs s' nv' p := by
  have b0 := h.sb1
  have b1 := h.sb2
  refine ⟨h.ex.setCell (Or.inr (by show w.heap.size ≤ sb; omega)) _, h.rd.setCell (by show rb < sb; omega) _, ⟨own_far h.po.row (by simp [Value.ownBlock]; exact h.farG) _, h.po.cells, fun i t hi ht => own_far (h.po.own i t hi ht) (h.farN i (List.getElem?_eq_some_iff.1 ht).1 hi) _⟩, ?_, ?_, ?_, ?_, hst, ?_, b0, by simpa [World.setCell] using b1, own_far hown hfar _, hfar, h.farG, h.farN⟩
  · rw [cell_setOther _ _ _ _ (by show w.heap.size ≠ sb; omega)]
    exact h.box
  · simpa [go_sem] using h.boxF
  · rw [cell_setOther _ _ _ _ (by show w.heap.size + 1 ≠ sb; omega)]
    exact h.res
  · simpa [go_sem] using h.resF
  · intro i
    simpa [go_sem] using h.stF i

/-- The step is laid anew, and the answer is stored. -/
theorem SI.fin {rb : Nat} {w W : World} {ss : List St} {k g c sb : Nat} {xs : List Value} {nvs : Nat → Value} {s : St} {nv x : Value} {p : Nat} (h : SI rb w W ss k g c sb xs nvs s nv p) (hr : rb < w.heap.size) (hk : k < ss.length) :
    StepsNF (w.heap.size + 2) ((((((((((W.setCell ⟨g, k * 8, none⟩ (.int .i64 s.kind)).setCell ⟨g, k * 8 + 1, none⟩ (.int .i64 s.dst)).setCell ⟨g, k * 8 + 2, none⟩ (.int .i64 s.op)).setCell ⟨g, k * 8 + 3, none⟩ (.int .i64 s.av)).setCell ⟨g, k * 8 + 4, none⟩ (.int .i64 s.an)).setCell ⟨g, k * 8 + 5, none⟩ (.int .i64 s.bv)).setCell ⟨g, k * 8 + 6, none⟩ (.int .i64 s.bn)).setCell ⟨g, k * 8 + 7, none⟩ nv).setCell ⟨w.heap.size + 1, 0, none⟩ x)) (.slice (some ⟨g, 0, none⟩) ss.length c) (ss.set k s) ∧
    Rd ((((((((((W.setCell ⟨g, k * 8, none⟩ (.int .i64 s.kind)).setCell ⟨g, k * 8 + 1, none⟩ (.int .i64 s.dst)).setCell ⟨g, k * 8 + 2, none⟩ (.int .i64 s.op)).setCell ⟨g, k * 8 + 3, none⟩ (.int .i64 s.av)).setCell ⟨g, k * 8 + 4, none⟩ (.int .i64 s.an)).setCell ⟨g, k * 8 + 5, none⟩ (.int .i64 s.bv)).setCell ⟨g, k * 8 + 6, none⟩ (.int .i64 s.bn)).setCell ⟨g, k * 8 + 7, none⟩ nv).setCell ⟨w.heap.size + 1, 0, none⟩ x)) rb p ∧
    Ex rb w ((((((((((W.setCell ⟨g, k * 8, none⟩ (.int .i64 s.kind)).setCell ⟨g, k * 8 + 1, none⟩ (.int .i64 s.dst)).setCell ⟨g, k * 8 + 2, none⟩ (.int .i64 s.op)).setCell ⟨g, k * 8 + 3, none⟩ (.int .i64 s.av)).setCell ⟨g, k * 8 + 4, none⟩ (.int .i64 s.an)).setCell ⟨g, k * 8 + 5, none⟩ (.int .i64 s.bv)).setCell ⟨g, k * 8 + 6, none⟩ (.int .i64 s.bn)).setCell ⟨g, k * 8 + 7, none⟩ nv).setCell ⟨w.heap.size + 1, 0, none⟩ x)) := by
  have hg := h.po.row.lt g rfl
  have hi : ∀ j, j < 8 → ∃ u, W.cell? ⟨g, k * 8 + j, none⟩ = some u := fun j hj => by
    have hx : k * 8 + j < xs.length := by rw [h.po.row.1]; omega
    exact ⟨xs[k * 8 + j], by rw [h.po.row.cellAt _ (by omega)]; exact List.getElem?_eq_getElem hx⟩
  obtain ⟨u0, e0⟩ := hi 0 (by decide)
  obtain ⟨u1, e1⟩ := hi 1 (by decide)
  obtain ⟨u2, e2⟩ := hi 2 (by decide)
  obtain ⟨u3, e3⟩ := hi 3 (by decide)
  obtain ⟨u4, e4⟩ := hi 4 (by decide)
  obtain ⟨u5, e5⟩ := hi 5 (by decide)
  obtain ⟨u6, e6⟩ := hi 6 (by decide)
  obtain ⟨u7, e7⟩ := hi 7 (by decide)
  rw [Nat.add_zero] at e0
  have hgr : w.heap.size + 1 ≠ g := by omega
  refine ⟨?_, ?_, ?_⟩
  · have hoth : ∀ (q : Addr) (y : Value), W.cell? q = some y → q.block ≠ g → q.block ≠ w.heap.size + 1 → ((((((((((W.setCell ⟨g, k * 8, none⟩ (.int .i64 s.kind)).setCell ⟨g, k * 8 + 1, none⟩ (.int .i64 s.dst)).setCell ⟨g, k * 8 + 2, none⟩ (.int .i64 s.op)).setCell ⟨g, k * 8 + 3, none⟩ (.int .i64 s.av)).setCell ⟨g, k * 8 + 4, none⟩ (.int .i64 s.an)).setCell ⟨g, k * 8 + 5, none⟩ (.int .i64 s.bv)).setCell ⟨g, k * 8 + 6, none⟩ (.int .i64 s.bn)).setCell ⟨g, k * 8 + 7, none⟩ nv).setCell ⟨w.heap.size + 1, 0, none⟩ x)).cell? q = some y := fun q y hy n1 n2 => by
      rw [cell_setOther _ _ _ _ n2, cell_setOther _ _ _ _ n1, cell_setOther _ _ _ _ n1, cell_setOther _ _ _ _ n1, cell_setOther _ _ _ _ n1, cell_setOther _ _ _ _ n1, cell_setOther _ _ _ _ n1, cell_setOther _ _ _ _ n1, cell_setOther _ _ _ _ n1]
      exact hy
    refine h.po.put (fun q y hy n1 n2 => hoth q y hy n1 (by omega)) (fun j y hj hy => ?_) ⟨?_, ?_, ?_, ?_, ?_, ?_, ?_, ?_⟩ ?_ (own_nice h.own)
    · rw [cell_setOther _ _ _ _ (Ne.symm hgr)]
      simp [go_sem, hy]
    · simp [go_sem, e0]
    · simp [go_sem, e1]
    · simp [go_sem, e2]
    · simp [go_sem, e3]
    · simp [go_sem, e4]
    · simp [go_sem, e5]
    · simp [go_sem, e6]
    · simp [go_sem, e7]
    · obtain ⟨ao, b, o, cap, a1, a2, hlo, a3⟩ := own_from h.own
      refine ⟨ao, b, o, cap, a1, a2, hlo, fun t ht => ?_⟩
      have hb := a2 (by omega)
      rw [hb] at a1
      refine hoth _ _ (a3 t ht) (fun e => ?_) (by show b ≠ w.heap.size + 1; omega)
      rcases own_diff h.own h.po.row (by decide) with e' | e'
      · rw [a1] at e'
        simp [Value.ownBlock] at e'
      · rw [a1] at e'
        simp [Value.ownBlock] at e'
        exact e' e
  · refine Rd.setCell ?_ (by show rb < w.heap.size + 1; omega) _
    iterate 8 refine Rd.setCell ?_ (by show rb < g; omega) _
    exact h.rd
  · refine Ex.setCell ?_ (Or.inr (by show w.heap.size ≤ w.heap.size + 1; omega)) _
    iterate 8 refine Ex.setCell ?_ (Or.inr (by show w.heap.size ≤ g; omega)) _
    exact h.ex

/-- The list of the step's copy is another, one number longer. -/
theorem SI.push {rb : Nat} {w W w8 : World} {ss : List St} {k g c sb : Nat} {xs : List Value} {nvs : Nat → Value} {s : St} {nv : Value} {p g8 cap8 : Nat} {z : Int} (h : SI rb w W ss k g c sb xs nvs s nv p) (hr : rb < w.heap.size)
    (hg : W.grownBy w8 nv.ownBlock) (ap : ∀ i, i < ss.length → i ≠ k → (nvs i).ownBlock = none ∨ (nvs i).ownBlock ≠ nv.ownBlock)
    (hown : w8.ownsRow (w.heap.size + 2) 3 1 (.slice (some ⟨g8, 0, none⟩) (s.next.length + 1) cap8) (s.next.length + 1) (s.next.map (Value.int .i64) ++ [.int .i64 z])) (hat : nv.ownBlock = some g8 ∨ g8 = W.heap.size)
    (hst : StepCells (w8.setCell ⟨sb, 7, none⟩ (.slice (some ⟨g8, 0, none⟩) (s.next.length + 1) cap8)) sb 0 { s with next := s.next ++ [z] } (.slice (some ⟨g8, 0, none⟩) (s.next.length + 1) cap8)) :
    SI rb w (w8.setCell ⟨sb, 7, none⟩ (.slice (some ⟨g8, 0, none⟩) (s.next.length + 1) cap8)) ss k g c sb xs nvs { s with next := s.next ++ [z] } (.slice (some ⟨g8, 0, none⟩) (s.next.length + 1) cap8) p := by
  have b0 := h.sb1
  have b1 := h.sb2
  have own : ∀ k, nv.ownBlock = some k → w.heap.size + 2 ≤ k ∧ k < W.heap.size := fun k hk => h.own.lt k hk
  have hlow : ∀ k, k < w.heap.size + 2 → nv.ownBlock ≠ some k := fun k hk e => by have := (own k e).1; omega
  have hsz := hg.size
  have hx : Ex rb w w8 := ⟨hg.os.trans h.ex.os, hg.tape.trans h.ex.tape, hg.output.trans h.ex.output, Nat.le_trans h.ex.size hsz, fun i hi hir => (hg.block i (by omega) (Ne.symm (hlow i (by omega)))).trans (h.ex.block i hi hir)⟩
  have hdg : (Value.slice (some ⟨g, 0, none⟩) ss.length c).ownBlock = none ∨ (Value.slice (some ⟨g, 0, none⟩) ss.length c).ownBlock ≠ nv.ownBlock := own_diff h.po.row h.own (by decide)
  have hpo := h.po.grown hg hdg ap
  have hfar : (Value.slice (some ⟨g8, 0, none⟩) (s.next.length + 1) cap8).ownBlock ≠ some sb := by
    rcases hat with a | a
    · have := h.far
      rw [a] at this
      simpa [Value.ownBlock] using this
    · simp [Value.ownBlock]
      omega
  refine ⟨hx.setCell (Or.inr (by show w.heap.size ≤ sb; omega)) _, Rd.setCell (h.rd.grown hg (fun k hk => by have := (own k hk).1; omega)) (by show rb < sb; omega) _, ⟨own_far hpo.row (by simp [Value.ownBlock]; exact h.farG) _, hpo.cells, fun i t hi ht => own_far (hpo.own i t hi ht) (h.farN i (List.getElem?_eq_some_iff.1 ht).1 hi) _⟩, ?_, ?_, ?_, ?_, hst, ?_, b0, by simpa [World.setCell] using Nat.lt_of_lt_of_le b1 hsz, ?_, hfar, h.farG, h.farN⟩
  · rw [cell_setOther _ _ _ _ (by show w.heap.size ≠ sb; omega)]
    exact hg.cell h.box (Ne.symm (hlow _ (by show w.heap.size < w.heap.size + 2; omega)))
  · have := (hg.frozen_far ⟨w.heap.size, 0, none⟩ (by show w.heap.size < W.heap.size; omega) (Ne.symm (hlow _ (by show w.heap.size < w.heap.size + 2; omega)))).trans h.boxF
    simpa [go_sem] using this
  · rw [cell_setOther _ _ _ _ (by show w.heap.size + 1 ≠ sb; omega)]
    exact hg.cell h.res (Ne.symm (hlow _ (by show w.heap.size + 1 < w.heap.size + 2; omega)))
  · have := (hg.frozen_far ⟨w.heap.size + 1, 0, none⟩ (by show w.heap.size + 1 < W.heap.size; omega) (Ne.symm (hlow _ (by show w.heap.size + 1 < w.heap.size + 2; omega)))).trans h.resF
    simpa [go_sem] using this
  · intro i
    have := (hg.frozen_far ⟨sb, i, none⟩ b1 (Ne.symm h.far)).trans (h.stF i)
    simpa [go_sem] using this
  · have := own_far hown (a := ⟨sb, 7, none⟩) hfar (.slice (some ⟨g8, 0, none⟩) (s.next.length + 1) cap8)
    simpa using this

/-- The cells of the step's copy, behind the append. -/
theorem SI.cellsG {rb : Nat} {w W w8 : World} {ss : List St} {k g c sb : Nat} {xs : List Value} {nvs : Nat → Value} {s : St} {nv : Value} {p : Nat} (h : SI rb w W ss k g c sb xs nvs s nv p) (hg : W.grownBy w8 nv.ownBlock) : StepCells w8 sb 0 s nv := by
  have hne := h.far
  exact ⟨hg.cell h.st.1 (Ne.symm hne), hg.cell h.st.2 (Ne.symm hne), hg.cell h.st.3 (Ne.symm hne), hg.cell h.st.4 (Ne.symm hne), hg.cell h.st.5 (Ne.symm hne), hg.cell h.st.6 (Ne.symm hne), hg.cell h.st.7 (Ne.symm hne), hg.cell h.st.8 (Ne.symm hne)⟩

def endS : St := ⟨7, 0, 0, 0, 0, 0, 0, []⟩

/-- How long the list in a cell is. -/
def lenAt (w : World) (a : Addr) : Nat := match w.cell? a with
  | some (.slice _ n _) => n
  | _ => 0

theorem lenAt_eq {w : World} {a : Addr} {A : Option Addr} {n c : Nat} (h : w.cell? a = some (.slice A n c)) : lenAt w a = n := by
  simp [lenAt, h]

theorem StepCells.grown {w w' : World} {b : Nat} {s : St} {nv : Value} {row : Option Nat} (h : StepCells w b 0 s nv) (hg : w.grownBy w' row) (hn : some b ≠ row) : StepCells w' b 0 s nv :=
  ⟨hg.cell h.1 hn, hg.cell h.2 hn, hg.cell h.3 hn, hg.cell h.4 hn, hg.cell h.5 hn, hg.cell h.6 hn, hg.cell h.7 hn, hg.cell h.8 hn⟩

/-- One end more stands behind. -/
theorem SI.snoc {rb : Nat} {w W w8 : World} {ss : List St} {k g c sb : Nat} {xs : List Value} {nvs : Nat → Value} {s : St} {nv : Value} {p g8 cap8 : Nat} (h : SI rb w W ss k g c sb xs nvs s nv p) (hr : rb < w.heap.size) (_hk : k < ss.length)
    (hg : W.grownBy w8 (some g)) (hown : w8.ownsRow (w.heap.size + 2) 77 8 (.slice (some ⟨g8, 0, none⟩) (ss.length + 1) cap8) (ss.length + 1) (xs ++ cells8 endS (.slice none 0 0))) (hat : some g = some g8 ∨ g8 = W.heap.size) :
    SI rb w (w8.setCell ⟨w.heap.size, 0, none⟩ (.slice (some ⟨g8, 0, none⟩) (ss.length + 1) cap8)) (ss ++ [endS]) k g8 cap8 sb (xs ++ cells8 endS (.slice none 0 0)) (fun i => if i = ss.length then .slice none 0 0 else nvs i) s nv p := by
  have b0 := h.sb1
  have b1 := h.sb2
  have hgl := h.po.row.lt g rfl
  have hsz := hg.size
  have hlow : ∀ i, i < w.heap.size + 2 → some i ≠ some g := fun i hi e => by cases e; omega
  have hx : Ex rb w w8 := ⟨hg.os.trans h.ex.os, hg.tape.trans h.ex.tape, hg.output.trans h.ex.output, Nat.le_trans h.ex.size hsz, fun i hi hir => (hg.block i (by omega) (hlow i (by omega))).trans (h.ex.block i hi hir)⟩
  have hg8 : w.heap.size + 2 ≤ g8 := (hown.lt g8 rfl).1
  have kept : ∀ {y : Value} {n : Nat} {ys : List Value}, W.ownsRow (w.heap.size + 2) 3 1 y n ys → (w8.setCell ⟨w.heap.size, 0, none⟩ (.slice (some ⟨g8, 0, none⟩) (ss.length + 1) cap8)).ownsRow (w.heap.size + 2) 3 1 y n ys := by
    intro y n ys hy
    refine own_far (hy.kept hg ?_) (fun e => by have := (hy.lt _ e).1; simp at this; omega) _
    rcases own_diff hy h.po.row (by decide) with e | e
    · exact Or.inl e
    · exact Or.inr e
  have hlen : xs.length = ss.length * 8 := h.po.row.1
  refine ⟨hx.setCell (Or.inr (by show w.heap.size ≤ w.heap.size; omega)) _, Rd.setCell (h.rd.grown hg (fun i hi => by cases hi; omega)) hr _, ⟨?_, fun i t ht => ?_, fun i t hik ht => ?_⟩, ?_, ?_, ?_, ?_, ?_, ?_, b0, by simpa [World.setCell] using Nat.lt_of_lt_of_le b1 hsz, kept h.own, h.far, ?_, fun i hi hik => ?_⟩
  · have := own_far hown (a := ⟨w.heap.size, 0, none⟩) (by simp [Value.ownBlock]; omega) (.slice (some ⟨g8, 0, none⟩) (ss.length + 1) cap8)
    simpa using this
  · by_cases hi : i < ss.length
    · rw [List.getElem?_append_left hi] at ht
      rw [if_neg (by omega)]
      intro j u hu
      have hj : j < 8 := by have := (List.getElem?_eq_some_iff.1 hu).1; simpa [cells8] using this
      rw [List.getElem?_append_left (by omega)]
      exact h.po.cells i t ht j u hu
    · have l := (List.getElem?_eq_some_iff.1 ht).1
      simp at l
      have e : i = ss.length := by omega
      subst e
      simp at ht
      subst ht
      rw [if_pos rfl]
      intro j u hu
      rw [List.getElem?_append_right (by omega), hlen]
      rwa [show ss.length * 8 + j - ss.length * 8 = j by omega]
  · by_cases hi : i < ss.length
    · rw [List.getElem?_append_left hi] at ht
      rw [if_neg (by omega)]
      exact kept (h.po.own i t hik ht)
    · have l := (List.getElem?_eq_some_iff.1 ht).1
      simp at l
      have e : i = ss.length := by omega
      subst e
      simp at ht
      subst ht
      rw [if_pos rfl]
      exact World.ownsRow_nil _ _ _ _
  · have := hg.cell h.box (hlow _ (by show w.heap.size < w.heap.size + 2; omega))
    simp [go_sem, this]
  · have := (hg.frozen_far ⟨w.heap.size, 0, none⟩ (by show w.heap.size < W.heap.size; omega) (hlow _ (by show w.heap.size < w.heap.size + 2; omega))).trans h.boxF
    simpa [go_sem] using this
  · rw [cell_setOther _ _ _ _ (by show w.heap.size + 1 ≠ w.heap.size; omega)]
    exact hg.cell h.res (hlow _ (by show w.heap.size + 1 < w.heap.size + 2; omega))
  · have := (hg.frozen_far ⟨w.heap.size + 1, 0, none⟩ (by show w.heap.size + 1 < W.heap.size; omega) (hlow _ (by show w.heap.size + 1 < w.heap.size + 2; omega))).trans h.resF
    simpa [go_sem] using this
  · exact (h.st.grown hg (fun e => h.farG (by cases e; rfl))).setOther (by show sb ≠ w.heap.size; omega) _
  · intro i
    have := (hg.frozen_far ⟨sb, i, none⟩ b1 (fun e => h.farG (by cases e; rfl))).trans (h.stF i)
    simpa [go_sem] using this
  · rcases hat with a | a
    · cases a
      exact h.farG
    · omega
  · simp at hi
    by_cases e : i = ss.length
    · rw [if_pos e]
      simp [Value.ownBlock]
    · rw [if_neg e]
      exact h.farN i (by omega) hik
end Go.Proofs.Ytfbmeciolflgnaa
