/- A program of which one step is laid anew: what l71Spoil leaves. -/
import Derived.Test.YtljlgffkhocgkaaDoorDrawA
import Derived.Test.YtljlgffkhocgkaaDoorSpecCopy
namespace Go.Proofs.YtljlgffkhocgkaaDoor
open Go.RowKit

/-- A program that the call owns, one step's list left out. -/
structure POx (lo k : Nat) (w : World) (v : Value) (ss : List St) (xs : List Value) (nvs : Nat → Value) : Prop where
  row : w.ownsRow lo 62 8 v ss.length xs
  cells : ∀ (i : Nat) (s : St), ss[i]? = some s → StepX xs (i * 8) s (nvs i)
  own : ∀ (i : Nat) (s : St), i ≠ k → ss[i]? = some s → w.ownsRow lo 3 1 (nvs i) s.next.length (s.next.map (Value.int .i64))

theorem PO.but {lo : Nat} {w : World} {v : Value} {ss : List St} {xs : List Value} {nvs : Nat → Value} (h : PO lo w v ss xs nvs) (k : Nat) : POx lo k w v ss xs nvs :=
  ⟨h.row, h.cells, fun i s _ hs => h.own i s hs⟩

/-- What a call leaves as it was, the reader's place aside. -/
theorem POx.ex {lo k rb : Nat} {w w' : World} {v : Value} {ss : List St} {xs : List Value} {nvs : Nat → Value} (h : POx lo k w v ss xs nvs) (hx : Ex rb w w') (hr : rb < lo) : POx lo k w' v ss xs nvs :=
  ⟨own_ex h.row hx hr, h.cells, fun i s hi hs => own_ex (h.own i s hi hs) hx hr⟩

/-- The list of the step that is left out grows. -/
theorem POx.grown {lo k : Nat} {w w' : World} {v y : Value} {ss : List St} {xs : List Value} {nvs : Nat → Value} (h : POx lo k w v ss xs nvs) (hg : w.grownBy w' y.ownBlock) (h1 : v.ownBlock = none ∨ v.ownBlock ≠ y.ownBlock) (h2 : ∀ i, i < ss.length → i ≠ k → (nvs i).ownBlock = none ∨ (nvs i).ownBlock ≠ y.ownBlock) : POx lo k w' v ss xs nvs := by
  exact ⟨h.row.kept hg h1, h.cells, fun i s hi hs => (h.own i s hi hs).kept hg (h2 i (List.getElem?_eq_some_iff.1 hs).1 hi)⟩

theorem own_from {w : World} {lo : Nat} {v : Value} {zs : List Int} (h : w.ownsRow lo 3 1 v zs.length (zs.map (Value.int .i64))) : IntsFrom lo w v zs := by
  obtain ⟨ao, b, o, cap, e1, e2, e3⟩ := own_ints h
  by_cases hz : 0 < zs.length
  · have hb := e2 hz
    rw [hb] at e1
    exact ⟨_, b, o, cap, e1, fun _ => rfl, (h.lt b (by rw [e1]; rfl)).1, e3⟩
  · exact ⟨ao, lo, o, cap, e1, fun hp => absurd hp hz, Nat.le_refl _, fun t ht => absurd ht (by omega)⟩

theorem POx.put {lo k g c : Nat} {w w' : World} {ss : List St} {xs : List Value} {nvs : Nat → Value} {s' : St} {nv' : Value} (h : POx lo k w (.slice (some ⟨g, 0, none⟩) ss.length c) ss xs nvs)
    (hother : ∀ (q : Addr) (x : Value), w.cell? q = some x → q.block ≠ g → lo ≤ q.block → w'.cell? q = some x)
    (hrow : ∀ (j : Nat) (x : Value), j < k * 8 ∨ k * 8 + 8 ≤ j → w.cell? ⟨g, j, none⟩ = some x → w'.cell? ⟨g, j, none⟩ = some x)
    (hnew : StepCells w' g (k * 8) s' nv') (hI : IntsFrom lo w' nv' s'.next) (hN : Nice nv') : StepsNF lo w' (.slice (some ⟨g, 0, none⟩) ss.length c) (ss.set k s') := by
  refine ⟨some ⟨g, 0, none⟩, g, 0, c, by simp, fun _ => rfl, (h.row.lt g rfl).1, fun i s hs => ?_⟩
  rw [Nat.zero_add]
  by_cases hik : i = k
  · subst hik
    have hi := (List.getElem?_eq_some_iff.1 hs).1
    rw [List.length_set] at hi
    rw [List.getElem?_set_self hi] at hs
    cases hs
    exact ⟨nv', hnew, hI, hN⟩
  · rw [List.getElem?_set_ne (Ne.symm hik)] at hs
    have hi := (List.getElem?_eq_some_iff.1 hs).1
    have ho := h.own i s hik hs
    have rd : ∀ j u, (cells8 s (nvs i))[j]? = some u → w'.cell? ⟨g, i * 8 + j, none⟩ = some u := fun j u hu => by
      have hj : j < 8 := by have := (List.getElem?_eq_some_iff.1 hu).1; simpa [cells8] using this
      refine hrow _ _ (by omega) ?_
      rw [h.row.cellAt _ (by omega)]
      exact h.cells i s hs j u hu
    refine ⟨nvs i, ⟨rd 0 _ rfl, rd 1 _ rfl, rd 2 _ rfl, rd 3 _ rfl, rd 4 _ rfl, rd 5 _ rfl, rd 6 _ rfl, rd 7 _ rfl⟩, ?_, own_nice ho⟩
    obtain ⟨ao, b, o, cap, e1, e2, elo, e3⟩ := own_from ho
    refine ⟨ao, b, o, cap, e1, e2, elo, fun t ht => ?_⟩
    have hb := e2 (by omega)
    rw [hb] at e1
    refine hother _ _ (e3 t ht) (fun e => ?_) elo
    rcases own_diff ho h.row (by decide) with e' | e'
    · rw [e1] at e'
      simp [Value.ownBlock] at e'
    · rw [e1] at e'
      simp [Value.ownBlock] at e'
      exact e' e

/-- What is kept while one step is spoilt: the boxes, the reader, the program but its step k, the step's copy. -/
structure SI (rb : Nat) (w W : World) (ss : List St) (k g c sb : Nat) (xs : List Value) (nvs : Nat → Value) (s : St) (nv : Value) (p : Nat) : Prop where
  ex : Ex rb w W
  rd : Rd W rb p
  po : POx (w.heap.size + 2) k W (.slice (some ⟨g, 0, none⟩) ss.length c) ss xs nvs
  box : W.cell? ⟨w.heap.size, 0, none⟩ = some (.slice (some ⟨g, 0, none⟩) ss.length c)
  boxF : W.frozen? ⟨w.heap.size, 0, none⟩ = false
  res : W.cell? ⟨w.heap.size + 1, 0, none⟩ = some (.slice none 0 0)
  resF : W.frozen? ⟨w.heap.size + 1, 0, none⟩ = false
  st : StepCells W sb 0 s nv
  stF : ∀ j, W.frozen? ⟨sb, j, none⟩ = false
  sb1 : w.heap.size + 2 ≤ sb
  sb2 : sb < W.heap.size
  own : W.ownsRow (w.heap.size + 2) 3 1 nv s.next.length (s.next.map (Value.int .i64))
  far : nv.ownBlock ≠ some sb
  farG : g ≠ sb
  farN : ∀ i, i < ss.length → i ≠ k → (nvs i).ownBlock ≠ some sb

theorem SI.go {rb : Nat} {w W W' : World} {ss : List St} {k g c sb : Nat} {xs : List Value} {nvs : Nat → Value} {s : St} {nv : Value} {p p' : Nat} (h : SI rb w W ss k g c sb xs nvs s nv p) (hr : rb < w.heap.size) (hx : Ex rb W W') (hd : Rd W' rb p') : SI rb w W' ss k g c sb xs nvs s nv p' := by
  have b0 := h.sb1
  have b1 := h.sb2
  exact ⟨h.ex.trans hx, hd, h.po.ex hx (by omega), hx.cell h.box (by show w.heap.size ≠ rb; omega), (hx.frozen (p := ⟨w.heap.size, 0, none⟩) (by show w.heap.size < W.heap.size; omega) (by show w.heap.size ≠ rb; omega)).trans h.boxF, hx.cell h.res (by show w.heap.size + 1 ≠ rb; omega), (hx.frozen (p := ⟨w.heap.size + 1, 0, none⟩) (by show w.heap.size + 1 < W.heap.size; omega) (by show w.heap.size + 1 ≠ rb; omega)).trans h.resF, h.st.ex hx (by omega), Ex.frozen0 hx h.stF b1 (by omega), h.sb1, Nat.lt_of_lt_of_le b1 hx.size, own_ex h.own hx (by omega), h.far, h.farG, h.farN⟩

/-- A row is kept when a cell of another block is stored. -/
theorem own_far {w : World} {base m n : Nat} {e : TypeId} {v : Value} {xs : List Value} (h : w.ownsRow base e m v n xs) {a : Addr} (ha : v.ownBlock ≠ some a.block) (u : Value) : (w.setCell a u).ownsRow base e m v n xs := by
  obtain ⟨h1, h2⟩ := h
  refine ⟨h1, ?_⟩
  rcases h2 with h2 | ⟨g, cap, cur, hv, hg, hh, r⟩
  · exact Or.inl h2
  · refine Or.inr ⟨g, cap, cur, hv, hg, (Below.heap_setCell w a u g (fun e => ha ?_)).trans hh, r⟩
    rw [hv, Value.ownBlock, e]

/-- A cell of the step's copy is stored. -/
theorem SI.set {rb : Nat} {w W : World} {ss : List St} {k g c sb : Nat} {xs : List Value} {nvs : Nat → Value} {s s' : St} {nv : Value} {p : Nat} (h : SI rb w W ss k g c sb xs nvs s nv p) (hr : rb < w.heap.size) (j : Nat) (u : Value) (hn : s'.next = s.next) (hst : StepCells (W.setCell ⟨sb, j, none⟩ u) sb 0 s' nv) : SI rb w (W.setCell ⟨sb, j, none⟩ u) ss k g c sb xs nvs s' nv p := by
  have b0 := h.sb1
  have b1 := h.sb2
  refine ⟨h.ex.setCell (Or.inr (by show w.heap.size ≤ sb; omega)) _, h.rd.setCell (by show rb < sb; omega) _, ⟨own_far h.po.row (by simp [Value.ownBlock]; exact h.farG) _, h.po.cells, fun i t hi ht => own_far (h.po.own i t hi ht) (h.farN i (List.getElem?_eq_some_iff.1 ht).1 hi) _⟩, ?_, ?_, ?_, ?_, hst, ?_, b0, by simpa [World.setCell] using b1, by rw [hn]; exact own_far h.own h.far _, h.far, h.farG, h.farN⟩
  · rw [cell_setOther _ _ _ _ (by show w.heap.size ≠ sb; omega)]
    exact h.box
  · simpa [go_sem] using h.boxF
  · rw [cell_setOther _ _ _ _ (by show w.heap.size + 1 ≠ sb; omega)]
    exact h.res
  · simpa [go_sem] using h.resF
  · intro i
    simpa [go_sem] using h.stF i

/-- The list of the step's copy is another. -/
theorem SI.setN {rb : Nat} {w W : World} {ss : List St} {k g c sb : Nat} {xs : List Value} {nvs : Nat → Value} {s s' : St} {nv nv' : Value} {p : Nat} (h : SI rb w W ss k g c sb xs nvs s nv p) (hr : rb < w.heap.size) (hst : StepCells (W.setCell ⟨sb, 7, none⟩ nv') sb 0 s' nv') (hown : W.ownsRow (w.heap.size + 2) 3 1 nv' s'.next.length (s'.next.map (Value.int .i64))) (hfar : nv'.ownBlock ≠ some sb) : SI rb w (W.setCell ⟨sb, 7, none⟩ nv') ss k g c sb xs nvs s' nv' p := by
  have b0 := h.sb1
  have b1 := h.sb2
  refine ⟨h.ex.setCell (Or.inr (by show w.heap.size ≤ sb; omega)) _, h.rd.setCell (by show rb < sb; omega) _, ⟨own_far h.po.row (by simp [Value.ownBlock]; exact h.farG) _, h.po.cells, fun i t hi ht => own_far (h.po.own i t hi ht) (h.farN i (List.getElem?_eq_some_iff.1 ht).1 hi) _⟩, ?_, ?_, ?_, ?_, hst, ?_, b0, by simpa [World.setCell] using b1, own_far hown hfar _, hfar, h.farG, h.farN⟩
  · rw [cell_setOther _ _ _ _ (by show w.heap.size ≠ sb; omega)]
    exact h.box
  · simpa [go_sem] using h.boxF
  · rw [cell_setOther _ _ _ _ (by show w.heap.size + 1 ≠ sb; omega)]
    exact h.res
  · simpa [go_sem] using h.resF
  · intro i
    simpa [go_sem] using h.stF i

/-- The step is laid anew, and the answer is stored. -/
theorem SI.fin {rb : Nat} {w W : World} {ss : List St} {k g c sb : Nat} {xs : List Value} {nvs : Nat → Value} {s : St} {nv x : Value} {p : Nat} (h : SI rb w W ss k g c sb xs nvs s nv p) (hr : rb < w.heap.size) (hk : k < ss.length) :
    StepsNF (w.heap.size + 2) ((((((((((W.setCell ⟨g, k * 8, none⟩ (.int .i64 s.kind)).setCell ⟨g, k * 8 + 1, none⟩ (.int .i64 s.dst)).setCell ⟨g, k * 8 + 2, none⟩ (.int .i64 s.op)).setCell ⟨g, k * 8 + 3, none⟩ (.int .i64 s.av)).setCell ⟨g, k * 8 + 4, none⟩ (.int .i64 s.an)).setCell ⟨g, k * 8 + 5, none⟩ (.int .i64 s.bv)).setCell ⟨g, k * 8 + 6, none⟩ (.int .i64 s.bn)).setCell ⟨g, k * 8 + 7, none⟩ nv).setCell ⟨w.heap.size + 1, 0, none⟩ x)) (.slice (some ⟨g, 0, none⟩) ss.length c) (ss.set k s) ∧
    Rd ((((((((((W.setCell ⟨g, k * 8, none⟩ (.int .i64 s.kind)).setCell ⟨g, k * 8 + 1, none⟩ (.int .i64 s.dst)).setCell ⟨g, k * 8 + 2, none⟩ (.int .i64 s.op)).setCell ⟨g, k * 8 + 3, none⟩ (.int .i64 s.av)).setCell ⟨g, k * 8 + 4, none⟩ (.int .i64 s.an)).setCell ⟨g, k * 8 + 5, none⟩ (.int .i64 s.bv)).setCell ⟨g, k * 8 + 6, none⟩ (.int .i64 s.bn)).setCell ⟨g, k * 8 + 7, none⟩ nv).setCell ⟨w.heap.size + 1, 0, none⟩ x)) rb p ∧
    Ex rb w ((((((((((W.setCell ⟨g, k * 8, none⟩ (.int .i64 s.kind)).setCell ⟨g, k * 8 + 1, none⟩ (.int .i64 s.dst)).setCell ⟨g, k * 8 + 2, none⟩ (.int .i64 s.op)).setCell ⟨g, k * 8 + 3, none⟩ (.int .i64 s.av)).setCell ⟨g, k * 8 + 4, none⟩ (.int .i64 s.an)).setCell ⟨g, k * 8 + 5, none⟩ (.int .i64 s.bv)).setCell ⟨g, k * 8 + 6, none⟩ (.int .i64 s.bn)).setCell ⟨g, k * 8 + 7, none⟩ nv).setCell ⟨w.heap.size + 1, 0, none⟩ x)) := by
  have hg := h.po.row.lt g rfl
  have hi : ∀ j, j < 8 → ∃ u, W.cell? ⟨g, k * 8 + j, none⟩ = some u := fun j hj => by
    have hx : k * 8 + j < xs.length := by rw [h.po.row.1]; omega
    exact ⟨xs[k * 8 + j], by rw [h.po.row.cellAt _ (by omega)]; exact List.getElem?_eq_getElem hx⟩
  obtain ⟨u0, e0⟩ := hi 0 (by decide)
  obtain ⟨u1, e1⟩ := hi 1 (by decide)
  obtain ⟨u2, e2⟩ := hi 2 (by decide)
  obtain ⟨u3, e3⟩ := hi 3 (by decide)
  obtain ⟨u4, e4⟩ := hi 4 (by decide)
  obtain ⟨u5, e5⟩ := hi 5 (by decide)
  obtain ⟨u6, e6⟩ := hi 6 (by decide)
  obtain ⟨u7, e7⟩ := hi 7 (by decide)
  rw [Nat.add_zero] at e0
  have hgr : w.heap.size + 1 ≠ g := by omega
  refine ⟨?_, ?_, ?_⟩
  · have hoth : ∀ (q : Addr) (y : Value), W.cell? q = some y → q.block ≠ g → q.block ≠ w.heap.size + 1 → ((((((((((W.setCell ⟨g, k * 8, none⟩ (.int .i64 s.kind)).setCell ⟨g, k * 8 + 1, none⟩ (.int .i64 s.dst)).setCell ⟨g, k * 8 + 2, none⟩ (.int .i64 s.op)).setCell ⟨g, k * 8 + 3, none⟩ (.int .i64 s.av)).setCell ⟨g, k * 8 + 4, none⟩ (.int .i64 s.an)).setCell ⟨g, k * 8 + 5, none⟩ (.int .i64 s.bv)).setCell ⟨g, k * 8 + 6, none⟩ (.int .i64 s.bn)).setCell ⟨g, k * 8 + 7, none⟩ nv).setCell ⟨w.heap.size + 1, 0, none⟩ x)).cell? q = some y := fun q y hy n1 n2 => by
      rw [cell_setOther _ _ _ _ n2, cell_setOther _ _ _ _ n1, cell_setOther _ _ _ _ n1, cell_setOther _ _ _ _ n1, cell_setOther _ _ _ _ n1, cell_setOther _ _ _ _ n1, cell_setOther _ _ _ _ n1, cell_setOther _ _ _ _ n1, cell_setOther _ _ _ _ n1]
      exact hy
    refine h.po.put (fun q y hy n1 n2 => hoth q y hy n1 (by omega)) (fun j y hj hy => ?_) ⟨?_, ?_, ?_, ?_, ?_, ?_, ?_, ?_⟩ ?_ (own_nice h.own)
    · rw [cell_setOther _ _ _ _ (Ne.symm hgr)]
      simp [go_sem, hy]
    · simp [go_sem, e0]
    · simp [go_sem, e1]
    · simp [go_sem, e2]
    · simp [go_sem, e3]
    · simp [go_sem, e4]
    · simp [go_sem, e5]
    · simp [go_sem, e6]
    · simp [go_sem, e7]
    · obtain ⟨ao, b, o, cap, a1, a2, hlo, a3⟩ := own_from h.own
      refine ⟨ao, b, o, cap, a1, a2, hlo, fun t ht => ?_⟩
      have hb := a2 (by omega)
      rw [hb] at a1
      refine hoth _ _ (a3 t ht) (fun e => ?_) (by show b ≠ w.heap.size + 1; omega)
      rcases own_diff h.own h.po.row (by decide) with e' | e'
      · rw [a1] at e'
        simp [Value.ownBlock] at e'
      · rw [a1] at e'
        simp [Value.ownBlock] at e'
        exact e' e
  · refine Rd.setCell ?_ (by show rb < w.heap.size + 1; omega) _
    iterate 8 refine Rd.setCell ?_ (by show rb < g; omega) _
    exact h.rd
  · refine Ex.setCell ?_ (Or.inr (by show w.heap.size ≤ w.heap.size + 1; omega)) _
    iterate 8 refine Ex.setCell ?_ (Or.inr (by show w.heap.size ≤ g; omega)) _
    exact h.ex

/-- The list of the step's copy is another, one number longer. -/
theorem SI.push {rb : Nat} {w W w8 : World} {ss : List St} {k g c sb : Nat} {xs : List Value} {nvs : Nat → Value} {s : St} {nv : Value} {p g8 cap8 : Nat} {z : Int} (h : SI rb w W ss k g c sb xs nvs s nv p) (hr : rb < w.heap.size)
    (hg : W.grownBy w8 nv.ownBlock) (ap : ∀ i, i < ss.length → i ≠ k → (nvs i).ownBlock = none ∨ (nvs i).ownBlock ≠ nv.ownBlock)
    (hown : w8.ownsRow (w.heap.size + 2) 3 1 (.slice (some ⟨g8, 0, none⟩) (s.next.length + 1) cap8) (s.next.length + 1) (s.next.map (Value.int .i64) ++ [.int .i64 z])) (hat : nv.ownBlock = some g8 ∨ g8 = W.heap.size)
    (hst : StepCells (w8.setCell ⟨sb, 7, none⟩ (.slice (some ⟨g8, 0, none⟩) (s.next.length + 1) cap8)) sb 0 { s with next := s.next ++ [z] } (.slice (some ⟨g8, 0, none⟩) (s.next.length + 1) cap8)) :
    SI rb w (w8.setCell ⟨sb, 7, none⟩ (.slice (some ⟨g8, 0, none⟩) (s.next.length + 1) cap8)) ss k g c sb xs nvs { s with next := s.next ++ [z] } (.slice (some ⟨g8, 0, none⟩) (s.next.length + 1) cap8) p := by
  have b0 := h.sb1
  have b1 := h.sb2
  have own : ∀ k, nv.ownBlock = some k → w.heap.size + 2 ≤ k ∧ k < W.heap.size := fun k hk => h.own.lt k hk
  have hlow : ∀ k, k < w.heap.size + 2 → nv.ownBlock ≠ some k := fun k hk e => by have := (own k e).1; omega
  have hsz := hg.size
  have hx : Ex rb w w8 := ⟨hg.os.trans h.ex.os, hg.tape.trans h.ex.tape, hg.output.trans h.ex.output, Nat.le_trans h.ex.size hsz, fun i hi hir => (hg.block i (by omega) (Ne.symm (hlow i (by omega)))).trans (h.ex.block i hi hir)⟩
  have hdg : (Value.slice (some ⟨g, 0, none⟩) ss.length c).ownBlock = none ∨ (Value.slice (some ⟨g, 0, none⟩) ss.length c).ownBlock ≠ nv.ownBlock := own_diff h.po.row h.own (by decide)
  have hpo := h.po.grown hg hdg ap
  have hfar : (Value.slice (some ⟨g8, 0, none⟩) (s.next.length + 1) cap8).ownBlock ≠ some sb := by
    rcases hat with a | a
    · have := h.far
      rw [a] at this
      simpa [Value.ownBlock] using this
    · simp [Value.ownBlock]
      omega
  refine ⟨hx.setCell (Or.inr (by show w.heap.size ≤ sb; omega)) _, Rd.setCell (h.rd.grown hg (fun k hk => by have := (own k hk).1; omega)) (by show rb < sb; omega) _, ⟨own_far hpo.row (by simp [Value.ownBlock]; exact h.farG) _, hpo.cells, fun i t hi ht => own_far (hpo.own i t hi ht) (h.farN i (List.getElem?_eq_some_iff.1 ht).1 hi) _⟩, ?_, ?_, ?_, ?_, hst, ?_, b0, by simpa [World.setCell] using Nat.lt_of_lt_of_le b1 hsz, ?_, hfar, h.farG, h.farN⟩
  · rw [cell_setOther _ _ _ _ (by show w.heap.size ≠ sb; omega)]
    exact hg.cell h.box (Ne.symm (hlow _ (by show w.heap.size < w.heap.size + 2; omega)))
  · have := (hg.frozen_far ⟨w.heap.size, 0, none⟩ (by show w.heap.size < W.heap.size; omega) (Ne.symm (hlow _ (by show w.heap.size < w.heap.size + 2; omega)))).trans h.boxF
    simpa [go_sem] using this
  · rw [cell_setOther _ _ _ _ (by show w.heap.size + 1 ≠ sb; omega)]
    exact hg.cell h.res (Ne.symm (hlow _ (by show w.heap.size + 1 < w.heap.size + 2; omega)))
  · have := (hg.frozen_far ⟨w.heap.size + 1, 0, none⟩ (by show w.heap.size + 1 < W.heap.size; omega) (Ne.symm (hlow _ (by show w.heap.size + 1 < w.heap.size + 2; omega)))).trans h.resF
    simpa [go_sem] using this
  · intro i
    have := (hg.frozen_far ⟨sb, i, none⟩ b1 (Ne.symm h.far)).trans (h.stF i)
    simpa [go_sem] using this
  · have := own_far hown (a := ⟨sb, 7, none⟩) hfar (.slice (some ⟨g8, 0, none⟩) (s.next.length + 1) cap8)
    simpa using this

/-- The cells of the step's copy, behind the append. -/
theorem SI.cellsG {rb : Nat} {w W w8 : World} {ss : List St} {k g c sb : Nat} {xs : List Value} {nvs : Nat → Value} {s : St} {nv : Value} {p : Nat} (h : SI rb w W ss k g c sb xs nvs s nv p) (hg : W.grownBy w8 nv.ownBlock) : StepCells w8 sb 0 s nv := by
  have hne := h.far
  exact ⟨hg.cell h.st.1 (Ne.symm hne), hg.cell h.st.2 (Ne.symm hne), hg.cell h.st.3 (Ne.symm hne), hg.cell h.st.4 (Ne.symm hne), hg.cell h.st.5 (Ne.symm hne), hg.cell h.st.6 (Ne.symm hne), hg.cell h.st.7 (Ne.symm hne), hg.cell h.st.8 (Ne.symm hne)⟩

def endS : St := ⟨7, 0, 0, 0, 0, 0, 0, []⟩

/-- How long the list in a cell is. -/
def lenAt (w : World) (a : Addr) : Nat := match w.cell? a with
  | some (.slice _ n _) => n
  | _ => 0

theorem lenAt_eq {w : World} {a : Addr} {A : Option Addr} {n c : Nat} (h : w.cell? a = some (.slice A n c)) : lenAt w a = n := by
  simp [lenAt, h]

theorem StepCells.grown {w w' : World} {b : Nat} {s : St} {nv : Value} {row : Option Nat} (h : StepCells w b 0 s nv) (hg : w.grownBy w' row) (hn : some b ≠ row) : StepCells w' b 0 s nv :=
  ⟨hg.cell h.1 hn, hg.cell h.2 hn, hg.cell h.3 hn, hg.cell h.4 hn, hg.cell h.5 hn, hg.cell h.6 hn, hg.cell h.7 hn, hg.cell h.8 hn⟩

/-- One end more stands behind. -/
theorem SI.snoc {rb : Nat} {w W w8 : World} {ss : List St} {k g c sb : Nat} {xs : List Value} {nvs : Nat → Value} {s : St} {nv : Value} {p g8 cap8 : Nat} (h : SI rb w W ss k g c sb xs nvs s nv p) (hr : rb < w.heap.size) (_hk : k < ss.length)
    (hg : W.grownBy w8 (some g)) (hown : w8.ownsRow (w.heap.size + 2) 62 8 (.slice (some ⟨g8, 0, none⟩) (ss.length + 1) cap8) (ss.length + 1) (xs ++ cells8 endS (.slice none 0 0))) (hat : some g = some g8 ∨ g8 = W.heap.size) :
    SI rb w (w8.setCell ⟨w.heap.size, 0, none⟩ (.slice (some ⟨g8, 0, none⟩) (ss.length + 1) cap8)) (ss ++ [endS]) k g8 cap8 sb (xs ++ cells8 endS (.slice none 0 0)) (fun i => if i = ss.length then .slice none 0 0 else nvs i) s nv p := by
  have b0 := h.sb1
  have b1 := h.sb2
  have hgl := h.po.row.lt g rfl
  have hsz := hg.size
  have hlow : ∀ i, i < w.heap.size + 2 → some i ≠ some g := fun i hi e => by cases e; omega
  have hx : Ex rb w w8 := ⟨hg.os.trans h.ex.os, hg.tape.trans h.ex.tape, hg.output.trans h.ex.output, Nat.le_trans h.ex.size hsz, fun i hi hir => (hg.block i (by omega) (hlow i (by omega))).trans (h.ex.block i hi hir)⟩
  have hg8 : w.heap.size + 2 ≤ g8 := (hown.lt g8 rfl).1
  have kept : ∀ {y : Value} {n : Nat} {ys : List Value}, W.ownsRow (w.heap.size + 2) 3 1 y n ys → (w8.setCell ⟨w.heap.size, 0, none⟩ (.slice (some ⟨g8, 0, none⟩) (ss.length + 1) cap8)).ownsRow (w.heap.size + 2) 3 1 y n ys := by
    intro y n ys hy
    refine own_far (hy.kept hg ?_) (fun e => by have := (hy.lt _ e).1; simp at this; omega) _
    rcases own_diff hy h.po.row (by decide) with e | e
    · exact Or.inl e
    · exact Or.inr e
  have hlen : xs.length = ss.length * 8 := h.po.row.1
  refine ⟨hx.setCell (Or.inr (by show w.heap.size ≤ w.heap.size; omega)) _, Rd.setCell (h.rd.grown hg (fun i hi => by cases hi; omega)) hr _, ⟨?_, fun i t ht => ?_, fun i t hik ht => ?_⟩, ?_, ?_, ?_, ?_, ?_, ?_, b0, by simpa [World.setCell] using Nat.lt_of_lt_of_le b1 hsz, kept h.own, h.far, ?_, fun i hi hik => ?_⟩
  · have := own_far hown (a := ⟨w.heap.size, 0, none⟩) (by simp [Value.ownBlock]; omega) (.slice (some ⟨g8, 0, none⟩) (ss.length + 1) cap8)
    simpa using this
  · by_cases hi : i < ss.length
    · rw [List.getElem?_append_left hi] at ht
      rw [if_neg (by omega)]
      intro j u hu
      have hj : j < 8 := by have := (List.getElem?_eq_some_iff.1 hu).1; simpa [cells8] using this
      rw [List.getElem?_append_left (by omega)]
      exact h.po.cells i t ht j u hu
    · have l := (List.getElem?_eq_some_iff.1 ht).1
      simp at l
      have e : i = ss.length := by omega
      subst e
      simp at ht
      subst ht
      rw [if_pos rfl]
      intro j u hu
      rw [List.getElem?_append_right (by omega), hlen]
      rwa [show ss.length * 8 + j - ss.length * 8 = j by omega]
  · by_cases hi : i < ss.length
    · rw [List.getElem?_append_left hi] at ht
      rw [if_neg (by omega)]
      exact kept (h.po.own i t hik ht)
    · have l := (List.getElem?_eq_some_iff.1 ht).1
      simp at l
      have e : i = ss.length := by omega
      subst e
      simp at ht
      subst ht
      rw [if_pos rfl]
      exact World.ownsRow_nil _ _ _ _
  · have := hg.cell h.box (hlow _ (by show w.heap.size < w.heap.size + 2; omega))
    simp [go_sem, this]
  · have := (hg.frozen_far ⟨w.heap.size, 0, none⟩ (by show w.heap.size < W.heap.size; omega) (hlow _ (by show w.heap.size < w.heap.size + 2; omega))).trans h.boxF
    simpa [go_sem] using this
  · rw [cell_setOther _ _ _ _ (by show w.heap.size + 1 ≠ w.heap.size; omega)]
    exact hg.cell h.res (hlow _ (by show w.heap.size + 1 < w.heap.size + 2; omega))
  · have := (hg.frozen_far ⟨w.heap.size + 1, 0, none⟩ (by show w.heap.size + 1 < W.heap.size; omega) (hlow _ (by show w.heap.size + 1 < w.heap.size + 2; omega))).trans h.resF
    simpa [go_sem] using this
  · exact (h.st.grown hg (fun e => h.farG (by cases e; rfl))).setOther (by show sb ≠ w.heap.size; omega) _
  · intro i
    have := (hg.frozen_far ⟨sb, i, none⟩ b1 (fun e => h.farG (by cases e; rfl))).trans (h.stF i)
    simpa [go_sem] using this
  · rcases hat with a | a
    · cases a
      exact h.farG
    · omega
  · simp at hi
    by_cases e : i = ss.length
    · rw [if_pos e]
      simp [Value.ownBlock]
    · rw [if_neg e]
      exact h.farN i (by omega) hik
end Go.Proofs.YtljlgffkhocgkaaDoor
namespace Go.Proofs.YtljlgffkhocgkaaDoor
open Go.RowKit

theorem lit3_at {n : Int} {z : Nat} (hz : (z : Int) < 3) : ∃ y : Int, (#[Value.int .i64 (-1), .int .i64 n, .int .i64 0] : Array Value)[z]? = some (.int .i64 y) := by
  have e : z = 0 ∨ z = 1 ∨ z = 2 := by omega
  rcases e with rfl | rfl | rfl
  all_goals exact ⟨_, rfl⟩

theorem lit3_ex {n : Int} {z rb : Nat} {W w4 : World} {t : TypeId} (hx : Ex rb (W.alloc (.cells #[.int .i64 (-1), .int .i64 n, .int .i64 0] t)).drew w4) (hr : rb < W.heap.size) (hz : (z : Int) < 3) : ∃ y : Int, w4.cell? ⟨W.heap.size, z, none⟩ = some (.int .i64 y) := by
  have e : z = 0 ∨ z = 1 ∨ z = 2 := by omega
  rcases e with rfl | rfl | rfl
  all_goals exact ⟨_, hx.cell (by show World.cell? (World.alloc _ _) _ = _; simp; rfl) (by show W.heap.size ≠ rb; omega)⟩

set_option maxRecDepth 100000 in
set_option maxHeartbeats 3000000 in
theorem l71Spoil_any {Q : Ending → World → Prop} (rb p : Nat) (v : Value) (ss : List St) (w : World) (h : Rd w rb p) (hp : p + 400 ≤ 1000000) (hS : StepsN w v ss) (h1 : 1 ≤ ss.length) (hl : ss.length ≤ 60) (hls : ∀ s ∈ ss, s.next.length ≤ 60)
    (hQ : ∀ (v' : Value) (ts : List St) (p' : Nat) w', StepsNF (w.heap.size + 2) w' v' ts → ts.length ≤ 61 → (∀ s ∈ ts, s.next.length ≤ 61) → Rd w' rb p' → p' ≤ p + 400 → Ex rb w w' → Q (.returned (.agg #[v'])) w') :
    Calls Tryd.prog 73 #[.pointer (some ⟨rb, 0, none⟩), .agg #[v]] w Q := by
  have HQ : Hid _ := hQ
  clear hQ
  have hlt := h.lt
  obtain ⟨i1, hj, hy0, hy1, hy2⟩ := info_parts infoStepD
  go_enter Tryd.func73, Tryd.ntmps73
  go_wp2_with fail
  have hls' : ∀ s ∈ ss, s.next.length ≤ 1000 := fun s hs => Nat.le_trans (hls s hs) (by decide)
  refine l1Copy_any v ss _ ((hS.keep ((Below.refl _ _).alloc (Nat.le_refl _) _)).keep ((Below.refl _ _).alloc (Nat.le_refl _) _)) (by omega) hls' fun v1 xs nvs w1 hP hb => ?_
  obtain ⟨A, c, rfl, hg⟩ := hP.slice
  obtain ⟨g, rfl, hg1, hg2⟩ := hg 0 (by omega)
  clear hg
  have HLS : Hid (∀ s ∈ ss, s.next.length ≤ 60) := hls
  have e1 : ((w.alloc (.cells #[v] 34)).alloc (.cells #[.slice none 0 0] 34)).heap.size = w.heap.size + 2 := by simp
  rw [e1] at hP hb hg1
  have c0 := (hb.cell (p := ⟨w.heap.size, 0, none⟩) (by show w.heap.size < w.heap.size + 2; omega)).trans (by simp [go_sem] : _ = some v)
  have f0 := (hb.frozen (p := ⟨w.heap.size, 0, none⟩) (by show w.heap.size < w.heap.size + 2; omega)).trans (by simp [go_sem] : _ = false)
  have hr1 : Rd w1 rb p := ((h.alloc _).alloc _).keep (by rw [e1]; exact hb)
  have HP : Hid _ := hP
  have HB : Hid _ := hb
  clear hP hb hS hls hls'
  go_wp2_with fail
  refine pick_any rb p _ _ (hr1.setCell (by show rb < w.heap.size; omega) _) (by omega) (by omega) fun k w2 hk hr2 hx2 => ?_
  have hk2 : k < ss.length := by have := hk (by omega); omega
  have hP2 : POx (w.heap.size + 2) k w2 (.slice (some ⟨g, 0, none⟩) ss.length c) ss xs nvs := ((HP.out.below (by show w.heap.size < w.heap.size + 2; omega) _).but k).ex hx2 (by omega)
  have hS2 := HP.out.cells k ss[k] (List.getElem?_eq_getElem hk2)
  have rd : ∀ j u, (cells8 ss[k] (nvs k))[j]? = some u → w2.cell? ⟨g, k * 8 + j, none⟩ = some u := fun j u hu => by
    have hj : j < 8 := by have := (List.getElem?_eq_some_iff.1 hu).1; simpa [cells8] using this
    rw [hP2.row.cellAt _ (by omega)]
    exact hS2 j u hu
  have d0 := rd 0 _ rfl
  have d1 := rd 1 _ rfl
  have d2 := rd 2 _ rfl
  have d3 := rd 3 _ rfl
  have d4 := rd 4 _ rfl
  have d5 := rd 5 _ rfl
  have d6 := rd 6 _ rfl
  have d7 := rd 7 _ rfl
  rw [Nat.add_zero] at d0
  have RD : Hid _ := rd
  have p0 : w2.cell? ⟨w.heap.size, 0, none⟩ = some (.slice (some ⟨g, 0, none⟩) ss.length c) := hx2.cell (by simp [go_sem, c0]) (by show w.heap.size ≠ rb; omega)
  have s2 := hx2.size
  simp at s2
  have pf : w2.frozen? ⟨w.heap.size, 0, none⟩ = false := (hx2.frozen (p := ⟨w.heap.size, 0, none⟩) (by show w.heap.size < _; simp; omega) (by show w.heap.size ≠ rb; omega)).trans (by simp [go_sem, f0])
  have HP2 : Hid _ := hP2
  have HX2 : Hid _ := hx2
  have hki : (k : Int) < (ss.length : Int) := by omega
  obtain ⟨A7, n7, c7, hn7⟩ : ∃ A n c, nvs k = .slice A n c := by
    rcases (HP.out.own k ss[k] (List.getElem?_eq_getElem hk2)).2 with ⟨e, _⟩ | ⟨g', c', _, e, _⟩
    · exact ⟨_, _, _, e⟩
    · exact ⟨_, _, _, e⟩
  rw [hn7] at d7
  clear rd hS2 hP2 hx2 hk c0 f0
  go_wp2_with fail
  refine pick_any rb (p + 1) _ _ (hr2.alloc _) (by omega) (by omega) fun z w3 hz hr3 hx3 => ?_
  have hz8 : z < 8 := by have := hz (by omega); omega
  have HSI : Hid (SI rb w w3 ss k g c w2.heap.size xs nvs ss[k] (.slice A7 n7 c7) (p + 1 + 1)) := by
    have r2 : w2.cell? ⟨w.heap.size + 1, 0, none⟩ = some (.slice none 0 0) := HX2.out.cell (by rw [cell_setOther _ _ _ _ (by simp)]; exact (HB.out.cell (p := ⟨w.heap.size + 1, 0, none⟩) (by show w.heap.size + 1 < w.heap.size + 2; omega)).trans (by simp [go_sem])) (by show w.heap.size + 1 ≠ rb; omega)
    have r2f : w2.frozen? ⟨w.heap.size + 1, 0, none⟩ = false := (HX2.out.frozen (p := ⟨w.heap.size + 1, 0, none⟩) (by show w.heap.size + 1 < _; simp; omega) (by show w.heap.size + 1 ≠ rb; omega)).trans (by simpa [go_sem] using (HB.out.frozen (p := ⟨w.heap.size + 1, 0, none⟩) (by show w.heap.size + 1 < w.heap.size + 2; omega)))
    have l2 : w.heap.size + 2 ≤ w2.heap.size := by omega
    have own2 := own_ex (ownsRow_setCell_below (HP.out.own k ss[k] (List.getElem?_eq_getElem hk2)) (a := ⟨w.heap.size, 0, none⟩) (by show w.heap.size < w.heap.size + 2; omega) (.slice (some ⟨g, 0, none⟩) ss.length c)) HX2.out (by omega)
    rw [hn7] at own2
    have keep : ∀ {b m n : Nat} {e : TypeId} {y : Value} {ys : List Value}, w2.ownsRow b e m y n ys → y.ownBlock ≠ some w2.heap.size := fun ho e => by have := (ho.lt _ e).2; omega
    refine SI.go (W := w2.alloc _) (p := p + 1) ⟨?_, hr2.alloc _, ⟨HP2.out.row.alloc _, HP2.out.cells, fun i t hi ht => (HP2.out.own i t hi ht).alloc _⟩, ?_, ?_, ?_, ?_, ⟨by simp, by simp, by simp, by simp, by simp, by simp, by simp, by simp⟩, fun j => by simp [go_sem], l2, by simp, own2.alloc _, keep own2, by omega, fun i hi hik => keep (HP2.out.own i ss[i] hik (List.getElem?_eq_getElem hi))⟩ hlt hx3 hr3
    · have := HX2.out
      have b2 : Ex rb w w1 := (((Ex.refl rb w).alloc _).alloc _).trans (Ex.of_below (by rw [e1]; exact HB.out))
      exact ((b2.setCell (Or.inr (by show w.heap.size ≤ w.heap.size; omega)) _).trans HX2.out).alloc _
    · exact cell_keep ((Below.refl _ _).alloc (Nat.le_refl _) _) p0
    · exact (((Below.refl _ _).alloc (Nat.le_refl _) _).frozen (by show w.heap.size < w2.heap.size; omega)).trans pf
    · exact cell_keep ((Below.refl _ _).alloc (Nat.le_refl _) _) r2
    · exact (((Below.refl _ _).alloc (Nat.le_refl _) _).frozen (by show w.heap.size + 1 < w2.heap.size; omega)).trans r2f
  have hn7' : n7 = ss[k].next.length := by
    rcases HSI.out.own.2 with ⟨e, e2⟩ | ⟨g', c', _, e, _⟩
    · cases e
      exact e2.symm
    · cases e
      rfl
  subst hn7'
  have HAP : Hid (∀ i, i < ss.length → i ≠ k → (nvs i).ownBlock = none ∨ (nvs i).ownBlock ≠ (Value.slice A7 ss[k].next.length c7).ownBlock) := by
    intro i hi hik
    rw [← hn7]
    cases e : (nvs i).ownBlock with
    | none => exact Or.inl rfl
    | some b => exact Or.inr (fun e2 => HP.out.apart i k b hi hk2 hik e e2.symm)
  clear hx3 hz d0 d1 d2 d3 d4 d5 d6 d7 p0 pf RD HX2 HP2 HP HB hr1 hr2 hr3
  have HLK : Hid (ss[k].next.length ≤ 60) := HLS.out _ (List.getElem_mem hk2)
  have HALL : Hid (∀ t : St, t.next.length ≤ 61 → ∀ s ∈ ss.set k t, s.next.length ≤ 61) := by
    intro t ht s hs
    rcases List.mem_or_eq_of_mem_set hs with hs | rfl
    · exact Nat.le_trans (HLS.out s hs) (by decide)
    · exact ht
  have hz0 : z = 0 ∨ z = 1 ∨ z = 2 ∨ z = 3 ∨ z = 4 ∨ z = 5 ∨ z = 6 ∨ z = 7 := by omega
  rcases hz0 with rfl | rfl | rfl | rfl | rfl | rfl | rfl | rfl
  · go_wp2_with fail
    refine pick_any rb (p + 1 + 1) _ _ HSI.out.rd (by omega) (by omega) fun z4 w4 hz4 hr4 hx4 => ?_
    have HS4 : Hid (SI rb w w4 ss k g c w2.heap.size xs nvs ss[k] (.slice A7 ss[k].next.length c7) (p + 1 + 1 + 1)) := HSI.out.go hlt hx4 hr4
    clear hx4 hr4 hz4
    have sb1 := HS4.out.sb1
    have hgs : g ≠ w2.heap.size := HS4.out.farG
    have hgw : g ≠ w.heap.size := by omega
    have hgw1 : g ≠ w.heap.size + 1 := by omega
    obtain ⟨a0, a1, a2, a3, a4, a5, a6, a7⟩ := HS4.out.st.zero
    have fz := HS4.out.stF
    have rd : ∀ j, j < 8 → ∃ u, w4.cell? ⟨g, k * 8 + j, none⟩ = some u := fun j hj => by
      have hx : k * 8 + j < xs.length := by rw [HS4.out.po.row.1]; omega
      exact ⟨xs[k * 8 + j], by rw [HS4.out.po.row.cellAt _ (by omega)]; exact List.getElem?_eq_getElem hx⟩
    obtain ⟨u0, d0⟩ := rd 0 (by decide)
    obtain ⟨u1, d1⟩ := rd 1 (by decide)
    obtain ⟨u2, d2⟩ := rd 2 (by decide)
    obtain ⟨u3, d3⟩ := rd 3 (by decide)
    obtain ⟨u4, d4⟩ := rd 4 (by decide)
    obtain ⟨u5, d5⟩ := rd 5 (by decide)
    obtain ⟨u6, d6⟩ := rd 6 (by decide)
    obtain ⟨u7, d7⟩ := rd 7 (by decide)
    rw [Nat.add_zero] at d0
    have gf := HS4.out.po.row.frozenAt
    have p0 := HS4.out.box
    have pf := HS4.out.boxF
    have q0 := HS4.out.res
    have qf := HS4.out.resF
    clear rd
    have HS5 : Hid (SI rb w (w4.setCell ⟨w2.heap.size, 0, none⟩ (.int .i64 z4)) ss k g c w2.heap.size xs nvs { ss[k] with kind := z4 } (.slice A7 ss[k].next.length c7) (p + 1 + 1 + 1)) := HS4.out.set hlt _ _ rfl ⟨by simp [go_sem, a0], by simp [go_sem, a1], by simp [go_sem, a2], by simp [go_sem, a3], by simp [go_sem, a4], by simp [go_sem, a5], by simp [go_sem, a6], by simp [go_sem, a7]⟩
    have HF : Hid _ := HS5.out.fin (x := .slice (some ⟨g, 0, none⟩) ss.length c) hlt hk2
    go_wp2_with fail
    refine bodyPost_ret (v := .agg #[.slice (some ⟨g, 0, none⟩) ss.length c]) (by simp [results, Tryd.results73, go_sem, q0]) rfl ?_
    exact HQ.out _ _ (p + 1 + 1 + 1) _ HF.out.1 (by rw [List.length_set]; omega) (HALL.out _ (by first | exact Nat.le_trans HLK.out (by decide))) HF.out.2.1 (by omega) HF.out.2.2
  · go_wp2_with fail
    refine pick_any rb (p + 1 + 1) _ _ (HSI.out.rd.alloc _) (by omega) (by omega) fun z4 w4 hz4 hr4 hx4 => ?_
    have h44 : (z4 : Int) < 4 := hz4 (by omega)
    have s3 : w.heap.size + 2 ≤ w3.heap.size := Nat.le_trans HSI.out.sb1 (Nat.le_of_lt HSI.out.sb2)
    obtain ⟨y, hy⟩ : ∃ y, w4.cell? ⟨w3.heap.size, z4, none⟩ = some (.int .i64 y) := by
      have e : z4 = 0 ∨ z4 = 1 ∨ z4 = 2 ∨ z4 = 3 := by omega
      rcases e with rfl | rfl | rfl | rfl
      all_goals exact ⟨_, hx4.cell (by simp; rfl) (by show w3.heap.size ≠ rb; omega)⟩
    have HS4 : Hid (SI rb w w4 ss k g c w2.heap.size xs nvs ss[k] (.slice A7 ss[k].next.length c7) (p + 1 + 1 + 1)) := HSI.out.go hlt (((Ex.refl _ _).alloc _).trans hx4) hr4
    clear hx4 hr4 hz4
    have sb1 := HS4.out.sb1
    have hgs : g ≠ w2.heap.size := HS4.out.farG
    have hgw : g ≠ w.heap.size := by omega
    have hgw1 : g ≠ w.heap.size + 1 := by omega
    obtain ⟨a0, a1, a2, a3, a4, a5, a6, a7⟩ := HS4.out.st.zero
    have fz := HS4.out.stF
    have rd : ∀ j, j < 8 → ∃ u, w4.cell? ⟨g, k * 8 + j, none⟩ = some u := fun j hj => by
      have hx : k * 8 + j < xs.length := by rw [HS4.out.po.row.1]; omega
      exact ⟨xs[k * 8 + j], by rw [HS4.out.po.row.cellAt _ (by omega)]; exact List.getElem?_eq_getElem hx⟩
    obtain ⟨u0, d0⟩ := rd 0 (by decide)
    obtain ⟨u1, d1⟩ := rd 1 (by decide)
    obtain ⟨u2, d2⟩ := rd 2 (by decide)
    obtain ⟨u3, d3⟩ := rd 3 (by decide)
    obtain ⟨u4, d4⟩ := rd 4 (by decide)
    obtain ⟨u5, d5⟩ := rd 5 (by decide)
    obtain ⟨u6, d6⟩ := rd 6 (by decide)
    obtain ⟨u7, d7⟩ := rd 7 (by decide)
    rw [Nat.add_zero] at d0
    have gf := HS4.out.po.row.frozenAt
    have p0 := HS4.out.box
    have pf := HS4.out.boxF
    have q0 := HS4.out.res
    have qf := HS4.out.resF
    clear rd
    have HS5 : Hid (SI rb w (w4.setCell ⟨w2.heap.size, 1, none⟩ (.int .i64 y)) ss k g c w2.heap.size xs nvs { ss[k] with dst := y } (.slice A7 ss[k].next.length c7) (p + 1 + 1 + 1)) := HS4.out.set hlt _ _ rfl ⟨by simp [go_sem, a0], by simp [go_sem, a1], by simp [go_sem, a2], by simp [go_sem, a3], by simp [go_sem, a4], by simp [go_sem, a5], by simp [go_sem, a6], by simp [go_sem, a7]⟩
    have HF : Hid _ := HS5.out.fin (x := .slice (some ⟨g, 0, none⟩) ss.length c) hlt hk2
    go_wp2_with fail
    refine bodyPost_ret (v := .agg #[.slice (some ⟨g, 0, none⟩) ss.length c]) (by simp [results, Tryd.results73, go_sem, q0]) rfl ?_
    exact HQ.out _ _ (p + 1 + 1 + 1) _ HF.out.1 (by rw [List.length_set]; omega) (HALL.out _ (by first | exact Nat.le_trans HLK.out (by decide))) HF.out.2.1 (by omega) HF.out.2.2
  · go_wp2_with fail
    refine pick_any rb (p + 1 + 1) _ _ HSI.out.rd (by omega) (by omega) fun z4 w4 hz4 hr4 hx4 => ?_
    have HS4 : Hid (SI rb w w4 ss k g c w2.heap.size xs nvs ss[k] (.slice A7 ss[k].next.length c7) (p + 1 + 1 + 1)) := HSI.out.go hlt hx4 hr4
    clear hx4 hr4 hz4
    have sb1 := HS4.out.sb1
    have hgs : g ≠ w2.heap.size := HS4.out.farG
    have hgw : g ≠ w.heap.size := by omega
    have hgw1 : g ≠ w.heap.size + 1 := by omega
    obtain ⟨a0, a1, a2, a3, a4, a5, a6, a7⟩ := HS4.out.st.zero
    have fz := HS4.out.stF
    have rd : ∀ j, j < 8 → ∃ u, w4.cell? ⟨g, k * 8 + j, none⟩ = some u := fun j hj => by
      have hx : k * 8 + j < xs.length := by rw [HS4.out.po.row.1]; omega
      exact ⟨xs[k * 8 + j], by rw [HS4.out.po.row.cellAt _ (by omega)]; exact List.getElem?_eq_getElem hx⟩
    obtain ⟨u0, d0⟩ := rd 0 (by decide)
    obtain ⟨u1, d1⟩ := rd 1 (by decide)
    obtain ⟨u2, d2⟩ := rd 2 (by decide)
    obtain ⟨u3, d3⟩ := rd 3 (by decide)
    obtain ⟨u4, d4⟩ := rd 4 (by decide)
    obtain ⟨u5, d5⟩ := rd 5 (by decide)
    obtain ⟨u6, d6⟩ := rd 6 (by decide)
    obtain ⟨u7, d7⟩ := rd 7 (by decide)
    rw [Nat.add_zero] at d0
    have gf := HS4.out.po.row.frozenAt
    have p0 := HS4.out.box
    have pf := HS4.out.boxF
    have q0 := HS4.out.res
    have qf := HS4.out.resF
    clear rd
    have HS5 : Hid (SI rb w (w4.setCell ⟨w2.heap.size, 2, none⟩ (.int .i64 z4)) ss k g c w2.heap.size xs nvs { ss[k] with op := z4 } (.slice A7 ss[k].next.length c7) (p + 1 + 1 + 1)) := HS4.out.set hlt _ _ rfl ⟨by simp [go_sem, a0], by simp [go_sem, a1], by simp [go_sem, a2], by simp [go_sem, a3], by simp [go_sem, a4], by simp [go_sem, a5], by simp [go_sem, a6], by simp [go_sem, a7]⟩
    have HF : Hid _ := HS5.out.fin (x := .slice (some ⟨g, 0, none⟩) ss.length c) hlt hk2
    go_wp2_with fail
    refine bodyPost_ret (v := .agg #[.slice (some ⟨g, 0, none⟩) ss.length c]) (by simp [results, Tryd.results73, go_sem, q0]) rfl ?_
    exact HQ.out _ _ (p + 1 + 1 + 1) _ HF.out.1 (by rw [List.length_set]; omega) (HALL.out _ (by first | exact Nat.le_trans HLK.out (by decide))) HF.out.2.1 (by omega) HF.out.2.2
  · go_wp2_with fail
    refine pick_any rb (p + 1 + 1) _ _ HSI.out.rd (by omega) (by omega) fun z4 w4 hz4 hr4 hx4 => ?_
    have HS3 : Hid (SI rb w w4 ss k g c w2.heap.size xs nvs ss[k] (.slice A7 ss[k].next.length c7) (p + 1 + 1 + 1)) := HSI.out.go hlt hx4 hr4
    have h44 : (z4 : Int) < 15 := by have := hz4 (by omega); omega
    go_wp2_with fail
    refine pick_any rb (p + 1 + 1 + 1) _ _ (hr4.alloc _) (by omega) (by omega) fun z5 w5 hz5 hr5 hx5 => ?_
    have h54 : (z5 : Int) < 4 := hz5 (by omega)
    have s3 : w.heap.size + 2 ≤ w4.heap.size := Nat.le_trans HS3.out.sb1 (Nat.le_of_lt HS3.out.sb2)
    obtain ⟨y, hy⟩ : ∃ y, w5.cell? ⟨w4.heap.size, z5, none⟩ = some (.int .i64 y) := by
      have e : z5 = 0 ∨ z5 = 1 ∨ z5 = 2 ∨ z5 = 3 := by omega
      rcases e with rfl | rfl | rfl | rfl
      all_goals exact ⟨_, hx5.cell (by simp; rfl) (by show w4.heap.size ≠ rb; omega)⟩
    have HS4 : Hid (SI rb w w5 ss k g c w2.heap.size xs nvs ss[k] (.slice A7 ss[k].next.length c7) (p + 1 + 1 + 1 + 1)) := HS3.out.go hlt (((Ex.refl _ _).alloc _).trans hx5) hr5
    clear hx4 hr4 hz4 hx5 hr5 hz5 HS3
    have sb1 := HS4.out.sb1
    have hgs : g ≠ w2.heap.size := HS4.out.farG
    have hgw : g ≠ w.heap.size := by omega
    have hgw1 : g ≠ w.heap.size + 1 := by omega
    obtain ⟨a0, a1, a2, a3, a4, a5, a6, a7⟩ := HS4.out.st.zero
    have fz := HS4.out.stF
    have rd : ∀ j, j < 8 → ∃ u, w5.cell? ⟨g, k * 8 + j, none⟩ = some u := fun j hj => by
      have hx : k * 8 + j < xs.length := by rw [HS4.out.po.row.1]; omega
      exact ⟨xs[k * 8 + j], by rw [HS4.out.po.row.cellAt _ (by omega)]; exact List.getElem?_eq_getElem hx⟩
    obtain ⟨u0, d0⟩ := rd 0 (by decide)
    obtain ⟨u1, d1⟩ := rd 1 (by decide)
    obtain ⟨u2, d2⟩ := rd 2 (by decide)
    obtain ⟨u3, d3⟩ := rd 3 (by decide)
    obtain ⟨u4, d4⟩ := rd 4 (by decide)
    obtain ⟨u5, d5⟩ := rd 5 (by decide)
    obtain ⟨u6, d6⟩ := rd 6 (by decide)
    obtain ⟨u7, d7⟩ := rd 7 (by decide)
    rw [Nat.add_zero] at d0
    have gf := HS4.out.po.row.frozenAt
    have p0 := HS4.out.box
    have pf := HS4.out.boxF
    have q0 := HS4.out.res
    have qf := HS4.out.resF
    clear rd
    have HS5 : Hid (SI rb w (w5.setCell ⟨w2.heap.size, 3, none⟩ (.int .i64 ((z4 : Int) - 2))) ss k g c w2.heap.size xs nvs { ss[k] with av := (z4 : Int) - 2 } (.slice A7 ss[k].next.length c7) (p + 1 + 1 + 1 + 1)) := HS4.out.set hlt _ _ rfl ⟨by simp [go_sem, a0], by simp [go_sem, a1], by simp [go_sem, a2], by simp [go_sem, a3], by simp [go_sem, a4], by simp [go_sem, a5], by simp [go_sem, a6], by simp [go_sem, a7]⟩
    have HS6 : Hid (SI rb w ((w5.setCell ⟨w2.heap.size, 3, none⟩ (.int .i64 ((z4 : Int) - 2))).setCell ⟨w2.heap.size, 4, none⟩ (.int .i64 y)) ss k g c w2.heap.size xs nvs { ss[k] with av := (z4 : Int) - 2, an := y } (.slice A7 ss[k].next.length c7) (p + 1 + 1 + 1 + 1)) := HS5.out.set hlt _ _ rfl ⟨by simp [go_sem, a0], by simp [go_sem, a1], by simp [go_sem, a2], by simp [go_sem, a3], by simp [go_sem, a4], by simp [go_sem, a5], by simp [go_sem, a6], by simp [go_sem, a7]⟩
    have HF : Hid _ := HS6.out.fin (x := .slice (some ⟨g, 0, none⟩) ss.length c) hlt hk2
    go_wp2_with fail
    refine bodyPost_ret (v := .agg #[.slice (some ⟨g, 0, none⟩) ss.length c]) (by simp [results, Tryd.results73, go_sem, q0]) rfl ?_
    exact HQ.out _ _ (p + 1 + 1 + 1 + 1) _ HF.out.1 (by rw [List.length_set]; omega) (HALL.out _ (by first | exact Nat.le_trans HLK.out (by decide))) HF.out.2.1 (by omega) HF.out.2.2
  · go_wp2_with fail
    refine pick_any rb (p + 1 + 1) _ _ HSI.out.rd (by omega) (by omega) fun z4 w4 hz4 hr4 hx4 => ?_
    have HS3 : Hid (SI rb w w4 ss k g c w2.heap.size xs nvs ss[k] (.slice A7 ss[k].next.length c7) (p + 1 + 1 + 1)) := HSI.out.go hlt hx4 hr4
    have h44 : (z4 : Int) < 15 := by have := hz4 (by omega); omega
    go_wp2_with fail
    refine pick_any rb (p + 1 + 1 + 1) _ _ hr4 (by omega) (by omega) fun z5 w5 hz5 hr5 hx5 => ?_
    have HS4 : Hid (SI rb w w5 ss k g c w2.heap.size xs nvs ss[k] (.slice A7 ss[k].next.length c7) (p + 1 + 1 + 1 + 1)) := HS3.out.go hlt hx5 hr5
    clear hx4 hr4 hz4 hx5 hr5 hz5 HS3
    have sb1 := HS4.out.sb1
    have hgs : g ≠ w2.heap.size := HS4.out.farG
    have hgw : g ≠ w.heap.size := by omega
    have hgw1 : g ≠ w.heap.size + 1 := by omega
    obtain ⟨a0, a1, a2, a3, a4, a5, a6, a7⟩ := HS4.out.st.zero
    have fz := HS4.out.stF
    have rd : ∀ j, j < 8 → ∃ u, w5.cell? ⟨g, k * 8 + j, none⟩ = some u := fun j hj => by
      have hx : k * 8 + j < xs.length := by rw [HS4.out.po.row.1]; omega
      exact ⟨xs[k * 8 + j], by rw [HS4.out.po.row.cellAt _ (by omega)]; exact List.getElem?_eq_getElem hx⟩
    obtain ⟨u0, d0⟩ := rd 0 (by decide)
    obtain ⟨u1, d1⟩ := rd 1 (by decide)
    obtain ⟨u2, d2⟩ := rd 2 (by decide)
    obtain ⟨u3, d3⟩ := rd 3 (by decide)
    obtain ⟨u4, d4⟩ := rd 4 (by decide)
    obtain ⟨u5, d5⟩ := rd 5 (by decide)
    obtain ⟨u6, d6⟩ := rd 6 (by decide)
    obtain ⟨u7, d7⟩ := rd 7 (by decide)
    rw [Nat.add_zero] at d0
    have gf := HS4.out.po.row.frozenAt
    have p0 := HS4.out.box
    have pf := HS4.out.boxF
    have q0 := HS4.out.res
    have qf := HS4.out.resF
    clear rd
    have HS5 : Hid (SI rb w (w5.setCell ⟨w2.heap.size, 5, none⟩ (.int .i64 ((z4 : Int) - 2))) ss k g c w2.heap.size xs nvs { ss[k] with bv := (z4 : Int) - 2 } (.slice A7 ss[k].next.length c7) (p + 1 + 1 + 1 + 1)) := HS4.out.set hlt _ _ rfl ⟨by simp [go_sem, a0], by simp [go_sem, a1], by simp [go_sem, a2], by simp [go_sem, a3], by simp [go_sem, a4], by simp [go_sem, a5], by simp [go_sem, a6], by simp [go_sem, a7]⟩
    have HS6 : Hid (SI rb w ((w5.setCell ⟨w2.heap.size, 5, none⟩ (.int .i64 ((z4 : Int) - 2))).setCell ⟨w2.heap.size, 6, none⟩ (.int .i64 z5)) ss k g c w2.heap.size xs nvs { ss[k] with bv := (z4 : Int) - 2, bn := z5 } (.slice A7 ss[k].next.length c7) (p + 1 + 1 + 1 + 1)) := HS5.out.set hlt _ _ rfl ⟨by simp [go_sem, a0], by simp [go_sem, a1], by simp [go_sem, a2], by simp [go_sem, a3], by simp [go_sem, a4], by simp [go_sem, a5], by simp [go_sem, a6], by simp [go_sem, a7]⟩
    have HF : Hid _ := HS6.out.fin (x := .slice (some ⟨g, 0, none⟩) ss.length c) hlt hk2
    go_wp2_with fail
    refine bodyPost_ret (v := .agg #[.slice (some ⟨g, 0, none⟩) ss.length c]) (by simp [results, Tryd.results73, go_sem, q0]) rfl ?_
    exact HQ.out _ _ (p + 1 + 1 + 1 + 1) _ HF.out.1 (by rw [List.length_set]; omega) (HALL.out _ (by first | exact Nat.le_trans HLK.out (by decide))) HF.out.2.1 (by omega) HF.out.2.2
  · obtain ⟨a0, a1, a2, a3, a4, a5, a6, a7⟩ := HSI.out.st.zero
    have p3 := HSI.out.box
    have hlk : ss[k].next.length ≤ 60 := HLK.out
    have HRD3 : Hid (Rd w3.drew rb (p + 1 + 1)) := ⟨HSI.out.rd.ex, HSI.out.rd.at1, HSI.out.rd.fz⟩
    obtain ⟨i0, hi, hi0, hi1, hi2⟩ := info_parts infoIntD
    go_wp2_with fail
    go_region_law (first
      | (refine step_append_lies _ rfl (.tmp 76) (.tmp 82) 55 rfl (w.heap.size + 2) 3 i0 (.int .i64 0) 1 8 Tryd.underlying55 hi hi0 hi1 hi2 rfl (by decide) (.slice A7 ss[k].next.length c7) ss[k].next.length (ss[k].next.map (Value.int .i64)) (by simp [Act.eval]) HSB.out.own ⟨w4.heap.size, 0, none⟩ 1 1 [.int .i64 (z4 : Int)] (by simp [Act.eval]) rfl (one_new (by simp [go_sem])) (by intro u hu; rw [List.mem_singleton] at hu; subst hu; rfl) (by decide) (by unfold maxLen; omega) (by omega) (by simp; omega) (w4.heap.size + 1) (by simp) ?_; intro g8 cap8 w8 hown8 hgrow8 hat8 hlt8; obtain ⟨c0, c1, c2, c3, c4, c5, c6, c7'⟩ := (HSB.out.cellsG hgrow8).zero; have c7f := (hgrow8.frozen_far ⟨w2.heap.size, 7, none⟩ HSB.out.sb2 (Ne.symm HSB.out.far)).trans (HSB.out.stF 7))
      | (go_simp; go_wp2_with (go_at_call 71; refine pick_any rb (p + 1 + 1) _ _ HRD3.out (by omega) (by omega) ?_; intro z4 w4 hz4 hr4 hx4; have HS4 : Hid (SI rb w w4 ss k g c w2.heap.size xs nvs ss[k] (.slice A7 ss[k].next.length c7) (p + 1 + 1 + 1)) := HSI.out.go hlt ⟨hx4.os, hx4.tape, hx4.output, hx4.size, hx4.block⟩ hr4; have HSB : Hid (SI rb w (w4.alloc (.cells #[.int .i64 (z4 : Int)] 3)) ss k g c w2.heap.size xs nvs ss[k] (.slice A7 ss[k].next.length c7) (p + 1 + 1 + 1)) := HS4.out.go hlt ((Ex.refl _ _).alloc _) (hr4.alloc _); obtain ⟨b0, b1, b2, b3, b4, b5, b6, b7⟩ := HS4.out.st.zero; have s41 := HS4.out.sb1; have s42 := HS4.out.sb2; clear hz4 hr4 hx4 b0 b1 b2 b3 b4 b5 b6)))
    all_goals
      have HS5 : Hid (SI rb w (w8.setCell ⟨w2.heap.size, 7, none⟩ (.slice (some ⟨g8, 0, none⟩) (ss[k].next.length + 1) cap8)) ss k g c w2.heap.size xs nvs { ss[k] with next := ss[k].next ++ [(z4 : Int)] } (.slice (some ⟨g8, 0, none⟩) (ss[k].next.length + 1) cap8) (p + 1 + 1 + 1)) := HSB.out.push hlt hgrow8 HAP.out hown8 (by simpa using hat8) ⟨by simp [go_sem, c0], by simp [go_sem, c1], by simp [go_sem, c2], by simp [go_sem, c3], by simp [go_sem, c4], by simp [go_sem, c5], by simp [go_sem, c6], by simp [go_sem, c7']⟩
      clear hown8 hgrow8 hat8 c0 c1 c2 c3 c4 c5 c6 c7' c7f HSB HS4 a0 a1 a2 a3 a4 a5 a6 a7 p3 b7
      generalize w8.setCell ⟨w2.heap.size, 7, none⟩ (.slice (some ⟨g8, 0, none⟩) (ss[k].next.length + 1) cap8) = W9 at HS5 ⊢
      have sb1 := HS5.out.sb1
      have hgs : g ≠ w2.heap.size := HS5.out.farG
      have hgw : g ≠ w.heap.size := by omega
      have hgw1 : g ≠ w.heap.size + 1 := by omega
      obtain ⟨a0, a1, a2, a3, a4, a5, a6, a7⟩ := HS5.out.st.zero
      have fz := HS5.out.stF
      have rd : ∀ j, j < 8 → ∃ u, W9.cell? ⟨g, k * 8 + j, none⟩ = some u := fun j hj => by
        have hx : k * 8 + j < xs.length := by rw [HS5.out.po.row.1]; omega
        exact ⟨xs[k * 8 + j], by rw [HS5.out.po.row.cellAt _ (by omega)]; exact List.getElem?_eq_getElem hx⟩
      obtain ⟨u0, d0⟩ := rd 0 (by decide)
      obtain ⟨u1, d1⟩ := rd 1 (by decide)
      obtain ⟨u2, d2⟩ := rd 2 (by decide)
      obtain ⟨u3, d3⟩ := rd 3 (by decide)
      obtain ⟨u4, d4⟩ := rd 4 (by decide)
      obtain ⟨u5, d5⟩ := rd 5 (by decide)
      obtain ⟨u6, d6⟩ := rd 6 (by decide)
      obtain ⟨u7, d7⟩ := rd 7 (by decide)
      rw [Nat.add_zero] at d0
      have gf := HS5.out.po.row.frozenAt
      have p0 := HS5.out.box
      have pf := HS5.out.boxF
      have q0 := HS5.out.res
      have qf := HS5.out.resF
      clear rd
      have HF : Hid _ := HS5.out.fin (x := .slice (some ⟨g, 0, none⟩) ss.length c) hlt hk2
      go_wp2_with fail
      refine bodyPost_ret (v := .agg #[.slice (some ⟨g, 0, none⟩) ss.length c]) (by simp [results, Tryd.results73, go_sem, q0]) rfl ?_
      exact HQ.out _ _ (p + 1 + 1 + 1) _ HF.out.1 (by rw [List.length_set]; omega) (HALL.out _ (by simp; omega)) HF.out.2.1 (by omega) HF.out.2.2
  · obtain ⟨a0, a1, a2, a3, a4, a5, a6, a7⟩ := HSI.out.st.zero
    have p3 := HSI.out.box
    have f3 := HSI.out.stF 7
    have s31 := HSI.out.sb1
    have s32 := HSI.out.sb2
    have HRA : Hid (Rd (w3.alloc (.cells #[.int .i64 (-1), .int .i64 (ss.length : Int), .int .i64 0] 3)).drew rb (p + 1 + 1)) := ⟨(HSI.out.rd.alloc (.cells #[.int .i64 (-1), .int .i64 (ss.length : Int), .int .i64 0] 3)).ex, (HSI.out.rd.alloc (.cells #[.int .i64 (-1), .int .i64 (ss.length : Int), .int .i64 0] 3)).at1, (HSI.out.rd.alloc (.cells #[.int .i64 (-1), .int .i64 (ss.length : Int), .int .i64 0] 3)).fz⟩
    have HRB : Hid (Rd w3.drew rb (p + 1 + 1)) := ⟨HSI.out.rd.ex, HSI.out.rd.at1, HSI.out.rd.fz⟩
    go_wp2_with fail
    go_region_law (first
      | (go_simp; refine pick_any rb (p + 1 + 1) 3 _ HRA.out (by omega) (by omega) ?_; intro z4 w4 hz4 hr4 hx4; have h44 : (z4 : Int) < 3 := hz4 (by omega); have HSC : Hid (SI rb w w4 ss k g c w2.heap.size xs nvs ss[k] (.slice A7 ss[k].next.length c7) (p + 1 + 1 + 1)) := HSI.out.go hlt (Ex.trans (((Ex.refl rb w3).alloc _).drew) hx4) hr4; obtain ⟨y, hy⟩ := lit3_ex (n := (ss.length : Int)) (W := w3) hx4 (by omega) h44; obtain ⟨b0, b1, b2, b3, b4, b5, b6, b7⟩ := HSC.out.st.zero; have fb := HSC.out.stF 7; have pb := HSC.out.box; have s42 := HSC.out.sb2; clear hz4 hr4 hx4 b0 b1 b2 b3 b4 b5 b6)
      | (go_simp; refine pick_any rb (p + 1 + 1) 3 _ HRB.out (by omega) (by omega) ?_; intro z4 w4 hz4 hr4 hx4; have h44 : (z4 : Int) < 3 := hz4 (by omega); have HSD : Hid (SI rb w w4 ss k g c w2.heap.size xs nvs ss[k] (.slice A7 ss[k].next.length c7) (p + 1 + 1 + 1)) := HSI.out.go hlt ⟨hx4.os, hx4.tape, hx4.output, hx4.size, hx4.block⟩ hr4; have HSC : Hid (SI rb w (w4.alloc (.cells #[.int .i64 (-1), .int .i64 (ss.length : Int), .int .i64 0] 3)) ss k g c w2.heap.size xs nvs ss[k] (.slice A7 ss[k].next.length c7) (p + 1 + 1 + 1)) := HSD.out.go hlt ((Ex.refl _ _).alloc _) (hr4.alloc _); obtain ⟨y, hy⟩ := lit3_at (n := (ss.length : Int)) h44; obtain ⟨b0, b1, b2, b3, b4, b5, b6, b7⟩ := HSD.out.st.zero; have fb := HSD.out.stF 7; have pb := HSD.out.box; have s42 := HSD.out.sb2; clear hz4 hr4 hx4 b0 b1 b2 b3 b4 b5 b6))
    all_goals
      clear a0 a1 a2 a3 a4 a5 a6 a7 b7 fb f3 pb p3
      first
      | (have HSB : Hid (SI rb w ((w4.alloc (.cells #[.int .i64 (-1), .int .i64 (ss.length : Int), .int .i64 0] 3)).alloc (.cells #[.int .i64 y] 3)) ss k g c w2.heap.size xs nvs ss[k] (.slice A7 ss[k].next.length c7) (p + 1 + 1 + 1)) := HSC.out.go hlt ((Ex.refl _ _).alloc _) (HSC.out.rd.alloc _)
         have s43 := HSC.out.sb2
         obtain ⟨a0, a1, a2, a3, a4, a5, a6, a7⟩ := HSB.out.st.zero
         have HS5 : Hid (SI rb w (((w4.alloc (.cells #[.int .i64 (-1), .int .i64 (ss.length : Int), .int .i64 0] 3)).alloc (.cells #[.int .i64 y] 3)).setCell ⟨w2.heap.size, 7, none⟩ (.slice (some ⟨w4.heap.size + 1, 0, none⟩) 1 1)) ss k g c w2.heap.size xs nvs { ss[k] with next := [y] } (.slice (some ⟨w4.heap.size + 1, 0, none⟩) 1 1) (p + 1 + 1 + 1)) := HSB.out.setN hlt ⟨by simp [go_sem, a0], by simp [go_sem, a1], by simp [go_sem, a2], by simp [go_sem, a3], by simp [go_sem, a4], by simp [go_sem, a5], by simp [go_sem, a6], by simp [go_sem, a7]⟩ (by simpa using World.ownsRow_lit (base := w.heap.size + 2) (e := 3) (size := 1) (w4.alloc (.cells #[.int .i64 (-1), .int .i64 (ss.length : Int), .int .i64 0] 3)) #[.int .i64 y] 1 (by first | omega | (simp <;> omega)) (by decide) rfl) (by simp [Value.ownBlock]; omega)
         rw [World.setCell_alloc_past _ _ _ _ (by first | omega | (simp; omega)), World.setCell_alloc_past _ _ _ _ (by first | omega | (simp; omega))] at HS5
         generalize ((w4.setCell ⟨w2.heap.size, 7, none⟩ (.slice (some ⟨w4.heap.size + 1, 0, none⟩) 1 1)).alloc (.cells #[.int .i64 (-1), .int .i64 (ss.length : Int), .int .i64 0] 3)).alloc (.cells #[.int .i64 y] 3) = W9 at HS5 ⊢
         clear HSB a0 a1 a2 a3 a4 a5 a6 a7)
      | (have HSB : Hid (SI rb w (w4.alloc (.cells #[.int .i64 y] 3)) ss k g c w2.heap.size xs nvs ss[k] (.slice A7 ss[k].next.length c7) (p + 1 + 1 + 1)) := HSC.out.go hlt ((Ex.refl _ _).alloc _) (HSC.out.rd.alloc _)
         have s43 := HSC.out.sb2
         obtain ⟨a0, a1, a2, a3, a4, a5, a6, a7⟩ := HSB.out.st.zero
         have HS5 : Hid (SI rb w ((w4.alloc (.cells #[.int .i64 y] 3)).setCell ⟨w2.heap.size, 7, none⟩ (.slice (some ⟨w4.heap.size, 0, none⟩) 1 1)) ss k g c w2.heap.size xs nvs { ss[k] with next := [y] } (.slice (some ⟨w4.heap.size, 0, none⟩) 1 1) (p + 1 + 1 + 1)) := HSB.out.setN hlt ⟨by simp [go_sem, a0], by simp [go_sem, a1], by simp [go_sem, a2], by simp [go_sem, a3], by simp [go_sem, a4], by simp [go_sem, a5], by simp [go_sem, a6], by simp [go_sem, a7]⟩ (by simpa using World.ownsRow_lit (base := w.heap.size + 2) (e := 3) (size := 1) w4 #[.int .i64 y] 1 (by first | omega | (simp <;> omega)) (by decide) rfl) (by simp [Value.ownBlock]; omega)
         rw [World.setCell_alloc_past _ _ _ _ (by first | omega | (simp; omega))] at HS5
         generalize (w4.setCell ⟨w2.heap.size, 7, none⟩ (.slice (some ⟨w4.heap.size, 0, none⟩) 1 1)).alloc (.cells #[.int .i64 y] 3) = W9 at HS5 ⊢
         clear HSB a0 a1 a2 a3 a4 a5 a6 a7)
      have sb1 := HS5.out.sb1
      have hgs : g ≠ w2.heap.size := HS5.out.farG
      have hgw : g ≠ w.heap.size := by omega
      have hgw1 : g ≠ w.heap.size + 1 := by omega
      obtain ⟨a0, a1, a2, a3, a4, a5, a6, a7⟩ := HS5.out.st.zero
      have fz := HS5.out.stF
      have rd : ∀ j, j < 8 → ∃ u, W9.cell? ⟨g, k * 8 + j, none⟩ = some u := fun j hj => by
        have hx : k * 8 + j < xs.length := by rw [HS5.out.po.row.1]; omega
        exact ⟨xs[k * 8 + j], by rw [HS5.out.po.row.cellAt _ (by omega)]; exact List.getElem?_eq_getElem hx⟩
      obtain ⟨u0, d0⟩ := rd 0 (by decide)
      obtain ⟨u1, d1⟩ := rd 1 (by decide)
      obtain ⟨u2, d2⟩ := rd 2 (by decide)
      obtain ⟨u3, d3⟩ := rd 3 (by decide)
      obtain ⟨u4, d4⟩ := rd 4 (by decide)
      obtain ⟨u5, d5⟩ := rd 5 (by decide)
      obtain ⟨u6, d6⟩ := rd 6 (by decide)
      obtain ⟨u7, d7⟩ := rd 7 (by decide)
      rw [Nat.add_zero] at d0
      have gf := HS5.out.po.row.frozenAt
      have p0 := HS5.out.box
      have pf := HS5.out.boxF
      have q0 := HS5.out.res
      have qf := HS5.out.resF
      clear rd
      have HF : Hid _ := HS5.out.fin (x := .slice (some ⟨g, 0, none⟩) ss.length c) hlt hk2
      go_wp2_with fail
      refine bodyPost_ret (v := .agg #[.slice (some ⟨g, 0, none⟩) ss.length c]) (by simp [results, Tryd.results73, go_sem, q0]) rfl ?_
      exact HQ.out _ _ (p + 1 + 1 + 1) _ HF.out.1 (by rw [List.length_set]; omega) (HALL.out _ (by simp)) HF.out.2.1 (by omega) HF.out.2.2
  · have HLT : Hid (∀ t ∈ ss, t.next.length ≤ 61) := fun t ht => Nat.le_trans (HLS.out t ht) (by decide)
    go_wp2_with fail
    go_loopw [23] (fun _ wr => ∃ (ts : List St) (g' c' : Nat) (ys : List Value) (mvs : Nat → Value) (p' : Nat), k < ts.length ∧ ts.length ≤ 61 ∧ p' ≤ p + 2 + ts.length ∧ SI rb w wr ts k g' c' w2.heap.size ys mvs ss[k] (.slice A7 ss[k].next.length c7) p' ∧ ∀ t ∈ ts, t.next.length ≤ 61) (fun _ wr => 62 - lenAt wr ⟨w.heap.size, 0, none⟩)
    case atStart => exact ⟨ss, g, c, xs, nvs, p + 1 + 1, hk2, by omega, by omega, HSI.out, HLT.out⟩
    case round =>
      clear HSI HAP HALL
      obtain ⟨ts, g', c', ys, mvs, p', hkt, htl, hp', hS, hts⟩ := hrel
      have HS : Hid (SI rb w wr ts k g' c' w2.heap.size ys mvs ss[k] (.slice A7 ss[k].next.length c7) p') := hS
      have HTS : Hid (∀ t ∈ ts, t.next.length ≤ 61) := hts
      have bq := hS.box
      have HRD : Hid (Rd wr.drew rb p') := ⟨hS.rd.ex, hS.rd.at1, hS.rd.fz⟩
      have hm0 : lenAt wr ⟨w.heap.size, 0, none⟩ = ts.length := lenAt_eq bq
      clear hS hts
      go_wp2_with fail
      go_region_law (go_simp; refine pick_any rb p' 2 _ HRD.out (by omega) (by omega) ?_; intro z4 w4 hz4 hr4 hx4; have h44 : (z4 : Int) < 2 := hz4 (by omega); have HS4 : Hid (SI rb w w4 ts k g' c' w2.heap.size ys mvs ss[k] (.slice A7 ss[k].next.length c7) (p' + 1)) := HS.out.go hlt ⟨hx4.os, hx4.tape, hx4.output, hx4.size, hx4.block⟩ hr4; have bq4 := HS4.out.box; clear hz4 hr4 hx4)
      all_goals
        clear HS HRD bq
        have hwr : IntKind.i64.wrap (60 + (z4 : Int)) = 60 + (z4 : Int) := by simp [IntKind.wrap, IntKind.bits, IntKind.signed]; omega
        rw [hwr]
        by_cases hcl : (ts.length : Int) < 60 + (z4 : Int)
        · have bf4 := HS4.out.boxF
          have HSB : Hid (SI rb w (w4.alloc (.cells #[.int .i64 7, .int .i64 0, .int .i64 0, .int .i64 0, .int .i64 0, .int .i64 0, .int .i64 0, .slice none 0 0] 62)) ts k g' c' w2.heap.size ys mvs ss[k] (.slice A7 ss[k].next.length c7) (p' + 1)) := HS4.out.go hlt ((Ex.refl _ _).alloc _) (HS4.out.rd.alloc _)
          have hgl := HSB.out.po.row.lt g' rfl
          have HNR : Hid (some w.heap.size ≠ (Value.slice (some ⟨g', 0, none⟩) ts.length c').ownBlock) := fun e => by simp [Value.ownBlock] at e; omega
          have s41 := HS4.out.sb1
          have s42 := HS4.out.sb2
          go_wp2_with (at_builtin; refine wpList_append_lies _ rfl _ _ 32 rfl (w.heap.size + 2) 62 i1 (.agg #[.int .i64 0, .int .i64 0, .int .i64 0, .int .i64 0, .int .i64 0, .int .i64 0, .int .i64 0, .slice none 0 0]) 8 80 Tryd.underlying32 hj hy0 hy1 hy2 rfl (by decide) (.slice (some ⟨g', 0, none⟩) ts.length c') ts.length ys rfl HSB.out.po.row ⟨w4.heap.size, 0, none⟩ 1 1 (cells8D ⟨7, 0, 0, 0, 0, 0, 0, []⟩ (.slice none 0 0)) rfl rfl (cells8D_new w4 ⟨7, 0, 0, 0, 0, 0, 0, []⟩ _ _ rfl) (cells8D_one _ _ _ _) (by decide) (by unfold maxLen; omega) (by omega) (by simp; omega) (w4.heap.size + 1) (by simp) ?_; intro g8 cap8 w8 hown8 hgrow8 hat8 hlt8; have bq8 := hgrow8.cell HSB.out.box HNR.out; have bf8 := (hgrow8.frozen_far ⟨w.heap.size, 0, none⟩ (Nat.lt_of_lt_of_le (cell_lt HS4.out.box) (by simp)) HNR.out).trans HSB.out.boxF)
          have HSN : Hid _ := HSB.out.snoc hlt hkt hgrow8 hown8 (by simpa [Value.ownBlock] using hat8)
          have HMN : Hid _ := lenAt_eq HSN.out.box
          clear hown8 hgrow8 hat8 bq8 bf8 HSB HS4
          go_wp2
          go_roundw
          case rel => exact ⟨ts ++ [endS], _, _, _, _, p' + 1, by simp; omega, by simp; omega, by simp; omega, HSN.out, fun t ht => by
            rw [List.mem_append, List.mem_singleton] at ht
            rcases ht with ht | rfl
            · exact HTS.out t ht
            · simp [endS]⟩
          case measure =>
            have h1 := HMN.out
            simp only [List.length_append, List.length_cons, List.length_nil] at h1
            rw [h1, hm0]
            omega
        · have HSX : Hid (SI rb w w4 ts k g' c' w2.heap.size ys mvs ss[k] (.slice A7 ss[k].next.length c7) (p' + 1)) := HS4.out
          clear bq4 HS4
          have sb1 := HSX.out.sb1
          have hgs : g' ≠ w2.heap.size := HSX.out.farG
          have hgw : g' ≠ w.heap.size := by have := (HSX.out.po.row.lt g' rfl).1; omega
          have hgw1 : g' ≠ w.heap.size + 1 := by have := (HSX.out.po.row.lt g' rfl).1; omega
          obtain ⟨a0, a1, a2, a3, a4, a5, a6, a7⟩ := HSX.out.st.zero
          have fz := HSX.out.stF
          have rd : ∀ j, j < 8 → ∃ u, w4.cell? ⟨g', k * 8 + j, none⟩ = some u := fun j hj => by
            have hx : k * 8 + j < ys.length := by rw [HSX.out.po.row.1]; omega
            exact ⟨ys[k * 8 + j], by rw [HSX.out.po.row.cellAt _ (by omega)]; exact List.getElem?_eq_getElem hx⟩
          obtain ⟨u0, d0⟩ := rd 0 (by decide)
          obtain ⟨u1, d1⟩ := rd 1 (by decide)
          obtain ⟨u2, d2⟩ := rd 2 (by decide)
          obtain ⟨u3, d3⟩ := rd 3 (by decide)
          obtain ⟨u4, d4⟩ := rd 4 (by decide)
          obtain ⟨u5, d5⟩ := rd 5 (by decide)
          obtain ⟨u6, d6⟩ := rd 6 (by decide)
          obtain ⟨u7, d7⟩ := rd 7 (by decide)
          rw [Nat.add_zero] at d0
          have gf := HSX.out.po.row.frozenAt
          have p0 := HSX.out.box
          have pf := HSX.out.boxF
          have q0 := HSX.out.res
          have qf := HSX.out.resF
          clear rd
          have HAT : Hid (∀ s ∈ ts.set k ss[k], s.next.length ≤ 61) := by
            intro s hs
            rcases List.mem_or_eq_of_mem_set hs with hs | rfl
            · exact HTS.out s hs
            · exact Nat.le_trans HLK.out (by decide)
          have HF : Hid _ := HSX.out.fin (x := .slice (some ⟨g', 0, none⟩) ts.length c') hlt hkt
          have hkti : (k : Int) < (ts.length : Int) := by omega
          go_wp2_with fail
          refine bodyPost_ret (v := .agg #[.slice (some ⟨g', 0, none⟩) ts.length c']) (by simp [results, Tryd.results73, go_sem, q0]) rfl ?_
          exact HQ.out _ _ (p' + 1) _ HF.out.1 (by rw [List.length_set]; omega) HAT.out HF.out.2.1 (by omega) HF.out.2.2
end Go.Proofs.YtljlgffkhocgkaaDoor
