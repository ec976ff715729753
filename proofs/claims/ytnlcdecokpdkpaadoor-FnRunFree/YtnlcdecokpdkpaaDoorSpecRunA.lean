/- The model's RunOf. The model's RunOf: its loop. -/
import Derived.Test.YtnlcdecokpdkpaaDoorRunM2
import Derived.Test.YtnlcdecokpdkpaaDoorSpecOk
namespace Go.Proofs.YtnlcdecokpdkpaaDoor
open Go.RowKit

set_option maxHeartbeats 1000000 in
theorem l3Val_any {Q : Ending → World → Prop} (vb : Nat) (vs : List Int) (v n : Int) (w : World) (hc : w.cell? ⟨vb, v.toNat, none⟩ = some (.int .i64 (vs.getD v.toNat 0))) (hv : -1 ≤ v ∧ v ≤ 11)
    (hQ : ∀ w', Below w.heap.size w w' → Q (.returned (.int .i64 (valR vs v n))) w') :
    Calls Tryd.prog 42 #[.slice (some ⟨vb, 0, none⟩) 12 12, .agg #[.int .i64 v, .int .i64 n]] w Q := by
  have HQ : Hid _ := hQ
  clear hQ
  have hb0 : ∀ O, Below w.heap.size w (w.alloc O) := fun O => (Below.refl _ _).alloc (Nat.le_refl _) O
  have HB0 : Hid (∀ O, Below w.heap.size w (w.alloc O)) := hb0
  by_cases h1 : v = -1
  · subst h1
    rw [show valR vs (-1) n = n by simp [valR]] at HQ
    clear hc hb0
    go_enter Tryd.func42, Tryd.ntmps42
    go_wp2
    exact HQ.out _ (HB0.out _)
  · rw [show valR vs v n = vs.getD v.toNat 0 by simp [valR, h1]] at HQ
    obtain ⟨k, rfl⟩ : ∃ k : Nat, v = (k : Int) := ⟨v.toNat, by omega⟩
    simp only [Int.toNat_natCast] at hc HQ
    generalize vs.getD k 0 = x at *
    have hk : k < 12 := by omega
    have hki : (k : Int) < 12 := by omega
    have hv1 : 0 ≤ (k : Int) := by omega
    have hc' := cell_keep (hb0 (.cells #[.int .i64 (k : Int), .int .i64 n] 48)) hc
    clear hb0 hc
    go_enter Tryd.func42, Tryd.ntmps42
    go_wp2
    exact HQ.out _ (HB0.out _)

def rcell (code : Int) (ov pv : Value) (j : Nat) : Value := if j = 0 then .int .i64 code else if j = 1 then ov else pv

/-- The model's run as far as it has come: W0 is the world in which its variables were laid. -/
structure SS (W0 w : World) (code : Int) (vs outs path : List Int) (ov pv : Value) : Prop where
  below : Below W0.heap.size W0 w
  row : w.rowIs W0.heap.size 3 12 (fun j => .int .i64 (vs.getD j 0))
  vl : vs.length = 12
  res : w.rowIs (W0.heap.size + 1) 28 3 (rcell code ov pv)
  outs : w.ownsRow (W0.heap.size + 2) 3 1 ov outs.length (outs.map (Value.int .i64))
  path : w.ownsRow (W0.heap.size + 2) 3 1 pv path.length (path.map (Value.int .i64))
  apart : ∀ k, ov.ownBlock = some k → pv.ownBlock ≠ some k

theorem SS.keep {W0 w w' : World} {code : Int} {vs outs path : List Int} {ov pv : Value} (h : SS W0 w code vs outs path ov pv) (hb : Below w.heap.size w w') : SS W0 w' code vs outs path ov pv :=
  ⟨h.below.trans (hb.mono h.below.size), rowIs_keep h.row hb, h.vl, rowIs_keep h.res hb, ownsRow_out h.outs (Out.of_below (lo := 0) (hi := 0) hb) (fun _ _ => Or.inr (Nat.zero_le _)), ownsRow_out h.path (Out.of_below (lo := 0) (hi := 0) hb) (fun _ _ => Or.inr (Nat.zero_le _)), h.apart⟩

theorem SS.val {W0 w : World} {code : Int} {vs outs path : List Int} {ov pv : Value} (h : SS W0 w code vs outs path ov pv) {v : Int} (hv : v ≤ 11) : w.cell? ⟨W0.heap.size, v.toNat, none⟩ = some (.int .i64 (vs.getD v.toNat 0)) := h.row.cell (i := v.toNat) (by omega)
theorem SS.r0 {W0 w : World} {code : Int} {vs outs path : List Int} {ov pv : Value} (h : SS W0 w code vs outs path ov pv) : w.cell? ⟨W0.heap.size + 1, 0, none⟩ = some (.int .i64 code) := h.res.cell (i := 0) (by decide)
theorem SS.r1 {W0 w : World} {code : Int} {vs outs path : List Int} {ov pv : Value} (h : SS W0 w code vs outs path ov pv) : w.cell? ⟨W0.heap.size + 1, 1, none⟩ = some ov := h.res.cell (i := 1) (by decide)
theorem SS.r2 {W0 w : World} {code : Int} {vs outs path : List Int} {ov pv : Value} (h : SS W0 w code vs outs path ov pv) : w.cell? ⟨W0.heap.size + 1, 2, none⟩ = some pv := h.res.cell (i := 2) (by decide)

theorem rowIs_other {w : World} {b : Nat} {t : TypeId} {n : Nat} {f : Nat → Value} (h : w.rowIs b t n f) {a : Addr} (ha : a.block ≠ b) (u : Value) : (w.setCell a u).rowIs b t n f := h.of_block (Below.heap_setCell w a u b (Ne.symm ha))

theorem SS.var {W0 w : World} {code : Int} {vs outs path : List Int} {ov pv : Value} (h : SS W0 w code vs outs path ov pv) {j : Nat} (hj : j < 12) (x : Int) :
    SS W0 (w.setCell ⟨W0.heap.size, j, none⟩ (.int .i64 x)) code (vs.set j x) outs path ov pv := by
  refine ⟨h.below.setCell (Nat.le_refl _) _, (h.row.set j _).congr fun k hk => ?_, by simp [h.vl], rowIs_other h.res (by simp) _, ownsRow_setCell_below h.outs (by show W0.heap.size < W0.heap.size + 2; omega) _, ownsRow_setCell_below h.path (by show W0.heap.size < W0.heap.size + 2; omega) _, h.apart⟩
  by_cases e : k = j
  · subst e
    rw [if_pos rfl]
    simp [List.getD, h.vl, hj]
  · rw [if_neg e]
    simp only [List.getD, List.getElem?_set]
    rw [if_neg (by omega)]

theorem SS.code {W0 w : World} {code : Int} {vs outs path : List Int} {ov pv : Value} (h : SS W0 w code vs outs path ov pv) (x : Int) :
    SS W0 (w.setCell ⟨W0.heap.size + 1, 0, none⟩ (.int .i64 x)) x vs outs path ov pv := by
  refine ⟨h.below.setCell (by simp) _, rowIs_other h.row (by simp) _, h.vl, (h.res.set 0 _).congr fun k hk => ?_, ownsRow_setCell_below h.outs (by show W0.heap.size + 1 < W0.heap.size + 2; omega) _, ownsRow_setCell_below h.path (by show W0.heap.size + 1 < W0.heap.size + 2; omega) _, h.apart⟩
  by_cases e : k = 0
  · subst e; simp [rcell]
  · simp [rcell, e]

theorem SS.addOut {W0 w w' : World} {code : Int} {vs outs path : List Int} {ov pv : Value} {g cap : Nat} {x : Int} (h : SS W0 w code vs outs path ov pv)
    (hg : w.grownBy w' ov.ownBlock) (hown : w'.ownsRow (W0.heap.size + 2) 3 1 (.slice (some ⟨g, 0, none⟩) (outs.length + 1) cap) (outs.length + 1) (outs.map (Value.int .i64) ++ [.int .i64 x])) (hat : ov.ownBlock = some g ∨ w.heap.size ≤ g) :
    SS W0 (w'.setCell ⟨W0.heap.size + 1, 1, none⟩ (.slice (some ⟨g, 0, none⟩) (outs.length + 1) cap)) code vs (outs ++ [x]) path (.slice (some ⟨g, 0, none⟩) (outs.length + 1) cap) pv := by
  have hlo : ∀ k, ov.ownBlock = some k → W0.heap.size + 2 ≤ k := fun k hk => (h.outs.lt k hk).1
  have hrow : w'.rowIs W0.heap.size 3 12 (fun j => .int .i64 (vs.getD j 0)) := h.row.of_block (hg.block _ h.row.lt fun e => by have := hlo _ e.symm; omega)
  have hres : w'.rowIs (W0.heap.size + 1) 28 3 (rcell code ov pv) := h.res.of_block (hg.block _ h.res.lt fun e => by have := hlo _ e.symm; omega)
  have hbel : Below W0.heap.size W0 w' := h.below.trans ⟨hg.os, hg.tape, hg.output, hg.size, fun k hk => hg.block k (Nat.lt_of_lt_of_le hk h.below.size) fun e => by have := hlo _ e.symm; omega⟩
  have hne : ∀ k, pv.ownBlock = some k → k ≠ g := fun k hk e => by
    rcases hat with a | a
    · exact h.apart g a (by rw [← e]; exact hk)
    · have := (h.path.lt k hk).2
      omega
  have hpath : w'.ownsRow (W0.heap.size + 2) 3 1 pv path.length (path.map (Value.int .i64)) := by
    refine h.path.kept hg ?_
    cases hb : pv.ownBlock with
    | none => exact Or.inl rfl
    | some q => exact Or.inr fun e2 => h.apart q e2.symm hb
  refine ⟨hbel.setCell (by simp) _, rowIs_other hrow (by simp) _, h.vl, (hres.set 1 _).congr fun k hk => ?_, ?_, ownsRow_setCell_below hpath (by show W0.heap.size + 1 < W0.heap.size + 2; omega) _, fun k hk => ?_⟩
  · by_cases e : k = 1
    · subst e; simp [rcell]
    · simp [rcell, e]
  · simp only [List.length_append, List.length_singleton, List.map_append, List.map_cons, List.map_nil]
    exact ownsRow_setCell_below hown (by show W0.heap.size + 1 < W0.heap.size + 2; omega) _
  · simp [Value.ownBlock] at hk
    subst hk
    intro e
    exact hne _ e rfl

theorem SS.addPath {W0 w w' : World} {code : Int} {vs outs path : List Int} {ov pv : Value} {g cap : Nat} {x : Int} (h : SS W0 w code vs outs path ov pv)
    (hg : w.grownBy w' pv.ownBlock) (hown : w'.ownsRow (W0.heap.size + 2) 3 1 (.slice (some ⟨g, 0, none⟩) (path.length + 1) cap) (path.length + 1) (path.map (Value.int .i64) ++ [.int .i64 x])) (hat : pv.ownBlock = some g ∨ w.heap.size ≤ g) :
    SS W0 (w'.setCell ⟨W0.heap.size + 1, 2, none⟩ (.slice (some ⟨g, 0, none⟩) (path.length + 1) cap)) code vs outs (path ++ [x]) ov (.slice (some ⟨g, 0, none⟩) (path.length + 1) cap) := by
  have hlo : ∀ k, pv.ownBlock = some k → W0.heap.size + 2 ≤ k := fun k hk => (h.path.lt k hk).1
  have hrow : w'.rowIs W0.heap.size 3 12 (fun j => .int .i64 (vs.getD j 0)) := h.row.of_block (hg.block _ h.row.lt fun e => by have := hlo _ e.symm; omega)
  have hres : w'.rowIs (W0.heap.size + 1) 28 3 (rcell code ov pv) := h.res.of_block (hg.block _ h.res.lt fun e => by have := hlo _ e.symm; omega)
  have hbel : Below W0.heap.size W0 w' := h.below.trans ⟨hg.os, hg.tape, hg.output, hg.size, fun k hk => hg.block k (Nat.lt_of_lt_of_le hk h.below.size) fun e => by have := hlo _ e.symm; omega⟩
  have hne : ∀ k, ov.ownBlock = some k → k ≠ g := fun k hk e => by
    rcases hat with a | a
    · exact h.apart k hk (by rw [e]; exact a)
    · have := (h.outs.lt k hk).2
      omega
  have houts : w'.ownsRow (W0.heap.size + 2) 3 1 ov outs.length (outs.map (Value.int .i64)) := by
    refine h.outs.kept hg ?_
    cases hb : ov.ownBlock with
    | none => exact Or.inl rfl
    | some q => exact Or.inr fun e2 => h.apart q hb e2.symm
  refine ⟨hbel.setCell (by simp) _, rowIs_other hrow (by simp) _, h.vl, (hres.set 2 _).congr fun k hk => ?_, ownsRow_setCell_below houts (by show W0.heap.size + 1 < W0.heap.size + 2; omega) _, ?_, fun k hk => ?_⟩
  · rcases (by omega : k = 0 ∨ k = 1 ∨ k = 2) with rfl | rfl | rfl <;> simp [rcell]
  · simp only [List.length_append, List.length_singleton, List.map_append, List.map_cons, List.map_nil]
    exact ownsRow_setCell_below hown (by show W0.heap.size + 1 < W0.heap.size + 2; omega) _
  · intro e
    simp [Value.ownBlock] at e
    exact hne k hk e.symm

end Go.Proofs.YtnlcdecokpdkpaaDoor
namespace Go.Proofs.YtnlcdecokpdkpaaDoor
open Go.RowKit

/-- A box with a step, and the model's state behind the path's growth. -/
structure BX (w : World) (sb : Nat) (s : St) (nv : Value) : Prop where
  c0 : w.cell? ⟨sb, 0, none⟩ = some (.int .i64 s.kind)
  c1 : w.cell? ⟨sb, 1, none⟩ = some (.int .i64 s.dst)
  c2 : w.cell? ⟨sb, 2, none⟩ = some (.int .i64 s.op)
  c3 : w.cell? ⟨sb, 3, none⟩ = some (.int .i64 s.av)
  c4 : w.cell? ⟨sb, 4, none⟩ = some (.int .i64 s.an)
  c5 : w.cell? ⟨sb, 5, none⟩ = some (.int .i64 s.bv)
  c6 : w.cell? ⟨sb, 6, none⟩ = some (.int .i64 s.bn)
  c7 : w.cell? ⟨sb, 7, none⟩ = some nv

theorem BX.of_block {w w' : World} {sb : Nat} {s : St} {nv : Value} (h : BX w sb s nv) (e : w'.heap[sb]? = w.heap[sb]?) : BX w' sb s nv :=
  ⟨(World.cell?_of_block (a := ⟨sb, 0, none⟩) e).trans h.c0, (World.cell?_of_block (a := ⟨sb, 1, none⟩) e).trans h.c1, (World.cell?_of_block (a := ⟨sb, 2, none⟩) e).trans h.c2, (World.cell?_of_block (a := ⟨sb, 3, none⟩) e).trans h.c3, (World.cell?_of_block (a := ⟨sb, 4, none⟩) e).trans h.c4, (World.cell?_of_block (a := ⟨sb, 5, none⟩) e).trans h.c5, (World.cell?_of_block (a := ⟨sb, 6, none⟩) e).trans h.c6, (World.cell?_of_block (a := ⟨sb, 7, none⟩) e).trans h.c7⟩

theorem BX.lt {w : World} {sb : Nat} {s : St} {nv : Value} (h : BX w sb s nv) : sb < w.heap.size := cell_lt h.c0
theorem BX.keep {w w' : World} {sb : Nat} {s : St} {nv : Value} (h : BX w sb s nv) (hb : Below w.heap.size w w') : BX w' sb s nv := h.of_block (hb.block _ h.lt)

theorem BX.new (w : World) (s : St) (nv : Value) : BX (w.alloc (.cells #[.int .i64 s.kind, .int .i64 s.dst, .int .i64 s.op, .int .i64 s.av, .int .i64 s.an, .int .i64 s.bv, .int .i64 s.bn, nv] 50)) w.heap.size s nv :=
  ⟨by simp [go_sem], by simp [go_sem], by simp [go_sem], by simp [go_sem], by simp [go_sem], by simp [go_sem], by simp [go_sem], by simp [go_sem]⟩

/-- What the model's loop keeps. -/
def SRI (W0 : World) (ss : List St) (inp : List Int) (m : Nat) (R : Res) (at' got n : Value) (wr : World) : Prop :=
  ∃ (i g k : Nat) (vs outs path : List Int) (ov pv : Value), at' = .int .i64 (i : Int) ∧ got = .int .i64 (g : Int) ∧ n = .int .i64 (k : Int) ∧ SS W0 wr 1 vs outs path ov pv ∧ i < ss.length ∧ k ≤ m ∧ g ≤ inp.length ∧ path.length = k ∧ outs.length ≤ k ∧ runR ss (m - k) i vs (inp.drop g) outs path = R

theorem inpAll_cell {inp : List Int} {g : Nat} (h : g < inp.length) : inp.drop g = inp[g] :: inp.drop (g + 1) := List.drop_eq_getElem_cons h

theorem SS.start (w w2 : World) (hr : w2.rowIs w.heap.size 3 12 (fun _ => .int .i64 0)) (hb : Below w.heap.size w w2) (hs : w2.heap.size = w.heap.size + 1) :
    SS w (w2.alloc (.cells #[.int .i64 1, .slice none 0 0, .slice none 0 0] 28)) 1 vars0 [] [] (.slice none 0 0) (.slice none 0 0) := by
  refine ⟨hb.alloc (by omega) _, (hr.alloc _).congr fun k hk => ?_, rfl, ?_, World.ownsRow_nil _ _ _ _, World.ownsRow_nil _ _ _ _, by simp [Value.ownBlock]⟩
  · have e : (List.replicate 12 (0 : Int)).getD k 0 = 0 := by
      rw [List.getD, List.getElem?_replicate]
      split <;> rfl
    show _ = Value.int .i64 (vars0.getD k 0)
    rw [vars0, e]
  · rw [← hs]
    refine World.rowIs_alloc w2 _ _ _ fun k hk => ?_
    have hk' : k < 3 := hk
    rcases (by omega : k = 0 ∨ k = 1 ∨ k = 2) with rfl | rfl | rfl <;> rfl

/-- The end: the result is laid where it is handed back from. -/
theorem SS.ret {w W0 W : World} {c : Nat} {vs outs path : List Int} {ov pv : Value} (h : SS W0 W (c : Int) vs outs path ov pv) (hb : Below w.heap.size w W0) (hsz : w.heap.size + 2 ≤ W0.heap.size) :
    Below w.heap.size w (((W.setCell ⟨w.heap.size + 1, 0, none⟩ (.int .i64 (c : Int))).setCell ⟨w.heap.size + 1, 1, none⟩ ov).setCell ⟨w.heap.size + 1, 2, none⟩ pv) ∧
    ResO w.heap.size (((W.setCell ⟨w.heap.size + 1, 0, none⟩ (.int .i64 (c : Int))).setCell ⟨w.heap.size + 1, 1, none⟩ ov).setCell ⟨w.heap.size + 1, 2, none⟩ pv).heap.size (((W.setCell ⟨w.heap.size + 1, 0, none⟩ (.int .i64 (c : Int))).setCell ⟨w.heap.size + 1, 1, none⟩ ov).setCell ⟨w.heap.size + 1, 2, none⟩ pv) (.agg #[.int .i64 (c : Int), ov, pv]) ⟨c, outs, path⟩ := by
  have hbw : Below w.heap.size w W := hb.trans (h.below.mono hb.size)
  have own3 : ∀ (x : Value) (zs : List Int) (y0 y1 y2 : Value), W.ownsRow (W0.heap.size + 2) 3 1 x zs.length (zs.map (Value.int .i64)) → IntsO w.heap.size (((W.setCell ⟨w.heap.size + 1, 0, none⟩ y0).setCell ⟨w.heap.size + 1, 1, none⟩ y1).setCell ⟨w.heap.size + 1, 2, none⟩ y2).heap.size (((W.setCell ⟨w.heap.size + 1, 0, none⟩ y0).setCell ⟨w.heap.size + 1, 1, none⟩ y1).setCell ⟨w.heap.size + 1, 2, none⟩ y2) x zs := by
    intro x zs y0 y1 y2 hx
    refine IntsO.of (own_low (base := W0.heap.size + 2) ?_ (by omega))
    exact ownsRow_setCell_below (ownsRow_setCell_below (ownsRow_setCell_below hx (a := ⟨w.heap.size + 1, 0, none⟩) (by show w.heap.size + 1 < W0.heap.size + 2; omega) y0) (a := ⟨w.heap.size + 1, 1, none⟩) (by show w.heap.size + 1 < W0.heap.size + 2; omega) y1) (a := ⟨w.heap.size + 1, 2, none⟩) (by show w.heap.size + 1 < W0.heap.size + 2; omega) y2
  exact ⟨((hbw.setCell (by simp) _).setCell (by simp) _).setCell (by simp) _, _, _, rfl, own3 _ _ _ _ _ h.outs, own3 _ _ _ _ _ h.path, h.apart⟩

/-- Cells of the block from which the result is handed back. -/
structure TC (W : World) (tb : Nat) : Prop where
  t0 : W.cell? ⟨tb, 0, none⟩ = some (.int .i64 0)
  t1 : W.cell? ⟨tb, 1, none⟩ = some (.slice none 0 0)
  t2 : W.cell? ⟨tb, 2, none⟩ = some (.slice none 0 0)
  f0 : W.frozen? ⟨tb, 0, none⟩ = false
  f1 : W.frozen? ⟨tb, 1, none⟩ = false
  f2 : W.frozen? ⟨tb, 2, none⟩ = false

theorem TC.keep {W W' : World} {tb B : Nat} (h : TC W tb) (hb : Below B W W') (hB : tb < B) : TC W' tb :=
  ⟨(hb.cell (p := ⟨tb, 0, none⟩) hB).trans h.t0, (hb.cell (p := ⟨tb, 1, none⟩) hB).trans h.t1, (hb.cell (p := ⟨tb, 2, none⟩) hB).trans h.t2, (hb.frozen (p := ⟨tb, 0, none⟩) hB).trans h.f0, (hb.frozen (p := ⟨tb, 1, none⟩) hB).trans h.f1, (hb.frozen (p := ⟨tb, 2, none⟩) hB).trans h.f2⟩

theorem TC.of_block {W W' : World} {tb : Nat} (h : TC W tb) (e : W'.heap[tb]? = W.heap[tb]?) : TC W' tb :=
  ⟨(World.cell?_of_block (a := ⟨tb, 0, none⟩) e).trans h.t0, (World.cell?_of_block (a := ⟨tb, 1, none⟩) e).trans h.t1, (World.cell?_of_block (a := ⟨tb, 2, none⟩) e).trans h.t2, (World.frozen?_of_block (a := ⟨tb, 0, none⟩) e).trans h.f0, (World.frozen?_of_block (a := ⟨tb, 1, none⟩) e).trans h.f1, (World.frozen?_of_block (a := ⟨tb, 2, none⟩) e).trans h.f2⟩

theorem SRI.next {W0 W : World} {ss : List St} {inp : List Int} {m : Nat} {R : Res} {i g g' k : Nat} {vs outs path vs' outs' : List Int} {ov pv : Value} {n a gv : Value} {s : St} (hi : i < ss.length) (hs : ss[i] = s) (hok : okB ss = true) (hR : runR ss (m - k) i vs (inp.drop g) outs path = R) (hk : k < m) (hpl : path.length = k) (hol : outs.length ≤ k)
    (hgo : stopR s (inp.drop g) = none) (hin : inR s (inp.drop g) = inp.drop g') (hg' : g' ≤ inp.length) (hv : vs' = varsR s vs (inp.drop g)) (ho : outs' = outsR s vs outs)
    (hS : SS W0 W 1 vs' outs' (path ++ [(i : Int)]) ov pv) (hn : n = .int .i64 ((k + 1 : Nat) : Int)) (ha : a = .int .i64 ((nextR s vs : Nat) : Int)) (hgv : gv = .int .i64 (g' : Int)) : SRI W0 ss inp m R a gv n W := by
  have hgd : ss.getD i st0 = ss[i] := by simp [List.getD, hi]
  subst hv ho hs
  refine ⟨nextR ss[i] vs, g', k + 1, _, _, _, ov, pv, ha, hgv, hn, hS, ?_, by omega, hg', by simp [hpl], Nat.le_trans (outsR_len _ _ _) (by omega), ?_⟩
  · have := next_lt hok hi (by rw [hgd]; exact stop_none hgo) vs
    rwa [hgd] at this
  · rw [← hR, show m - k = (m - (k + 1)) + 1 by omega, runR_go (by rw [hgd]; exact hgo), hgd, hin]

theorem next0_eq {s : St} {n : Nat} (h : stepB s n = true) (vs : List Int) (h7 : s.kind ≠ 7) (h5 : s.kind = 5 → valR vs s.av s.an ≠ 0) : s.next.getD 0 0 = ((nextR s vs : Nat) : Int) := by
  obtain ⟨n0, _, nx⟩ := run_next h h7
  have := (nx 0 n0).1
  unfold nextR
  rw [if_neg (fun hc => h5 hc.1 hc.2)]
  omega

theorem next1_eq {s : St} {n : Nat} (h : stepB s n = true) (vs : List Int) (h5 : s.kind = 5) (hz : valR vs s.av s.an = 0) : s.next.getD 1 0 = ((nextR s vs : Nat) : Int) := by
  obtain ⟨_, n1, nx⟩ := run_next h (by omega)
  have := (nx 1 (n1 h5)).1
  unfold nextR
  rw [if_pos ⟨h5, hz⟩]
  omega

theorem own_form {w : World} {base : Nat} {v : Value} {zs : List Int} (h : w.ownsRow base 3 1 v zs.length (zs.map (Value.int .i64))) : ∃ A c, v = .slice A zs.length c := by
  rcases h.2 with ⟨e, e2⟩ | ⟨g', c, _, e, _⟩
  · exact ⟨none, 0, by rw [e2]; exact e⟩
  · exact ⟨_, _, e⟩

set_option maxRecDepth 100000 in
set_option maxHeartbeats 16000000 in
theorem specRun_loop {Q : Ending → World → Prop} (sv iv : Value) (ss : List St) (inp : List Int) (most : Int) (w : World) (h : StepsAt w sv ss) (hi : IntsAt w iv inp) (hl : ss.length ≤ 1048576) (hls : ∀ s ∈ ss, s.next.length ≤ 1048576) (hil : inp.length ≤ 1048576)
    (hQ : ∀ v w', Below w.heap.size w w' → ResO w.heap.size w'.heap.size w' v (runOfR ss inp most) → Q (.returned v) w') :
    Calls Tryd.prog 13 #[.agg #[sv], iv, .int .i64 most] w Q := by
  have HQ : Hid (∀ v w', Below w.heap.size w w' → ResO w.heap.size w'.heap.size w' v (runOfR ss inp most) → Q (.returned v) w') := hQ
  clear hQ
  have HH : Hid (StepsAt w sv ss) := h
  have HI : Hid (IntsAt w iv inp) := hi
  have HL : Hid _ := hls
  obtain ⟨ao, b, o, cap, rfl, ha, hc⟩ := h
  obtain ⟨ao', b', o', cap', rfl, ha', hc'⟩ := hi
  have HA' : Hid (0 < inp.length → ao' = some ⟨b', o', none⟩) := ha'
  have HC' : Hid (∀ i, i < inp.length → w.cell? ⟨b', o' + i, none⟩ = some (.int .i64 (inp.getD i 0))) := hc'
  clear ha hc ha' hc' hls
  have hb0 : ∀ O O', Below w.heap.size w ((w.alloc O).alloc O') := fun O O' => ((Below.refl _ _).alloc (Nat.le_refl _) O).alloc (by simp) O'
  go_enter Tryd.func13, Tryd.ntmps13
  go_wp2_with fail
  refine specOk_any _ ss _ (HH.out.keep (hb0 _ _)) hl HL.out fun w1 hb1 => ?_
  have HB1 : Hid (Below w.heap.size w w1) := (hb0 _ _).trans (hb1.mono (by simp; omega))
  have q0 : w1.cell? ⟨w.heap.size, 0, none⟩ = some (.slice ao ss.length cap) := cell_keep hb1 (by simp [go_sem])
  have r0 : w1.cell? ⟨w.heap.size + 1, 0, none⟩ = some (.int .i64 0) := cell_keep hb1 (by simp [go_sem])
  have r1 : w1.cell? ⟨w.heap.size + 1, 1, none⟩ = some (.slice none 0 0) := cell_keep hb1 (by simp [go_sem])
  have r2 : w1.cell? ⟨w.heap.size + 1, 2, none⟩ = some (.slice none 0 0) := cell_keep hb1 (by simp [go_sem])
  have f0 : w1.frozen? ⟨w.heap.size + 1, 0, none⟩ = false := (hb1.frozen (p := ⟨w.heap.size + 1, 0, none⟩) (by simp)).trans (by simp [go_sem])
  have f1 : w1.frozen? ⟨w.heap.size + 1, 1, none⟩ = false := (hb1.frozen (p := ⟨w.heap.size + 1, 1, none⟩) (by simp)).trans (by simp [go_sem])
  have f2 : w1.frozen? ⟨w.heap.size + 1, 2, none⟩ = false := (hb1.frozen (p := ⟨w.heap.size + 1, 2, none⟩) (by simp)).trans (by simp [go_sem])
  have hsz : w.heap.size + 2 ≤ w1.heap.size := by have := hb1.size; simp at this; omega
  have HBB : Hid (Below w.heap.size w (((w1.setCell ⟨w.heap.size + 1, 0, none⟩ (.int .i64 9)).setCell ⟨w.heap.size + 1, 1, none⟩ (.slice none 0 0)).setCell ⟨w.heap.size + 1, 2, none⟩ (.slice none 0 0))) := ((HB1.out.setCell (by simp) _).setCell (by simp) _).setCell (by simp) _
  clear hb1 hb0
  cases hok : okB ss
  · rw [show runOfR ss inp most = ⟨9, [], []⟩ by simp [runOfR, canB, hok]] at HQ
    clear hok
    go_wp2
    refine bodyPost_ret (v := .agg #[.int .i64 9, .slice none 0 0, .slice none 0 0]) (by simp [results, Tryd.results13, go_sem, r0, r1, r2]) rfl ?_
    exact HQ.out _ _ HBB.out (ResO.bad _ _ _)
  have HOK : Hid (okB ss = true) := hok
  clear hok
  go_wp2_with fail
  refine l6In_any _ _ _ _ ?_
  cases hm : inB most 0 600
  · rw [show runOfR ss inp most = ⟨9, [], []⟩ by simp [runOfR, canB, hm]] at HQ
    clear hm
    go_wp2
    refine bodyPost_ret (v := .agg #[.int .i64 9, .slice none 0 0, .slice none 0 0]) (by simp [results, Tryd.results13, go_sem, r0, r1, r2]) rfl ?_
    exact HQ.out _ _ HBB.out (ResO.bad _ _ _)
  have hm' : 0 ≤ most ∧ most ≤ 600 := by simpa [inB] using hm
  have HMM : Hid (inB most 0 600 = true) := hm
  obtain ⟨m, rfl⟩ : ∃ m : Nat, most = (m : Int) := ⟨most.toNat, by omega⟩
  have hm6 : m ≤ 600 := by omega
  clear hm hm'
  go_wp2_with fail
  go_loop [7] (fun i => ∃ k : Nat, k ≤ inp.length ∧ i = .int .i64 k ∧ ∀ j, j < k → inB (inp.getD j 0) 0 65535 = true) (fun i => inp.length - (intOf i).toNat)
  case atStart => exact ⟨0, Nat.zero_le _, rfl, by omega⟩
  case round =>
    obtain ⟨k, hk, rfl, hall⟩ := hrel
    have HALL : Hid _ := hall
    clear hall
    by_cases hkl : k < inp.length
    · have hki : (k : Int) < (inp.length : Int) := by omega
      obtain rfl := HA'.out (by omega)
      have c1 := cell_keep HB1.out (HC'.out k hkl)
      have HM : Hid (inB (inp.getD k 0) 0 65535 = false → inAll inp = false) := fun hf => by
        unfold inAll
        rw [List.all_eq_false]
        exact ⟨inp[k], List.getElem_mem hkl, by simpa [List.getD, hkl] using hf⟩
      have HNE : Hid (inB (inp.getD k 0) 0 65535 = true → ∀ j, j < k + 1 → inB (inp.getD j 0) 0 65535 = true) := by
        intro h1 j hj
        by_cases e : j = k
        · subst e; exact h1
        · exact HALL.out j (by omega)
      generalize inp.getD k 0 = y at *
      go_wp2_with fail
      refine l6In_any _ _ _ _ ?_
      cases hy : inB y 0 65535
      · rw [show runOfR ss inp (m : Int) = ⟨9, [], []⟩ by simp [runOfR, canB, HM.out hy]] at HQ
        clear hy HNE HM
        go_wp2
        refine bodyPost_ret (v := .agg #[.int .i64 9, .slice none 0 0, .slice none 0 0]) (by simp [results, Tryd.results13, go_sem, r0, r1, r2]) rfl ?_
        exact HQ.out _ _ HBB.out (ResO.bad _ _ _)
      · have HH2 : Hid _ := HNE.out hy
        clear hy HNE HM
        go_wp2
        go_round
        case rel => exact ⟨k + 1, by omega, by go_num, HH2.out⟩
        case measure => simp [intOf]; omega
    · have hki : ¬ (k : Int) < (inp.length : Int) := by omega
      have hin : inAll inp = true := by
        unfold inAll
        rw [List.all_eq_true]
        intro x hx
        obtain ⟨t, ht, e⟩ := List.mem_iff_getElem.1 hx
        have := HALL.out t (by omega)
        simpa only [List.getD, List.getElem?_eq_getElem ht, Option.getD_some, e] using this
      rw [show runOfR ss inp (m : Int) = runR ss m 0 vars0 inp [] [] by simp [runOfR, canB, HOK.out, HMM.out, hin]] at HQ
      clear hin HALL HBB HMM
      have hn1 : 0 < ss.length := by have := HOK.out; simp only [okB, Bool.and_eq_true, decide_eq_true_eq] at this; omega
      go_wp2_with (at_make; refine wpList_make_is _ rfl (.const (.int .i64 12)) (.const (.int .i64 12)) 25 rfl 3 (.int .i64 0) 8 Tryd.underlying25 infoIntR rfl .i64 .i64 12 rfl rfl (by omega) (by omega) ?_; intro w2 hrow2 hb2 hs2)
      have HSS := SS.start w1 w2 hrow2 hb2 hs2
      have HS3 : Hid (SS w1 (w2.alloc (.cells #[.int .i64 1, .slice none 0 0, .slice none 0 0] 28)) 1 vars0 [] [] (.slice none 0 0) (.slice none 0 0)) := HSS
      generalize (w2.alloc (.cells #[.int .i64 1, .slice none 0 0, .slice none 0 0] 28)) = w3 at HS3 ⊢
      clear HSS hrow2 hb2
      generalize hR : runR ss m 0 vars0 inp [] [] = R at HQ
      have HR : Hid (runR ss m 0 vars0 inp [] [] = R) := hR
      clear hR hkl hk hki
      have HTC : Hid (TC w1 (w.heap.size + 1)) := ⟨r0, r1, r2, f0, f1, f2⟩
      clear r0 r1 r2 f0 f1 f2
      obtain ⟨i0, hi', hi0, hi1, hi2⟩ := info_parts infoIntR
      go_loopw [10, 11, 12] (fun a g n wr => SRI w1 ss inp m R a g n wr) (fun _ _ n _ => m - (intOf n).toNat)
      case atStart => exact ⟨0, 0, 0, vars0, [], [], _, _, rfl, rfl, rfl, HS3.out, hn1, Nat.zero_le _, Nat.zero_le _, rfl, Nat.le_refl _, by simpa using HR.out⟩
      case round =>
        obtain ⟨i, g, k, vs, outs, path, ov, pv, rfl, rfl, rfl, hS, hi, hk, hg, hpl, hol, hRR⟩ := hrel
        obtain ⟨A, c, rfl⟩ := own_form hS.outs
        obtain ⟨A', c', rfl⟩ := own_form hS.path
        have HPL : Hid (path.length = k) := hpl
        have hpl6 : path.length ≤ 600 := by omega
        clear hpl
        have HS : Hid (SS w1 wr 1 vs outs path (.slice A outs.length c) (.slice A' path.length c')) := hS
        have HRR : Hid (runR ss (m - k) i vs (inp.drop g) outs path = R) := hRR
        have e0 := hS.r0
        have e1 := hS.r1
        have e2 := hS.r2
        have ef0 := hS.res.frozen 0
        have ef1 := hS.res.frozen 1
        have ef2 := hS.res.frozen 2
        have q1 := cell_keep hS.below q0
        have hrl := hS.res.lt
        have HT : Hid (TC wr (w.heap.size + 1)) := HTC.out.keep hS.below (by omega)
        by_cases hkm : k < m
        · have hkmi : (k : Int) < (m : Int) := by omega
          obtain ⟨ao2, b2, o2, cap2, hv2, ha2, hc2⟩ := HH.out.keep HB1.out
          cases hv2
          obtain rfl := ha2 (by omega)
          have hssi : ss[i]? = some ss[i] := by simp [hi]
          obtain ⟨nv, cs, hnv⟩ := hc2 i ss[i] hssi
          obtain ⟨nao, nb, no, ncap, rfl, hna, hnc⟩ := id hnv
          obtain ⟨x0, x1, x2, x3, x4, x5, x6, x7⟩ := cs.keep hS.below
          have hii : (i : Int) < (ss.length : Int) := by omega
          have HNV : Hid (IntsAt w1 (.slice nao ss[i].next.length ncap) ss[i].next) := hnv
          have hgd : ss.getD i st0 = ss[i] := by simp [List.getD, hi]
          have HST : Hid (stepB ss[i] ss.length = true) := by have := ok_at HOK.out hi; rwa [hgd] at this
          have HGD : Hid (ss.getD i st0 = ss[i]) := hgd
          clear ha2 hc2 hnv hna hnc cs hssi hgd hS hRR
          generalize hsi : ss[i] = s at HST HGD HNV x0 x1 x2 x3 x4 x5 x6 x7
          have HSI : Hid (ss[i] = s) := hsi
          clear hsi
          go_wp2_with (at_builtin; refine wpList_append_lies _ rfl _ _ 25 rfl (w1.heap.size + 2) 3 i0 (.int .i64 0) 1 8 Tryd.underlying25 hi' hi0 hi1 hi2 rfl (by decide) (.slice A' path.length c') path.length (path.map (Value.int .i64)) rfl ((HS.out.path.alloc _).alloc _) ⟨wr.heap.size + 1, 0, none⟩ 1 1 [.int .i64 (i : Int)] rfl rfl (cell_one_at (wr.alloc _) _ _ (by simp)) (int_oneCell _ _) (by decide) (by unfold maxLen; omega) (by omega) (by simp; omega) (wr.heap.size + 2) (by simp) ?_)
          intro g8 cap8 w8 hown8 hgrow8 hat8 hlt8
          have HNR : Hid (∀ b, b < w1.heap.size + 2 ∨ wr.heap.size ≤ b → some b ≠ (Value.slice A' path.length c').ownBlock) := fun b hb e => by have h9 := HS.out.path.lt _ e.symm; omega
          have HBK : Hid (∀ b, b < w1.heap.size + 2 ∨ b = wr.heap.size → w8.heap[b]? = ((wr.alloc (.cells #[.int .i64 s.kind, .int .i64 s.dst, .int .i64 s.op, .int .i64 s.av, .int .i64 s.an, .int .i64 s.bv, .int .i64 s.bn, .slice nao s.next.length ncap] 50)).alloc (.cells #[.int .i64 (i : Int)] 3)).heap[b]?) := fun b hb => hgrow8.block b (by simp; omega) (HNR.out b (by omega))
          have HBX8 : Hid (BX w8 wr.heap.size s (.slice nao s.next.length ncap)) := ((BX.new wr s (.slice nao s.next.length ncap)).keep ((Below.refl _ _).alloc (Nat.le_refl _) _)).of_block (HBK.out _ (Or.inr rfl))
          have HSA : Hid (SS w1 ((wr.alloc (.cells #[.int .i64 s.kind, .int .i64 s.dst, .int .i64 s.op, .int .i64 s.av, .int .i64 s.an, .int .i64 s.bv, .int .i64 s.bn, .slice nao s.next.length ncap] 50)).alloc (.cells #[.int .i64 (i : Int)] 3)) 1 vs outs path (.slice A outs.length c) (.slice A' path.length c')) := HS.out.keep (((Below.refl _ _).alloc (Nat.le_refl _) _).alloc (by simp) _)
          have HS9 : Hid (SS w1 (w8.setCell ⟨w1.heap.size + 1, 2, none⟩ (.slice (some ⟨g8, 0, none⟩) (path.length + 1) cap8)) 1 vs outs (path ++ [(i : Int)]) (.slice A outs.length c) (.slice (some ⟨g8, 0, none⟩) (path.length + 1) cap8)) := HSA.out.addPath hgrow8 hown8 (by rcases hat8 with a | a; exact Or.inl a; exact Or.inr (by simp [a]))
          have HBX9 : Hid (BX (w8.setCell ⟨w1.heap.size + 1, 2, none⟩ (.slice (some ⟨g8, 0, none⟩) (path.length + 1) cap8)) wr.heap.size s (.slice nao s.next.length ncap)) := HBX8.out.of_block (Below.heap_setCell _ _ _ _ (by show wr.heap.size ≠ w1.heap.size + 1; omega))
          have hres8 : w8.rowIs (w1.heap.size + 1) 28 3 (rcell 1 (.slice A outs.length c) (.slice A' path.length c')) := HSA.out.res.of_block (HBK.out _ (Or.inl (by omega)))
          have g0 : w8.cell? ⟨w1.heap.size + 1, 0, none⟩ = some (.int .i64 1) := hres8.cell (i := 0) (by decide)
          have g1 : w8.cell? ⟨w1.heap.size + 1, 1, none⟩ = some (.slice A outs.length c) := hres8.cell (i := 1) (by decide)
          have g2 : w8.cell? ⟨w1.heap.size + 1, 2, none⟩ = some (.slice A' path.length c') := hres8.cell (i := 2) (by decide)
          have gf0 := hres8.frozen 0
          have gf1 := hres8.frozen 1
          have gf2 := hres8.frozen 2
          obtain ⟨t0, t1, t2, tf0, tf1, tf2⟩ := (HTC.out.keep HSA.out.below (by omega)).of_block (HBK.out (w.heap.size + 1) (Or.inl (by omega)))
          have htw : w.heap.size + 1 ≠ w1.heap.size + 1 := by omega
          have htw2 : w1.heap.size + 1 ≠ w.heap.size + 1 := by omega
          have HB8 : Hid (Below w1.heap.size w1 w8) := HSA.out.below.trans ⟨hgrow8.os, hgrow8.tape, hgrow8.output, hgrow8.size, fun k hk => hgrow8.block k (Nat.lt_of_lt_of_le hk HSA.out.below.size) (HNR.out k (Or.inl (by omega)))⟩
          clear hown8 hgrow8 hat8 hlt8 HSA hres8 HBK HNR x0 x1 x2 x3 x4 x5 x6 x7 e0 e1 e2 ef0 ef1 ef2
          have y0 := HBX8.out.c0
          have hwn : wr.heap.size ≠ w1.heap.size + 1 := by omega
          have hwn2 : w1.heap.size + 1 ≠ wr.heap.size := by omega
          have hkind : s.kind = 1 ∨ s.kind = 2 ∨ s.kind = 3 ∨ s.kind = 4 ∨ s.kind = 5 ∨ s.kind = 6 ∨ s.kind = 7 := by
            have hst := HST.out
            simp only [stepB, Bool.and_eq_true, decide_eq_true_eq] at hst
            exact many_cases (k := s.kind) (by omega)
          obtain ⟨nbx, nox, hnxx, hncx⟩ : ∃ nb no, (0 < s.next.length → nao = some ⟨nb, no, none⟩) ∧ ∀ j, j < s.next.length → w1.cell? ⟨nb, no + j, none⟩ = some (.int .i64 (s.next.getD j 0)) := by
            obtain ⟨a1, b1, o1, c1, e, h1, h2⟩ := HNV.out
            cases e
            exact ⟨b1, o1, h1, h2⟩
          have HNA : Hid (0 < s.next.length → nao = some ⟨nbx, nox, none⟩) := hnxx
          have HNC : Hid (∀ j, j < s.next.length → w1.cell? ⟨nbx, nox + j, none⟩ = some (.int .i64 (s.next.getD j 0))) := hncx
          clear hnxx hncx
          rcases hkind with hk | hk | hk | hk | hk | hk | hk
          · -- a reckoning
            have HK : Hid (s.kind = 1) := hk
            rw [hk] at y0
            have HGO : Hid (stopR s (inp.drop g) = none) := by simp [Hid, stopR, hk]
            have h7 : s.kind ≠ 7 := by omega
            obtain ⟨hn0, hn1, hnx⟩ := run_next HST.out h7
            have HNX0 : Hid (s.next.getD 0 0 = ((nextR s vs : Nat) : Int)) := next0_eq HST.out vs h7 (by omega)
            clear hk h7 hn1 hnx
            obtain ⟨d0, d1, av0, av1, bv0, bv1⟩ := (step_parts1 HST.out).1 HK.out
            obtain rfl := HNA.out hn0
            obtain ⟨kd, hkd⟩ : ∃ kd : Nat, s.dst = (kd : Int) := ⟨s.dst.toNat, by omega⟩
            have hk12 : kd < 12 := by omega
            have hki : (kd : Int) < 12 := by omega
            go_wp2_with fail
            generalize (w8.setCell ⟨w1.heap.size + 1, 2, none⟩ (.slice (some ⟨g8, 0, none⟩) (path.length + 1) cap8)) = w9 at HS9 HBX9 ⊢
            clear y0 g0 g1 g2 gf0 gf1 gf2 t0 t1 t2 tf0 tf1 tf2 HBX8
            have hwl : wr.heap.size < w9.heap.size := HBX9.out.lt
            have hwl1 : w1.heap.size < w9.heap.size := HS9.out.row.lt
            obtain ⟨_, z1, z2, z3, z4, z5, z6, _⟩ := HBX9.out
            have HBX : Hid (BX w9 wr.heap.size s (.slice (some ⟨nbx, nox, none⟩) s.next.length ncap)) := HBX9.out
            rw [hkd] at z1
            have hnb : wr.heap.size ≠ w1.heap.size := by omega
            have hnb2 : w1.heap.size ≠ wr.heap.size := by omega
            clear HBX9
            go_region_held3 (fun wx => wx.cell? ⟨wr.heap.size, 1, none⟩ = some (.int .i64 (kd : Int)) ∧ wx.cell? ⟨wr.heap.size, 2, none⟩ = some (.int .i64 s.op) ∧ wx.cell? ⟨wr.heap.size, 3, none⟩ = some (.int .i64 s.av) ∧ wx.cell? ⟨wr.heap.size, 4, none⟩ = some (.int .i64 s.an) ∧ wx.cell? ⟨wr.heap.size, 5, none⟩ = some (.int .i64 s.bv) ∧ wx.cell? ⟨wr.heap.size, 6, none⟩ = some (.int .i64 s.bn)) (go_keep) (first | (go_at_call_of 42 (Value.agg #[.int .i64 s.av, .int .i64 s.an]); refine l3Val_any _ vs s.av s.an _ ((HS9.out.keep ((Below.refl _ _).drew)).val av1) ⟨av0, av1⟩ ?_; intro w10 hb10; have hbw1 : Below w9.heap.size w9 w10 := ((Below.refl _ _).drew).trans (hb10.mono (by simp)); have hX1 := HBX.out.keep hbw1; have p1 := hX1.c1; have p2 := hX1.c2; have p3 := hX1.c3; have p4 := hX1.c4; have p5 := hX1.c5; have p6 := hX1.c6; rw [hkd] at p1; clear hX1) | (go_at_call_of 42 (Value.agg #[.int .i64 s.bv, .int .i64 s.bn]); refine l3Val_any _ vs s.bv s.bn _ ((HS9.out.keep hbw1).val bv1) ⟨bv0, bv1⟩ ?_; intro w11 hb11; have hbw2 : Below w9.heap.size w9 w11 := hbw1.trans (hb11.mono hbw1.size); have hX2 := HBX.out.keep hbw2; have o1 := hX2.c1; have o2 := hX2.c2; have o3 := hX2.c3; have o4 := hX2.c4; have o5 := hX2.c5; have o6 := hX2.c6; rw [hkd] at o1; clear hX2) | (go_at_call 41; refine specRunOp_any _ _ _ _ ?_; have hv2 := ((HS9.out.keep hbw2).row.cell (i := kd) (by omega)); have fv2 := ((HS9.out.keep hbw2).row.frozen kd)))
            all_goals
              have HSX : Hid (SS w1 (w11.setCell ⟨w1.heap.size, kd, none⟩ (.int .i64 (opR s.op (valR vs s.av s.an) (valR vs s.bv s.bn)))) 1 (vs.set kd (opR s.op (valR vs s.av s.an) (valR vs s.bv s.bn))) outs (path ++ [(i : Int)]) (.slice A outs.length c) (.slice (some ⟨g8, 0, none⟩) (path.length + 1) cap8)) := (HS9.out.keep hbw2).var hk12 _
              have HBXX : Hid (BX (w11.setCell ⟨w1.heap.size, kd, none⟩ (.int .i64 (opR s.op (valR vs s.av s.an) (valR vs s.bv s.bn)))) wr.heap.size s (.slice (some ⟨nbx, nox, none⟩) s.next.length ncap)) := (HBX.out.keep hbw2).of_block (Below.heap_setCell _ _ _ _ hnb)
              generalize (w11.setCell ⟨w1.heap.size, kd, none⟩ (.int .i64 (opR s.op (valR vs s.av s.an) (valR vs s.bv s.bn)))) = wx at HSX HBXX ⊢
              have HKD : Hid (s.dst = (kd : Int)) := hkd
              clear p1 p2 p3 p4 p5 p6 o1 o2 o3 o4 o5 o6 hv2 fv2 hbw1 hbw2 hkd
              have y7 := HBXX.out.c7
              have nc0 := cell_keep HSX.out.below (HNC.out 0 hn0)
              rw [HNX0.out] at nc0
              have l0 : (0 : Int) < (s.next.length : Int) := by omega
              simp only [Nat.add_zero] at nc0
              go_wp2
              go_roundw
              case rel => exact SRI.next hi HSI.out HOK.out HRR.out hkm HPL.out hol HGO.out (by simp [inR, HK.out]) (hg) (by simp [varsR, HK.out, HKD.out]) (by simp [outsR, HK.out]) HSX.out (by go_num) rfl (by first | rfl | go_num)
              case measure => simp [intOf]; omega
          · -- a copy
            have HK : Hid (s.kind = 2) := hk
            rw [hk] at y0
            have HGO : Hid (stopR s (inp.drop g) = none) := by simp [Hid, stopR, hk]
            have h7 : s.kind ≠ 7 := by omega
            obtain ⟨hn0, hn1, hnx⟩ := run_next HST.out h7
            have HNX0 : Hid (s.next.getD 0 0 = ((nextR s vs : Nat) : Int)) := next0_eq HST.out vs h7 (by omega)
            clear hk h7 hn1 hnx
            obtain ⟨d0, d1, av0, av1⟩ := (step_parts1 HST.out).2.1 HK.out
            obtain rfl := HNA.out hn0
            obtain ⟨kd, hkd⟩ : ∃ kd : Nat, s.dst = (kd : Int) := ⟨s.dst.toNat, by omega⟩
            have hk12 : kd < 12 := by omega
            have hki : (kd : Int) < 12 := by omega
            go_wp2_with fail
            generalize (w8.setCell ⟨w1.heap.size + 1, 2, none⟩ (.slice (some ⟨g8, 0, none⟩) (path.length + 1) cap8)) = w9 at HS9 HBX9 ⊢
            clear y0 g0 g1 g2 gf0 gf1 gf2 t0 t1 t2 tf0 tf1 tf2 HBX8 HB8
            have hwl : wr.heap.size < w9.heap.size := HBX9.out.lt
            have hwl1 : w1.heap.size < w9.heap.size := HS9.out.row.lt
            have hnb : wr.heap.size ≠ w1.heap.size := by omega
            have hnb2 : w1.heap.size ≠ wr.heap.size := by omega
            obtain ⟨_, z1, _, z3, z4, _, _, _⟩ := HBX9.out
            rw [hkd] at z1
            go_region_law (go_simp; go_wp2_with (go_at_call 42; refine l3Val_any _ vs s.av s.an _ ((HS9.out.keep ((Below.refl _ _).drew)).val av1) ⟨av0, av1⟩ ?_; intro w10 hb10; have hbw1 : Below w9.heap.size w9 w10 := ((Below.refl _ _).drew).trans (hb10.mono (by simp)); have p1 := (HBX9.out.keep hbw1).c1; rw [hkd] at p1; have hv2 := ((HS9.out.keep hbw1).row.cell (i := kd) (by omega)); have fv2 := ((HS9.out.keep hbw1).row.frozen kd)))
            all_goals
              have HSX : Hid (SS w1 (w10.setCell ⟨w1.heap.size, kd, none⟩ (.int .i64 (valR vs s.av s.an))) 1 (vs.set kd (valR vs s.av s.an)) outs (path ++ [(i : Int)]) (.slice A outs.length c) (.slice (some ⟨g8, 0, none⟩) (path.length + 1) cap8)) := (HS9.out.keep hbw1).var hk12 _
              have HBXX : Hid (BX (w10.setCell ⟨w1.heap.size, kd, none⟩ (.int .i64 (valR vs s.av s.an))) wr.heap.size s (.slice (some ⟨nbx, nox, none⟩) s.next.length ncap)) := (HBX9.out.keep hbw1).of_block (Below.heap_setCell _ _ _ _ hnb)
              generalize (w10.setCell ⟨w1.heap.size, kd, none⟩ (.int .i64 (valR vs s.av s.an))) = wx at HSX HBXX ⊢
              have HKD : Hid (s.dst = (kd : Int)) := hkd
              clear p1 z1 z3 z4 hv2 fv2 hbw1 hkd hb10
              have y7 := HBXX.out.c7
              have nc0 := cell_keep HSX.out.below (HNC.out 0 hn0)
              rw [HNX0.out] at nc0
              have l0 : (0 : Int) < (s.next.length : Int) := by omega
              simp only [Nat.add_zero] at nc0
              go_wp2
              go_roundw
              case rel => exact SRI.next hi HSI.out HOK.out HRR.out hkm HPL.out hol HGO.out (by simp [inR, HK.out]) (hg) (by simp [varsR, HK.out, HKD.out]) (by simp [outsR, HK.out]) HSX.out (by go_num) rfl (by first | rfl | go_num)
              case measure => simp [intOf]; omega
          · -- what comes in
            have HK : Hid (s.kind = 3) := hk
            rw [hk] at y0
            by_cases hgl : g < inp.length
            · have hgli : ¬ ((inp.length : Int) ≤ (g : Int)) := by omega
              have hgli2 : (g : Int) < (inp.length : Int) := by omega
              have hdrop : inp.drop g = inp[g] :: inp.drop (g + 1) := List.drop_eq_getElem_cons hgl
              have HDROP : Hid (inp.drop g = inp[g] :: inp.drop (g + 1)) := hdrop
              have HGO : Hid (stopR s (inp.drop g) = none) := by simp [Hid, stopR, hk, hgl]
              have h7 : s.kind ≠ 7 := by omega
              obtain ⟨hn0, hn1, hnx⟩ := run_next HST.out h7
              have HNX0 : Hid (s.next.getD 0 0 = ((nextR s vs : Nat) : Int)) := next0_eq HST.out vs h7 (by omega)
              obtain ⟨d0, d1⟩ := (step_parts1 HST.out).2.2.1 HK.out
              obtain rfl := HNA.out hn0
              obtain rfl := HA'.out (by omega)
              obtain ⟨kd, hkd⟩ : ∃ kd : Nat, s.dst = (kd : Int) := ⟨s.dst.toNat, by omega⟩
              have hk12 : kd < 12 := by omega
              have hki : (kd : Int) < 12 := by omega
              clear hk h7 hn1 hnx hdrop
              go_wp2_with fail
              generalize (w8.setCell ⟨w1.heap.size + 1, 2, none⟩ (.slice (some ⟨g8, 0, none⟩) (path.length + 1) cap8)) = w9 at HS9 HBX9 ⊢
              clear y0 g0 g1 g2 gf0 gf1 gf2 t0 t1 t2 tf0 tf1 tf2 HBX8 HB8
              have hwl : wr.heap.size < w9.heap.size := HBX9.out.lt
              have hwl1 : w1.heap.size < w9.heap.size := HS9.out.row.lt
              have hnb : wr.heap.size ≠ w1.heap.size := by omega
              have hnb2 : w1.heap.size ≠ wr.heap.size := by omega
              obtain ⟨_, z1, _, _, _, _, _, _⟩ := HBX9.out
              rw [hkd] at z1
              have zi := cell_keep (HB1.out.trans (HS9.out.below.mono HB1.out.size)) (HC'.out g hgl)
              have HGG : Hid (inp.getD g 0 = inp[g]) := by simp [Hid, List.getD, hgl]
              rw [HGG.out] at zi
              generalize hxg : inp[g] = xg at *
              have hv2 := HS9.out.row.cell (i := kd) (by omega)
              have fv2 := HS9.out.row.frozen kd
              go_region_law (fail)
              all_goals
                have HSX : Hid (SS w1 (w9.setCell ⟨w1.heap.size, kd, none⟩ (.int .i64 xg)).drew 1 (vs.set kd xg) outs (path ++ [(i : Int)]) (.slice A outs.length c) (.slice (some ⟨g8, 0, none⟩) (path.length + 1) cap8)) := (HS9.out.var hk12 _).keep ((Below.refl _ _).drew)
                have HBXX : Hid (BX (w9.setCell ⟨w1.heap.size, kd, none⟩ (.int .i64 xg)).drew wr.heap.size s (.slice (some ⟨nbx, nox, none⟩) s.next.length ncap)) := (HBX9.out.of_block (Below.heap_setCell _ _ _ _ hnb)).keep ((Below.refl _ _).drew)
                generalize (w9.setCell ⟨w1.heap.size, kd, none⟩ (.int .i64 xg)).drew = wx at HSX HBXX ⊢
                have HKD : Hid (s.dst = (kd : Int)) := hkd
                clear z1 zi hv2 fv2 hkd
                have y7 := HBXX.out.c7
                have nc0 := cell_keep HSX.out.below (HNC.out 0 hn0)
                rw [HNX0.out] at nc0
                have l0 : (0 : Int) < (s.next.length : Int) := by omega
                simp only [Nat.add_zero] at nc0
                go_wp2
                go_roundw
                case rel => exact SRI.next (g' := g + 1) hi HSI.out HOK.out HRR.out hkm HPL.out hol HGO.out (by simp [inR, HK.out]) (by omega) (by rw [HDROP.out]; simp [varsR, HK.out, HKD.out]) (by simp [outsR, HK.out]) HSX.out (by go_num) rfl (by first | rfl | go_num)
                case measure => simp [intOf]; omega
            · have hgli : (inp.length : Int) ≤ (g : Int) := by omega
              have hdrop : inp.drop g = [] := List.drop_eq_nil_of_le (by omega)
              have eR : R = ⟨2, outs, path ++ [(i : Int)]⟩ := by rw [← HRR.out, show m - k = (m - k - 1) + 1 by omega, runR_stop (c := 2) (by rw [HGD.out, hdrop]; simp [stopR, hk])]
              rw [eR] at HQ
              clear hk eR hdrop
              have HRET : Hid _ := SS.ret (c := 2) (HS9.out.code 2) HB1.out hsz
              clear HS9 HBX9 HBX8
              go_wp2
              refine bodyPost_ret (v := .agg #[.int .i64 2, .slice A outs.length c, (.slice (some ⟨g8, 0, none⟩) (path.length + 1) cap8)]) (by simp [results, Tryd.results13, go_sem, t0, t1, t2]) rfl ?_
              exact HQ.out _ _ HRET.out.1 HRET.out.2
          · -- what is let out
            have HK : Hid (s.kind = 4) := hk
            rw [hk] at y0
            have HGO : Hid (stopR s (inp.drop g) = none) := by simp [Hid, stopR, hk]
            have h7 : s.kind ≠ 7 := by omega
            obtain ⟨hn0, hn1, hnx⟩ := run_next HST.out h7
            have HNX0 : Hid (s.next.getD 0 0 = ((nextR s vs : Nat) : Int)) := next0_eq HST.out vs h7 (by omega)
            clear hk h7 hn1 hnx
            obtain ⟨av0, av1⟩ := (step_parts1 HST.out).2.2.2 (Or.inl HK.out)
            obtain rfl := HNA.out hn0
            go_wp2_with fail
            generalize (w8.setCell ⟨w1.heap.size + 1, 2, none⟩ (.slice (some ⟨g8, 0, none⟩) (path.length + 1) cap8)) = w9 at HS9 HBX9 ⊢
            clear y0 g0 g1 g2 gf0 gf1 gf2 t0 t1 t2 tf0 tf1 tf2 HBX8 HB8
            have hwl : wr.heap.size < w9.heap.size := HBX9.out.lt
            have hwl1 : w1.heap.size < w9.heap.size := HS9.out.row.lt
            have hnb : wr.heap.size ≠ w1.heap.size := by omega
            have hnb2 : w1.heap.size ≠ wr.heap.size := by omega
            obtain ⟨_, _, _, z3, z4, _, _, _⟩ := HBX9.out
            have bq := HS9.out.r1
            have bf := HS9.out.res.frozen 1
            have hrl9 := HS9.out.res.lt
            have hol9 : outs.length ≤ 600 := by omega
            have HNR2 : Hid (some (w1.heap.size + 1) ≠ (Value.slice A outs.length c).ownBlock) := fun e => by have h9 := (HS9.out.outs.lt _ e.symm).1; omega
            go_region_law (first | (refine step_append_lies _ rfl (.tmp 109) (.tmp 114) 25 rfl (w1.heap.size + 2) 3 i0 (.int .i64 0) 1 8 Tryd.underlying25 hi' hi0 hi1 hi2 rfl (by decide) (.slice A outs.length c) outs.length (outs.map (Value.int .i64)) (by simp [Act.eval]) ((HSM.out.outs).alloc _) ⟨w10.heap.size, 0, none⟩ 1 1 [.int .i64 (valR vs s.av s.an)] (by simp [Act.eval]) rfl (cell_one_new w10 _ _) (int_oneCell _ _) (by decide) (by unfold maxLen; omega) (by omega) (by simp; omega) (w10.heap.size + 1) (by simp) ?_; intro g9 cap9 w11 hown9 hgrow9 hat9 hlt9; have bq8 := (hgrow9.cell_far ⟨w1.heap.size + 1, 1, none⟩ (HL1.out _) HNR2.out).trans (HA1.out _); have bf8 := (hgrow9.frozen_far ⟨w1.heap.size + 1, 1, none⟩ (HL1.out _) HNR2.out).trans (HF1.out _)) | (go_simp; go_wp2_with (go_at_call 42; refine l3Val_any _ vs s.av s.an _ ((HS9.out.keep ((Below.refl _ _).drew)).val av1) ⟨av0, av1⟩ ?_; intro w10 hb10; have hbw1 : Below w9.heap.size w9 w10 := ((Below.refl _ _).drew).trans (hb10.mono (by simp)); have HSM : Hid (SS w1 w10 1 vs outs (path ++ [(i : Int)]) (.slice A outs.length c) (.slice (some ⟨g8, 0, none⟩) (path.length + 1) cap8)) := HS9.out.keep hbw1; have bq1 := cell_keep hbw1 bq; have bf1 := (hbw1.frozen (p := ⟨w1.heap.size + 1, 1, none⟩) hrl9).trans bf; have HA1 : Hid (∀ O, (w10.alloc O).cell? ⟨w1.heap.size + 1, 1, none⟩ = some (.slice A outs.length c)) := fun O => cell_keep ((Below.refl _ _).alloc (Nat.le_refl _) O) bq1; have HF1 : Hid (∀ O, (w10.alloc O).frozen? ⟨w1.heap.size + 1, 1, none⟩ = false) := fun O => (((Below.refl _ _).alloc (Nat.le_refl _) O).frozen (cell_lt bq1)).trans bf1; have HL1 : Hid (∀ O, w1.heap.size + 1 < (w10.alloc O).heap.size) := fun O => Nat.lt_of_lt_of_le (cell_lt bq1) (by simp); have l1 : w1.heap.size + 1 < w10.heap.size := cell_lt bq1)))
            all_goals
              have HSX : Hid (SS w1 (w11.setCell ⟨w1.heap.size + 1, 1, none⟩ (.slice (some ⟨g9, 0, none⟩) (outs.length + 1) cap9)) 1 vs (outs ++ [valR vs s.av s.an]) (path ++ [(i : Int)]) (.slice (some ⟨g9, 0, none⟩) (outs.length + 1) cap9) (.slice (some ⟨g8, 0, none⟩) (path.length + 1) cap8)) := SS.addOut (HSM.out.keep ((Below.refl _ _).alloc (Nat.le_refl _) _)) hgrow9 hown9 (by rcases hat9 with a | a; exact Or.inl a; exact Or.inr (by simp [a]))
              have HBXX : Hid (BX (w11.setCell ⟨w1.heap.size + 1, 1, none⟩ (.slice (some ⟨g9, 0, none⟩) (outs.length + 1) cap9)) wr.heap.size s (.slice (some ⟨nbx, nox, none⟩) s.next.length ncap)) := (((HBX9.out.keep hbw1).keep ((Below.refl _ _).alloc (Nat.le_refl _) _)).of_block (hgrow9.block _ (by have := (HBX9.out.keep hbw1).lt; simp; omega) (fun e => by have h9 := (HS.out.outs.lt _ e.symm).2; omega))).of_block (Below.heap_setCell _ _ _ _ hwn)
              generalize (w11.setCell ⟨w1.heap.size + 1, 1, none⟩ (.slice (some ⟨g9, 0, none⟩) (outs.length + 1) cap9)) = wx at HSX HBXX ⊢
              clear z3 z4 bq8 bf8 hown9 hgrow9 hat9 hlt9 bq bf bq1 bf1 hbw1 hb10 HA1 HF1 HL1
              have y7 := HBXX.out.c7
              have nc0 := cell_keep HSX.out.below (HNC.out 0 hn0)
              rw [HNX0.out] at nc0
              have l0 : (0 : Int) < (s.next.length : Int) := by omega
              simp only [Nat.add_zero] at nc0
              go_wp2
              go_roundw
              case rel => exact SRI.next hi HSI.out HOK.out HRR.out hkm HPL.out hol HGO.out (by simp [inR, HK.out]) (hg) (by simp [varsR, HK.out]) (by simp [outsR, HK.out]) HSX.out (by go_num) rfl (by first | rfl | go_num)
              case measure => simp [intOf]; omega
          · -- a choice
            have HK : Hid (s.kind = 5) := hk
            rw [hk] at y0
            have HGO : Hid (stopR s (inp.drop g) = none) := by simp [Hid, stopR, hk]
            have h7 : s.kind ≠ 7 := by omega
            obtain ⟨hn0, hn1', hnx⟩ := run_next HST.out h7
            have hn1 := hn1' hk
            obtain ⟨av0, av1⟩ := (step_parts1 HST.out).2.2.2 (Or.inr hk)
            obtain rfl := HNA.out hn0
            clear hk h7 hnx hn1'
            have y3 := HBX8.out.c3
            have y4 := HBX8.out.c4
            go_wp2_with fail
            generalize (w8.setCell ⟨w1.heap.size + 1, 2, none⟩ (.slice (some ⟨g8, 0, none⟩) (path.length + 1) cap8)) = w9 at HS9 HBX9 ⊢
            clear y0 y3 y4 g0 g1 g2 gf0 gf1 gf2 t0 t1 t2 tf0 tf1 tf2 HBX8 HB8
            refine l3Val_any _ vs s.av s.an _ (HS9.out.val av1) ⟨av0, av1⟩ fun w10 hb10 => ?_
            have HSX : Hid (SS w1 w10 1 vs outs (path ++ [(i : Int)]) (.slice A outs.length c) (.slice (some ⟨g8, 0, none⟩) (path.length + 1) cap8)) := HS9.out.keep hb10
            have HBXX : Hid (BX w10 wr.heap.size s (.slice (some ⟨nbx, nox, none⟩) s.next.length ncap)) := HBX9.out.keep hb10
            clear hb10
            by_cases hz : valR vs s.av s.an = 0
            · have HNX1 : Hid (s.next.getD 1 0 = ((nextR s vs : Nat) : Int)) := next1_eq HST.out vs HK.out hz
              rw [hz]
              clear hz
              have y7 := HBXX.out.c7
              have nc1 := cell_keep HSX.out.below (HNC.out 1 hn1)
              rw [HNX1.out] at nc1
              have l1 : (1 : Int) < (s.next.length : Int) := by omega
              go_wp2
              go_roundw
              case rel => exact SRI.next hi HSI.out HOK.out HRR.out hkm HPL.out hol HGO.out (by simp [inR, HK.out]) (hg) (by simp [varsR, HK.out]) (by simp [outsR, HK.out]) HSX.out (by go_num) rfl (by first | rfl | go_num)
              case measure => simp [intOf]; omega
            · have HNX0 : Hid (s.next.getD 0 0 = ((nextR s vs : Nat) : Int)) := next0_eq HST.out vs (by rw [HK.out]; decide) (fun _ => hz)
              have hzb : (valR vs s.av s.an == 0) = false := by simpa using hz
              generalize valR vs s.av s.an = yv at *
              clear hz
              have y7 := HBXX.out.c7
              have nc0 := cell_keep HSX.out.below (HNC.out 0 hn0)
              rw [HNX0.out] at nc0
              have l0 : (0 : Int) < (s.next.length : Int) := by omega
              simp only [Nat.add_zero] at nc0
              go_wp2
              go_roundw
              case rel => exact SRI.next hi HSI.out HOK.out HRR.out hkm HPL.out hol HGO.out (by simp [inR, HK.out]) (hg) (by simp [varsR, HK.out]) (by simp [outsR, HK.out]) HSX.out (by go_num) rfl (by first | rfl | go_num)
              case measure => simp [intOf]; omega
          · -- a skip
            have HK : Hid (s.kind = 6) := hk
            rw [hk] at y0
            have HGO : Hid (stopR s (inp.drop g) = none) := by simp [Hid, stopR, hk]
            have h7 : s.kind ≠ 7 := by omega
            obtain ⟨hn0, hn1, hnx⟩ := run_next HST.out h7
            have HNX0 : Hid (s.next.getD 0 0 = ((nextR s vs : Nat) : Int)) := next0_eq HST.out vs h7 (by omega)
            clear hk h7 hn1 hnx
            obtain rfl := HNA.out hn0
            have nb0 := cell_keep HB8.out (HNC.out 0 hn0)
            rw [HNX0.out] at nb0
            simp only [Nat.add_zero] at nb0
            have l0 : (0 : Int) < (s.next.length : Int) := by omega
            have y7 := HBX8.out.c7
            have hnbx : nbx < w1.heap.size := cell_lt (HNC.out 0 hn0)
            have hnbx2 : nbx ≠ w1.heap.size + 1 := by omega
            have HSX : Hid (SS w1 (w8.setCell ⟨w1.heap.size + 1, 2, none⟩ (.slice (some ⟨g8, 0, none⟩) (path.length + 1) cap8)) 1 vs outs (path ++ [(i : Int)]) (.slice A outs.length c) (.slice (some ⟨g8, 0, none⟩) (path.length + 1) cap8)) := HS9.out
            go_wp2
            go_roundw
            case rel => exact SRI.next hi HSI.out HOK.out HRR.out hkm HPL.out hol HGO.out (by simp [inR, HK.out]) (hg) (by simp [varsR, HK.out]) (by simp [outsR, HK.out]) HSX.out (by go_num) rfl (by first | rfl | go_num)
            case measure => simp [intOf]; omega
          · -- the end
            have eR : R = ⟨0, outs, path ++ [(i : Int)]⟩ := by rw [← HRR.out, show m - k = (m - k - 1) + 1 by omega, runR_stop (c := 0) (by rw [HGD.out]; simp [stopR, hk])]
            rw [eR] at HQ
            rw [hk] at y0
            clear hk eR
            have HRET : Hid _ := SS.ret (c := 0) (HS9.out.code 0) HB1.out hsz
            clear HS9 HBX9 HBX8
            go_wp2
            refine bodyPost_ret (v := .agg #[.int .i64 0, .slice A outs.length c, (.slice (some ⟨g8, 0, none⟩) (path.length + 1) cap8)]) (by simp [results, Tryd.results13, go_sem, t0, t1, t2]) rfl ?_
            exact HQ.out _ _ HRET.out.1 HRET.out.2
        · have hkmi : ¬ (k : Int) < (m : Int) := by omega
          have eR : R = ⟨1, outs, path⟩ := by rw [← HRR.out, show m - k = 0 by omega]; rfl
          rw [eR] at HQ
          obtain ⟨t0, t1, t2, tf0, tf1, tf2⟩ := HT.out
          have HRET : Hid _ := SS.ret (c := 1) HS.out HB1.out hsz
          clear hS hRR eR
          go_wp2
          refine bodyPost_ret (v := .agg #[.int .i64 1, .slice A outs.length c, .slice A' path.length c']) (by simp [results, Tryd.results13, go_sem, t0, t1, t2]) rfl ?_
          exact HQ.out _ _ HRET.out.1 HRET.out.2
end Go.Proofs.YtnlcdecokpdkpaaDoor
