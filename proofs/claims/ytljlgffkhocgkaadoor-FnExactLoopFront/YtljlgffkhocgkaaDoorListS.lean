/- What stepSet's list answers. -/
import Derived.Test.YtljlgffkhocgkaaDoorHas
import Derived.Test.YtljlgffkhocgkaaDoorEach
import Derived.Test.YtljlgffkhocgkaaDoorRowsO
import Derived.Test.YtljlgffkhocgkaaDoorOwnK
import Derived.Laws.Bits64b
namespace Go.Proofs.YtljlgffkhocgkaaDoor
open Go.RowKit Go.Shelf

attribute [local go_sem] Oper.semAt_some

theorem rowIs_grownL {W W' : World} {row : Option Nat} {b n B : Nat} {t : TypeId} {f : Nat → Value} (h : W.rowIs b t n f) (hg : W.grownBy W' row) (hr : ∀ r, row = some r → B ≤ r ∧ ∃ o : Obj, W.heap[r]? = some o ∧ o.isCells = false) (hb : b < B) : W'.rowIs b t n f :=
  h.of_block (hg.block b h.lt fun e => by have := (hr b e.symm).1; omega)

theorem row_ne {w : World} {B n base m k : Nat} {t1 t2 : TypeId} {f : Nat → Value} {v : Value} {xs : List Value} (h : w.rowIs B t1 n f) (ho : w.ownsRow base t2 m v k xs) (hne : t1 ≠ t2) : v.ownBlock ≠ some B := by
  intro e
  rcases ho.2 with ⟨rfl, _⟩ | ⟨g, cap, cur, rfl, _, hg, _⟩
  · simp [Value.ownBlock] at e
  · simp [Value.ownBlock] at e
    subst e
    obtain ⟨c, hc, _⟩ := h
    rw [hg] at hc
    simp at hc
    exact hne hc.2.symm

theorem own_succ {w : World} {base k : Nat} {t : TypeId} {v : Value} {xs : List Value} (h : w.ownsRow base t 1 v (k + 1) xs) : ∃ A c, v = .slice A (k + 1) c := by
  rcases h.2 with ⟨_, e2⟩ | ⟨g', c, _, e, _⟩
  · omega
  · exact ⟨_, _, e⟩

theorem own_cells {w : World} {base m k j : Nat} {t : TypeId} {v : Value} {xs : List Value} {o : Obj} (h : w.ownsRow base t m v k xs) (hj : v.ownBlock = some j) (ho : w.heap[j]? = some o) : o.isCells = true := by
  rcases h.2 with ⟨rfl, _⟩ | ⟨g, cap, cur, rfl, _, hh, _⟩
  · simp [Value.ownBlock] at hj
  · simp [Value.ownBlock] at hj
    subst hj
    rw [hh] at ho
    cases ho
    rfl

theorem own_grown {W W' : World} {row : Option Nat} {base m k B : Nat} {t : TypeId} {v : Value} {xs : List Value} (h : W.ownsRow base t m v k xs) (hg : W.grownBy W' row) (hr : ∀ r, row = some r → B ≤ r ∧ ∃ o : Obj, W.heap[r]? = some o ∧ o.isCells = false) : W'.ownsRow base t m v k xs := by
  refine h.kept hg ?_
  rcases h.2 with ⟨rfl, _⟩ | ⟨g, cap, cur, rfl, _, hh, _⟩
  · exact Or.inl rfl
  · refine Or.inr fun e => ?_
    obtain ⟨_, o, ho, hc⟩ := hr g e.symm
    rw [hh] at ho
    cases ho
    cases hc

set_option maxRecDepth 100000 in
set_option maxHeartbeats 2000000 in
theorem list_in {R : Ending → World → Prop} (N : Nat) (b : BitVec 64) (xs : List (Fin N)) (hI : IsBits N b xs) (hl : xs.length ≤ 64) (w : World) (hT : Tab w) (hg : 0 < w.heap.size)
    (hR : ∀ v w', Below w.heap.size w w' → w'.ownsRow w.heap.size 3 1 v xs.length (xs.map (fun y => Value.int .i64 (y.1 : Int))) → R (.returned v) w') :
    CallsIn Fence.wide 10 Tryd.prog 42 #[bsV b] w R := by
  have HR : Hid _ := hR
  have HT : Hid (Tab w) := hT
  have HI : Hid (IsBits N b xs) := hI
  clear hR hT hI
  obtain ⟨i0, hi, hz0, hz1, hz2⟩ := info_parts infoInt2
  unfold bsV
  refine callsIn_of_wp_marks Tryd.func42 rfl trivial ?_ rfl
  simp only [Tryd.ntmps42, List.size_toArray, List.length_cons, List.length_nil, Nat.reduceAdd, Nat.reduceSub, Array.replicate_succ, Array.replicate_zero, List.push_toArray, List.append_toArray, List.nil_append, List.cons_append]
  gi_wp2
  refine ⟨trivial, (each_in 9 b _).mono ?_⟩
  rintro e w' ⟨rfl, rfl⟩
  have hb0 : Below w.heap.size w ((w.alloc (.cells #[.slice none 0 0] 55)).alloc (.cells #[bsV b] 66)) := ((Below.refl _ w).alloc (Nat.le_refl _) _).alloc (by simp) _
  have hc1 : ((w.alloc (.cells #[.slice none 0 0] 55)).alloc (.cells #[bsV b] 66)).cell? ⟨w.heap.size, 0, none⟩ = some (.slice none 0 0) := by simp [go_sem]
  have hf1 : ((w.alloc (.cells #[.slice none 0 0] 55)).alloc (.cells #[bsV b] 66)).frozen? ⟨w.heap.size, 0, none⟩ = false := by simp [go_sem]
  have hc2 : ((w.alloc (.cells #[.slice none 0 0] 55)).alloc (.cells #[bsV b] 66)).cell? ⟨w.heap.size + 1, 0, none⟩ = some (bsV b) := by simp [go_sem]
  have hs0 : ((w.alloc (.cells #[.slice none 0 0] 55)).alloc (.cells #[bsV b] 66)).heap.size = w.heap.size + 2 := by simp
  gi_wp2
  have hr1 : ((w.alloc (.cells #[.slice none 0 0] 55)).alloc (.cells #[bsV b] 66)).rowIs w.heap.size 55 1 (fun _ => .slice none 0 0) := (World.rowIs_alloc w #[.slice none 0 0] 55 (fun _ => .slice none 0 0) (fun i hi => by simp at hi; subst hi; rfl)).alloc _
  have hTW := HT.out.keep hb0
  generalize hW : (w.alloc (.cells #[.slice none 0 0] 55)).alloc (.cells #[bsV b] 66) = W0 at *
  clear hW hc1 hf1
  refine wpIn_rangeFunc_ownF (N := xs.length) (encs := fun y : Fin N => #[Value.int .i64 (y.1 : Int)]) rfl (by omega) (gf := 85) (lb := #[.pointer (some ⟨w.heap.size + 1, 0, none⟩)]) rfl trivial (enters_of Tryd.func85 (by kernel_rfl) rfl)
    (each_stops 9 (w.heap.size + 1) N b (by omega) xs HI.out W0 hc2 hTW) (fun h k => Kp2.t h k) (fun W l o o' h1 h2 h3 h4 => Kp2.b (w := W0) (by omega) (by omega) W l o o' h1 h2 h3 h4) (Below.refl _ _) (fun _ => rfl)
    (fun pre W => (∃ v, W.rowIs w.heap.size 55 1 (fun _ => v) ∧ W.ownsRow w.heap.size 3 1 v pre.length (pre.map (fun y => Value.int .i64 (y.1 : Int)))) ∧ Below w.heap.size w W)
    (fun _ _ _ => False)
    (OwnFrom.and (fun s A B row hs hg hr => by
      obtain ⟨v, h1, h2⟩ := hs
      exact ⟨v, rowIs_grownL h1 hg hr (by omega), own_grown h2 hg hr⟩) (ownFrom_below (Nat.le_refl _) (by omega)))
    (fun _ _ _ _ _ hs _ _ => hs)
    ⟨⟨_, hr1, World.ownsRow_nil _ _ _ _⟩, hb0⟩
    (fun y => { tmps := #[.int .u64 (b.toNat : Int), undef, .slice none 0 0, .pointer (some ⟨w.heap.size, 0, none⟩), .int .i64 (y.1 : Int), .int .u64 (b.toNat : Int), .func (.func 85) #[] #[.pointer (some ⟨w.heap.size + 1, 0, none⟩)], .int .i64 (y.1 : Int), undef, undef, undef, undef, undef], defers := [] }) ?assign ?body ?done ?stop
  case assign =>
    intro l y W K hK
    gi_wp2
    exact hK
  case body =>
    rintro l pre y W ⟨⟨v, hrow, hown⟩, hB⟩ hlen
    have c1 := hrow.cell (i := 0) (by omega)
    have hne := row_ne hrow hown (by decide)
    have HROW : Hid (W.rowIs w.heap.size 55 1 (fun _ => v)) := hrow
    have HOWN : Hid (W.ownsRow w.heap.size 3 1 v pre.length (pre.map (fun y => Value.int .i64 (y.1 : Int)))) := hown
    have HB : Hid (Below w.heap.size w W) := hB
    have HNE : Hid (v.ownBlock ≠ some w.heap.size) := hne
    have hsz := hB.size
    have hrl := hrow.lt
    obtain ⟨A, c, hv⟩ : ∃ A c, v = .slice A pre.length c := by
      rcases hown.2 with ⟨e, e2⟩ | ⟨g', c, _, e, _⟩
      · exact ⟨none, 0, by rw [e2]; exact e⟩
      · exact ⟨_, _, e⟩
    subst hv
    clear hrow hown hB hne
    gi_wp2_with (gi_at_builtin; refine wpListIn_append_own _ rfl _ _ 55 rfl w.heap.size 3 i0 (.int .i64 0) 1 8 Tryd.underlying55 hi hz0 hz1 hz2 rfl (by decide) (.slice A pre.length c) pre.length (pre.map (fun y => Value.int .i64 (y.1 : Int))) rfl (HOWN.out.alloc _) ⟨W.heap.size, 0, none⟩ 1 1 [.int .i64 (y.1 : Int)] rfl rfl (cell_one_new W _ _) (int_oneCell _ _) (by unfold maxLen; omega) (by omega) (by simp; omega) ?_; intro v' w1 hown' hgrow _; have hrow1 : w1.rowIs w.heap.size 55 1 (fun _ => .slice A pre.length c) := (HROW.out.alloc _).of_block (hgrow.block _ (by simp; omega) (fun e => HNE.out e.symm)); have c2 := hrow1.cell (i := 0) (by omega); have f2 := hrow1.frozen 0; obtain ⟨A', c', hv'⟩ := own_succ hown'; subst hv')
    have hlow : ∀ q, (Value.slice A pre.length c).ownBlock = some q → w.heap.size ≤ q := fun q hq => (HOWN.out.lt q hq).1
    have hne2 := row_ne hrow1 hown' (by decide)
    refine ⟨((KeepsOthers.alloc W _).trans (KeepsOthers.of_grownBy hgrow (fun j o hj ho => own_cells (HOWN.out.alloc _) hj ho))).trans (KeepsOthers.setCell _ _ _), ?_, ⟨.slice A' (pre.length + 1) c', (hrow1.set 0 _).congr (fun i hi => ?_), ?_⟩, ?_⟩
    · have h5 : (w1.setCell ⟨w.heap.size, 0, none⟩ (.slice A' (pre.length + 1) c')).heap[0]? = W.heap[0]? := (Below.heap_setCell w1 ⟨w.heap.size, 0, none⟩ _ _ (by show 0 ≠ w.heap.size; omega)).trans ((hgrow.block _ (by simp <;> omega) (fun e => by have := hlow _ e.symm; omega)).trans (Below.heap_alloc W _ _ (by omega)))
      exact ⟨h5, h5⟩
    · have : i = 0 := by omega
      simp [this]
    · rw [List.length_append, List.length_singleton, List.map_append]
      refine ownsRow_out hown' (Out.setCell (lo := w.heap.size) (hi := w.heap.size + 1) (Out.refl _ _ _) (p := ⟨w.heap.size, 0, none⟩) (Nat.le_refl _) (Nat.lt_succ_self _) _) (fun q hq => ?_)
      have h6 : q ≠ w.heap.size := fun e => hne2 (by rw [hq, e])
      omega
    · exact ((HB.out.alloc (by omega) _).grown hgrow (by simp; omega) (fun q hq => hlow q hq)).setCell (p := ⟨w.heap.size, 0, none⟩) (Nat.le_refl _) _
  case done =>
    rintro D ys W hD rfl ⟨⟨v, hrow, hown⟩, hB⟩ hK
    have c1 := hrow.cell (i := 0) (by omega)
    have HOWN : Hid (W.ownsRow w.heap.size 3 1 v ys.length (ys.map (fun y => Value.int .i64 (y.1 : Int)))) := hown
    have HB : Hid (Below w.heap.size w W) := hB
    obtain ⟨A, c, hv⟩ : ∃ A c, v = .slice A ys.length c := by
      rcases hown.2 with ⟨e, e2⟩ | ⟨g', c, _, e, _⟩
      · exact ⟨none, 0, by rw [e2]; exact e⟩
      · exact ⟨_, _, e⟩
    subst hv
    clear hrow hown hB
    gi_wp2
    refine ⟨by simp, .inl ⟨_, _, rfl, run_takeDeferred hK, ?_⟩⟩
    refine ⟨_, results_tmp rfl _ _ _, ?_⟩
    exact HR.out _ _ (HB.out.trans (belowK_b (w := w) (Nat.le_refl _) W D _ _ (by omega) hK rfl rfl)) (own_grown (B := 0) HOWN.out (grownBy_putObj' W D _) (fun r e => by cases e; exact ⟨Nat.zero_le _, _, hK, rfl⟩))
  case stop =>
    rintro D c pre W _ _ h _
    exact h.elim

/-- list: the bits that are set, ascending. -/
theorem list_any {Q : Ending → World → Prop} (N : Nat) (hN : N ≤ 64) (b : BitVec 64) (hb : ∀ j, j < 64 → b.getLsbD j = true → j < N) (w : World) (hT : Tab w) (hg : 0 < w.heap.size)
    (hQ : ∀ v w', Below w.heap.size w w' → w'.ownsRow w.heap.size 3 1 v ((List.range N).filter (fun j => b.getLsbD j)).length (((List.range N).filter (fun j => b.getLsbD j)).map (fun j : Nat => Value.int .i64 (j : Int))) → Q (.returned v) w') :
    Calls Tryd.prog 42 #[bsV b] w Q := by
  obtain ⟨xs, h1, h2, h3, _⟩ := isBits_some hN b.toNat b (Nat.le_refl _) hb
  have e : xs.map (fun y => y.1) = (List.range N).filter (fun j => b.getLsbD j) := by
    have p1 : (xs.map (fun y => y.1)).Pairwise (· < ·) := List.pairwise_map.2 h3
    have p2 : ((List.range N).filter (fun j => b.getLsbD j)).Pairwise (· < ·) := List.Pairwise.filter _ List.pairwise_lt_range
    refine List.Perm.eq_of_pairwise (le := (· < ·)) (fun a b _ _ h1 h2 => by omega) p1 p2 ?_
    refine (List.perm_ext_iff_of_nodup (p1.imp (fun h => Nat.ne_of_lt h)) (p2.imp (fun h => Nat.ne_of_lt h))).2 (fun a => ?_)
    simp only [List.mem_map, List.mem_filter, List.mem_range]
    constructor
    · rintro ⟨y, hy, rfl⟩
      exact ⟨y.2, (h2 y).1 hy⟩
    · rintro ⟨ha, hb⟩
      exact ⟨⟨a, ha⟩, (h2 ⟨a, ha⟩).2 hb, rfl⟩
  have hlen : xs.length ≤ 64 := by
    have : (xs.map (fun y => y.1)).length ≤ N := by
      rw [e]
      have := List.length_filter_le (fun j => b.getLsbD j) (List.range N)
      simpa using this
    rw [List.length_map] at this
    omega
  refine (callsIn_wide (n := 10)).1 (list_in N b xs h1 hlen w hT hg fun v w' hb ho => hQ v w' hb ?_)
  rw [← e, List.length_map, List.map_map]
  exact ho
end Go.Proofs.YtljlgffkhocgkaaDoor
