/- What stepSet's row answers: of each of so many steps whether the set has it. -/
import Derived.Test.YtljlgffkhocgkaaDoorEach
import Derived.Test.YtljlgffkhocgkaaDoorOnB
import Derived.Test.YtljlgffkhocgkaaDoorRowsO
namespace Go.Proofs.YtljlgffkhocgkaaDoor
open Go.RowKit Go.Shelf

attribute [local go_sem] Oper.semAt_some

theorem rowIs_grownS {W W' : World} {row : Option Nat} {b n B : Nat} {t : TypeId} {f : Nat → Value} (h : W.rowIs b t n f) (hg : W.grownBy W' row) (hr : ∀ r, row = some r → B ≤ r ∧ ∃ o : Obj, W.heap[r]? = some o ∧ o.isCells = false) (hb : b < B) : W'.rowIs b t n f :=
  h.of_block (hg.block b h.lt fun e => by have := (hr b e.symm).1; omega)

theorem cell_grownS {W W' : World} {row : Option Nat} {a : Addr} {v : Value} {B : Nat} (h : W.cell? a = some v) (hg : W.grownBy W' row) (hr : ∀ r, row = some r → B ≤ r ∧ ∃ o : Obj, W.heap[r]? = some o ∧ o.isCells = false) (hb : a.block < B) : W'.cell? a = some v :=
  (World.cell?_of_block (w := W) (a := a) (hg.block a.block (cell_lt h) fun e => by have := (hr a.block e.symm).1; omega)).trans h

theorem infoBoolS : (Tryd.prog.info? 4).map (fun i => (i.zero, i.size, i.bytes)) = some (some (.bool false), 1, 1) := by kernel_rfl

theorem info_partsS {t : TypeId} {z : Value} {n k : Nat} (h : (Tryd.prog.info? t).map (fun i => (i.zero, i.size, i.bytes)) = some (some z, n, k)) : ∃ i, Tryd.prog.info? t = some i ∧ i.zero = some z ∧ i.size = n ∧ i.bytes = k := by
  simp only [Option.map_eq_some_iff, Prod.mk.injEq] at h
  obtain ⟨i, h1, h2, h3, h4⟩ := h
  exact ⟨i, h1, h2, h3, h4⟩

set_option maxRecDepth 100000 in
set_option maxHeartbeats 2000000 in
theorem row_in {R : Ending → World → Prop} (N : Nat) (hN : N ≤ 64) (b : BitVec 64) (xs : List (Fin N)) (hI : IsBits N b xs) (w : World) (hT : Tab w) (hg : 0 < w.heap.size)
    (hR : ∀ w', Below w.heap.size w w' → w'.rowIs w.heap.size 4 N (fun j => .bool (onB xs j)) → R (.returned (.slice (some ⟨w.heap.size, 0, none⟩) N N)) w') :
    CallsIn Fence.wide 10 Tryd.prog 35 #[bsV b, .int .i64 (N : Int)] w R := by
  have HR : Hid _ := hR
  have HT : Hid (Tab w) := hT
  have HI : Hid (IsBits N b xs) := hI
  clear hR hT hI
  obtain ⟨i0, hi, hz0, hz1, hz2⟩ := info_partsS infoBoolS
  have hmk : ∀ w, (Instr.makeSlice 30 (.int .i64 (N : Int)) (.int .i64 (N : Int))).run Tryd.prog w = .ok (.slice (some ⟨w.heap.size, 0, none⟩) N N) (w.alloc (.cells (madeCells #[.bool false] N) 4)) := fun w => run_make_row 30 4 i0 (.bool false) Tryd.underlying30 hi hz0 hz1 rfl .i64 .i64 N (by rw [hz2]; omega) (by omega) w
  unfold bsV
  refine callsIn_of_wp_marks Tryd.func35 rfl trivial ?_ rfl
  simp only [Tryd.ntmps35, List.size_toArray, List.length_cons, List.length_nil, Nat.reduceAdd, Nat.reduceSub, Array.replicate_succ, Array.replicate_zero, List.push_toArray, List.append_toArray, List.nil_append, List.cons_append]
  gi_wp2
  refine ⟨trivial, (each_in 9 b _).mono ?_⟩
  rintro e w' ⟨rfl, rfl⟩
  gi_wp2
  have hb0 : Below w.heap.size w (((w.alloc (.cells (madeCells #[.bool false] N) 4)).alloc (.cells #[.slice (some ⟨w.heap.size, 0, none⟩) N N] 30)).alloc (.cells #[bsV b] 66)) := (((Below.refl _ w).alloc (Nat.le_refl _) _).alloc (by simp) _).alloc (by simp; omega) _
  have hr0 := ((World.rowIs_made w (.bool false) N 4).alloc (.cells #[.slice (some ⟨w.heap.size, 0, none⟩) N N] 30)).alloc (.cells #[bsV b] 66)
  generalize hW : ((w.alloc (.cells (madeCells #[.bool false] N) 4)).alloc (.cells #[.slice (some ⟨w.heap.size, 0, none⟩) N N] 30)).alloc (.cells #[bsV b] 66) = W0 at *
  have hs0 : W0.heap.size = w.heap.size + 3 := by rw [← hW]; simp
  have hc1 : W0.cell? ⟨w.heap.size + 1, 0, none⟩ = some (.slice (some ⟨w.heap.size, 0, none⟩) N N) := by rw [← hW]; simp [go_sem]
  have hc2 : W0.cell? ⟨w.heap.size + 1 + 1, 0, none⟩ = some (bsV b) := by rw [← hW]; simp [go_sem]
  have hTW := HT.out.keep hb0
  clear hW
  refine wpIn_rangeFunc_ownF (N := xs.length) (encs := fun y : Fin N => #[Value.int .i64 (y.1 : Int)]) rfl (by omega) (gf := 85) (lb := #[.pointer (some ⟨w.heap.size + 1 + 1, 0, none⟩)]) rfl trivial (enters_of Tryd.func85 (by kernel_rfl) rfl)
    (each_stops 9 (w.heap.size + 1 + 1) N b (by omega) xs HI.out W0 hc2 hTW) (fun h k => Kp2.t h k) (fun W l o o' h1 h2 h3 h4 => Kp2.b (w := W0) (by omega) (by omega) W l o o' h1 h2 h3 h4) (Below.refl _ _) (fun _ => rfl)
    (fun pre W => (W.rowIs w.heap.size 4 N (fun j => .bool (onB pre j)) ∧ W.cell? ⟨w.heap.size + 1, 0, none⟩ = some (.slice (some ⟨w.heap.size, 0, none⟩) N N)) ∧ Below w.heap.size w W)
    (fun _ _ _ => False)
    (OwnFrom.and (fun s A B row hs hg hr => ⟨rowIs_grownS hs.1 hg hr (by omega), cell_grownS hs.2 hg hr (by show w.heap.size + 1 < W0.heap.size; omega)⟩) (ownFrom_below (Nat.le_refl _) (by omega)))
    (fun _ _ _ _ _ hs _ _ => hs)
    ⟨⟨hr0.congr fun i _ => by simp [onB], hc1⟩, hb0⟩
    (fun y => { tmps := #[.int .u64 (b.toNat : Int), .int .i64 (N : Int), undef, undef, .slice none 0 0, .pointer (some ⟨w.heap.size + 1, 0, none⟩), .int .i64 (y.1 : Int), .int .i64 (N : Int), .slice (some ⟨w.heap.size, 0, none⟩) N N, .int .u64 (b.toNat : Int), .func (.func 85) #[] #[.pointer (some ⟨w.heap.size + 1 + 1, 0, none⟩)], .int .i64 (y.1 : Int), undef, undef, undef, undef], defers := [] }) ?assign ?body ?done ?stop
  case assign =>
    intro l y W K hK
    gi_wp2
    exact hK
  case body =>
    rintro l pre y W ⟨⟨hrow, hc⟩, hB⟩ _
    have hy := y.2
    have hyi : (y.1 : Int) < (N : Int) := by omega
    have cy := hrow.cell hy
    have fy := hrow.frozen y.1
    have HROW : Hid (W.rowIs w.heap.size 4 N (fun j => .bool (onB pre j))) := hrow
    have HB : Hid (Below w.heap.size w W) := hB
    clear hrow hB
    gi_wp2
    have h5 : (W.setCell ⟨w.heap.size, y.1, none⟩ (.bool true)).heap[0]? = W.heap[0]? := Below.heap_setCell W _ _ _ (by show 0 ≠ w.heap.size; omega)
    refine ⟨KeepsOthers.setCell _ _ _, ⟨h5, h5⟩, ⟨(HROW.out.set y.1 _).congr fun i hi => ?_, ?_⟩, HB.out.setCell (p := ⟨w.heap.size, y.1, none⟩) (Nat.le_refl _) _⟩
    · rw [onB_snoc]
      by_cases e : i = y.1 <;> simp [e]
    · rw [cell_setOther _ _ _ _ (by show w.heap.size + 1 ≠ w.heap.size; omega)]; exact hc
  case done =>
    rintro D ys W hD rfl ⟨⟨hrow, hc⟩, hB⟩ hK
    have HROW : Hid (W.rowIs w.heap.size 4 N (fun j => .bool (onB ys j))) := hrow
    have HB : Hid (Below w.heap.size w W) := hB
    clear hrow hB
    gi_wp2
    refine ⟨by simp, .inl ⟨_, _, rfl, run_takeDeferred hK, ?_⟩⟩
    refine ⟨_, results_tmp rfl _ _ _, ?_⟩
    exact HR.out _ (HB.out.trans (belowK_b (w := w) (Nat.le_refl _) W D _ _ (by omega) hK rfl rfl)) (HROW.out.of_block ((grownBy_putObj' W D _).block _ HROW.out.lt fun e => by cases e; omega))
  case stop =>
    rintro D c pre W _ _ h _
    exact h.elim

/-- row: of each of so many steps whether the set has it. -/
theorem row_any {Q : Ending → World → Prop} (N : Nat) (hN : N ≤ 64) (b : BitVec 64) (hb : ∀ j, j < 64 → b.getLsbD j = true → j < N) (w : World) (hT : Tab w) (hg : 0 < w.heap.size)
    (hQ : ∀ w', Below w.heap.size w w' → w'.rowIs w.heap.size 4 N (fun j => .bool (b.getLsbD j)) → Q (.returned (.slice (some ⟨w.heap.size, 0, none⟩) N N)) w') :
    Calls Tryd.prog 35 #[bsV b, .int .i64 (N : Int)] w Q := by
  obtain ⟨xs, h1, h2, h3, _⟩ := isBits_some hN b.toNat b (Nat.le_refl _) hb
  refine (callsIn_wide (n := 10)).1 (row_in N hN b xs h1 w hT hg fun w' hb' hr => hQ w' hb' (hr.congr fun j hj => ?_))
  congr 1
  cases e : b.getLsbD j with
  | true => exact onB_mem.2 ⟨⟨j, hj⟩, (h2 ⟨j, hj⟩).2 e, rfl⟩
  | false =>
    cases e2 : onB xs j with
    | false => rfl
    | true =>
      obtain ⟨k, hk, rfl⟩ := onB_mem.1 e2
      rw [(h2 k).1 hk] at e
      cases e
end Go.Proofs.YtljlgffkhocgkaaDoor
