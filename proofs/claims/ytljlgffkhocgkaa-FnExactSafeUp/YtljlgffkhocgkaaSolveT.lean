/- A queue of steps: a slice that begins anywhere in a row; one more put behind it. The queue of steps without doubles: empty, put, take; stepSet's drop. The program's solver over yes and no: the greatest that fits, whatever is asked of a step, and whoever hangs on it. -/
import Derived.Test.YtljlgffkhocgkaaKit
import Derived.Test.YtljlgffkhocgkaaReachI
import Derived.Test.YtljlgffkhocgkaaHas
import Derived.Test.YtljlgffkhocgkaaSafeP
import Derived.Deep.AppendSrc
import Derived.Laws.IdiomCopy
import Derived.Deep.RegionLaw
import Derived.Deep.AppendLies
import Derived.Shelf.Abstract
namespace Go.Proofs.Ytljlgffkhocgkaa
open Go.RowKit

/-- A slice of the call's own, from block lo on, wherever it begins in its row, that holds these places; its room may be written. -/
def QRow (lo : Nat) (w : World) (v : Value) (q : List Nat) : Prop :=
  (v = .slice none 0 0 ∧ q = []) ∨ ∃ g o cap, v = .slice (some ⟨g, o, none⟩) q.length cap ∧ lo ≤ g ∧ g < w.heap.size ∧ q.length ≤ cap ∧ cap ≤ maxLen ∧
    (∀ j, j < cap → (w.cell? ⟨g, o + j, none⟩).isSome = true ∧ w.frozen? ⟨g, o + j, none⟩ = false) ∧ (∀ i, i < q.length → w.cell? ⟨g, o + i, none⟩ = some (intV (q.getD i 0)))

theorem QRow.nil (lo : Nat) (w : World) : QRow lo w (.slice none 0 0) [] := Or.inl ⟨rfl, rfl⟩

theorem QRow.form {lo : Nat} {w : World} {v : Value} {q : List Nat} (h : QRow lo w v q) : ∃ A c, v = .slice A q.length c := by
  rcases h with ⟨rfl, rfl⟩ | ⟨g, o, cap, rfl, _⟩
  · exact ⟨none, 0, rfl⟩
  · exact ⟨_, _, rfl⟩

theorem QRow.lt {lo : Nat} {w : World} {v : Value} {q : List Nat} (h : QRow lo w v q) : ∀ k, v.ownBlock = some k → lo ≤ k ∧ k < w.heap.size := by
  intro k hk
  rcases h with ⟨rfl, rfl⟩ | ⟨g, o, cap, rfl, h1, h2, _⟩
  · cases hk
  · cases hk
    exact ⟨h1, h2⟩

theorem QRow.of_blocks {lo : Nat} {w w' : World} {v : Value} {q : List Nat} (h : QRow lo w v q) (hs : w.heap.size ≤ w'.heap.size) (hb : ∀ g, lo ≤ g → g < w.heap.size → w'.heap[g]? = w.heap[g]?) : QRow lo w' v q := by
  rcases h with h | ⟨g, o, cap, h1, h2, h3, h4, h5, h6, h7⟩
  · exact Or.inl h
  · refine Or.inr ⟨g, o, cap, h1, h2, by omega, h4, h5, fun j hj => ?_, fun i hi => ?_⟩
    · rw [World.cell?_of_block (w := w) (a := ⟨g, o + j, none⟩) (hb g h2 h3), World.frozen?_of_block (w := w) (a := ⟨g, o + j, none⟩) (hb g h2 h3)]
      exact h6 j hj
    · rw [World.cell?_of_block (w := w) (a := ⟨g, o + i, none⟩) (hb g h2 h3)]
      exact h7 i hi

theorem QRow.keep {lo : Nat} {w w' : World} {v : Value} {q : List Nat} (h : QRow lo w v q) (hb : Below w.heap.size w w') : QRow lo w' v q := h.of_blocks hb.size fun g _ hg => hb.block g hg

theorem QRow.drewN {lo : Nat} {w : World} {v : Value} {q : List Nat} (h : QRow lo w v q) (n : Nat) : QRow lo (w.drewN n) v q := h

theorem QRow.put {lo : Nat} {w : World} {v : Value} {q : List Nat} (h : QRow lo w v q) {a : Addr} (ha : a.block < lo) (u : Value) : QRow lo (w.setCell a u) v q :=
  h.of_blocks (by simp) fun g hg _ => by exact heap_setCell_other w a g u (by omega)

/-- The first is taken. -/
theorem QRow.tail {lo : Nat} {w : World} {g o cap x : Nat} {q : List Nat} (h : QRow lo w (.slice (some ⟨g, o, none⟩) (q.length + 1) cap) (x :: q)) : QRow lo w (.slice (some ⟨g, o + 1, none⟩) q.length (cap - 1)) q := by
  rcases h with ⟨h, _⟩ | ⟨g', o', cap', h1, h2, h3, h4, h5, h6, h7⟩
  · cases h
  · cases h1
    simp only [List.length_cons] at h4 h7
    refine Or.inr ⟨g, o + 1, cap - 1, rfl, h2, h3, by omega, by omega, fun j hj => ?_, fun i hi => ?_⟩
    · have := h6 (j + 1) (by omega)
      rwa [show o + (j + 1) = o + 1 + j by omega] at this
    · have := h7 (i + 1) (by omega)
      rwa [show o + (i + 1) = o + 1 + i by omega, show (x :: q).getD (i + 1) 0 = q.getD i 0 from rfl] at this

theorem getD_snoc {q : List Nat} {y i : Nat} : (q ++ [y]).getD i 0 = if i < q.length then q.getD i 0 else if i = q.length then y else 0 := by
  simp only [List.getD_eq_getElem?_getD, List.getElem?_append]
  split
  · rfl
  · split
    · rename_i h; subst h; simp
    · rename_i h1 h2
      rw [show ([y] : List Nat)[i - q.length]? = none from List.getElem?_eq_none (by simp; omega)]
      rfl

theorem intV_one (y : Nat) : ∀ u ∈ [intV y], u.oneCell' = true := by
  intro u hu
  simp only [List.mem_singleton] at hu
  subst hu
  rfl

/-- One more behind: in the row, if there is room; else in a new one. -/
theorem run_put {P : Program} (w : World) (t ty e : TypeId) (i : TypeInfo) (ht : P.underlying t = some (.slice e)) (hi : P.info? e = some i) (hz : i.zero = some (.int .i64 0)) (hsize : i.size = 1) (hby : i.bytes = 8)
    {lo : Nat} {v : Value} {q : List Nat} (hq : QRow lo w v q) (ad : Addr) (y : Nat) (hy : w.cell? ad = some (intV y)) (hl : q.length ≤ 1000) (hlo : lo ≤ w.heap.size) :
    ∃ v' w', (Builtin.append_ #[t, t] ty #[v, .slice (some ad) 1 1]).run P w = .ok v' w' ∧ QRow lo w' v' (q ++ [y]) ∧ w.grownBy w' v.ownBlock := by
  have hnews : ∀ j u, [intV y][j]? = some u → w.cell? (ad.add j) = some u := by
    intro j u hj
    match j, hj with
    | 0, hj =>
      simp at hj
      subst hj
      rw [show ad.add 0 = ad from by cases ad; unfold Addr.add; split <;> simp_all]
      exact hy
  have hsrc : Src P i.size t (.slice (some ad) 1 1) 1 [intV y] w := by
    rw [hsize]
    exact Src.ofSlice w ht ad 1 1 [intV y] rfl hnews (intV_one y)
  have grow : ∀ (A : Option Addr) (n c : Nat), n = q.length → c < n + 1 → v = .slice A n c → (Builtin.firstCells i.size n (.slice A n c)).run P w.drew = .ok ((q.map intV).toArray) w.drew → ∃ v' w', (Builtin.append_ #[t, t] ty #[v, .slice (some ad) 1 1]).run P w = .ok v' w' ∧ QRow lo w' v' (q ++ [y]) ∧ w.grownBy w' v.ownBlock := by
    intro A n c hn hc hv hold
    subst hn
    subst hv
    have hfit : Builtin.nextslicecap (q.length + 1) c * i.bytes ≤ 281474976710656 := growslice_fits hc (by rw [hby]; omega)
    have hr := run_append_grow_src (P := P) w t t ty e i _ ht hi hz A q.length c (q.map intV) hold _ 1 [intV y] hsrc hc (by omega) hfit
    have hge := grownCap_ge w (q.length + 1) c e
    have hcm : grownCap w (q.length + 1) c e ≤ maxLen := grownCap_le_maxLen w (q.length + 1) c e (by unfold maxLen; omega)
    refine ⟨_, _, hr, Or.inr ⟨w.heap.size, 0, grownCap w (q.length + 1) c e, by simp, hlo, by simp, by simpa using hge, hcm, fun j hj => ?_, fun k hk => ?_⟩, ⟨rfl, rfl, rfl, by simp, fun k hk _ => heap_alloc_old w.drew _ hk⟩⟩
    · have hh := heap_alloc_new w.drew (.cells ((q.map intV ++ [intV y]).toArray ++ Builtin.zeroCells (Value.cells (.int .i64 0)) (grownCap w (q.length + 1) c e - (q.length + 1))) e)
      have hsz : ((q.map intV ++ [intV y]).toArray ++ Builtin.zeroCells (Value.cells (.int .i64 0)) (grownCap w (q.length + 1) c e - (q.length + 1))).size = grownCap w (q.length + 1) c e := by
        rw [Array.size_append, size_zeroCells]
        simp [Value.cells]
        omega
      constructor
      · rw [cell_of_row _ w.heap.size (0 + j) _ e (0, 0) hh]
        rw [Array.getElem?_eq_getElem (by rw [hsz]; omega)]
        rfl
      · exact frozen_of_row _ w.heap.size (0 + j) _ e hh
    · have hh := heap_alloc_new w.drew (.cells ((q.map intV ++ [intV y]).toArray ++ Builtin.zeroCells (Value.cells (.int .i64 0)) (grownCap w (q.length + 1) c e - (q.length + 1))) e)
      rw [cell_of_row _ w.heap.size (0 + k) _ e (0, 0) hh]
      rw [Nat.zero_add, Array.getElem?_append_left (by simpa using hk)]
      simp only [List.getElem?_toArray]
      rw [show q.map intV ++ [intV y] = (q ++ [y]).map intV by simp, List.getElem?_map, List.getElem?_eq_getElem hk, List.getD_eq_getElem?_getD, List.getElem?_eq_getElem hk]
      rfl
  rcases id hq with ⟨rfl, rfl⟩ | ⟨g, o, cap, hv, h2, h3, h4, h5, h6, h7⟩
  · exact grow none 0 0 rfl (by omega) rfl (by rw [run_firstCells_none]; rfl)
  · by_cases hroom : q.length + 1 ≤ cap
    · subst hv
      have hr := run_append_room_src (P := P) w t t ty e i ht hi g o q.length cap _ 1 [intV y] hsrc hroom (fun j hj => by
        rw [hsize, Nat.mul_one, Nat.add_assoc]
        exact (h6 (q.length + j) (by simp at hj; omega)).1) (fun j hj => by
        rw [hsize, Nat.mul_one, Nat.add_assoc]
        exact (h6 (q.length + j) (by simp at hj; omega)).2)
      rw [hsize, Nat.mul_one] at hr
      refine ⟨_, _, hr, Or.inr ⟨g, o, cap, by simp, h2, by simpa [World.setCells] using h3, by simpa using hroom, h5, fun j hj => ?_, fun k hk => ?_⟩, ⟨rfl, rfl, rfl, by simp [World.setCells], fun k hk hne => ?_⟩⟩
      · obtain ⟨a1, a2⟩ := h6 j hj
        refine ⟨?_, by simpa [World.setCells, go_sem] using a2⟩
        by_cases e1 : j = q.length
        · subst e1
          simp [World.setCells, go_sem, a1]
        · simp only [World.setCells]
          rw [World.cell?_setCell_other (h := by simp <;> omega)]
          exact a1
      · rw [getD_snoc]
        split
        · rename_i hlt
          simp only [World.setCells]
          rw [World.cell?_setCell_other (h := by simp <;> omega)]
          exact h7 k hlt
        · have e1 : k = q.length := by simp at hk; omega
          subst e1
          simp [World.setCells, go_sem, (h6 q.length (by omega)).1]
      · simp only [World.setCells]
        rw [heap_setCell_other _ _ _ _ (by simpa [Value.ownBlock] using hne)]
    · refine grow (some ⟨g, o, none⟩) q.length cap rfl (by omega) hv ?_
      rw [hsize]
      refine run_firstCells_some (P := P) w.drew 1 q.length ⟨g, o, none⟩ q.length cap (q.map intV) (by simp) fun j u hj => ?_
      rw [List.getElem?_map] at hj
      cases hqj : q[j]? with
      | none => rw [hqj] at hj; cases hj
      | some z =>
        rw [hqj] at hj
        simp at hj
        subst hj
        have hjl := (List.getElem?_eq_some_iff.1 hqj).1
        have := h7 j hjl
        rw [List.getD_eq_getElem?_getD, hqj] at this
        rw [show (⟨g, o, none⟩ : Addr).add j = ⟨g, o + j, none⟩ from by unfold Addr.add; split <;> simp_all]
        exact this

/-- At the list of a plain region's operations. -/
theorem wpList_append_q {P : Program} (w : World) {ops : Array Oper} {rest : List Oper} {o : Oper} {a : Act} {Q : Exit → Act → World → Prop} (hgd : o.guard = none) (s x : Operand) (t : TypeId)
    (ho : o.op = .call { callee := .builtin .append, args := #[s, x], argTypes := #[t, t] })
    (e : TypeId) (i : TypeInfo) (ht : P.underlying t = some (.slice e)) (hi : P.info? e = some i) (hz : i.zero = some (.int .i64 0)) (hsize : i.size = 1) (hby : i.bytes = 8)
    {lo : Nat} (v : Value) (q : List Nat) (hs : a.eval s = v) (hq : QRow lo w v q)
    (ad : Addr) (y : Nat) (hx : a.eval x = .slice (some ad) 1 1) (hy : w.cell? ad = some (intV y)) (hl : q.length ≤ 1000) (hlo : lo ≤ w.heap.size)
    (h : ∀ v' w', QRow lo w' v' (q ++ [y]) → w.grownBy w' v.ownBlock → wpList P ops Q rest (a.put o.dst v') w') : wpList P ops Q (o :: rest) a w :=
  wpList_plain hgd fun _ hK => by
    obtain ⟨v', w', hr, h2, h3⟩ := run_put (P := P) w t o.type e i ht hi hz hsize hby hq ad y hy hl hlo
    unfold Oper.wp execOp
    simp only [ho, resolve, invoke, builtin, Sem.run_bind, Sem.run_pure, Result.andThen_ok, List.map_toArray, List.map_cons, List.map_nil, hs, hx, hr]
    exact hK _ _ (h v' w' h2 h3)
end Go.Proofs.Ytljlgffkhocgkaa
namespace Go.Proofs.Ytljlgffkhocgkaa
open Go.RowKit

/-- One bit less. -/
def dropB (b : BitVec 64) (i : Nat) : BitVec 64 := b &&& ~~~ BitVec.twoPow 64 i

theorem dropB_get {b : BitVec 64} {i j : Nat} (hi : i < 64) (hj : j < 64) : (dropB b i).getLsbD j = (b.getLsbD j && decide (j ≠ i)) := by
  unfold dropB
  rw [BitVec.getLsbD_and, BitVec.getLsbD_not, BitVec.getLsbD_twoPow]
  by_cases e : i = j
  · subst e; simp [hi]
  · have : ¬ j = i := fun h => e h.symm
    simp [e, this, hj]

set_option maxHeartbeats 1000000 in
theorem drop_any {Q : Ending → World → Prop} (b i : Nat) (s : BitVec 64) (x : Nat) (w : World) (hx : x < 64) (hc : w.cell? ⟨b, i, none⟩ = some (bsV s)) (hf : w.frozen? ⟨b, i, none⟩ = false)
    (hQ : ∀ v, Q (.returned v) (w.setCell ⟨b, i, none⟩ (bsV (dropB s x))).drew) :
    Calls Try.prog 91 #[.pointer (some ⟨b, i, none⟩), .int .i64 (x : Int)] w Q := by
  have HQ : Hid _ := hQ
  clear hQ
  unfold bsV at hc
  have hx0 : ¬ (x : Int) < 0 := by omega
  have HSH : Hid (IntKind.u64.wrap (2 ^ x) = ((BitVec.twoPow 64 x).toNat : Int)) := wrap_two hx
  have HOR : Hid (bits BinOp.andNot IntKind.u64 (s.toNat : Int) ((BitVec.twoPow 64 x).toNat : Int) = ((s &&& ~~~ BitVec.twoPow 64 x).toNat : Int)) := bits_andNot s (BitVec.twoPow 64 x)
  have HAB : Hid (s &&& ~~~ BitVec.twoPow 64 x = dropB s x) := rfl
  go_enter Try.func91, Try.ntmps91
  go_wp2_with fail
  go_region_law (fail)
  rw [HSH.out, HOR.out, HAB.out]
  go_end0
  exact HQ.out _

/-- All blocks but the queue's box, and those from lo on, are as they were. -/
structure QF (b lo : Nat) (w w' : World) : Prop where
  os : w'.os = w.os
  tape : w'.tape = w.tape
  output : w'.output = w.output
  size : w.heap.size ≤ w'.heap.size
  block : ∀ k, k < w.heap.size → k < lo → k ≠ b → w'.heap[k]? = w.heap[k]?

theorem QF.refl (b lo : Nat) (w : World) : QF b lo w w := ⟨rfl, rfl, rfl, Nat.le_refl _, fun _ _ _ _ => rfl⟩
theorem QF.trans {b lo : Nat} {a w w' : World} (h : QF b lo a w) (k : QF b lo w w') : QF b lo a w' :=
  ⟨k.os.trans h.os, k.tape.trans h.tape, k.output.trans h.output, Nat.le_trans h.size k.size, fun j h1 h2 h3 => (k.block j (Nat.lt_of_lt_of_le h1 h.size) h2 h3).trans (h.block j h1 h2 h3)⟩
theorem QF.of_below {b lo : Nat} {w w' : World} (h : Below w.heap.size w w') : QF b lo w w' := ⟨h.os, h.tape, h.output, h.size, fun k hk _ _ => h.block k hk⟩
theorem QF.setBox {b lo : Nat} {a w : World} (h : QF b lo a w) (j : Nat) (u : Value) : QF b lo a (w.setCell ⟨b, j, none⟩ u) :=
  ⟨h.os, h.tape, h.output, by simpa using h.size, fun k h1 h2 h3 => (heap_setCell_other w ⟨b, j, none⟩ k u h3).trans (h.block k h1 h2 h3)⟩
theorem QF.drew {b lo : Nat} {a w : World} (h : QF b lo a w) : QF b lo a w.drew := ⟨h.os, h.tape, h.output, h.size, h.block⟩
theorem QF.drewN {b lo : Nat} {a w : World} (h : QF b lo a w) (n : Nat) : QF b lo a (w.drewN n) := ⟨h.os, h.tape, h.output, h.size, h.block⟩
theorem QF.alloc {b lo : Nat} {a w : World} (h : QF b lo a w) (o : Obj) : QF b lo a (w.alloc o) := h.trans (QF.of_below ((Below.refl _ _).alloc (Nat.le_refl _) o))
theorem QF.grown {b lo : Nat} {a w w' : World} {row : Option Nat} (h : QF b lo a w) (hg : w.grownBy w' row) (hr : ∀ k, row = some k → lo ≤ k) : QF b lo a w' :=
  h.trans ⟨hg.os, hg.tape, hg.output, hg.size, fun k h1 h2 _ => hg.block k h1 fun e => by have := hr k e.symm; omega⟩
theorem QF.cell {b lo : Nat} {w w' : World} (h : QF b lo w w') {p : Addr} {v : Value} (hc : w.cell? p = some v) (h1 : p.block < lo) (h2 : p.block ≠ b) : w'.cell? p = some v :=
  (World.cell?_of_block (w := w) (h.block p.block (cell_lt hc) h1 h2)).trans hc
theorem QF.frozen {b lo : Nat} {w w' : World} (h : QF b lo w w') {p : Addr} (hp : p.block < w.heap.size) (h1 : p.block < lo) (h2 : p.block ≠ b) : w'.frozen? p = w.frozen? p :=
  World.frozen?_of_block (w := w) (h.block p.block hp h1 h2)
theorem QF.below {b lo B : Nat} {w w' : World} (h : QF b lo w w') (hb : B ≤ b) (hl : B ≤ lo) (hs : B ≤ w.heap.size) : Below B w w' := ⟨h.os, h.tape, h.output, h.size, fun k hk => h.block k (by omega) (by omega) (by omega)⟩

/-- The queue in its box. -/
structure QS (lo : Nat) (W : World) (b : Nat) (q : List Nat) : Prop where
  lst : ∃ v, W.cell? ⟨b, 0, none⟩ = some v ∧ QRow lo W v q
  wt : ∃ s : BitVec 64, W.cell? ⟨b, 1, none⟩ = some (bsV s) ∧ ∀ j, j < 64 → s.getLsbD j = decide (j ∈ q)
  f0 : W.frozen? ⟨b, 0, none⟩ = false
  f1 : W.frozen? ⟨b, 1, none⟩ = false
  bl : b < lo
  sm : ∀ x ∈ q, x < 64

theorem QS.keep {lo b : Nat} {W W' : World} {q : List Nat} (h : QS lo W b q) (hb : Below W.heap.size W W') : QS lo W' b q := by
  obtain ⟨v, h1, h2⟩ := h.lst
  obtain ⟨s, h3, h4⟩ := h.wt
  have hl := cell_lt h1
  exact ⟨⟨v, cell_keep hb h1, h2.keep hb⟩, ⟨s, cell_keep hb h3, h4⟩, (hb.frozen (p := ⟨b, 0, none⟩) hl).trans h.f0, (hb.frozen (p := ⟨b, 1, none⟩) hl).trans h.f1, h.bl, h.sm⟩

theorem QS.drewN {lo b : Nat} {W : World} {q : List Nat} (h : QS lo W b q) (n : Nat) : QS lo (W.drewN n) b q := ⟨h.lst, h.wt, h.f0, h.f1, h.bl, h.sm⟩

theorem QS.far {lo b : Nat} {W : World} {q : List Nat} (h : QS lo W b q) {a : Addr} (h1 : a.block ≠ b) (h2 : a.block < lo) (u : Value) : QS lo (W.setCell a u) b q := by
  obtain ⟨v, k1, k2⟩ := h.lst
  obtain ⟨s, k3, k4⟩ := h.wt
  have e := fun j => cell_setOther W a ⟨b, j, none⟩ u (by show b ≠ a.block; omega)
  exact ⟨⟨v, (e 0).trans k1, k2.put h2 u⟩, ⟨s, (e 1).trans k3, k4⟩, by simpa [go_sem] using h.f0, by simpa [go_sem] using h.f1, h.bl, h.sm⟩

set_option maxHeartbeats 1000000 in
theorem empty_any {Q : Ending → World → Prop} (lo b : Nat) (q : List Nat) (W : World) (h : QS lo W b q)
    (hQ : Q (.returned (.bool (decide (q.length = 0)))) W) :
    Calls Try.prog 83 #[.pointer (some ⟨b, 0, none⟩)] W Q := by
  have HQ : Hid _ := hQ
  clear hQ
  obtain ⟨v, h1, h2⟩ := h.lst
  obtain ⟨A, c, rfl⟩ := h2.form
  clear h h2
  have HE : Hid (((q.length : Int) == 0) = decide (q.length = 0)) := by
    show _ = _
    by_cases e : q.length = 0
    · simp [e]
    · have : ¬ (q.length : Int) = 0 := by omega
      simp [e]
  generalize q.length = n at *
  go_enter Try.func83, Try.ntmps83
  go_wp2
  first | exact HQ.out | (rw [HE.out]; exact HQ.out)

theorem infoIntQ : (Try.prog.info? 3).map (fun i => (i.zero, i.size, i.bytes)) = some (some (.int .i64 0), 1, 8) := by kernel_rfl

theorem info_partsQ {t : TypeId} {z : Value} {n k : Nat} (h : (Try.prog.info? t).map (fun i => (i.zero, i.size, i.bytes)) = some (some z, n, k)) : ∃ i, Try.prog.info? t = some i ∧ i.zero = some z ∧ i.size = n ∧ i.bytes = k := by
  simp only [Option.map_eq_some_iff, Prod.mk.injEq] at h
  obtain ⟨i, h1, h2, h3, h4⟩ := h
  exact ⟨i, h1, h2, h3, h4⟩

theorem qs_put {q : List Nat} {y : Nat} {s : BitVec 64} (hs : ∀ j, j < 64 → s.getLsbD j = decide (j ∈ q)) (hy : y < 64) : ∀ j, j < 64 → (addB s y).getLsbD j = decide (j ∈ q ++ [y]) := fun j hj => by
  rw [addB_get hy hj, hs j hj]
  by_cases e1 : j ∈ q <;> by_cases e2 : j = y <;> simp [e1, e2]

set_option maxRecDepth 100000 in
set_option maxHeartbeats 2000000 in
theorem put_any {Q : Ending → World → Prop} (lo b y : Nat) (q : List Nat) (W : World) (h : QS lo W b q) (hy : y < 64) (hl : q.length ≤ 100) (hlo : lo ≤ W.heap.size)
    (hQ : ∀ v W', QS lo W' b (putQ q y) → QF b lo W W' → Q (.returned v) W') :
    Calls Try.prog 82 #[.pointer (some ⟨b, 0, none⟩), .int .i64 (y : Int)] W Q := by
  have HQ : Hid _ := hQ
  clear hQ
  obtain ⟨v, h1, h2⟩ := h.lst
  obtain ⟨s, h3, h4⟩ := h.wt
  have f0 := h.f0
  have f1 := h.f1
  have hbl := h.bl
  have HH : Hid (QS lo W b q) := h
  have HS : Hid (∀ j, j < 64 → s.getLsbD j = decide (j ∈ q)) := h4
  have HR : Hid (QRow lo W v q) := h2
  obtain ⟨A, c, rfl⟩ := h2.form
  obtain ⟨i0, hi, hz0, hz1, hz2⟩ := info_partsQ infoIntQ
  clear h h4 h2
  go_enter Try.func82, Try.ntmps82
  go_wp2_with fail
  refine has_any s y _ hy ?_
  have h5 := HS.out y hy
  by_cases hm : y ∈ q
  · have HP : Hid (putQ q y = q) := by rw [Hid, putQ, if_pos hm]
    rw [h5, decide_eq_true hm]
    clear h5 hm
    go_wp2
    go_end0
    exact HQ.out _ _ (by rw [HP.out]; exact HH.out) (QF.refl _ _ _)
  · have HP : Hid (putQ q y = q ++ [y]) := by rw [Hid, putQ, if_neg hm]
    rw [h5, decide_eq_false hm]
    clear h5 hm
    go_wp2_with fail
    refine add_any b 1 s y _ hy h3 f1 fun u => ?_
    have HW : Hid (∀ j, j < 64 → (addB s y).getLsbD j = decide (j ∈ q ++ [y])) := qs_put HS.out hy
    have c0 : (W.setCell ⟨b, 1, none⟩ (bsV (addB s y))).drew.cell? ⟨b, 0, none⟩ = some (.slice A q.length c) := by
      show (W.setCell ⟨b, 1, none⟩ (bsV (addB s y))).cell? ⟨b, 0, none⟩ = _
      simp [go_sem, h1]
    have c1 : (W.setCell ⟨b, 1, none⟩ (bsV (addB s y))).drew.cell? ⟨b, 1, none⟩ = some (bsV (addB s y)) := by
      show (W.setCell ⟨b, 1, none⟩ (bsV (addB s y))).cell? ⟨b, 1, none⟩ = _
      simp [go_sem, h3]
    have g0 : (W.setCell ⟨b, 1, none⟩ (bsV (addB s y))).drew.frozen? ⟨b, 0, none⟩ = false := by
      show (W.setCell ⟨b, 1, none⟩ (bsV (addB s y))).frozen? ⟨b, 0, none⟩ = _
      simpa [go_sem] using f0
    have g1 : (W.setCell ⟨b, 1, none⟩ (bsV (addB s y))).drew.frozen? ⟨b, 1, none⟩ = false := by
      show (W.setCell ⟨b, 1, none⟩ (bsV (addB s y))).frozen? ⟨b, 1, none⟩ = _
      simpa [go_sem] using f1
    have HR1 : Hid (QRow lo (W.setCell ⟨b, 1, none⟩ (bsV (addB s y))).drew (.slice A q.length c) q) := (HR.out.put (by show b < lo; exact hbl) _).drewN 1
    have HF1 : Hid (QF b lo W (W.setCell ⟨b, 1, none⟩ (bsV (addB s y))).drew) := ((QF.refl b lo W).setBox 1 _).drew
    have hsz : (W.setCell ⟨b, 1, none⟩ (bsV (addB s y))).drew.heap.size = W.heap.size := by show (W.setCell ⟨b, 1, none⟩ (bsV (addB s y))).heap.size = _; simp
    have HSM : Hid (∀ x ∈ q, x < 64) := HH.out.sm
    clear h1 h3 f0 f1 HR HH HS
    generalize (W.setCell ⟨b, 1, none⟩ (bsV (addB s y))).drew = W1 at *
    have hlo1 : lo ≤ W1.heap.size := by omega
    have hlt : b < W1.heap.size := by omega
    clear hsz
    go_wp2_with (at_builtin; refine wpList_append_q _ rfl (.tmp 20) (.tmp 22) 48 rfl 3 i0 Try.underlying48 hi hz0 hz1 hz2 (.slice A q.length c) q rfl (HR1.out.keep ((Below.refl _ _).alloc (Nat.le_refl _) _)) ⟨W1.heap.size, 0, none⟩ y rfl (by simp [go_sem, intV]) (by omega) (by simp; omega) ?_)
    intro v8 w8 hq8 hg8
    obtain ⟨A8, c8, rfl⟩ := hq8.form
    have hlow : ∀ k, (Value.slice A q.length c).ownBlock = some k → lo ≤ k := fun k hk => (HR1.out.lt k hk).1
    have hne : some b ≠ (Value.slice A q.length c).ownBlock := fun e => by have := hlow b e.symm; omega
    have k0 := hg8.cell (a := ⟨b, 0, none⟩) (cell_keep ((Below.refl W1.heap.size W1).alloc (Nat.le_refl _) _) c0) hne
    have k1 := hg8.cell (a := ⟨b, 1, none⟩) (cell_keep ((Below.refl W1.heap.size W1).alloc (Nat.le_refl _) _) c1) hne
    have z0 := (hg8.frozen_far ⟨b, 0, none⟩ (by simp; omega) hne).trans (((Below.refl W1.heap.size W1).alloc (Nat.le_refl _) _).frozen (p := ⟨b, 0, none⟩) hlt) |>.trans g0
    have z1 := (hg8.frozen_far ⟨b, 1, none⟩ (by simp; omega) hne).trans (((Below.refl W1.heap.size W1).alloc (Nat.le_refl _) _).frozen (p := ⟨b, 1, none⟩) hlt) |>.trans g1
    have HF8 : Hid (QF b lo W w8) := (HF1.out.alloc _).grown hg8 hlow
    have HQ8 : Hid (QRow lo w8 (.slice A8 (q ++ [y]).length c8) (q ++ [y])) := hq8
    clear hq8 hg8 c0 c1 g0 g1 HF1 HR1
    go_wp2
    go_end0
    refine HQ.out _ _ ?_ (HF8.out.setBox 0 _)
    rw [HP.out]
    refine ⟨⟨_, by simp [go_sem, k0], HQ8.out.put hbl _⟩, ⟨addB s y, by simp [go_sem, k1], HW.out⟩, by simpa [go_sem] using z0, by simpa [go_sem] using z1, hbl, fun x hx => ?_⟩
    rcases List.mem_append.1 hx with h | h
    · exact HSM.out x h
    · simp only [List.mem_singleton] at h
      omega

set_option maxHeartbeats 2000000 in
theorem take_any {Q : Ending → World → Prop} (lo b x : Nat) (q : List Nat) (W : World) (h : QS lo W b (x :: q)) (hnd : (x :: q).Nodup) (_hlo : lo ≤ W.heap.size)
    (hQ : ∀ W', QS lo W' b q → QF b lo W W' → Q (.returned (.int .i64 (x : Int))) W') :
    Calls Try.prog 84 #[.pointer (some ⟨b, 0, none⟩)] W Q := by
  have HQ : Hid _ := hQ
  clear hQ
  obtain ⟨v, h1, h2⟩ := h.lst
  obtain ⟨s, h3, h4⟩ := h.wt
  have f0 := h.f0
  have f1 := h.f1
  have hbl := h.bl
  have hx := h.sm x List.mem_cons_self
  have HSM : Hid (∀ y ∈ q, y < 64) := fun y hy => h.sm y (List.mem_cons_of_mem _ hy)
  have HS : Hid (∀ j, j < 64 → (dropB s x).getLsbD j = decide (j ∈ q)) := fun j hj => by
    rw [dropB_get hx hj, h4 j hj]
    have := (List.nodup_cons.1 hnd).1
    by_cases e1 : j = x
    · subst e1; simp [this]
    · simp [e1]
  obtain ⟨g, o, cap, hv, a1, a2, a3, a4, a5, a6⟩ : ∃ g o cap, v = .slice (some ⟨g, o, none⟩) (q.length + 1) cap ∧ lo ≤ g ∧ g < W.heap.size ∧ q.length + 1 ≤ cap ∧ cap ≤ maxLen ∧ W.cell? ⟨g, o, none⟩ = some (.int .i64 (x : Int)) ∧ QRow lo W (.slice (some ⟨g, o + 1, none⟩) q.length (cap - 1)) q := by
    rcases id h2 with ⟨_, h0⟩ | ⟨g, o, cap, hv, k1, k2, k3, k4, k5, k6⟩
    · cases h0
    · subst hv
      exact ⟨g, o, cap, rfl, k1, k2, k3, k4, by simpa [intV] using k6 0 (by simp), h2.tail⟩
  subst hv
  have HR : Hid (QRow lo W (.slice (some ⟨g, o + 1, none⟩) q.length (cap - 1)) q) := a6
  have HR0 : Hid (cap = 1 → QRow lo W (.slice (some ⟨g, o, none⟩) q.length 0) q) := fun hc => by
    have hq : q = [] := List.eq_nil_of_length_eq_zero (by omega)
    subst hq
    exact Or.inr ⟨g, o, 0, rfl, a1, a2, Nat.le_refl _, by unfold maxLen; omega, fun j hj => by omega, fun i hi => by simp at hi⟩
  have HT : Hid (∀ v', QRow lo W v' q → QS lo ((W.setCell ⟨b, 0, none⟩ v').setCell ⟨b, 1, none⟩ (bsV (dropB s x))).drew b q ∧ QF b lo W ((W.setCell ⟨b, 0, none⟩ v').setCell ⟨b, 1, none⟩ (bsV (dropB s x))).drew) := fun v' hv' => by
    refine ⟨QS.drewN (n := 1) ⟨⟨v', by simp [go_sem, h1], (hv'.put hbl _).put hbl _⟩, ⟨dropB s x, by simp [go_sem, h3], HS.out⟩, by simpa [go_sem] using f0, by simpa [go_sem] using f1, hbl, HSM.out⟩, (((QF.refl b lo W).setBox 0 _).setBox 1 _).drew⟩
  clear h h2 h4 hnd a6
  go_enter Try.func84, Try.ntmps84
  go_wp2_with fail
  · have hc : cap = 1 := by assumption
    have HV : Hid _ := HT.out _ (HR0.out hc)
    refine drop_any b 1 s x _ hx (by simp [go_sem, h3]) (by simpa [go_sem] using f1) fun u => ?_
    clear h1 h3 f0 f1 a5
    go_wp2
    exact HQ.out _ HV.out.1 HV.out.2
  · have HV : Hid _ := HT.out _ HR.out
    refine drop_any b 1 s x _ hx (by simp [go_sem, h3]) (by simpa [go_sem] using f1) fun u => ?_
    clear h1 h3 f0 f1 a5
    go_wp2
    exact HQ.out _ HV.out.1 HV.out.2
end Go.Proofs.Ytljlgffkhocgkaa
namespace Go.Proofs.Ytljlgffkhocgkaa
open Go.RowKit

/-- How many wait. -/
def lenQ (w : World) (b : Nat) : Nat := match w.cell? ⟨b, 0, none⟩ with | some (.slice _ n _) => n | _ => 0

theorem QS.lenQ {lo b : Nat} {W : World} {q : List Nat} (h : QS lo W b q) : lenQ W b = q.length := by
  obtain ⟨v, h1, h2⟩ := h.lst
  obtain ⟨A, c, rfl⟩ := h2.form
  unfold Go.Proofs.Ytljlgffkhocgkaa.lenQ
  rw [h1]

theorem cnt_off {m : Nat → Bool} {i n : Nat} (hi : i < n) (hm : m i = true) : cnt (offB m i) n + 1 = cnt m n := by
  induction n with
  | zero => omega
  | succ n ih =>
    have e : cnt m (n + 1) = cnt m n + (if m n = true then 1 else 0) := by simp [cnt]
    have e2 : cnt (offB m i) (n + 1) = cnt (offB m i) n + (if offB m i n = true then 1 else 0) := by simp [cnt]
    by_cases h : i = n
    · subst h
      have : cnt (offB m i) i = cnt m i := cnt_same fun j hj => by unfold offB; rw [if_neg (by omega)]
      rw [e, e2, this, hm]
      simp [offB]
    · have := ih (by omega)
      rw [e, e2, ← this]
      have h2 : offB m i n = m n := by unfold offB; rw [if_neg (by omega)]
      rw [h2]
      omega

/-- What a function value answers that tells who hangs on a step. -/
def Hangs (n : Nat) (r : Nat → Bool) (g : Nat) (fa : Array Value) (w : World) (H : Nat → List Int) : Prop :=
  ∀ W x, Below w.heap.size w W → x < n → r x = true → ∀ {Q' : Ending → World → Prop}, (∀ v W', Below W.heap.size W W' → IntsAt w v (H x) → Q' (.returned v) W') → Calls Try.prog g (fa ++ #[.int .i64 (x : Int)]) W Q'

/-- What a function value answers that is asked what is so of a step. -/
def Asks (n : Nat) (r : Nat → Bool) (g : Nat) (lb : Array Value) (w : World) (F : (Nat → Bool) → Nat → Bool) : Prop :=
  ∀ W x B so, Below w.heap.size w W → w.heap.size ≤ B → x < n → r x = true → W.rowIs B 4 n (fun j => .bool (so j)) → ∀ {Q' : Ending → World → Prop}, (∀ W', Below W.heap.size W W' → Q' (.returned (.bool (F so x))) W') → Calls Try.prog g (#[.int .i64 (x : Int), .slice (some ⟨B, 0, none⟩) n n] ++ lb) W Q'

theorem infoBoolV : (Try.prog.info? 4).map (fun i => (i.zero, i.size, i.bytes)) = some (some (.bool false), 1, 1) := by kernel_rfl

/-- The solver's memory. -/
structure SM (n : Nat) (w wr : World) (so : Nat → Bool) (q : List Nat) : Prop where
  row : wr.rowIs w.heap.size 4 n (fun j => .bool (so j))
  qs : QS (w.heap.size + 2) wr (w.heap.size + 1) q
  bel : Below w.heap.size w wr
  sz : w.heap.size + 2 ≤ wr.heap.size

theorem SM.keep {n : Nat} {w wr wr' : World} {so : Nat → Bool} {q : List Nat} (h : SM n w wr so q) (hb : Below wr.heap.size wr wr') : SM n w wr' so q :=
  ⟨rowIs_keep h.row hb, h.qs.keep hb, h.bel.trans (hb.mono h.bel.size), Nat.le_trans h.sz hb.size⟩

theorem SM.qf {n : Nat} {w wr wr' : World} {so : Nat → Bool} {q q' : List Nat} (h : SM n w wr so q) (hq : QS (w.heap.size + 2) wr' (w.heap.size + 1) q') (hf : QF (w.heap.size + 1) (w.heap.size + 2) wr wr') : SM n w wr' so q' :=
  ⟨h.row.of_block (hf.block _ h.row.lt (by omega) (by omega)), hq, h.bel.trans (hf.below (by omega) (by omega) h.bel.size), Nat.le_trans h.sz hf.size⟩

theorem SM.set {n : Nat} {w wr : World} {so : Nat → Bool} {q : List Nat} (h : SM n w wr so q) (x : Nat) (u : Bool) : SM n w (wr.setCell ⟨w.heap.size, x, none⟩ (.bool u)) (fun j => if j = x then u else so j) q :=
  ⟨(h.row.set x _).congr fun j _ => by by_cases e : j = x <;> simp [e], h.qs.far (by show w.heap.size ≠ w.heap.size + 1; omega) (by show w.heap.size < w.heap.size + 2; omega) _, h.bel.setCell (Nat.le_refl _) _, by simpa using h.sz⟩

theorem toNats {l : List Int} (h : ∀ x ∈ l, 0 ≤ x) : (l.map Int.toNat).map (fun (k : Nat) => (k : Int)) = l := by
  rw [List.map_map]
  conv => rhs; rw [← List.map_id l]
  exact List.map_congr_left fun x hx => by have := h x hx; simp; omega

set_option maxRecDepth 100000 in
set_option maxHeartbeats 4000000 in
theorem solve_any {Q : Ending → World → Prop} (n : Nat) (og ocap : Nat) (ord : List Nat) (gh : Nat) (fa : Array Value) (ga : Nat) (lb : Array Value) (eh : ∀ args w, (callFunc gh args).run Try.prog w = .ok (.enter gh args) w) (ea : ∀ args w, (callFunc ga args).run Try.prog w = .ok (.enter ga args) w)
    (w : World) (r : Nat → Bool) (F : (Nat → Bool) → Nat → Bool) (H : Nat → List Int) (hn : n ≤ 60) (ho : ord.length ≤ 60) (hO : ∀ i, i < ord.length → w.cell? ⟨og, i, none⟩ = some (intV (ord.getD i 0)))
    (hq : ∀ i, i ∈ ord ↔ i < n ∧ r i = true) (hnd : ord.Nodup) (hm : Mono n F)
    (hd : ∀ x i g, x < n → i < n → r i = true → (i : Int) ∉ H x → F (offB g x) i = F g i) (hl : ∀ x, x < n → r x = true → (H x).length ≤ 60 ∧ ∀ y ∈ H x, 0 ≤ y ∧ y.toNat < n ∧ r y.toNat = true)
    (HH : Hangs n r gh fa w H) (HA : Asks n r ga lb w F)
    (hQ : ∀ g W', Below w.heap.size w W' → Gr n r F g → W'.rowIs w.heap.size 4 n (fun j => .bool (g j)) → Q (.returned (.slice (some ⟨w.heap.size, 0, none⟩) n n)) W') :
    Calls Try.prog 67 #[.int .i64 (n : Int), .slice (some ⟨og, 0, none⟩) ord.length ocap, .bool true, .func (.func gh) fa #[], .func (.func ga) #[] lb] w Q := by
  have HQ : Hid _ := hQ
  have HHH : Hid (Hangs n r gh fa w H) := @HH
  have HAA : Hid (Asks n r ga lb w F) := @HA
  have HO : Hid _ := hO
  have HOM : Hid _ := hq
  have HND : Hid (ord.Nodup) := hnd
  have HM : Hid (Mono n F) := hm
  have HD : Hid _ := hd
  have HL : Hid _ := hl
  clear hQ HH HA hO hq hnd hm hd hl
  go_enter Try.func67, Try.ntmps67
  go_wp2_with (at_make; refine wpList_make_is _ rfl (.tmp 19) (.tmp 19) 30 rfl 4 (.bool false) 1 Try.underlying30 infoBoolV rfl .i64 .i64 n rfl rfl (by omega) (by omega) ?_)
  intro w1 hrow1 hb1 hs1
  go_wp2_with fail
  have hsm : SM n w (w1.alloc (.cells #[.slice none 0 0, .int .u64 0] 123)) (fun _ => false) [] := by
    refine ⟨rowIs_keep hrow1 ((Below.refl _ _).alloc (Nat.le_refl _) _), ?_, hb1.alloc (by omega) _, by simp; omega⟩
    rw [← hs1]
    exact ⟨⟨.slice none 0 0, by simp [go_sem], QRow.nil _ _⟩, ⟨0#64, by simp [go_sem, bsV], fun j hj => by simp⟩, by simp [go_sem], by simp [go_sem], by omega, fun x hx => by cases hx⟩
  have hb0 : Below w.heap.size w (w1.alloc (.cells #[.slice none 0 0, .int .u64 0] 123)) := hsm.bel
  have HSM : Hid _ := hsm
  simp only [hs1] at *
  generalize w1.alloc (.cells #[.slice none 0 0, .int .u64 0] 123) = W0 at *
  clear hsm hrow1 hb1 hs1
  go_loopw [14, 23] (fun _ i wr => ∃ k : Nat, k ≤ ord.length ∧ i = .int .i64 k ∧ SM n w wr (fun j => decide (j ∈ ord.take k)) (ord.take k)) (fun _ i _ => ord.length - (intOf i).toNat)
  case atStart => exact ⟨0, Nat.zero_le _, rfl, by simpa [Hid] using HSM.out⟩
  case round =>
    clear HSM hb0
    obtain ⟨k, hk, rfl, hsm⟩ := hrel
    have HS : Hid (SM n w wr (fun j => decide (j ∈ ord.take k)) (ord.take k)) := hsm
    by_cases hkn : k < ord.length
    · have hki : (k : Int) < (ord.length : Int) := by omega
      obtain ⟨x, hx⟩ : ∃ x, ord[k]? = some x := ⟨_, List.getElem?_eq_getElem hkn⟩
      have hxm : x ∈ ord := List.mem_of_getElem? hx
      obtain ⟨hxn, hxr⟩ := (HOM.out x).1 hxm
      have hc := cell_keep hsm.bel (HO.out k hkn)
      rw [List.getD_eq_getElem?_getD, hx] at hc
      simp only [Option.getD_some, intV] at hc
      have hxi : (x : Int) < (n : Int) := by omega
      have hcr := hsm.row.cell (i := x) hxn
      have hfr := hsm.row.frozen x
      have hset := hsm.set x true
      have hlen : (ord.take k).length ≤ 100 := by simp; omega
      have htk : ord.take (k + 1) = ord.take k ++ [x] := by rw [List.take_add_one, hx]; rfl
      have hni : x ∉ ord.take k := by
        have h1 := (List.take_sublist (k + 1) ord).nodup HND.out
        rw [htk, List.nodup_append] at h1
        exact fun hm => h1.2.2 x hm x (by simp) rfl
      have HPQ : Hid (putQ (ord.take k) x = ord.take (k + 1)) := by rw [Hid, putQ, if_neg hni, htk]
      have HFN : Hid (∀ j, (if j = x then true else decide (j ∈ ord.take k)) = decide (j ∈ ord.take (k + 1))) := fun j => by
        rw [htk]
        by_cases e : j = x
        · simp [e]
        · simp [e]
      have HSET : Hid _ := hset
      clear hsm hset hni htk hxm hxr HS hx
      go_wp2_with fail
      refine put_any (w.heap.size + 2) (w.heap.size + 1) x (ord.take k) _ HSET.out.qs (by omega) hlen HSET.out.sz fun u W' hq' hf' => ?_
      have HN : Hid (SM n w W' (fun j => decide (j ∈ ord.take (k + 1))) (ord.take (k + 1))) := by
        have h1 := HSET.out.qf hq' hf'
        rw [HPQ.out] at h1
        exact { h1 with row := h1.row.congr fun j _ => by rw [HFN.out j] }
      clear hq' hf' HSET hcr hfr hc
      go_wp2
      go_roundw
      case rel => exact ⟨k + 1, by omega, by go_num, HN.out⟩
      case measure => simp [intOf]; omega
    · have hki : ¬ (k : Int) < (ord.length : Int) := by omega
      obtain rfl : k = ord.length := by omega
      rw [List.take_length] at hsm
      have hdr : ∀ j, j < n → decide (j ∈ ord) = r j := by
        intro j hj
        have h0 := HOM.out j
        cases h1 : r j
        · have : j ∉ ord := fun h => by
            have := (h0.1 h).2
            rw [h1] at this
            cases this
          simp [this]
        · have : j ∈ ord := h0.2 ⟨hj, h1⟩
          simp [this]
      have HS2 : Hid (SM n w wr r ord) := ⟨hsm.row.congr fun j hj => by rw [hdr j hj], hsm.qs, hsm.bel, hsm.sz⟩
      clear hdr
      have HWL : Hid (WL n r F r ord) := WL.start HOM.out HND.out
      clear hsm HS HO
      go_wp2_with fail
      go_loopw [15, 16, 18] (fun _ _ _ wx => ∃ so q, SM n w wx so q ∧ WL n r F so q) (fun _ _ _ wx => cnt (trueAt wx w.heap.size) n * 61 + lenQ wx (w.heap.size + 1))
      case atStart => exact ⟨r, ord, HS2.out, HWL.out⟩
      case round =>
        clear HS2 HWL
        obtain ⟨so, q, hs, hwl⟩ := hrel
        have HS : Hid (SM n w wr so q) := hs
        have HW : Hid (WL n r F so q) := hwl
        have HME : Hid (cnt (trueAt wr w.heap.size) n * 61 + lenQ wr (w.heap.size + 1) = cnt so n * 61 + q.length) := by
          rw [Hid, hs.qs.lenQ, cnt_same fun j hj => trueAt_row hs.row hj]
        clear hs hwl
        go_wp2_with fail
        refine empty_any (w.heap.size + 2) (w.heap.size + 1) q _ HS.out.qs ?_
        cases q with
        | nil =>
          have HB : Hid _ := HS.out.bel
          have HR : Hid _ := HS.out.row
          have HG : Hid (Gr n r F so) := HW.out.done
          clear HS HW
          go_wp2
          exact HQ.out so _ HB.out HG.out HR.out
        | cons x q =>
          obtain ⟨hxn, hxr⟩ := HW.out.qr x List.mem_cons_self
          have hxi : (x : Int) < (n : Int) := by omega
          have hql : q.length + 1 ≤ n := HW.out.len
          have hde : decide ((x :: q).length = 0) = false := by simp
          rw [hde]
          clear hde
          go_wp2_with fail
          refine take_any (w.heap.size + 2) (w.heap.size + 1) x q _ HS.out.qs HW.out.nd HS.out.sz fun w2 hq2 hf2 => ?_
          have HS2 : Hid (SM n w w2 so q) := HS.out.qf hq2 hf2
          clear hq2 hf2 HS
          go_wp2_with fail
          refine HAA.out w2 x w.heap.size so HS2.out.bel (Nat.le_refl _) hxn hxr HS2.out.row fun w3 hb3 => ?_
          have HS3 : Hid (SM n w w3 so q) := HS2.out.keep hb3
          have hcr := HS3.out.row.cell (i := x) hxn
          have hfr := HS3.out.row.frozen x
          clear hb3 HS2
          by_cases hF : F so x = so x
          · have HW2 : Hid (WL n r F so q) := HW.out.same hF
            rw [hF]
            have hbe : (so x == so x) = true := by simp
            generalize so x = bx at *
            clear hF
            go_wp2_with fail
            go_roundw
            case rel => exact ⟨so, q, HS3.out, HW2.out⟩
            case measure =>
              have e1 := HME.out
              have e2 := HS3.out.qs.lenQ
              have e3 : cnt (trueAt w3 w.heap.size) n = cnt so n := cnt_same fun j hj => trueAt_row HS3.out.row hj
              rw [e1, e2, e3]
              simp
          · obtain ⟨t1, t2⟩ := HW.out.turned hF
            rw [t1] at hcr
            rw [t2]
            have HCO : Hid (cnt (offB so x) n + 1 = cnt so n) := cnt_off hxn t1
            have HS4 : Hid (SM n w (w3.setCell ⟨w.heap.size, x, none⟩ (.bool false)) (offB so x) q) := HS3.out.set x false
            have HNF : Hid (F so x ≠ so x) := hF
            clear hF t1 t2
            go_wp2_with fail
            have hb4 := HS4.out.bel
            obtain ⟨hHl, hHy⟩ := HL.out x hxn hxr
            refine HHH.out _ x hb4 hxn hxr fun v5 w5 hb5 hi5 => ?_
            have HS5 : Hid (SM n w w5 (offB so x) q) := HS4.out.keep hb5
            have HY : Hid (∀ y ∈ H x, 0 ≤ y ∧ y.toNat < n ∧ r y.toNat = true) := hHy
            have HWN : Hid (WL n r F (offB so x) (((H x).map Int.toNat).foldl putQ q)) := HW.out.turn HM.out HNF.out
              (fun i hi hri hni => HD.out x i so hxn hi hri fun hm => hni (List.mem_map.2 ⟨(i : Int), hm, by simp⟩))
              (fun y hy => by
                obtain ⟨z, hz, rfl⟩ := List.mem_map.1 hy
                exact (HY.out z hz).2)
            have HQR : Hid (∀ y ∈ q, y < n ∧ r y = true) := fun y hy => HW.out.qr y (List.mem_cons_of_mem _ hy)
            have HQN : Hid (q.Nodup) := (List.nodup_cons.1 HW.out.nd).2
            obtain ⟨A5, b5, o5, c5, rfl, hA5, hC5⟩ := hi5
            have HA5 : Hid _ := hA5
            have HC5 : Hid _ := hC5
            clear hb4 hb5 hHy HS4 HS3 hcr hfr hA5 hC5 HW HNF
            generalize H x = hs at *
            go_wp2_with fail
            go_loopw [18, 55] (fun _ i wx => ∃ k : Nat, k ≤ hs.length ∧ i = .int .i64 k ∧ SM n w wx (offB so x) (((hs.take k).map Int.toNat).foldl putQ q)) (fun _ i _ => hs.length - (intOf i).toNat)
            case atStart => exact ⟨0, Nat.zero_le _, rfl, by simpa using HS5.out⟩
            case round =>
              clear HS5
              obtain ⟨k, hk, rfl, hsm⟩ := hrel
              have HSK : Hid (SM n w wr (offB so x) (((hs.take k).map Int.toNat).foldl putQ q)) := hsm
              by_cases hkn : k < hs.length
              · have hki : (k : Int) < (hs.length : Int) := by omega
                obtain rfl := HA5.out (by omega)
                have hc := cell_keep hsm.bel (HC5.out k hkn)
                have hgk : hs.getD k 0 = hs[k] := by rw [List.getD_eq_getElem?_getD, List.getElem?_eq_getElem hkn]; rfl
                have hmem : hs[k] ∈ hs := List.getElem_mem hkn
                obtain ⟨y0, y1, y2⟩ := HY.out _ hmem
                obtain ⟨m, hm⟩ := Int.eq_ofNat_of_zero_le y0
                have hmn : m < n := by rw [hm] at y1; simpa using y1
                rw [hgk, hm] at hc
                have htk : (((hs.take (k + 1)).map Int.toNat).foldl putQ q) = putQ (((hs.take k).map Int.toNat).foldl putQ q) m := by
                  rw [List.take_add_one, List.getElem?_eq_getElem hkn]
                  simp [hm]
                have HTK : Hid _ := htk
                have hlen : (((hs.take k).map Int.toNat).foldl putQ q).length ≤ 100 := by
                  have h1 : (((hs.take k).map Int.toNat).foldl putQ q).length ≤ n := nodup_len (putsQ_nodup HQN.out) fun i hi => by
                    rcases putsQ_mem.1 hi with h2 | h2
                    · exact (HQR.out i h2).1
                    · obtain ⟨z, hz, rfl⟩ := List.mem_map.1 h2
                      exact (HY.out z (List.mem_of_mem_take hz)).2.1
                  omega
                clear hsm hgk hmem y0 y1 y2 hm htk
                go_wp2_with fail
                refine put_any (w.heap.size + 2) (w.heap.size + 1) m _ _ HSK.out.qs (by omega) hlen HSK.out.sz fun u W' hq' hf' => ?_
                have HN : Hid (SM n w W' (offB so x) (((hs.take (k + 1)).map Int.toNat).foldl putQ q)) := by
                  have h1 := HSK.out.qf hq' hf'
                  rw [← HTK.out] at h1
                  exact h1
                clear hq' hf' HSK hc hlen HTK
                go_wp2
                go_roundw
                case rel => exact ⟨k + 1, by omega, by go_num, HN.out⟩
                case measure => simp [intOf]; omega
              · have hki : ¬ (k : Int) < (hs.length : Int) := by omega
                obtain rfl : k = hs.length := by omega
                rw [List.take_length] at hsm
                have HSF : Hid (SM n w wr (offB so x) ((hs.map Int.toNat).foldl putQ q)) := hsm
                clear hsm HSK
                go_wp2
                go_roundw
                case rel => exact ⟨_, _, HSF.out, HWN.out⟩
                case measure =>
                  have e1 := HME.out
                  have e2 := HSF.out.qs.lenQ
                  have e3 : cnt (trueAt wr w.heap.size) n = cnt (offB so x) n := cnt_same fun j hj => trueAt_row HSF.out.row hj
                  have e4 := HCO.out
                  have e5 := HWN.out.len
                  rw [e2, e3]
                  simp only [List.length_cons] at e1
                  omega
end Go.Proofs.Ytljlgffkhocgkaa
