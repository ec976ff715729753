/- The model's reader of codes: what is kept while it draws, l6Open, pick. The model's drawing of operands, reckonings and ways. The model's drawing of a step. The model's drawing of a program. What the model's l71Prog draws: a program that is ok. -/
import Derived.Test.YtljlgffkhocgkaaDoorBase
import Derived.Test.YtljlgffkhocgkaaDoorChecked
import Derived.Test.YtljlgffkhocgkaaDoorPure
import Derived.Test.YtljlgffkhocgkaaDoorNiceOwn
import Derived.Deep.QuietTactic
import Derived.BigQuiet
import Derived.Deep.RegionWith
import Derived.Deep.RegionLawGrows
import Derived.OwnWalk
import Derived.Laws.OwnMore
import Derived.Deep.AppendLies
import Derived.Deep.RegionLaw
namespace Go.Proofs.YtljlgffkhocgkaaDoor
open Go.RowKit

/-- All blocks but one are as they were. -/
structure Ex (rb : Nat) (w w' : World) : Prop where
  os : w'.os = w.os
  tape : w'.tape = w.tape
  output : w'.output = w.output
  size : w.heap.size ≤ w'.heap.size
  block : ∀ k, k < w.heap.size → k ≠ rb → w'.heap[k]? = w.heap[k]?

theorem Ex.refl (rb : Nat) (w : World) : Ex rb w w := ⟨rfl, rfl, rfl, Nat.le_refl _, fun _ _ _ => rfl⟩

theorem Ex.trans {rb : Nat} {a b c : World} (h : Ex rb a b) (k : Ex rb b c) : Ex rb a c :=
  ⟨k.os.trans h.os, k.tape.trans h.tape, k.output.trans h.output, Nat.le_trans h.size k.size, fun i hi hr => (k.block i (Nat.lt_of_lt_of_le hi h.size) hr).trans (h.block i hi hr)⟩

theorem Ex.of_below {rb : Nat} {w w' : World} (h : Below w.heap.size w w') : Ex rb w w' := ⟨h.os, h.tape, h.output, h.size, fun k hk _ => h.block k hk⟩

/-- What lies below the block that turns is as it was. -/
theorem Ex.below {rb : Nat} {w w' : World} (h : Ex rb w w') (hr : rb ≤ w.heap.size) : Below rb w w' := ⟨h.os, h.tape, h.output, h.size, fun k hk => h.block k (by omega) (by omega)⟩

theorem Ex.drew {rb : Nat} {a w : World} (h : Ex rb a w) : Ex rb a w.drew := ⟨h.os, h.tape, h.output, h.size, h.block⟩

theorem Ex.alloc {rb : Nat} {a w : World} (h : Ex rb a w) (o : Obj) : Ex rb a (w.alloc o) :=
  ⟨h.os, h.tape, h.output, by show a.heap.size ≤ (w.heap.push o).size; rw [Array.size_push]; exact Nat.le_succ_of_le h.size, fun k hk hr => (Below.heap_alloc w o k (Nat.lt_of_lt_of_le hk h.size)).trans (h.block k hk hr)⟩

theorem Ex.setCell {rb : Nat} {a w : World} (h : Ex rb a w) {p : Addr} (hp : p.block = rb ∨ a.heap.size ≤ p.block) (u : Value) : Ex rb a (w.setCell p u) :=
  ⟨h.os, h.tape, h.output, by simpa [World.setCell] using h.size, fun k hk hr => (Below.heap_setCell w p u k (by omega)).trans (h.block k hk hr)⟩

theorem Ex.cell {rb : Nat} {w w' : World} (h : Ex rb w w') {p : Addr} {v : Value} (hc : w.cell? p = some v) (hr : p.block ≠ rb) : w'.cell? p = some v :=
  (World.cell?_of_block (w := w) (h.block p.block (cell_lt hc) hr)).trans hc

/-- The reader in a block, come to a place. -/
structure Rd (w : World) (rb p : Nat) : Prop where
  ex : ∃ ao bb bo bl cap, w.cell? ⟨rb, 0, none⟩ = some (.slice ao bl cap) ∧ (0 < bl → ao = some ⟨bb, bo, none⟩) ∧ (0 < bl → bb < rb) ∧ bl ≤ 2000 ∧ ∀ i, i < bl → ∃ z : Nat, z < 256 ∧ w.cell? ⟨bb, bo + i, none⟩ = some (.int .u8 z)
  at1 : w.cell? ⟨rb, 1, none⟩ = some (.int .i64 p)
  fz : w.frozen? ⟨rb, 1, none⟩ = false

theorem Rd.keep {w w' : World} {rb p : Nat} (h : Rd w rb p) (hb : Below w.heap.size w w') : Rd w' rb p := by
  obtain ⟨ao, bb, bo, bl, cap, h0, h1, h2, h3, h4⟩ := h.ex
  refine ⟨⟨ao, bb, bo, bl, cap, cell_keep hb h0, h1, h2, h3, fun i hi => ?_⟩, cell_keep hb h.at1, (hb.frozen (cell_lt h.at1)).trans h.fz⟩
  obtain ⟨z, hz, hc⟩ := h4 i hi
  exact ⟨z, hz, cell_keep hb hc⟩

theorem Rd.lt {w : World} {rb p : Nat} (h : Rd w rb p) : rb < w.heap.size := cell_lt h.at1


theorem Rd.turned {w : World} {rb p q : Nat} (h : Rd w rb p) : Rd (w.setCell ⟨rb, 1, none⟩ (.int .i64 q)) rb q := by
  obtain ⟨ao, bb, bo, bl, cap, h0, h1, h2, h3, h4⟩ := h.ex
  have hlt := h.lt
  refine ⟨⟨ao, bb, bo, bl, cap, ?_, h1, h2, h3, fun i hi => ?_⟩, ?_, ?_⟩
  · simp [go_sem, h0]
  · obtain ⟨z, hz, hc⟩ := h4 i hi
    exact ⟨z, hz, by rw [cell_setOther _ _ _ _ (Nat.ne_of_lt (h2 (by omega)))]; exact hc⟩
  · simp [go_sem, h.at1]
  · simpa [go_sem] using h.fz

theorem Rd.setCell {w : World} {rb p : Nat} (h : Rd w rb p) {a : Addr} (ha : rb < a.block) (u : Value) : Rd (w.setCell a u) rb p := by
  obtain ⟨ao, bb, bo, bl, cap, h0, h1, h2, h3, h4⟩ := h.ex
  refine ⟨⟨ao, bb, bo, bl, cap, ?_, h1, h2, h3, fun i hi => ?_⟩, ?_, ?_⟩
  · rw [cell_setOther _ _ _ _ (Nat.ne_of_lt ha)]; exact h0
  · obtain ⟨z, hz, hc⟩ := h4 i hi
    exact ⟨z, hz, by rw [cell_setOther _ _ _ _ (Nat.ne_of_lt (Nat.lt_trans (h2 (by omega)) ha))]; exact hc⟩
  · rw [cell_setOther _ _ _ _ (Nat.ne_of_lt ha)]; exact h.at1
  · exact (World.frozen?_of_block (w := w) (Below.heap_setCell w a u rb (Nat.ne_of_lt ha))).trans h.fz

theorem Rd.drewN {w : World} {rb p : Nat} (h : Rd w rb p) (n : Nat) : Rd (w.drewN n) rb p := ⟨h.ex, h.at1, h.fz⟩
theorem Ex.drewN {rb : Nat} {a w : World} (h : Ex rb a w) (n : Nat) : Ex rb a (w.drewN n) := ⟨h.os, h.tape, h.output, h.size, h.block⟩

set_option maxHeartbeats 1000000 in
theorem l6Open_any {Q : Ending → World → Prop} (ao : Option Addr) (bb bo bl cap : Nat) (w : World) (ha : 0 < bl → ao = some ⟨bb, bo, none⟩) (hcap : bl ≤ cap) (hbb : 0 < bl → bb < w.heap.size)
    (hc : ∀ i, i < bl → ∃ z : Nat, z < 256 ∧ w.cell? ⟨bb, bo + i, none⟩ = some (.int .u8 z))
    (hQ : ∀ w', Rd w' w.heap.size 0 → Below w.heap.size w w' → Q (.returned (.pointer (some ⟨w.heap.size, 0, none⟩))) w') :
    Calls Tryd.prog 47 #[.slice ao bl cap] w Q := by
  have HQ : Hid _ := hQ
  have HC : Hid _ := hc
  have HA : Hid _ := ha
  clear hQ hc ha
  by_cases hl : 2000 < bl
  · obtain rfl := HA.out (by omega)
    go_enter Tryd.func47, Tryd.ntmps47
    go_wp2
    refine HQ.out _ ⟨⟨some ⟨bb, bo, none⟩, bb, bo, 2000, cap, ?_, fun _ => rfl, ?_, ?_, fun i hi => ?_⟩, ?_, ?_⟩ ?_
    · simp [go_sem]
    · omega
    · omega
    · obtain ⟨z, hz, hc⟩ := HC.out i (by omega)
      exact ⟨z, hz, cell_keep ((Below.refl _ _).alloc (Nat.le_refl _) _) hc⟩
    · simp [go_sem]
    · simp [go_sem]
    · exact (Below.refl _ _).alloc (Nat.le_refl _) _
  · go_enter Tryd.func47, Tryd.ntmps47
    go_wp2
    refine HQ.out _ ⟨⟨ao, bb, bo, bl, cap, ?_, HA.out, ?_, ?_, fun i hi => ?_⟩, ?_, ?_⟩ ?_
    · simp [go_sem]
    · omega
    · omega
    · obtain ⟨z, hz, hc⟩ := HC.out i (by omega)
      exact ⟨z, hz, cell_keep ((Below.refl _ _).alloc (Nat.le_refl _) _) hc⟩
    · simp [go_sem]
    · simp [go_sem]
    · exact (Below.refl _ _).alloc (Nat.le_refl _) _

theorem xor64 (x : Int) (h0 : 0 ≤ x) (h1 : x ≤ 1000000000) : ∃ y : Int, 0 ≤ y ∧ y < 1099511627776 ∧ bits .xor .i64 x (x / 64) = y := by
  obtain ⟨X, rfl⟩ : ∃ X : Nat, x = X := ⟨x.toNat, by omega⟩
  have hx : X ^^^ (X / 64) < 2 ^ 40 := Nat.xor_lt_two_pow (by omega) (by omega)
  have e : ((X : Int) / 64) = ((X / 64 : Nat) : Int) := by omega
  have g1 : (BitVec.ofInt 64 (X : Int)).toNat = X := by
    rw [BitVec.ofInt_natCast, BitVec.toNat_ofNat]; exact Nat.mod_eq_of_lt (by omega)
  have g2 : (BitVec.ofInt 64 ((X / 64 : Nat) : Int)).toNat = X / 64 := by
    rw [BitVec.ofInt_natCast, BitVec.toNat_ofNat]; exact Nat.mod_eq_of_lt (by omega)
  refine ⟨((X ^^^ (X / 64) : Nat) : Int), by omega, by omega, ?_⟩
  rw [e]
  show IntKind.i64.wrap ((BitVec.ofInt 64 (X : Int) ^^^ BitVec.ofInt 64 ((X / 64 : Nat) : Int)).toNat : Int) = _
  rw [BitVec.toNat_xor, g1, g2]
  generalize X ^^^ (X / 64) = r at *
  simp [IntKind.wrap, IntKind.bits, IntKind.signed]
  omega

set_option maxHeartbeats 2000000 in
theorem pickI_any {Q : Ending → World → Prop} (rb p : Nat) (n : Int) (w : World) (h : Rd w rb p) (hp : p ≤ 1000000) (hn : n ≤ 1000000)
    (hQ : ∀ (z : Int) w', 0 ≤ z → (0 < n → z < n) → Rd w' rb (p + 1) → Ex rb w w' → Q (.returned (.int .i64 z)) w') :
    Calls Tryd.prog 71 #[.pointer (some ⟨rb, 0, none⟩), .int .i64 n] w Q := by
  have HQ : Hid _ := hQ
  clear hQ
  have HR : Hid _ := h
  obtain ⟨ao, bb, bo, bl, cap, c0, ha, hne', hbl, hc⟩ := h.ex
  have c1 := h.at1
  have fz := h.fz
  have hlt := h.lt
  have HA : Hid _ := ha
  have HC : Hid _ := hc
  clear ha hc h
  have hw : Rd (w.setCell ⟨rb, 1, none⟩ (.int .i64 ((p : Int) + 1))) rb (p + 1) := HR.out.turned (q := p + 1)
  have hx : Ex rb w (w.setCell ⟨rb, 1, none⟩ (.int .i64 ((p : Int) + 1))) := Ex.setCell (Ex.refl rb w) (p := ⟨rb, 1, none⟩) (Or.inl rfl) _
  by_cases hn1 : n < 1
  · go_enter Tryd.func71, Tryd.ntmps71
    go_wp2
    exact HQ.out _ _ (by omega) (by omega) hw hx
  · have hd : decide (n < 1) = false := by simpa using hn1
    by_cases hb0 : bl = 0
    · subst hb0
      go_enter Tryd.func71, Tryd.ntmps71
      go_wp2
      exact HQ.out _ _ (by omega) (by omega) hw hx
    · obtain rfl := HA.out (by omega)
      have hne : bb ≠ rb := Nat.ne_of_lt (hne' (by omega))
      by_cases hpl : p < bl
      · obtain ⟨z, hz, hcz⟩ := HC.out p hpl
        have hcz' : (w.setCell ⟨rb, 1, none⟩ (.int .i64 ((p : Int) + 1))).cell? ⟨bb, bo + p, none⟩ = some (.int .u8 z) := by rw [cell_setOther _ _ _ _ hne]; exact hcz
        have hn0 : n ≠ 0 := by omega
        go_enter Tryd.func71, Tryd.ntmps71
        go_wp2
        exact HQ.out _ _ (Int.emod_nonneg _ hn0) (fun _ => Int.emod_lt_of_pos _ (by omega)) hw hx
      · go_enter Tryd.func71, Tryd.ntmps71
        obtain ⟨z1, hz1, hcz1⟩ := HC.out (p % bl) (Nat.mod_lt _ (by omega))
        obtain ⟨z2, hz2, hcz2⟩ := HC.out ((p * 7 + 3) % bl) (Nat.mod_lt _ (by omega))
        have d1 : (w.setCell ⟨rb, 1, none⟩ (.int .i64 ((p : Int) + 1))).cell? ⟨bb, bo + p % bl, none⟩ = some (.int .u8 z1) := by rw [cell_setOther _ _ _ _ hne]; exact hcz1
        have d2 : (w.setCell ⟨rb, 1, none⟩ (.int .i64 ((p : Int) + 1))).cell? ⟨bb, bo + (p * 7 + 3) % bl, none⟩ = some (.int .u8 z2) := by rw [cell_setOther _ _ _ _ hne]; exact hcz2
        have e1 : (p : Int).tmod bl = ((p % bl : Nat) : Int) := rfl
        have e2 : ((p : Int) * 7 + 3).tmod bl = (((p * 7 + 3) % bl : Nat) : Int) := rfl
        have i1 : p % bl < bl := Nat.mod_lt _ (by omega)
        have i2 : (p * 7 + 3) % bl < bl := Nat.mod_lt _ (by omega)
        generalize p % bl = k1 at *
        generalize (p * 7 + 3) % bl = k2 at *
        have e3 : (p : Int).tdiv bl = ((p / bl : Nat) : Int) := rfl
        have i3 : p / bl ≤ p := Nat.div_le_self _ _
        generalize p / bl = k3 at *
        have hbz : (bl : Int) ≠ 0 := by omega
        go_wp2_with fail
        go_quiet (fail)
        have hx0 : (0 : Int) ≤ (z1 : Int) * 131 + (z2 : Int) * 1117 + (p : Int) * 29 + (k3 : Int) * 53 := by omega
        have hx1 : (z1 : Int) * 131 + (z2 : Int) * 1117 + (p : Int) * 29 + (k3 : Int) * 53 ≤ 1000000000 := by omega
        generalize (z1 : Int) * 131 + (z2 : Int) * 1117 + (p : Int) * 29 + (k3 : Int) * 53 = x at *
        obtain ⟨y, hy0, hy1, hy⟩ := xor64 x hx0 hx1
        go_wp2
        exact HQ.out (y % n) _ (Int.emod_nonneg _ (by omega)) (fun h => Int.emod_lt_of_pos _ h) (hw.drewN _) (hx.drewN _)

theorem pick_any {Q : Ending → World → Prop} (rb p : Nat) (n : Int) (w : World) (h : Rd w rb p) (hp : p ≤ 1000000) (hn : n ≤ 1000000)
    (hQ : ∀ (z : Nat) w', (0 < n → (z : Int) < n) → Rd w' rb (p + 1) → Ex rb w w' → Q (.returned (.int .i64 z)) w') :
    Calls Tryd.prog 71 #[.pointer (some ⟨rb, 0, none⟩), .int .i64 n] w Q := by
  refine pickI_any rb p n w h hp hn fun z w' h0 h1 h2 h3 => ?_
  obtain ⟨m, rfl⟩ := Int.eq_ofNat_of_zero_le h0
  exact hQ m w' h1 h2 h3

theorem Ex.frozen {rb : Nat} {w w' : World} (h : Ex rb w w') {p : Addr} (hp : p.block < w.heap.size) (hr : p.block ≠ rb) : w'.frozen? p = w.frozen? p :=
  World.frozen?_of_block (w := w) (h.block p.block hp hr)
end Go.Proofs.YtljlgffkhocgkaaDoor
namespace Go.Proofs.YtljlgffkhocgkaaDoor
open Go.RowKit

/-- An operand as it is drawn. -/
def OpndD (v n : Int) : Prop := (v = -1 ∧ 0 ≤ n ∧ n ≤ 65535) ∨ (0 ≤ v ∧ v ≤ 11 ∧ n = 0)

set_option maxHeartbeats 1000000 in
theorem l71Opnd_any {Q : Ending → World → Prop} (rb p : Nat) (w : World) (h : Rd w rb p) (hp : p + 2 ≤ 1000000)
    (hQ : ∀ (v n : Int) (p' : Nat) w', OpndD v n → Rd w' rb p' → p' ≤ p + 2 → Ex rb w w' → Q (.returned (.agg #[.int .i64 v, .int .i64 n])) w') :
    Calls Tryd.prog 100 #[.pointer (some ⟨rb, 0, none⟩)] w Q := by
  have HQ : Hid _ := hQ
  clear hQ
  have hlt := h.lt
  go_enter Tryd.func100, Tryd.ntmps100
  go_wp2_with fail
  refine pick_any rb p _ _ (h.keep ((Below.refl _ _).alloc (Nat.le_refl _) _)) (by omega) (by omega) fun z w1 _ hr1 hx1 => ?_
  have c0 : w1.cell? ⟨w.heap.size, 0, none⟩ = some (.int .i64 0) := hx1.cell (by simp [go_sem]) (by simp; omega)
  have c1 : w1.cell? ⟨w.heap.size, 1, none⟩ = some (.int .i64 0) := hx1.cell (by simp [go_sem]) (by simp; omega)
  have fz : ∀ j, w1.frozen? ⟨w.heap.size, j, none⟩ = false := fun j => (hx1.frozen (by simp) (by simp; omega)).trans (by simp [go_sem])
  have hx : Ex rb w w1 := ((Ex.refl _ _).alloc _).trans hx1
  have hs1 : w.heap.size < w1.heap.size := Nat.lt_of_lt_of_le (by simp) hx1.size
  have HX : Hid _ := hx
  clear hx hx1
  by_cases hz : z = 0
  · subst hz
    go_wp2_with fail
    refine pick_any rb (p + 1) _ _ (hr1.keep ((Below.refl _ _).alloc (Nat.le_refl _) _)) (by omega) (by omega) fun z2 w2 hz2 hr2 hx2 => ?_
    have hc : ∃ m : Int, 0 ≤ m ∧ m ≤ 65535 ∧ w2.cell? ⟨w1.heap.size, z2, none⟩ = some (.int .i64 m) := by
      have h5 : z2 < 5 := by have := hz2 (by omega); omega
      have hne : w1.heap.size ≠ rb := by omega
      rcases (by omega : z2 = 0 ∨ z2 = 1 ∨ z2 = 2 ∨ z2 = 3 ∨ z2 = 4) with rfl | rfl | rfl | rfl | rfl
      · exact ⟨0, by omega, by omega, hx2.cell (by simp [go_sem]) hne⟩
      · exact ⟨1, by omega, by omega, hx2.cell (by simp [go_sem]) hne⟩
      · exact ⟨2, by omega, by omega, hx2.cell (by simp [go_sem]) hne⟩
      · exact ⟨7, by omega, by omega, hx2.cell (by simp [go_sem]) hne⟩
      · exact ⟨65535, by omega, by omega, hx2.cell (by simp [go_sem]) hne⟩
    obtain ⟨m, hm0, hm1, hm⟩ := hc
    have hi5 : (z2 : Int) < 5 := hz2 (by omega)
    have hb1 : Below w1.heap.size w1 (w1.alloc (.cells #[.int .i64 0, .int .i64 1, .int .i64 2, .int .i64 7, .int .i64 65535] 3)) := (Below.refl _ _).alloc (Nat.le_refl _) _
    have c0' := hx2.cell (cell_keep hb1 c0) (by simp; omega)
    have c1' := hx2.cell (cell_keep hb1 c1) (by simp; omega)
    have fz' : ∀ j, w2.frozen? ⟨w.heap.size, j, none⟩ = false := fun j => (hx2.frozen (by simp; omega) (by simp; omega)).trans ((hb1.frozen (by simp; omega)).trans (fz j))
    have HX2 : Hid (Ex rb w w2) := (HX.out.alloc _).trans hx2
    clear hx2 hb1 c0 c1 fz hz2
    go_wp2
    refine bodyPost_ret (v := .agg #[.int .i64 (-1), .int .i64 m]) (by simp [results, Tryd.results100, go_sem, c0', c1']) rfl ?_
    refine HQ.out (-1) m _ _ (Or.inl ⟨rfl, hm0, hm1⟩) ((hr2.setCell ?_ _).setCell ?_ _) (Nat.le_refl _) ((HX2.out.setCell (Or.inr ?_) _).setCell (Or.inr ?_) _)
    all_goals (simp <;> omega)
  · have hzz : ((z : Int) == 0) = false := by simp; omega
    go_wp2_with fail
    refine pick_any rb (p + 1) _ _ hr1 (by omega) (by omega) fun z2 w2 hz2 hr2 hx2 => ?_
    have c0' := hx2.cell c0 (by simp; omega)
    have c1' := hx2.cell c1 (by simp; omega)
    have fz' : ∀ j, w2.frozen? ⟨w.heap.size, j, none⟩ = false := fun j => (hx2.frozen (by simp; omega) (by simp; omega)).trans (fz j)
    clear c0 c1 fz
    have HX2 : Hid _ := hx2
    clear hx2
    go_wp2
    refine bodyPost_ret (v := .agg #[.int .i64 z2, .int .i64 0]) (by simp [results, Tryd.results100, go_sem, c0', c1']) rfl ?_
    refine HQ.out z2 0 _ _ (Or.inr ⟨by omega, by have := hz2 (by omega); omega, rfl⟩) ((hr2.setCell ?_ _).setCell ?_ _) (Nat.le_refl _) (((HX.out.trans HX2.out).setCell (Or.inr ?_) _).setCell (Or.inr ?_) _)
    all_goals (simp <;> omega)

set_option maxHeartbeats 1000000 in
theorem l71Next_any {Q : Ending → World → Prop} (rb p at0 n : Nat) (w : World) (h : Rd w rb p) (hp : p + 2 ≤ 1000000) (hn : 0 < n) (hn' : n ≤ 1000) (hat : at0 ≤ 1000)
    (hQ : ∀ (v : Nat) (p' : Nat) w', v < n → Rd w' rb p' → p' ≤ p + 2 → Ex rb w w' → Q (.returned (.int .i64 v)) w') :
    Calls Tryd.prog 98 #[.pointer (some ⟨rb, 0, none⟩), .int .i64 at0, .int .i64 n] w Q := by
  have HQ : Hid _ := hQ
  clear hQ
  have hlt := h.lt
  go_enter Tryd.func98, Tryd.ntmps98
  go_wp2_with fail
  refine pick_any rb p _ _ h (by omega) (by omega) fun z w1 _ hr1 hx1 => ?_
  have HX : Hid _ := hx1
  clear hx1
  by_cases hz : z = 0
  · subst hz
    go_wp2_with fail
    refine pick_any rb (p + 1) _ _ hr1 (by omega) (by omega) fun z2 w2 hz2 hr2 hx2 => ?_
    have HX2 : Hid _ := hx2
    clear hx2
    go_wp2
    exact HQ.out z2 _ _ (by have := hz2 (by omega); omega) hr2 (Nat.le_refl _) (HX.out.trans HX2.out)
  · have hzz : ((z : Int) == 0) = false := by simp; omega
    go_wp2_with fail
    refine pick_any rb (p + 1) _ _ hr1 (by omega) (by omega) fun z2 w2 hz2 hr2 hx2 => ?_
    have h3 : (z2 : Int) < 3 := hz2 (by omega)
    have HX2 : Hid _ := hx2
    clear hx2
    by_cases hto : n ≤ at0 + 1 + z2
    · go_wp2
      obtain ⟨m, rfl⟩ : ∃ m, n = m + 1 := ⟨n - 1, by omega⟩
      have e : ((m + 1 : Nat) : Int) - 1 = (m : Int) := by omega
      first | (rw [e]) | skip
      exact HQ.out m _ _ (by omega) hr2 (Nat.le_refl _) (HX.out.trans HX2.out)
    · go_wp2
      exact HQ.out (at0 + 1 + z2) _ _ (by omega) hr2 (Nat.le_refl _) (HX.out.trans HX2.out)

/-- A reckoning as it is drawn. -/
def ExprD (op av an bv bn : Int) : Prop := 1 ≤ op ∧ op ≤ 4 ∧ OpndD av an ∧ OpndD bv bn

set_option maxHeartbeats 1000000 in
theorem l71Expr_any {Q : Ending → World → Prop} (rb p : Nat) (w : World) (h : Rd w rb p) (hp : p + 6 ≤ 1000000)
    (hQ : ∀ (op av an bv bn : Int) (p' : Nat) w', ExprD op av an bv bn → Rd w' rb p' → p' ≤ p + 6 → Ex rb w w' → Q (.returned (.agg #[.int .i64 op, .int .i64 av, .int .i64 an, .int .i64 bv, .int .i64 bn])) w') :
    Calls Tryd.prog 99 #[.pointer (some ⟨rb, 0, none⟩)] w Q := by
  have HQ : Hid _ := hQ
  clear hQ
  have hlt := h.lt
  go_enter Tryd.func99, Tryd.ntmps99
  go_wp2_with fail
  refine pick_any rb p _ _ (h.keep ((Below.refl _ _).alloc (Nat.le_refl _) _)) (by omega) (by omega) fun z w1 _ hr1 hx1 => ?_
  have c0 : w1.cell? ⟨w.heap.size, 0, none⟩ = some (.int .i64 0) := hx1.cell (by simp [go_sem]) (by simp; omega)
  have c1 : w1.cell? ⟨w.heap.size, 1, none⟩ = some (.int .i64 0) := hx1.cell (by simp [go_sem]) (by simp; omega)
  have c2 : w1.cell? ⟨w.heap.size, 2, none⟩ = some (.int .i64 0) := hx1.cell (by simp [go_sem]) (by simp; omega)
  have c3 : w1.cell? ⟨w.heap.size, 3, none⟩ = some (.int .i64 0) := hx1.cell (by simp [go_sem]) (by simp; omega)
  have c4 : w1.cell? ⟨w.heap.size, 4, none⟩ = some (.int .i64 0) := hx1.cell (by simp [go_sem]) (by simp; omega)
  have fz : ∀ j, w1.frozen? ⟨w.heap.size, j, none⟩ = false := fun j => (hx1.frozen (by simp) (by simp; omega)).trans (by simp [go_sem])
  have hx : Ex rb w w1 := ((Ex.refl _ _).alloc _).trans hx1
  have hs1 : w.heap.size < w1.heap.size := Nat.lt_of_lt_of_le (by simp) hx1.size
  have HX : Hid _ := hx
  clear hx hx1
  by_cases h0 : z = 0 ∨ z = 1
  · rcases h0 with rfl | rfl
    all_goals
      go_wp2
      refine bodyPost_ret (v := .agg #[.int .i64 1, .int .i64 0, .int .i64 0, .int .i64 1, .int .i64 0]) (by simp [results, Tryd.results99, go_sem, c0, c1, c2, c3, c4]) rfl ?_
      refine HQ.out 1 0 0 1 0 _ _ ⟨by omega, by omega, Or.inr ⟨by omega, by omega, rfl⟩, Or.inr ⟨by omega, by omega, rfl⟩⟩ (((((hr1.setCell ?_ _).setCell ?_ _).setCell ?_ _).setCell ?_ _).setCell ?_ _) (by omega) (((((HX.out.setCell (Or.inr ?_) _).setCell (Or.inr ?_) _).setCell (Or.inr ?_) _).setCell (Or.inr ?_) _).setCell (Or.inr ?_) _)
      all_goals (simp <;> omega)
  · have g0 : ((z : Int) == 0) = false := by simp; omega
    have g1 : ((z : Int) == 1) = false := by simp; omega
    by_cases h2 : z = 2
    · subst h2
      go_wp2
      refine bodyPost_ret (v := .agg #[.int .i64 3, .int .i64 0, .int .i64 0, .int .i64 0, .int .i64 0]) (by simp [results, Tryd.results99, go_sem, c0, c1, c2, c3, c4]) rfl ?_
      refine HQ.out 3 0 0 0 0 _ _ ⟨by omega, by omega, Or.inr ⟨by omega, by omega, rfl⟩, Or.inr ⟨by omega, by omega, rfl⟩⟩ (((((hr1.setCell ?_ _).setCell ?_ _).setCell ?_ _).setCell ?_ _).setCell ?_ _) (by omega) (((((HX.out.setCell (Or.inr ?_) _).setCell (Or.inr ?_) _).setCell (Or.inr ?_) _).setCell (Or.inr ?_) _).setCell (Or.inr ?_) _)
      all_goals (simp <;> omega)
    · have g2 : ((z : Int) == 2) = false := by simp; omega
      by_cases h3 : z = 3
      · subst h3
        go_wp2
        refine bodyPost_ret (v := .agg #[.int .i64 2, .int .i64 1, .int .i64 0, .int .i64 (-1), .int .i64 1]) (by simp [results, Tryd.results99, go_sem, c0, c1, c2, c3, c4]) rfl ?_
        refine HQ.out 2 1 0 (-1) 1 _ _ ⟨by omega, by omega, Or.inr ⟨by omega, by omega, rfl⟩, Or.inl ⟨by omega, by omega, by omega⟩⟩ (((((hr1.setCell ?_ _).setCell ?_ _).setCell ?_ _).setCell ?_ _).setCell ?_ _) (by omega) (((((HX.out.setCell (Or.inr ?_) _).setCell (Or.inr ?_) _).setCell (Or.inr ?_) _).setCell (Or.inr ?_) _).setCell (Or.inr ?_) _)
        all_goals (simp <;> omega)
      · have g3 : ((z : Int) == 3) = false := by simp; omega
        go_wp2_with fail
        refine pick_any rb (p + 1) _ _ hr1 (by omega) (by omega) fun z2 w2 hz2 hr2 hx2 => ?_
        have h4 : (z2 : Int) < 4 := hz2 (by omega)
        go_wp2_with fail
        refine l71Opnd_any rb (p + 1 + 1) _ hr2 (by omega) fun av an p3 w3 ho3 hr3 hp3 hx3 => ?_
        go_wp2_with fail
        refine l71Opnd_any rb p3 _ hr3 (by omega) fun bv bn p4 w4 ho4 hr4 hp4 hx4 => ?_
        have hx := hx2.trans (hx3.trans hx4)
        have HX2 : Hid _ := hx
        clear hx2 hx3 hx4
        have d0 := hx.cell c0 (by simp; omega)
        have d1 := hx.cell c1 (by simp; omega)
        have d2 := hx.cell c2 (by simp; omega)
        have d3 := hx.cell c3 (by simp; omega)
        have d4 := hx.cell c4 (by simp; omega)
        have fz' : ∀ j, w4.frozen? ⟨w.heap.size, j, none⟩ = false := fun j => (hx.frozen (by simp; omega) (by simp; omega)).trans (fz j)
        clear hx c0 c1 c2 c3 c4 fz
        go_wp2
        refine bodyPost_ret (v := .agg #[.int .i64 (1 + z2), .int .i64 av, .int .i64 an, .int .i64 bv, .int .i64 bn]) (by simp [results, Tryd.results99, go_sem, d0, d1, d2, d3, d4]) rfl ?_
        refine HQ.out (1 + z2) av an bv bn _ _ ⟨by omega, by omega, ho3, ho4⟩ (((((hr4.setCell ?_ _).setCell ?_ _).setCell ?_ _).setCell ?_ _).setCell ?_ _) (by omega) ((((((HX.out.trans HX2.out).setCell (Or.inr ?_) _).setCell (Or.inr ?_) _).setCell (Or.inr ?_) _).setCell (Or.inr ?_) _).setCell (Or.inr ?_) _)
        all_goals (simp <;> omega)
end Go.Proofs.YtljlgffkhocgkaaDoor
namespace Go.Proofs.YtljlgffkhocgkaaDoor
open Go.RowKit

theorem opndB_of {v n : Int} (h : OpndD v n) : opndB v n = true := by
  unfold opndB inB
  rcases h with ⟨rfl, h1, h2⟩ | ⟨h1, h2, rfl⟩
  · simp [h1, h2]
  · rw [if_neg (by omega)]; simp [h1, h2]

theorem StepCells.ex {rb : Nat} {w w' : World} {b o : Nat} {s : St} {nv : Value} (h : StepCells w b o s nv) (hx : Ex rb w w') (hb : b ≠ rb) : StepCells w' b o s nv :=
  ⟨hx.cell h.c0 hb, hx.cell h.c1 hb, hx.cell h.c2 hb, hx.cell h.c3 hb, hx.cell h.c4 hb, hx.cell h.c5 hb, hx.cell h.c6 hb, hx.cell h.c7 hb⟩

theorem StepCells.zero {w : World} {b : Nat} {s : St} {nv : Value} (h : StepCells w b 0 s nv) :
    w.cell? ⟨b, 0, none⟩ = some (.int .i64 s.kind) ∧ w.cell? ⟨b, 1, none⟩ = some (.int .i64 s.dst) ∧ w.cell? ⟨b, 2, none⟩ = some (.int .i64 s.op) ∧ w.cell? ⟨b, 3, none⟩ = some (.int .i64 s.av) ∧ w.cell? ⟨b, 4, none⟩ = some (.int .i64 s.an) ∧ w.cell? ⟨b, 5, none⟩ = some (.int .i64 s.bv) ∧ w.cell? ⟨b, 6, none⟩ = some (.int .i64 s.bn) ∧ w.cell? ⟨b, 7, none⟩ = some nv :=
  ⟨h.c0, h.c1, h.c2, h.c3, h.c4, h.c5, h.c6, h.c7⟩

theorem Ex.frozen0 {rb : Nat} {w w' : World} (hx : Ex rb w w') {b : Nat} (hf : ∀ j, w.frozen? ⟨b, j, none⟩ = false) (hb : b < w.heap.size) (hr : b ≠ rb) : ∀ j, w'.frozen? ⟨b, j, none⟩ = false :=
  fun j => (hx.frozen (p := ⟨b, j, none⟩) hb hr).trans (hf j)

def step0 : St := ⟨0, 0, 0, 0, 0, 0, 0, []⟩

theorem IntsFrom.ex {rb lo : Nat} {w w' : World} {v : Value} {zs : List Int} (h : IntsFrom lo w v zs) (hx : Ex rb w w') (hr : rb < lo) : IntsFrom lo w' v zs := by
  obtain ⟨ao, b, o, cap, hv, ha, hlo, hc⟩ := h
  exact ⟨ao, b, o, cap, hv, ha, hlo, fun i hi => hx.cell (hc i hi) (by show b ≠ rb; omega)⟩

theorem IntsFrom.setOther {lo : Nat} {w : World} {zs : List Int} {b o cap : Nat} (h : ∀ i, i < zs.length → w.cell? ⟨b, o + i, none⟩ = some (.int .i64 (zs.getD i 0))) (hlo : lo ≤ b) : IntsFrom lo w (.slice (some ⟨b, o, none⟩) zs.length cap) zs :=
  ⟨_, b, o, cap, rfl, fun _ => rfl, hlo, h⟩

theorem one_int {lo : Nat} {w : World} {b : Nat} {x : Int} (h : w.cell? ⟨b, 0, none⟩ = some (.int .i64 x)) (hlo : lo ≤ b) : IntsFrom lo w (.slice (some ⟨b, 0, none⟩) 1 1) [x] := by
  refine ⟨_, b, 0, 1, rfl, fun _ => rfl, hlo, fun i hi => ?_⟩
  obtain rfl : i = 0 := by simpa using hi
  exact h

theorem frozen_alloc_lt {w : World} {o : Obj} {a : Addr} (h : a.block < w.heap.size) : (w.alloc o).frozen? a = w.frozen? a := World.frozen?_of_block (w := w) (Below.heap_alloc w o a.block h)

theorem Rd.alloc {w : World} {rb p : Nat} (h : Rd w rb p) (o : Obj) : Rd (w.alloc o) rb p := h.keep ((Below.refl _ _).alloc (Nat.le_refl _) _)

theorem infoIntD : (Tryd.prog.info? 3).map (fun i => (i.zero, i.size, i.bytes)) = some (some (.int .i64 0), 1, 8) := by kernel_rfl

theorem info_parts {t : TypeId} {z : Value} {n k : Nat} (h : (Tryd.prog.info? t).map (fun i => (i.zero, i.size, i.bytes)) = some (some z, n, k)) : ∃ i, Tryd.prog.info? t = some i ∧ i.zero = some z ∧ i.size = n ∧ i.bytes = k := by
  obtain ⟨i, hi, hz⟩ := Option.map_eq_some_iff.1 h
  simp only [Prod.mk.injEq] at hz
  exact ⟨i, hi, hz.1, hz.2.1, hz.2.2⟩

theorem one_old {w : World} {a : Addr} {x : Value} (h : w.cell? a = some x) : ∀ b, some a = some b → ∀ j u, [x][j]? = some u → w.cell? (b.add j) = some u := by
  intro b hb j u hu
  cases hb
  cases j with
  | zero => simp at hu; subst hu; exact h
  | succ j => simp at hu

theorem one_new {w : World} {a : Addr} {x : Value} (h : w.cell? a = some x) : ∀ j u, [x][j]? = some u → w.cell? (a.add j) = some u := one_old h a rfl

theorem own2 {w : World} {lo : Nat} {e : TypeId} {v : Value} {x y : Value} (h : w.ownsRow lo e 1 v (1 + 1) ([x] ++ [y])) :
    ∃ g cap, v = .slice (some ⟨g, 0, none⟩) 2 cap ∧ lo ≤ g ∧ w.cell? ⟨g, 0, none⟩ = some x ∧ w.cell? ⟨g, 1, none⟩ = some y := by
  rcases id h.2 with ⟨_, h0⟩ | ⟨g, cap, cur, hv, hg, _⟩
  · omega
  · subst hv
    exact ⟨g, cap, rfl, hg, h.cellAt 0 (by omega), h.cellAt 1 (by omega)⟩

theorem two_ints {lo : Nat} {w : World} {g cap : Nat} {x y : Int} (h0 : w.cell? ⟨g, 0, none⟩ = some (.int .i64 x)) (h1 : w.cell? ⟨g, 1, none⟩ = some (.int .i64 y)) (hlo : lo ≤ g) : IntsFrom lo w (.slice (some ⟨g, 0, none⟩) 2 cap) [x, y] := by
  refine ⟨_, g, 0, cap, rfl, fun _ => rfl, hlo, fun i hi => ?_⟩
  rcases (by simp at hi; omega : i = 0 ∨ i = 1) with rfl | rfl
  · exact h0
  · exact h1

theorem ex_grown {rb : Nat} {a w w' : World} {o : Obj} (h : Ex rb a w) (hb : Below (w.heap.size + 1) (w.alloc o) w') : Ex rb a w' := (h.alloc o).trans (Ex.of_below (by simpa using hb))

theorem rd_grown {rb p : Nat} {w w' : World} {o : Obj} (h : Rd w rb p) (hb : Below (w.heap.size + 1) (w.alloc o) w') : Rd w' rb p := (h.alloc o).keep (by simpa using hb)

theorem nil_ints {lo : Nat} {w : World} : IntsFrom lo w (.slice none 0 0) [] := ⟨none, lo, 0, 0, rfl, by simp, Nat.le_refl _, by simp⟩

set_option maxHeartbeats 4000000 in
set_option maxRecDepth 100000 in
theorem l71Step_any {Q : Ending → World → Prop} (rb p at0 n : Nat) (w : World) (h : Rd w rb p) (hp : p + 20 ≤ 1000000) (hn : 0 < n) (hn' : n ≤ 1000) (hat : at0 ≤ 1000)
    (hQ : ∀ (s : St) (nv : Value) (p' : Nat) w', stepB s n = true → IntsFrom w.heap.size w' nv s.next → Nice nv → Rd w' rb p' → p' ≤ p + 20 → Ex rb w w' → Q (.returned (stepV s nv)) w') :
    Calls Tryd.prog 89 #[.pointer (some ⟨rb, 0, none⟩), .int .i64 at0, .int .i64 n] w Q := by
  have HQ : Hid _ := hQ
  clear hQ
  have hlt := h.lt
  go_enter Tryd.func89, Tryd.ntmps89
  go_wp2_with fail
  refine l71Next_any rb p at0 n _ (h.keep ((Below.refl _ _).alloc (Nat.le_refl _) _)) (by omega) hn hn' hat fun v p1 w1 hv hr1 hp1 hx1 => ?_
  have e6 : StepCells w1 w.heap.size 0 step0 (.slice none 0 0) := StepCells.ex (w := w.alloc (.cells #[.int .i64 0, .int .i64 0, .int .i64 0, .int .i64 0, .int .i64 0, .int .i64 0, .int .i64 0, .slice none 0 0] 62)) ⟨by simp [go_sem, step0], by simp [go_sem, step0], by simp [go_sem, step0], by simp [go_sem, step0], by simp [go_sem, step0], by simp [go_sem, step0], by simp [go_sem, step0], by simp [go_sem]⟩ hx1 (by omega)
  have f6 : ∀ j, w1.frozen? ⟨w.heap.size, j, none⟩ = false := Ex.frozen0 hx1 (by simp [go_sem]) (by simp) (by omega)
  have hxA : Ex rb w w1 := ((Ex.refl _ _).alloc _).trans hx1
  have hs1 : w.heap.size < w1.heap.size := Nat.lt_of_lt_of_le (by simp) hx1.size
  clear hx1
  go_wp2_with fail
  have hbB : ∀ O1 O2, Below w1.heap.size w1 ((w1.alloc O1).alloc O2) := fun O1 O2 => ((Below.refl _ _).alloc (Nat.le_refl _) _).alloc (by simp) _
  refine pick_any rb p1 _ _ ((hr1.keep ((Below.refl _ _).alloc (Nat.le_refl _) _)).keep ((Below.refl _ _).alloc (Nat.le_refl _) _)) (by omega) (by omega) fun z w2 hz hr2 hx2 => ?_
  have e62 : StepCells w2 w.heap.size 0 step0 (.slice none 0 0) := StepCells.ex (e6.keep (hbB _ _)) hx2 (by omega)
  have f62 : ∀ j, w2.frozen? ⟨w.heap.size, j, none⟩ = false := Ex.frozen0 hx2 (fun j => ((hbB _ _).frozen (by simp; omega)).trans (f6 j)) (by simp; omega) (by omega)
  have e72 : StepCells w2 (w1.heap.size + 1) 0 ⟨1, 0, 0, 0, 0, 0, 0, [(v : Int)]⟩ (.slice (some ⟨w1.heap.size, 0, none⟩) 1 1) := StepCells.ex (w := (w1.alloc (.cells #[.int .i64 (v : Int)] 3)).alloc (.cells #[.int .i64 1, .int .i64 0, .int .i64 0, .int .i64 0, .int .i64 0, .int .i64 0, .int .i64 0, .slice (some ⟨w1.heap.size, 0, none⟩) 1 1] 62)) ⟨by simp [go_sem], by simp [go_sem], by simp [go_sem], by simp [go_sem], by simp [go_sem], by simp [go_sem], by simp [go_sem], by simp [go_sem]⟩ hx2 (by omega)
  have f72 : ∀ j, w2.frozen? ⟨w1.heap.size + 1, j, none⟩ = false := Ex.frozen0 hx2 (fun j => by simp [go_sem]) (by simp) (by omega)
  have cR2 : w2.cell? ⟨w1.heap.size, 0, none⟩ = some (.int .i64 v) := hx2.cell (by simp [go_sem]) (by simp; omega)
  have hxB : Ex rb w w2 := ((hxA.alloc _).alloc _).trans hx2
  have hs2 : w1.heap.size + 1 < w2.heap.size := Nat.lt_of_lt_of_le (by simp) hx2.size
  have HX : Hid _ := hxB
  have H6 : Hid _ := e62
  have H7 : Hid _ := e72
  have HR : Hid _ := cR2
  have F6 : Hid _ := f62
  have F7 : Hid _ := f72
  clear hbB hxA hxB hx2 e6 f6 e62 e72 f62 f72 cR2 hr1 h
  have ne1 : ¬ w.heap.size = w1.heap.size + 1 := by omega
  have ne2 : ¬ w1.heap.size + 1 = w.heap.size := by omega
  have ne3 : ¬ w1.heap.size = w1.heap.size + 1 := by omega
  have ne4 : ¬ w1.heap.size = w.heap.size := by omega
  have ne5 : ¬ w.heap.size = w1.heap.size := by omega
  have ne6 : ¬ w1.heap.size + 1 = w1.heap.size := by omega
  have hvn : (v : Int) ≤ (n : Int) - 1 := by omega
  by_cases h6 : z = 6
  · subst h6
    have g6 := F6.out
    have g7 := F7.out
    have gR := HR.out
    have HX3 := HX
    have hs3 := hs2
    obtain ⟨a0, a1, a2, a3, a4, a5, a6, a7⟩ := H6.out.zero
    obtain ⟨b0, b1, b2, b3, b4, b5, b6, b7⟩ := H7.out.zero
    simp only [step0] at a0 a1 a2 a3 a4 a5 a6
    go_wp2_with fail
    refine pick_any rb (p1 + 1) _ _ (hr2.setCell (by first | (show rb < w1.heap.size + 1; omega) | (show rb < w.heap.size; omega)) _) (by omega) (by omega) fun z3 w3 hz3 hr3 hx3 => ?_
    have hd : (z3 : Int) < 3 := hz3 (by omega)
    have k6n : StepCells w3 w.heap.size 0 step0 (.slice none 0 0) := StepCells.ex ⟨by simp [go_sem, step0, a0], by simp [go_sem, step0, a1], by simp [go_sem, step0, a2], by simp [go_sem, step0, a3], by simp [go_sem, step0, a4], by simp [go_sem, step0, a5], by simp [go_sem, step0, a6], by simp [go_sem, a7]⟩ hx3 (by omega)
    have k7n : StepCells w3 (w1.heap.size + 1) 0 ⟨3, 0, 0, 0, 0, 0, 0, [(v : Int)]⟩ (.slice (some ⟨w1.heap.size, 0, none⟩) 1 1) := StepCells.ex ⟨by simp [go_sem, b0], by simp [go_sem, b1], by simp [go_sem, b2], by simp [go_sem, b3], by simp [go_sem, b4], by simp [go_sem, b5], by simp [go_sem, b6], by simp [go_sem, b7]⟩ hx3 (by omega)
    have g6n : ∀ j, w3.frozen? ⟨w.heap.size, j, none⟩ = false := Ex.frozen0 hx3 (fun j => by simp [go_sem, g6]) (by first | omega | (simp [World.setCell]; omega)) (by omega)
    have g7n : ∀ j, w3.frozen? ⟨w1.heap.size + 1, j, none⟩ = false := Ex.frozen0 hx3 (fun j => by simp [go_sem, g7]) (by first | omega | (simp [World.setCell]; omega)) (by omega)
    have gRn : w3.cell? ⟨w1.heap.size, 0, none⟩ = some (.int .i64 v) := Ex.cell hx3 (by simp [go_sem, gR]) (by show w1.heap.size ≠ rb; omega)
    have hs3n : w1.heap.size + 1 < w3.heap.size := Nat.lt_of_lt_of_le (by first | omega | (simp [World.setCell]; omega)) hx3.size
    have HX3n : Hid (Ex rb w w3) := (HX3.out.setCell (Or.inr (by first | (show w.heap.size ≤ w1.heap.size + 1; omega) | (show w.heap.size ≤ w.heap.size; omega))) _).trans hx3
    clear hx3 a0 a1 a2 a3 a4 a5 a6 a7 b0 b1 b2 b3 b4 b5 b6 b7 g6 g7 gR HX3 hs3
    have g6 := g6n
    have g7 := g7n
    have gR := gRn
    have HX3 := HX3n
    have hs3 := hs3n
    clear g6n g7n gRn HX3n hs3n
    obtain ⟨a0, a1, a2, a3, a4, a5, a6, a7⟩ := k6n.zero
    obtain ⟨b0, b1, b2, b3, b4, b5, b6, b7⟩ := k7n.zero
    simp only [step0] at a0 a1 a2 a3 a4 a5 a6
    clear k6n k7n
    go_wp2
    refine bodyPost_ret (v := stepV ⟨3, (z3 : Int), 0, 0, 0, 0, 0, [(v : Int)]⟩ (.slice (some ⟨w1.heap.size, 0, none⟩) 1 1)) (by simp [results, Tryd.results89, go_sem, stepV, a0, a1, a2, a3, a4, a5, a6, a7]) rfl ?_
    refine HQ.out ⟨3, (z3 : Int), 0, 0, 0, 0, 0, [(v : Int)]⟩ (.slice (some ⟨w1.heap.size, 0, none⟩) 1 1) (p1 + 1 + 1) _ (by simp [stepB, many, restB, noneB, inB, hvn]; omega) (one_int (by simp [go_sem, gR]) (by omega)) (by first | exact nice_some _ _ _ | exact nice_none) ?_ (by omega) ?_
    · iterate 9 refine Rd.setCell ?_ (by first | (show rb < w1.heap.size + 1; omega) | (show rb < w.heap.size; omega)) _
      exact hr3
    · iterate 9 refine Ex.setCell ?_ (Or.inr (by first | (show w.heap.size ≤ w1.heap.size + 1; omega) | (show w.heap.size ≤ w.heap.size; omega))) _
      exact HX3.out
  by_cases h5 : z = 5
  · subst h5
    have g6 := F6.out
    have g7 := F7.out
    have gR := HR.out
    have HX3 := HX
    have hs3 := hs2
    obtain ⟨a0, a1, a2, a3, a4, a5, a6, a7⟩ := H6.out.zero
    obtain ⟨b0, b1, b2, b3, b4, b5, b6, b7⟩ := H7.out.zero
    simp only [step0] at a0 a1 a2 a3 a4 a5 a6
    go_wp2_with fail
    refine pick_any rb (p1 + 1) _ _ (hr2.setCell (by first | (show rb < w1.heap.size + 1; omega) | (show rb < w.heap.size; omega)) _) (by omega) (by omega) fun z3 w3 hz3 hr3 hx3 => ?_
    have hd : (z3 : Int) < 5 := hz3 (by omega)
    have k6n : StepCells w3 w.heap.size 0 step0 (.slice none 0 0) := StepCells.ex ⟨by simp [go_sem, step0, a0], by simp [go_sem, step0, a1], by simp [go_sem, step0, a2], by simp [go_sem, step0, a3], by simp [go_sem, step0, a4], by simp [go_sem, step0, a5], by simp [go_sem, step0, a6], by simp [go_sem, a7]⟩ hx3 (by omega)
    have k7n : StepCells w3 (w1.heap.size + 1) 0 ⟨2, 0, 0, 0, 0, 0, 0, [(v : Int)]⟩ (.slice (some ⟨w1.heap.size, 0, none⟩) 1 1) := StepCells.ex ⟨by simp [go_sem, b0], by simp [go_sem, b1], by simp [go_sem, b2], by simp [go_sem, b3], by simp [go_sem, b4], by simp [go_sem, b5], by simp [go_sem, b6], by simp [go_sem, b7]⟩ hx3 (by omega)
    have g6n : ∀ j, w3.frozen? ⟨w.heap.size, j, none⟩ = false := Ex.frozen0 hx3 (fun j => by simp [go_sem, g6]) (by first | omega | (simp [World.setCell]; omega)) (by omega)
    have g7n : ∀ j, w3.frozen? ⟨w1.heap.size + 1, j, none⟩ = false := Ex.frozen0 hx3 (fun j => by simp [go_sem, g7]) (by first | omega | (simp [World.setCell]; omega)) (by omega)
    have gRn : w3.cell? ⟨w1.heap.size, 0, none⟩ = some (.int .i64 v) := Ex.cell hx3 (by simp [go_sem, gR]) (by show w1.heap.size ≠ rb; omega)
    have hs3n : w1.heap.size + 1 < w3.heap.size := Nat.lt_of_lt_of_le (by first | omega | (simp [World.setCell]; omega)) hx3.size
    have HX3n : Hid (Ex rb w w3) := (HX3.out.setCell (Or.inr (by first | (show w.heap.size ≤ w1.heap.size + 1; omega) | (show w.heap.size ≤ w.heap.size; omega))) _).trans hx3
    clear hx3 a0 a1 a2 a3 a4 a5 a6 a7 b0 b1 b2 b3 b4 b5 b6 b7 g6 g7 gR HX3 hs3
    have g6 := g6n
    have g7 := g7n
    have gR := gRn
    have HX3 := HX3n
    have hs3 := hs3n
    clear g6n g7n gRn HX3n hs3n
    obtain ⟨a0, a1, a2, a3, a4, a5, a6, a7⟩ := k6n.zero
    obtain ⟨b0, b1, b2, b3, b4, b5, b6, b7⟩ := k7n.zero
    simp only [step0] at a0 a1 a2 a3 a4 a5 a6
    clear k6n k7n
    go_wp2_with fail
    refine l71Opnd_any rb (p1 + 1 + 1) _ (hr3.setCell (by first | (show rb < w1.heap.size + 1; omega) | (show rb < w.heap.size; omega)) _) (by omega) fun av an p4 w4 ho hr4 hp4 hx4 => ?_
    have ho' := opndB_of ho
    have k6n : StepCells w4 w.heap.size 0 step0 (.slice none 0 0) := StepCells.ex ⟨by simp [go_sem, step0, a0], by simp [go_sem, step0, a1], by simp [go_sem, step0, a2], by simp [go_sem, step0, a3], by simp [go_sem, step0, a4], by simp [go_sem, step0, a5], by simp [go_sem, step0, a6], by simp [go_sem, a7]⟩ hx4 (by omega)
    have k7n : StepCells w4 (w1.heap.size + 1) 0 ⟨2, (z3 : Int), 0, 0, 0, 0, 0, [(v : Int)]⟩ (.slice (some ⟨w1.heap.size, 0, none⟩) 1 1) := StepCells.ex ⟨by simp [go_sem, b0], by simp [go_sem, b1], by simp [go_sem, b2], by simp [go_sem, b3], by simp [go_sem, b4], by simp [go_sem, b5], by simp [go_sem, b6], by simp [go_sem, b7]⟩ hx4 (by omega)
    have g6n : ∀ j, w4.frozen? ⟨w.heap.size, j, none⟩ = false := Ex.frozen0 hx4 (fun j => by simp [go_sem, g6]) (by first | omega | (simp [World.setCell]; omega)) (by omega)
    have g7n : ∀ j, w4.frozen? ⟨w1.heap.size + 1, j, none⟩ = false := Ex.frozen0 hx4 (fun j => by simp [go_sem, g7]) (by first | omega | (simp [World.setCell]; omega)) (by omega)
    have gRn : w4.cell? ⟨w1.heap.size, 0, none⟩ = some (.int .i64 v) := Ex.cell hx4 (by simp [go_sem, gR]) (by show w1.heap.size ≠ rb; omega)
    have hs3n : w1.heap.size + 1 < w4.heap.size := Nat.lt_of_lt_of_le (by first | omega | (simp [World.setCell]; omega)) hx4.size
    have HX3n : Hid (Ex rb w w4) := (HX3.out.setCell (Or.inr (by first | (show w.heap.size ≤ w1.heap.size + 1; omega) | (show w.heap.size ≤ w.heap.size; omega))) _).trans hx4
    clear hx4 a0 a1 a2 a3 a4 a5 a6 a7 b0 b1 b2 b3 b4 b5 b6 b7 g6 g7 gR HX3 hs3
    have g6 := g6n
    have g7 := g7n
    have gR := gRn
    have HX3 := HX3n
    have hs3 := hs3n
    clear g6n g7n gRn HX3n hs3n
    obtain ⟨a0, a1, a2, a3, a4, a5, a6, a7⟩ := k6n.zero
    obtain ⟨b0, b1, b2, b3, b4, b5, b6, b7⟩ := k7n.zero
    simp only [step0] at a0 a1 a2 a3 a4 a5 a6
    clear k6n k7n
    go_wp2
    refine bodyPost_ret (v := stepV ⟨2, (z3 : Int), 0, av, an, 0, 0, [(v : Int)]⟩ (.slice (some ⟨w1.heap.size, 0, none⟩) 1 1)) (by simp [results, Tryd.results89, go_sem, stepV, a0, a1, a2, a3, a4, a5, a6, a7]) rfl ?_
    refine HQ.out ⟨2, (z3 : Int), 0, av, an, 0, 0, [(v : Int)]⟩ (.slice (some ⟨w1.heap.size, 0, none⟩) 1 1) (p4) _ (by simp [stepB, many, restB, noneB, inB, hvn, ho']; omega) (one_int (by simp [go_sem, gR]) (by omega)) (by first | exact nice_some _ _ _ | exact nice_none) ?_ (by omega) ?_
    · iterate 10 refine Rd.setCell ?_ (by first | (show rb < w1.heap.size + 1; omega) | (show rb < w.heap.size; omega)) _
      exact hr4
    · iterate 10 refine Ex.setCell ?_ (Or.inr (by first | (show w.heap.size ≤ w1.heap.size + 1; omega) | (show w.heap.size ≤ w.heap.size; omega))) _
      exact HX3.out
  by_cases h7 : z = 7
  · subst h7
    have g6 := F6.out
    have g7 := F7.out
    have gR := HR.out
    have HX3 := HX
    have hs3 := hs2
    obtain ⟨a0, a1, a2, a3, a4, a5, a6, a7⟩ := H6.out.zero
    obtain ⟨b0, b1, b2, b3, b4, b5, b6, b7⟩ := H7.out.zero
    simp only [step0] at a0 a1 a2 a3 a4 a5 a6
    go_wp2_with fail
    refine pick_any rb (p1 + 1) _ _ (hr2.setCell (by first | (show rb < w1.heap.size + 1; omega) | (show rb < w.heap.size; omega)) _) (by omega) (by omega) fun z3 w3 hz3 hr3 hx3 => ?_
    have hd : (z3 : Int) < 5 := hz3 (by omega)
    have ho' : opndB (z3 : Int) 0 = true := opndB_of (Or.inr ⟨by omega, by omega, rfl⟩)
    have k6n : StepCells w3 w.heap.size 0 step0 (.slice none 0 0) := StepCells.ex ⟨by simp [go_sem, step0, a0], by simp [go_sem, step0, a1], by simp [go_sem, step0, a2], by simp [go_sem, step0, a3], by simp [go_sem, step0, a4], by simp [go_sem, step0, a5], by simp [go_sem, step0, a6], by simp [go_sem, a7]⟩ hx3 (by omega)
    have k7n : StepCells w3 (w1.heap.size + 1) 0 ⟨4, 0, 0, 0, 0, 0, 0, [(v : Int)]⟩ (.slice (some ⟨w1.heap.size, 0, none⟩) 1 1) := StepCells.ex ⟨by simp [go_sem, b0], by simp [go_sem, b1], by simp [go_sem, b2], by simp [go_sem, b3], by simp [go_sem, b4], by simp [go_sem, b5], by simp [go_sem, b6], by simp [go_sem, b7]⟩ hx3 (by omega)
    have g6n : ∀ j, w3.frozen? ⟨w.heap.size, j, none⟩ = false := Ex.frozen0 hx3 (fun j => by simp [go_sem, g6]) (by first | omega | (simp [World.setCell]; omega)) (by omega)
    have g7n : ∀ j, w3.frozen? ⟨w1.heap.size + 1, j, none⟩ = false := Ex.frozen0 hx3 (fun j => by simp [go_sem, g7]) (by first | omega | (simp [World.setCell]; omega)) (by omega)
    have gRn : w3.cell? ⟨w1.heap.size, 0, none⟩ = some (.int .i64 v) := Ex.cell hx3 (by simp [go_sem, gR]) (by show w1.heap.size ≠ rb; omega)
    have hs3n : w1.heap.size + 1 < w3.heap.size := Nat.lt_of_lt_of_le (by first | omega | (simp [World.setCell]; omega)) hx3.size
    have HX3n : Hid (Ex rb w w3) := (HX3.out.setCell (Or.inr (by first | (show w.heap.size ≤ w1.heap.size + 1; omega) | (show w.heap.size ≤ w.heap.size; omega))) _).trans hx3
    clear hx3 a0 a1 a2 a3 a4 a5 a6 a7 b0 b1 b2 b3 b4 b5 b6 b7 g6 g7 gR HX3 hs3
    have g6 := g6n
    have g7 := g7n
    have gR := gRn
    have HX3 := HX3n
    have hs3 := hs3n
    clear g6n g7n gRn HX3n hs3n
    obtain ⟨a0, a1, a2, a3, a4, a5, a6, a7⟩ := k6n.zero
    obtain ⟨b0, b1, b2, b3, b4, b5, b6, b7⟩ := k7n.zero
    simp only [step0] at a0 a1 a2 a3 a4 a5 a6
    clear k6n k7n
    go_wp2
    refine bodyPost_ret (v := stepV ⟨4, 0, 0, (z3 : Int), 0, 0, 0, [(v : Int)]⟩ (.slice (some ⟨w1.heap.size, 0, none⟩) 1 1)) (by simp [results, Tryd.results89, go_sem, stepV, a0, a1, a2, a3, a4, a5, a6, a7]) rfl ?_
    refine HQ.out ⟨4, 0, 0, (z3 : Int), 0, 0, 0, [(v : Int)]⟩ (.slice (some ⟨w1.heap.size, 0, none⟩) 1 1) (p1 + 1 + 1) _ (by simp [stepB, many, restB, noneB, inB, hvn, ho']) (one_int (by simp [go_sem, gR]) (by omega)) (by first | exact nice_some _ _ _ | exact nice_none) ?_ (by omega) ?_
    · iterate 10 refine Rd.setCell ?_ (by first | (show rb < w1.heap.size + 1; omega) | (show rb < w.heap.size; omega)) _
      exact hr3
    · iterate 10 refine Ex.setCell ?_ (Or.inr (by first | (show w.heap.size ≤ w1.heap.size + 1; omega) | (show w.heap.size ≤ w.heap.size; omega))) _
      exact HX3.out
  by_cases h11 : z = 11
  · subst h11
    have g6 := F6.out
    have g7 := F7.out
    have gR := HR.out
    have HX3 := HX
    have hs3 := hs2
    obtain ⟨a0, a1, a2, a3, a4, a5, a6, a7⟩ := H6.out.zero
    obtain ⟨b0, b1, b2, b3, b4, b5, b6, b7⟩ := H7.out.zero
    simp only [step0] at a0 a1 a2 a3 a4 a5 a6
    go_wp2_with fail
    refine pick_any rb (p1 + 1) _ _ (hr2.setCell (by first | (show rb < w1.heap.size + 1; omega) | (show rb < w.heap.size; omega)) _) (by omega) (by omega) fun z3 w3 hz3 hr3 hx3 => ?_
    have k6n : StepCells w3 w.heap.size 0 step0 (.slice none 0 0) := StepCells.ex ⟨by simp [go_sem, step0, a0], by simp [go_sem, step0, a1], by simp [go_sem, step0, a2], by simp [go_sem, step0, a3], by simp [go_sem, step0, a4], by simp [go_sem, step0, a5], by simp [go_sem, step0, a6], by simp [go_sem, a7]⟩ hx3 (by omega)
    have k7n : StepCells w3 (w1.heap.size + 1) 0 ⟨6, 0, 0, 0, 0, 0, 0, [(v : Int)]⟩ (.slice (some ⟨w1.heap.size, 0, none⟩) 1 1) := StepCells.ex ⟨by simp [go_sem, b0], by simp [go_sem, b1], by simp [go_sem, b2], by simp [go_sem, b3], by simp [go_sem, b4], by simp [go_sem, b5], by simp [go_sem, b6], by simp [go_sem, b7]⟩ hx3 (by omega)
    have g6n : ∀ j, w3.frozen? ⟨w.heap.size, j, none⟩ = false := Ex.frozen0 hx3 (fun j => by simp [go_sem, g6]) (by first | omega | (simp [World.setCell]; omega)) (by omega)
    have g7n : ∀ j, w3.frozen? ⟨w1.heap.size + 1, j, none⟩ = false := Ex.frozen0 hx3 (fun j => by simp [go_sem, g7]) (by first | omega | (simp [World.setCell]; omega)) (by omega)
    have gRn : w3.cell? ⟨w1.heap.size, 0, none⟩ = some (.int .i64 v) := Ex.cell hx3 (by simp [go_sem, gR]) (by show w1.heap.size ≠ rb; omega)
    have hs3n : w1.heap.size + 1 < w3.heap.size := Nat.lt_of_lt_of_le (by first | omega | (simp [World.setCell]; omega)) hx3.size
    have HX3n : Hid (Ex rb w w3) := (HX3.out.setCell (Or.inr (by first | (show w.heap.size ≤ w1.heap.size + 1; omega) | (show w.heap.size ≤ w.heap.size; omega))) _).trans hx3
    clear hx3 a0 a1 a2 a3 a4 a5 a6 a7 b0 b1 b2 b3 b4 b5 b6 b7 g6 g7 gR HX3 hs3
    have g6 := g6n
    have g7 := g7n
    have gR := gRn
    have HX3 := HX3n
    have hs3 := hs3n
    clear g6n g7n gRn HX3n hs3n
    obtain ⟨a0, a1, a2, a3, a4, a5, a6, a7⟩ := k6n.zero
    obtain ⟨b0, b1, b2, b3, b4, b5, b6, b7⟩ := k7n.zero
    simp only [step0] at a0 a1 a2 a3 a4 a5 a6
    clear k6n k7n
    by_cases hz0 : z3 = 0
    · subst hz0
      go_wp2
      refine bodyPost_ret (v := stepV ⟨7, 0, 0, 0, 0, 0, 0, []⟩ (.slice none 0 0)) (by simp [results, Tryd.results89, go_sem, stepV, a0, a1, a2, a3, a4, a5, a6, a7]) rfl ?_
      refine HQ.out ⟨7, 0, 0, 0, 0, 0, 0, []⟩ (.slice none 0 0) (p1 + 1 + 1) _ (by simp [stepB, many, restB, noneB, inB]) (nil_ints) (by first | exact nice_some _ _ _ | exact nice_none) ?_ (by omega) ?_
      · iterate 10 refine Rd.setCell ?_ (by first | (show rb < w1.heap.size + 1; omega) | (show rb < w.heap.size; omega)) _
        exact hr3
      · iterate 10 refine Ex.setCell ?_ (Or.inr (by first | (show w.heap.size ≤ w1.heap.size + 1; omega) | (show w.heap.size ≤ w.heap.size; omega))) _
        exact HX3.out
    · have hz0' : ((z3 : Int) == 0) = false := by simp; omega
      go_wp2
      refine bodyPost_ret (v := stepV ⟨6, 0, 0, 0, 0, 0, 0, [(v : Int)]⟩ (.slice (some ⟨w1.heap.size, 0, none⟩) 1 1)) (by simp [results, Tryd.results89, go_sem, stepV, a0, a1, a2, a3, a4, a5, a6, a7]) rfl ?_
      refine HQ.out ⟨6, 0, 0, 0, 0, 0, 0, [(v : Int)]⟩ (.slice (some ⟨w1.heap.size, 0, none⟩) 1 1) (p1 + 1 + 1) _ (by simp [stepB, many, restB, noneB, inB, hvn]) (one_int (by simp [go_sem, gR]) (by omega)) (by first | exact nice_some _ _ _ | exact nice_none) ?_ (by omega) ?_
      · iterate 8 refine Rd.setCell ?_ (by first | (show rb < w1.heap.size + 1; omega) | (show rb < w.heap.size; omega)) _
        exact hr3
      · iterate 8 refine Ex.setCell ?_ (Or.inr (by first | (show w.heap.size ≤ w1.heap.size + 1; omega) | (show w.heap.size ≤ w.heap.size; omega))) _
        exact HX3.out
  by_cases h04 : z ≤ 4
  · have hz5 : z = 0 ∨ z = 1 ∨ z = 2 ∨ z = 3 ∨ z = 4 := by omega
    clear h04
    rcases hz5 with rfl | rfl | rfl | rfl | rfl
    all_goals
      have g6 := F6.out
      have g7 := F7.out
      have gR := HR.out
      have HX3 := HX
      have hs3 := hs2
      obtain ⟨a0, a1, a2, a3, a4, a5, a6, a7⟩ := H6.out.zero
      obtain ⟨b0, b1, b2, b3, b4, b5, b6, b7⟩ := H7.out.zero
      simp only [step0] at a0 a1 a2 a3 a4 a5 a6
      go_wp2_with fail
      refine l71Expr_any rb (p1 + 1) _ hr2 (by omega) fun op av an bv bn p3 w3 ho hr3 hp3 hx3 => ?_
      obtain ⟨ho1, ho2, hoa, hob⟩ := ho
      have hoa' := opndB_of hoa
      have hob' := opndB_of hob
      have k6n : StepCells w3 w.heap.size 0 step0 (.slice none 0 0) := StepCells.ex ⟨a0, a1, a2, a3, a4, a5, a6, a7⟩ hx3 (by omega)
      have k7n : StepCells w3 (w1.heap.size + 1) 0 ⟨1, 0, 0, 0, 0, 0, 0, [(v : Int)]⟩ (.slice (some ⟨w1.heap.size, 0, none⟩) 1 1) := StepCells.ex ⟨b0, b1, b2, b3, b4, b5, b6, b7⟩ hx3 (by omega)
      have g6n : ∀ j, w3.frozen? ⟨w.heap.size, j, none⟩ = false := Ex.frozen0 hx3 (fun j => by simp [go_sem, g6]) (by first | omega | (simp [World.setCell]; omega)) (by omega)
      have g7n : ∀ j, w3.frozen? ⟨w1.heap.size + 1, j, none⟩ = false := Ex.frozen0 hx3 (fun j => by simp [go_sem, g7]) (by first | omega | (simp [World.setCell]; omega)) (by omega)
      have gRn : w3.cell? ⟨w1.heap.size, 0, none⟩ = some (.int .i64 v) := Ex.cell hx3 (gR) (by show w1.heap.size ≠ rb; omega)
      have hs3n : w1.heap.size + 1 < w3.heap.size := Nat.lt_of_lt_of_le (by first | omega | (simp [World.setCell]; omega)) hx3.size
      have HX3n : Hid (Ex rb w w3) := HX3.out.trans hx3
      clear hx3 a0 a1 a2 a3 a4 a5 a6 a7 b0 b1 b2 b3 b4 b5 b6 b7 g6 g7 gR HX3 hs3
      have g6 := g6n
      have g7 := g7n
      have gR := gRn
      have HX3 := HX3n
      have hs3 := hs3n
      clear g6n g7n gRn HX3n hs3n
      obtain ⟨a0, a1, a2, a3, a4, a5, a6, a7⟩ := k6n.zero
      obtain ⟨b0, b1, b2, b3, b4, b5, b6, b7⟩ := k7n.zero
      simp only [step0] at a0 a1 a2 a3 a4 a5 a6
      clear k6n k7n
      have na : ¬ w.heap.size = w3.heap.size := by omega
      have nb : ¬ w1.heap.size + 1 = w3.heap.size := by omega
      have nc : ¬ w1.heap.size = w3.heap.size := by omega
      have nd : ¬ w.heap.size = w3.heap.size + 1 := by omega
      have ne : ¬ w1.heap.size = w3.heap.size + 1 := by omega
      have nf : ¬ w1.heap.size + 1 = w3.heap.size + 1 := by omega
      have nb' : ¬ w3.heap.size = w1.heap.size + 1 := by omega
      have la : w.heap.size < w3.heap.size := by omega
      have lb : w1.heap.size + 1 < w3.heap.size := by omega
      have lc : w1.heap.size < w3.heap.size := by omega
      have la1 : w.heap.size < w3.heap.size + 1 := by omega
      have lb1 : w1.heap.size + 1 < w3.heap.size + 1 := by omega
      have lc1 : w1.heap.size < w3.heap.size + 1 := by omega
      go_wp2_with fail
      refine pick_any rb (p3) _ _ (((((((hr3.setCell (by first | (show rb < w1.heap.size + 1; omega) | (show rb < w.heap.size; omega)) _).setCell (by first | (show rb < w1.heap.size + 1; omega) | (show rb < w.heap.size; omega)) _).setCell (by first | (show rb < w1.heap.size + 1; omega) | (show rb < w.heap.size; omega)) _).setCell (by first | (show rb < w1.heap.size + 1; omega) | (show rb < w.heap.size; omega)) _).setCell (by first | (show rb < w1.heap.size + 1; omega) | (show rb < w.heap.size; omega)) _).alloc _).alloc _) (by omega) (by omega) fun z4 w4 hz4 hr4 hx4 => ?_
      have hd : (z4 : Int) < 7 := hz4 (by omega)
      have hc : ∃ m : Int, 0 ≤ m ∧ m ≤ 11 ∧ w4.cell? ⟨w3.heap.size + 1, z4, none⟩ = some (.int .i64 m) := by
        have hnr : w3.heap.size + 1 ≠ rb := by omega
        rcases (by omega : z4 = 0 ∨ z4 = 1 ∨ z4 = 2 ∨ z4 = 3 ∨ z4 = 4 ∨ z4 = 5 ∨ z4 = 6) with rfl | rfl | rfl | rfl | rfl | rfl | rfl
        · exact ⟨0, by omega, by omega, hx4.cell (by simp [go_sem]) hnr⟩
        · exact ⟨1, by omega, by omega, hx4.cell (by simp [go_sem]) hnr⟩
        · exact ⟨2, by omega, by omega, hx4.cell (by simp [go_sem]) hnr⟩
        · exact ⟨3, by omega, by omega, hx4.cell (by simp [go_sem]) hnr⟩
        · exact ⟨4, by omega, by omega, hx4.cell (by simp [go_sem]) hnr⟩
        · exact ⟨3, by omega, by omega, hx4.cell (by simp [go_sem]) hnr⟩
        · exact ⟨4, by omega, by omega, hx4.cell (by simp [go_sem]) hnr⟩
      obtain ⟨m, hm0, hm1, hm⟩ := hc
      have k6n : StepCells w4 w.heap.size 0 step0 (.slice none 0 0) := StepCells.ex ⟨by simp [go_sem, step0, a0, World.cell?_alloc_lt, la, la1], by simp [go_sem, step0, a1, World.cell?_alloc_lt, la, la1], by simp [go_sem, step0, a2, World.cell?_alloc_lt, la, la1], by simp [go_sem, step0, a3, World.cell?_alloc_lt, la, la1], by simp [go_sem, step0, a4, World.cell?_alloc_lt, la, la1], by simp [go_sem, step0, a5, World.cell?_alloc_lt, la, la1], by simp [go_sem, step0, a6, World.cell?_alloc_lt, la, la1], by simp [go_sem, a7, World.cell?_alloc_lt, la, la1]⟩ hx4 (by omega)
      have k7n : StepCells w4 (w1.heap.size + 1) 0 ⟨1, 0, op, av, an, bv, bn, [(v : Int)]⟩ (.slice (some ⟨w1.heap.size, 0, none⟩) 1 1) := StepCells.ex ⟨by simp [go_sem, b0, World.cell?_alloc_lt, lb, lb1], by simp [go_sem, b1, World.cell?_alloc_lt, lb, lb1], by simp [go_sem, b2, World.cell?_alloc_lt, lb, lb1], by simp [go_sem, b3, World.cell?_alloc_lt, lb, lb1], by simp [go_sem, b4, World.cell?_alloc_lt, lb, lb1], by simp [go_sem, b5, World.cell?_alloc_lt, lb, lb1], by simp [go_sem, b6, World.cell?_alloc_lt, lb, lb1], by simp [go_sem, b7, World.cell?_alloc_lt, lb, lb1]⟩ hx4 (by omega)
      have g6n : ∀ j, w4.frozen? ⟨w.heap.size, j, none⟩ = false := Ex.frozen0 hx4 (fun j => by simp [go_sem, g6, frozen_alloc_lt, la, la1]) (by first | omega | (simp [World.setCell]; omega)) (by omega)
      have g7n : ∀ j, w4.frozen? ⟨w1.heap.size + 1, j, none⟩ = false := Ex.frozen0 hx4 (fun j => by simp [go_sem, g7, frozen_alloc_lt, lb, lb1]) (by first | omega | (simp [World.setCell]; omega)) (by omega)
      have gRn : w4.cell? ⟨w1.heap.size, 0, none⟩ = some (.int .i64 v) := Ex.cell hx4 (by simp [go_sem, gR, World.cell?_alloc_lt, lc, lc1]) (by show w1.heap.size ≠ rb; omega)
      have hs3n : w1.heap.size + 1 < w4.heap.size := Nat.lt_of_lt_of_le (by first | omega | (simp [World.setCell]; omega)) hx4.size
      have HX3n : Hid (Ex rb w w4) := (((((((HX3.out.setCell (Or.inr (by first | (show w.heap.size ≤ w1.heap.size + 1; omega) | (show w.heap.size ≤ w.heap.size; omega))) _).setCell (Or.inr (by first | (show w.heap.size ≤ w1.heap.size + 1; omega) | (show w.heap.size ≤ w.heap.size; omega))) _).setCell (Or.inr (by first | (show w.heap.size ≤ w1.heap.size + 1; omega) | (show w.heap.size ≤ w.heap.size; omega))) _).setCell (Or.inr (by first | (show w.heap.size ≤ w1.heap.size + 1; omega) | (show w.heap.size ≤ w.heap.size; omega))) _).setCell (Or.inr (by first | (show w.heap.size ≤ w1.heap.size + 1; omega) | (show w.heap.size ≤ w.heap.size; omega))) _).alloc _).alloc _).trans hx4
      clear hx4 a0 a1 a2 a3 a4 a5 a6 a7 b0 b1 b2 b3 b4 b5 b6 b7 g6 g7 gR HX3 hs3
      have g6 := g6n
      have g7 := g7n
      have gR := gRn
      have HX3 := HX3n
      have hs3 := hs3n
      clear g6n g7n gRn HX3n hs3n
      obtain ⟨a0, a1, a2, a3, a4, a5, a6, a7⟩ := k6n.zero
      obtain ⟨b0, b1, b2, b3, b4, b5, b6, b7⟩ := k7n.zero
      simp only [step0] at a0 a1 a2 a3 a4 a5 a6
      clear k6n k7n
      go_wp2
      refine bodyPost_ret (v := stepV ⟨1, m, op, av, an, bv, bn, [(v : Int)]⟩ (.slice (some ⟨w1.heap.size, 0, none⟩) 1 1)) (by simp [results, Tryd.results89, go_sem, stepV, a0, a1, a2, a3, a4, a5, a6, a7]) rfl ?_
      refine HQ.out ⟨1, m, op, av, an, bv, bn, [(v : Int)]⟩ (.slice (some ⟨w1.heap.size, 0, none⟩) 1 1) (p3 + 1) _ (by simp [stepB, many, restB, inB, hvn, hoa', hob', ho1, ho2, hm0, hm1]) (one_int (by simp [go_sem, gR]) (by omega)) (by first | exact nice_some _ _ _ | exact nice_none) ?_ (by omega) ?_
      · iterate 9 refine Rd.setCell ?_ (by first | (show rb < w1.heap.size + 1; omega) | (show rb < w.heap.size; omega)) _
        exact hr4
      · iterate 9 refine Ex.setCell ?_ (Or.inr (by first | (show w.heap.size ≤ w1.heap.size + 1; omega) | (show w.heap.size ≤ w.heap.size; omega))) _
        exact HX3.out
  have h8 : z = 8 ∨ z = 9 ∨ z = 10 := by have := hz (by omega); omega
  obtain ⟨i0, hi, hi0, hi1, hi2⟩ := info_parts infoIntD
  rcases h8 with rfl | rfl | rfl
  all_goals
    have g6 := F6.out
    have g7 := F7.out
    have gR := HR.out
    have HX3 := HX
    have hs3 := hs2
    obtain ⟨a0, a1, a2, a3, a4, a5, a6, a7⟩ := H6.out.zero
    obtain ⟨b0, b1, b2, b3, b4, b5, b6, b7⟩ := H7.out.zero
    simp only [step0] at a0 a1 a2 a3 a4 a5 a6
    go_wp2_with fail
    refine pick_any rb (p1 + 1) _ _ (hr2.setCell (by first | (show rb < w1.heap.size + 1; omega) | (show rb < w.heap.size; omega)) _) (by omega) (by omega) fun z3 w3 hz3 hr3 hx3 => ?_
    have hd : (z3 : Int) < 5 := hz3 (by omega)
    have ho' : opndB (z3 : Int) 0 = true := opndB_of (Or.inr ⟨by omega, by omega, rfl⟩)
    have k6n : StepCells w3 w.heap.size 0 step0 (.slice none 0 0) := StepCells.ex ⟨by simp [go_sem, step0, a0], by simp [go_sem, step0, a1], by simp [go_sem, step0, a2], by simp [go_sem, step0, a3], by simp [go_sem, step0, a4], by simp [go_sem, step0, a5], by simp [go_sem, step0, a6], by simp [go_sem, a7]⟩ hx3 (by omega)
    have k7n : StepCells w3 (w1.heap.size + 1) 0 ⟨5, 0, 0, 0, 0, 0, 0, [(v : Int)]⟩ (.slice (some ⟨w1.heap.size, 0, none⟩) 1 1) := StepCells.ex ⟨by simp [go_sem, b0], by simp [go_sem, b1], by simp [go_sem, b2], by simp [go_sem, b3], by simp [go_sem, b4], by simp [go_sem, b5], by simp [go_sem, b6], by simp [go_sem, b7]⟩ hx3 (by omega)
    have g6n : ∀ j, w3.frozen? ⟨w.heap.size, j, none⟩ = false := Ex.frozen0 hx3 (fun j => by simp [go_sem, g6]) (by first | omega | (simp [World.setCell]; omega)) (by omega)
    have g7n : ∀ j, w3.frozen? ⟨w1.heap.size + 1, j, none⟩ = false := Ex.frozen0 hx3 (fun j => by simp [go_sem, g7]) (by first | omega | (simp [World.setCell]; omega)) (by omega)
    have gRn : w3.cell? ⟨w1.heap.size, 0, none⟩ = some (.int .i64 v) := Ex.cell hx3 (by simp [go_sem, gR]) (by show w1.heap.size ≠ rb; omega)
    have hs3n : w1.heap.size + 1 < w3.heap.size := Nat.lt_of_lt_of_le (by first | omega | (simp [World.setCell]; omega)) hx3.size
    have HX3n : Hid (Ex rb w w3) := (HX3.out.setCell (Or.inr (by first | (show w.heap.size ≤ w1.heap.size + 1; omega) | (show w.heap.size ≤ w.heap.size; omega))) _).trans hx3
    clear hx3 a0 a1 a2 a3 a4 a5 a6 a7 b0 b1 b2 b3 b4 b5 b6 b7 g6 g7 gR HX3 hs3
    have g6 := g6n
    have g7 := g7n
    have gR := gRn
    have HX3 := HX3n
    have hs3 := hs3n
    clear g6n g7n gRn HX3n hs3n
    obtain ⟨a0, a1, a2, a3, a4, a5, a6, a7⟩ := k6n.zero
    obtain ⟨b0, b1, b2, b3, b4, b5, b6, b7⟩ := k7n.zero
    simp only [step0] at a0 a1 a2 a3 a4 a5 a6
    clear k6n k7n
    go_wp2_with fail
    refine pick_any rb (p1 + 1 + 1) _ _ ((hr3.setCell (by first | (show rb < w1.heap.size + 1; omega) | (show rb < w.heap.size; omega)) _).setCell (by first | (show rb < w1.heap.size + 1; omega) | (show rb < w.heap.size; omega)) _) (by omega) (by omega) fun z4 w4 hz4 hr4 hx4 => ?_
    have k6n : StepCells w4 w.heap.size 0 step0 (.slice none 0 0) := StepCells.ex ⟨by simp [go_sem, step0, a0], by simp [go_sem, step0, a1], by simp [go_sem, step0, a2], by simp [go_sem, step0, a3], by simp [go_sem, step0, a4], by simp [go_sem, step0, a5], by simp [go_sem, step0, a6], by simp [go_sem, a7]⟩ hx4 (by omega)
    have k7n : StepCells w4 (w1.heap.size + 1) 0 ⟨5, 0, 0, (z3 : Int), 0, 0, 0, [(v : Int)]⟩ (.slice (some ⟨w1.heap.size, 0, none⟩) 1 1) := StepCells.ex ⟨by simp [go_sem, b0], by simp [go_sem, b1], by simp [go_sem, b2], by simp [go_sem, b3], by simp [go_sem, b4], by simp [go_sem, b5], by simp [go_sem, b6], by simp [go_sem, b7]⟩ hx4 (by omega)
    have g6n : ∀ j, w4.frozen? ⟨w.heap.size, j, none⟩ = false := Ex.frozen0 hx4 (fun j => by simp [go_sem, g6]) (by first | omega | (simp [World.setCell]; omega)) (by omega)
    have g7n : ∀ j, w4.frozen? ⟨w1.heap.size + 1, j, none⟩ = false := Ex.frozen0 hx4 (fun j => by simp [go_sem, g7]) (by first | omega | (simp [World.setCell]; omega)) (by omega)
    have gRn : w4.cell? ⟨w1.heap.size, 0, none⟩ = some (.int .i64 v) := Ex.cell hx4 (by simp [go_sem, gR]) (by show w1.heap.size ≠ rb; omega)
    have hs3n : w1.heap.size + 1 < w4.heap.size := Nat.lt_of_lt_of_le (by first | omega | (simp [World.setCell]; omega)) hx4.size
    have HX3n : Hid (Ex rb w w4) := ((HX3.out.setCell (Or.inr (by first | (show w.heap.size ≤ w1.heap.size + 1; omega) | (show w.heap.size ≤ w.heap.size; omega))) _).setCell (Or.inr (by first | (show w.heap.size ≤ w1.heap.size + 1; omega) | (show w.heap.size ≤ w.heap.size; omega))) _).trans hx4
    clear hx4 a0 a1 a2 a3 a4 a5 a6 a7 b0 b1 b2 b3 b4 b5 b6 b7 g6 g7 gR HX3 hs3
    have g6 := g6n
    have g7 := g7n
    have gR := gRn
    have HX3 := HX3n
    have hs3 := hs3n
    clear g6n g7n gRn HX3n hs3n
    obtain ⟨a0, a1, a2, a3, a4, a5, a6, a7⟩ := k6n.zero
    obtain ⟨b0, b1, b2, b3, b4, b5, b6, b7⟩ := k7n.zero
    simp only [step0] at a0 a1 a2 a3 a4 a5 a6
    clear k6n k7n
    by_cases hq : z4 = 0
    · subst hq
      clear ho'
      go_wp2_with fail
      refine l71Opnd_any rb (p1 + 1 + 1 + 1) _ hr4 (by omega) fun av an p5 w5 ho hr5 hp5 hx5 => ?_
      have ho' := opndB_of ho
      have k6n : StepCells w5 w.heap.size 0 step0 (.slice none 0 0) := StepCells.ex ⟨a0, a1, a2, a3, a4, a5, a6, a7⟩ hx5 (by omega)
      have k7n : StepCells w5 (w1.heap.size + 1) 0 ⟨5, 0, 0, (z3 : Int), 0, 0, 0, [(v : Int)]⟩ (.slice (some ⟨w1.heap.size, 0, none⟩) 1 1) := StepCells.ex ⟨b0, b1, b2, b3, b4, b5, b6, b7⟩ hx5 (by omega)
      have g6n : ∀ j, w5.frozen? ⟨w.heap.size, j, none⟩ = false := Ex.frozen0 hx5 (fun j => by simp [go_sem, g6]) (by first | omega | (simp [World.setCell]; omega)) (by omega)
      have g7n : ∀ j, w5.frozen? ⟨w1.heap.size + 1, j, none⟩ = false := Ex.frozen0 hx5 (fun j => by simp [go_sem, g7]) (by first | omega | (simp [World.setCell]; omega)) (by omega)
      have gRn : w5.cell? ⟨w1.heap.size, 0, none⟩ = some (.int .i64 v) := Ex.cell hx5 (gR) (by show w1.heap.size ≠ rb; omega)
      have hs3n : w1.heap.size + 1 < w5.heap.size := Nat.lt_of_lt_of_le (by first | omega | (simp [World.setCell]; omega)) hx5.size
      have HX3n : Hid (Ex rb w w5) := HX3.out.trans hx5
      clear hx5 a0 a1 a2 a3 a4 a5 a6 a7 b0 b1 b2 b3 b4 b5 b6 b7 g6 g7 gR HX3 hs3
      have g6 := g6n
      have g7 := g7n
      have gR := gRn
      have HX3 := HX3n
      have hs3 := hs3n
      clear g6n g7n gRn HX3n hs3n
      obtain ⟨a0, a1, a2, a3, a4, a5, a6, a7⟩ := k6n.zero
      obtain ⟨b0, b1, b2, b3, b4, b5, b6, b7⟩ := k7n.zero
      simp only [step0] at a0 a1 a2 a3 a4 a5 a6
      clear k6n k7n
      go_wp2_with fail
      have k6W : StepCells ((w5.setCell ⟨w1.heap.size + 1, 3, none⟩ (.int .i64 av)).setCell ⟨w1.heap.size + 1, 4, none⟩ (.int .i64 an)) w.heap.size 0 step0 (.slice none 0 0) := ⟨by simp [go_sem, step0, a0], by simp [go_sem, step0, a1], by simp [go_sem, step0, a2], by simp [go_sem, step0, a3], by simp [go_sem, step0, a4], by simp [go_sem, step0, a5], by simp [go_sem, step0, a6], by simp [go_sem, a7]⟩
      have k7W : StepCells ((w5.setCell ⟨w1.heap.size + 1, 3, none⟩ (.int .i64 av)).setCell ⟨w1.heap.size + 1, 4, none⟩ (.int .i64 an)) (w1.heap.size + 1) 0 ⟨5, 0, 0, av, an, 0, 0, [(v : Int)]⟩ (.slice (some ⟨w1.heap.size, 0, none⟩) 1 1) := ⟨by simp [go_sem, b0], by simp [go_sem, b1], by simp [go_sem, b2], by simp [go_sem, b3], by simp [go_sem, b4], by simp [go_sem, b5], by simp [go_sem, b6], by simp [go_sem, b7]⟩
      have g6W : ∀ j, ((w5.setCell ⟨w1.heap.size + 1, 3, none⟩ (.int .i64 av)).setCell ⟨w1.heap.size + 1, 4, none⟩ (.int .i64 an)).frozen? ⟨w.heap.size, j, none⟩ = false := fun j => by simp [go_sem, g6]
      have g7W : ∀ j, ((w5.setCell ⟨w1.heap.size + 1, 3, none⟩ (.int .i64 av)).setCell ⟨w1.heap.size + 1, 4, none⟩ (.int .i64 an)).frozen? ⟨w1.heap.size + 1, j, none⟩ = false := fun j => by simp [go_sem, g7]
      have gRW : ((w5.setCell ⟨w1.heap.size + 1, 3, none⟩ (.int .i64 av)).setCell ⟨w1.heap.size + 1, 4, none⟩ (.int .i64 an)).cell? ⟨w1.heap.size, 0, none⟩ = some (.int .i64 v) := by simp [go_sem, gR]
      have hsW : w1.heap.size + 1 < ((w5.setCell ⟨w1.heap.size + 1, 3, none⟩ (.int .i64 av)).setCell ⟨w1.heap.size + 1, 4, none⟩ (.int .i64 an)).heap.size := by simpa [World.setCell] using hs3
      have HXW : Hid (Ex rb w ((w5.setCell ⟨w1.heap.size + 1, 3, none⟩ (.int .i64 av)).setCell ⟨w1.heap.size + 1, 4, none⟩ (.int .i64 an))) := ((HX3.out.setCell (Or.inr (by first | (show w.heap.size ≤ w1.heap.size + 1; omega) | (show w.heap.size ≤ w.heap.size; omega))) _).setCell (Or.inr (by first | (show w.heap.size ≤ w1.heap.size + 1; omega) | (show w.heap.size ≤ w.heap.size; omega))) _)
      have hrW : Rd ((w5.setCell ⟨w1.heap.size + 1, 3, none⟩ (.int .i64 av)).setCell ⟨w1.heap.size + 1, 4, none⟩ (.int .i64 an)) rb _ := ((hr5.setCell (by first | (show rb < w1.heap.size + 1; omega) | (show rb < w.heap.size; omega)) _).setCell (by first | (show rb < w1.heap.size + 1; omega) | (show rb < w.heap.size; omega)) _)
      have K6W : Hid _ := k6W
      have K7W : Hid _ := k7W
      have G6W : Hid _ := g6W
      have G7W : Hid _ := g7W
      have GRW : Hid _ := gRW
      clear k6W k7W g6W g7W gRW
      go_region_law (first | (refine step_append_grows rfl (.tmp 84) (.tmp 89) 55 rfl 3 i0 (.int .i64 0) 1 8 Tryd.underlying55 hi hi0 hi1 hi2 rfl (by decide) (some ⟨w1.heap.size, 0, none⟩) 1 1 [.int .i64 (v : Int)] (by simp [Act.eval]) (by simp) rfl (one_old (cell_keep ((Below.refl _ _).alloc (Nat.le_refl _) _) tR)) ⟨w6.heap.size, 0, none⟩ 1 1 [.int .i64 (v2 : Int)] (by simp [Act.eval]) rfl (one_new (by simp [go_sem])) (by intro u hu; rw [List.mem_singleton] at hu; subst hu; rfl) (by omega) (by unfold maxLen; omega) (by omega) ?_; intro v7 w7 hown hgrow; obtain ⟨g, cap7, hv7, hg7, q0, q1⟩ := own2 hown; subst hv7; have hb7 := (Below.refl (w6.heap.size + 1) _).grown hgrow (by simp) (by simp); have ex7 := ex_grown hx6' hb7; have rd7 := rd_grown hr6 hb7; have u7 := ex7.cell K7W.out.c7 (by show w1.heap.size + 1 ≠ rb; omega); have uf7 := Ex.frozen0 ex7 G7W.out hsW (by omega)) | (go_simp; go_wp2_with (go_at_call 98; refine l71Next_any rb (p5) at0 n _ ⟨hrW.ex, hrW.at1, hrW.fz⟩ (by omega) hn hn' hat ?_; intro v2 p6 w6 hv2 hr6 hp6 hx6; have hx6' : Ex rb ((w5.setCell ⟨w1.heap.size + 1, 3, none⟩ (.int .i64 av)).setCell ⟨w1.heap.size + 1, 4, none⟩ (.int .i64 an)) w6 := ⟨hx6.os, hx6.tape, hx6.output, hx6.size, hx6.block⟩; have t7 := hx6'.cell K7W.out.c7 (by show w1.heap.size + 1 ≠ rb; omega); have tR := hx6'.cell GRW.out (by show w1.heap.size ≠ rb; omega); have l6 : w1.heap.size + 1 < w6.heap.size := Nat.lt_of_lt_of_le hsW hx6'.size; have n6 : ¬ w1.heap.size + 1 = w6.heap.size := Nat.ne_of_lt l6)))
      all_goals
        have hg8 : w6.heap.size + 1 ≤ g := by simpa using hg7
        have hs6 := hx6'.size
        have k6n := StepCells.ex K6W.out ex7 (by omega)
        have k7n := StepCells.ex K7W.out ex7 (by omega)
        have g6n : ∀ j, w7.frozen? ⟨w.heap.size, j, none⟩ = false := Ex.frozen0 ex7 G6W.out (by omega) (by omega)
        have HX7 : Hid (Ex rb w w7) := HXW.out.trans ex7
        have HI7 : Hid (IntsFrom (w1.heap.size + 2) w7 (.slice (some ⟨g, 0, none⟩) 2 cap7) [(v : Int), (v2 : Int)]) := two_ints q0 q1 (by omega)
        have hv2' : (v2 : Int) ≤ (n : Int) - 1 := by omega
        clear a0 a1 a2 a3 a4 a5 a6 a7 b0 b1 b2 b3 b4 b5 b6 b7 g6 g7 gR HX3 K6W K7W G6W G7W GRW HXW ex7 hx6 hx6' hb7 hown hgrow q0 q1 t7 tR u7
        obtain ⟨a0, a1, a2, a3, a4, a5, a6, a7⟩ := k6n.zero
        obtain ⟨b0, b1, b2, b3, b4, b5, b6, b7⟩ := k7n.zero
        simp only [step0] at a0 a1 a2 a3 a4 a5 a6
        clear k6n k7n
        have HX3 := HX7
        go_wp2
        refine bodyPost_ret (v := stepV ⟨5, 0, 0, av, an, 0, 0, [(v : Int), (v2 : Int)]⟩ (.slice (some ⟨g, 0, none⟩) 2 cap7)) (by simp [results, Tryd.results89, go_sem, stepV, a0, a1, a2, a3, a4, a5, a6, a7]) rfl ?_
        refine HQ.out ⟨5, 0, 0, av, an, 0, 0, [(v : Int), (v2 : Int)]⟩ (.slice (some ⟨g, 0, none⟩) 2 cap7) p6 _ (by simp [stepB, many, restB, noneB, inB, hvn, hv2', ho']) ?_ (nice_some _ _ _) ?_ (by omega) ?_
        · refine IntsFrom.mono (lo := w1.heap.size + 2) ?_ (by omega)
          iterate 9 refine IntsFrom.setCell ?_ (by first | (show w1.heap.size + 1 < w1.heap.size + 2; omega) | (show w.heap.size < w1.heap.size + 2; omega)) _
          exact HI7.out
        · iterate 9 refine Rd.setCell ?_ (by first | (show rb < w1.heap.size + 1; omega) | (show rb < w.heap.size; omega)) _
          exact rd7
        · iterate 9 refine Ex.setCell ?_ (Or.inr (by first | (show w.heap.size ≤ w1.heap.size + 1; omega) | (show w.heap.size ≤ w.heap.size; omega))) _
          exact HX3.out
    · have hq' : ((z4 : Int) == 0) = false := by simp; omega
      go_wp2_with fail
      have k6W : StepCells w4 w.heap.size 0 step0 (.slice none 0 0) := ⟨a0, a1, a2, a3, a4, a5, a6, a7⟩
      have k7W : StepCells w4 (w1.heap.size + 1) 0 ⟨5, 0, 0, (z3 : Int), 0, 0, 0, [(v : Int)]⟩ (.slice (some ⟨w1.heap.size, 0, none⟩) 1 1) := ⟨b0, b1, b2, b3, b4, b5, b6, b7⟩
      have g6W : ∀ j, w4.frozen? ⟨w.heap.size, j, none⟩ = false := g6
      have g7W : ∀ j, w4.frozen? ⟨w1.heap.size + 1, j, none⟩ = false := g7
      have gRW : w4.cell? ⟨w1.heap.size, 0, none⟩ = some (.int .i64 v) := gR
      have hsW : w1.heap.size + 1 < w4.heap.size := hs3
      have HXW : Hid (Ex rb w w4) := HX3.out
      have hrW : Rd w4 rb _ := hr4
      have K6W : Hid _ := k6W
      have K7W : Hid _ := k7W
      have G6W : Hid _ := g6W
      have G7W : Hid _ := g7W
      have GRW : Hid _ := gRW
      clear k6W k7W g6W g7W gRW
      go_region_law (first | (refine step_append_grows rfl (.tmp 84) (.tmp 89) 55 rfl 3 i0 (.int .i64 0) 1 8 Tryd.underlying55 hi hi0 hi1 hi2 rfl (by decide) (some ⟨w1.heap.size, 0, none⟩) 1 1 [.int .i64 (v : Int)] (by simp [Act.eval]) (by simp) rfl (one_old (cell_keep ((Below.refl _ _).alloc (Nat.le_refl _) _) tR)) ⟨w6.heap.size, 0, none⟩ 1 1 [.int .i64 (v2 : Int)] (by simp [Act.eval]) rfl (one_new (by simp [go_sem])) (by intro u hu; rw [List.mem_singleton] at hu; subst hu; rfl) (by omega) (by unfold maxLen; omega) (by omega) ?_; intro v7 w7 hown hgrow; obtain ⟨g, cap7, hv7, hg7, q0, q1⟩ := own2 hown; subst hv7; have hb7 := (Below.refl (w6.heap.size + 1) _).grown hgrow (by simp) (by simp); have ex7 := ex_grown hx6' hb7; have rd7 := rd_grown hr6 hb7; have u7 := ex7.cell K7W.out.c7 (by show w1.heap.size + 1 ≠ rb; omega); have uf7 := Ex.frozen0 ex7 G7W.out hsW (by omega)) | (go_simp; go_wp2_with (go_at_call 98; refine l71Next_any rb (p1 + 1 + 1 + 1) at0 n _ ⟨hrW.ex, hrW.at1, hrW.fz⟩ (by omega) hn hn' hat ?_; intro v2 p6 w6 hv2 hr6 hp6 hx6; have hx6' : Ex rb w4 w6 := ⟨hx6.os, hx6.tape, hx6.output, hx6.size, hx6.block⟩; have t7 := hx6'.cell K7W.out.c7 (by show w1.heap.size + 1 ≠ rb; omega); have tR := hx6'.cell GRW.out (by show w1.heap.size ≠ rb; omega); have l6 : w1.heap.size + 1 < w6.heap.size := Nat.lt_of_lt_of_le hsW hx6'.size; have n6 : ¬ w1.heap.size + 1 = w6.heap.size := Nat.ne_of_lt l6)))
      all_goals
        have hg8 : w6.heap.size + 1 ≤ g := by simpa using hg7
        have hs6 := hx6'.size
        have k6n := StepCells.ex K6W.out ex7 (by omega)
        have k7n := StepCells.ex K7W.out ex7 (by omega)
        have g6n : ∀ j, w7.frozen? ⟨w.heap.size, j, none⟩ = false := Ex.frozen0 ex7 G6W.out (by omega) (by omega)
        have HX7 : Hid (Ex rb w w7) := HXW.out.trans ex7
        have HI7 : Hid (IntsFrom (w1.heap.size + 2) w7 (.slice (some ⟨g, 0, none⟩) 2 cap7) [(v : Int), (v2 : Int)]) := two_ints q0 q1 (by omega)
        have hv2' : (v2 : Int) ≤ (n : Int) - 1 := by omega
        clear a0 a1 a2 a3 a4 a5 a6 a7 b0 b1 b2 b3 b4 b5 b6 b7 g6 g7 gR HX3 K6W K7W G6W G7W GRW HXW ex7 hx6 hx6' hb7 hown hgrow q0 q1 t7 tR u7
        obtain ⟨a0, a1, a2, a3, a4, a5, a6, a7⟩ := k6n.zero
        obtain ⟨b0, b1, b2, b3, b4, b5, b6, b7⟩ := k7n.zero
        simp only [step0] at a0 a1 a2 a3 a4 a5 a6
        clear k6n k7n
        have HX3 := HX7
        go_wp2
        refine bodyPost_ret (v := stepV ⟨5, 0, 0, (z3 : Int), 0, 0, 0, [(v : Int), (v2 : Int)]⟩ (.slice (some ⟨g, 0, none⟩) 2 cap7)) (by simp [results, Tryd.results89, go_sem, stepV, a0, a1, a2, a3, a4, a5, a6, a7]) rfl ?_
        refine HQ.out ⟨5, 0, 0, (z3 : Int), 0, 0, 0, [(v : Int), (v2 : Int)]⟩ (.slice (some ⟨g, 0, none⟩) 2 cap7) p6 _ (by simp [stepB, many, restB, noneB, inB, hvn, hv2', ho']) ?_ (nice_some _ _ _) ?_ (by omega) ?_
        · refine IntsFrom.mono (lo := w1.heap.size + 2) ?_ (by omega)
          iterate 9 refine IntsFrom.setCell ?_ (by first | (show w1.heap.size + 1 < w1.heap.size + 2; omega) | (show w.heap.size < w1.heap.size + 2; omega)) _
          exact HI7.out
        · iterate 9 refine Rd.setCell ?_ (by first | (show rb < w1.heap.size + 1; omega) | (show rb < w.heap.size; omega)) _
          exact rd7
        · iterate 9 refine Ex.setCell ?_ (Or.inr (by first | (show w.heap.size ≤ w1.heap.size + 1; omega) | (show w.heap.size ≤ w.heap.size; omega))) _
          exact HX3.out
end Go.Proofs.YtljlgffkhocgkaaDoor
namespace Go.Proofs.YtljlgffkhocgkaaDoor
open Go.RowKit

/-- Steps in memory, all of it in blocks from lo on; lists, if nil, without room. -/
def StepsNF (lo : Nat) (w : World) (v : Value) (ss : List St) : Prop :=
  ∃ ao b o cap, v = .slice ao ss.length cap ∧ (0 < ss.length → ao = some ⟨b, o, none⟩) ∧ lo ≤ b ∧
    ∀ (i : Nat) (s : St), ss[i]? = some s → ∃ nv, StepCells w b (o + i * 8) s nv ∧ IntsFrom lo w nv s.next ∧ Nice nv

theorem StepsNF.n {lo : Nat} {w : World} {v : Value} {ss : List St} (h : StepsNF lo w v ss) : StepsN w v ss := by
  obtain ⟨ao, b, o, cap, hv, ha, _, hc⟩ := h
  refine ⟨ao, b, o, cap, hv, ha, fun i s hs => ?_⟩
  obtain ⟨nv, h1, h2, h3⟩ := hc i s hs
  exact ⟨nv, h1, h2.at, h3⟩

theorem StepsNF.ex {lo rb : Nat} {w w' : World} {v : Value} {ss : List St} (h : StepsNF lo w v ss) (hx : Ex rb w w') (hr : rb < lo) : StepsNF lo w' v ss := by
  obtain ⟨ao, b, o, cap, hv, ha, hb, hc⟩ := h
  refine ⟨ao, b, o, cap, hv, ha, hb, fun i s hs => ?_⟩
  obtain ⟨nv, h1, h2, h3⟩ := hc i s hs
  exact ⟨nv, h1.ex hx (by omega), h2.ex hx hr, h3⟩

/-- The eight cells of a step, as a list. -/
def cells8D (s : St) (nv : Value) : List Value := [.int .i64 s.kind, .int .i64 s.dst, .int .i64 s.op, .int .i64 s.av, .int .i64 s.an, .int .i64 s.bv, .int .i64 s.bn, nv]

/-- What has been drawn: a row of steps, and lists that lie in none of its cells. -/
def DrawnL (lo : Nat) (w : World) (ov : Value) (xs : List Value) (ss : List St) : Prop :=
  ∀ (i : Nat) (s : St), ss[i]? = some s → ∃ nv b, (∀ j u, (cells8D s nv)[j]? = some u → xs[i * 8 + j]? = some u) ∧ (∃ ao o cap, nv = .slice ao s.next.length cap ∧ (0 < s.next.length → ao = some ⟨b, o, none⟩ ∧ lo ≤ b ∧ b < w.heap.size ∧ ov.ownBlock ≠ some b ∧ ∀ t, t < s.next.length → w.cell? ⟨b, o + t, none⟩ = some (.int .i64 (s.next.getD t 0)))) ∧ Nice nv

theorem DrawnL.keep {lo : Nat} {w w' : World} {ov : Value} {xs : List Value} {ss : List St} (h : DrawnL lo w ov xs ss) (hs : w.heap.size ≤ w'.heap.size) (hc : ∀ (p : Addr) (v : Value), w.cell? p = some v → lo ≤ p.block → ov.ownBlock ≠ some p.block → w'.cell? p = some v) : DrawnL lo w' ov xs ss := by
  intro i s hsi
  obtain ⟨nv, b, h1, ⟨ao, o, cap, h2, h3⟩, h4⟩ := h i s hsi
  refine ⟨nv, b, h1, ⟨ao, o, cap, h2, fun hp => ?_⟩, h4⟩
  obtain ⟨a1, a2, a3, a4, a5⟩ := h3 hp
  exact ⟨a1, a2, by omega, a4, fun t ht => hc _ _ (a5 t ht) a2 a4⟩

theorem DrawnL.snoc {lo H g n c : Nat} {w w' : World} {ov : Value} {xs : List Value} {ss : List St} {s : St} {nv : Value} (h : DrawnL lo w ov xs ss) (hxl : xs.length = ss.length * 8) (hI : IntsFrom lo w nv s.next) (hlt : ∀ (b o : Nat) (cap : Nat), nv = .slice (some ⟨b, o, none⟩) s.next.length cap → 0 < s.next.length → b < w.heap.size ∧ ov.ownBlock ≠ some b) (hN : Nice nv)
    (hH : H = w.heap.size) (hs : w.heap.size ≤ w'.heap.size) (hat : ov.ownBlock = some g ∨ H ≤ g) (hc : ∀ (p : Addr) (v : Value), w.cell? p = some v → ov.ownBlock ≠ some p.block → w'.cell? p = some v) : DrawnL lo w' (.slice (some ⟨g, 0, none⟩) n c) (xs ++ cells8D s nv) (ss ++ [s]) := by
  have hne : ∀ b, b < w.heap.size → ov.ownBlock ≠ some b → (Value.slice (some ⟨g, 0, none⟩) n c).ownBlock ≠ some b := by
    intro b hb hn e
    simp [Value.ownBlock] at e
    subst e
    rcases hat with a | a
    · exact hn a
    · omega
  intro i t ht
  by_cases hi : i < ss.length
  · rw [List.getElem?_append_left hi] at ht
    obtain ⟨mv, b, h1, ⟨ao, o, cap, h2, h3⟩, h4⟩ := h i t ht
    refine ⟨mv, b, fun j u hu => ?_, ⟨ao, o, cap, h2, fun hp => ?_⟩, h4⟩
    · have hj : j < 8 := by have := (List.getElem?_eq_some_iff.1 hu).1; simpa [cells8D] using this
      rw [List.getElem?_append_left (by omega)]
      exact h1 j u hu
    · obtain ⟨a1, a2, a3, a4, a5⟩ := h3 hp
      exact ⟨a1, a2, by omega, hne b a3 a4, fun q hq => hc _ _ (a5 q hq) a4⟩
  · have l := (List.getElem?_eq_some_iff.1 ht).1
    simp at l
    have e : i = ss.length := by omega
    subst e
    simp at ht
    subst ht
    obtain ⟨ao, b, o, cap, h1, h2, h3, h4⟩ := hI
    refine ⟨nv, b, fun j u hu => ?_, ⟨ao, o, cap, h1, fun hp => ?_⟩, hN⟩
    · rw [List.getElem?_append_right (by omega), hxl]
      rwa [show ss.length * 8 + j - ss.length * 8 = j by omega]
    · have hao := h2 hp
      rw [hao] at h1
      obtain ⟨b1, b2⟩ := hlt b o cap h1 hp
      exact ⟨hao, h3, by omega, hne b b1 b2, fun q hq => hc _ _ (h4 q hq) b2⟩

theorem DrawnL.steps {lo : Nat} {w : World} {ov : Value} {xs : List Value} {ss : List St} (h : DrawnL lo w ov xs ss) (hrow : w.ownsRow lo 62 8 ov ss.length xs) : StepsNF lo w ov ss := by
  rcases id hrow.2 with ⟨e, e2⟩ | ⟨g, cap, cur, e, hg, _⟩
  · refine ⟨none, lo, 0, 0, by rw [e2]; exact e, fun hp => by omega, Nat.le_refl _, fun i s hs => ?_⟩
    have := (List.getElem?_eq_some_iff.1 hs).1
    omega
  · refine ⟨_, g, 0, cap, e, fun _ => rfl, hg, fun i s hs => ?_⟩
    have hi := (List.getElem?_eq_some_iff.1 hs).1
    obtain ⟨nv, b, h1, ⟨ao, o, cap2, h2, h3⟩, h4⟩ := h i s hs
    rw [e] at hrow
    have rd : ∀ j u, (cells8D s nv)[j]? = some u → w.cell? ⟨g, i * 8 + j, none⟩ = some u := fun j u hu => by
      have hj : j < 8 := by have := (List.getElem?_eq_some_iff.1 hu).1; simpa [cells8D] using this
      rw [hrow.cellAt _ (by omega)]
      exact h1 j u hu
    refine ⟨nv, ?_, ?_, h4⟩
    · rw [Nat.zero_add]
      exact ⟨rd 0 _ rfl, rd 1 _ rfl, rd 2 _ rfl, rd 3 _ rfl, rd 4 _ rfl, rd 5 _ rfl, rd 6 _ rfl, rd 7 _ rfl⟩
    · by_cases hp : 0 < s.next.length
      · obtain ⟨a1, a2, a3, a4, a5⟩ := h3 hp
        exact ⟨ao, b, o, cap2, h2, fun _ => a1, a2, a5⟩
      · exact ⟨ao, lo, o, cap2, h2, fun h => absurd h hp, Nat.le_refl _, fun q hq => by omega⟩
end Go.Proofs.YtljlgffkhocgkaaDoor
namespace Go.Proofs.YtljlgffkhocgkaaDoor
open Go.RowKit

theorem infoStepD : (Tryd.prog.info? 62).map (fun i => (i.zero, i.size, i.bytes)) = some (some (.agg #[.int .i64 0, .int .i64 0, .int .i64 0, .int .i64 0, .int .i64 0, .int .i64 0, .int .i64 0, .slice none 0 0]), 8, 80) := by kernel_rfl

theorem cells8D_one (s : St) (A : Option Addr) (n c : Nat) : ∀ u ∈ cells8D s (.slice A n c), u.oneCell' = true := by
  intro u hu
  simp [cells8D] at hu
  rcases hu with rfl | rfl | rfl | rfl | rfl | rfl | rfl | rfl <;> rfl

theorem cells8D_new (W : World) (s : St) (nv : Value) (t : TypeId) {k : Nat} (hk : k = W.heap.size) : ∀ j x, (cells8D s nv)[j]? = some x → (W.alloc (.cells #[.int .i64 s.kind, .int .i64 s.dst, .int .i64 s.op, .int .i64 s.av, .int .i64 s.an, .int .i64 s.bv, .int .i64 s.bn, nv] t)).cell? ((⟨k, 0, none⟩ : Addr).add j) = some x := by
  subst hk
  intro j x hj
  match j, hj with
  | 0, hj => simp [cells8D] at hj; subst hj; simp [Addr.add]
  | 1, hj => simp [cells8D] at hj; subst hj; simp [Addr.add]
  | 2, hj => simp [cells8D] at hj; subst hj; simp [Addr.add]
  | 3, hj => simp [cells8D] at hj; subst hj; simp [Addr.add]
  | 4, hj => simp [cells8D] at hj; subst hj; simp [Addr.add]
  | 5, hj => simp [cells8D] at hj; subst hj; simp [Addr.add]
  | 6, hj => simp [cells8D] at hj; subst hj; simp [Addr.add]
  | 7, hj => simp [cells8D] at hj; subst hj; simp [Addr.add]
  | j + 8, hj => simp [cells8D] at hj

theorem own_ex {rb base m n : Nat} {e : TypeId} {w w' : World} {v : Value} {xs : List Value} (h : w.ownsRow base e m v n xs) (hx : Ex rb w w') (hr : rb < base) : w'.ownsRow base e m v n xs := by
  obtain ⟨h1, h2⟩ := h
  refine ⟨h1, ?_⟩
  rcases h2 with h2 | ⟨g, cap, cur, hv, hg, hh, r⟩
  · exact Or.inl h2
  · obtain ⟨hlt, _⟩ := Array.getElem?_eq_some_iff.1 hh
    exact Or.inr ⟨g, cap, cur, hv, hg, (hx.block g hlt (by omega)).trans hh, r⟩

/-- What is kept while a program is drawn: the two boxes, the reader, the rows. -/
structure DI (rb p : Nat) (w wr : World) (ov : Value) (xs : List Value) (ss : List St) (p' : Nat) : Prop where
  ex : Ex rb w wr
  rd : Rd wr rb p'
  le : p' ≤ p + 1 + 20 * ss.length
  res : wr.cell? ⟨w.heap.size, 0, none⟩ = some (.slice none 0 0)
  resF : wr.frozen? ⟨w.heap.size, 0, none⟩ = false
  box : wr.cell? ⟨w.heap.size + 1, 0, none⟩ = some ov
  boxF : wr.frozen? ⟨w.heap.size + 1, 0, none⟩ = false
  row : wr.ownsRow (w.heap.size + 2) 62 8 ov ss.length xs
  drawn : DrawnL (w.heap.size + 2) wr ov xs ss

theorem Rd.grown {w w' : World} {rb p : Nat} {row : Option Nat} (h : Rd w rb p) (hg : w.grownBy w' row) (hr : ∀ k, row = some k → rb < k) : Rd w' rb p := by
  obtain ⟨ao, bb, bo, bl, cap, h0, h1, h2, h3, h4⟩ := h.ex
  have hne : ∀ k, k ≤ rb → some k ≠ row := fun k hk e => by have := hr k e.symm; omega
  refine ⟨⟨ao, bb, bo, bl, cap, hg.cell h0 (hne _ (Nat.le_refl _)), h1, h2, h3, fun i hi => ?_⟩, hg.cell h.at1 (hne _ (Nat.le_refl _)), (hg.frozen_far ⟨rb, 1, none⟩ h.lt (hne _ (Nat.le_refl _))).trans h.fz⟩
  obtain ⟨z, hz, hc⟩ := h4 i hi
  exact ⟨z, hz, hg.cell hc (hne _ (Nat.le_of_lt (h2 (by omega))))⟩

/-- One step more is drawn. -/
theorem DI.snoc {rb p p' p6 g8 cap8 : Nat} {w wr w6 w8 : World} {A : Option Addr} {n0 c : Nat} {xs : List Value} {ss : List St} {s : St} {nv : Value} {O : Obj} (hrb : rb < w.heap.size)
    (h : DI rb p w wr (.slice A n0 c) xs ss p') (hx : Ex rb wr w6) (hr6 : Rd w6 rb p6) (hp6 : p6 ≤ p' + 20) (hI : IntsFrom wr.heap.size w6 nv s.next) (hN : Nice nv)
    (hg : (w6.alloc O).grownBy w8 (Value.slice A n0 c).ownBlock) (hown : w8.ownsRow (w.heap.size + 2) 62 8 (.slice (some ⟨g8, 0, none⟩) (ss.length + 1) cap8) (ss.length + 1) (xs ++ cells8D s nv)) (hat : (Value.slice A n0 c).ownBlock = some g8 ∨ g8 = w6.heap.size + 1) :
    DI rb p w (w8.setCell ⟨w.heap.size + 1, 0, none⟩ (.slice (some ⟨g8, 0, none⟩) (ss.length + 1) cap8)) (.slice (some ⟨g8, 0, none⟩) (ss.length + 1) cap8) (xs ++ cells8D s nv) (ss ++ [s]) p6 := by
  have hbl : w.heap.size + 1 < wr.heap.size := cell_lt h.box
  have s6 := hx.size
  have hle := h.le
  have own : ∀ k, (Value.slice A n0 c).ownBlock = some k → w.heap.size + 2 ≤ k ∧ k < wr.heap.size := fun k hk => h.row.lt k hk
  have s8 : w6.heap.size ≤ w8.heap.size := Nat.le_trans (by simp) hg.size
  have hcell : ∀ (q : Addr) (v : Value), w6.cell? q = some v → (Value.slice A n0 c).ownBlock ≠ some q.block → w8.cell? q = some v := fun q v hc hn => hg.cell (cell_keep ((Below.refl _ _).alloc (Nat.le_refl _) O) hc) (Ne.symm hn)
  have hlow : ∀ k, k < w.heap.size + 2 → (Value.slice A n0 c).ownBlock ≠ some k := fun k hk e => by have := (own k e).1; omega
  refine ⟨?_, ?_, by simp; omega, ?_, ?_, ?_, ?_, ?_, ?_⟩
  · refine Ex.setCell ⟨?_, ?_, ?_, ?_, fun k hk hr => ?_⟩ (Or.inr (by show w.heap.size ≤ w.heap.size + 1; omega)) _
    · exact hg.os.trans (hx.os.trans h.ex.os)
    · exact hg.tape.trans (hx.tape.trans h.ex.tape)
    · exact hg.output.trans (hx.output.trans h.ex.output)
    · omega
    · have a1 := hg.block k (Nat.lt_of_lt_of_le (by omega : k < w6.heap.size) (by simp)) (Ne.symm (hlow k (by omega)))
      have a2 : (w6.alloc O).heap[k]? = w6.heap[k]? := Below.heap_alloc _ _ _ (by omega)
      exact ((a1.trans a2).trans (hx.block k (by omega) hr)).trans (h.ex.block k hk hr)
  · refine Rd.setCell ?_ (by show rb < w.heap.size + 1; omega) _
    exact (hr6.alloc O).grown hg (fun k hk => by have := (own k hk).1; omega)
  · rw [cell_setOther _ _ _ _ (by simp)]
    exact hcell _ _ (hx.cell h.res (by show w.heap.size ≠ rb; omega)) (hlow _ (by show w.heap.size < w.heap.size + 2; omega))
  · refine (World.frozen?_of_block (w := w8) (a := ⟨w.heap.size, 0, none⟩) (Below.heap_setCell w8 _ _ _ (by simp))).trans ?_
    refine (hg.frozen_far ⟨w.heap.size, 0, none⟩ (Nat.lt_of_lt_of_le (by show w.heap.size < w6.heap.size; omega) (by simp)) (Ne.symm (hlow w.heap.size (by omega)))).trans ?_
    refine (((Below.refl _ _).alloc (Nat.le_refl _) O).frozen (by show w.heap.size < w6.heap.size; omega)).trans ?_
    exact (hx.frozen (p := ⟨w.heap.size, 0, none⟩) (by show w.heap.size < wr.heap.size; omega) (by show w.heap.size ≠ rb; omega)).trans h.resF
  · have b6 := hx.cell h.box (by show w.heap.size + 1 ≠ rb; omega)
    have b8 := hcell _ _ b6 (hlow _ (by show w.heap.size + 1 < w.heap.size + 2; omega))
    simp [go_sem, b8]
  · have f8 : w8.frozen? ⟨w.heap.size + 1, 0, none⟩ = false := by
      refine (hg.frozen_far ⟨w.heap.size + 1, 0, none⟩ (Nat.lt_of_lt_of_le (by show w.heap.size + 1 < w6.heap.size; omega) (by simp)) (Ne.symm (hlow (w.heap.size + 1) (by omega)))).trans ?_
      refine (((Below.refl _ _).alloc (Nat.le_refl _) O).frozen (by show w.heap.size + 1 < w6.heap.size; omega)).trans ?_
      exact (hx.frozen (p := ⟨w.heap.size + 1, 0, none⟩) hbl (by show w.heap.size + 1 ≠ rb; omega)).trans h.boxF
    simpa [go_sem] using f8
  · have := ownsRow_setCell_below hown (a := ⟨w.heap.size + 1, 0, none⟩) (by show w.heap.size + 1 < w.heap.size + 2; omega) (.slice (some ⟨g8, 0, none⟩) (ss.length + 1) cap8)
    simpa using this
  · have d6 : DrawnL (w.heap.size + 2) w6 (.slice A n0 c) xs ss := h.drawn.keep s6 (fun q v hc hl _ => hx.cell hc (by omega))
    have d8 := d6.snoc (H := w6.heap.size) (g := g8) (n := ss.length + 1) (c := cap8) (w' := w8) h.row.1 (hI.mono (by omega)) (fun b o cap hv hp => by
      obtain ⟨ao, b', o', cap', e1, e2, e3, e4⟩ := hI
      have e5 := e2 hp
      rw [e5] at e1
      rw [e1] at hv
      cases hv
      have e6 := cell_lt (e4 0 hp)
      exact ⟨e6, fun e => by have := (own _ e).2; omega⟩) hN rfl s8 (by
        rcases hat with a | a
        · exact Or.inl a
        · exact Or.inr (by omega)) hcell
    refine d8.keep (by simp [World.setCell]) (fun q v hc hl _ => ?_)
    rw [cell_setOther _ _ _ _ (by show q.block ≠ w.heap.size + 1; omega)]
    exact hc

/-- What was drawn stays when the answer is laid down. -/
theorem DI.last {rb p p' : Nat} {w W : World} {v x : Value} {xs : List Value} {ss : List St} (hrb : rb < w.heap.size) (D : DI rb p w W v xs ss p') :
    StepsNF (w.heap.size + 2) (W.setCell ⟨w.heap.size, 0, none⟩ x) v ss ∧ Rd (W.setCell ⟨w.heap.size, 0, none⟩ x) rb p' ∧ Ex rb w (W.setCell ⟨w.heap.size, 0, none⟩ x) := by
  refine ⟨?_, D.rd.setCell (by show rb < w.heap.size; omega) _, D.ex.setCell (Or.inr (by show w.heap.size ≤ w.heap.size; omega)) _⟩
  obtain ⟨ao, b, o, cap, hv, ha, hb, hc⟩ := D.drawn.steps D.row
  have key : ∀ (q : Addr) (v : Value), W.cell? q = some v → w.heap.size + 2 ≤ q.block → (W.setCell ⟨w.heap.size, 0, none⟩ x).cell? q = some v := fun q v hc hl => by
    rw [cell_setOther _ _ _ _ (by show q.block ≠ w.heap.size; omega)]
    exact hc
  refine ⟨ao, b, o, cap, hv, ha, hb, fun i s hsi => ?_⟩
  obtain ⟨nv, h1, ⟨ao2, b2, o2, cap2, e1, e2, e3, e4⟩, h3⟩ := hc i s hsi
  obtain ⟨c0, c1, c2, c3, c4, c5, c6, c7⟩ := h1
  exact ⟨nv, ⟨key _ _ c0 hb, key _ _ c1 hb, key _ _ c2 hb, key _ _ c3 hb, key _ _ c4 hb, key _ _ c5 hb, key _ _ c6 hb, key _ _ c7 hb⟩, ⟨ao2, b2, o2, cap2, e1, e2, e3, fun t ht => key _ _ (e4 t ht) e3⟩, h3⟩

set_option maxRecDepth 100000 in
set_option maxHeartbeats 1500000 in
theorem l71Prog_any {Q : Ending → World → Prop} (rb p : Nat) (w : World) (h : Rd w rb p) (hp : p + 400 ≤ 1000000)
    (hQ : ∀ (v : Value) (ss : List St) (p' : Nat) w', okB ss = true → ss.length ≤ 15 → StepsNF (w.heap.size + 2) w' v ss → Rd w' rb p' → p' ≤ p + 400 → Ex rb w w' → Q (.returned (.agg #[v])) w') :
    Calls Tryd.prog 70 #[.pointer (some ⟨rb, 0, none⟩)] w Q := by
  have HQ : Hid _ := hQ
  clear hQ
  have hlt := h.lt
  obtain ⟨i1, hj, hy0, hy1, hy2⟩ := info_parts infoStepD
  go_enter Tryd.func70, Tryd.ntmps70
  go_wp2_with fail
  refine pick_any rb p _ _ ((h.alloc _).alloc _) (by omega) (by omega) fun z w1 hz hr1 hx1 => ?_
  have hz14 : (z : Int) < 14 := hz (by omega)
  have hDI : DI rb p w w1 (.slice none 0 0) [] [] (p + 1) := by
    have hl2 : rb ≠ w.heap.size := by omega
    have hl3 : rb ≠ w.heap.size + 1 := by omega
    refine ⟨(((Ex.refl _ _).alloc _).alloc _).trans hx1, hr1, by simp, hx1.cell (by simp [go_sem]) (Ne.symm hl2), ?_, hx1.cell (by simp [go_sem]) (Ne.symm hl3), ?_, World.ownsRow_nil _ _ _ _, by intro i s hs; simp at hs⟩
    · exact (hx1.frozen (p := ⟨w.heap.size, 0, none⟩) (by simp; omega) (Ne.symm hl2)).trans (by simp [go_sem])
    · exact (hx1.frozen (p := ⟨w.heap.size + 1, 0, none⟩) (by simp) (Ne.symm hl3)).trans (by simp [go_sem])
  have HDI : Hid (DI rb p w w1 (.slice none 0 0) [] [] (p + 1)) := hDI
  clear hDI hr1 hx1 hz
  go_wp2_with fail
  go_loopw [5] (fun i wr => ∃ (ss : List St) (ov : Value) (xs : List Value) (p' : Nat), ss.length + 1 ≤ 2 + z ∧ i = .int .i64 (ss.length : Int) ∧ DI rb p w wr ov xs ss p' ∧ ∀ s ∈ ss, stepB s ((2 + z : Nat) : Int) = true) (fun i _ => 2 + z - (intOf i).toNat)
  case atStart => exact ⟨[], _, [], p + 1, by simp; omega, rfl, HDI.out, by simp⟩
  case round =>
    clear HDI
    obtain ⟨ss, ov, xs, p', hsl, rfl, hD, hst⟩ := hrel
    have HD : Hid (DI rb p w wr ov xs ss p') := hD
    have HST : Hid (∀ s ∈ ss, stepB s ((2 + z : Nat) : Int) = true) := hst
    have bq := hD.box
    have bf := hD.boxF
    have hle := hD.le
    have hbl : w.heap.size + 1 < wr.heap.size := cell_lt bq
    obtain ⟨A, n0, c, hov⟩ : ∃ A n c, ov = .slice A n c := by
      rcases hD.row.2 with ⟨e, _⟩ | ⟨g, cap, cur, e, _⟩
      · exact ⟨_, _, _, e⟩
      · exact ⟨_, _, _, e⟩
    subst hov
    clear hD hst
    by_cases hkl : ss.length + 1 < 2 + z
    · have hki : (ss.length : Int) + 1 < 2 + (z : Int) := by omega
      have HNE : Hid (w.heap.size + 1 ≠ rb) := by rw [Hid]; omega
      have HNR : Hid (some (w.heap.size + 1) ≠ (Value.slice A n0 c).ownBlock) := fun e => by have h9 := (HD.out.row.lt _ e.symm).1; omega
      have HRD : Hid (Rd wr.drew rb p') := ⟨HD.out.rd.ex, HD.out.rd.at1, HD.out.rd.fz⟩
      go_wp2_with fail
      go_region_law (first | (refine step_append_lies _ rfl (.tmp 17) (.tmp 22) 32 rfl (w.heap.size + 2) 62 i1 (.agg #[.int .i64 0, .int .i64 0, .int .i64 0, .int .i64 0, .int .i64 0, .int .i64 0, .int .i64 0, .slice none 0 0]) 8 80 Tryd.underlying32 hj hy0 hy1 hy2 rfl (by decide) (.slice A n0 c) ss.length xs (by simp [Act.eval]) (HR6.out.alloc _) ⟨w6.heap.size, 0, none⟩ 1 1 (cells8D s (.slice ao6 s.next.length c6)) (by simp [Act.eval]) rfl (cells8D_new w6 s _ _ rfl) (cells8D_one _ _ _ _) (by decide) (by unfold maxLen; omega) (by omega) (by simp; omega) (w6.heap.size + 1) (by simp) ?_; intro g8 cap8 w8 hown8 hgrow8 hat8 hlt8; have bq8 := hgrow8.cell (HA6.out _) HNR.out; have bf8 := (hgrow8.frozen_far ⟨w.heap.size + 1, 0, none⟩ (HS6.out _) HNR.out).trans (HF6.out _)) | (go_simp; go_wp2_with (go_at_call 89; refine l71Step_any rb p' ss.length (2 + z) _ HRD.out (by omega) (by omega) (by omega) (by omega) ?_; intro s nv p6 w6 hs6 hI6 hN6 hr6 hp6 hx6; have hx6' : Ex rb wr w6 := ⟨hx6.os, hx6.tape, hx6.output, hx6.size, hx6.block⟩; have HR6 : Hid (w6.ownsRow (w.heap.size + 2) 62 8 (.slice A n0 c) ss.length xs) := own_ex HD.out.row hx6' (by omega); have bq6 := hx6'.cell bq HNE.out; have bf6 := (hx6'.frozen (p := ⟨w.heap.size + 1, 0, none⟩) hbl HNE.out).trans bf; have s6 := hx6'.size; obtain ⟨ao6, b6, o6, c6, hv6, hq6⟩ := id hI6; subst hv6; have HA6 : Hid (∀ O, (w6.alloc O).cell? ⟨w.heap.size + 1, 0, none⟩ = some (.slice A n0 c)) := fun O => cell_keep ((Below.refl _ _).alloc (Nat.le_refl _) O) bq6; have HF6 : Hid (∀ O, (w6.alloc O).frozen? ⟨w.heap.size + 1, 0, none⟩ = false) := fun O => (((Below.refl _ _).alloc (Nat.le_refl _) O).frozen (cell_lt bq6)).trans bf6; have HS6 : Hid (∀ O, w.heap.size + 1 < (w6.alloc O).heap.size) := fun O => Nat.lt_of_lt_of_le (cell_lt bq6) (by simp); have l6 : w.heap.size + 1 < w6.heap.size := cell_lt bq6; unfold stepV)))
      all_goals
        have HDN : Hid _ := DI.snoc hlt HD.out hx6' hr6 hp6 hI6 hN6 hgrow8 hown8 hat8
        have HSN : Hid (∀ t ∈ ss ++ [s], stepB t ((2 + z : Nat) : Int) = true) := by
          intro t ht
          rw [List.mem_append, List.mem_singleton] at ht
          rcases ht with ht | rfl
          · exact HST.out t ht
          · exact hs6
        clear hown8 hgrow8 hat8 bq8 bf8 bq6 bf6 hx6 hx6' hq6 hI6 hr6
        go_wp2
        go_roundw
        case rel => exact ⟨ss ++ [s], _, _, p6, by simp; omega, by simp, HDN.out, HSN.out⟩
        case measure => simp [intOf]; omega
    · have hki : ¬ ((ss.length : Int) + 1 < 2 + (z : Int)) := by omega
      have HNR : Hid (some (w.heap.size + 1) ≠ (Value.slice A n0 c).ownBlock) := fun e => by have h9 := (HD.out.row.lt _ e.symm).1; omega
      have HOK : Hid (okB (ss ++ [⟨7, 0, 0, 0, 0, 0, 0, []⟩]) = true) := by
        have e : ((ss ++ [(⟨7, 0, 0, 0, 0, 0, 0, []⟩ : St)]).length : Int) = ((2 + z : Nat) : Int) := by simp; omega
        rw [Hid, okB, Bool.and_eq_true, Bool.and_eq_true, decide_eq_true_eq, decide_eq_true_eq, List.all_eq_true]
        refine ⟨⟨by simp, by simp; omega⟩, fun t ht => ?_⟩
        rw [e]
        rw [List.mem_append, List.mem_singleton] at ht
        rcases ht with ht | rfl
        · exact HST.out t ht
        · rfl
      have HNS : Hid (some w.heap.size ≠ (Value.slice A n0 c).ownBlock) := fun e => by have h9 := (HD.out.row.lt _ e.symm).1; omega
      have rq := HD.out.res
      have rf := HD.out.resF
      have hrl : w.heap.size < wr.heap.size := by omega
      have HL : Hid (p' ≤ p + 400) := by rw [Hid]; omega
      go_wp2_with (at_builtin; refine wpList_append_lies _ rfl _ _ 32 rfl (w.heap.size + 2) 62 i1 (.agg #[.int .i64 0, .int .i64 0, .int .i64 0, .int .i64 0, .int .i64 0, .int .i64 0, .int .i64 0, .slice none 0 0]) 8 80 Tryd.underlying32 hj hy0 hy1 hy2 rfl (by decide) (.slice A n0 c) ss.length xs rfl (HD.out.row.alloc _) ⟨wr.heap.size, 0, none⟩ 1 1 (cells8D ⟨7, 0, 0, 0, 0, 0, 0, []⟩ (.slice none 0 0)) rfl rfl (cells8D_new wr ⟨7, 0, 0, 0, 0, 0, 0, []⟩ _ _ rfl) (cells8D_one _ _ _ _) (by decide) (by unfold maxLen; omega) (by omega) (by simp; omega) (wr.heap.size + 1) (by simp) ?_; intro g8 cap8 w8 hown8 hgrow8 hat8 hlt8; have bq8 := hgrow8.cell (cell_keep ((Below.refl _ _).alloc (Nat.le_refl _) _) bq) HNR.out; have bf8 := (hgrow8.frozen_far ⟨w.heap.size + 1, 0, none⟩ (Nat.lt_of_lt_of_le hbl (by simp)) HNR.out).trans ((((Below.refl _ _).alloc (Nat.le_refl _) _).frozen hbl).trans bf); have rq8 := hgrow8.cell (cell_keep ((Below.refl _ _).alloc (Nat.le_refl _) _) rq) HNS.out; have rf8 := (hgrow8.frozen_far ⟨w.heap.size, 0, none⟩ (Nat.lt_of_lt_of_le hrl (by simp)) HNS.out).trans ((((Below.refl _ _).alloc (Nat.le_refl _) _).frozen hrl).trans rf))
      have HDN : Hid _ := DI.snoc (s := ⟨7, 0, 0, 0, 0, 0, 0, []⟩) (nv := .slice none 0 0) hlt HD.out (Ex.refl rb wr) HD.out.rd (by omega) ⟨none, wr.heap.size, 0, 0, rfl, by simp, Nat.le_refl _, by simp⟩ nice_none hgrow8 hown8 hat8
      clear hown8 hgrow8 hat8
      have HF : Hid _ := HDN.out.last (x := .slice (some ⟨g8, 0, none⟩) (ss.length + 1) cap8) hlt
      go_wp2
      refine bodyPost_ret (v := .agg #[.slice (some ⟨g8, 0, none⟩) (ss.length + 1) cap8]) (by simp [results, Tryd.results70, go_sem, rq8]) rfl ?_
      exact HQ.out _ _ p' _ HOK.out (by simp; omega) HF.out.1 HF.out.2.1 HL.out HF.out.2.2
end Go.Proofs.YtljlgffkhocgkaaDoor
