/- The model's reader of codes: what is kept while it draws, l6Open, pick. -/
import Derived.Test.YtfbmeciolflgnaaBase
import Derived.Test.YtfbmeciolflgnaaChecked
import Derived.Deep.QuietTactic
import Derived.BigQuiet
namespace Go.Proofs.Ytfbmeciolflgnaa
open Go.RowKit

/-- All blocks but one are as they were. -/
structure Ex (rb : Nat) (w w' : World) : Prop where
  os : w'.os = w.os
  tape : w'.tape = w.tape
  output : w'.output = w.output
  size : w.heap.size ≤ w'.heap.size
  block : ∀ k, k < w.heap.size → k ≠ rb → w'.heap[k]? = w.heap[k]?

theorem Ex.refl (rb : Nat) (w : World) : Ex rb w w := ⟨rfl, rfl, rfl, Nat.le_refl _, fun _ _ _ => rfl⟩

theorem Ex.trans {rb : Nat} {a b c : World} (h : Ex rb a b) (k : Ex rb b c) : Ex rb a c :=
  ⟨k.os.trans h.os, k.tape.trans h.tape, k.output.trans h.output, Nat.le_trans h.size k.size, fun i hi hr => (k.block i (Nat.lt_of_lt_of_le hi h.size) hr).trans (h.block i hi hr)⟩

theorem Ex.of_below {rb : Nat} {w w' : World} (h : Below w.heap.size w w') : Ex rb w w' := ⟨h.os, h.tape, h.output, h.size, fun k hk _ => h.block k hk⟩

/-- What lies below the block that turns is as it was. -/
theorem Ex.below {rb : Nat} {w w' : World} (h : Ex rb w w') (hr : rb ≤ w.heap.size) : Below rb w w' := ⟨h.os, h.tape, h.output, h.size, fun k hk => h.block k (by omega) (by omega)⟩

theorem Ex.drew {rb : Nat} {a w : World} (h : Ex rb a w) : Ex rb a w.drew := ⟨h.os, h.tape, h.output, h.size, h.block⟩

theorem Ex.alloc {rb : Nat} {a w : World} (h : Ex rb a w) (o : Obj) : Ex rb a (w.alloc o) :=
  ⟨h.os, h.tape, h.output, by show a.heap.size ≤ (w.heap.push o).size; rw [Array.size_push]; exact Nat.le_succ_of_le h.size, fun k hk hr => (Below.heap_alloc w o k (Nat.lt_of_lt_of_le hk h.size)).trans (h.block k hk hr)⟩

theorem Ex.setCell {rb : Nat} {a w : World} (h : Ex rb a w) {p : Addr} (hp : p.block = rb ∨ a.heap.size ≤ p.block) (u : Value) : Ex rb a (w.setCell p u) :=
  ⟨h.os, h.tape, h.output, by simpa [World.setCell] using h.size, fun k hk hr => (Below.heap_setCell w p u k (by omega)).trans (h.block k hk hr)⟩

theorem Ex.cell {rb : Nat} {w w' : World} (h : Ex rb w w') {p : Addr} {v : Value} (hc : w.cell? p = some v) (hr : p.block ≠ rb) : w'.cell? p = some v :=
  (World.cell?_of_block (w := w) (h.block p.block (cell_lt hc) hr)).trans hc

/-- The reader in a block, come to a place. -/
structure Rd (w : World) (rb p : Nat) : Prop where
  ex : ∃ ao bb bo bl cap, w.cell? ⟨rb, 0, none⟩ = some (.slice ao bl cap) ∧ (0 < bl → ao = some ⟨bb, bo, none⟩) ∧ (0 < bl → bb < rb) ∧ bl ≤ 2000 ∧ ∀ i, i < bl → ∃ z : Nat, z < 256 ∧ w.cell? ⟨bb, bo + i, none⟩ = some (.int .u8 z)
  at1 : w.cell? ⟨rb, 1, none⟩ = some (.int .i64 p)
  fz : w.frozen? ⟨rb, 1, none⟩ = false

theorem Rd.keep {w w' : World} {rb p : Nat} (h : Rd w rb p) (hb : Below w.heap.size w w') : Rd w' rb p := by
  obtain ⟨ao, bb, bo, bl, cap, h0, h1, h2, h3, h4⟩ := h.ex
  refine ⟨⟨ao, bb, bo, bl, cap, cell_keep hb h0, h1, h2, h3, fun i hi => ?_⟩, cell_keep hb h.at1, (hb.frozen (cell_lt h.at1)).trans h.fz⟩
  obtain ⟨z, hz, hc⟩ := h4 i hi
  exact ⟨z, hz, cell_keep hb hc⟩

theorem Rd.lt {w : World} {rb p : Nat} (h : Rd w rb p) : rb < w.heap.size := cell_lt h.at1


theorem Rd.turned {w : World} {rb p q : Nat} (h : Rd w rb p) : Rd (w.setCell ⟨rb, 1, none⟩ (.int .i64 q)) rb q := by
  obtain ⟨ao, bb, bo, bl, cap, h0, h1, h2, h3, h4⟩ := h.ex
  have hlt := h.lt
  refine ⟨⟨ao, bb, bo, bl, cap, ?_, h1, h2, h3, fun i hi => ?_⟩, ?_, ?_⟩
  · simp [go_sem, h0]
  · obtain ⟨z, hz, hc⟩ := h4 i hi
    exact ⟨z, hz, by rw [cell_setOther _ _ _ _ (Nat.ne_of_lt (h2 (by omega)))]; exact hc⟩
  · simp [go_sem, h.at1]
  · simpa [go_sem] using h.fz

theorem Rd.setCell {w : World} {rb p : Nat} (h : Rd w rb p) {a : Addr} (ha : rb < a.block) (u : Value) : Rd (w.setCell a u) rb p := by
  obtain ⟨ao, bb, bo, bl, cap, h0, h1, h2, h3, h4⟩ := h.ex
  refine ⟨⟨ao, bb, bo, bl, cap, ?_, h1, h2, h3, fun i hi => ?_⟩, ?_, ?_⟩
  · rw [cell_setOther _ _ _ _ (Nat.ne_of_lt ha)]; exact h0
  · obtain ⟨z, hz, hc⟩ := h4 i hi
    exact ⟨z, hz, by rw [cell_setOther _ _ _ _ (Nat.ne_of_lt (Nat.lt_trans (h2 (by omega)) ha))]; exact hc⟩
  · rw [cell_setOther _ _ _ _ (Nat.ne_of_lt ha)]; exact h.at1
  · exact (World.frozen?_of_block (w := w) (Below.heap_setCell w a u rb (Nat.ne_of_lt ha))).trans h.fz

theorem Rd.drewN {w : World} {rb p : Nat} (h : Rd w rb p) (n : Nat) : Rd (w.drewN n) rb p := ⟨h.ex, h.at1, h.fz⟩
theorem Ex.drewN {rb : Nat} {a w : World} (h : Ex rb a w) (n : Nat) : Ex rb a (w.drewN n) := ⟨h.os, h.tape, h.output, h.size, h.block⟩

set_option maxHeartbeats 1000000 in
theorem l6Open_any {Q : Ending → World → Prop} (ao : Option Addr) (bb bo bl cap : Nat) (w : World) (ha : 0 < bl → ao = some ⟨bb, bo, none⟩) (hcap : bl ≤ cap) (hbb : 0 < bl → bb < w.heap.size)
    (hc : ∀ i, i < bl → ∃ z : Nat, z < 256 ∧ w.cell? ⟨bb, bo + i, none⟩ = some (.int .u8 z))
    (hQ : ∀ w', Rd w' w.heap.size 0 → Below w.heap.size w w' → Q (.returned (.pointer (some ⟨w.heap.size, 0, none⟩))) w') :
    Calls Try.prog 46 #[.slice ao bl cap] w Q := by
  have HQ : Hid _ := hQ
  have HC : Hid _ := hc
  have HA : Hid _ := ha
  clear hQ hc ha
  by_cases hl : 2000 < bl
  · obtain rfl := HA.out (by omega)
    go_enter Try.func46, Try.ntmps46
    go_wp2
    refine HQ.out _ ⟨⟨some ⟨bb, bo, none⟩, bb, bo, 2000, cap, ?_, fun _ => rfl, ?_, ?_, fun i hi => ?_⟩, ?_, ?_⟩ ?_
    · simp [go_sem]
    · omega
    · omega
    · obtain ⟨z, hz, hc⟩ := HC.out i (by omega)
      exact ⟨z, hz, cell_keep ((Below.refl _ _).alloc (Nat.le_refl _) _) hc⟩
    · simp [go_sem]
    · simp [go_sem]
    · exact (Below.refl _ _).alloc (Nat.le_refl _) _
  · go_enter Try.func46, Try.ntmps46
    go_wp2
    refine HQ.out _ ⟨⟨ao, bb, bo, bl, cap, ?_, HA.out, ?_, ?_, fun i hi => ?_⟩, ?_, ?_⟩ ?_
    · simp [go_sem]
    · omega
    · omega
    · obtain ⟨z, hz, hc⟩ := HC.out i (by omega)
      exact ⟨z, hz, cell_keep ((Below.refl _ _).alloc (Nat.le_refl _) _) hc⟩
    · simp [go_sem]
    · simp [go_sem]
    · exact (Below.refl _ _).alloc (Nat.le_refl _) _

theorem xor64 (x : Int) (h0 : 0 ≤ x) (h1 : x ≤ 1000000000) : ∃ y : Int, 0 ≤ y ∧ y < 1099511627776 ∧ bits .xor .i64 x (x / 64) = y := by
  obtain ⟨X, rfl⟩ : ∃ X : Nat, x = X := ⟨x.toNat, by omega⟩
  have hx : X ^^^ (X / 64) < 2 ^ 40 := Nat.xor_lt_two_pow (by omega) (by omega)
  have e : ((X : Int) / 64) = ((X / 64 : Nat) : Int) := by omega
  have g1 : (BitVec.ofInt 64 (X : Int)).toNat = X := by
    rw [BitVec.ofInt_natCast, BitVec.toNat_ofNat]; exact Nat.mod_eq_of_lt (by omega)
  have g2 : (BitVec.ofInt 64 ((X / 64 : Nat) : Int)).toNat = X / 64 := by
    rw [BitVec.ofInt_natCast, BitVec.toNat_ofNat]; exact Nat.mod_eq_of_lt (by omega)
  refine ⟨((X ^^^ (X / 64) : Nat) : Int), by omega, by omega, ?_⟩
  rw [e]
  show IntKind.i64.wrap ((BitVec.ofInt 64 (X : Int) ^^^ BitVec.ofInt 64 ((X / 64 : Nat) : Int)).toNat : Int) = _
  rw [BitVec.toNat_xor, g1, g2]
  generalize X ^^^ (X / 64) = r at *
  simp [IntKind.wrap, IntKind.bits, IntKind.signed]
  omega

set_option maxHeartbeats 2000000 in
theorem pickI_any {Q : Ending → World → Prop} (rb p : Nat) (n : Int) (w : World) (h : Rd w rb p) (hp : p ≤ 1000000) (hn : n ≤ 1000000)
    (hQ : ∀ (z : Int) w', 0 ≤ z → (0 < n → z < n) → Rd w' rb (p + 1) → Ex rb w w' → Q (.returned (.int .i64 z)) w') :
    Calls Try.prog 63 #[.pointer (some ⟨rb, 0, none⟩), .int .i64 n] w Q := by
  have HQ : Hid _ := hQ
  clear hQ
  have HR : Hid _ := h
  obtain ⟨ao, bb, bo, bl, cap, c0, ha, hne', hbl, hc⟩ := h.ex
  have c1 := h.at1
  have fz := h.fz
  have hlt := h.lt
  have HA : Hid _ := ha
  have HC : Hid _ := hc
  clear ha hc h
  have hw : Rd (w.setCell ⟨rb, 1, none⟩ (.int .i64 ((p : Int) + 1))) rb (p + 1) := HR.out.turned (q := p + 1)
  have hx : Ex rb w (w.setCell ⟨rb, 1, none⟩ (.int .i64 ((p : Int) + 1))) := Ex.setCell (Ex.refl rb w) (p := ⟨rb, 1, none⟩) (Or.inl rfl) _
  by_cases hn1 : n < 1
  · go_enter Try.func63, Try.ntmps63
    go_wp2
    exact HQ.out _ _ (by omega) (by omega) hw hx
  · have hd : decide (n < 1) = false := by simpa using hn1
    by_cases hb0 : bl = 0
    · subst hb0
      go_enter Try.func63, Try.ntmps63
      go_wp2
      exact HQ.out _ _ (by omega) (by omega) hw hx
    · obtain rfl := HA.out (by omega)
      have hne : bb ≠ rb := Nat.ne_of_lt (hne' (by omega))
      by_cases hpl : p < bl
      · obtain ⟨z, hz, hcz⟩ := HC.out p hpl
        have hcz' : (w.setCell ⟨rb, 1, none⟩ (.int .i64 ((p : Int) + 1))).cell? ⟨bb, bo + p, none⟩ = some (.int .u8 z) := by rw [cell_setOther _ _ _ _ hne]; exact hcz
        have hn0 : n ≠ 0 := by omega
        go_enter Try.func63, Try.ntmps63
        go_wp2
        exact HQ.out _ _ (Int.emod_nonneg _ hn0) (fun _ => Int.emod_lt_of_pos _ (by omega)) hw hx
      · go_enter Try.func63, Try.ntmps63
        obtain ⟨z1, hz1, hcz1⟩ := HC.out (p % bl) (Nat.mod_lt _ (by omega))
        obtain ⟨z2, hz2, hcz2⟩ := HC.out ((p * 7 + 3) % bl) (Nat.mod_lt _ (by omega))
        have d1 : (w.setCell ⟨rb, 1, none⟩ (.int .i64 ((p : Int) + 1))).cell? ⟨bb, bo + p % bl, none⟩ = some (.int .u8 z1) := by rw [cell_setOther _ _ _ _ hne]; exact hcz1
        have d2 : (w.setCell ⟨rb, 1, none⟩ (.int .i64 ((p : Int) + 1))).cell? ⟨bb, bo + (p * 7 + 3) % bl, none⟩ = some (.int .u8 z2) := by rw [cell_setOther _ _ _ _ hne]; exact hcz2
        have e1 : (p : Int).tmod bl = ((p % bl : Nat) : Int) := rfl
        have e2 : ((p : Int) * 7 + 3).tmod bl = (((p * 7 + 3) % bl : Nat) : Int) := rfl
        have i1 : p % bl < bl := Nat.mod_lt _ (by omega)
        have i2 : (p * 7 + 3) % bl < bl := Nat.mod_lt _ (by omega)
        generalize p % bl = k1 at *
        generalize (p * 7 + 3) % bl = k2 at *
        have e3 : (p : Int).tdiv bl = ((p / bl : Nat) : Int) := rfl
        have i3 : p / bl ≤ p := Nat.div_le_self _ _
        generalize p / bl = k3 at *
        have hbz : (bl : Int) ≠ 0 := by omega
        go_wp2_with fail
        go_quiet (fail)
        have hx0 : (0 : Int) ≤ (z1 : Int) * 131 + (z2 : Int) * 1117 + (p : Int) * 29 + (k3 : Int) * 53 := by omega
        have hx1 : (z1 : Int) * 131 + (z2 : Int) * 1117 + (p : Int) * 29 + (k3 : Int) * 53 ≤ 1000000000 := by omega
        generalize (z1 : Int) * 131 + (z2 : Int) * 1117 + (p : Int) * 29 + (k3 : Int) * 53 = x at *
        obtain ⟨y, hy0, hy1, hy⟩ := xor64 x hx0 hx1
        go_wp2
        exact HQ.out (y % n) _ (Int.emod_nonneg _ (by omega)) (fun h => Int.emod_lt_of_pos _ h) (hw.drewN _) (hx.drewN _)

theorem pick_any {Q : Ending → World → Prop} (rb p : Nat) (n : Int) (w : World) (h : Rd w rb p) (hp : p ≤ 1000000) (hn : n ≤ 1000000)
    (hQ : ∀ (z : Nat) w', (0 < n → (z : Int) < n) → Rd w' rb (p + 1) → Ex rb w w' → Q (.returned (.int .i64 z)) w') :
    Calls Try.prog 63 #[.pointer (some ⟨rb, 0, none⟩), .int .i64 n] w Q := by
  refine pickI_any rb p n w h hp hn fun z w' h0 h1 h2 h3 => ?_
  obtain ⟨m, rfl⟩ := Int.eq_ofNat_of_zero_le h0
  exact hQ m w' h1 h2 h3

theorem Ex.frozen {rb : Nat} {w w' : World} (h : Ex rb w w') {p : Addr} (hp : p.block < w.heap.size) (hr : p.block ≠ rb) : w'.frozen? p = w.frozen? p :=
  World.frozen?_of_block (w := w) (h.block p.block hp hr)
end Go.Proofs.Ytfbmeciolflgnaa
