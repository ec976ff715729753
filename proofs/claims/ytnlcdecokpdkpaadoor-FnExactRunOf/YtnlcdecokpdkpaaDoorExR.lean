/- What came of a run: held against another, marked, and found as it was marked: the exact law's own functions. -/
import Derived.Test.YtnlcdecokpdkpaaDoorRunM2
import Derived.Test.YtnlcdecokpdkpaaDoorEq
import Derived.Test.YtnlcdecokpdkpaaDoorMarkP
namespace Go.Proofs.YtnlcdecokpdkpaaDoor
open Go.RowKit

/-- An answer of a run, to be read. -/
def ResI (w : World) (v : Value) (R : Res) : Prop := ∃ ov pv, v = .agg #[.int .i64 (R.code : Int), ov, pv] ∧ IntsAt w ov R.outs ∧ IntsAt w pv R.path

theorem ResO.i {lo hi : Nat} {w : World} {v : Value} {R : Res} (h : ResO lo hi w v R) : ResI w v R := by
  obtain ⟨ov, pv, e, h1, h2, _⟩ := h
  exact ⟨ov, pv, e, h1.at, h2.at⟩

theorem ResO.keep {lo hi : Nat} {w w' : World} {v : Value} {R : Res} (h : ResO lo hi w v R) (hb : Below w.heap.size w w') : ResO lo hi w' v R := by
  obtain ⟨ov, pv, e, h1, h2, h3⟩ := h
  exact ⟨ov, pv, e, h1.keep hb, h2.keep hb, h3⟩

theorem ResO.out {lo hi lo' hi' : Nat} {w w' : World} {v : Value} {R : Res} (h : ResO lo hi w v R) (ho : Out lo' hi' w w') (hr : hi ≤ lo' ∨ hi' ≤ lo) : ResO lo hi w' v R := by
  obtain ⟨ov, pv, e, h1, h2, h3⟩ := h
  exact ⟨ov, pv, e, h1.out ho hr, h2.out ho hr, h3⟩

theorem ResO.form {lo hi : Nat} {w : World} {v : Value} {R : Res} (h : ResO lo hi w v R) : ∃ A c A' c', v = .agg #[.int .i64 (R.code : Int), .slice A R.outs.length c, .slice A' R.path.length c'] := by
  obtain ⟨ov, pv, e, h1, h2, _⟩ := h
  obtain ⟨A, c, rfl⟩ := h1.slice
  obtain ⟨A', c', rfl⟩ := h2.slice
  exact ⟨A, c, A', c', e⟩

set_option maxHeartbeats 1000000 in
theorem eqResult_any {Q : Ending → World → Prop} (u v : Value) (R : Res) (w : World) (hu : ResI w u R) (hv : ResI w v R) (h1 : R.outs.length ≤ 1048576) (h2 : R.path.length ≤ 1048576)
    (hQ : ∀ w', Below w.heap.size w w' → Q (.returned (.bool true)) w') :
    Calls Tryd.prog 17 #[u, v] w Q := by
  have HQ : Hid _ := hQ
  clear hQ
  obtain ⟨ov, pv, rfl, i1, i2⟩ := hu
  obtain ⟨ov', pv', rfl, i3, i4⟩ := hv
  have I1 : Hid (IntsAt w ov R.outs) := i1
  have I2 : Hid (IntsAt w pv R.path) := i2
  have I3 : Hid (IntsAt w ov' R.outs) := i3
  have I4 : Hid (IntsAt w pv' R.path) := i4
  obtain ⟨A, b, o, c, rfl, _⟩ := i1
  obtain ⟨A2, b2, o2, c2, rfl, _⟩ := i2
  obtain ⟨A3, b3, o3, c3, rfl, _⟩ := i3
  obtain ⟨A4, b4, o4, c4, rfl, _⟩ := i4
  have HB0 : Hid (∀ O O', Below w.heap.size w ((w.alloc O).alloc O')) := fun O O' => ((Below.refl _ _).alloc (Nat.le_refl _) O).alloc (by simp) O'
  go_enter Tryd.func17, Tryd.ntmps17
  go_wp2_with fail
  refine eqIntS_any _ _ R.outs _ (I1.out.keep (HB0.out _ _)) (I3.out.keep (HB0.out _ _)) h1 fun w1 hb1 => ?_
  have HB1 : Hid (Below w.heap.size w w1) := (HB0.out _ _).trans (hb1.mono (by simp; omega))
  have q2 : w1.cell? ⟨w.heap.size, 2, none⟩ = some (.slice A2 R.path.length c2) := cell_keep hb1 (by simp [go_sem])
  have q3 : w1.cell? ⟨w.heap.size + 1, 2, none⟩ = some (.slice A4 R.path.length c4) := cell_keep hb1 (by simp [go_sem])
  clear hb1
  go_wp2_with fail
  refine eqIntS_any _ _ R.path _ (I2.out.keep HB1.out) (I4.out.keep HB1.out) h2 fun w2 hb2 => ?_
  have HB2 : Hid (Below w.heap.size w w2) := HB1.out.trans (hb2.mono HB1.out.size)
  clear hb2
  go_wp2
  exact HQ.out _ HB2.out

/-- The marks of a result. -/
def markRes (R : Res) : Res := ⟨R.code, markN 1 R.outs.length, markN (1 + R.outs.length) R.path.length⟩

set_option maxHeartbeats 1000000 in
theorem markResult_any {Q : Ending → World → Prop} (v : Value) (R : Res) (lo hi : Nat) (w : World) (h : ResO lo hi w v R) (hh : hi ≤ w.heap.size) (h1 : R.outs.length ≤ 1048576) (h2 : R.path.length ≤ 1048576)
    (hQ : ∀ w', Out lo hi w w' → ResO lo hi w' v (markRes R) → Q (.returned (.int .i64 ((1 + R.outs.length + R.path.length : Nat) : Int))) w') :
    Calls Tryd.prog 22 #[v, .int .i64 1] w Q := by
  have HQ : Hid _ := hQ
  clear hQ
  obtain ⟨ov, pv, rfl, i1, i2, ap⟩ := h
  have I1 : Hid (IntsO lo hi w ov R.outs) := i1
  have I2 : Hid (IntsO lo hi w pv R.path) := i2
  have AP : Hid (∀ k, ov.ownBlock = some k → pv.ownBlock ≠ some k) := ap
  obtain ⟨A, c, rfl⟩ := i1.slice
  obtain ⟨A2, c2, rfl⟩ := i2.slice
  clear i1 i2 ap
  have hb0 : ∀ O, Below w.heap.size w (w.alloc O) := fun O => (Below.refl _ _).alloc (Nat.le_refl _) O
  have HB0 : Hid (∀ O, Below w.heap.size w (w.alloc O)) := hb0
  go_enter Tryd.func22, Tryd.ntmps22
  go_wp2_with fail
  refine markInts_own _ R.outs 1 lo hi _ (I1.out.keep (hb0 _)) (by omega) h1 fun w1 ho1 hm1 hg1 => ?_
  have q2 : w1.cell? ⟨w.heap.size, 2, none⟩ = some (.slice A2 R.path.length c2) := ho1.cell (by simp [go_sem]) (Or.inr hh)
  have HO1 : Hid (Out lo hi w w1) := (Out.of_below (HB0.out _)).trans ho1
  have HM1 : Hid (IntsO lo hi w1 (.slice A R.outs.length c) (markN 1 R.outs.length)) := hm1
  have HP1 : Hid (IntsO lo hi w1 (.slice A2 R.path.length c2) R.path) := by
    refine ⟨(I2.out.keep (HB0.out _)).1.kept hg1 ?_, I2.out.2⟩
    cases hb : (Value.slice A2 R.path.length c2).ownBlock with
    | none => exact Or.inl rfl
    | some q => exact Or.inr fun e2 => AP.out q e2.symm hb
  clear ho1 hm1 hg1 hb0
  go_wp2_with fail
  refine markInts_own _ R.path (1 + R.outs.length) lo hi _ HP1.out (by omega) h2 fun w2 ho2 hm2 hg2 => ?_
  have HO2 : Hid (Out lo hi w w2) := HO1.out.trans ho2
  have HM2 : Hid (IntsO lo hi w2 (.slice A R.outs.length c) (markN 1 R.outs.length)) := by
    refine ⟨HM1.out.1.kept hg2 ?_, HM1.out.2⟩
    cases hb : (Value.slice A R.outs.length c).ownBlock with
    | none => exact Or.inl rfl
    | some q => exact Or.inr fun e2 => AP.out q hb e2.symm
  have HN2 : Hid (IntsO lo hi w2 (.slice A2 R.path.length c2) (markN (1 + R.outs.length) R.path.length)) := hm2
  clear ho2 hm2 hg2
  go_wp2
  exact HQ.out _ HO2.out ⟨_, _, rfl, HM2.out, HN2.out, AP.out⟩

set_option maxHeartbeats 1000000 in
theorem heldResult_any {Q : Ending → World → Prop} (v : Value) (R : Res) (lo hi : Nat) (w : World) (h : ResO lo hi w v (markRes R)) (h1 : R.outs.length ≤ 1048576) (h2 : R.path.length ≤ 1048576)
    (hQ : ∀ w', Below w.heap.size w w' → Q (.returned (.int .i64 ((1 + R.outs.length + R.path.length : Nat) : Int))) w') :
    Calls Tryd.prog 23 #[v, .int .i64 1] w Q := by
  have HQ : Hid _ := hQ
  clear hQ
  obtain ⟨ov, pv, rfl, i1, i2, ap⟩ := h
  have I1 : Hid (IntsO lo hi w ov (markN 1 R.outs.length)) := i1
  have I2 : Hid (IntsO lo hi w pv (markN (1 + R.outs.length) R.path.length)) := i2
  obtain ⟨A, c, hov⟩ := i1.slice
  obtain ⟨A2, c2, hpv⟩ := i2.slice
  have hov' : ov = .slice A R.outs.length c := by rw [hov]; simp [markRes, length_markN]
  have hpv' : pv = .slice A2 R.path.length c2 := by rw [hpv]; simp [markRes, length_markN]
  clear hov hpv
  subst hov' hpv'
  clear i1 i2 ap
  have hb0 : ∀ O, Below w.heap.size w (w.alloc O) := fun O => (Below.refl _ _).alloc (Nat.le_refl _) O
  generalize (markRes R).code = cd
  go_enter Tryd.func23, Tryd.ntmps23
  go_wp2_with fail
  refine heldInts_any _ 1 R.outs.length lo hi _ (I1.out.keep (hb0 _)) (by omega) h1 fun w1 hb1 => ?_
  have HB1 : Hid (Below w.heap.size w w1) := (hb0 _).trans (hb1.mono (by simp))
  have q2 : w1.cell? ⟨w.heap.size, 2, none⟩ = some (.slice A2 R.path.length c2) := cell_keep hb1 (by simp [go_sem])
  have hn1 : ¬ (((1 + R.outs.length : Nat) : Int) < 0) := by omega
  clear hb1 hb0
  go_wp2_with fail
  refine heldInts_any _ (1 + R.outs.length) R.path.length lo hi _ (I2.out.keep HB1.out) (by omega) h2 fun w2 hb2 => ?_
  have HB2 : Hid (Below w.heap.size w w2) := HB1.out.trans (hb2.mono HB1.out.size)
  have hn2 : ¬ (((1 + R.outs.length + R.path.length : Nat) : Int) < 0) := by omega
  clear hb2
  go_wp2
  exact HQ.out _ HB2.out
end Go.Proofs.YtnlcdecokpdkpaaDoor
