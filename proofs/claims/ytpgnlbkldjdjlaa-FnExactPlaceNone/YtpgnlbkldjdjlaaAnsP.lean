/- Answers that are ways of moving: held against each other, marked, and found as they were marked. -/
import Derived.Test.YtpgnlbkldjdjlaaAnsB
import Derived.Test.YtpgnlbkldjdjlaaOwnK
namespace Go.Proofs.Ytpgnlbkldjdjlaa
open Go.RowKit

/-- A way of moving, both its rows in blocks from lo on, below hi, apart from each other. -/
def PlaceO (lo hi : Nat) (w : World) (v : Value) (ps ts : List Bool) : Prop :=
  ∃ pv tv, v = .agg #[pv, tv] ∧ BoolsOwn lo hi w pv ps ∧ BoolsOwn lo hi w tv ts ∧ ∀ k, pv.ownBlock = some k → tv.ownBlock ≠ some k

theorem PlaceO.keep {lo hi : Nat} {w w' : World} {v : Value} {ps ts : List Bool} (h : PlaceO lo hi w v ps ts) (hb : Below w.heap.size w w') : PlaceO lo hi w' v ps ts := by
  obtain ⟨ov, pv, e, h1, h2, h3⟩ := h
  exact ⟨ov, pv, e, h1.keep hb, h2.keep hb, h3⟩

theorem PlaceO.out {lo hi lo' hi' : Nat} {w w' : World} {v : Value} {ps ts : List Bool} (h : PlaceO lo hi w v ps ts) (ho : Out lo' hi' w w') (hr : hi ≤ lo' ∨ hi' ≤ lo) : PlaceO lo hi w' v ps ts := by
  obtain ⟨ov, pv, e, h1, h2, h3⟩ := h
  exact ⟨ov, pv, e, h1.out ho hr, h2.out ho hr, h3⟩

theorem PlaceO.form {lo hi : Nat} {w : World} {v : Value} {ps ts : List Bool} (h : PlaceO lo hi w v ps ts) : ∃ A c A' c', v = .agg #[.slice A ps.length c, .slice A' ts.length c'] := by
  obtain ⟨ov, pv, e, h1, h2, _⟩ := h
  obtain ⟨A, c, rfl⟩ := h1.slice
  obtain ⟨A', c', rfl⟩ := h2.slice
  exact ⟨A, c, A', c', e⟩

theorem BoolsOwn.lower {lo lo' hi : Nat} {w : World} {v : Value} {bs : List Bool} (h : BoolsOwn lo hi w v bs) (hl : lo' ≤ lo) : BoolsOwn lo' hi w v bs := ⟨own_lower h.1 hl, h.2⟩

theorem PlaceO.lower {lo lo' hi : Nat} {w : World} {v : Value} {ps ts : List Bool} (h : PlaceO lo hi w v ps ts) (hl : lo' ≤ lo) : PlaceO lo' hi w v ps ts := by
  obtain ⟨ov, pv, e, h1, h2, h3⟩ := h
  exact ⟨ov, pv, e, h1.lower hl, h2.lower hl, h3⟩

set_option maxHeartbeats 1000000 in
theorem eqPlace_any {Q : Ending → World → Prop} (u v : Value) (ps ts : List Bool) (lo hi lo' hi' : Nat) (w : World) (hu : PlaceO lo hi w u ps ts) (hv : PlaceO lo' hi' w v ps ts) (h1 : ps.length ≤ 1048576) (h2 : ts.length ≤ 1048576)
    (hQ : ∀ w', Below w.heap.size w w' → Q (.returned (.bool true)) w') :
    Calls Try.prog 11 #[u, v] w Q := by
  have HQ : Hid _ := hQ
  clear hQ
  obtain ⟨ov, pv, rfl, i1, i2, _⟩ := hu
  obtain ⟨ov', pv', rfl, i3, i4, _⟩ := hv
  have I1 : Hid (BoolsOwn lo hi w ov ps) := i1
  have I2 : Hid (BoolsOwn lo hi w pv ts) := i2
  have I3 : Hid (BoolsOwn lo' hi' w ov' ps) := i3
  have I4 : Hid (BoolsOwn lo' hi' w pv' ts) := i4
  obtain ⟨A, c, rfl⟩ := i1.slice
  obtain ⟨A2, c2, rfl⟩ := i2.slice
  obtain ⟨A3, c3, rfl⟩ := i3.slice
  obtain ⟨A4, c4, rfl⟩ := i4.slice
  clear i1 i2 i3 i4
  have HB0 : Hid (∀ O O', Below w.heap.size w ((w.alloc O).alloc O')) := fun O O' => ((Below.refl _ _).alloc (Nat.le_refl _) O).alloc (by simp) O'
  go_enter Try.func11, Try.ntmps11
  go_wp2_with fail
  refine eqBoolS_any _ _ ps _ _ _ _ _ (I1.out.keep (HB0.out _ _)) (I3.out.keep (HB0.out _ _)) h1 fun w1 hb1 => ?_
  have HB1 : Hid (Below w.heap.size w w1) := (HB0.out _ _).trans (hb1.mono (by simp; omega))
  have q2 : w1.cell? ⟨w.heap.size, 1, none⟩ = some (.slice A2 ts.length c2) := cell_keep hb1 (by simp [go_sem])
  have q3 : w1.cell? ⟨w.heap.size + 1, 1, none⟩ = some (.slice A4 ts.length c4) := cell_keep hb1 (by simp [go_sem])
  clear hb1
  go_wp2_with fail
  refine eqBoolS_any _ _ ts _ _ _ _ _ (I2.out.keep HB1.out) (I4.out.keep HB1.out) h2 fun w2 hb2 => ?_
  have HB2 : Hid (Below w.heap.size w w2) := HB1.out.trans (hb2.mono HB1.out.size)
  clear hb2
  go_wp2
  exact HQ.out _ HB2.out

set_option maxHeartbeats 1000000 in
theorem markPlace_any {Q : Ending → World → Prop} (v : Value) (ps ts : List Bool) (k lo hi : Nat) (w : World) (h : PlaceO lo hi w v ps ts) (hk : k ≤ 1099511627776) (hh : hi ≤ w.heap.size) (h1 : ps.length ≤ 1048576) (h2 : ts.length ≤ 1048576)
    (hQ : ∀ w', Out lo hi w w' → PlaceO lo hi w' v (markB k ps.length) (markB (k + ps.length) ts.length) → Q (.returned (.int .i64 ((k + ps.length + ts.length : Nat) : Int))) w') :
    Calls Try.prog 14 #[v, .int .i64 (k : Int)] w Q := by
  have HQ : Hid _ := hQ
  clear hQ
  obtain ⟨ov, pv, rfl, i1, i2, ap⟩ := h
  have I1 : Hid (BoolsOwn lo hi w ov ps) := i1
  have I2 : Hid (BoolsOwn lo hi w pv ts) := i2
  have AP : Hid (∀ k, ov.ownBlock = some k → pv.ownBlock ≠ some k) := ap
  obtain ⟨A, c, rfl⟩ := i1.slice
  obtain ⟨A2, c2, rfl⟩ := i2.slice
  clear i1 i2 ap
  have hb0 : ∀ O, Below w.heap.size w (w.alloc O) := fun O => (Below.refl _ _).alloc (Nat.le_refl _) O
  have HB0 : Hid (∀ O, Below w.heap.size w (w.alloc O)) := hb0
  go_enter Try.func14, Try.ntmps14
  go_wp2_with fail
  refine markBoolS_own _ ps k lo hi _ (I1.out.keep (hb0 _)) (by omega) h1 fun w1 ho1 hm1 hg1 => ?_
  have q2 : w1.cell? ⟨w.heap.size, 1, none⟩ = some (.slice A2 ts.length c2) := ho1.cell (by simp [go_sem]) (Or.inr hh)
  have HO1 : Hid (Out lo hi w w1) := (Out.of_below (HB0.out _)).trans ho1
  have HM1 : Hid (BoolsOwn lo hi w1 (.slice A ps.length c) (markB k ps.length)) := hm1
  have HP1 : Hid (BoolsOwn lo hi w1 (.slice A2 ts.length c2) ts) := by
    refine ⟨(I2.out.keep (HB0.out _)).1.kept hg1 ?_, I2.out.2⟩
    cases hb : (Value.slice A2 ts.length c2).ownBlock with
    | none => exact Or.inl rfl
    | some q => exact Or.inr fun e2 => AP.out q e2.symm hb
  clear ho1 hm1 hg1 hb0
  go_wp2_with fail
  refine markBoolS_own _ ts (k + ps.length) lo hi _ HP1.out (by omega) h2 fun w2 ho2 hm2 hg2 => ?_
  have HO2 : Hid (Out lo hi w w2) := HO1.out.trans ho2
  have HM2 : Hid (BoolsOwn lo hi w2 (.slice A ps.length c) (markB k ps.length)) := by
    refine ⟨HM1.out.1.kept hg2 ?_, HM1.out.2⟩
    cases hb : (Value.slice A ps.length c).ownBlock with
    | none => exact Or.inl rfl
    | some q => exact Or.inr fun e2 => AP.out q hb e2.symm
  have HN2 : Hid (BoolsOwn lo hi w2 (.slice A2 ts.length c2) (markB (k + ps.length) ts.length)) := hm2
  clear ho2 hm2 hg2
  go_wp2
  exact HQ.out _ HO2.out ⟨_, _, rfl, HM2.out, HN2.out, AP.out⟩

set_option maxHeartbeats 1000000 in
theorem heldPlace_any {Q : Ending → World → Prop} (v : Value) (k n m lo hi : Nat) (w : World) (h : PlaceO lo hi w v (markB k n) (markB (k + n) m)) (hk : k ≤ 1099511627776) (h1 : n ≤ 1048576) (h2 : m ≤ 1048576)
    (hQ : ∀ w', Below w.heap.size w w' → Q (.returned (.int .i64 ((k + n + m : Nat) : Int))) w') :
    Calls Try.prog 15 #[v, .int .i64 (k : Int)] w Q := by
  have HQ : Hid _ := hQ
  clear hQ
  obtain ⟨ov, pv, rfl, i1, i2, ap⟩ := h
  have I1 : Hid (BoolsOwn lo hi w ov (markB k n)) := i1
  have I2 : Hid (BoolsOwn lo hi w pv (markB (k + n) m)) := i2
  obtain ⟨A, c, hov⟩ := i1.slice
  obtain ⟨A2, c2, hpv⟩ := i2.slice
  have hov' : ov = .slice A n c := by rw [hov]; simp [length_markB]
  have hpv' : pv = .slice A2 m c2 := by rw [hpv]; simp [length_markB]
  clear hov hpv
  subst hov' hpv'
  clear i1 i2 ap
  have hb0 : ∀ O, Below w.heap.size w (w.alloc O) := fun O => (Below.refl _ _).alloc (Nat.le_refl _) O
  go_enter Try.func15, Try.ntmps15
  go_wp2_with fail
  refine heldBoolS_any _ k n lo hi _ (I1.out.keep (hb0 _)) (by omega) h1 fun w1 hb1 => ?_
  have HB1 : Hid (Below w.heap.size w w1) := (hb0 _).trans (hb1.mono (by simp))
  have q2 : w1.cell? ⟨w.heap.size, 1, none⟩ = some (.slice A2 m c2) := cell_keep hb1 (by simp [go_sem])
  have hn1 : ¬ (((k + n : Nat) : Int) < 0) := by omega
  clear hb1 hb0
  go_wp2_with fail
  refine heldBoolS_any _ (k + n) m lo hi _ (I2.out.keep HB1.out) (by omega) h2 fun w2 hb2 => ?_
  have HB2 : Hid (Below w.heap.size w w2) := HB1.out.trans (hb2.mono HB1.out.size)
  have hn2 : ¬ (((k + n + m : Nat) : Int) < 0) := by omega
  clear hb2
  go_wp2
  exact HQ.out _ HB2.out
end Go.Proofs.Ytpgnlbkldjdjlaa
