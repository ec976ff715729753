/- Answers that are ways of moving: held against each other, marked, and found as they were marked. -/
import Derived.Test.YtacgfbcfkjflmaaAnsBe
import Derived.Test.YtacgfbcfkjflmaaOwnK
namespace Go.Proofs.Ytacgfbcfkjflmaa
open Go.RowKit

/-- A way of moving, both its rows in blocks from lo on, below hi, apart from each other. -/
def PlaceO (lo hi : Nat) (w : World) (v : Value) (ps ts : List Bool) : Prop :=
  ∃ pv tv, v = .agg #[pv, tv] ∧ BoolsOwn lo hi w pv ps ∧ BoolsOwn lo hi w tv ts ∧ ∀ k, pv.ownBlock = some k → tv.ownBlock ≠ some k

theorem PlaceO.keep {lo hi : Nat} {w w' : World} {v : Value} {ps ts : List Bool} (h : PlaceO lo hi w v ps ts) (hb : Below w.heap.size w w') : PlaceO lo hi w' v ps ts := by
  obtain ⟨ov, pv, e, h1, h2, h3⟩ := h
  exact ⟨ov, pv, e, h1.keep hb, h2.keep hb, h3⟩

theorem PlaceO.out {lo hi lo' hi' : Nat} {w w' : World} {v : Value} {ps ts : List Bool} (h : PlaceO lo hi w v ps ts) (ho : Out lo' hi' w w') (hr : hi ≤ lo' ∨ hi' ≤ lo) : PlaceO lo hi w' v ps ts := by
  obtain ⟨ov, pv, e, h1, h2, h3⟩ := h
  exact ⟨ov, pv, e, h1.out ho hr, h2.out ho hr, h3⟩

theorem PlaceO.form {lo hi : Nat} {w : World} {v : Value} {ps ts : List Bool} (h : PlaceO lo hi w v ps ts) : ∃ A c A' c', v = .agg #[.slice A ps.length c, .slice A' ts.length c'] := by
  obtain ⟨ov, pv, e, h1, h2, _⟩ := h
  obtain ⟨A, c, rfl⟩ := h1.slice
  obtain ⟨A', c', rfl⟩ := h2.slice
  exact ⟨A, c, A', c', e⟩

theorem BoolsOwn.lower {lo lo' hi : Nat} {w : World} {v : Value} {bs : List Bool} (h : BoolsOwn lo hi w v bs) (hl : lo' ≤ lo) : BoolsOwn lo' hi w v bs := ⟨own_lower h.1 hl, h.2⟩

theorem PlaceO.lower {lo lo' hi : Nat} {w : World} {v : Value} {ps ts : List Bool} (h : PlaceO lo hi w v ps ts) (hl : lo' ≤ lo) : PlaceO lo' hi w v ps ts := by
  obtain ⟨ov, pv, e, h1, h2, h3⟩ := h
  exact ⟨ov, pv, e, h1.lower hl, h2.lower hl, h3⟩

set_option maxHeartbeats 1000000 in
theorem eqPlace_any {Q : Ending → World → Prop} (u v : Value) (ps ts : List Bool) (lo hi lo' hi' : Nat) (w : World) (hu : PlaceO lo hi w u ps ts) (hv : PlaceO lo' hi' w v ps ts) (h1 : ps.length ≤ 1048576) (h2 : ts.length ≤ 1048576)
    (hQ : ∀ w', Below w.heap.size w w' → Q (.returned (.bool true)) w') :
    Calls Try.prog 21 #[u, v] w Q := by
  have HQ : Hid _ := hQ
  clear hQ
  obtain ⟨ov, pv, rfl, i1, i2, _⟩ := hu
  obtain ⟨ov', pv', rfl, i3, i4, _⟩ := hv
  have I1 : Hid (BoolsOwn lo hi w ov ps) := i1
  have I2 : Hid (BoolsOwn lo hi w pv ts) := i2
  have I3 : Hid (BoolsOwn lo' hi' w ov' ps) := i3
  have I4 : Hid (BoolsOwn lo' hi' w pv' ts) := i4
  obtain ⟨A, c, rfl⟩ := i1.slice
  obtain ⟨A2, c2, rfl⟩ := i2.slice
  obtain ⟨A3, c3, rfl⟩ := i3.slice
  obtain ⟨A4, c4, rfl⟩ := i4.slice
  clear i1 i2 i3 i4
  have HB0 : Hid (∀ O O', Below w.heap.size w ((w.alloc O).alloc O')) := fun O O' => ((Below.refl _ _).alloc (Nat.le_refl _) O).alloc (by simp) O'
  go_enter Try.func21, Try.ntmps21
  go_wp2_with fail
  refine eqBoolS_any _ _ ps _ _ _ _ _ (I1.out.keep (HB0.out _ _)) (I3.out.keep (HB0.out _ _)) h1 fun w1 hb1 => ?_
  have HB1 : Hid (Below w.heap.size w w1) := (HB0.out _ _).trans (hb1.mono (by simp; omega))
  have q2 : w1.cell? ⟨w.heap.size, 1, none⟩ = some (.slice A2 ts.length c2) := cell_keep hb1 (by simp [go_sem])
  have q3 : w1.cell? ⟨w.heap.size + 1, 1, none⟩ = some (.slice A4 ts.length c4) := cell_keep hb1 (by simp [go_sem])
  clear hb1
  go_wp2_with fail
  refine eqBoolS_any _ _ ts _ _ _ _ _ (I2.out.keep HB1.out) (I4.out.keep HB1.out) h2 fun w2 hb2 => ?_
  have HB2 : Hid (Below w.heap.size w w2) := HB1.out.trans (hb2.mono HB1.out.size)
  clear hb2
  go_wp2
  exact HQ.out _ HB2.out
end Go.Proofs.Ytacgfbcfkjflmaa
