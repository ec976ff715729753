/- What came of two runs held against each other; what one begins with: the laws' own small functions. And what the runs' laws carry along. -/
import Derived.Test.YtnlcdecokpdkpaaDoorSpecRunA
import Derived.Test.YtnlcdecokpdkpaaDoorDrawRunA
import Derived.Test.YtnlcdecokpdkpaaDoorLkI
namespace Go.Proofs.YtnlcdecokpdkpaaDoor
open Go.RowKit

/-- An answer of a run, to be read. -/
def ResA (w : World) (v : Value) (R : Res) : Prop := ∃ ov pv, v = .agg #[.int .i64 (R.code : Int), ov, pv] ∧ IntsL w ov R.outs ∧ IntsL w pv R.path

theorem ResO.a {lo hi : Nat} {w : World} {v : Value} {R : Res} (h : ResO lo hi w v R) : ResA w v R := by
  obtain ⟨ov, pv, e, h1, h2, _⟩ := h
  exact ⟨ov, pv, e, ownsL h1.1, ownsL h2.1⟩

theorem ResA.keep {w w' : World} {v : Value} {R : Res} (h : ResA w v R) (hb : Below w.heap.size w w') : ResA w' v R := by
  obtain ⟨ov, pv, e, h1, h2⟩ := h
  exact ⟨ov, pv, e, h1.keep hb, h2.keep hb⟩

theorem ResA.form {w : World} {v : Value} {R : Res} (h : ResA w v R) : ∃ A c A' c', v = .agg #[.int .i64 (R.code : Int), .slice A R.outs.length c, .slice A' R.path.length c'] := by
  obtain ⟨ov, pv, e, ⟨A, b, o, c, rfl, _⟩, ⟨A', b', o', c', rfl, _⟩⟩ := h
  exact ⟨A, c, A', c', e⟩

/-- A program, what comes in and the sentinels: what a run wants. -/
structure PW (w : World) (sv iv : Value) (ss : List St) (inp : List Int) (a0 a1 a2 : Addr) : Prop where
  st : StepsAt w sv ss
  ints : IntsL w iv inp
  sen : Sen w a0 a1 a2

theorem PW.keep {w w' : World} {sv iv : Value} {ss : List St} {inp : List Int} {a0 a1 a2 : Addr} (h : PW w sv iv ss inp a0 a1 a2) (hb : Below w.heap.size w w') : PW w' sv iv ss inp a0 a1 a2 := ⟨h.st.keep hb, h.ints.keep hb, h.sen.keep hb⟩

theorem implRun_w {Q : Ending → World → Prop} {sv iv : Value} {ss : List St} {inp : List Int} {a0 a1 a2 : Addr} (most : Int) (w : World) (h : PW w sv iv ss inp a0 a1 a2) (hl : ss.length ≤ 61) (hls : ∀ s ∈ ss, s.next.length ≤ 61) (hil : inp.length ≤ 20)
    (hQ : ∀ v w', Below w.heap.size w w' → ResA w' v (runOfR ss inp most) → Q (.returned v) w') : Calls Tryd.prog 16 #[.agg #[sv], iv, .int .i64 most] w Q :=
  implRun_any sv iv ss inp most a0 a1 a2 w h.st h.ints h.sen (by omega) (fun s hs => Nat.le_trans (hls s hs) (by decide)) (by omega) fun v w' hb hr => hQ v w' hb hr.a

theorem specRun_w {Q : Ending → World → Prop} {sv iv : Value} {ss : List St} {inp : List Int} {a0 a1 a2 : Addr} (most : Int) (w : World) (h : PW w sv iv ss inp a0 a1 a2) (hl : ss.length ≤ 61) (hls : ∀ s ∈ ss, s.next.length ≤ 61) (hil : inp.length ≤ 20)
    (hQ : ∀ v w', Below w.heap.size w w' → ResA w' v (runOfR ss inp most) → Q (.returned v) w') : Calls Tryd.prog 13 #[.agg #[sv], iv, .int .i64 most] w Q :=
  specRun_loop sv iv ss inp most w h.st h.ints.at (by omega) (fun s hs => Nat.le_trans (hls s hs) (by decide)) (by omega) fun v w' hb hr => hQ v w' hb hr.a

/-- A run is not long. -/
theorem runOfR_len (ss : List St) (inp : List Int) (most : Int) : (runOfR ss inp most).path.length ≤ 600 ∧ (runOfR ss inp most).outs.length ≤ 600 := by
  unfold runOfR
  split
  · next h =>
    simp only [canB, Bool.and_eq_true, inB, decide_eq_true_eq] at h
    have := run_len ss most.toNat 0 vars0 inp [] []
    simp only [List.length_nil] at this
    omega
  · simp

set_option maxHeartbeats 1000000 in
theorem lkResult_any {Q : Ending → World → Prop} (u v : Value) (R : Res) (w : World) (hu : ResA w u R) (hv : ResA w v R) (h1 : R.outs.length ≤ 1048576) (h2 : R.path.length ≤ 1048576)
    (hQ : ∀ w', Below w.heap.size w w' → Q (.returned (.bool true)) w') :
    Calls Tryd.prog 25 #[u, v] w Q := by
  have HQ : Hid _ := hQ
  clear hQ
  obtain ⟨ov, pv, rfl, i1, i2⟩ := hu
  obtain ⟨ov', pv', rfl, i3, i4⟩ := hv
  have I1 : Hid _ := i1
  have I2 : Hid _ := i2
  have I3 : Hid _ := i3
  have I4 : Hid _ := i4
  obtain ⟨A, b, o, c, rfl, _⟩ := i1
  obtain ⟨A2, b2, o2, c2, rfl, _⟩ := i2
  obtain ⟨A3, b3, o3, c3, rfl, _⟩ := i3
  obtain ⟨A4, b4, o4, c4, rfl, _⟩ := i4
  have HB0 : Hid (∀ O O', Below w.heap.size w ((w.alloc O).alloc O')) := fun O O' => ((Below.refl _ _).alloc (Nat.le_refl _) O).alloc (by simp) O'
  go_enter Tryd.func25, Tryd.ntmps25
  go_wp2_with fail
  refine lkInts_any _ _ R.outs _ (IntsL.keep I1.out (HB0.out _ _)).at (IntsL.keep I3.out (HB0.out _ _)).at h1 fun w1 hb1 => ?_
  have HB1 : Hid (Below w.heap.size w w1) := (HB0.out _ _).trans (hb1.mono (by simp; omega))
  have q2 : w1.cell? ⟨w.heap.size, 2, none⟩ = some (.slice A2 R.path.length c2) := cell_keep hb1 (by simp [go_sem])
  have q3 : w1.cell? ⟨w.heap.size + 1, 2, none⟩ = some (.slice A4 R.path.length c4) := cell_keep hb1 (by simp [go_sem])
  clear hb1
  go_wp2_with fail
  refine lkInts_any _ _ R.path _ (IntsL.keep I2.out HB1.out).at (IntsL.keep I4.out HB1.out).at h2 fun w2 hb2 => ?_
  have HB2 : Hid (Below w.heap.size w w2) := HB1.out.trans (hb2.mono HB1.out.size)
  clear hb2
  go_wp2
  exact HQ.out _ HB2.out

theorem IntsL.take {w : World} {A : Option Addr} {c : Nat} {zs ys : List Int} (h : IntsL w (.slice A zs.length c) zs) (hp : ys <+: zs) : IntsAt w (.slice A ys.length c) ys := by
  obtain ⟨ao, b, o, cap, e, h0, h1, h2⟩ := h
  cases e
  have hl := hp.length_le
  refine ⟨A, b, o, c, rfl, fun hy => h1 (by omega), fun i hi => ?_⟩
  rw [h2 i (by omega)]
  obtain ⟨t, rfl⟩ := hp
  simp [List.getD, List.getElem?_append_left hi]

set_option maxHeartbeats 1000000 in
theorem lkBegins_any {Q : Ending → World → Prop} (u v : Value) (zs ys : List Int) (w : World) (hu : IntsL w u zs) (hv : IntsL w v ys) (hp : ys <+: zs) (hl : zs.length ≤ 1048576)
    (hQ : ∀ w', Below w.heap.size w w' → Q (.returned (.bool true)) w') :
    Calls Tryd.prog 26 #[u, v] w Q := by
  have HQ : Hid _ := hQ
  clear hQ
  have I1 : Hid (IntsL w u zs) := hu
  have I2 : Hid (IntsL w v ys) := hv
  have HP : Hid (ys <+: zs) := hp
  have hle := hp.length_le
  obtain ⟨A, b, o, c, rfl, hcap, _⟩ := hu
  obtain ⟨A2, b2, o2, c2, rfl, _⟩ := hv
  have hi1 : (ys.length : Int) ≤ (zs.length : Int) := by omega
  have hi2 : (ys.length : Int) ≤ (c : Int) := by omega
  have hi3 : ys.length ≤ c := by omega
  clear hp
  go_enter Tryd.func26, Tryd.ntmps26
  go_wp2_with fail
  refine lkInts_any _ _ ys _ (I1.out.take HP.out) I2.out.at (by omega) fun w1 hb1 => ?_
  have HB1 : Hid (Below w.heap.size w w1) := hb1
  clear hb1
  go_wp2
  exact HQ.out _ HB1.out
end Go.Proofs.YtnlcdecokpdkpaaDoor
