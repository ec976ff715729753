/-
  At every program, every row of numbers and every number that come in, RunOf answers as the model does, changes nothing of what came in, and its answer is memory of its own: the law FnExactRunOf answers true. No condition.
-/
import Derived.Test.YtnlcdecokpdkpaaDoorRows
import Derived.Test.YtnlcdecokpdkpaaDoorCards
import Derived.Test.YtnlcdecokpdkpaaDoorTie
import Derived.Test.YtnlcdecokpdkpaaDoorSents
import Derived.Test.YtnlcdecokpdkpaaDoorExR
import Derived.Test.YtnlcdecokpdkpaaDoorSpecRunA
import Derived.Test.YtnlcdecokpdkpaaDoorSz
import Derived.Test.YtnlcdecokpdkpaaDoorTo
import Derived.Test.YtnlcdecokpdkpaaDoorOpen
import Derived.OpenShut
import Derived.ShutString
import Derived.ChangeOld
import Derived.Below
import Derived.OpenVars
import Derived.Lay
import Derived.SevenTiedAt
import Derived.Stop.Joined
namespace Go.Proofs.YtnlcdecokpdkpaaDoor
open Go.ChangeShapes Go.WideShapes Go.ChangeAt Go.RowKit

/-- A run is not long. -/
theorem runOfR_short (ss : List St) (inp : List Int) (most : Int) : (runOfR ss inp most).path.length ≤ 600 ∧ (runOfR ss inp most).outs.length ≤ 600 := by
  unfold runOfR
  split
  · next h =>
    simp only [canB, Bool.and_eq_true, inB, decide_eq_true_eq] at h
    have := run_len ss most.toNat 0 vars0 inp [] []
    simp only [List.length_nil] at this
    omega
  · simp

theorem IntsOwn.l {lo : Nat} {w : World} {v : Value} {zs : List Int} (h : IntsOwn lo w v zs) : IntsL w v zs := by
  obtain ⟨b, hv, _, hr⟩ := h
  exact ⟨_, b, 0, _, hv, Nat.le_refl _, fun _ => rfl, fun i hi => by rw [Nat.zero_add, hr.cell hi]⟩

theorem may_out {lo hi b : Nat} {w w' : World} (h : w' = w ∨ ∃ nb N f f', lo ≤ nb ∧ nb < hi ∧ nb ≠ b ∧ w.rowIs nb 3 N f ∧ w'.rowIs nb 3 N f' ∧ w.grownBy w' (some nb)) : Out lo hi w w' := by
  rcases h with rfl | ⟨nb, _, _, _, h1, h2, _, _, _, hg⟩
  · exact Out.refl _ _ _
  · exact Out.grown hg fun k hk => by cases hk; exact ⟨h1, h2⟩

theorem RowMay.out {lo hi b lo' hi' : Nat} {w w' : World} {v : Value} {n : Nat} (h : RowMay lo hi b w v n) (ho : Out lo' hi' w w') (hr : hi ≤ lo' ∨ hi' ≤ lo) : RowMay lo hi b w' v n := by
  obtain ⟨ao, nb, cap, h1, h2⟩ := h
  refine ⟨ao, nb, cap, h1, fun hp => ?_⟩
  obtain ⟨a1, a2, a3, a4, N, f, a5, a6⟩ := h2 hp
  exact ⟨a1, a2, a3, a4, N, f, a5, a6.of_block (ho.block nb a6.lt (hr.elim (fun e => Or.inl (Nat.lt_of_lt_of_le a3 e)) (fun e => Or.inr (Nat.le_trans e a2))))⟩

set_option maxRecDepth 100000 in
set_option maxHeartbeats 8000000 in
theorem law_walk (v x : Value) (ss : List St) (inp : List Int) (most : Int) (w : World) (a0 a1 a2 : Addr) (hs : Sen w a0 a1 a2) (h : StepsAt w v ss) (hl : ss.length ≤ 9223372036854775807) (hls : ∀ s ∈ ss, s.next.length ≤ 9223372036854775807) (hi : IntsAt w x inp) (hil : inp.length ≤ 9223372036854775807) {Q : Ending → World → Prop}
    (hQ : ∀ w', Below w.heap.size w w' → Q (.returned (.bool true)) w') :
    Calls Tryd.prog 3 #[.agg #[v], x, .int .i64 most] w Q := by
  have HQ : Hid (∀ w', Below w.heap.size w w' → Q (.returned (.bool true)) w') := hQ
  have HSEN : Hid (Sen w a0 a1 a2) := hs
  clear hQ hs
  obtain ⟨ao, b, o, cap, rfl, ha, hc⟩ := id h
  obtain ⟨aox, bx, ox, capx, rfl, hax, hcx⟩ := id hi
  have HH : Hid (StepsAt w (.slice ao ss.length cap) ss) := h
  have HI : Hid (IntsAt w (.slice aox inp.length capx) inp) := hi
  have HL : Hid (∀ s ∈ ss, s.next.length ≤ 9223372036854775807) := hls
  clear ha hc h hls hax hcx hi
  have hb0 : ∀ O, Below w.heap.size w (w.alloc O) := fun O => (Below.refl _ _).alloc (Nat.le_refl _) O
  by_cases hbig : 1048576 < inp.length
  · have hbi : (1048576 : Int) < (inp.length : Int) := by omega
    go_enter Tryd.func3, Tryd.ntmps3
    go_wp2
    exact HQ.out _ (hb0 _)
  have hbi : ¬ ((1048576 : Int) < (inp.length : Int)) := by omega
  have hin : inp.length ≤ 1048576 := by omega
  obtain ⟨hrp, hro⟩ := runOfR_short ss inp most
  go_enter Tryd.func3, Tryd.ntmps3
  go_wp2_with fail
  refine szProg_any (.slice ao ss.length cap) ss 1048576 _ (HH.out.keep (hb0 _)) hl HL.out (by omega) (by omega) fun r w1 hr hz hb1 => ?_
  have hbA : Below w.heap.size w w1 := (hb0 _).trans (hb1.mono (by simp))
  have q1 : w1.cell? ⟨w.heap.size, 0, none⟩ = some (.slice ao ss.length cap) := cell_keep hb1 (by simp [go_sem])
  have HZ : Hid (0 ≤ r → ss.length ≤ (1048576 : Int) ∧ ∀ s ∈ ss, s.next.length ≤ (1048576 : Int)) := hz
  clear hb1 hb0 hz
  by_cases hneg : r < 0
  · go_wp2
    exact HQ.out _ hbA
  have hn : ss.length ≤ 1048576 := by have := (HZ.out (by omega)).1; omega
  have HN : Hid (∀ s ∈ ss, s.next.length ≤ 1048576) := fun s hs => by have := (HZ.out (by omega)).2 s hs; omega
  clear HZ HL hl
  -- the model's answer
  go_wp2_with fail
  refine toProg_any (.slice ao ss.length cap) ss _ (HH.out.keep hbA) hn HN.out fun v2 w2 hs2 hb2 => ?_
  have hbB : Below w.heap.size w w2 := hbA.trans (hb2.mono hbA.size)
  have q2 := cell_keep hb2 q1
  obtain ⟨ao2, b2, o2, cap2, hv2, _, _, _⟩ := id hs2
  subst hv2
  have HS2 : Hid (StepsAt w2 (.slice ao2 ss.length cap2) ss) := hs2.at
  clear hb2 hs2 q1 hbA
  go_wp2_with fail
  refine toIntS_any _ inp _ (HI.out.keep hbB) hin fun v3 w3 ho3 hb3 => ?_
  have hbC : Below w.heap.size w w3 := hbB.trans (hb3.mono hbB.size)
  have q3 := cell_keep hb3 q2
  have HS3 : Hid (StepsAt w3 (.slice ao2 ss.length cap2) ss) := HS2.out.keep hb3
  have HI3 : Hid (IntsL w3 v3 inp) := ho3.l
  obtain ⟨b3, hv3, _⟩ := ho3
  subst hv3
  clear hb3 HS2 q2 hbB
  go_wp2_with fail
  refine specRun_loop _ _ ss inp most _ HS3.out HI3.out.at hn HN.out hin fun v4 w4 hb4 hr4 => ?_
  have hbD : Below w.heap.size w w4 := hbC.trans (hb4.mono hbC.size)
  have q4 := cell_keep hb4 q3
  obtain ⟨A4, c4, A4', c4', hv4⟩ := hr4.form
  subst hv4
  have HW4 : Hid (ResO w3.heap.size w4.heap.size w4 (.agg #[.int .i64 ((runOfR ss inp most).code : Int), .slice A4 (runOfR ss inp most).outs.length c4, .slice A4' (runOfR ss inp most).path.length c4']) (runOfR ss inp most)) := hr4
  have s34 : w3.heap.size ≤ w4.heap.size := hb4.size
  have s4 : w.heap.size < w4.heap.size := cell_lt q4
  have s4' : w.heap.size ≠ w4.heap.size := by omega
  have s3 : w.heap.size < w3.heap.size := cell_lt q3
  clear hb4 hr4 HS3 HI3 q3 hbC
  -- what the program is handed
  go_wp2_with fail
  have hb5 : ∀ (W : World) O, Below W.heap.size W (W.alloc O) := fun W O => (Below.refl _ _).alloc (Nat.le_refl _) O
  refine toProg_own (.slice ao ss.length cap) ss _ (HH.out.keep (hbD.trans ((hb5 _ _).mono (by omega)))) hn HN.out fun v6 w6 hs6 hb6 => ?_
  rw [show (w4.alloc (.cells #[.int .i64 ((runOfR ss inp most).code : Int), .slice A4 (runOfR ss inp most).outs.length c4, .slice A4' (runOfR ss inp most).path.length c4'] 28)).heap.size = w4.heap.size + 1 by simp] at hs6 hb6
  have hbE : Below w.heap.size w w6 := (hbD.trans ((hb5 _ _).mono (by omega))).trans (hb6.mono (by omega))
  have q6 := cell_keep (((hb5 _ _).trans (hb6.mono (by omega))) : Below w4.heap.size w4 w6) q4
  have u0 : w6.cell? ⟨w4.heap.size, 0, none⟩ = some (.int .i64 ((runOfR ss inp most).code : Int)) := hb6.cell (p := ⟨w4.heap.size, 0, none⟩) (by show w4.heap.size < w4.heap.size + 1; omega) |>.trans (by simp [go_sem])
  have u1 : w6.cell? ⟨w4.heap.size, 1, none⟩ = some (.slice A4 (runOfR ss inp most).outs.length c4) := hb6.cell (p := ⟨w4.heap.size, 1, none⟩) (by show w4.heap.size < w4.heap.size + 1; omega) |>.trans (by simp [go_sem])
  have u2 : w6.cell? ⟨w4.heap.size, 2, none⟩ = some (.slice A4' (runOfR ss inp most).path.length c4') := hb6.cell (p := ⟨w4.heap.size, 2, none⟩) (by show w4.heap.size < w4.heap.size + 1; omega) |>.trans (by simp [go_sem])
  have HW6 : Hid (ResO w3.heap.size w4.heap.size w6 (.agg #[.int .i64 ((runOfR ss inp most).code : Int), .slice A4 (runOfR ss inp most).outs.length c4, .slice A4' (runOfR ss inp most).path.length c4']) (runOfR ss inp most)) := HW4.out.keep ((hb5 _ _).trans (hb6.mono (by omega)))
  obtain ⟨b6, f6, hv6, _⟩ := id hs6
  subst hv6
  have HS6 : Hid (StepsOwn (w4.heap.size + 1) w6 (.slice (some ⟨b6, 0, none⟩) ss.length ss.length) ss) := hs6
  have HM6 : Hid (StepsMay (w4.heap.size + 1) w6.heap.size w6 (.slice (some ⟨b6, 0, none⟩) ss.length ss.length) (ss.map (fun s => s.next.length))) := hs6.may
  have s46 : w4.heap.size < w6.heap.size := cell_lt u0
  have s46' : w4.heap.size ≠ w6.heap.size := by omega
  have s06 : w.heap.size ≠ w6.heap.size := by omega
  clear hb6 hs6 q4 hbD HW4
  go_wp2_with fail
  refine toIntS_any _ inp _ (HI.out.keep (hbE.trans ((hb5 _ _).mono hbE.size))) hin fun v7 w7 ho7 hb7 => ?_
  rw [show (w6.alloc (.cells #[.slice (some ⟨b6, 0, none⟩) ss.length ss.length] 32)).heap.size = w6.heap.size + 1 by simp] at ho7 hb7
  have hb67 : Below w6.heap.size w6 w7 := (hb5 _ _).trans (hb7.mono (by omega))
  have hbF : Below w.heap.size w w7 := hbE.trans (hb67.mono hbE.size)
  have q7 := cell_keep hb67 q6
  have y0 := cell_keep hb67 u0
  have y1 := cell_keep hb67 u1
  have y2 := cell_keep hb67 u2
  have x7 : w7.cell? ⟨w6.heap.size, 0, none⟩ = some (.slice (some ⟨b6, 0, none⟩) ss.length ss.length) := hb7.cell (p := ⟨w6.heap.size, 0, none⟩) (by show w6.heap.size < w6.heap.size + 1; omega) |>.trans (by simp [go_sem])
  have HW7 : Hid (ResO w3.heap.size w4.heap.size w7 (.agg #[.int .i64 ((runOfR ss inp most).code : Int), .slice A4 (runOfR ss inp most).outs.length c4, .slice A4' (runOfR ss inp most).path.length c4']) (runOfR ss inp most)) := HW6.out.keep hb67
  have HS7 : Hid (StepsAt w7 (.slice (some ⟨b6, 0, none⟩) ss.length ss.length) ss) := HS6.out.at.keep hb67
  have HM7 : Hid (StepsMay (w4.heap.size + 1) w6.heap.size w7 (.slice (some ⟨b6, 0, none⟩) ss.length ss.length) (ss.map (fun s => s.next.length))) := HM6.out.keep hb67
  have HI7 : Hid (IntsL w7 v7 inp) := ho7.l
  have HJ7 : Hid (RowMay (w6.heap.size + 1) w7.heap.size w.heap.size w7 v7 inp.length) := ho7.may (by omega) (Nat.le_refl _)
  obtain ⟨b7, hv7, _⟩ := ho7
  subst hv7
  have s67 : w6.heap.size < w7.heap.size := cell_lt x7
  clear hb7 hb67 q6 u0 u1 u2 HW6 HS6 HM6 hbE
  go_wp2_with fail
  refine implRun_any _ _ ss inp most a0 a1 a2 _ HS7.out HI7.out (HSEN.out.keep hbF) hn HN.out hin fun v8 w8 hb8 hr8 => ?_
  have hbG : Below w.heap.size w w8 := hbF.trans (hb8.mono hbF.size)
  have q8 := cell_keep hb8 q7
  have z0 := cell_keep hb8 y0
  have z1 := cell_keep hb8 y1
  have z2 := cell_keep hb8 y2
  have x8 := cell_keep hb8 x7
  obtain ⟨A8, c8, A8', c8', hv8⟩ := hr8.form
  subst hv8
  have HG8 : Hid (ResO w7.heap.size w8.heap.size w8 (.agg #[.int .i64 ((runOfR ss inp most).code : Int), .slice A8 (runOfR ss inp most).outs.length c8, .slice A8' (runOfR ss inp most).path.length c8']) (runOfR ss inp most)) := hr8
  have HW8 : Hid (ResO w3.heap.size w4.heap.size w8 (.agg #[.int .i64 ((runOfR ss inp most).code : Int), .slice A4 (runOfR ss inp most).outs.length c4, .slice A4' (runOfR ss inp most).path.length c4']) (runOfR ss inp most)) := HW7.out.keep hb8
  have HS8 : Hid (StepsAt w8 (.slice (some ⟨b6, 0, none⟩) ss.length ss.length) ss) := HS7.out.keep hb8
  have HM8 : Hid (StepsMay (w4.heap.size + 1) w6.heap.size w8 (.slice (some ⟨b6, 0, none⟩) ss.length ss.length) (ss.map (fun s => s.next.length))) := HM7.out.keep hb8
  have HI8 : Hid (IntsAt w8 (.slice (some ⟨b7, 0, none⟩) inp.length inp.length) inp) := (HI7.out.keep hb8).at
  have HJ8 : Hid (RowMay (w6.heap.size + 1) w7.heap.size w.heap.size w8 (.slice (some ⟨b7, 0, none⟩) inp.length inp.length) inp.length) := HJ7.out.block hb8
  have s78 : w7.heap.size ≤ w8.heap.size := hb8.size
  have k1 : w.heap.size ≠ w8.heap.size := by omega
  have k1' : w.heap.size < w8.heap.size := by omega
  have k2' : w4.heap.size < w8.heap.size := by omega
  have k3' : w6.heap.size < w8.heap.size := by omega
  have k2 : w4.heap.size ≠ w8.heap.size := by omega
  have k3 : w6.heap.size ≠ w8.heap.size := by omega
  clear hb8 hr8 q7 y0 y1 y2 x7 HW7 HS7 HM7 HI7 HJ7 hbF
  go_wp2_with fail
  refine eqResult_any _ _ (runOfR ss inp most) _ (HG8.out.keep (hb5 _ _)).i (HW8.out.keep (hb5 _ _)).i (by omega) (by omega) fun w9 hb9 => ?_
  have hb89 : Below w8.heap.size w8 w9 := (hb5 _ _).trans (hb9.mono (by simp))
  have hbH : Below w.heap.size w w9 := hbG.trans (hb89.mono hbG.size)
  have q9 := cell_keep hb89 q8
  have a0' := cell_keep hb89 z0
  have a1' := cell_keep hb89 z1
  have a2' := cell_keep hb89 z2
  have x9 := cell_keep hb89 x8
  have g0 : w9.cell? ⟨w8.heap.size, 0, none⟩ = some (.int .i64 ((runOfR ss inp most).code : Int)) := cell_keep hb9 (by simp [go_sem])
  have g1 : w9.cell? ⟨w8.heap.size, 1, none⟩ = some (.slice A8 (runOfR ss inp most).outs.length c8) := cell_keep hb9 (by simp [go_sem])
  have g2 : w9.cell? ⟨w8.heap.size, 2, none⟩ = some (.slice A8' (runOfR ss inp most).path.length c8') := cell_keep hb9 (by simp [go_sem])
  have HG9 : Hid (ResO w7.heap.size w8.heap.size w9 (.agg #[.int .i64 ((runOfR ss inp most).code : Int), .slice A8 (runOfR ss inp most).outs.length c8, .slice A8' (runOfR ss inp most).path.length c8']) (runOfR ss inp most)) := HG8.out.keep hb89
  have HW9 : Hid (ResO w3.heap.size w4.heap.size w9 (.agg #[.int .i64 ((runOfR ss inp most).code : Int), .slice A4 (runOfR ss inp most).outs.length c4, .slice A4' (runOfR ss inp most).path.length c4']) (runOfR ss inp most)) := HW8.out.keep hb89
  have HS9 : Hid (StepsAt w9 (.slice (some ⟨b6, 0, none⟩) ss.length ss.length) ss) := HS8.out.keep hb89
  have HM9 : Hid (StepsMay (w4.heap.size + 1) w6.heap.size w9 (.slice (some ⟨b6, 0, none⟩) ss.length ss.length) (ss.map (fun s => s.next.length))) := HM8.out.keep hb89
  have HI9 : Hid (IntsAt w9 (.slice (some ⟨b7, 0, none⟩) inp.length inp.length) inp) := HI8.out.keep hb89
  have HJ9 : Hid (RowMay (w6.heap.size + 1) w7.heap.size w.heap.size w9 (.slice (some ⟨b7, 0, none⟩) inp.length inp.length) inp.length) := HJ8.out.block hb89
  have HP9 : Hid (StepsAt w9 (.slice ao ss.length cap) ss) := HH.out.keep hbH
  have s89 : w8.heap.size < w9.heap.size := cell_lt g0
  clear hb9 hb89 q8 z0 z1 z2 x8 HG8 HW8 HS8 HM8 HI8 HJ8 hbG
  go_wp2_with fail
  go_region_held3 (fun wx => wx.cell? ⟨w6.heap.size, 0, none⟩ = some (.slice (some ⟨b6, 0, none⟩) ss.length ss.length) ∧ wx.cell? ⟨w.heap.size, 0, none⟩ = some (.slice ao ss.length cap)) (go_keep) (first | (go_at_call 14; refine toProg_any (.slice ao ss.length cap) ss _ (HP9.out.keep ((Below.refl _ _).drew)) hn HN.out ?_; intro v10 w10 hs10 hb10; have hb910 : Below w9.heap.size w9 w10 := ((Below.refl _ _).drew).trans (hb10.mono (by simp)); have x10 := cell_keep hb910 x9; have q10 := cell_keep hb910 q9; clear hb10) | (go_at_call 18; refine eqProg_any _ _ ss _ (HS9.out.keep hb910) hs10.at hn HN.out ?_; intro w11 hb11; have hb911 : Below w9.heap.size w9 w11 := hb910.trans (hb11.mono hb910.size); have x11 := cell_keep hb911 x9; have q11 := cell_keep hb911 q9; clear hb11))
  all_goals
    have hbI : Below w.heap.size w w11 := hbH.trans (hb911.mono hbH.size)
    have e011 := cell_keep hb911 a0'
    have e111 := cell_keep hb911 a1'
    have e211 := cell_keep hb911 a2'
    have g011 := cell_keep hb911 g0
    have g111 := cell_keep hb911 g1
    have g211 := cell_keep hb911 g2
    have HG11 : Hid (ResO w7.heap.size w8.heap.size w11 (.agg #[.int .i64 ((runOfR ss inp most).code : Int), .slice A8 (runOfR ss inp most).outs.length c8, .slice A8' (runOfR ss inp most).path.length c8']) (runOfR ss inp most)) := HG9.out.keep hb911
    have HW11 : Hid (ResO w3.heap.size w4.heap.size w11 (.agg #[.int .i64 ((runOfR ss inp most).code : Int), .slice A4 (runOfR ss inp most).outs.length c4, .slice A4' (runOfR ss inp most).path.length c4']) (runOfR ss inp most)) := HW9.out.keep hb911
    have HM11 : Hid (StepsMay (w4.heap.size + 1) w6.heap.size w11 (.slice (some ⟨b6, 0, none⟩) ss.length ss.length) (ss.map (fun s => s.next.length))) := HM9.out.keep hb911
    have HI11 : Hid (IntsAt w11 (.slice (some ⟨b7, 0, none⟩) inp.length inp.length) inp) := HI9.out.keep hb911
    have HJ11 : Hid (RowMay (w6.heap.size + 1) w7.heap.size w.heap.size w11 (.slice (some ⟨b7, 0, none⟩) inp.length inp.length) inp.length) := HJ9.out.block hb911
    have s11 : w9.heap.size ≤ w11.heap.size := hb911.size
    clear hs10 hb910 hb911 x10 q10 q9 x9 a0' a1' a2' g0 g1 g2 HG9 HW9 HS9 HM9 HI9 HJ9 HP9 hbH
    go_wp2_with fail
    refine toIntS_any _ inp _ (HI.out.keep hbI) hin fun v12 w12 ho12 hb12 => ?_
    have hi12 := ho12.l.at
    obtain ⟨b12, hv12, _⟩ := ho12
    subst hv12
    have HI12 : Hid (IntsAt w12 (.slice (some ⟨b12, 0, none⟩) inp.length inp.length) inp) := hi12
    have HB12 : Hid (Below w11.heap.size w11 w12) := hb12
    clear hb12 hi12
    go_wp2_with fail
    refine eqIntS_any _ _ inp _ (HI11.out.keep HB12.out) HI12.out hin fun w13 hb13 => ?_
    have hb1113 : Below w11.heap.size w11 w13 := HB12.out.trans (hb13.mono HB12.out.size)
    have hbJ : Below w.heap.size w w13 := hbI.trans (hb1113.mono hbI.size)
    have q13 := cell_keep hb1113 q11
    have x13 := cell_keep hb1113 x11
    have e013 := cell_keep hb1113 e011
    have e113 := cell_keep hb1113 e111
    have e213 := cell_keep hb1113 e211
    have g013 := cell_keep hb1113 g011
    have g113 := cell_keep hb1113 g111
    have g213 := cell_keep hb1113 g211
    have HG13 : Hid (ResO w7.heap.size w8.heap.size w13 (.agg #[.int .i64 ((runOfR ss inp most).code : Int), .slice A8 (runOfR ss inp most).outs.length c8, .slice A8' (runOfR ss inp most).path.length c8']) (runOfR ss inp most)) := HG11.out.keep hb1113
    have HW13 : Hid (ResO w3.heap.size w4.heap.size w13 (.agg #[.int .i64 ((runOfR ss inp most).code : Int), .slice A4 (runOfR ss inp most).outs.length c4, .slice A4' (runOfR ss inp most).path.length c4']) (runOfR ss inp most)) := HW11.out.keep hb1113
    have HM13 : Hid (StepsMay (w4.heap.size + 1) w6.heap.size w13 (.slice (some ⟨b6, 0, none⟩) ss.length ss.length) (ss.map (fun s => s.next.length))) := HM11.out.keep hb1113
    have HJ13 : Hid (RowMay (w6.heap.size + 1) w7.heap.size w.heap.size w13 (.slice (some ⟨b7, 0, none⟩) inp.length inp.length) inp.length) := HJ11.out.block hb1113
    have s13 : w11.heap.size ≤ w13.heap.size := hb1113.size
    clear hb13 hb1113 HB12 HI12 HI11 HG11 HW11 HM11 HJ11 hbI q11 x11 e011 e111 e211 g011 g111 g211
    go_wp2_with fail
    refine markProg_may _ _ _ _ _ HM13.out (by simpa using hn) (by intro n hn; simp only [List.mem_map] at hn; obtain ⟨s, hs, rfl⟩ := hn; exact HN.out s hs) fun k14 w14 hk14 ho14 => ?_
    have q14 := ho14.cell q13 (Or.inl (by show w.heap.size < w4.heap.size + 1; omega))
    have e014 := ho14.cell e013 (Or.inl (by show w4.heap.size < w4.heap.size + 1; omega))
    have e114 := ho14.cell e113 (Or.inl (by show w4.heap.size < w4.heap.size + 1; omega))
    have e214 := ho14.cell e213 (Or.inl (by show w4.heap.size < w4.heap.size + 1; omega))
    have g014 := ho14.cell g013 (Or.inr (by show w6.heap.size ≤ w8.heap.size; omega))
    have g114 := ho14.cell g113 (Or.inr (by show w6.heap.size ≤ w8.heap.size; omega))
    have g214 := ho14.cell g213 (Or.inr (by show w6.heap.size ≤ w8.heap.size; omega))
    have s14 : w13.heap.size ≤ w14.heap.size := ho14.size
    have hbK : Below w.heap.size w w14 := hbJ.trans (ho14.below (by omega) (by omega))
    have HG14 : Hid (ResO w7.heap.size w8.heap.size w14 (.agg #[.int .i64 ((runOfR ss inp most).code : Int), .slice A8 (runOfR ss inp most).outs.length c8, .slice A8' (runOfR ss inp most).path.length c8']) (runOfR ss inp most)) := HG13.out.out ho14 (Or.inr (by omega))
    have HW14 : Hid (ResO w3.heap.size w4.heap.size w14 (.agg #[.int .i64 ((runOfR ss inp most).code : Int), .slice A4 (runOfR ss inp most).outs.length c4, .slice A4' (runOfR ss inp most).path.length c4']) (runOfR ss inp most)) := HW13.out.out ho14 (Or.inl (by omega))
    have HJ14 : Hid (RowMay (w6.heap.size + 1) w7.heap.size w.heap.size w14 (.slice (some ⟨b7, 0, none⟩) inp.length inp.length) inp.length) := HJ13.out.out ho14 (Or.inr (by omega))
    clear ho14 HG13 HW13 HM13 HJ13 hbJ q13 x13 e013 e113 e213 g013 g113 g213
    go_wp2_with fail
    refine markIntS_may _ inp.length k14 _ _ _ _ HJ14.out hk14 hin fun w15 ho15' => ?_
    have ho15 := may_out ho15'
    have q15 := ho15.cell q14 (Or.inl (by show w.heap.size < w6.heap.size + 1; omega))
    have e015 := ho15.cell e014 (Or.inl (by show w4.heap.size < w6.heap.size + 1; omega))
    have e115 := ho15.cell e114 (Or.inl (by show w4.heap.size < w6.heap.size + 1; omega))
    have e215 := ho15.cell e214 (Or.inl (by show w4.heap.size < w6.heap.size + 1; omega))
    have g015 := ho15.cell g014 (Or.inr (by show w7.heap.size ≤ w8.heap.size; omega))
    have g115 := ho15.cell g114 (Or.inr (by show w7.heap.size ≤ w8.heap.size; omega))
    have g215 := ho15.cell g214 (Or.inr (by show w7.heap.size ≤ w8.heap.size; omega))
    have s15 : w14.heap.size ≤ w15.heap.size := ho15.size
    have hbL : Below w.heap.size w w15 := hbK.trans (ho15.below (by omega) (by omega))
    have HG15 : Hid (ResO w7.heap.size w8.heap.size w15 (.agg #[.int .i64 ((runOfR ss inp most).code : Int), .slice A8 (runOfR ss inp most).outs.length c8, .slice A8' (runOfR ss inp most).path.length c8']) (runOfR ss inp most)) := HG14.out.out ho15 (Or.inr (by omega))
    have HW15 : Hid (ResO w3.heap.size w4.heap.size w15 (.agg #[.int .i64 ((runOfR ss inp most).code : Int), .slice A4 (runOfR ss inp most).outs.length c4, .slice A4' (runOfR ss inp most).path.length c4']) (runOfR ss inp most)) := HW14.out.out ho15 (Or.inl (by omega))
    have hk0 : ¬ (((k14 + inp.length : Nat) : Int) < 0) := by omega
    clear ho15 ho15' HG14 HW14 HJ14 hbK q14 e014 e114 e214 g014 g114 g214
    go_wp2_with fail
    refine eqResult_any _ _ (runOfR ss inp most) _ HG15.out.i HW15.out.i (by omega) (by omega) fun w16 hb16 => ?_
    have q16 := cell_keep hb16 q15
    have e016 := cell_keep hb16 e015
    have e116 := cell_keep hb16 e115
    have e216 := cell_keep hb16 e215
    have g016 := cell_keep hb16 g015
    have g116 := cell_keep hb16 g115
    have g216 := cell_keep hb16 g215
    have s16 : w15.heap.size ≤ w16.heap.size := hb16.size
    have hbM : Below w.heap.size w w16 := hbL.trans (hb16.mono hbL.size)
    have HG16 : Hid (ResO w7.heap.size w8.heap.size w16 (.agg #[.int .i64 ((runOfR ss inp most).code : Int), .slice A8 (runOfR ss inp most).outs.length c8, .slice A8' (runOfR ss inp most).path.length c8']) (runOfR ss inp most)) := HG15.out.keep hb16
    have HW16 : Hid (ResO w3.heap.size w4.heap.size w16 (.agg #[.int .i64 ((runOfR ss inp most).code : Int), .slice A4 (runOfR ss inp most).outs.length c4, .slice A4' (runOfR ss inp most).path.length c4']) (runOfR ss inp most)) := HW15.out.keep hb16
    clear hb16 HG15 HW15 hbL q15 e015 e115 e215 g015 g115 g215
    go_wp2_with fail
    refine markResult_any _ (runOfR ss inp most) _ _ _ HG16.out (by omega) (by omega) (by omega) fun w17 ho17 hm17 => ?_
    have q17 := ho17.cell q16 (Or.inl (by show w.heap.size < w7.heap.size; omega))
    have e017 := ho17.cell e016 (Or.inl (by show w4.heap.size < w7.heap.size; omega))
    have e117 := ho17.cell e116 (Or.inl (by show w4.heap.size < w7.heap.size; omega))
    have e217 := ho17.cell e216 (Or.inl (by show w4.heap.size < w7.heap.size; omega))
    have g017 := ho17.cell g016 (Or.inr (Nat.le_refl _))
    have g117 := ho17.cell g116 (Or.inr (Nat.le_refl _))
    have g217 := ho17.cell g216 (Or.inr (Nat.le_refl _))
    have s17 : w16.heap.size ≤ w17.heap.size := ho17.size
    have hbN : Below w.heap.size w w17 := hbM.trans (ho17.below (by omega) (by omega))
    have HW17 : Hid (ResO w3.heap.size w4.heap.size w17 (.agg #[.int .i64 ((runOfR ss inp most).code : Int), .slice A4 (runOfR ss inp most).outs.length c4, .slice A4' (runOfR ss inp most).path.length c4']) (runOfR ss inp most)) := HW16.out.out ho17 (Or.inl (by omega))
    have HK17 : Hid (ResO w7.heap.size w8.heap.size w17 (.agg #[.int .i64 ((runOfR ss inp most).code : Int), .slice A8 (runOfR ss inp most).outs.length c8, .slice A8' (runOfR ss inp most).path.length c8']) (markRes (runOfR ss inp most))) := hm17
    clear ho17 hm17 HG16 HW16 hbM q16 e016 e116 e216 g016 g116 g216
    have hk1 : ¬ (((1 + (runOfR ss inp most).outs.length + (runOfR ss inp most).path.length : Nat) : Int) < 0) := by omega
    go_wp2_with fail
    refine heldResult_any _ (runOfR ss inp most) _ _ _ HK17.out (by omega) (by omega) fun w18 hb18 => ?_
    have q18 := cell_keep hb18 q17
    have e018 := cell_keep hb18 e017
    have e118 := cell_keep hb18 e117
    have e218 := cell_keep hb18 e217
    have g018 := cell_keep hb18 g017
    have g118 := cell_keep hb18 g117
    have g218 := cell_keep hb18 g217
    have hbO : Below w.heap.size w w18 := hbN.trans (hb18.mono hbN.size)
    have HW18 : Hid (ResO w3.heap.size w4.heap.size w18 (.agg #[.int .i64 ((runOfR ss inp most).code : Int), .slice A4 (runOfR ss inp most).outs.length c4, .slice A4' (runOfR ss inp most).path.length c4']) (runOfR ss inp most)) := HW17.out.keep hb18
    have HK18 : Hid (ResO w7.heap.size w8.heap.size w18 (.agg #[.int .i64 ((runOfR ss inp most).code : Int), .slice A8 (runOfR ss inp most).outs.length c8, .slice A8' (runOfR ss inp most).path.length c8']) (markRes (runOfR ss inp most))) := HK17.out.keep hb18
    clear hb18 HW17 HK17 hbN q17 e017 e117 e217 g017 g117 g217
    go_wp2_with fail
    refine toProg_any (.slice ao ss.length cap) ss _ (HH.out.keep hbO) hn HN.out fun v19 w19 hs19 hb19 => ?_
    have hbP : Below w.heap.size w w19 := hbO.trans (hb19.mono hbO.size)
    obtain ⟨ao19, b19, o19, cap19, hv19, _, _, _⟩ := id hs19
    subst hv19
    have HS19 : Hid (StepsAt w19 (.slice ao19 ss.length cap19) ss) := hs19.at
    have HB19 : Hid (Below w18.heap.size w18 w19) := hb19
    clear hb19 hs19 hbO
    go_wp2_with fail
    refine toIntS_any _ inp _ (HI.out.keep hbP) hin fun v20 w20 ho20 hb20 => ?_
    have hbQ : Below w.heap.size w w20 := hbP.trans (hb20.mono hbP.size)
    have HS20 : Hid (StepsAt w20 (.slice ao19 ss.length cap19) ss) := HS19.out.keep hb20
    have HI20 : Hid (IntsL w20 v20 inp) := ho20.l
    have HB20 : Hid (Below w18.heap.size w18 w20) := HB19.out.trans (hb20.mono HB19.out.size)
    obtain ⟨b20, hv20, _⟩ := ho20
    subst hv20
    clear hb20 HS19 HB19 hbP
    go_wp2_with fail
    refine implRun_any _ _ ss inp most a0 a1 a2 _ HS20.out HI20.out (HSEN.out.keep hbQ) hn HN.out hin fun v21 w21 hb21 hr21 => ?_
    have hb1821 : Below w18.heap.size w18 w21 := HB20.out.trans (hb21.mono HB20.out.size)
    have q21 := cell_keep hb1821 q18
    have e021 := cell_keep hb1821 e018
    have e121 := cell_keep hb1821 e118
    have e221 := cell_keep hb1821 e218
    have g021 := cell_keep hb1821 g018
    have g121 := cell_keep hb1821 g118
    have g221 := cell_keep hb1821 g218
    have hbR : Below w.heap.size w w21 := hbQ.trans (hb21.mono hbQ.size)
    obtain ⟨A21, c21, A21', c21', hv21⟩ := hr21.form
    subst hv21
    have HH21 : Hid (ResO w20.heap.size w21.heap.size w21 (.agg #[.int .i64 ((runOfR ss inp most).code : Int), .slice A21 (runOfR ss inp most).outs.length c21, .slice A21' (runOfR ss inp most).path.length c21']) (runOfR ss inp most)) := hr21
    have HW21 : Hid (ResO w3.heap.size w4.heap.size w21 (.agg #[.int .i64 ((runOfR ss inp most).code : Int), .slice A4 (runOfR ss inp most).outs.length c4, .slice A4' (runOfR ss inp most).path.length c4']) (runOfR ss inp most)) := HW18.out.keep hb1821
    have HK21 : Hid (ResO w7.heap.size w8.heap.size w21 (.agg #[.int .i64 ((runOfR ss inp most).code : Int), .slice A8 (runOfR ss inp most).outs.length c8, .slice A8' (runOfR ss inp most).path.length c8']) (markRes (runOfR ss inp most))) := HK18.out.keep hb1821
    have m4 : w4.heap.size < w21.heap.size := cell_lt e021
    have m8 : w8.heap.size < w21.heap.size := cell_lt g021
    have m4' : w4.heap.size ≠ w21.heap.size := by omega
    have m8' : w8.heap.size ≠ w21.heap.size := by omega
    clear hb21 hr21 hb1821 HB20 HS20 HI20 HW18 HK18 hbQ q18 e018 e118 e218 g018 g118 g218
    go_wp2_with fail
    refine eqResult_any _ _ (runOfR ss inp most) _ (HH21.out.keep (hb5 _ _)).i (HW21.out.keep (hb5 _ _)).i (by omega) (by omega) fun w22 hb22 => ?_
    have hb2122 : Below w21.heap.size w21 w22 := (hb5 _ _).trans (hb22.mono (by simp))
    have g022 := cell_keep hb2122 g021
    have g122 := cell_keep hb2122 g121
    have g222 := cell_keep hb2122 g221
    have hbS : Below w.heap.size w w22 := hbR.trans (hb2122.mono hbR.size)
    have HK22 : Hid (ResO w7.heap.size w8.heap.size w22 (.agg #[.int .i64 ((runOfR ss inp most).code : Int), .slice A8 (runOfR ss inp most).outs.length c8, .slice A8' (runOfR ss inp most).path.length c8']) (markRes (runOfR ss inp most))) := HK21.out.keep hb2122
    clear hb22 hb2122 HH21 HW21 HK21 hbR q21 e021 e121 e221 g021 g121 g221
    go_wp2_with fail
    refine heldResult_any _ (runOfR ss inp most) _ _ _ HK22.out (by omega) (by omega) fun w23 hb23 => ?_
    have HBT : Hid (Below w.heap.size w w23) := hbS.trans (hb23.mono hbS.size)
    clear hb23 HK22 hbS g022 g122 g222
    go_wp2
    exact HQ.out _ HBT.out

section
variable {H : Type} {enc : TypeId × Value → H} {w : World} {base : Nat} {spare : Nat → Bool} {held : Bool}

set_option maxRecDepth 100000 in
theorem open_numbers {r : Reach} {b0 : Nat} {v : Value} {d : DataW H} {p : List MemPlace} (hv : Value.okWide Tryd.prog w r b0 25 v) (h : DataW.Trod enc Tryd.prog w base spare held 25 v d p) :
    ∃ inp : List Int, IntsAt w v inp ∧ inp.length ≤ 9223372036854775807 := by
  obtain ⟨A, n, c, rfl⟩ := okWide_slice Tryd.underlying25 hv
  obtain ⟨fuel, hf⟩ := h
  obtain ⟨u, zs, e, hi, hl⟩ := open_next hf
  simp [Value.cells] at e
  subst e
  exact ⟨zs, hi, hl⟩
end

set_option maxRecDepth 100000 in
theorem contract (H : Type) (enc : TypeId × Value → H) (W : World) (base : Nat) (args : Array Value) (ds gs : List (DataW H)) (before : List MemPlace)
    (hval : ∀ (j : Nat) t v, Tryd.f3.params[j]? = some t → args[j]? = some v → Value.okWide Tryd.prog W .any base t v)
    (hW : DataW.Whole enc Tryd.prog Tryd.f3.params.toList Rows.fnExactRunOfSpec.vars false W args.toList ds gs before) (hL : laidMetH Tryd.prog Rows.fnExactRunOfRow.laid W) :
    Calls Tryd.prog 3 args W fun e W' => ∃ v, e = .returned v ∧ Rows.fnExactRunOfSpec.post enc Tryd.prog Tryd.f3 false true false false W args v W' := by
  have hW' := hW
  obtain ⟨p, q, hA0, hV, rfl, hfz, hnd⟩ := hW
  have hA : DataW.TrodAll enc Tryd.prog W 0 (fun _ => true) true Tryd.f3.params.toList args.toList ds p := hA0
  rw [Tryd.params3] at hA hval
  obtain ⟨v0, vs0, d0, ds0, p0, q0, hargs, rfl, rfl, h0, r0⟩ := trodAll_cons hA
  obtain ⟨v1, vs1, d1, ds1, p1, q1, rfl, rfl, rfl, h1, r1⟩ := trodAll_cons r0
  obtain ⟨v2, vs2, d2, ds2, p2, q2, rfl, rfl, rfl, h2, r2⟩ := trodAll_cons r1
  obtain ⟨rfl, rfl, rfl⟩ := trodAll_nil r2
  obtain rfl : args = #[v0, v1, v2] := by cases args; simp_all
  obtain ⟨y1, y2, y3, rfl⟩ := vars3 hV
  obtain ⟨a0, a1, a2, hs⟩ := sen_of_laid hL
  have k0 := h0
  have lt0 : ∀ x ∈ p0, x.block < W.heap.size := by obtain ⟨m, hm⟩ := k0; exact DataW.trod_lt m _ _ _ hm
  have k1 := h1
  have lt1 : ∀ x ∈ p1, x.block < W.heap.size := by obtain ⟨m, hm⟩ := k1; exact DataW.trod_lt m _ _ _ hm
  have k2 := h2
  have lt2 : ∀ x ∈ p2, x.block < W.heap.size := by obtain ⟨m, hm⟩ := k2; exact DataW.trod_lt m _ _ _ hm
  obtain ⟨u, ss, hv0, hst, hl, hls⟩ := open_prog (hval 0 24 v0 rfl rfl) h0
  subst hv0
  obtain ⟨inp, hin, hil⟩ := open_numbers (hval 1 25 v1 rfl rfl) h1
  obtain ⟨n, hv2, _, _, _⟩ := open_int Tryd.underlying3 (hval 2 3 v2 rfl rfl) h2
  subst hv2
  clear hA0
  refine law_walk u v1 ss inp n W a0 a1 a2 hs hst hl hls hin hil fun W' bel => ?_
  exact ⟨_, rfl, _, _, _, [], _, q, hW', trodAll_mk1 (shut_bool Tryd.underlying4 _), (trodAll_cons_mk (Below.trod laidOut (by kernel_rfl) (of_decide_eq_true (by kernel_rfl)) k0 bel lt0) (trodAll_cons_mk (Below.trod laidOut (by kernel_rfl) (of_decide_eq_true (by kernel_rfl)) k1 bel lt1) (trodAll_cons_mk (Below.trod laidOut (by kernel_rfl) (of_decide_eq_true (by kernel_rfl)) k2 bel lt2) trodAll_mk0))), bel.trodVars laidOut (by kernel_rfl) hV, bel.frame _, fun h => by cases h⟩

set_option maxRecDepth 100000 in
theorem lifted (os : Os) (started : os.Started) (H : Type) (enc : TypeId × Value → H) :
    ReturnsInHanded {} Tryd.checked os 3 .any (fun w args => (Rows.fnExactRunOfSpec.pre enc Tryd.prog Tryd.f3 Rows.fnExactRunOfRow.domain false w args ∧ laidMetH Tryd.prog Rows.fnExactRunOfRow.laid w) ∧ sizedMet enc Tryd.prog Tryd.f3 (OpenSpec.ofChange Rows.fnExactRunOfSpec) false w args)
      (Rows.fnExactRunOfSpec.post enc Tryd.prog Tryd.f3 false true false false) := by
  refine returnsInHanded_of_change_and (C := Tryd.checked) (X := fun w _ => laidMetH Tryd.prog Rows.fnExactRunOfRow.laid w) (fun _ _ _ hh h => h.of_heap hh) own started (by kernel_rfl) Tryd.func3
    (ChangeSpec.witness_shaped (enc := enc) (C := Tryd.checked) (os := os) (X := fun w _ => laidMetH Tryd.prog Rows.fnExactRunOfRow.laid w) false (World.laidAll Tryd.prog os Rows.fnExactRunOfRow.laid) #[.agg #[.slice none 0 0], .slice none 0 0, .int .i64 0] 8 (World.laidAll_os _ _ _)
      (World.shaped_of_ZipB (by kernel_rfl) (by kernel_rfl)) (by kernel_rfl) (by kernel_rfl) (by kernel_rfl)
      (by rw [MakeChecks.laidMetH_plain _ _ _ (by kernel_rfl)]; exact laidMet_laidAll _ (by kernel_rfl) (by kernel_rfl))) ?_
  intro W base args ds gs before hval0 hW _ _ hL _
  exact contract H enc W base args ds gs before hval0 hW hL

theorem said : Rows.FnExactRunOfSaid :=
  OpenClaim.holds_of_wide 3 Tryd.f3 rfl rfl rfl rfl rfl rfl rfl ⟨rfl, rfl, rfl, rfl, rfl⟩ rfl rfl rfl rfl rfl (by kernel_rfl) Tryd.func3 (by kernel_rfl)
    (of_decide_eq_true (by kernel_rfl)) (by unfold Func.isWrapper; first | (rw [if_pos (by decide +kernel)]; kernel_rfl) | (rw [if_neg (by decide +kernel)]; exact ⟨rfl, rfl⟩))
    (fun os started H enc _ => lifted os started H enc)

theorem plain (f : FuncId) (fn : Func) (hf : Tryd.pinned.checked.prog.funcNamed Rows.fnExactRunOfRow.func = some f) (hfn : Tryd.pinned.checked.prog.funcs[f]? = some fn) :
    true = Tryd.pinned.checked.prog.looks [] ∧ ∀ (j : Nat) t, fn.params[j]? = some t → Tryd.pinned.checked.prog.wantsStandIn t = false := by
  obtain rfl : f = 3 := Option.some.inj ((show Tryd.prog.funcNamed Rows.fnExactRunOfRow.func = some 3 by kernel_rfl).symm.trans hf) |>.symm
  obtain rfl : fn = Tryd.f3 := (Option.some.inj (Tryd.func3.symm.trans hfn)).symm
  refine ⟨by kernel_rfl, fun j t ht => ?_⟩
  rw [Tryd.params3] at ht
  have hm : t ∈ [24, 25, 3] := by simpa using Array.mem_of_getElem? ht
  have hall : ([24, 25, 3].all fun u => !Tryd.prog.wantsStandIn u) = true := by kernel_rfl
  exact (show Tryd.prog.wantsStandIn t = false by simpa using List.all_eq_true.1 hall t hm)

theorem fnExactRunOf_card : Rows.FnExactRunOfCardSaid :=
  Claim7.holds_tied_plain_at .later [] _ _ _ _ said (fun _ h => by cases h) (by kernel_rfl) (fun _ h => by cases h) fnExactRunOf_row_tie rfl ⟨rfl, rfl⟩ (by kernel_rfl) rfl plain (by kernel_rfl)
#print axioms fnExactRunOf_card
end Go.Proofs.YtnlcdecokpdkpaaDoor
