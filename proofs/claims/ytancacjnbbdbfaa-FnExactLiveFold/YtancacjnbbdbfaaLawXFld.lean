/-
  At every program that comes in, however made, LiveFold answers as the model does, changes nothing of what came in, and its answer is memory of its own: the law FnExactLiveFold answers true. No condition.
-/
import Derived.Test.YtancacjnbbdbfaaRows
import Derived.Test.YtancacjnbbdbfaaSz
import Derived.Test.YtancacjnbbdbfaaTo
import Derived.Test.YtancacjnbbdbfaaEq
import Derived.Test.YtancacjnbbdbfaaMarkP
import Derived.Test.YtancacjnbbdbfaaOpen
import Derived.Test.YtancacjnbbdbfaaAnsG
import Derived.Test.YtancacjnbbdbfaaImplFld
import Derived.Test.YtancacjnbbdbfaaSpecFld
import Derived.Test.YtancacjnbbdbfaaToN
import Derived.OpenShut
import Derived.ShutString
import Derived.ChangeOld
import Derived.Below
namespace Go.Proofs.Ytancacjnbbdbfaa
open Go.ChangeShapes Go.WideShapes Go.ChangeAt Go.RowKit

theorem own : ownKnob Try.prog.godebug = none := by kernel_rfl
theorem laidOut : laidOutB Try.prog = true := by kernel_rfl

set_option maxRecDepth 100000 in
set_option maxHeartbeats 4000000 in
theorem law_walk (v : Value) (ss : List St) (w : World) (h : StepsAt w v ss) (hl : ss.length ≤ 9223372036854775807) (hls : ∀ s ∈ ss, s.next.length ≤ 9223372036854775807) {Q : Ending → World → Prop}
    (hQ : ∀ w', Below w.heap.size w w' → Q (.returned (.bool true)) w') :
    Calls Try.prog 3 #[.agg #[v]] w Q := by
  have HQ : Hid (∀ w', Below w.heap.size w w' → Q (.returned (.bool true)) w') := hQ
  clear hQ
  obtain ⟨ao, b, o, cap, rfl, ha, hc⟩ := id h
  have HH : Hid (StepsAt w (.slice ao ss.length cap) ss) := h
  have HL : Hid (∀ s ∈ ss, s.next.length ≤ 9223372036854775807) := hls
  clear ha hc h hls
  go_enter Try.func3, Try.ntmps3
  go_wp2_with fail
  have hb0 : ∀ O, Below w.heap.size w (w.alloc O) := fun O => (Below.refl _ _).alloc (Nat.le_refl _) O
  refine szProg_any (.slice ao ss.length cap) ss 1048576 _ (HH.out.keep (hb0 _)) hl HL.out (by omega) (by omega) fun r w1 hr hz hb1 => ?_
  have hbA : Below w.heap.size w w1 := (hb0 _).trans (hb1.mono (by simp))
  have q1 : w1.cell? ⟨w.heap.size, 0, none⟩ = some (.slice ao ss.length cap) := cell_keep hb1 (by simp [go_sem])
  have HZ : Hid (0 ≤ r → ss.length ≤ (1048576 : Int) ∧ ∀ s ∈ ss, s.next.length ≤ (1048576 : Int)) := hz
  clear hb1 hb0 hz
  by_cases hneg : r < 0
  · go_wp2
    exact HQ.out _ hbA
  have hn : ss.length ≤ 1048576 := by have := (HZ.out (by omega)).1; omega
  have HN : Hid (∀ s ∈ ss, s.next.length ≤ 1048576) := fun s hs => by have := (HZ.out (by omega)).2 s hs; omega
  clear HZ HL hl
  go_wp2_with fail
  refine toProg_own (.slice ao ss.length cap) ss _ (HH.out.keep hbA) hn HN.out fun v2 w2 hs2 hb2 => ?_
  have hbB : Below w.heap.size w w2 := hbA.trans (hb2.mono hbA.size)
  have q2 := cell_keep hb2 q1
  obtain ⟨b2, f2, hv2, _⟩ := id hs2
  subst hv2
  have HS2 : Hid (StepsN w2 (.slice (some ⟨b2, 0, none⟩) ss.length ss.length) ss) := hs2.n
  clear hb2 hs2 q1 hbA
  go_wp2_with fail
  refine specFold_any _ ss _ HS2.out hn HN.out fun v3 ts xs3 nvs3 w3 hb3 hor hP3 => ?_
  have hbC : Below w.heap.size w w3 := hbB.trans (hb3.mono hbB.size)
  have q3 := cell_keep hb3 q2
  have s3 : w.heap.size < w3.heap.size := cell_lt q3
  have HOR : Hid (FoldOr ss ts) := hor
  obtain ⟨htl, htls⟩ := hor.bound
  have HTL : Hid (∀ s ∈ ts, s.next.length ≤ 1000) := htls
  have HTL2 : Hid (∀ s ∈ ts, s.next.length ≤ 1048576) := fun s hs => Nat.le_trans (htls s hs) (by decide)
  have hB3 := PB.of hP3
  obtain ⟨A3, c3, hv3⟩ := hB3.slice
  subst hv3
  have HB3 : Hid (PB w2.heap.size w3.heap.size w3 (.slice A3 ts.length c3) ts) := hB3
  have s23 : w2.heap.size ≤ w3.heap.size := hb3.size
  clear hb3 HS2 q2 hbB hor hP3 hB3 htls
  go_wp2_with fail
  have hb3 : ∀ O, Below w3.heap.size w3 (w3.alloc O) := fun O => (Below.refl _ _).alloc (Nat.le_refl _) O
  refine toProg_own (.slice ao ss.length cap) ss _ (HH.out.keep (hbC.trans ((hb3 _).mono hbC.size))) hn HN.out fun v4 w4 hs4 hb4 => ?_
  have hb34 : Below w3.heap.size w3 w4 := (hb3 _).trans (hb4.mono (by simp))
  have hbD : Below w.heap.size w w4 := hbC.trans (hb34.mono hbC.size)
  have q4 := cell_keep hb34 q3
  have z4 : w4.cell? ⟨w3.heap.size, 0, none⟩ = some (.slice A3 ts.length c3) := cell_keep hb4 (by simp [go_sem])
  have s34 : w3.heap.size < w4.heap.size := cell_lt z4
  have HB4 : Hid (PB w2.heap.size w3.heap.size w4 (.slice A3 ts.length c3) ts) := HB3.out.keep hb34
  obtain ⟨b4, f4, hv4, _⟩ := id hs4
  subst hv4
  have hs4' := hs4.mono (show w3.heap.size + 1 ≤ _ by simp)
  have HS4 : Hid (StepsOwn (w3.heap.size + 1) w4 (.slice (some ⟨b4, 0, none⟩) ss.length ss.length) ss) := hs4'
  clear hb3 hb4 hs4 hs4' hb34 q3 hbC HB3
  go_wp2_with fail
  have hb5 : ∀ O, Below w4.heap.size w4 (w4.alloc O) := fun O => (Below.refl _ _).alloc (Nat.le_refl _) O
  refine implFold_any _ ss _ (HS4.out.at.keep (hb5 _)) hn HN.out fun v6 ts6 xs6 nvs6 w6 hb6 hor6 hP6 => ?_
  obtain rfl := HOR.out.unique hor6
  have hb46 : Below w4.heap.size w4 w6 := (hb5 _).trans (hb6.mono (by simp))
  have hbE : Below w.heap.size w w6 := hbD.trans (hb46.mono (by omega))
  have q6 := cell_keep hb46 q4
  have z6 := cell_keep hb46 z4
  have x6 : w6.cell? ⟨w4.heap.size, 0, none⟩ = some (.slice (some ⟨b4, 0, none⟩) ss.length ss.length) := cell_keep hb6 (by simp [go_sem])
  have hB6 := (PB.of hP6).lower (show w4.heap.size + 1 ≤ _ by simp)
  obtain ⟨A6, c6, hv6⟩ := hB6.slice
  subst hv6
  have HB6 : Hid (PB (w4.heap.size + 1) w6.heap.size w6 (.slice A6 ts.length c6) ts) := hB6
  have HA6 : Hid (PB w2.heap.size w3.heap.size w6 (.slice A3 ts.length c3) ts) := HB4.out.keep hb46
  have HS6 : Hid (StepsOwn (w3.heap.size + 1) w6 (.slice (some ⟨b4, 0, none⟩) ss.length ss.length) ss) := HS4.out.keep hb46
  have HM6 : Hid (StepsMay (w3.heap.size + 1) w4.heap.size w6 (.slice (some ⟨b4, 0, none⟩) ss.length ss.length) (ss.map (fun s => s.next.length))) := HS4.out.may.keep hb46
  have s6 : w4.heap.size < w6.heap.size := cell_lt x6
  have s36 : w3.heap.size < w6.heap.size := cell_lt z6
  clear hb6 hb46 hb5 hbD q4 z4 HS4 HB4 hor6 hP6 hB6
  go_wp2_with fail
  have hb6 : ∀ O, Below w6.heap.size w6 (w6.alloc O) := fun O => (Below.refl _ _).alloc (Nat.le_refl _) O
  refine eqProg_any _ _ ts _ (HB6.out.at.keep (hb6 _)) (HA6.out.at.keep (hb6 _)) (by omega) HTL2.out fun w7 hb7 => ?_
  have hb67 : Below w6.heap.size w6 w7 := (hb6 _).trans (hb7.mono (by simp))
  have hbF : Below w.heap.size w w7 := hbE.trans (hb67.mono hbE.size)
  have q7 := cell_keep hb67 q6
  have z7 := cell_keep hb67 z6
  have x7 := cell_keep hb67 x6
  have g7 : w7.cell? ⟨w6.heap.size, 0, none⟩ = some (.slice A6 ts.length c6) := cell_keep hb7 (by simp [go_sem])
  have s7 : w6.heap.size < w7.heap.size := cell_lt g7
  have HB7 : Hid (PB (w4.heap.size + 1) w6.heap.size w7 (.slice A6 ts.length c6) ts) := HB6.out.keep hb67
  have HA7 : Hid (PB w2.heap.size w3.heap.size w7 (.slice A3 ts.length c3) ts) := HA6.out.keep hb67
  have HS7 : Hid (StepsAt w7 (.slice (some ⟨b4, 0, none⟩) ss.length ss.length) ss) := HS6.out.at.keep hb67
  have HM7 : Hid (StepsMay (w3.heap.size + 1) w4.heap.size w7 (.slice (some ⟨b4, 0, none⟩) ss.length ss.length) (ss.map (fun s => s.next.length))) := HM6.out.keep hb67
  have HP7 : Hid (StepsAt w7 (.slice ao ss.length cap) ss) := HH.out.keep hbF
  clear hb6 hb7 hb67 q6 z6 x6 HB6 HA6 HS6 HM6 hbE
  go_wp2_with fail
  go_region_with (first | (go_at_call 11; refine toProg_any (.slice ao ss.length cap) ss _ (HP7.out.keep (below_drewN (Below.refl _ _) 1)) hn HN.out ?_; intro v8 w8 hs8 hb8; have hb78 : Below w7.heap.size w7 w8 := ⟨hb8.os, hb8.tape, hb8.output, hb8.size, hb8.block⟩; have x8 := cell_keep hb78 x7) | (go_at_call 13; refine eqProg_any _ _ ss _ (HS7.out.keep hb78) hs8.at hn HN.out ?_; intro w9 hb9))
  all_goals
    have hb79 : Below w7.heap.size w7 w9 := hb78.trans (hb9.mono hb78.size)
    have q9 := cell_keep hb79 q7
    have z9 := cell_keep hb79 z7
    have x9 := cell_keep hb79 x7
    have g9 := cell_keep hb79 g7
    have s9 : w7.heap.size ≤ w9.heap.size := hb79.size
    have hbG : Below w.heap.size w w9 := hbF.trans (hb79.mono hbF.size)
    have HB9 : Hid (PB (w4.heap.size + 1) w6.heap.size w9 (.slice A6 ts.length c6) ts) := HB7.out.keep hb79
    have HA9 : Hid (PB w2.heap.size w3.heap.size w9 (.slice A3 ts.length c3) ts) := HA7.out.keep hb79
    have HM9 : Hid (StepsMay (w3.heap.size + 1) w4.heap.size w9 (.slice (some ⟨b4, 0, none⟩) ss.length ss.length) (ss.map (fun s => s.next.length))) := HM7.out.keep hb79
    clear hb8 hs8 hb78 hb9 hb79 x8 q7 z7 x7 g7 HB7 HA7 HS7 HM7 HP7 hbF
    go_wp2_with fail
    refine markProg_may _ _ _ _ _ HM9.out (by simpa using hn) (by intro n hn; simp only [List.mem_map] at hn; obtain ⟨s, hs, rfl⟩ := hn; exact HN.out s hs) fun k1 w10 hk1 ho1 => ?_
    have q10 := ho1.cell q9 (Or.inl (by show w.heap.size < w3.heap.size + 1; omega))
    have z10 := ho1.cell z9 (Or.inl (by show w3.heap.size < w3.heap.size + 1; omega))
    have g10 := ho1.cell g9 (Or.inr (by show w4.heap.size ≤ w6.heap.size; omega))
    have s10 : w9.heap.size ≤ w10.heap.size := ho1.size
    have hbI : Below w.heap.size w w10 := hbG.trans (ho1.below (by omega) (by omega))
    have HB10 : Hid (PB (w4.heap.size + 1) w6.heap.size w10 (.slice A6 ts.length c6) ts) := HB9.out.out ho1 (Or.inr (by omega))
    have HA10 : Hid (PB w2.heap.size w3.heap.size w10 (.slice A3 ts.length c3) ts) := HA9.out.out ho1 (Or.inl (by omega))
    have hk0 : ¬ (k1 : Int) < 0 := by omega
    clear ho1 q9 z9 x9 g9 HB9 HA9 HM9 hbG
    go_wp2_with fail
    refine eqProg_any _ _ ts _ HB10.out.at HA10.out.at (by omega) HTL2.out fun w11 hb11 => ?_
    have hbJ : Below w.heap.size w w11 := hbI.trans (hb11.mono hbI.size)
    have q11 := cell_keep hb11 q10
    have z11 := cell_keep hb11 z10
    have g11 := cell_keep hb11 g10
    have s11 : w10.heap.size ≤ w11.heap.size := hb11.size
    have HB11 : Hid (PB (w4.heap.size + 1) w6.heap.size w11 (.slice A6 ts.length c6) ts) := HB10.out.keep hb11
    have HA11 : Hid (PB w2.heap.size w3.heap.size w11 (.slice A3 ts.length c3) ts) := HA10.out.keep hb11
    clear hb11 q10 z10 g10 HB10 HA10 hbI
    go_wp2_with fail
    refine markProg_any _ ts _ _ _ HB11.out htl HTL.out fun w12 ho12 hm12 => ?_
    have q12 := ho12.cell q11 (Or.inl (by show w.heap.size < w4.heap.size + 1; omega))
    have z12 := ho12.cell z11 (Or.inl (by show w3.heap.size < w4.heap.size + 1; omega))
    have g12 := ho12.cell g11 (Or.inr (by show w6.heap.size ≤ w6.heap.size; omega))
    have s12 : w11.heap.size ≤ w12.heap.size := ho12.size
    have hbK : Below w.heap.size w w12 := hbJ.trans (ho12.below (by omega) (by omega))
    have HA12 : Hid (PB w2.heap.size w3.heap.size w12 (.slice A3 ts.length c3) ts) := HA11.out.out ho12 (Or.inl (by omega))
    have HM12 : Hid (PB (w4.heap.size + 1) w6.heap.size w12 (.slice A6 ts.length c6) (markSs 1 ts)) := hm12
    have hk2 : ¬ ((1 + preS ts ts.length : Nat) : Int) < 0 := by omega
    clear ho12 hm12 q11 z11 g11 HB11 HA11 hbJ
    generalize hKK : 1 + preS ts ts.length = KK at *
    have HKK : Hid (1 + preS ts ts.length = KK) := hKK
    clear hKK
    go_wp2_with fail
    refine heldProg_any _ ts _ _ _ HM12.out htl HTL.out fun w13 hb13 => ?_
    rw [HKK.out]
    have q13 := cell_keep hb13 q12
    have z13 := cell_keep hb13 z12
    have g13 := cell_keep hb13 g12
    have hbL : Below w.heap.size w w13 := hbK.trans (hb13.mono hbK.size)
    have HA13 : Hid (PB w2.heap.size w3.heap.size w13 (.slice A3 ts.length c3) ts) := HA12.out.keep hb13
    have HM13 : Hid (PB (w4.heap.size + 1) w6.heap.size w13 (.slice A6 ts.length c6) (markSs 1 ts)) := HM12.out.keep hb13
    clear hb13 q12 z12 g12 HA12 HM12 hbK
    go_wp2_with fail
    refine toProg_any (.slice ao ss.length cap) ss _ (HH.out.keep hbL) hn HN.out fun v14 w14 hs14 hb14 => ?_
    have z14 := cell_keep hb14 z13
    have g14 := cell_keep hb14 g13
    have hbM : Below w.heap.size w w14 := hbL.trans (hb14.mono hbL.size)
    have HA14 : Hid (PB w2.heap.size w3.heap.size w14 (.slice A3 ts.length c3) ts) := HA13.out.keep hb14
    have HM14 : Hid (PB (w4.heap.size + 1) w6.heap.size w14 (.slice A6 ts.length c6) (markSs 1 ts)) := HM13.out.keep hb14
    obtain ⟨ao14, b14, o14, cap14, hv14, _, _, _⟩ := id hs14
    subst hv14
    have HS14 : Hid (StepsAt w14 (.slice ao14 ss.length cap14) ss) := hs14.at
    clear hb14 hs14 q13 z13 g13 HA13 HM13 hbL
    go_wp2_with fail
    refine implFold_any _ ss _ HS14.out hn HN.out fun v15 ts15 xs15 nvs15 w15 hb15 hor15 hP15 => ?_
    obtain rfl := HOR.out.unique hor15
    have hbN : Below w.heap.size w w15 := hbM.trans (hb15.mono hbM.size)
    have z15 := cell_keep hb15 z14
    have g15 := cell_keep hb15 g14
    have s15 : w6.heap.size < w15.heap.size := cell_lt g15
    have s315 : w3.heap.size < w15.heap.size := cell_lt z15
    have HA15 : Hid (PB w2.heap.size w3.heap.size w15 (.slice A3 ts.length c3) ts) := HA14.out.keep hb15
    have HM15 : Hid (PB (w4.heap.size + 1) w6.heap.size w15 (.slice A6 ts.length c6) (markSs 1 ts)) := HM14.out.keep hb15
    have hB15 := PB.of hP15
    obtain ⟨A15, c15, hv15⟩ := hB15.slice
    subst hv15
    have HB15 : Hid (PB w14.heap.size w15.heap.size w15 (.slice A15 ts.length c15) ts) := hB15
    clear hb15 hor15 hP15 hB15 HS14 HA14 HM14 hbM z14 g14
    go_wp2_with fail
    have hb15 : ∀ O, Below w15.heap.size w15 (w15.alloc O) := fun O => (Below.refl _ _).alloc (Nat.le_refl _) O
    refine eqProg_any _ _ ts _ (HB15.out.at.keep (hb15 _)) (HA15.out.at.keep (hb15 _)) (by omega) HTL2.out fun w16 hb16 => ?_
    have hb1516 : Below w15.heap.size w15 w16 := (hb15 _).trans (hb16.mono (by simp))
    have hbO : Below w.heap.size w w16 := hbN.trans (hb1516.mono hbN.size)
    have g16 := cell_keep hb1516 g15
    have HM16 : Hid (PB (w4.heap.size + 1) w6.heap.size w16 (.slice A6 ts.length c6) (markSs 1 ts)) := HM15.out.keep hb1516
    clear hb15 hb16 hb1516 HB15 HA15 HM15 hbN z15 g15
    go_wp2_with fail
    refine heldProg_any _ ts _ _ _ HM16.out htl HTL.out fun w17 hb17 => ?_
    rw [HKK.out]
    have hbP : Below w.heap.size w w17 := hbO.trans (hb17.mono hbO.size)
    clear hb17 HM16 hbO g16
    go_wp2
    exact HQ.out _ hbP

set_option maxRecDepth 100000 in
theorem law_lifted (os : Os) (started : os.Started) (H : Type) (enc : TypeId × Value → H) :
    ReturnsInHanded {} Try.checked os 3 .any (Rows.fnExactLiveFoldSpec.pre6 enc Try.prog Try.f3 Rows.fnExactLiveFoldRow.domain false) (Rows.fnExactLiveFoldSpec.post enc Try.prog Try.f3 false true false false) := by
  refine returnsInHanded_of_change (C := Try.checked) own started (by kernel_rfl) Try.func3
    (ChangeSpec.witness6 (enc := enc) (C := Try.checked) false ⟨#[], #[.agg #[.slice none 0 0]], []⟩ 8 (by kernel_rfl) (by kernel_rfl) (by kernel_rfl) (by kernel_rfl)) ?_
  intro W base args ds gs before hval0 hW hcnd _
  have hval : ∀ (j : Nat) t v, Try.f3.params[j]? = some t → args[j]? = some v → Value.okWide Try.prog W .any base t v := hval0
  have hW' := hW
  obtain ⟨p, q, hA0, hV, rfl, hfz, hnd⟩ := hW
  have hA : DataW.TrodAll enc Try.prog W 0 (fun _ => true) true Try.f3.params.toList args.toList ds p := hA0
  rw [Try.params3] at hA hval
  obtain ⟨v0, vs0, d0, ds0, p0, q0, hargs, rfl, rfl, h0, r0⟩ := trodAll_cons hA
  obtain ⟨rfl, rfl, rfl⟩ := trodAll_nil r0
  obtain rfl : args = #[v0] := by cases args; simp_all
  obtain ⟨rfl, rfl⟩ := trodVars_none hV
  have k0 := h0
  have lt0 : ∀ x ∈ p0, x.block < W.heap.size := by obtain ⟨m, hm⟩ := k0; exact DataW.trod_lt m _ _ _ hm
  obtain ⟨u, ss, hv0, hs, hl, hls⟩ := open_prog (hval 0 24 v0 rfl rfl) h0
  subst hv0
  clear hA0 hval0
  refine law_walk u ss W hs hl hls fun W' bel => ?_
  exact ⟨_, rfl, _, _, _, [], _, [], hW', trodAll_mk1 (shut_bool Try.underlying4 _), (trodAll_cons_mk (Below.trod laidOut (by kernel_rfl) (of_decide_eq_true (by kernel_rfl)) k0 bel lt0) trodAll_mk0), rfl, bel.frame _, fun h => by cases h⟩

theorem fnExactLiveFold_holds : Rows.FnExactLiveFoldSaid :=
  OpenClaim.holds_of_wide 3 Try.f3 rfl rfl rfl rfl rfl rfl rfl ⟨rfl, rfl, rfl, rfl, rfl⟩ rfl rfl rfl rfl rfl (by kernel_rfl) Try.func3 (by kernel_rfl)
    (of_decide_eq_true (by kernel_rfl)) (by unfold Func.isWrapper; first | (rw [if_pos (by decide +kernel)]; kernel_rfl) | (rw [if_neg (by decide +kernel)]; exact ⟨rfl, rfl⟩))
    (fun os started H enc _ => law_lifted os started H enc)
#print axioms fnExactLiveFold_holds
end Go.Proofs.Ytancacjnbbdbfaa
