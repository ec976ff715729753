/-
  At every program that comes in, however made, FlowDoms answers as the model does, changes nothing of what came in, and its answer is memory of its own: the law FnExactFlowDoms answers true. No condition.
-/
import Derived.Test.YtblagfndeffilaaRows
import Derived.Test.YtblagfndeffilaaSz
import Derived.Test.YtblagfndeffilaaTo
import Derived.Test.YtblagfndeffilaaEq
import Derived.Test.YtblagfndeffilaaMarkP
import Derived.Test.YtblagfndeffilaaOpen
import Derived.Test.YtblagfndeffilaaSpecDoms
import Derived.Test.YtblagfndeffilaaImplDoms
import Derived.Test.YtblagfndeffilaaAnsBB
import Derived.OpenShut
import Derived.ShutString
import Derived.ChangeOld
import Derived.Below
namespace Go.Proofs.Ytblagfndeffilaa
open Go.ChangeShapes Go.WideShapes Go.ChangeAt Go.RowKit

theorem own : ownKnob Try.prog.godebug = none := by kernel_rfl
theorem laidOut : laidOutB Try.prog = true := by kernel_rfl

set_option maxRecDepth 100000 in
set_option maxHeartbeats 8000000 in
theorem law_walk (v : Value) (ss : List St) (w : World) (h : StepsAt w v ss) (hl : ss.length ≤ 9223372036854775807) (hls : ∀ s ∈ ss, s.next.length ≤ 9223372036854775807) {Q : Ending → World → Prop}
    (hQ : ∀ w', Below w.heap.size w w' → Q (.returned (.bool true)) w') :
    Calls Try.prog 5 #[.agg #[v]] w Q := by
  have HQ : Hid (∀ w', Below w.heap.size w w' → Q (.returned (.bool true)) w') := hQ
  clear hQ
  obtain ⟨ao, b, o, cap, rfl, ha, hc⟩ := id h
  have HH : Hid (StepsAt w (.slice ao ss.length cap) ss) := h
  have HL : Hid (∀ s ∈ ss, s.next.length ≤ 9223372036854775807) := hls
  clear ha hc h hls
  go_enter Try.func5, Try.ntmps5
  go_wp2_with fail
  have hb0 : ∀ O, Below w.heap.size w (w.alloc O) := fun O => (Below.refl _ _).alloc (Nat.le_refl _) O
  refine szProg_any (.slice ao ss.length cap) ss 1048576 _ (HH.out.keep (hb0 _)) hl HL.out (by omega) (by omega) fun r w1 hr hz hb1 => ?_
  have hbA : Below w.heap.size w w1 := (hb0 _).trans (hb1.mono (by simp))
  have q1 : w1.cell? ⟨w.heap.size, 0, none⟩ = some (.slice ao ss.length cap) := cell_keep hb1 (by simp [go_sem])
  have HZ : Hid (0 ≤ r → ss.length ≤ (1048576 : Int) ∧ ∀ s ∈ ss, s.next.length ≤ (1048576 : Int)) := hz
  clear hb1 hb0 hz
  by_cases hneg : r < 0
  · go_wp2
    exact HQ.out _ hbA
  have hn : ss.length ≤ 1048576 := by have := (HZ.out (by omega)).1; omega
  have HN : Hid (∀ s ∈ ss, s.next.length ≤ 1048576) := fun s hs => by have := (HZ.out (by omega)).2 s hs; omega
  clear HZ HL hl
  go_wp2_with fail
  refine toProg_any (.slice ao ss.length cap) ss _ (HH.out.keep hbA) hn HN.out fun v2 w2 hs2 hb2 => ?_
  have hbB : Below w.heap.size w w2 := hbA.trans (hb2.mono hbA.size)
  have q2 := cell_keep hb2 q1
  obtain ⟨ao2, b2, o2, cap2, hv2, _, _, _⟩ := id hs2
  subst hv2
  have HS2 : Hid (StepsAt w2 (.slice ao2 ss.length cap2) ss) := hs2.at
  clear hb2 hs2 q1 hbA
  go_wp2_with fail
  refine specDoms_any _ ss _ HS2.out hn HN.out fun v3 rs w3 hb3 hrs hown3 => ?_
  have hbC : Below w.heap.size w w3 := hbB.trans (hb3.mono hbB.size)
  have q3 := cell_keep hb3 q2
  have s3 : w.heap.size < w3.heap.size := cell_lt q3
  have B3 : RowsB w2.heap.size w3.heap.size w3 v3 rs := hown3
  have HRS : Hid (DomsOr ss rs) := hrs
  obtain ⟨hrl, hrls⟩ := DomsOr.bound hrs
  have HRLS : Hid _ := hrls
  clear hrls
  obtain ⟨A3, c3, hv3⟩ := B3.slice
  subst hv3
  have HB3 : Hid (RowsB w2.heap.size w3.heap.size w3 (.slice A3 rs.length c3) rs) := B3
  clear hb3 HS2 q2 hbB hrs hown3 B3
  go_wp2_with fail
  refine toProg_own (.slice ao ss.length cap) ss _ (HH.out.keep hbC) hn HN.out fun v4 w4 hs4 hb4 => ?_
  have hbD : Below w.heap.size w w4 := hbC.trans (hb4.mono hbC.size)
  have q4 := cell_keep hb4 q3
  have s34 : w3.heap.size ≤ w4.heap.size := hb4.size
  have HB4 : Hid (RowsB w2.heap.size w3.heap.size w4 (.slice A3 rs.length c3) rs) := HB3.out.keep hb4
  obtain ⟨b4, f4, hv4, _⟩ := id hs4
  subst hv4
  have HS4 : Hid (StepsOwn w3.heap.size w4 (.slice (some ⟨b4, 0, none⟩) ss.length ss.length) ss) := hs4
  clear hb4 hs4 q3 hbC HB3
  go_wp2_with fail
  have hb5 : ∀ O, Below w4.heap.size w4 (w4.alloc O) := fun O => (Below.refl _ _).alloc (Nat.le_refl _) O
  refine implDoms_any _ ss _ (HS4.out.at.keep (hb5 _)) hn HN.out fun v6 rs6 w6 hb6 hrs6 hown6 => ?_
  obtain rfl : rs6 = rs := hrs6.unique HRS.out
  have hb46 : Below w4.heap.size w4 w6 := (hb5 _).trans (hb6.mono (by simp))
  have hbE : Below w.heap.size w w6 := hbD.trans (hb46.mono (by omega))
  have q6 := cell_keep hb46 q4
  have x6 : w6.cell? ⟨w4.heap.size, 0, none⟩ = some (.slice (some ⟨b4, 0, none⟩) ss.length ss.length) := cell_keep hb6 (by simp [go_sem])
  have hown6' := hown6.lower (show w4.heap.size + 1 ≤ _ by simp)
  have B6 : RowsB (w4.heap.size + 1) w6.heap.size w6 v6 rs6 := hown6'
  obtain ⟨A6, c6, hv6⟩ := B6.slice
  subst hv6
  have HB6 : Hid (RowsB (w4.heap.size + 1) w6.heap.size w6 (.slice A6 rs6.length c6) rs6) := B6
  have HA6 : Hid (RowsB w2.heap.size w3.heap.size w6 (.slice A3 rs6.length c3) rs6) := HB4.out.keep hb46
  have HS6 : Hid (StepsOwn w3.heap.size w6 (.slice (some ⟨b4, 0, none⟩) ss.length ss.length) ss) := HS4.out.keep hb46
  have HM6 : Hid (StepsMay w3.heap.size w4.heap.size w6 (.slice (some ⟨b4, 0, none⟩) ss.length ss.length) (ss.map (fun s => s.next.length))) := HS4.out.may.keep hb46
  have HP6 : Hid (StepsAt w6 (.slice ao ss.length cap) ss) := HH.out.keep hbE
  have s6 : w4.heap.size < w6.heap.size := cell_lt x6
  clear hb6 hb46 hb5 hbD q4 HS4 HB4 hrs6 hown6 hown6' B6
  go_wp2_with fail
  refine eqBoolSS_any _ _ rs6 _ _ _ _ _ HB6.out HA6.out hrl HRLS.out fun w7 hb7 => ?_
  have hbF : Below w.heap.size w w7 := hbE.trans (hb7.mono hbE.size)
  have q7 := cell_keep hb7 q6
  have x7 := cell_keep hb7 x6
  have s7 : w6.heap.size ≤ w7.heap.size := hb7.size
  have HB7 : Hid (RowsB (w4.heap.size + 1) w6.heap.size w7 (.slice A6 rs6.length c6) rs6) := HB6.out.keep hb7
  have HA7 : Hid (RowsB w2.heap.size w3.heap.size w7 (.slice A3 rs6.length c3) rs6) := HA6.out.keep hb7
  have HS7 : Hid (StepsAt w7 (.slice (some ⟨b4, 0, none⟩) ss.length ss.length) ss) := HS6.out.at.keep hb7
  have HM7 : Hid (StepsMay w3.heap.size w4.heap.size w7 (.slice (some ⟨b4, 0, none⟩) ss.length ss.length) (ss.map (fun s => s.next.length))) := HM6.out.keep hb7
  have HP7 : Hid (StepsAt w7 (.slice ao ss.length cap) ss) := HP6.out.keep hb7
  clear hb7 q6 x6 HB6 HA6 HS6 HM6 HP6 hbE
  go_wp2_with fail
  go_region_with (first | (go_at_call 14; refine toProg_any (.slice ao ss.length cap) ss _ (HP7.out.keep (below_drewN (Below.refl _ _) 1)) hn HN.out ?_; intro v8 w8 hs8 hb8; have hb78 : Below w7.heap.size w7 w8 := ⟨hb8.os, hb8.tape, hb8.output, hb8.size, hb8.block⟩; have x8 := cell_keep hb78 x7) | (go_at_call 17; refine eqProg_any _ _ ss _ (HS7.out.keep hb78) hs8.at hn HN.out ?_; intro w9 hb9))
  all_goals
    have hb79 : Below w7.heap.size w7 w9 := hb78.trans (hb9.mono hb78.size)
    have q9 := cell_keep hb79 q7
    have x9 := cell_keep hb79 x7
    have s9 : w7.heap.size ≤ w9.heap.size := hb79.size
    have hbG : Below w.heap.size w w9 := hbF.trans (hb79.mono hbF.size)
    have HB9 : Hid (RowsB (w4.heap.size + 1) w6.heap.size w9 (.slice A6 rs6.length c6) rs6) := HB7.out.keep hb79
    have HA9 : Hid (RowsB w2.heap.size w3.heap.size w9 (.slice A3 rs6.length c3) rs6) := HA7.out.keep hb79
    have HM9 : Hid (StepsMay w3.heap.size w4.heap.size w9 (.slice (some ⟨b4, 0, none⟩) ss.length ss.length) (ss.map (fun s => s.next.length))) := HM7.out.keep hb79
    clear hb8 hs8 hb78 hb9 hb79 x8 q7 x7 HB7 HA7 HS7 HM7 HP7 hbF
    go_wp2_with fail
    refine markProg_may _ _ _ _ _ HM9.out (by simpa using hn) (by intro n hn; simp only [List.mem_map] at hn; obtain ⟨s, hs, rfl⟩ := hn; exact HN.out s hs) fun k1 w10 hk1 ho1 => ?_
    have q10 := ho1.cell q9 (Or.inl (by show w.heap.size < w3.heap.size; omega))
    have s10 : w9.heap.size ≤ w10.heap.size := ho1.size
    have hbI : Below w.heap.size w w10 := hbG.trans (ho1.below (by omega) (by omega))
    have HB10 : Hid (RowsB (w4.heap.size + 1) w6.heap.size w10 (.slice A6 rs6.length c6) rs6) := HB9.out.out ho1 (Or.inr (by omega))
    have HA10 : Hid (RowsB w2.heap.size w3.heap.size w10 (.slice A3 rs6.length c3) rs6) := HA9.out.out ho1 (Or.inl (by omega))
    have hk0 : ¬ (k1 : Int) < 0 := by omega
    clear ho1 q9 x9 HB9 HA9 HM9 hbG
    go_wp2_with fail
    refine eqBoolSS_any _ _ rs6 _ _ _ _ _ HB10.out HA10.out hrl HRLS.out fun w11 hb11 => ?_
    have hbJ : Below w.heap.size w w11 := hbI.trans (hb11.mono hbI.size)
    have q11 := cell_keep hb11 q10
    have s11 : w10.heap.size ≤ w11.heap.size := hb11.size
    have HB11 : Hid (RowsB (w4.heap.size + 1) w6.heap.size w11 (.slice A6 rs6.length c6) rs6) := HB10.out.keep hb11
    have HA11 : Hid (RowsB w2.heap.size w3.heap.size w11 (.slice A3 rs6.length c3) rs6) := HA10.out.keep hb11
    clear hb11 q10 HB10 HA10 hbI
    go_wp2_with fail
    refine markBoolSS_any _ rs6 1 _ _ _ HB11.out (by omega) hrl HRLS.out fun w12 ho12 hm12 => ?_
    have q12 := ho12.cell q11 (Or.inl (by show w.heap.size < w4.heap.size + 1; omega))
    have s12 : w11.heap.size ≤ w12.heap.size := ho12.size
    have hbK : Below w.heap.size w w12 := hbJ.trans (ho12.below (by omega) (by omega))
    have HA12 : Hid (RowsB w2.heap.size w3.heap.size w12 (.slice A3 rs6.length c3) rs6) := HA11.out.out ho12 (Or.inl (by omega))
    have HM12 : Hid (RowsB (w4.heap.size + 1) w6.heap.size w12 (.slice A6 rs6.length c6) (marksB 1 rs6)) := hm12
    clear ho12 hm12 q11 HB11 HA11 hbJ
    go_wp2_with fail
    refine heldBoolSS_any _ 1 rs6 _ _ _ HM12.out (by omega) hrl HRLS.out fun w13 hb13 => ?_
    have q13 := cell_keep hb13 q12
    have hbL : Below w.heap.size w w13 := hbK.trans (hb13.mono hbK.size)
    have HA13 : Hid (RowsB w2.heap.size w3.heap.size w13 (.slice A3 rs6.length c3) rs6) := HA12.out.keep hb13
    have HM13 : Hid (RowsB (w4.heap.size + 1) w6.heap.size w13 (.slice A6 rs6.length c6) (marksB 1 rs6)) := HM12.out.keep hb13
    clear hb13 q12 HA12 HM12 hbK
    go_wp2_with fail
    refine toProg_any (.slice ao ss.length cap) ss _ (HH.out.keep hbL) hn HN.out fun v14 w14 hs14 hb14 => ?_
    have q14 := cell_keep hb14 q13
    have hbM : Below w.heap.size w w14 := hbL.trans (hb14.mono hbL.size)
    have HA14 : Hid (RowsB w2.heap.size w3.heap.size w14 (.slice A3 rs6.length c3) rs6) := HA13.out.keep hb14
    have HM14 : Hid (RowsB (w4.heap.size + 1) w6.heap.size w14 (.slice A6 rs6.length c6) (marksB 1 rs6)) := HM13.out.keep hb14
    obtain ⟨ao14, b14, o14, cap14, hv14, _, _, _⟩ := id hs14
    subst hv14
    have HS14 : Hid (StepsAt w14 (.slice ao14 ss.length cap14) ss) := hs14.at
    clear hb14 hs14 q13 HA13 HM13 hbL
    go_wp2_with fail
    refine implDoms_any _ ss _ HS14.out hn HN.out fun v15 rs15 w15 hb15 hrs15 hown15 => ?_
    obtain rfl : rs15 = rs6 := hrs15.unique HRS.out
    have hbN : Below w.heap.size w w15 := hbM.trans (hb15.mono hbM.size)
    have HA15 : Hid (RowsB w2.heap.size w3.heap.size w15 (.slice A3 rs15.length c3) rs15) := HA14.out.keep hb15
    have HM15 : Hid (RowsB (w4.heap.size + 1) w6.heap.size w15 (.slice A6 rs15.length c6) (marksB 1 rs15)) := HM14.out.keep hb15
    have B15 : RowsB w14.heap.size w15.heap.size w15 v15 rs15 := hown15
    obtain ⟨A15, c15, hv15⟩ := B15.slice
    subst hv15
    have HB15 : Hid (RowsB w14.heap.size w15.heap.size w15 (.slice A15 rs15.length c15) rs15) := B15
    clear hb15 hrs15 hown15 B15 HS14 HA14 HM14 hbM q14
    go_wp2_with fail
    refine eqBoolSS_any _ _ rs15 _ _ _ _ _ HB15.out HA15.out hrl HRLS.out fun w16 hb16 => ?_
    have hbO : Below w.heap.size w w16 := hbN.trans (hb16.mono hbN.size)
    have HM16 : Hid (RowsB (w4.heap.size + 1) w6.heap.size w16 (.slice A6 rs15.length c6) (marksB 1 rs15)) := HM15.out.keep hb16
    clear hb16 HB15 HA15 HM15 hbN
    go_wp2_with fail
    refine heldBoolSS_any _ 1 rs15 _ _ _ HM16.out (by omega) hrl HRLS.out fun w17 hb17 => ?_
    have hbP : Below w.heap.size w w17 := hbO.trans (hb17.mono hbO.size)
    clear hb17 HM16 hbO
    go_wp2
    exact HQ.out _ hbP

set_option maxRecDepth 100000 in
theorem law_lifted (os : Os) (started : os.Started) (H : Type) (enc : TypeId × Value → H) :
    ReturnsInHanded {} Try.checked os 5 .any (Rows.fnExactFlowDomsSpec.pre6 enc Try.prog Try.f5 Rows.fnExactFlowDomsRow.domain false) (Rows.fnExactFlowDomsSpec.post enc Try.prog Try.f5 false true false false) := by
  refine returnsInHanded_of_change (C := Try.checked) own started (by kernel_rfl) Try.func5
    (ChangeSpec.witness6 (enc := enc) (C := Try.checked) false ⟨#[], #[.agg #[.slice none 0 0]], []⟩ 8 (by kernel_rfl) (by kernel_rfl) (by kernel_rfl) (by kernel_rfl)) ?_
  intro W base args ds gs before hval0 hW hcnd _
  have hval : ∀ (j : Nat) t v, Try.f5.params[j]? = some t → args[j]? = some v → Value.okWide Try.prog W .any base t v := hval0
  have hW' := hW
  obtain ⟨p, q, hA0, hV, rfl, hfz, hnd⟩ := hW
  have hA : DataW.TrodAll enc Try.prog W 0 (fun _ => true) true Try.f5.params.toList args.toList ds p := hA0
  rw [Try.params5] at hA hval
  obtain ⟨v0, vs0, d0, ds0, p0, q0, hargs, rfl, rfl, h0, r0⟩ := trodAll_cons hA
  obtain ⟨rfl, rfl, rfl⟩ := trodAll_nil r0
  obtain rfl : args = #[v0] := by cases args; simp_all
  obtain ⟨rfl, rfl⟩ := trodVars_none hV
  have k0 := h0
  have lt0 : ∀ x ∈ p0, x.block < W.heap.size := by obtain ⟨m, hm⟩ := k0; exact DataW.trod_lt m _ _ _ hm
  obtain ⟨u, ss, hv0, hs, hl, hls⟩ := open_prog (hval 0 24 v0 rfl rfl) h0
  subst hv0
  clear hA0 hval0
  refine law_walk u ss W hs hl hls fun W' bel => ?_
  exact ⟨_, rfl, _, _, _, [], _, [], hW', trodAll_mk1 (shut_bool Try.underlying4 _), (trodAll_cons_mk (Below.trod laidOut (by kernel_rfl) (of_decide_eq_true (by kernel_rfl)) k0 bel lt0) trodAll_mk0), rfl, bel.frame _, fun h => by cases h⟩

theorem fnExactFlowDoms_holds : Rows.FnExactFlowDomsSaid :=
  OpenClaim.holds_of_wide 5 Try.f5 rfl rfl rfl rfl rfl rfl rfl ⟨rfl, rfl, rfl, rfl, rfl⟩ rfl rfl rfl rfl rfl (by kernel_rfl) Try.func5 (by kernel_rfl)
    (of_decide_eq_true (by kernel_rfl)) (by unfold Func.isWrapper; first | (rw [if_pos (by decide +kernel)]; kernel_rfl) | (rw [if_neg (by decide +kernel)]; exact ⟨rfl, rfl⟩))
    (fun os started H enc _ => law_lifted os started H enc)
#print axioms fnExactFlowDoms_holds
end Go.Proofs.Ytblagfndeffilaa
