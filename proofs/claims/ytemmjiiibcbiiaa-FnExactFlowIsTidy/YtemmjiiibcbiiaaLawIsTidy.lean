/-
  At every program that comes in, however made, FlowIsTidy answers as the model does, and changes nothing of what came in: the law FnExactFlowIsTidy answers true. No condition.
-/
import Derived.Test.YtemmjiiibcbiiaaRows
import Derived.Test.YtemmjiiibcbiiaaSz
import Derived.Test.YtemmjiiibcbiiaaTo
import Derived.Test.YtemmjiiibcbiiaaEq
import Derived.Test.YtemmjiiibcbiiaaSpecTidy
import Derived.Test.YtemmjiiibcbiiaaImplTidy
import Derived.Test.YtemmjiiibcbiiaaOpen
import Derived.OpenShut
import Derived.ShutString
import Derived.ChangeOld
import Derived.Below
namespace Go.Proofs.Ytemmjiiibcbiiaa
open Go.ChangeShapes Go.WideShapes Go.ChangeAt Go.RowKit

theorem own : ownKnob Try.prog.godebug = none := by kernel_rfl
theorem laidOut : laidOutB Try.prog = true := by kernel_rfl

set_option maxHeartbeats 4000000 in
theorem lawIsTidy_walk (v : Value) (ss : List St) (w : World) (h : StepsAt w v ss) (hl : ss.length ≤ 9223372036854775807) (hls : ∀ s ∈ ss, s.next.length ≤ 9223372036854775807) {Q : Ending → World → Prop}
    (hQ : ∀ w', Below w.heap.size w w' → Q (.returned (.bool true)) w') :
    Calls Try.prog 5 #[.agg #[v]] w Q := by
  have HQ : Hid (∀ w', Below w.heap.size w w' → Q (.returned (.bool true)) w') := hQ
  clear hQ
  obtain ⟨ao, b, o, cap, rfl, ha, hc⟩ := id h
  have HH : Hid (StepsAt w (.slice ao ss.length cap) ss) := h
  have HL : Hid (∀ s ∈ ss, s.next.length ≤ 9223372036854775807) := hls
  clear ha hc h hls
  go_enter Try.func5, Try.ntmps5
  go_wp2_with fail
  have hb0 : ∀ O, Below w.heap.size w (w.alloc O) := fun O => (Below.refl _ _).alloc (Nat.le_refl _) O
  refine szProg_any (.slice ao ss.length cap) ss 1048576 _ (HH.out.keep (hb0 _)) hl HL.out (by omega) (by omega) fun r w1 hr hz hb1 => ?_
  have hbA : Below w.heap.size w w1 := (hb0 _).trans (hb1.mono (by simp))
  have q1 : w1.cell? ⟨w.heap.size, 0, none⟩ = some (.slice ao ss.length cap) := cell_keep hb1 (by simp [go_sem])
  have HZ : Hid (0 ≤ r → ss.length ≤ (1048576 : Int) ∧ ∀ s ∈ ss, s.next.length ≤ (1048576 : Int)) := hz
  clear hb1 hb0 hz
  by_cases hneg : r < 0
  · go_wp2
    exact HQ.out _ hbA
  have hn : ss.length ≤ 1048576 := by have := (HZ.out (by omega)).1; omega
  have HN : Hid (∀ s ∈ ss, s.next.length ≤ 1048576) := fun s hs => by have := (HZ.out (by omega)).2 s hs; omega
  clear HZ HL hl
  go_wp2_with fail
  refine toProg_any (.slice ao ss.length cap) ss _ (HH.out.keep hbA) hn HN.out fun v2 w2 hs2 hb2 => ?_
  have hbB : Below w.heap.size w w2 := hbA.trans (hb2.mono hbA.size)
  have q2 := cell_keep hb2 q1
  obtain ⟨ao2, b2, o2, cap2, hv2, _, _, _⟩ := id hs2
  subst hv2
  have HS2 : Hid (StepsAt w2 (.slice ao2 ss.length cap2) ss) := hs2.at
  clear hb2 hs2 q1 hbA
  go_wp2_with fail
  refine specIsTidy_any _ ss _ HS2.out hn HN.out fun r3 w3 hb3 hr3 => ?_
  have HR3 : Hid _ := hr3
  clear hr3
  have hbC : Below w.heap.size w w3 := hbB.trans (hb3.mono hbB.size)
  have q3 := cell_keep hb3 q2
  clear hb3 HS2 q2 hbB
  go_wp2_with fail
  refine toProg_any (.slice ao ss.length cap) ss _ (HH.out.keep hbC) hn HN.out fun v4 w4 hs4 hb4 => ?_
  have hbD : Below w.heap.size w w4 := hbC.trans (hb4.mono hbC.size)
  have q4 := cell_keep hb4 q3
  have hz4 : w.heap.size < w4.heap.size := cell_lt q4
  obtain ⟨ao4, b4, o4, cap4, hv4, _, _, _⟩ := id hs4
  subst hv4
  have HS4 : Hid (StepsAt w4 (.slice ao4 ss.length cap4) ss) := hs4.at
  clear hb4 hs4 q3 hbC
  go_wp2_with fail
  have hb4 : ∀ O, Below w4.heap.size w4 (w4.alloc O) := fun O => (Below.refl _ _).alloc (Nat.le_refl _) O
  refine implIsTidy_any _ ss _ (HS4.out.keep (hb4 _)) hn HN.out fun r5 w5 hb5 hr5 => ?_
  obtain rfl : r5 = r3 := by rw [Bool.eq_iff_iff]; exact hr5.trans HR3.out.symm
  clear hr5 HR3
  have hb45 : Below w4.heap.size w4 w5 := (hb4 _).trans (hb5.mono (by simp))
  have hbE : Below w.heap.size w w5 := hbD.trans (hb45.mono (by omega))
  have q5 := cell_keep hb45 q4
  have x5 : w5.cell? ⟨w4.heap.size, 0, none⟩ = some (.slice ao4 ss.length cap4) := cell_keep hb5 (by simp [go_sem])
  have HS5 : Hid (StepsAt w5 (.slice ao4 ss.length cap4) ss) := HS4.out.keep hb45
  have HP5 : Hid (StepsAt w5 (.slice ao ss.length cap) ss) := HH.out.keep hbE
  have hz5 : w.heap.size < w5.heap.size := cell_lt q5
  have hz5' : w4.heap.size < w5.heap.size := cell_lt x5
  clear hb5 hb45 hb4 hbD q4 HS4 HH
  go_wp2_with fail
  go_region_with (first | (go_at_call 17; refine toProg_any (.slice ao ss.length cap) ss _ (HP5.out.keep (below_drewN (Below.refl _ _) 1)) hn HN.out ?_; intro v6 w6 hs6 hb6; have hb56 : Below w5.heap.size w5 w6 := ⟨hb6.os, hb6.tape, hb6.output, hb6.size, hb6.block⟩; have x6 := cell_keep hb56 x5) | (go_at_call 19; refine eqProg_any _ _ ss _ (HS5.out.keep hb56) hs6.at hn HN.out ?_; intro w7 hb7))
  all_goals
    have hbF : Below w.heap.size w w7 := (hbE.trans (hb56.mono (by omega))).trans (hb7.mono (by have := hb56.size; omega))
    clear hb7 hb56 hb6 hs6
    go_wp2
    exact HQ.out _ hbF

set_option maxRecDepth 100000 in
theorem lawIsTidy_lifted (os : Os) (started : os.Started) (H : Type) (enc : TypeId × Value → H) :
    ReturnsInHanded {} Try.checked os 5 .any (Rows.fnExactFlowIsTidySpec.pre6 enc Try.prog Try.f5 Rows.fnExactFlowIsTidyRow.domain false) (Rows.fnExactFlowIsTidySpec.post enc Try.prog Try.f5 false true false false) := by
  refine returnsInHanded_of_change (C := Try.checked) own started (by kernel_rfl) Try.func5
    (ChangeSpec.witness6 (enc := enc) (C := Try.checked) false ⟨#[], #[.agg #[.slice none 0 0]], []⟩ 8 (by kernel_rfl) (by kernel_rfl) (by kernel_rfl) (by kernel_rfl)) ?_
  intro W base args ds gs before hval0 hW hcnd _
  have hval : ∀ (j : Nat) t v, Try.f5.params[j]? = some t → args[j]? = some v → Value.okWide Try.prog W .any base t v := hval0
  have hW' := hW
  obtain ⟨p, q, hA0, hV, rfl, hfz, hnd⟩ := hW
  have hA : DataW.TrodAll enc Try.prog W 0 (fun _ => true) true Try.f5.params.toList args.toList ds p := hA0
  rw [Try.params5] at hA hval
  obtain ⟨v0, vs0, d0, ds0, p0, q0, hargs, rfl, rfl, h0, r0⟩ := trodAll_cons hA
  obtain ⟨rfl, rfl, rfl⟩ := trodAll_nil r0
  obtain rfl : args = #[v0] := by cases args; simp_all
  obtain ⟨rfl, rfl⟩ := trodVars_none hV
  have k0 := h0
  have lt0 : ∀ x ∈ p0, x.block < W.heap.size := by obtain ⟨m, hm⟩ := k0; exact DataW.trod_lt m _ _ _ hm
  obtain ⟨u, ss, hv0, hs, hl, hls⟩ := open_prog (hval 0 24 v0 rfl rfl) h0
  subst hv0
  clear hA0 hval0
  refine lawIsTidy_walk u ss W hs hl hls fun W' bel => ?_
  exact ⟨_, rfl, _, _, _, [], _, [], hW', trodAll_mk1 (shut_bool Try.underlying4 _), (trodAll_cons_mk (Below.trod laidOut (by kernel_rfl) (of_decide_eq_true (by kernel_rfl)) k0 bel lt0) trodAll_mk0), rfl, bel.frame _, fun h => by cases h⟩

theorem fnExactFlowIsTidy_holds : Rows.FnExactFlowIsTidySaid :=
  OpenClaim.holds_of_wide 5 Try.f5 rfl rfl rfl rfl rfl rfl rfl ⟨rfl, rfl, rfl, rfl, rfl⟩ rfl rfl rfl rfl rfl (by kernel_rfl) Try.func5 (by kernel_rfl)
    (of_decide_eq_true (by kernel_rfl)) (by unfold Func.isWrapper; first | (rw [if_pos (by decide +kernel)]; kernel_rfl) | (rw [if_neg (by decide +kernel)]; exact ⟨rfl, rfl⟩))
    (fun os started H enc _ => lawIsTidy_lifted os started H enc)
#print axioms fnExactFlowIsTidy_holds
end Go.Proofs.Ytemmjiiibcbiiaa
