/-
  At every program and every row of numbers that come in, however made, PathOk answers as the model does, and changes nothing of what came in: the law FnExactPathOk answers true. No condition.
-/
import Derived.Test.YtacgfbcfkjflmaaRows
import Derived.Test.YtacgfbcfkjflmaaSz
import Derived.Test.YtacgfbcfkjflmaaEq
import Derived.Test.YtacgfbcfkjflmaaOpen
import Derived.Test.YtacgfbcfkjflmaaSpecPath
import Derived.Test.YtacgfbcfkjflmaaImplPath
import Derived.OpenShut
import Derived.ShutString
import Derived.ChangeOld
import Derived.Below
import Derived.Deep.RegionHeld3
namespace Go.Proofs.Ytacgfbcfkjflmaa
open Go.ChangeShapes Go.WideShapes Go.ChangeAt Go.RowKit

theorem own : ownKnob Try.prog.godebug = none := by kernel_rfl
theorem laidOut : laidOutB Try.prog = true := by kernel_rfl

set_option maxRecDepth 100000 in
set_option maxHeartbeats 8000000 in
theorem law_walk (v x : Value) (ss : List St) (zs : List Int) (w : World) (h : StepsAt w v ss) (hl : ss.length ≤ 9223372036854775807) (hls : ∀ s ∈ ss, s.next.length ≤ 9223372036854775807) (hi : IntsAt w x zs) (hil : zs.length ≤ 9223372036854775807) {Q : Ending → World → Prop}
    (hQ : ∀ w', Below w.heap.size w w' → Q (.returned (.bool true)) w') :
    Calls Try.prog 3 #[.agg #[v], x] w Q := by
  have HQ : Hid (∀ w', Below w.heap.size w w' → Q (.returned (.bool true)) w') := hQ
  clear hQ
  obtain ⟨ao, b, o, cap, rfl, ha, hc⟩ := id h
  obtain ⟨aox, bx, ox, capx, rfl, hax, hcx⟩ := id hi
  have HH : Hid (StepsAt w (.slice ao ss.length cap) ss) := h
  have HI : Hid (IntsAt w (.slice aox zs.length capx) zs) := hi
  have HL : Hid (∀ s ∈ ss, s.next.length ≤ 9223372036854775807) := hls
  clear ha hc h hls hax hcx hi
  have hb0 : ∀ O, Below w.heap.size w (w.alloc O) := fun O => (Below.refl _ _).alloc (Nat.le_refl _) O
  by_cases hbig : 1048576 < zs.length
  · have hbi : (1048576 : Int) < (zs.length : Int) := by omega
    go_enter Try.func3, Try.ntmps3
    go_wp2
    exact HQ.out _ (hb0 _)
  have hbi : ¬ ((1048576 : Int) < (zs.length : Int)) := by omega
  have hin : zs.length ≤ 1048576 := by omega
  go_enter Try.func3, Try.ntmps3
  go_wp2_with fail
  refine szProg_any (.slice ao ss.length cap) ss 1048576 _ (HH.out.keep (hb0 _)) hl HL.out (by omega) (by omega) fun r w1 hr hz hb1 => ?_
  have hbA : Below w.heap.size w w1 := (hb0 _).trans (hb1.mono (by simp))
  have q1 : w1.cell? ⟨w.heap.size, 0, none⟩ = some (.slice ao ss.length cap) := cell_keep hb1 (by simp [go_sem])
  have HZ : Hid (0 ≤ r → ss.length ≤ (1048576 : Int) ∧ ∀ s ∈ ss, s.next.length ≤ (1048576 : Int)) := hz
  clear hb1 hb0 hz
  by_cases hneg : r < 0
  · go_wp2
    exact HQ.out _ hbA
  have hn : ss.length ≤ 1048576 := by have := (HZ.out (by omega)).1; omega
  have HN : Hid (∀ s ∈ ss, s.next.length ≤ 1048576) := fun s hs => by have := (HZ.out (by omega)).2 s hs; omega
  clear HZ HL hl
  go_wp2_with fail
  refine toProg_any (.slice ao ss.length cap) ss _ (HH.out.keep hbA) hn HN.out fun v2 w2 hs2 hb2 => ?_
  have hbB : Below w.heap.size w w2 := hbA.trans (hb2.mono hbA.size)
  have q2 := cell_keep hb2 q1
  obtain ⟨ao2, b2, o2, cap2, hv2, _, _, _⟩ := id hs2
  subst hv2
  have HS2 : Hid (StepsAt w2 (.slice ao2 ss.length cap2) ss) := hs2.at
  clear hb2 hs2 q1 hbA
  go_wp2_with fail
  refine toIntS_any _ zs _ (HI.out.keep hbB) hin fun v3 w3 ho3 hb3 => ?_
  have hbC : Below w.heap.size w w3 := hbB.trans (hb3.mono hbB.size)
  have q3 := cell_keep hb3 q2
  have HS3 : Hid (StepsAt w3 (.slice ao2 ss.length cap2) ss) := HS2.out.keep hb3
  have HI3 : Hid (IntsC w3 v3 zs) := ho3.c
  obtain ⟨b3, hv3, _⟩ := ho3
  subst hv3
  clear hb3 HS2 q2 hbB
  go_wp2_with fail
  refine specPathOk_any _ _ ss zs _ HS3.out hn HN.out HI3.out.at hin fun bb w4 hb4 hbb => ?_
  have hbD : Below w.heap.size w w4 := hbC.trans (hb4.mono hbC.size)
  have q4 := cell_keep hb4 q3
  have HBB : Hid (bb = true ↔ okB ss = true ∧ IsPath ss zs) := hbb
  clear hb4 hbb HS3 HI3 q3 hbC
  go_wp2_with fail
  refine toProg_any (.slice ao ss.length cap) ss _ (HH.out.keep hbD) hn HN.out fun v6 w6 hs6 hb6 => ?_
  have hbE : Below w.heap.size w w6 := hbD.trans (hb6.mono hbD.size)
  have q6 := cell_keep hb6 q4
  obtain ⟨ao6, b6, o6, cap6, hv6, _, _, _⟩ := id hs6
  subst hv6
  have HS6 : Hid (StepsAt w6 (.slice ao6 ss.length cap6) ss) := hs6.at
  have s06 : w.heap.size < w6.heap.size := cell_lt q6
  have s06' : w.heap.size ≠ w6.heap.size := by omega
  clear hb6 hs6 q4 hbD
  have hb5 : ∀ (W : World) O, Below W.heap.size W (W.alloc O) := fun W O => (Below.refl _ _).alloc (Nat.le_refl _) O
  go_wp2_with fail
  refine toIntS_any _ zs _ (HI.out.keep (hbE.trans ((hb5 _ _).mono hbE.size))) hin fun v7 w7 ho7 hb7 => ?_
  rw [show (w6.alloc (.cells #[.slice ao6 ss.length cap6] 30)).heap.size = w6.heap.size + 1 by simp] at ho7 hb7
  have hb67 : Below w6.heap.size w6 w7 := (hb5 _ _).trans (hb7.mono (by omega))
  have hbF : Below w.heap.size w w7 := hbE.trans (hb67.mono hbE.size)
  have q7 := cell_keep hb67 q6
  have x7 : w7.cell? ⟨w6.heap.size, 0, none⟩ = some (.slice ao6 ss.length cap6) := hb7.cell (p := ⟨w6.heap.size, 0, none⟩) (by show w6.heap.size < w6.heap.size + 1; omega) |>.trans (by simp [go_sem])
  have HS7 : Hid (StepsAt w7 (.slice ao6 ss.length cap6) ss) := HS6.out.keep hb67
  have HI7 : Hid (IntsC w7 v7 zs) := ho7.c
  obtain ⟨b7, hv7, _⟩ := ho7
  subst hv7
  clear hb7 hb67 q6 HS6 hbE
  go_wp2_with fail
  refine implPathOk_any _ _ ss zs _ HS7.out hn HN.out HI7.out hin fun bc w8 hb8 hbc => ?_
  obtain rfl : bb = bc := Bool.eq_iff_iff.2 (HBB.out.trans hbc.symm)
  have hbG : Below w.heap.size w w8 := hbF.trans (hb8.mono hbF.size)
  have q8 := cell_keep hb8 q7
  have x8 := cell_keep hb8 x7
  have HS8 : Hid (StepsAt w8 (.slice ao6 ss.length cap6) ss) := HS7.out.keep hb8
  have HI8 : Hid (IntsAt w8 (.slice (some ⟨b7, 0, none⟩) zs.length zs.length) zs) := (HI7.out.keep hb8).at
  have HP8 : Hid (StepsAt w8 (.slice ao ss.length cap) ss) := HH.out.keep hbG
  have hbb1 : (bb != bb) = false := by simp
  clear hb8 hbc HBB q7 x7 HS7 HI7 hbF
  go_wp2_with fail
  go_region_held3 (fun wx => wx.cell? ⟨w6.heap.size, 0, none⟩ = some (.slice ao6 ss.length cap6) ∧ wx.cell? ⟨w.heap.size, 0, none⟩ = some (.slice ao ss.length cap)) (go_keep) (first | (go_at_call 11; refine toProg_any (.slice ao ss.length cap) ss _ (HP8.out.keep ((Below.refl _ _).drew)) hn HN.out ?_; intro v10 w10 hs10 hb10; have hb910 : Below w8.heap.size w8 w10 := ((Below.refl _ _).drew).trans (hb10.mono (by simp)); have x10 := cell_keep hb910 x8; have q10 := cell_keep hb910 q8; clear hb10) | (go_at_call 14; refine eqProg_any _ _ ss _ (HS8.out.keep hb910) hs10.at hn HN.out ?_; intro w11 hb11; have hb911 : Below w8.heap.size w8 w11 := hb910.trans (hb11.mono hb910.size); have x11 := cell_keep hb911 x8; have q11 := cell_keep hb911 q8; clear hb11))
  all_goals
    have hbI : Below w.heap.size w w11 := hbG.trans (hb911.mono hbG.size)
    have HI11 : Hid (IntsAt w11 (.slice (some ⟨b7, 0, none⟩) zs.length zs.length) zs) := HI8.out.keep hb911
    clear hs10 hb910 hb911 x10 q10 q8 x8 HS8 HI8 HP8 hbG
    go_wp2_with fail
    refine toIntS_any _ zs _ (HI.out.keep hbI) hin fun v12 w12 ho12 hb12 => ?_
    have hi12 := ho12.c.at
    obtain ⟨b12, hv12, _⟩ := ho12
    subst hv12
    have HI12 : Hid (IntsAt w12 (.slice (some ⟨b12, 0, none⟩) zs.length zs.length) zs) := hi12
    have HB12 : Hid (Below w11.heap.size w11 w12) := hb12
    clear hb12 hi12
    go_wp2_with fail
    refine eqIntS_any _ _ zs _ (HI11.out.keep HB12.out) HI12.out hin fun w13 hb13 => ?_
    have hbJ : Below w.heap.size w w13 := hbI.trans ((HB12.out.trans (hb13.mono HB12.out.size)).mono hbI.size)
    clear hb13 HB12 HI12 HI11 hbI
    go_wp2
    exact HQ.out _ hbJ

section
variable {H : Type} {enc : TypeId × Value → H} {w : World} {base : Nat} {spare : Nat → Bool} {held : Bool}

set_option maxRecDepth 100000 in
theorem open_numbers {r : Reach} {b0 : Nat} {v : Value} {d : DataW H} {p : List MemPlace} (hv : Value.okWide Try.prog w r b0 25 v) (h : DataW.Trod enc Try.prog w base spare held 25 v d p) :
    ∃ inp : List Int, IntsAt w v inp ∧ inp.length ≤ 9223372036854775807 := by
  obtain ⟨A, n, c, rfl⟩ := okWide_slice Try.underlying25 hv
  obtain ⟨fuel, hf⟩ := h
  obtain ⟨u, zs, e, hi, hl⟩ := open_next hf
  simp [Value.cells] at e
  subst e
  exact ⟨zs, hi, hl⟩
end

set_option maxRecDepth 100000 in
theorem law_lifted (os : Os) (started : os.Started) (H : Type) (enc : TypeId × Value → H) :
    ReturnsInHanded {} Try.checked os 3 .any (Rows.fnExactPathOkSpec.pre6 enc Try.prog Try.f3 Rows.fnExactPathOkRow.domain false) (Rows.fnExactPathOkSpec.post enc Try.prog Try.f3 false true false false) := by
  refine returnsInHanded_of_change (C := Try.checked) own started (by kernel_rfl) Try.func3
    (ChangeSpec.witness6 (enc := enc) (C := Try.checked) false ⟨#[], #[.agg #[.slice none 0 0], .slice none 0 0], []⟩ 8 (by kernel_rfl) (by kernel_rfl) (by kernel_rfl) (by kernel_rfl)) ?_
  intro W base args ds gs before hval0 hW hcnd _
  have hval : ∀ (j : Nat) t v, Try.f3.params[j]? = some t → args[j]? = some v → Value.okWide Try.prog W .any base t v := hval0
  have hW' := hW
  obtain ⟨p, q, hA0, hV, rfl, hfz, hnd⟩ := hW
  have hA : DataW.TrodAll enc Try.prog W 0 (fun _ => true) true Try.f3.params.toList args.toList ds p := hA0
  rw [Try.params3] at hA hval
  obtain ⟨v0, vs0, d0, ds0, p0, q0, hargs, rfl, rfl, h0, r0⟩ := trodAll_cons hA
  obtain ⟨v1, vs1, d1, ds1, p1, q1, rfl, rfl, rfl, h1, r1⟩ := trodAll_cons r0
  obtain ⟨rfl, rfl, rfl⟩ := trodAll_nil r1
  obtain rfl : args = #[v0, v1] := by cases args; simp_all
  obtain ⟨rfl, rfl⟩ := trodVars_none hV
  have k0 := h0
  have lt0 : ∀ x ∈ p0, x.block < W.heap.size := by obtain ⟨m, hm⟩ := k0; exact DataW.trod_lt m _ _ _ hm
  obtain ⟨u, ss, hv0, hs, hl, hls⟩ := open_prog (hval 0 24 v0 rfl rfl) h0
  subst hv0
  have k1 := h1
  have lt1 : ∀ x ∈ p1, x.block < W.heap.size := by obtain ⟨m, hm⟩ := k1; exact DataW.trod_lt m _ _ _ hm
  obtain ⟨zs, hin, hil⟩ := open_numbers (hval 1 25 v1 rfl rfl) h1
  clear hA0 hval0
  refine law_walk u v1 ss zs W hs hl hls hin hil fun W' bel => ?_
  exact ⟨_, rfl, _, _, _, [], _, [], hW', trodAll_mk1 (shut_bool Try.underlying4 _), (trodAll_cons_mk (Below.trod laidOut (by kernel_rfl) (of_decide_eq_true (by kernel_rfl)) k0 bel lt0) (trodAll_cons_mk (Below.trod laidOut (by kernel_rfl) (of_decide_eq_true (by kernel_rfl)) k1 bel lt1) trodAll_mk0)), rfl, bel.frame _, fun h => by cases h⟩

theorem fnExactPathOk_holds : Rows.FnExactPathOkSaid :=
  OpenClaim.holds_of_wide 3 Try.f3 rfl rfl rfl rfl rfl rfl rfl ⟨rfl, rfl, rfl, rfl, rfl⟩ rfl rfl rfl rfl rfl (by kernel_rfl) Try.func3 (by kernel_rfl)
    (of_decide_eq_true (by kernel_rfl)) (by unfold Func.isWrapper; first | (rw [if_pos (by decide +kernel)]; kernel_rfl) | (rw [if_neg (by decide +kernel)]; exact ⟨rfl, rfl⟩))
    (fun os started H enc _ => law_lifted os started H enc)
#print axioms fnExactPathOk_holds
end Go.Proofs.Ytacgfbcfkjflmaa
