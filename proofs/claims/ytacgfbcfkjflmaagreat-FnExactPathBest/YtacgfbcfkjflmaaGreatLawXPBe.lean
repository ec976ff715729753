/-
  At every program, reckoning and row of numbers that come in, however made, PathBest answers as the model does, and changes nothing of what came in: the law FnExactPathBest answers true. No condition.
-/
import Derived.Test.YtacgfbcfkjflmaaGreatRows
import Derived.Test.YtacgfbcfkjflmaaGreatSz
import Derived.Test.YtacgfbcfkjflmaaGreatEq
import Derived.Test.YtacgfbcfkjflmaaGreatToE
import Derived.Test.YtacgfbcfkjflmaaGreatOpenE
import Derived.Test.YtacgfbcfkjflmaaGreatPathBe
import Derived.OpenShut
import Derived.ShutString
import Derived.ChangeOld
import Derived.Below
import Derived.Deep.RegionHeld3
namespace Go.Proofs.YtacgfbcfkjflmaaGreat
open Go.ChangeShapes Go.WideShapes Go.ChangeAt Go.RowKit

theorem own : ownKnob Tryz.prog.godebug = none := by kernel_rfl
theorem laidOut : laidOutB Tryz.prog = true := by kernel_rfl

theorem toExpr_u {Q : Ending → World → Prop} (e : E5) (w : World) (hQ : ∀ w', Below w.heap.size w w' → Q (.returned (.agg #[.int .i64 e.op, .int .i64 e.av, .int .i64 e.an, .int .i64 e.bv, .int .i64 e.bn])) w') :
    Calls Tryz.prog 12 #[.agg #[.int .i64 e.op, .int .i64 e.av, .int .i64 e.an, .int .i64 e.bv, .int .i64 e.bn]] w Q := toExpr_any e w hQ

theorem Below.stp {B : Nat} {w Y z : World} (hb : Below Y.heap.size Y z) (hB : B ≤ Y.heap.size) (h : Below B w Y) : Below B w z := h.trans (hb.mono hB)

set_option maxRecDepth 100000 in
set_option maxHeartbeats 16000000 in
theorem law_walk (v y : Value) (ss : List St) (e : E5) (zs : List Int) (w : World) (h : StepsAt w v ss) (hl : ss.length ≤ 9223372036854775807) (hls : ∀ s ∈ ss, s.next.length ≤ 9223372036854775807) (hi : IntsAt w y zs) (hil : zs.length ≤ 9223372036854775807) {Q : Ending → World → Prop}
    (hQ : ∀ w', Below w.heap.size w w' → Q (.returned (.bool true)) w') :
    Calls Tryz.prog 3 #[.agg #[v], exV e, y] w Q := by
  have HQ : Hid (∀ w', Below w.heap.size w w' → Q (.returned (.bool true)) w') := hQ
  clear hQ
  obtain ⟨ao, b, o, cap, rfl, ha, hc⟩ := id h
  obtain ⟨aox, bx, ox, capx, rfl, hax, hcx⟩ := id hi
  have HH : Hid (StepsAt w (.slice ao ss.length cap) ss) := h
  have HI : Hid (IntsAt w (.slice aox zs.length capx) zs) := hi
  have HL : Hid (∀ s ∈ ss, s.next.length ≤ 9223372036854775807) := hls
  have HXV : Hid (exV e = .agg #[.int .i64 e.op, .int .i64 e.av, .int .i64 e.an, .int .i64 e.bv, .int .i64 e.bn]) := rfl
  clear ha hc h hls hax hcx hi
  rw [HXV.out]
  have hb0 : ∀ O O', Below w.heap.size w ((w.alloc O).alloc O') := fun O O' => ((Below.refl _ _).alloc (Nat.le_refl _) O).alloc (by simp) O'
  by_cases hbig : 1048576 < zs.length
  · have hbi : (1048576 : Int) < (zs.length : Int) := by omega
    go_enter Tryz.func3, Tryz.ntmps3
    go_wp2
    exact HQ.out _ (hb0 _ _)
  have hbi : ¬ ((1048576 : Int) < (zs.length : Int)) := by omega
  have hin : zs.length ≤ 1048576 := by omega
  go_enter Tryz.func3, Tryz.ntmps3
  go_wp2_with fail
  refine szProg_any (.slice ao ss.length cap) ss 1048576 _ (HH.out.keep (hb0 _ _)) hl HL.out (by omega) (by omega) fun r w1 hr hz hb1 => ?_
  have hbA : Below w.heap.size w w1 := (hb0 _ _).trans (hb1.mono (by simp; omega))
  have b1 : BoxE w1 w.heap.size ao ss.length cap e := BoxE.keep ⟨by simp [go_sem], by simp [go_sem], by simp [go_sem], by simp [go_sem], by simp [go_sem], by simp [go_sem]⟩ hb1
  have HZ : Hid (0 ≤ r → ss.length ≤ (1048576 : Int) ∧ ∀ s ∈ ss, s.next.length ≤ (1048576 : Int)) := hz
  clear hb1 hb0 hz
  by_cases hneg : r < 0
  · go_wp2
    exact HQ.out _ hbA
  have hn : ss.length ≤ 1048576 := by have := (HZ.out (by omega)).1; omega
  have HN : Hid (∀ s ∈ ss, s.next.length ≤ 1048576) := fun s hs => by have := (HZ.out (by omega)).2 s hs; omega
  clear HZ HL hl
  go_wp2_with fail
  go_region_held3 (fun wx => wx.cell? ⟨w.heap.size, 0, none⟩ = some (.slice ao ss.length cap) ∧ wx.cell? ⟨w.heap.size + 1, 0, none⟩ = some (.int .i64 e.op) ∧ wx.cell? ⟨w.heap.size + 1, 1, none⟩ = some (.int .i64 e.av) ∧ wx.cell? ⟨w.heap.size + 1, 2, none⟩ = some (.int .i64 e.an) ∧ wx.cell? ⟨w.heap.size + 1, 3, none⟩ = some (.int .i64 e.bv) ∧ wx.cell? ⟨w.heap.size + 1, 4, none⟩ = some (.int .i64 e.bn)) (exact BoxE.tot (by first | assumption | exact BoxE.drw (by assumption))) (first
    | (go_at_call 11; refine toProg_any (.slice ao ss.length cap) ss _ (HH.out.keep hbA.drew) hn HN.out ?_; intro v3 w3 hs3 hb3; have b3 := b1.drw.keep hb3; have hbC : Below w.heap.size w w3 := Below.stp hb3 hbA.size hbA.drew; obtain ⟨ao3, bb3, o3, cap3, hv3, _, _, _⟩ := id hs3; subst hv3)
    | (go_at_call 12; refine toExpr_u e _ ?_; intro w4 hb4; have b4 := b3.keep hb4; have hbD : Below w.heap.size w w4 := Below.stp hb4 hbC.size hbC)
    | (go_at_call 13; refine toIntS_any _ zs _ (HI.out.keep hbD) hin ?_; intro v6 w6 ho6 hb6; have b6 := b4.keep hb6; have hbF : Below w.heap.size w w6 := Below.stp hb6 hbD.size hbD; have hi6 := ho6.c; obtain ⟨bb6, hv6, _, _⟩ := ho6; subst hv6)
    | (go_at_call 10; refine specPathBest_any _ _ ss e zs _ ((hs3.at.keep hb4).keep hb6) hn HN.out hi6.at hin ?_; intro n w7 hb7 hco7; have b7 := b6.keep hb7; have hbG : Below w.heap.size w w7 := Below.stp hb7 hbF.size hbF))
  all_goals
    have HCO : Hid (BestOr ss e zs n) := hco7
    clear hs3 hb3 hb4 hb6 hb7 hi6 b1 b3 b4 b6 hbA hbC hbD hbF hco7
    have pp7 := b7.p
    go_wp2_with fail
    refine toProg_any (.slice ao ss.length cap) ss _ (HH.out.keep hbG) hn HN.out fun v8 w8 hs8 hb8 => ?_
    have hbH : Below w.heap.size w w8 := Below.stp hb8 hbG.size hbG
    have b8 := b7.keep hb8
    obtain ⟨ao8, bb8, o8, cap8, hv8, _, _, _⟩ := id hs8
    subst hv8
    have HS8 : Hid (StepsAt w8 (.slice ao8 ss.length cap8) ss) := hs8.at
    have s8 : w.heap.size + 1 < w8.heap.size := cell_lt b8.c0
    clear hb8 hs8 b7 pp7 hbG
    have bA : ∀ O, Below w8.heap.size w8 (w8.alloc O) := fun O => (Below.refl _ _).alloc (Nat.le_refl _) O
    go_wp2_with fail
    refine toIntS_any _ zs _ (HI.out.keep (Below.stp (bA _) hbH.size hbH)) hin fun v10 w10 ho10 hb10 => ?_
    have hbJ : Below w.heap.size w w10 := Below.stp hb10 (by simp; omega) (Below.stp (bA _) hbH.size hbH)
    have b10 := (b8.keep (bA _)).keep hb10
    have g10 : w10.cell? ⟨w8.heap.size, 0, none⟩ = some (.slice ao8 ss.length cap8) := cell_keep hb10 (by simp [go_sem])
    have HS10 : Hid (StepsAt w10 (.slice ao8 ss.length cap8) ss) := (HS8.out.keep (bA _)).keep hb10
    have HIC10 : Hid (IntsC w10 v10 zs) := ho10.c
    obtain ⟨bb10, hv10, _, _⟩ := ho10
    subst hv10
    have s810 : w8.heap.size < w10.heap.size := cell_lt g10
    clear hb10 bA b8 HS8 hbH
    go_wp2_with fail
    go_region_held3 (fun wx => wx.cell? ⟨w8.heap.size, 0, none⟩ = some (.slice ao8 ss.length cap8) ∧ wx.cell? ⟨w.heap.size, 0, none⟩ = some (.slice ao ss.length cap) ∧ wx.cell? ⟨w.heap.size + 1, 0, none⟩ = some (.int .i64 e.op) ∧ wx.cell? ⟨w.heap.size + 1, 1, none⟩ = some (.int .i64 e.av) ∧ wx.cell? ⟨w.heap.size + 1, 2, none⟩ = some (.int .i64 e.an) ∧ wx.cell? ⟨w.heap.size + 1, 3, none⟩ = some (.int .i64 e.bv) ∧ wx.cell? ⟨w.heap.size + 1, 4, none⟩ = some (.int .i64 e.bn)) (exact ⟨by assumption, BoxE.tot (by first | assumption | exact BoxE.drw (by assumption))⟩) (first
      | (go_at_call 12; refine toExpr_u e _ ?_; intro w11 hb11; have b11 := b10.drw.keep hb11; have hb1011 : Below w10.heap.size w10 w11 := (Below.refl _ _).drew.trans hb11; have g11 := cell_keep hb1011 g10)
      | (go_at_call 14; refine implPathBest_any _ _ ss e zs _ (HS10.out.keep hb1011) hn HN.out (HIC10.out.keep hb1011) hin ?_; intro n2 w12 hb12 hco12; have b12 := b11.keep hb12; have hb1012 : Below w10.heap.size w10 w12 := Below.stp hb12 hb1011.size hb1011; have g12 := cell_keep hb1012 g10; obtain rfl := HCO.out.unique hco12))
    all_goals
      have hbK : Below w.heap.size w w12 := Below.stp hb1012 hbJ.size hbJ
      have HS12 : Hid (StepsAt w12 (.slice ao8 ss.length cap8) ss) := HS10.out.keep hb1012
      have HIA12 : Hid (IntsAt w12 (.slice (some ⟨bb10, 0, none⟩) zs.length zs.length) zs) := (HIC10.out.keep hb1012).at
      clear hb11 hb1011 hb12 hb1012 hco12 b10 b11 g10 g11 HS10 HIC10 hbJ
      have hnn : (n != n) = false := by simp
      go_wp2_with fail
      go_region_held3 (fun wx => wx.cell? ⟨w8.heap.size, 0, none⟩ = some (.slice ao8 ss.length cap8) ∧ wx.cell? ⟨w.heap.size, 0, none⟩ = some (.slice ao ss.length cap)) (exact ⟨by assumption, BoxE.p (by first | assumption | exact BoxE.drw (by assumption))⟩) (first
        | (go_at_call 11; refine toProg_any (.slice ao ss.length cap) ss _ (HH.out.keep hbK.drew) hn HN.out ?_; intro v13 w13 hs13 hb13; have b13 := b12.drw.keep hb13; have hb1213 : Below w12.heap.size w12 w13 := (Below.refl _ _).drew.trans hb13; have g13 := cell_keep hb1213 g12)
        | (go_at_call 15; refine eqProg_any _ _ ss _ (HS12.out.keep hb1213) hs13.at hn HN.out ?_; intro w14 hb14; have b14 := b13.keep hb14; have hb1214 : Below w12.heap.size w12 w14 := Below.stp hb14 hb1213.size hb1213; have g14 := cell_keep hb1214 g12))
      all_goals
        have hbM : Below w.heap.size w w14 := Below.stp hb1214 hbK.size hbK
        have HIA16 : Hid (IntsAt w14 (.slice (some ⟨bb10, 0, none⟩) zs.length zs.length) zs) := HIA12.out.keep hb1214
        clear hs13 hb13 hb1213 hb14 hb1214 b12 b13 b14 g12 g13 g14 HS12 HIA12 hbK
        go_wp2_with fail
        refine toIntS_any _ zs _ (HI.out.keep hbM) hin fun v17 w17 ho17 hb17 => ?_
        have hi17 := ho17.c.at
        obtain ⟨b17, hv17, _, _⟩ := ho17
        subst hv17
        have HI17 : Hid (IntsAt w17 (.slice (some ⟨b17, 0, none⟩) zs.length zs.length) zs) := hi17
        have HB17 : Hid (Below w14.heap.size w14 w17) := hb17
        clear hb17 hi17
        go_wp2_with fail
        refine eqIntS_any _ _ zs _ (HIA16.out.keep HB17.out) HI17.out hin fun w18 hb18 => ?_
        have hbN : Below w.heap.size w w18 := Below.stp (Below.stp hb18 HB17.out.size HB17.out) hbM.size hbM
        clear hb18 HB17 HI17 HIA16 hbM
        go_wp2
        exact HQ.out _ hbN

section
variable {H : Type} {enc : TypeId × Value → H} {w : World} {base : Nat} {spare : Nat → Bool} {held : Bool}

set_option maxRecDepth 100000 in
theorem open_numbers {r : Reach} {b0 : Nat} {v : Value} {d : DataW H} {p : List MemPlace} (hv : Value.okWide Tryz.prog w r b0 29 v) (h : DataW.Trod enc Tryz.prog w base spare held 29 v d p) :
    ∃ inp : List Int, IntsAt w v inp ∧ inp.length ≤ 9223372036854775807 := by
  obtain ⟨A, n, c, rfl⟩ := okWide_slice Tryz.underlying29 hv
  obtain ⟨fuel, hf⟩ := h
  obtain ⟨u, zs, e, hi, hl⟩ := open_next hf
  simp [Value.cells] at e
  subst e
  exact ⟨zs, hi, hl⟩
end

set_option maxRecDepth 100000 in
theorem law_lifted (os : Os) (started : os.Started) (H : Type) (enc : TypeId × Value → H) :
    ReturnsInHanded {} Tryz.checked os 3 .any (Rows.fnExactPathBestSpec.pre6 enc Tryz.prog Tryz.f3 Rows.fnExactPathBestRow.domain false) (Rows.fnExactPathBestSpec.post enc Tryz.prog Tryz.f3 false true false false) := by
  refine returnsInHanded_of_change (C := Tryz.checked) own started (by kernel_rfl) Tryz.func3
    (ChangeSpec.witness6 (enc := enc) (C := Tryz.checked) false ⟨#[], #[.agg #[.slice none 0 0], .agg #[.int .i64 0, .int .i64 0, .int .i64 0, .int .i64 0, .int .i64 0], .slice none 0 0], []⟩ 8 (by kernel_rfl) (by kernel_rfl) (by kernel_rfl) (by kernel_rfl)) ?_
  intro W base args ds gs before hval0 hW hcnd _
  have hval : ∀ (j : Nat) t v, Tryz.f3.params[j]? = some t → args[j]? = some v → Value.okWide Tryz.prog W .any base t v := hval0
  have hW' := hW
  obtain ⟨p, q, hA0, hV, rfl, hfz, hnd⟩ := hW
  have hA : DataW.TrodAll enc Tryz.prog W 0 (fun _ => true) true Tryz.f3.params.toList args.toList ds p := hA0
  rw [Tryz.params3] at hA hval
  obtain ⟨v0, vs0, d0, ds0, p0, q0, hargs, rfl, rfl, h0, r0⟩ := trodAll_cons hA
  obtain ⟨v1, vs1, d1, ds1, p1, q1, rfl, rfl, rfl, h1, r1⟩ := trodAll_cons r0
  obtain ⟨v2, vs2, d2, ds2, p2, q2, rfl, rfl, rfl, h2, r2⟩ := trodAll_cons r1
  obtain ⟨rfl, rfl, rfl⟩ := trodAll_nil r2
  obtain rfl : args = #[v0, v1, v2] := by cases args; simp_all
  obtain ⟨rfl, rfl⟩ := trodVars_none hV
  have k0 := h0
  have lt0 : ∀ x ∈ p0, x.block < W.heap.size := by obtain ⟨m, hm⟩ := k0; exact DataW.trod_lt m _ _ _ hm
  obtain ⟨u, ss, hv0, hs, hl, hls⟩ := open_prog (hval 0 24 v0 rfl rfl) h0
  subst hv0
  have k1 := h1
  have lt1 : ∀ x ∈ p1, x.block < W.heap.size := by obtain ⟨m, hm⟩ := k1; exact DataW.trod_lt m _ _ _ hm
  obtain ⟨e, hv1⟩ := open_expr (hval 1 28 v1 rfl rfl) h1
  subst hv1
  have k2 := h2
  have lt2 : ∀ x ∈ p2, x.block < W.heap.size := by obtain ⟨m, hm⟩ := k2; exact DataW.trod_lt m _ _ _ hm
  obtain ⟨zs, hin, hil⟩ := open_numbers (hval 2 29 v2 rfl rfl) h2
  clear hA0 hval0
  refine law_walk u v2 ss e zs W hs hl hls hin hil fun W' bel => ?_
  exact ⟨_, rfl, _, _, _, [], _, [], hW', trodAll_mk1 (shut_bool Tryz.underlying4 _), (trodAll_cons_mk (Below.trod laidOut (by kernel_rfl) (of_decide_eq_true (by kernel_rfl)) k0 bel lt0) (trodAll_cons_mk (Below.trod laidOut (by kernel_rfl) (of_decide_eq_true (by kernel_rfl)) k1 bel lt1) (trodAll_cons_mk (Below.trod laidOut (by kernel_rfl) (of_decide_eq_true (by kernel_rfl)) k2 bel lt2) trodAll_mk0))), rfl, bel.frame _, fun h => by cases h⟩

theorem fnExactPathBest_holds : Rows.FnExactPathBestSaid :=
  OpenClaim.holds_of_wide 3 Tryz.f3 rfl rfl rfl rfl rfl rfl rfl ⟨rfl, rfl, rfl, rfl, rfl⟩ rfl rfl rfl rfl rfl (by kernel_rfl) Tryz.func3 (by kernel_rfl)
    (of_decide_eq_true (by kernel_rfl)) (by unfold Func.isWrapper; first | (rw [if_pos (by decide +kernel)]; kernel_rfl) | (rw [if_neg (by decide +kernel)]; exact ⟨rfl, rfl⟩))
    (fun os started H enc _ => law_lifted os started H enc)
#print axioms fnExactPathBest_holds
end Go.Proofs.YtacgfbcfkjflmaaGreat
