/-
  At every program, reckoning and way of moving that come in, however made, PlaceOk answers as the model does, and changes nothing of what came in: the law FnExactPlaceOk answers true. No condition.
-/
import Derived.Test.YtacgfbcfkjflmaaGreatRows
import Derived.Test.YtacgfbcfkjflmaaGreatSz
import Derived.Test.YtacgfbcfkjflmaaGreatEq
import Derived.Test.YtacgfbcfkjflmaaGreatToE
import Derived.Test.YtacgfbcfkjflmaaGreatOpenE
import Derived.Test.YtacgfbcfkjflmaaGreatArgP
import Derived.Test.YtacgfbcfkjflmaaGreatSpecPOk
import Derived.Test.YtacgfbcfkjflmaaGreatHeldA
import Derived.OpenShut
import Derived.ShutString
import Derived.ChangeOld
import Derived.Below
import Derived.Deep.RegionHeld3
namespace Go.Proofs.YtacgfbcfkjflmaaGreat
open Go.ChangeShapes Go.WideShapes Go.ChangeAt Go.RowKit

theorem own : ownKnob Tryz.prog.godebug = none := by kernel_rfl
theorem laidOut : laidOutB Tryz.prog = true := by kernel_rfl

theorem toExpr_u {Q : Ending → World → Prop} (e : E5) (w : World) (hQ : ∀ w', Below w.heap.size w w' → Q (.returned (.agg #[.int .i64 e.op, .int .i64 e.av, .int .i64 e.an, .int .i64 e.bv, .int .i64 e.bn])) w') :
    Calls Tryz.prog 12 #[.agg #[.int .i64 e.op, .int .i64 e.av, .int .i64 e.an, .int .i64 e.bv, .int .i64 e.bn]] w Q := toExpr_any e w hQ

/-- The boxes of a program, a reckoning and a way of moving that came in. -/
structure BX (W : World) (B : Nat) (u : Value) (e : E5) (x1 x2 : Value) : Prop where
  p : W.cell? ⟨B, 0, none⟩ = some u
  c0 : W.cell? ⟨B + 1, 0, none⟩ = some (.int .i64 e.op)
  c1 : W.cell? ⟨B + 1, 1, none⟩ = some (.int .i64 e.av)
  c2 : W.cell? ⟨B + 1, 2, none⟩ = some (.int .i64 e.an)
  c3 : W.cell? ⟨B + 1, 3, none⟩ = some (.int .i64 e.bv)
  c4 : W.cell? ⟨B + 1, 4, none⟩ = some (.int .i64 e.bn)
  l0 : W.cell? ⟨B + 1 + 1, 0, none⟩ = some x1
  l1 : W.cell? ⟨B + 1 + 1, 1, none⟩ = some x2

theorem BX.keep {W W' : World} {B : Nat} {u : Value} {e : E5} {x1 x2 : Value} (h : BX W B u e x1 x2) (hb : Below W.heap.size W W') : BX W' B u e x1 x2 :=
  ⟨cell_keep hb h.p, cell_keep hb h.c0, cell_keep hb h.c1, cell_keep hb h.c2, cell_keep hb h.c3, cell_keep hb h.c4, cell_keep hb h.l0, cell_keep hb h.l1⟩
theorem BX.dr {W : World} {B : Nat} {u : Value} {e : E5} {x1 x2 : Value} (h : BX W B u e x1 x2) : BX W.drew B u e x1 x2 := ⟨h.p, h.c0, h.c1, h.c2, h.c3, h.c4, h.l0, h.l1⟩
theorem BX.all {W : World} {B : Nat} {u : Value} {e : E5} {x1 x2 : Value} (h : BX W B u e x1 x2) : W.cell? ⟨B, 0, none⟩ = some u ∧ W.cell? ⟨B + 1, 0, none⟩ = some (.int .i64 e.op) ∧ W.cell? ⟨B + 1, 1, none⟩ = some (.int .i64 e.av) ∧ W.cell? ⟨B + 1, 2, none⟩ = some (.int .i64 e.an) ∧ W.cell? ⟨B + 1, 3, none⟩ = some (.int .i64 e.bv) ∧ W.cell? ⟨B + 1, 4, none⟩ = some (.int .i64 e.bn) ∧ W.cell? ⟨B + 1 + 1, 0, none⟩ = some x1 ∧ W.cell? ⟨B + 1 + 1, 1, none⟩ = some x2 := ⟨h.p, h.c0, h.c1, h.c2, h.c3, h.c4, h.l0, h.l1⟩

theorem Below.stp {B : Nat} {w Y z : World} (hb : Below Y.heap.size Y z) (hB : B ≤ Y.heap.size) (h : Below B w Y) : Below B w z := h.trans (hb.mono hB)

set_option maxRecDepth 100000 in
set_option maxHeartbeats 16000000 in
theorem law_walk (v x1 x2 : Value) (ss : List St) (e : E5) (ps ts : List Bool) (w : World) (h : StepsAt w v ss) (hl : ss.length ≤ 9223372036854775807) (hls : ∀ s ∈ ss, s.next.length ≤ 9223372036854775807) (hp : BoolsAt w x1 ps) (ht : BoolsAt w x2 ts) (hpl : ps.length ≤ 9223372036854775807) (htl : ts.length ≤ 9223372036854775807) {Q : Ending → World → Prop}
    (hQ : ∀ w', Below w.heap.size w w' → Q (.returned (.bool true)) w') :
    Calls Tryz.prog 4 #[.agg #[v], exV e, .agg #[x1, x2]] w Q := by
  have HQ : Hid (∀ w', Below w.heap.size w w' → Q (.returned (.bool true)) w') := hQ
  clear hQ
  obtain ⟨ao, b, o, cap, rfl, ha, hc⟩ := id h
  obtain ⟨po, pb, pof, pcap, rfl, _, _⟩ := id hp
  obtain ⟨tp, tb, tof, tcap, rfl, _, _⟩ := id ht
  have HH : Hid (StepsAt w (.slice ao ss.length cap) ss) := h
  have HP : Hid (BoolsAt w (.slice po ps.length pcap) ps) := hp
  have HT : Hid (BoolsAt w (.slice tp ts.length tcap) ts) := ht
  have HL : Hid (∀ s ∈ ss, s.next.length ≤ 9223372036854775807) := hls
  have HXV : Hid (exV e = .agg #[.int .i64 e.op, .int .i64 e.av, .int .i64 e.an, .int .i64 e.bv, .int .i64 e.bn]) := rfl
  clear ha hc h hls hp ht
  rw [HXV.out]
  have hb0 : ∀ O O' O'', Below w.heap.size w (((w.alloc O).alloc O').alloc O'') := fun O O' O'' => (((Below.refl _ _).alloc (Nat.le_refl _) O).alloc (by simp) O').alloc (by simp; omega) O''
  go_enter Tryz.func4, Tryz.ntmps4
  go_wp2_with fail
  refine szProg_any (.slice ao ss.length cap) ss 1048576 _ (HH.out.keep (hb0 _ _ _)) hl HL.out (by omega) (by omega) fun r w1 hr hz hb1 => ?_
  have hbA : Below w.heap.size w w1 := (hb0 _ _ _).trans (hb1.mono (by simp; omega))
  have b1 : BX w1 w.heap.size (.slice ao ss.length cap) e (.slice po ps.length pcap) (.slice tp ts.length tcap) := BX.keep ⟨by simp [go_sem], by simp [go_sem], by simp [go_sem], by simp [go_sem], by simp [go_sem], by simp [go_sem], by simp [go_sem], by simp [go_sem]⟩ hb1
  have HZ : Hid (0 ≤ r → ss.length ≤ (1048576 : Int) ∧ ∀ s ∈ ss, s.next.length ≤ (1048576 : Int)) := hz
  clear hb1 hb0 hz
  by_cases hneg : r < 0
  · go_wp2
    exact HQ.out _ hbA
  have hn : ss.length ≤ 1048576 := by have := (HZ.out (by omega)).1; omega
  have HN : Hid (∀ s ∈ ss, s.next.length ≤ 1048576) := fun s hs => by have := (HZ.out (by omega)).2 s hs; omega
  clear HZ HL hl
  have l10 := b1.l0
  have l11 := b1.l1
  go_wp2_with fail
  refine szPlace_any _ _ ps ts r _ (HP.out.keep hbA) (HT.out.keep hbA) hpl htl (by omega) (by omega) fun r2 w2 hr2 hz2 hb2 => ?_
  have hbB : Below w.heap.size w w2 := Below.stp hb2 hbA.size hbA
  have b2 := b1.keep hb2
  have HZ2 : Hid (0 ≤ r2 → ps.length ≤ r ∧ ts.length ≤ r) := hz2
  clear hb2 hz2 b1 l10 l11 hbA hpl htl
  by_cases hneg2 : r2 < 0
  · go_wp2
    exact HQ.out _ hbB
  have hpn : ps.length ≤ 1048576 := by have := (HZ2.out (by omega)).1; omega
  have htn : ts.length ≤ 1048576 := by have := (HZ2.out (by omega)).2; omega
  clear HZ2
  go_wp2_with fail
  go_region_held3 (fun wx => wx.cell? ⟨w.heap.size, 0, none⟩ = some (.slice ao ss.length cap) ∧ wx.cell? ⟨w.heap.size + 1, 0, none⟩ = some (.int .i64 e.op) ∧ wx.cell? ⟨w.heap.size + 1, 1, none⟩ = some (.int .i64 e.av) ∧ wx.cell? ⟨w.heap.size + 1, 2, none⟩ = some (.int .i64 e.an) ∧ wx.cell? ⟨w.heap.size + 1, 3, none⟩ = some (.int .i64 e.bv) ∧ wx.cell? ⟨w.heap.size + 1, 4, none⟩ = some (.int .i64 e.bn) ∧ wx.cell? ⟨w.heap.size + 1 + 1, 0, none⟩ = some (.slice po ps.length pcap) ∧ wx.cell? ⟨w.heap.size + 1 + 1, 1, none⟩ = some (.slice tp ts.length tcap)) (exact BX.all (by first | assumption | exact BX.dr (by assumption))) (first
    | (go_at_call 11; refine toProg_any (.slice ao ss.length cap) ss _ (HH.out.keep hbB.drew) hn HN.out ?_; intro v3 w3 hs3 hb3; have b3 := b2.dr.keep hb3; have hbC : Below w.heap.size w w3 := Below.stp hb3 hbB.size hbB.drew; obtain ⟨ao3, bb3, o3, cap3, hv3, _, _, _⟩ := id hs3; subst hv3)
    | (go_at_call 12; refine toExpr_u e _ ?_; intro w4 hb4; have b4 := b3.keep hb4; have hbD : Below w.heap.size w w4 := Below.stp hb4 hbC.size hbC)
    | (go_at_call 19; refine toPlace_any _ _ ps ts _ (HP.out.keep hbD) (HT.out.keep hbD) hpn htn ?_; intro v5 w5 hpo5 hb5; have b5 := b4.keep hb5; have hbE : Below w.heap.size w w5 := Below.stp hb5 hbD.size hbD; obtain ⟨pv5, tv5, hv5, hp5, ht5, _⟩ := hpo5; obtain ⟨A5, c5, hpv5⟩ := hp5.slice; obtain ⟨A5', c5', htv5⟩ := ht5.slice; subst hpv5; subst htv5; subst hv5)
    | (go_at_call 18; refine specPlaceOk_any _ _ _ ss e ps ts _ ((hs3.at.keep hb4).keep hb5) hn HN.out hp5.at ht5.at ?_; intro n w7 hb7 hco7; have b7 := b5.keep hb7; have hbG : Below w.heap.size w w7 := Below.stp hb7 hbE.size hbE))
  all_goals
    have HCO : Hid (n = true ↔ PlaceOkP ss e ps ts) := hco7
    clear hs3 hb3 hb4 hb5 hb7 hp5 ht5 b2 b3 b4 b5 hbB hbC hbD hbE hco7
    have pp7 := b7.p
    go_wp2_with fail
    refine toProg_any (.slice ao ss.length cap) ss _ (HH.out.keep hbG) hn HN.out fun v8 w8 hs8 hb8 => ?_
    have hbH : Below w.heap.size w w8 := Below.stp hb8 hbG.size hbG
    have b8 := b7.keep hb8
    obtain ⟨ao8, bb8, o8, cap8, hv8, _, _, _⟩ := id hs8
    subst hv8
    have HS8 : Hid (StepsAt w8 (.slice ao8 ss.length cap8) ss) := hs8.at
    have s8 : w.heap.size + 1 + 1 < w8.heap.size := cell_lt b8.l0
    clear hb8 hs8 b7 pp7 hbG
    have bA : ∀ O, Below w8.heap.size w8 (w8.alloc O) := fun O => (Below.refl _ _).alloc (Nat.le_refl _) O
    have ll0 := b8.l0
    have ll1 := b8.l1
    go_wp2_with fail
    refine toPlace_any _ _ ps ts _ (HP.out.keep (Below.stp (bA _) hbH.size hbH)) (HT.out.keep (Below.stp (bA _) hbH.size hbH)) hpn htn fun v9 w9 hpo9 hb9 => ?_
    have hbI : Below w.heap.size w w9 := Below.stp hb9 (by simp; omega) (Below.stp (bA _) hbH.size hbH)
    have b9 := (b8.keep (bA _)).keep hb9
    have g9 : w9.cell? ⟨w8.heap.size, 0, none⟩ = some (.slice ao8 ss.length cap8) := cell_keep hb9 (by simp [go_sem])
    have HS9 : Hid (StepsAt w9 (.slice ao8 ss.length cap8) ss) := (HS8.out.keep (bA _)).keep hb9
    obtain ⟨pv9, tv9, hv9, hp9, ht9, ap9⟩ := hpo9
    obtain ⟨A9, c9, hpv9⟩ := hp9.slice
    obtain ⟨A9', c9', htv9⟩ := ht9.slice
    subst hpv9
    subst htv9
    subst hv9
    have HPO9 : Hid (PlaceO w8.heap.size w9.heap.size w9 (.agg #[.slice A9 ps.length c9, .slice A9' ts.length c9']) ps ts) := ⟨_, _, rfl, ⟨own_lower hp9.1 (by simp), hp9.2⟩, ⟨own_lower ht9.1 (by simp), ht9.2⟩, ap9⟩
    have s89 : w8.heap.size < w9.heap.size := cell_lt g9
    clear hb9 hp9 ht9 ap9 b8 ll0 ll1 HS8 bA hbH
    have bA : ∀ O, Below w9.heap.size w9 (w9.alloc O) := fun O => (Below.refl _ _).alloc (Nat.le_refl _) O
    go_wp2_with fail
    have hbJ : Below w.heap.size w (w9.alloc (.cells #[.slice A9 ps.length c9, .slice A9' ts.length c9'] 49)) := Below.stp (bA _) hbI.size hbI
    have b10 := b9.keep (bA (.cells #[.slice A9 ps.length c9, .slice A9' ts.length c9'] 49))
    have g10 : (w9.alloc (.cells #[.slice A9 ps.length c9, .slice A9' ts.length c9'] 49)).cell? ⟨w8.heap.size, 0, none⟩ = some (.slice ao8 ss.length cap8) := cell_keep (bA _) g9
    have x10 : (w9.alloc (.cells #[.slice A9 ps.length c9, .slice A9' ts.length c9'] 49)).cell? ⟨w9.heap.size, 0, none⟩ = some (.slice A9 ps.length c9) := by simp [go_sem]
    have y10 : (w9.alloc (.cells #[.slice A9 ps.length c9, .slice A9' ts.length c9'] 49)).cell? ⟨w9.heap.size, 1, none⟩ = some (.slice A9' ts.length c9') := by simp [go_sem]
    have HS10 : Hid (StepsAt (w9.alloc (.cells #[.slice A9 ps.length c9, .slice A9' ts.length c9'] 49)) (.slice ao8 ss.length cap8) ss) := HS9.out.keep (bA _)
    have HPO10 : Hid (PlaceO w8.heap.size w9.heap.size (w9.alloc (.cells #[.slice A9 ps.length c9, .slice A9' ts.length c9'] 49)) (.agg #[.slice A9 ps.length c9, .slice A9' ts.length c9']) ps ts) := HPO9.out.keep (bA _)
    clear bA b9 g9 HS9 HPO9 hbI
    generalize w9.alloc (.cells #[.slice A9 ps.length c9, .slice A9' ts.length c9'] 49) = w10 at *
    have s910 : w9.heap.size < w10.heap.size := cell_lt x10
    obtain ⟨pv, tv, hv, hpp, htt, _⟩ := id HPO10.out
    cases hv
    have HPP : Hid (BoolsAt w10 (.slice A9 ps.length c9) ps) := hpp.at
    have HTT : Hid (BoolsAt w10 (.slice A9' ts.length c9') ts) := htt.at
    clear hpp htt
    go_region_held3 (fun wx => wx.cell? ⟨w8.heap.size, 0, none⟩ = some (.slice ao8 ss.length cap8) ∧ wx.cell? ⟨w9.heap.size, 0, none⟩ = some (.slice A9 ps.length c9) ∧ wx.cell? ⟨w9.heap.size, 1, none⟩ = some (.slice A9' ts.length c9') ∧ wx.cell? ⟨w.heap.size, 0, none⟩ = some (.slice ao ss.length cap) ∧ wx.cell? ⟨w.heap.size + 1, 0, none⟩ = some (.int .i64 e.op) ∧ wx.cell? ⟨w.heap.size + 1, 1, none⟩ = some (.int .i64 e.av) ∧ wx.cell? ⟨w.heap.size + 1, 2, none⟩ = some (.int .i64 e.an) ∧ wx.cell? ⟨w.heap.size + 1, 3, none⟩ = some (.int .i64 e.bv) ∧ wx.cell? ⟨w.heap.size + 1, 4, none⟩ = some (.int .i64 e.bn) ∧ wx.cell? ⟨w.heap.size + 1 + 1, 0, none⟩ = some (.slice po ps.length pcap) ∧ wx.cell? ⟨w.heap.size + 1 + 1, 1, none⟩ = some (.slice tp ts.length tcap)) (exact ⟨by assumption, by assumption, by assumption, BX.all (by first | assumption | exact BX.dr (by assumption))⟩) (first
      | (go_at_call 12; refine toExpr_u e _ ?_; intro w11 hb11; have b11 := b10.dr.keep hb11; have hb1011 : Below w10.heap.size w10 w11 := (Below.refl _ _).drew.trans hb11; have g11 := cell_keep hb1011 g10; have x11 := cell_keep hb1011 x10; have y11 := cell_keep hb1011 y10)
      | (go_at_call 20; refine implPlaceOk_any _ _ _ ss e ps ts _ (HS10.out.keep hb1011) hn HN.out (HPP.out.keep hb1011) (HTT.out.keep hb1011) ?_; intro n2 w12 hb12 hco12; have b12 := b11.keep hb12; have hb1012 : Below w10.heap.size w10 w12 := Below.stp hb12 hb1011.size hb1011; have g12 := cell_keep hb1012 g10; have x12 := cell_keep hb1012 x10; have y12 := cell_keep hb1012 y10; obtain rfl : n = n2 := Bool.eq_iff_iff.2 (HCO.out.trans hco12.symm)))
    all_goals
      have hbK : Below w.heap.size w w12 := Below.stp hb1012 hbJ.size hbJ
      have HS12 : Hid (StepsAt w12 (.slice ao8 ss.length cap8) ss) := HS10.out.keep hb1012
      have HPO12 : Hid (PlaceO w8.heap.size w9.heap.size w12 (.agg #[.slice A9 ps.length c9, .slice A9' ts.length c9']) ps ts) := HPO10.out.keep hb1012
      clear hb11 hb1011 hb12 hb1012 hco12 b10 b11 g10 x10 y10 g11 x11 y11 HS10 HPO10 HPP HTT hbJ
      have hnn : (n != n) = false := by simp
      go_wp2_with fail
      go_region_held3 (fun wx => wx.cell? ⟨w8.heap.size, 0, none⟩ = some (.slice ao8 ss.length cap8) ∧ wx.cell? ⟨w.heap.size, 0, none⟩ = some (.slice ao ss.length cap)) (exact ⟨by assumption, BX.p (by first | assumption | exact BX.dr (by assumption))⟩) (first
        | (go_at_call 11; refine toProg_any (.slice ao ss.length cap) ss _ (HH.out.keep hbK.drew) hn HN.out ?_; intro v13 w13 hs13 hb13; have b13 := b12.dr.keep hb13; have hb1213 : Below w12.heap.size w12 w13 := (Below.refl _ _).drew.trans hb13; have g13 := cell_keep hb1213 g12; have x13 := cell_keep hb1213 x12; have y13 := cell_keep hb1213 y12)
        | (go_at_call 15; refine eqProg_any _ _ ss _ (HS12.out.keep hb1213) hs13.at hn HN.out ?_; intro w14 hb14; have b14 := b13.keep hb14; have hb1214 : Below w12.heap.size w12 w14 := Below.stp hb14 hb1213.size hb1213; have g14 := cell_keep hb1214 g12; have x14 := cell_keep hb1214 x12; have y14 := cell_keep hb1214 y12))
      all_goals
        have hbL : Below w.heap.size w w14 := Below.stp hb1214 hbK.size hbK
        have HPO14 : Hid (PlaceO w8.heap.size w9.heap.size w14 (.agg #[.slice A9 ps.length c9, .slice A9' ts.length c9']) ps ts) := HPO12.out.keep hb1214
        clear hs13 hb13 hb1213 hb14 hb1214 b12 b13 g12 x12 y12 g13 x13 y13 g14 HS12 HPO12 hbK
        go_wp2_with fail
        go_region_held3 (fun wx => wx.cell? ⟨w9.heap.size, 0, none⟩ = some (.slice A9 ps.length c9) ∧ wx.cell? ⟨w9.heap.size, 1, none⟩ = some (.slice A9' ts.length c9') ∧ wx.cell? ⟨w.heap.size, 0, none⟩ = some (.slice ao ss.length cap) ∧ wx.cell? ⟨w.heap.size + 1, 0, none⟩ = some (.int .i64 e.op) ∧ wx.cell? ⟨w.heap.size + 1, 1, none⟩ = some (.int .i64 e.av) ∧ wx.cell? ⟨w.heap.size + 1, 2, none⟩ = some (.int .i64 e.an) ∧ wx.cell? ⟨w.heap.size + 1, 3, none⟩ = some (.int .i64 e.bv) ∧ wx.cell? ⟨w.heap.size + 1, 4, none⟩ = some (.int .i64 e.bn) ∧ wx.cell? ⟨w.heap.size + 1 + 1, 0, none⟩ = some (.slice po ps.length pcap) ∧ wx.cell? ⟨w.heap.size + 1 + 1, 1, none⟩ = some (.slice tp ts.length tcap)) (exact ⟨by assumption, by assumption, BX.all (by first | assumption | exact BX.dr (by assumption))⟩) (first
          | (go_at_call 19; refine toPlace_any _ _ ps ts _ (HP.out.keep hbL.drew) (HT.out.keep hbL.drew) hpn htn ?_; intro v15 w15 hpo15 hb15; have b15 := b14.dr.keep hb15; have hb1415 : Below w14.heap.size w14 w15 := (Below.refl _ _).drew.trans hb15; have x15 := cell_keep hb1415 x14; have y15 := cell_keep hb1415 y14; obtain ⟨A15, c15, A15', c15', hv15⟩ := hpo15.form; subst hv15)
          | (go_at_call 21; refine eqPlace_any _ _ ps ts _ _ _ _ _ (HPO14.out.keep hb1415) hpo15 hpn htn ?_; intro w16 hb16; have b16 := b15.keep hb16; have hb1416 : Below w14.heap.size w14 w16 := Below.stp hb16 hb1415.size hb1415; have x16 := cell_keep hb1416 x14; have y16 := cell_keep hb1416 y14))
        all_goals
          have hbM : Below w.heap.size w w16 := Below.stp hb1416 hbL.size hbL
          clear hpo15 hb15 hb1415 hb16 hb1416 b14 b15 b16 x14 y14 x15 y15 x16 y16 HPO14 hbL
          go_wp2
          exact HQ.out _ hbM

set_option maxRecDepth 100000 in
theorem law_lifted (os : Os) (started : os.Started) (H : Type) (enc : TypeId × Value → H) :
    ReturnsInHanded {} Tryz.checked os 4 .any (Rows.fnExactPlaceOkSpec.pre6 enc Tryz.prog Tryz.f4 Rows.fnExactPlaceOkRow.domain false) (Rows.fnExactPlaceOkSpec.post enc Tryz.prog Tryz.f4 false true false false) := by
  refine returnsInHanded_of_change (C := Tryz.checked) own started (by kernel_rfl) Tryz.func4
    (ChangeSpec.witness6 (enc := enc) (C := Tryz.checked) false ⟨#[], #[.agg #[.slice none 0 0], .agg #[.int .i64 0, .int .i64 0, .int .i64 0, .int .i64 0, .int .i64 0], .agg #[.slice none 0 0, .slice none 0 0]], []⟩ 8 (by kernel_rfl) (by kernel_rfl) (by kernel_rfl) (by kernel_rfl)) ?_
  intro W base args ds gs before hval0 hW hcnd _
  have hval : ∀ (j : Nat) t v, Tryz.f4.params[j]? = some t → args[j]? = some v → Value.okWide Tryz.prog W .any base t v := hval0
  have hW' := hW
  obtain ⟨p, q, hA0, hV, rfl, hfz, hnd⟩ := hW
  have hA : DataW.TrodAll enc Tryz.prog W 0 (fun _ => true) true Tryz.f4.params.toList args.toList ds p := hA0
  rw [Tryz.params4] at hA hval
  obtain ⟨v0, vs0, d0, ds0, p0, q0, hargs, rfl, rfl, h0, r0⟩ := trodAll_cons hA
  obtain ⟨v1, vs1, d1, ds1, p1, q1, rfl, rfl, rfl, h1, r1⟩ := trodAll_cons r0
  obtain ⟨v2, vs2, d2, ds2, p2, q2, rfl, rfl, rfl, h2, r2⟩ := trodAll_cons r1
  obtain ⟨rfl, rfl, rfl⟩ := trodAll_nil r2
  obtain rfl : args = #[v0, v1, v2] := by cases args; simp_all
  obtain ⟨rfl, rfl⟩ := trodVars_none hV
  have k0 := h0
  have lt0 : ∀ x ∈ p0, x.block < W.heap.size := by obtain ⟨m, hm⟩ := k0; exact DataW.trod_lt m _ _ _ hm
  obtain ⟨u, ss, hv0, hs, hl, hls⟩ := open_prog (hval 0 24 v0 rfl rfl) h0
  subst hv0
  have k1 := h1
  have lt1 : ∀ x ∈ p1, x.block < W.heap.size := by obtain ⟨m, hm⟩ := k1; exact DataW.trod_lt m _ _ _ hm
  obtain ⟨e, hv1⟩ := open_expr (hval 1 28 v1 rfl rfl) h1
  subst hv1
  have k2 := h2
  have lt2 : ∀ x ∈ p2, x.block < W.heap.size := by obtain ⟨m, hm⟩ := k2; exact DataW.trod_lt m _ _ _ hm
  obtain ⟨x1, x2, ps, ts, hv2, hp, ht, hpl, htl⟩ := open_place (hval 2 46 v2 rfl rfl) h2
  subst hv2
  clear hA0 hval0
  refine law_walk u x1 x2 ss e ps ts W hs hl hls hp ht hpl htl fun W' bel => ?_
  exact ⟨_, rfl, _, _, _, [], _, [], hW', trodAll_mk1 (shut_bool Tryz.underlying4 _), (trodAll_cons_mk (Below.trod laidOut (by kernel_rfl) (of_decide_eq_true (by kernel_rfl)) k0 bel lt0) (trodAll_cons_mk (Below.trod laidOut (by kernel_rfl) (of_decide_eq_true (by kernel_rfl)) k1 bel lt1) (trodAll_cons_mk (Below.trod laidOut (by kernel_rfl) (of_decide_eq_true (by kernel_rfl)) k2 bel lt2) trodAll_mk0))), rfl, bel.frame _, fun h => by cases h⟩

theorem fnExactPlaceOk_holds : Rows.FnExactPlaceOkSaid :=
  OpenClaim.holds_of_wide 4 Tryz.f4 rfl rfl rfl rfl rfl rfl rfl ⟨rfl, rfl, rfl, rfl, rfl⟩ rfl rfl rfl rfl rfl (by kernel_rfl) Tryz.func4 (by kernel_rfl)
    (of_decide_eq_true (by kernel_rfl)) (by unfold Func.isWrapper; first | (rw [if_pos (by decide +kernel)]; kernel_rfl) | (rw [if_neg (by decide +kernel)]; exact ⟨rfl, rfl⟩))
    (fun os started H enc _ => law_lifted os started H enc)
#print axioms fnExactPlaceOk_holds
end Go.Proofs.YtacgfbcfkjflmaaGreat
