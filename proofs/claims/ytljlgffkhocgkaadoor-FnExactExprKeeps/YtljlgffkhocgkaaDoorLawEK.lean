/-
  At every program and every reckoning that come in, however made, ExprKeeps answers as the model does, changes nothing of what came in, and its answer is memory of its own: the law FnExactExprKeeps answers true. The library's table of bits lies in its variable, as the program's text lays it. No other condition.
-/
import Derived.Test.YtljlgffkhocgkaaDoorRows
import Derived.Test.YtljlgffkhocgkaaDoorTie
import Derived.Test.YtljlgffkhocgkaaDoorCards
import Derived.Test.YtljlgffkhocgkaaDoorSz
import Derived.Test.YtljlgffkhocgkaaDoorToE
import Derived.Test.YtljlgffkhocgkaaDoorEq
import Derived.Test.YtljlgffkhocgkaaDoorMarkP
import Derived.Test.YtljlgffkhocgkaaDoorOpenE
import Derived.Test.YtljlgffkhocgkaaDoorSpecEK
import Derived.Test.YtljlgffkhocgkaaDoorImplRow
import Derived.Test.YtljlgffkhocgkaaDoorAnsB
import Derived.OpenShut
import Derived.ShutString
import Derived.ChangeOld
import Derived.Below
import Derived.Deep.DeepHandedRow
import Derived.Lib.LaidTab
import Derived.Deep.RegionHeld3
namespace Go.Proofs.YtljlgffkhocgkaaDoor
open Go.ChangeShapes Go.WideShapes Go.ChangeAt Go.RowKit

theorem own : ownKnob Tryd.prog.godebug = none := by kernel_rfl
theorem laidOut : laidOutB Tryd.prog = true := by kernel_rfl

/-- The boxes of a law's two arguments. -/
structure BoxE (W : World) (B : Nat) (A : Option Addr) (n c : Nat) (e : E5) : Prop where
  p : W.cell? ⟨B, 0, none⟩ = some (.slice A n c)
  c0 : W.cell? ⟨B + 1, 0, none⟩ = some (.int .i64 e.op)
  c1 : W.cell? ⟨B + 1, 1, none⟩ = some (.int .i64 e.av)
  c2 : W.cell? ⟨B + 1, 2, none⟩ = some (.int .i64 e.an)
  c3 : W.cell? ⟨B + 1, 3, none⟩ = some (.int .i64 e.bv)
  c4 : W.cell? ⟨B + 1, 4, none⟩ = some (.int .i64 e.bn)

theorem BoxE.keep {W W' : World} {B : Nat} {A : Option Addr} {n c : Nat} {e : E5} (h : BoxE W B A n c e) (hb : Below W.heap.size W W') : BoxE W' B A n c e :=
  ⟨cell_keep hb h.p, cell_keep hb h.c0, cell_keep hb h.c1, cell_keep hb h.c2, cell_keep hb h.c3, cell_keep hb h.c4⟩

theorem BoxE.drew {W : World} {B : Nat} {A : Option Addr} {n c : Nat} {e : E5} (h : BoxE W B A n c e) : BoxE W.drew B A n c e := ⟨h.p, h.c0, h.c1, h.c2, h.c3, h.c4⟩

theorem BoxE.out {W W' : World} {B lo hi : Nat} {A : Option Addr} {n c : Nat} {e : E5} (h : BoxE W B A n c e) (ho : Out lo hi W W') (hl : B + 1 < lo) : BoxE W' B A n c e :=
  ⟨ho.cell h.p (Or.inl (by show B < lo; omega)), ho.cell h.c0 (Or.inl hl), ho.cell h.c1 (Or.inl hl), ho.cell h.c2 (Or.inl hl), ho.cell h.c3 (Or.inl hl), ho.cell h.c4 (Or.inl hl)⟩

theorem toExpr_u {Q : Ending → World → Prop} (e : E5) (w : World) (hQ : ∀ w', Below w.heap.size w w' → Q (.returned (.agg #[.int .i64 e.op, .int .i64 e.av, .int .i64 e.an, .int .i64 e.bv, .int .i64 e.bn])) w') :
    Calls Tryd.prog 9 #[.agg #[.int .i64 e.op, .int .i64 e.av, .int .i64 e.an, .int .i64 e.bv, .int .i64 e.bn]] w Q := toExpr_any e w hQ

theorem specKeeps_u {Q : Ending → World → Prop} (v : Value) (ss : List St) (e : E5) (w : World) (h : StepsAt w v ss) (hl : ss.length ≤ 1048576) (hls : ∀ s ∈ ss, s.next.length ≤ 1048576)
    (hQ : ∀ v' rs w', Below w.heap.size w w' → RowOr keepB ss e rs → w'.ownsRow w.heap.size 4 1 v' rs.length (rs.map Value.bool) → Q (.returned v') w') :
    Calls Tryd.prog 7 #[.agg #[v], .agg #[.int .i64 e.op, .int .i64 e.av, .int .i64 e.an, .int .i64 e.bv, .int .i64 e.bn]] w Q := specKeeps_any v ss e w h hl hls hQ

theorem implKeeps_u {Q : Ending → World → Prop} (v : Value) (ss : List St) (e : E5) (w : World) (h : StepsAt w v ss) (hT : Tab w) (hg : 0 < w.heap.size) (hl : ss.length ≤ 1048576) (hls : ∀ s ∈ ss, s.next.length ≤ 1048576)
    (hQ : ∀ v' rs w', Below w.heap.size w w' → RowOr keepB ss e rs → w'.ownsRow w.heap.size 4 1 v' rs.length (rs.map Value.bool) → Q (.returned v') w') :
    Calls Tryd.prog 10 #[.agg #[v], .agg #[.int .i64 e.op, .int .i64 e.av, .int .i64 e.an, .int .i64 e.bv, .int .i64 e.bn]] w Q := implKeeps_any v ss e w h hT hg hl hls hQ

set_option maxRecDepth 100000 in
set_option maxHeartbeats 8000000 in
theorem law_walk (v : Value) (ss : List St) (w : World) (h : StepsAt w v ss) (e : E5) (hT : ∀ X, Below w.heap.size w X → Tab X ∧ 0 < X.heap.size) (hl : ss.length ≤ 9223372036854775807) (hls : ∀ s ∈ ss, s.next.length ≤ 9223372036854775807) {Q : Ending → World → Prop}
    (hQ : ∀ w', Below w.heap.size w w' → Q (.returned (.bool true)) w') :
    Calls Tryd.prog 3 #[.agg #[v], exV e] w Q := by
  have HQ : Hid (∀ w', Below w.heap.size w w' → Q (.returned (.bool true)) w') := hQ
  clear hQ
  obtain ⟨ao, b, o, cap, rfl, ha, hc⟩ := id h
  have HH : Hid (StepsAt w (.slice ao ss.length cap) ss) := h
  have HL : Hid (∀ s ∈ ss, s.next.length ≤ 9223372036854775807) := hls
  have HTK : Hid (∀ X, Below w.heap.size w X → Tab X ∧ 0 < X.heap.size) := hT
  have HXV : Hid (exV e = .agg #[.int .i64 e.op, .int .i64 e.av, .int .i64 e.an, .int .i64 e.bv, .int .i64 e.bn]) := rfl
  clear ha hc h hls hT
  rw [HXV.out]
  go_enter Tryd.func3, Tryd.ntmps3
  go_wp2_with fail
  have hb0 : ∀ O O', Below w.heap.size w ((w.alloc O).alloc O') := fun O O' => ((Below.refl _ _).alloc (Nat.le_refl _) O).alloc (by simp) O'
  refine szProg_any (.slice ao ss.length cap) ss 1048576 _ (HH.out.keep (hb0 _ _)) hl HL.out (by omega) (by omega) fun r w1 hr hz hb1 => ?_
  have hbA : Below w.heap.size w w1 := (hb0 _ _).trans (hb1.mono (by simp; omega))
  have q1 : BoxE w1 w.heap.size ao ss.length cap e := BoxE.keep ⟨by simp [go_sem], by simp [go_sem], by simp [go_sem], by simp [go_sem], by simp [go_sem], by simp [go_sem]⟩ hb1
  have HZ : Hid (0 ≤ r → ss.length ≤ (1048576 : Int) ∧ ∀ s ∈ ss, s.next.length ≤ (1048576 : Int)) := hz
  clear hb1 hb0 hz
  by_cases hneg : r < 0
  · go_wp2
    exact HQ.out _ hbA
  have hn : ss.length ≤ 1048576 := by have := (HZ.out (by omega)).1; omega
  have HN : Hid (∀ s ∈ ss, s.next.length ≤ 1048576) := fun s hs => by have := (HZ.out (by omega)).2 s hs; omega
  clear HZ HL hl
  have k1p := q1.p
  have k10 := q1.c0
  have k11 := q1.c1
  have k12 := q1.c2
  have k13 := q1.c3
  have k14 := q1.c4
  go_wp2_with fail
  go_region_held3 (fun wx => wx.cell? ⟨w.heap.size, 0, none⟩ = some (.slice ao ss.length cap) ∧ wx.cell? ⟨w.heap.size + 1, 0, none⟩ = some (.int .i64 e.op) ∧ wx.cell? ⟨w.heap.size + 1, 1, none⟩ = some (.int .i64 e.av) ∧ wx.cell? ⟨w.heap.size + 1, 2, none⟩ = some (.int .i64 e.an) ∧ wx.cell? ⟨w.heap.size + 1, 3, none⟩ = some (.int .i64 e.bv) ∧ wx.cell? ⟨w.heap.size + 1, 4, none⟩ = some (.int .i64 e.bn)) (go_keep) (first
    | (go_at_call 8; refine toProg_any (.slice ao ss.length cap) ss _ (HH.out.keep hbA.drew) hn HN.out ?_; intro v2 w2 hs2 hb2; have q2 := BoxE.keep (BoxE.drew q1) hb2; have k2p := q2.p; have k20 := q2.c0; have k21 := q2.c1; have k22 := q2.c2; have k23 := q2.c3; have k24 := q2.c4; obtain ⟨ao2, b2, o2, cap2, hv2, _, _, _⟩ := id hs2; subst hv2; have hbB : Below w.heap.size w w2 := hbA.drew.trans (hb2.mono hbA.size))
    | (go_at_call 9; refine toExpr_u e _ ?_; intro w2e hb2e; have q2e := BoxE.keep q2 hb2e; have k2ep := q2e.p; have k2e0 := q2e.c0; have k2e1 := q2e.c1; have k2e2 := q2e.c2; have k2e3 := q2e.c3; have k2e4 := q2e.c4)
    | (go_at_call 7; refine specKeeps_u _ ss e _ (hs2.at.keep hb2e) hn HN.out ?_; intro v3 rs w3 hb3 hrs hown3; have q3 := BoxE.keep q2e hb3; have k3p := q3.p; have k30 := q3.c0; have k31 := q3.c1; have k32 := q3.c2; have k33 := q3.c3; have k34 := q3.c4; obtain ⟨A3, c3, hv3⟩ := (BoolsOwn.of hown3).slice; subst hv3))
  all_goals
    have hs2e : w2.heap.size ≤ w2e.heap.size := hb2e.size
    have hb3 : Below w2.heap.size w2 w3 := hb2e.trans (hb3.mono hs2e)
    have hown3 := ownsRow_lower hown3 hs2e
    have B3a : BoolsOwn w2.heap.size w3.heap.size w3 (.slice A3 rs.length c3) rs := BoolsOwn.of hown3
    have hbC : Below w.heap.size w w3 := hbB.trans (hb3.mono hbB.size)
    have s3 : w.heap.size + 1 < w3.heap.size := cell_lt q3.c0
    have B3 := B3a
    have HRS : Hid (RowOr keepB ss e rs) := hrs
    have hrl : rs.length ≤ 1048576 := RowOr.bound hrs hn
    have HB3 : Hid (BoolsOwn w2.heap.size w3.heap.size w3 (.slice A3 rs.length c3) rs) := B3
    clear hb2 hb2e hs2 q1 q2 q2e hrs B3 B3a k1p k10 k11 k12 k13 k14 k2p k20 k21 k22 k23 k24 k2ep k2e0 k2e1 k2e2 k2e3 k2e4 k30 k31 k32 k33 k34 hbA
    clear hb3 hown3 hbB
    go_wp2_with fail
    refine toProg_own (.slice ao ss.length cap) ss _ (HH.out.keep hbC) hn HN.out fun v4 w4 hs4 hb4 => ?_
    have hbD : Below w.heap.size w w4 := hbC.trans (hb4.mono hbC.size)
    have q4 := BoxE.keep q3 hb4
    have s34 : w3.heap.size ≤ w4.heap.size := hb4.size
    have HB4 : Hid (BoolsOwn w2.heap.size w3.heap.size w4 (.slice A3 rs.length c3) rs) := HB3.out.keep hb4
    obtain ⟨b4, f4, hv4, _⟩ := id hs4
    subst hv4
    have HS4 : Hid (StepsOwn w3.heap.size w4 (.slice (some ⟨b4, 0, none⟩) ss.length ss.length) ss) := hs4
    clear hb4 hs4 q3 hbC HB3
    have hb5 : ∀ O, Below w4.heap.size w4 (w4.alloc O) := fun O => (Below.refl _ _).alloc (Nat.le_refl _) O
    have q4d := BoxE.keep q4 (hb5 (.cells #[.slice (some ⟨b4, 0, none⟩) ss.length ss.length] 34))
    have k40 := q4d.c0
    have k41 := q4d.c1
    have k42 := q4d.c2
    have k43 := q4d.c3
    have k44 := q4d.c4
    have x4 : (w4.alloc (.cells #[.slice (some ⟨b4, 0, none⟩) ss.length ss.length] 34)).cell? ⟨w4.heap.size, 0, none⟩ = some (.slice (some ⟨b4, 0, none⟩) ss.length ss.length) := by simp [go_sem]
    have HS4a : Hid (StepsAt (w4.alloc (.cells #[.slice (some ⟨b4, 0, none⟩) ss.length ss.length] 34)) (.slice (some ⟨b4, 0, none⟩) ss.length ss.length) ss) := HS4.out.at.keep (hb5 _)
    have hbDa : Below w.heap.size w (w4.alloc (.cells #[.slice (some ⟨b4, 0, none⟩) ss.length ss.length] 34)) := hbD.trans ((hb5 _).mono hbD.size)
    have hz4 : (w4.alloc (.cells #[.slice (some ⟨b4, 0, none⟩) ss.length ss.length] 34)).heap.size = w4.heap.size + 1 := by simp
    have hb5a := hb5 (.cells #[.slice (some ⟨b4, 0, none⟩) ss.length ss.length] 34)
    clear hb5
    go_wp2_with fail
    generalize w4.alloc (.cells #[.slice (some ⟨b4, 0, none⟩) ss.length ss.length] 34) = w5 at *
    go_region_held3 (fun wx => wx.cell? ⟨w4.heap.size, 0, none⟩ = some (.slice (some ⟨b4, 0, none⟩) ss.length ss.length) ∧ wx.cell? ⟨w.heap.size + 1, 0, none⟩ = some (.int .i64 e.op) ∧ wx.cell? ⟨w.heap.size + 1, 1, none⟩ = some (.int .i64 e.av) ∧ wx.cell? ⟨w.heap.size + 1, 2, none⟩ = some (.int .i64 e.an) ∧ wx.cell? ⟨w.heap.size + 1, 3, none⟩ = some (.int .i64 e.bv) ∧ wx.cell? ⟨w.heap.size + 1, 4, none⟩ = some (.int .i64 e.bn)) (go_keep) (first
      | (go_at_call 9; refine toExpr_u e _ ?_; intro w5e hb5e; have q5e := BoxE.keep (BoxE.drew q4d) hb5e; have k5ep := q5e.p; have k5e0 := q5e.c0; have k5e1 := q5e.c1; have k5e2 := q5e.c2; have k5e3 := q5e.c3; have k5e4 := q5e.c4; have x5e := cell_keep hb5e x4; have hbDe : Below w.heap.size w w5e := hbDa.drew.trans (hb5e.mono hbDa.size))
      | (go_at_call 10; refine implKeeps_u _ ss e _ ((HS4a.out.keep ((Below.refl _ _).drew)).keep hb5e) (HTK.out _ hbDe).1 (HTK.out _ hbDe).2 hn HN.out ?_; intro v6 rs6 w6 hb6 hrs6 hown6; have q6 := BoxE.keep q5e hb6; have k6p := q6.p; have k60 := q6.c0; have k61 := q6.c1; have k62 := q6.c2; have k63 := q6.c3; have k64 := q6.c4; have x6 := cell_keep hb6 x5e; obtain ⟨A6, c6, hv6⟩ := (BoolsOwn.of hown6).slice; subst hv6))
    all_goals
      have hs5e : w4.heap.size + 1 ≤ w5e.heap.size := by have := hb5e.size; simp at this; omega
      obtain rfl : rs6 = rs := hrs6.unique HRS.out
      have hb46 : Below w4.heap.size w4 w6 := (hb5a.drew.trans (hb5e.mono (by show w4.heap.size ≤ w5.heap.size; omega))).trans (hb6.mono (by omega))
      have hbE : Below w.heap.size w w6 := hbD.trans (hb46.mono (by omega))
      have hown6' := ownsRow_lower hown6 hs5e
      have B6 : BoolsOwn (w4.heap.size + 1) w6.heap.size w6 (.slice A6 rs6.length c6) rs6 := BoolsOwn.of hown6'
      have HB6 : Hid (BoolsOwn (w4.heap.size + 1) w6.heap.size w6 (.slice A6 rs6.length c6) rs6) := B6
      have HA6 : Hid (BoolsOwn w2.heap.size w3.heap.size w6 (.slice A3 rs6.length c3) rs6) := HB4.out.keep hb46
      have HS6 : Hid (StepsOwn w3.heap.size w6 (.slice (some ⟨b4, 0, none⟩) ss.length ss.length) ss) := HS4.out.keep hb46
      have HM6 : Hid (StepsMay w3.heap.size w4.heap.size w6 (.slice (some ⟨b4, 0, none⟩) ss.length ss.length) (ss.map (fun s => s.next.length))) := HS4.out.may.keep hb46
      have HP6 : Hid (StepsAt w6 (.slice ao ss.length cap) ss) := HH.out.keep hbE
      have s6 : w4.heap.size < w6.heap.size := cell_lt x6
      clear hb6 hb46 hb5a hb5e hbD hbDa hbDe q4 q4d q5e HS4 HS4a HB4 hrs6 hown6 hown6' B6 x4 x5e k40 k41 k42 k43 k44 k5ep k5e0 k5e1 k5e2 k5e3 k5e4 k60 k61 k62 k63 k64 k3p hz4
      go_wp2_with fail
      refine eqBoolS_any _ _ rs6 _ _ _ _ _ HB6.out HA6.out hrl fun w7 hb7 => ?_
      have hbF : Below w.heap.size w w7 := hbE.trans (hb7.mono hbE.size)
      have q7 := BoxE.keep q6 hb7
      have k7p := q7.p
      have x7 := cell_keep hb7 x6
      have s7 : w6.heap.size ≤ w7.heap.size := hb7.size
      have HB7 : Hid (BoolsOwn (w4.heap.size + 1) w6.heap.size w7 (.slice A6 rs6.length c6) rs6) := HB6.out.keep hb7
      have HA7 : Hid (BoolsOwn w2.heap.size w3.heap.size w7 (.slice A3 rs6.length c3) rs6) := HA6.out.keep hb7
      have HS7 : Hid (StepsAt w7 (.slice (some ⟨b4, 0, none⟩) ss.length ss.length) ss) := HS6.out.at.keep hb7
      have HM7 : Hid (StepsMay w3.heap.size w4.heap.size w7 (.slice (some ⟨b4, 0, none⟩) ss.length ss.length) (ss.map (fun s => s.next.length))) := HM6.out.keep hb7
      have HP7 : Hid (StepsAt w7 (.slice ao ss.length cap) ss) := HP6.out.keep hb7
      clear hb7 q6 k6p x6 HB6 HA6 HS6 HM6 HP6 hbE
      go_wp2_with fail
      go_region_with (first | (go_at_call 8; refine toProg_any (.slice ao ss.length cap) ss _ (HP7.out.keep (below_drewN (Below.refl _ _) 1)) hn HN.out ?_; intro v8 w8 hs8 hb8; have hb78 : Below w7.heap.size w7 w8 := ⟨hb8.os, hb8.tape, hb8.output, hb8.size, hb8.block⟩; have x8 := cell_keep hb78 x7; have k8p := cell_keep hb78 k7p) | (go_at_call 12; refine eqProg_any _ _ ss _ (HS7.out.keep hb78) hs8.at hn HN.out ?_; intro w9 hb9))
      all_goals
        have hb79 : Below w7.heap.size w7 w9 := hb78.trans (hb9.mono hb78.size)
        have q9 := BoxE.keep q7 hb79
        have x9 := cell_keep hb79 x7
        have s9 : w7.heap.size ≤ w9.heap.size := hb79.size
        have hbG : Below w.heap.size w w9 := hbF.trans (hb79.mono hbF.size)
        have HB9 : Hid (BoolsOwn (w4.heap.size + 1) w6.heap.size w9 (.slice A6 rs6.length c6) rs6) := HB7.out.keep hb79
        have HA9 : Hid (BoolsOwn w2.heap.size w3.heap.size w9 (.slice A3 rs6.length c3) rs6) := HA7.out.keep hb79
        have HM9 : Hid (StepsMay w3.heap.size w4.heap.size w9 (.slice (some ⟨b4, 0, none⟩) ss.length ss.length) (ss.map (fun s => s.next.length))) := HM7.out.keep hb79
        clear hb8 hs8 hb78 hb9 hb79 x8 k8p k7p q7 x7 HB7 HA7 HS7 HM7 HP7 hbF
        go_wp2_with fail
        refine markProg_may _ _ _ _ _ HM9.out (by simpa using hn) (by intro n hn; simp only [List.mem_map] at hn; obtain ⟨s, hs, rfl⟩ := hn; exact HN.out s hs) fun k1 w10 hk1 ho1 => ?_
        have q10 := BoxE.out q9 ho1 (by omega)
        have s10 : w9.heap.size ≤ w10.heap.size := ho1.size
        have hbI : Below w.heap.size w w10 := hbG.trans (ho1.below (by omega) (by omega))
        have HB10 : Hid (BoolsOwn (w4.heap.size + 1) w6.heap.size w10 (.slice A6 rs6.length c6) rs6) := HB9.out.out ho1 (Or.inr (by omega))
        have HA10 : Hid (BoolsOwn w2.heap.size w3.heap.size w10 (.slice A3 rs6.length c3) rs6) := HA9.out.out ho1 (Or.inl (by omega))
        have hk0 : ¬ (k1 : Int) < 0 := by omega
        clear ho1 q9 x9 HB9 HA9 HM9 hbG
        go_wp2_with fail
        refine eqBoolS_any _ _ rs6 _ _ _ _ _ HB10.out HA10.out hrl fun w11 hb11 => ?_
        have hbJ : Below w.heap.size w w11 := hbI.trans (hb11.mono hbI.size)
        have q11 := BoxE.keep q10 hb11
        have s11 : w10.heap.size ≤ w11.heap.size := hb11.size
        have HB11 : Hid (BoolsOwn (w4.heap.size + 1) w6.heap.size w11 (.slice A6 rs6.length c6) rs6) := HB10.out.keep hb11
        have HA11 : Hid (BoolsOwn w2.heap.size w3.heap.size w11 (.slice A3 rs6.length c3) rs6) := HA10.out.keep hb11
        clear hb11 q10 HB10 HA10 hbI
        go_wp2_with fail
        refine markBoolS_any _ rs6 1 _ _ _ HB11.out (by omega) hrl fun w12 ho12 hm12 => ?_
        have q12 := BoxE.out q11 ho12 (by omega)
        have s12 : w11.heap.size ≤ w12.heap.size := ho12.size
        have hbK : Below w.heap.size w w12 := hbJ.trans (ho12.below (by omega) (by omega))
        have HA12 : Hid (BoolsOwn w2.heap.size w3.heap.size w12 (.slice A3 rs6.length c3) rs6) := HA11.out.out ho12 (Or.inl (by omega))
        have HM12 : Hid (BoolsOwn (w4.heap.size + 1) w6.heap.size w12 (.slice A6 rs6.length c6) (markB 1 rs6.length)) := hm12
        clear ho12 hm12 q11 HB11 HA11 hbJ
        go_wp2_with fail
        refine heldBoolS_any _ 1 rs6.length _ _ _ HM12.out (by omega) hrl fun w13 hb13 => ?_
        have q13 := BoxE.keep q12 hb13
        have hbL : Below w.heap.size w w13 := hbK.trans (hb13.mono hbK.size)
        have HA13 : Hid (BoolsOwn w2.heap.size w3.heap.size w13 (.slice A3 rs6.length c3) rs6) := HA12.out.keep hb13
        have HM13 : Hid (BoolsOwn (w4.heap.size + 1) w6.heap.size w13 (.slice A6 rs6.length c6) (markB 1 rs6.length)) := HM12.out.keep hb13
        clear hb13 q12 HA12 HM12 hbK
        have l3p := q13.p
        have l30 := q13.c0
        have l31 := q13.c1
        have l32 := q13.c2
        have l33 := q13.c3
        have l34 := q13.c4
        go_wp2_with fail
        go_region_held3 (fun wx => wx.cell? ⟨w.heap.size, 0, none⟩ = some (.slice ao ss.length cap) ∧ wx.cell? ⟨w.heap.size + 1, 0, none⟩ = some (.int .i64 e.op) ∧ wx.cell? ⟨w.heap.size + 1, 1, none⟩ = some (.int .i64 e.av) ∧ wx.cell? ⟨w.heap.size + 1, 2, none⟩ = some (.int .i64 e.an) ∧ wx.cell? ⟨w.heap.size + 1, 3, none⟩ = some (.int .i64 e.bv) ∧ wx.cell? ⟨w.heap.size + 1, 4, none⟩ = some (.int .i64 e.bn)) (go_keep) (first
          | (go_at_call 8; refine toProg_any (.slice ao ss.length cap) ss _ (HH.out.keep hbL.drew) hn HN.out ?_; intro v14 w14 hs14 hb14; have q14 := BoxE.keep (BoxE.drew q13) hb14; have l4p := q14.p; have l40 := q14.c0; have l41 := q14.c1; have l42 := q14.c2; have l43 := q14.c3; have l44 := q14.c4; obtain ⟨ao14, b14, o14, cap14, hv14, _, _, _⟩ := id hs14; subst hv14; have hbM : Below w.heap.size w w14 := hbL.drew.trans (hb14.mono hbL.size))
          | (go_at_call 9; refine toExpr_u e _ ?_; intro w14e hb14e; have q14e := BoxE.keep q14 hb14e; have l4ep := q14e.p; have l4e0 := q14e.c0; have l4e1 := q14e.c1; have l4e2 := q14e.c2; have l4e3 := q14e.c3; have l4e4 := q14e.c4; have hbMe : Below w.heap.size w w14e := hbM.trans (hb14e.mono hbM.size))
          | (go_at_call 10; refine implKeeps_u _ ss e _ (hs14.at.keep hb14e) (HTK.out _ hbMe).1 (HTK.out _ hbMe).2 hn HN.out ?_; intro v15 rs15 w15 hb15 hrs15 hown15; have q15 := BoxE.keep q14e hb15; have l5p := q15.p; have l50 := q15.c0; have l51 := q15.c1; have l52 := q15.c2; have l53 := q15.c3; have l54 := q15.c4; obtain ⟨A15, c15, hv15⟩ := (BoolsOwn.of hown15).slice; subst hv15))
        all_goals
          have hb1315 : Below w13.heap.size w13 w15 := (((Below.refl _ w13).drew).trans hb14).trans ((hb14e.trans (hb15.mono hb14e.size)).mono hb14.size)
          obtain rfl : rs15 = rs6 := hrs15.unique HRS.out
          have hbN : Below w.heap.size w w15 := hbMe.trans (hb15.mono hbMe.size)
          have HA15 : Hid (BoolsOwn w2.heap.size w3.heap.size w15 (.slice A3 rs15.length c3) rs15) := HA13.out.keep hb1315
          have HM15 : Hid (BoolsOwn (w4.heap.size + 1) w6.heap.size w15 (.slice A6 rs15.length c6) (markB 1 rs15.length)) := HM13.out.keep hb1315
          have HB15 : Hid (BoolsOwn w14e.heap.size w15.heap.size w15 (.slice A15 rs15.length c15) rs15) := BoolsOwn.of hown15
          clear hb15 hrs15 hown15 hs14 hb14 hb14e hb1315 HA13 HM13 hbM hbMe q13 q14 q14e q15 l3p l30 l31 l32 l33 l34 l4p l40 l41 l42 l43 l44 l4ep l4e0 l4e1 l4e2 l4e3 l4e4 l5p l50 l51 l52 l53 l54 hbL
          go_wp2_with fail
          refine eqBoolS_any _ _ rs15 _ _ _ _ _ HB15.out HA15.out hrl fun w16 hb16 => ?_
          have hbO : Below w.heap.size w w16 := hbN.trans (hb16.mono hbN.size)
          have HM16 : Hid (BoolsOwn (w4.heap.size + 1) w6.heap.size w16 (.slice A6 rs15.length c6) (markB 1 rs15.length)) := HM15.out.keep hb16
          clear hb16 HB15 HA15 HM15 hbN
          go_wp2_with fail
          refine heldBoolS_any _ 1 rs15.length _ _ _ HM16.out (by omega) hrl fun w17 hb17 => ?_
          have hbP : Below w.heap.size w w17 := hbO.trans (hb17.mono hbO.size)
          clear hb17 HM16 hbO
          go_wp2
          exact HQ.out _ hbP

theorem gTab : Tryd.prog.globalNamed "math/bits.deBruijn64tab" = some 0 := by kernel_rfl
theorem gTabType : (Tryd.prog.globals[0]?).map (·.type) = some 148 := by kernel_rfl

theorem tab_of_laid {W : World} (h : laidMetH Tryd.prog Rows.fnExactExprKeepsRow.laid W) : Tab W := by
  have h1 := laidMetH.filter (fun x => x.1 == "math/bits.deBruijn64tab") h
  have h2 : Lib.TabIs Tryd.prog W "math/bits.deBruijn64tab" .u8 (Lib.deBruijn64tab.map Int.ofNat) := Lib.tabIs_of_head (rest := []) gTab gTabType Tryd.underlying148 Tryd.underlying5 (by kernel_rfl) (by kernel_rfl) h1
  intro j hj
  have h3 := h2.cell gTab j (by simpa using hj)
  rw [h3]
  simp only [List.getD, List.getElem?_map]
  cases Lib.deBruijn64tab[j]? <;> rfl

theorem Tab.lt {W : World} (h : Tab W) : 0 < W.heap.size := cell_lt (h 0 (by decide))

/-- The numbers of a table, as cells. -/
def tableCells : DataW Unit → Array Value
  | .agg l => (l.map fun | .lit (.int k n) => Value.int k n | _ => Value.int .i64 0).toArray
  | _ => #[]

/-- A world whose first blocks hold the library's tables. -/
def withTables (W : World) : World :=
  { W with heap := W.heap.modify 0 fun
      | .cells _ t frozen => .cells (tableCells Rows.laid_math_bits_deBruijn64tab) t frozen
      | o => o }

theorem laid_met (os : Os) : laidMet Tryd.prog Rows.fnExactExprKeepsRow.laid ((withTables (World.holding Tryd.prog os ⟨#[], #[], []⟩)).forCall (fun _ _ => 0) ⟨#[], #[.agg #[.slice none 0 0], .agg #[.int .i64 0, .int .i64 0, .int .i64 0, .int .i64 0, .int .i64 0]], []⟩).memory :=
  laidMet_of_run' 8 (by kernel_rfl) (by kernel_rfl)
theorem reads (os : Os) {H : Type} (enc : TypeId × Value → H) : ∃ places, DataW.whole enc Tryd.prog ((withTables (World.holding Tryd.prog os ⟨#[], #[], []⟩)).forCall (fun _ _ => 0) ⟨#[], #[.agg #[.slice none 0 0], .agg #[.int .i64 0, .int .i64 0, .int .i64 0, .int .i64 0, .int .i64 0]], []⟩).memory Tryd.f3.params.toList Rows.fnExactExprKeepsSpec.vars false #[Value.agg #[.slice none 0 0], .agg #[.int .i64 0, .int .i64 0, .int .i64 0, .int .i64 0, .int .i64 0]].toList 8 = some ([.agg [.nil], .agg [.lit (.int .i64 0), .agg [.lit (.int .i64 0), .lit (.int .i64 0)], .agg [.lit (.int .i64 0), .lit (.int .i64 0)]]], [], places) :=
  ⟨[], by kernel_rfl⟩

set_option maxRecDepth 100000 in
theorem contract (H : Type) (enc : TypeId × Value → H) (W : World) (base : Nat) (args : Array Value) (ds gs : List (DataW H)) (before : List MemPlace)
    (hval : ∀ (j : Nat) t v, Tryd.f3.params[j]? = some t → args[j]? = some v → Value.okWide Tryd.prog W .any base t v)
    (hW : DataW.Whole enc Tryd.prog Tryd.f3.params.toList Rows.fnExactExprKeepsSpec.vars false W args.toList ds gs before) (hL : laidMetH Tryd.prog Rows.fnExactExprKeepsRow.laid W) :
    Calls Tryd.prog 3 args W fun e W' => ∃ v, e = .returned v ∧ Rows.fnExactExprKeepsSpec.post enc Tryd.prog Tryd.f3 false true false false W args v W' := by
  have hW' := hW
  obtain ⟨p, q, hA0, hV, rfl, hfz, hnd⟩ := hW
  have hA : DataW.TrodAll enc Tryd.prog W 0 (fun _ => true) true Tryd.f3.params.toList args.toList ds p := hA0
  rw [Tryd.params3] at hA hval
  obtain ⟨v0, vs0, d0, ds0, p0, q0, hargs, rfl, rfl, h0, r0⟩ := trodAll_cons hA
  obtain ⟨v1, vs1, d1, ds1, p1, q1, rfl, rfl, rfl, h1, r1⟩ := trodAll_cons r0
  obtain ⟨rfl, rfl, rfl⟩ := trodAll_nil r1
  obtain rfl : args = #[v0, v1] := by cases args; simp_all
  obtain ⟨rfl, rfl⟩ := trodVars_none hV
  have k0 := h0
  have lt0 : ∀ x ∈ p0, x.block < W.heap.size := by obtain ⟨m, hm⟩ := k0; exact DataW.trod_lt m _ _ _ hm
  obtain ⟨u, ss, hv0, hs, hl, hls⟩ := open_prog (hval 0 24 v0 rfl rfl) h0
  subst hv0
  have k1 := h1
  have lt1 : ∀ x ∈ p1, x.block < W.heap.size := by obtain ⟨m, hm⟩ := k1; exact DataW.trod_lt m _ _ _ hm
  obtain ⟨e, hv1⟩ := open_expr (hval 1 28 v1 rfl rfl) h1
  subst hv1
  clear hA0
  refine law_walk u ss W hs e (fun X hX => ⟨(tab_of_laid hL).keep hX, Nat.lt_of_lt_of_le (Tab.lt (tab_of_laid hL)) hX.size⟩) hl hls fun W' bel => ?_
  exact ⟨_, rfl, _, _, _, [], _, [], hW', trodAll_mk1 (shut_bool Tryd.underlying4 _), (trodAll_cons_mk (Below.trod laidOut (by kernel_rfl) (of_decide_eq_true (by kernel_rfl)) k0 bel lt0) (trodAll_cons_mk (Below.trod laidOut (by kernel_rfl) (of_decide_eq_true (by kernel_rfl)) k1 bel lt1) trodAll_mk0)), rfl, bel.frame _, fun h => by cases h⟩

set_option maxRecDepth 100000 in
theorem lifted (os : Os) (started : os.Started) (H : Type) (enc : TypeId × Value → H) (F : Stop.Interp) :
    ReturnsInHanded {} Tryd.checked os 3 .any ((OpenSpec.ofChange Rows.fnExactExprKeepsSpec).preRow enc Tryd.prog Tryd.f3 Rows.fnExactExprKeepsRow.domain false Rows.fnExactExprKeepsRow.laid) (((OpenSpec.ofChange Rows.fnExactExprKeepsSpec).at F).post enc Tryd.prog Tryd.f3 false true false false) := by
  obtain ⟨places, hx⟩ := reads os enc
  refine returnsInHanded_of_row (C := Tryd.checked) (s := OpenSpec.ofChange Rows.fnExactExprKeepsSpec) own started (by kernel_rfl) Tryd.func3
    (witness_row_at (enc := enc) (C := Tryd.checked) false (withTables (World.holding Tryd.prog os ⟨#[], #[], []⟩)) #[.agg #[.slice none 0 0], .agg #[.int .i64 0, .int .i64 0, .int .i64 0, .int .i64 0, .int .i64 0]] rfl (by kernel_rfl) (by kernel_rfl) (by kernel_rfl)
      (OpenSpec.preRow_of_cond 8 hx (by kernel_rfl) (fun k hk => by cases hk) (by kernel_rfl) (laid_met os))) ?_
  intro W base args ds gs before hval hW _ _ _ hL _ _
  exact contract H enc W base args ds gs before hval hW hL

theorem said : Rows.FnExactExprKeepsSaid :=
  OpenClaim.holds_of_cond 3 Tryd.f3 rfl rfl rfl rfl rfl rfl rfl ⟨rfl, rfl, rfl, rfl, rfl⟩ rfl rfl rfl rfl rfl (by kernel_rfl) Tryd.func3 (by kernel_rfl)
    (of_decide_eq_true (by kernel_rfl)) (by unfold Func.isWrapper; first | (rw [if_pos (by decide +kernel)]; kernel_rfl) | (rw [if_neg (by decide +kernel)]; exact ⟨rfl, rfl⟩))
    (fun os started H enc _ F => by rw [OpenClaim.pre_eq_preRow]; exact lifted os started H enc F)

theorem plain (f : FuncId) (fn : Func) (hf : Tryd.pinned.checked.prog.funcNamed Rows.fnExactExprKeepsRow.func = some f) (hfn : Tryd.pinned.checked.prog.funcs[f]? = some fn) :
    false = Tryd.pinned.checked.prog.looks [] ∧ ∀ (j : Nat) t, fn.params[j]? = some t → Tryd.pinned.checked.prog.wantsStandIn t = false := by
  obtain rfl : f = 3 := Option.some.inj ((show Tryd.prog.funcNamed Rows.fnExactExprKeepsRow.func = some 3 by kernel_rfl).symm.trans hf) |>.symm
  obtain rfl : fn = Tryd.f3 := (Option.some.inj (Tryd.func3.symm.trans hfn)).symm
  refine ⟨by kernel_rfl, fun j t ht => ?_⟩
  rw [Tryd.params3] at ht
  have ht2 : t = 24 ∨ t = 28 := by simpa using Array.mem_of_getElem? ht
  rcases ht2 with rfl | rfl
  · exact (show Tryd.prog.wantsStandIn 24 = false by kernel_rfl)
  · exact (show Tryd.prog.wantsStandIn 28 = false by kernel_rfl)

theorem fnExactExprKeeps_card : Rows.FnExactExprKeepsCardSaid :=
  Claim7.holds_tied_plain_at .later [] _ _ _ _ said (fun _ h => by cases h) (by kernel_rfl) (fun _ h => by cases h) fnExactExprKeeps_row_tie rfl ⟨rfl, rfl⟩ (by kernel_rfl) rfl plain (by kernel_rfl)
#print axioms fnExactExprKeeps_card
end Go.Proofs.YtljlgffkhocgkaaDoor
