/- For every code of bytes, of the program and the reckoning that are drawn from it, SafeUp answers as the model does, is not so of the first step, and of what cannot be come to neither SafeUp nor SafeDown, SafeDelay, SafeAlone is so: the law FnSafeStart answers true. No condition. The model's DrawSafeUp: some program and some reckoning. Two rows of bools that are the same; whether a way leads from a step to a place: the laws' own small functions. -/
import Derived.Test.YtpgnlbkldjdjlaaGreatRowsO
import Derived.Test.YtpgnlbkldjdjlaaGreatChecked
import Derived.Test.YtpgnlbkldjdjlaaGreatReach
import Derived.Test.YtpgnlbkldjdjlaaGreatTwo
import Derived.Test.YtpgnlbkldjdjlaaGreatCode
import Derived.Test.YtpgnlbkldjdjlaaGreatRows
import Derived.Test.YtpgnlbkldjdjlaaGreatBoxU
import Derived.Test.YtpgnlbkldjdjlaaGreatSpecSU
import Derived.Test.YtpgnlbkldjdjlaaGreatSafeT
import Derived.Test.YtpgnlbkldjdjlaaGreatImplReach
import Derived.Deep.QuietTactic
import Derived.BigQuiet
import Derived.OpenShut
import Derived.ShutString
import Derived.ChangeOld
import Derived.Below
namespace Go.Proofs.YtpgnlbkldjdjlaaGreat
open Go.RowKit

set_option maxHeartbeats 1000000 in
theorem lkBools_any {Q : Ending → World → Prop} (u v : Value) (bs : List Bool) (lo hi lo' hi' : Nat) (w : World) (hu : BoolsOwn lo hi w u bs) (hv : BoolsOwn lo' hi' w v bs) (hl : bs.length ≤ 1048576)
    (hQ : ∀ w', Below w.heap.size w w' → Q (.returned (.bool true)) w') :
    Calls Tryz.prog 48 #[u, v] w Q := by
  have HQ : Hid _ := hQ
  clear hQ
  obtain ⟨ao, b, cap, rfl, hc⟩ := hu.read
  obtain ⟨ao', b', cap', rfl, hc'⟩ := hv.read
  have HC : Hid _ := hc
  have HC' : Hid _ := hc'
  clear hc hc' hu hv
  go_enter Tryz.func48, Tryz.ntmps48
  go_wp2
  go_loopw [5] (fun i wr => ∃ k : Nat, k ≤ bs.length ∧ i = .int .i64 k ∧ Below w.heap.size w wr) (fun i _ => bs.length - (intOf i).toNat)
  case atStart => exact ⟨0, Nat.zero_le _, rfl, Below.refl _ _⟩
  case round =>
    obtain ⟨k, hk, rfl, hb⟩ := hrel
    by_cases hkl : k < bs.length
    · obtain ⟨rfl, c1, _, _⟩ := HC.out k hkl
      obtain ⟨rfl, c2, _, _⟩ := HC'.out k hkl
      have d1 := cell_keep hb c1
      have d2 := cell_keep hb c2
      have hki : (k : Int) < (bs.length : Int) := by omega
      generalize bs.getD k false = x at *
      clear c1 c2
      cases x
      all_goals
        go_wp2_with fail
        go_quiet (fail)
        go_wp2
        go_roundw
        case rel => exact ⟨k + 1, by omega, by go_num, below_drewN hb _⟩
        case measure => simp [intOf]; omega
    · go_wp2
      exact HQ.out _ hb

end Go.Proofs.YtpgnlbkldjdjlaaGreat
namespace Go.Proofs.YtpgnlbkldjdjlaaGreat
open Go.RowKit

set_option maxRecDepth 100000 in
set_option maxHeartbeats 1000000 in
theorem drawSafeUp_any {Q : Ending → World → Prop} (v : Value) (w : World) (h : CodeAt w v)
    (hQ : ∀ (v' : Value) (ss : List St) (e : E5) w', StepsN w' v' ss → ss.length ≤ 61 → (∀ s ∈ ss, s.next.length ≤ 61) → Below w.heap.size w w' → Q (.returned (.tuple #[.agg #[v'], .agg #[.int .i64 e.op, .int .i64 e.av, .int .i64 e.an, .int .i64 e.bv, .int .i64 e.bn]])) w') :
    Calls Tryz.prog 45 #[v] w Q := by
  have HQ : Hid _ := hQ
  clear hQ
  go_enter Tryz.func45, Tryz.ntmps45
  go_wp2_with fail
  have hb0 : ∀ O O', Below w.heap.size w ((w.alloc O).alloc O') := fun O O' => ((Below.refl _ _).alloc (Nat.le_refl _) O).alloc (by simp) O'
  refine openCode_any v _ (h.keep (hb0 _ _)) fun w1 hr1 hb1 => ?_
  have e0 : ((w.alloc (.cells #[.slice none 0 0] 34)).alloc (.cells #[.int .i64 0, .int .i64 0, .int .i64 0, .int .i64 0, .int .i64 0] 38)).heap.size = w.heap.size + 2 := by simp
  rw [e0] at hr1 hb1 ⊢
  have hlt := hr1.lt
  have HB1 : Hid (Below w.heap.size w w1) := (hb0 _ _).trans (hb1.mono (by omega))
  have q1 : w1.cell? ⟨w.heap.size, 0, none⟩ = some (.slice none 0 0) := (hb1.cell (p := ⟨w.heap.size, 0, none⟩) (by show w.heap.size < w.heap.size + 2; omega)).trans (by simp [go_sem])
  have f1 : ∀ j, w1.frozen? ⟨w.heap.size, j, none⟩ = false := fun j => (hb1.frozen (p := ⟨w.heap.size, j, none⟩) (by show w.heap.size < w.heap.size + 2; omega)).trans (by simp [go_sem])
  have x0 : w1.cell? ⟨w.heap.size + 1, 0, none⟩ = some (.int .i64 0) := (hb1.cell (p := ⟨w.heap.size + 1, 0, none⟩) (by show w.heap.size + 1 < w.heap.size + 2; omega)).trans (by simp [go_sem])
  have x1 : w1.cell? ⟨w.heap.size + 1, 1, none⟩ = some (.int .i64 0) := (hb1.cell (p := ⟨w.heap.size + 1, 1, none⟩) (by show w.heap.size + 1 < w.heap.size + 2; omega)).trans (by simp [go_sem])
  have x2 : w1.cell? ⟨w.heap.size + 1, 2, none⟩ = some (.int .i64 0) := (hb1.cell (p := ⟨w.heap.size + 1, 2, none⟩) (by show w.heap.size + 1 < w.heap.size + 2; omega)).trans (by simp [go_sem])
  have x3 : w1.cell? ⟨w.heap.size + 1, 3, none⟩ = some (.int .i64 0) := (hb1.cell (p := ⟨w.heap.size + 1, 3, none⟩) (by show w.heap.size + 1 < w.heap.size + 2; omega)).trans (by simp [go_sem])
  have x4 : w1.cell? ⟨w.heap.size + 1, 4, none⟩ = some (.int .i64 0) := (hb1.cell (p := ⟨w.heap.size + 1, 4, none⟩) (by show w.heap.size + 1 < w.heap.size + 2; omega)).trans (by simp [go_sem])
  have g1 : ∀ j, w1.frozen? ⟨w.heap.size + 1, j, none⟩ = false := fun j => (hb1.frozen (p := ⟨w.heap.size + 1, j, none⟩) (by show w.heap.size + 1 < w.heap.size + 2; omega)).trans (by simp [go_sem])
  clear hb1 e0
  go_wp2_with fail
  refine l71Two_any (w.heap.size + 2) 0 _ hr1 (by omega) fun v2 ss e p2 w2 hS hl hls hr2 hp2 hx2 => ?_
  have hne : w.heap.size ≠ w.heap.size + 2 := by omega
  have hne1 : w.heap.size + 1 ≠ w.heap.size + 2 := by omega
  have q2 := hx2.cell q1 hne
  have f2 := fun j => (hx2.frozen (p := ⟨w.heap.size, j, none⟩) (by show w.heap.size < w1.heap.size; omega) hne).trans (f1 j)
  have y0 := hx2.cell x0 hne1
  have y1 := hx2.cell x1 hne1
  have y2 := hx2.cell x2 hne1
  have y3 := hx2.cell x3 hne1
  have y4 := hx2.cell x4 hne1
  have g2 := fun j => (hx2.frozen (p := ⟨w.heap.size + 1, j, none⟩) (by show w.heap.size + 1 < w1.heap.size; omega) hne1).trans (g1 j)
  obtain ⟨A2, b2, o2, c2, rfl, hS'⟩ := id hS
  clear hS'
  have hbE : Below w.heap.size w w2 := HB1.out.trans ((hx2.below (by omega)).mono (by omega))
  have hle : w.heap.size ≤ w1.heap.size := by omega
  have HF : Hid (∀ u0 u1 u2 u3 u4 u5, Below w.heap.size w ((((((w2.setCell ⟨w.heap.size, 0, none⟩ u0).setCell ⟨w.heap.size + 1, 0, none⟩ u1).setCell ⟨w.heap.size + 1, 1, none⟩ u2).setCell ⟨w.heap.size + 1, 2, none⟩ u3).setCell ⟨w.heap.size + 1, 3, none⟩ u4).setCell ⟨w.heap.size + 1, 4, none⟩ u5)
      ∧ StepsN ((((((w2.setCell ⟨w.heap.size, 0, none⟩ u0).setCell ⟨w.heap.size + 1, 0, none⟩ u1).setCell ⟨w.heap.size + 1, 1, none⟩ u2).setCell ⟨w.heap.size + 1, 2, none⟩ u3).setCell ⟨w.heap.size + 1, 3, none⟩ u4).setCell ⟨w.heap.size + 1, 4, none⟩ u5) (.slice A2 ss.length c2) ss) := fun u0 u1 u2 u3 u4 u5 => by
    refine ⟨(((((hbE.setCell ?_ _).setCell ?_ _).setCell ?_ _).setCell ?_ _).setCell ?_ _).setCell ?_ _, ((((((hS.put ?_ _).put ?_ _).put ?_ _).put ?_ _).put ?_ _).put ?_ _).n⟩
    all_goals (simp only []; omega)
  have HLS : Hid (∀ s ∈ ss, s.next.length ≤ 61) := hls
  clear hS hls hr2 hx2 HB1 hr1 hb0 q1 f1 x0 x1 x2 x3 x4 g1 hbE
  go_wp2_with fail
  refine bodyPost_ret (v := .tuple #[.agg #[.slice A2 ss.length c2], .agg #[.int .i64 e.op, .int .i64 e.av, .int .i64 e.an, .int .i64 e.bv, .int .i64 e.bn]]) (by simp [results, Tryz.results45, go_sem, q2, y0, y1, y2, y3, y4]) rfl ?_
  exact HQ.out _ ss e _ (HF.out _ _ _ _ _ _).2 hl HLS.out (HF.out _ _ _ _ _ _).1
end Go.Proofs.YtpgnlbkldjdjlaaGreat
namespace Go.Proofs.YtpgnlbkldjdjlaaGreat
open Go.ChangeShapes Go.WideShapes Go.ChangeAt Go.RowKit

theorem own : ownKnob Tryz.prog.godebug = none := by kernel_rfl
theorem laidOut : laidOutB Tryz.prog = true := by kernel_rfl

theorem SafeOr.yes {P : List St → E5 → List Bool → (Nat → Bool) → Prop} {ss : List St} {e : E5} {bs : List Bool} (h : SafeOr P ss e bs) (hp : 0 < bs.length) : okB ss = true ∧ exprB e = true ∧ ∃ rs f, IsReach ss rs ∧ P ss e rs f ∧ bs = (List.range ss.length).map f := by
  rcases h with h | ⟨_, rfl⟩
  · exact h
  · simp at hp

theorem SafeOr.same {P : List St → E5 → List Bool → (Nat → Bool) → Prop} {ss : List St} {e : E5} {bs rs : List Bool} (h : SafeOr P ss e bs) (hok : okB ss = true) (hex : exprB e = true) (hre : IsReach ss rs) : ∃ f, P ss e rs f ∧ bs = (List.range ss.length).map f := by
  rcases h with ⟨_, _, rs', f, h1, h2, h3⟩ | ⟨h1, _⟩
  · obtain rfl := h1.unique hre
    exact ⟨f, h2, h3⟩
  · exact absurd ⟨hok, hex⟩ h1

set_option maxRecDepth 100000 in
set_option maxHeartbeats 8000000 in
theorem law_walk (v : Value) (w : World) (h : CodeAt w v) {Q : Ending → World → Prop} (hQ : ∀ w', Below w.heap.size w w' → Q (.returned (.bool true)) w') :
    Calls Tryz.prog 11 #[v] w Q := by
  have HQ : Hid (∀ w', Below w.heap.size w w' → Q (.returned (.bool true)) w') := hQ
  clear hQ
  have HC : Hid _ := h
  obtain ⟨ao, bb, bo, bl, cap, rfl, h1, h2, h3, h4, h5⟩ := h
  clear h3 h4 h5
  by_cases hbl : 1048576 < bl
  · go_enter Tryz.func11, Tryz.ntmps11
    go_wp2
    exact HQ.out _ (Below.refl _ _)
  go_enter Tryz.func11, Tryz.ntmps11
  go_wp2_with fail
  refine drawSafeUp_any _ _ HC.out fun v1 ss e w1 hS1 hl hls hb1 => ?_
  clear HC
  obtain ⟨A1, b1, o1, c1, rfl, hA1, hC1⟩ := id hS1
  have HS1 : Hid (StepsAt w1 (.slice A1 ss.length c1) ss) := hS1.at
  have HLS : Hid (∀ s ∈ ss, s.next.length ≤ 1048576) := fun s hs => Nat.le_trans (hls s hs) (by decide)
  have HB1 : Hid (Below w.heap.size w w1) := hb1
  clear hA1 hC1 hS1 hls hb1
  go_wp2_with fail
  have hb0 : Below w1.heap.size w1 ((w1.alloc (.cells #[.slice A1 ss.length c1] 34)).alloc (.cells #[.int .i64 e.op, .int .i64 e.av, .int .i64 e.an, .int .i64 e.bv, .int .i64 e.bn] 38)) := ((Below.refl _ _).alloc (Nat.le_refl _) _).alloc (by simp) _
  have hbx := BoxE.new w1 A1 ss.length c1 e 34 38
  generalize hW2 : (w1.alloc (.cells #[.slice A1 ss.length c1] 34)).alloc (.cells #[.int .i64 e.op, .int .i64 e.av, .int .i64 e.an, .int .i64 e.bv, .int .i64 e.bn] 38) = W2 at *
  clear hW2
  refine specSafeUp_any _ ss e _ (HS1.out.keep hb0) (by omega) HLS.out fun v2 rs w2 hb2 hrs hown2 => ?_
  have HB12 : Hid (Below w1.heap.size w1 w2) := hb0.trans (hb2.mono hb0.size)
  have HX2 : Hid (BoxE w2 w1.heap.size A1 ss.length c1 e) := hbx.keep hb2
  have HRS : Hid (SafeOr IsUp ss e rs) := hrs
  obtain ⟨A2, c2, hv2⟩ := (BoolsOwn.of hown2).slice
  subst hv2
  have HO2 : Hid (BoolsOwn W2.heap.size w2.heap.size w2 (.slice A2 rs.length c2) rs) := BoolsOwn.of hown2
  have HBW2 : Hid (Below w.heap.size w w2) := HB1.out.trans (HB12.out.mono HB1.out.size)
  have hrl : rs.length ≤ 1048576 := hrs.bound (by omega)
  have p2 := HX2.out.p
  have x20 := HX2.out.c0
  have x21 := HX2.out.c1
  have x22 := HX2.out.c2
  have x23 := HX2.out.c3
  have x24 := HX2.out.c4
  clear hb2 hrs hown2 hb0 hbx
  go_wp2_with fail
  refine implSafeUp_any _ ss e _ (HS1.out.keep HB12.out) (by omega) HLS.out fun v3 rs3 w3 hb3 hrs3 hown3 => ?_
  obtain rfl : rs3 = rs := SafeOr.unique IsUp.unique hrs3 HRS.out
  have HB13 : Hid (Below w1.heap.size w1 w3) := HB12.out.trans (hb3.mono HB12.out.size)
  have HX3 : Hid (BoxE w3 w1.heap.size A1 ss.length c1 e) := HX2.out.keep hb3
  obtain ⟨A3, c3, hv3⟩ := (BoolsOwn.of hown3).slice
  subst hv3
  have HO3 : Hid (BoolsOwn w2.heap.size w3.heap.size w3 (.slice A3 rs3.length c3) rs3) := BoolsOwn.of hown3
  have HO23 : Hid (BoolsOwn W2.heap.size w2.heap.size w3 (.slice A2 rs3.length c2) rs3) := HO2.out.keep hb3
  have p3 := HX3.out.p
  have x30 := HX3.out.c0
  have x31 := HX3.out.c1
  have x32 := HX3.out.c2
  have x33 := HX3.out.c3
  have x34 := HX3.out.c4
  clear hb3 hrs3 hown3 p2 x20 x21 x22 x23 x24 HX2 HO2 HB12 HBW2
  go_wp2_with fail
  refine lkBools_any _ _ rs3 _ _ _ _ _ HO3.out HO23.out (by omega) fun w4 hb4 => ?_
  have HB14 : Hid (Below w1.heap.size w1 w4) := HB13.out.trans (hb4.mono HB13.out.size)
  have HX4 : Hid (BoxE w4 w1.heap.size A1 ss.length c1 e) := HX3.out.keep hb4
  have HO34 : Hid (BoolsOwn w2.heap.size w3.heap.size w4 (.slice A3 rs3.length c3) rs3) := HO3.out.keep hb4
  have HO24 : Hid (BoolsOwn W2.heap.size w2.heap.size w4 (.slice A2 rs3.length c2) rs3) := HO23.out.keep hb4
  have HBW4 : Hid (Below w.heap.size w w4) := HB1.out.trans (HB14.out.mono HB1.out.size)
  have p4 := HX4.out.p
  have x40 := HX4.out.c0
  have x41 := HX4.out.c1
  have x42 := HX4.out.c2
  have x43 := HX4.out.c3
  have x44 := HX4.out.c4
  clear hb4 HX3 HO3 HO23 HB13 p3 x30 x31 x32 x33 x34
  rcases Nat.eq_zero_or_pos rs3.length with hz | hpos
  · obtain rfl : rs3 = [] := List.eq_nil_of_length_eq_zero hz
    go_wp2_with fail
    refine lkBools_any _ _ [] _ _ _ _ _ HO34.out HO24.out (by omega) fun w5 hb5 => ?_
    have HF : Hid (Below w.heap.size w w5) := HBW4.out.trans (hb5.mono HBW4.out.size)
    clear hb5
    go_wp2
    exact HQ.out _ HF.out
  have hpi : ¬ (rs3.length : Int) = 0 := by omega
  have hpi2 : ((rs3.length : Int) == 0) = false := beq_eq_false_iff_ne.2 hpi
  obtain ⟨hok, he, rr, E, hre, hE, hEe⟩ := HRS.out.yes hpos
  have hlen : rs3.length = ss.length := by rw [hEe]; simp
  have HRE : Hid (IsReach ss rr) := hre
  have HOK : Hid (okB ss = true) := hok
  have HEX : Hid (exprB e = true) := he
  clear hok he hre
  go_wp2_with fail
  refine implSafeDown_any _ ss e _ (HS1.out.keep HB14.out) (by omega) HLS.out fun v5 ts5 w5 hb5 hts5 hown5 => ?_
  have HT5 : Hid (∃ f, IsDown ss e rr f ∧ ts5 = (List.range ss.length).map f) := hts5.same HOK.out HEX.out HRE.out
  have hl5 : ts5.length = ss.length := by obtain ⟨_, _, h⟩ := HT5.out; rw [h]; simp
  have HB15 : Hid (Below w1.heap.size w1 w5) := HB14.out.trans (hb5.mono HB14.out.size)
  have HX5 : Hid (BoxE w5 w1.heap.size A1 ss.length c1 e) := HX4.out.keep hb5
  obtain ⟨A5, c5, hv5⟩ := (BoolsOwn.of hown5).slice
  subst hv5
  have HU5 : Hid (BoolsOwn w2.heap.size w3.heap.size w5 (.slice A3 rs3.length c3) rs3) := HO34.out.keep hb5
  have HR55 : Hid (BoolsOwn w4.heap.size w5.heap.size w5 (.slice A5 ts5.length c5) ts5) := BoolsOwn.of hown5
  have p5 := HX5.out.p
  have x50 := HX5.out.c0
  have x51 := HX5.out.c1
  have x52 := HX5.out.c2
  have x53 := HX5.out.c3
  have x54 := HX5.out.c4
  clear hb5 hts5 hown5 HX4 p4 x40 x41 x42 x43 x44
  go_wp2_with fail
  refine implSafeDelay_any _ ss e _ (HS1.out.keep HB15.out) (by omega) HLS.out fun v6 ts6 w6 hb6 hts6 hown6 => ?_
  have HT6 : Hid (∃ f, IsDelay ss e rr f ∧ ts6 = (List.range ss.length).map f) := hts6.same HOK.out HEX.out HRE.out
  have hl6 : ts6.length = ss.length := by obtain ⟨_, _, h⟩ := HT6.out; rw [h]; simp
  have HB16 : Hid (Below w1.heap.size w1 w6) := HB15.out.trans (hb6.mono HB15.out.size)
  have HX6 : Hid (BoxE w6 w1.heap.size A1 ss.length c1 e) := HX5.out.keep hb6
  obtain ⟨A6, c6, hv6⟩ := (BoolsOwn.of hown6).slice
  subst hv6
  have HU6 : Hid (BoolsOwn w2.heap.size w3.heap.size w6 (.slice A3 rs3.length c3) rs3) := HU5.out.keep hb6
  have HR56 : Hid (BoolsOwn w4.heap.size w5.heap.size w6 (.slice A5 ts5.length c5) ts5) := HR55.out.keep hb6
  have HR66 : Hid (BoolsOwn w5.heap.size w6.heap.size w6 (.slice A6 ts6.length c6) ts6) := BoolsOwn.of hown6
  have p6 := HX6.out.p
  have x60 := HX6.out.c0
  have x61 := HX6.out.c1
  have x62 := HX6.out.c2
  have x63 := HX6.out.c3
  have x64 := HX6.out.c4
  clear hb6 hts6 hown6 HX5 p5 x50 x51 x52 x53 x54
  go_wp2_with fail
  refine implSafeAlone_any _ ss e _ (HS1.out.keep HB16.out) (by omega) HLS.out fun v7 ts7 w7 hb7 hts7 hown7 => ?_
  have HT7 : Hid (∃ f, IsAlone ss e rr f ∧ ts7 = (List.range ss.length).map f) := hts7.same HOK.out HEX.out HRE.out
  have hl7 : ts7.length = ss.length := by obtain ⟨_, _, h⟩ := HT7.out; rw [h]; simp
  have HB17 : Hid (Below w1.heap.size w1 w7) := HB16.out.trans (hb7.mono HB16.out.size)
  have HX7 : Hid (BoxE w7 w1.heap.size A1 ss.length c1 e) := HX6.out.keep hb7
  obtain ⟨A7, c7, hv7⟩ := (BoolsOwn.of hown7).slice
  subst hv7
  have HU7 : Hid (BoolsOwn w2.heap.size w3.heap.size w7 (.slice A3 rs3.length c3) rs3) := HU6.out.keep hb7
  have HR57 : Hid (BoolsOwn w4.heap.size w5.heap.size w7 (.slice A5 ts5.length c5) ts5) := HR56.out.keep hb7
  have HR67 : Hid (BoolsOwn w5.heap.size w6.heap.size w7 (.slice A6 ts6.length c6) ts6) := HR66.out.keep hb7
  have HR77 : Hid (BoolsOwn w6.heap.size w7.heap.size w7 (.slice A7 ts7.length c7) ts7) := BoolsOwn.of hown7
  have p7 := HX7.out.p
  have x70 := HX7.out.c0
  have x71 := HX7.out.c1
  have x72 := HX7.out.c2
  have x73 := HX7.out.c3
  have x74 := HX7.out.c4
  clear hb7 hts7 hown7 HX6 p6 x60 x61 x62 x63 x64
  go_wp2_with fail
  refine implReach_any _ ss _ (HS1.out.keep HB17.out) (by omega) HLS.out fun v8 ts8 w8 hb8 hts8 hown8 => ?_
  obtain rfl : ts8 = rr := by
    rcases hts8 with ⟨_, h⟩ | ⟨h, _⟩
    · exact h.unique HRE.out
    · rw [HOK.out] at h; cases h
  have hl8 : ts8.length = ss.length := HRE.out.1
  have HBW8 : Hid (Below w.heap.size w w8) := HB1.out.trans ((HB17.out.trans (hb8.mono HB17.out.size)).mono HB1.out.size)
  obtain ⟨ao8, g8, cap8, hv8, hrow8⟩ := (BoolsOwn.of hown8).read
  subst hv8
  obtain rfl := (hrow8 0 (by omega)).1
  obtain ⟨ao3, g3, cap3, hv3, hrow3⟩ := (HU7.out.keep hb8).read
  cases hv3
  obtain rfl := (hrow3 0 hpos).1
  obtain ⟨ao5, g5, cap5, hv5, hrow5⟩ := (HR57.out.keep hb8).read
  cases hv5
  obtain rfl := (hrow5 0 (by omega)).1
  obtain ⟨ao6, g6, cap6, hv6, hrow6⟩ := (HR67.out.keep hb8).read
  cases hv6
  obtain rfl := (hrow6 0 (by omega)).1
  obtain ⟨ao7, g7, cap7, hv7, hrow7⟩ := (HR77.out.keep hb8).read
  cases hv7
  obtain rfl := (hrow7 0 (by omega)).1
  have hget : ∀ (f : Nat → Bool) (bs : List Bool), bs = (List.range ss.length).map f → ∀ i, i < ss.length → bs.getD i false = f i := fun f bs h i hi => by
    rw [h, List.getD_eq_getElem?_getD, List.getElem?_map, List.getElem?_range hi]
    rfl
  have HCC : Hid (∀ i, i < ss.length → ∃ u d l a, w8.cell? ⟨g8, i, none⟩ = some (.bool (rF ts8 i)) ∧ w8.cell? ⟨g3, i, none⟩ = some (.bool u) ∧ w8.cell? ⟨g5, i, none⟩ = some (.bool d) ∧ w8.cell? ⟨g6, i, none⟩ = some (.bool l) ∧ w8.cell? ⟨g7, i, none⟩ = some (.bool a) ∧ (rF ts8 i = false → u = false ∧ d = false ∧ l = false ∧ a = false) ∧ (i = 0 → u = false)) := fun i hi => by
    have h8 := (hrow8 i (by omega)).2.1
    have h3 := (hrow3 i (by omega)).2.1
    have h5 := (hrow5 i (by omega)).2.1
    have h6 := (hrow6 i (by omega)).2.1
    have h7 := (hrow7 i (by omega)).2.1
    obtain ⟨fd, kd, ed⟩ := HT5.out
    obtain ⟨fl, kl, el⟩ := HT6.out
    obtain ⟨fa, ka, ea⟩ := HT7.out
    rw [hget E _ hEe i hi] at h3
    rw [hget fd _ ed i hi] at h5
    rw [hget fl _ el i hi] at h6
    rw [hget fa _ ea i hi] at h7
    refine ⟨_, _, _, _, h8, h3, h5, h6, h7, fun h => ?_, fun h => ?_⟩
    · obtain ⟨_, _, kl2⟩ := kl
      obtain ⟨_, _, ka2⟩ := ka
      have a1 := fun h' => (hE.fit i hi h').1
      have a2 := fun h' => (kd.fit i hi h').1
      have a3 := fun h' => (kl2.fit i hi h').1
      have a4 := fun h' => (ka2.fit i hi h').1
      rw [h] at a1 a2 a3 a4
      refine ⟨?_, ?_, ?_, ?_⟩
      · cases hh : E i
        · rfl
        · exact absurd (a1 hh) (by simp)
      · cases hh : fd i
        · rfl
        · exact absurd (a2 hh) (by simp)
      · cases hh : fl i
        · rfl
        · exact absurd (a3 hh) (by simp)
      · cases hh : fa i
        · rfl
        · exact absurd (a4 hh) (by simp)
    · cases hh : E i
      · rfl
      · have h2 := (hE.fit i hi hh).2
        rw [h] at h2
        simp [upF] at h2
  try rw [hlen]
  try rw [hl5]
  try rw [hl6]
  try rw [hl7]
  try rw [hl8]
  have hn0 : 0 < ss.length := by omega
  clear hrow3 hrow5 hrow6 hrow7 hrow8 hE hEe hown8 hts8 hb8 hget HT5 HT6 HT7 HU5 HU6 HU7 HR55 HR56 HR57 HR66 HR67 HR77 HO34 HO24
  go_wp2_with fail
  go_loopw [11] (fun i wr => ∃ x : Nat, x ≤ ss.length ∧ i = .int .i64 x ∧ Below w8.heap.size w8 wr) (fun i _ => ss.length - (intOf i).toNat)
  case atStart => exact ⟨0, Nat.zero_le _, rfl, Below.refl _ _⟩
  case round =>
    obtain ⟨x, hx, rfl, hb⟩ := hrel
    have HF : Hid (Below w.heap.size w wr) := HBW8.out.trans (hb.mono HBW8.out.size)
    have HBR : Hid (Below w8.heap.size w8 wr) := hb
    by_cases hxl : x < ss.length
    · have hxi : (x : Int) < (ss.length : Int) := by omega
      obtain ⟨u, d, l, a, a8, a3, a5, a6, a7, hz, _⟩ := HCC.out x hxl
      have d8 := cell_keep hb a8
      have d3 := cell_keep hb a3
      have d5 := cell_keep hb a5
      have d6 := cell_keep hb a6
      have d7 := cell_keep hb a7
      clear a8 a3 a5 a6 a7 hb
      cases h1 : rF ts8 x
      · rw [h1] at d8
        obtain ⟨rfl, rfl, rfl, rfl⟩ := hz h1
        clear h1 hz
        go_wp2
        go_roundw
        case rel => exact ⟨x + 1, by omega, by go_num, HBR.out⟩
        case measure => simp [intOf]; omega
      · rw [h1] at d8
        clear h1 hz
        go_wp2
        go_roundw
        case rel => exact ⟨x + 1, by omega, by go_num, HBR.out⟩
        case measure => simp [intOf]; omega
    · have hxi : ¬ (x : Int) < (ss.length : Int) := by omega
      obtain ⟨u, d, l, a, _, a3, _, _, _, _, hz⟩ := HCC.out 0 hn0
      obtain rfl := hz rfl
      have d3 := cell_keep hb a3
      have hn0i : (0 : Int) < (ss.length : Int) := by omega
      have hn1i : ¬ (ss.length : Int) ≤ 0 := by omega
      clear a3 hz hb
      go_wp2
      exact HQ.out _ HF.out

set_option maxRecDepth 100000 in
theorem law_lifted (os : Os) (started : os.Started) (H : Type) (enc : TypeId × Value → H) :
    ReturnsInHanded {} Tryz.checked os 11 .any (Rows.fnSafeStartSpec.pre6 enc Tryz.prog Tryz.f11 Rows.fnSafeStartRow.domain false) (Rows.fnSafeStartSpec.post enc Tryz.prog Tryz.f11 false true false false) := by
  refine returnsInHanded_of_change (C := Tryz.checked) own started (by kernel_rfl) Tryz.func11
    (ChangeSpec.witness6 (enc := enc) (C := Tryz.checked) false ⟨#[], #[.slice none 0 0], []⟩ 8 (by kernel_rfl) (by kernel_rfl) (by kernel_rfl) (by kernel_rfl)) ?_
  intro W base args ds gs before hval0 hW hcnd _
  have hval : ∀ (j : Nat) t v, Tryz.f11.params[j]? = some t → args[j]? = some v → Value.okWide Tryz.prog W .any base t v := hval0
  have hW' := hW
  obtain ⟨p, q, hA0, hV, rfl, hfz, hnd⟩ := hW
  have hA : DataW.TrodAll enc Tryz.prog W 0 (fun _ => true) true Tryz.f11.params.toList args.toList ds p := hA0
  rw [Tryz.params11] at hA hval
  obtain ⟨v0, vs0, d0, ds0, p0, q0, hargs, rfl, rfl, h0, r0⟩ := trodAll_cons hA
  obtain ⟨rfl, rfl, rfl⟩ := trodAll_nil r0
  obtain rfl : args = #[v0] := by cases args; simp_all
  obtain ⟨rfl, rfl⟩ := trodVars_none hV
  have k0 := h0
  have lt0 : ∀ x ∈ p0, x.block < W.heap.size := by obtain ⟨m, hm⟩ := k0; exact DataW.trod_lt m _ _ _ hm
  have c0 := open_code (hval 0 58 v0 rfl rfl) h0
  clear hA0 hval0
  refine law_walk v0 W c0 fun W' bel => ?_
  exact ⟨_, rfl, _, _, _, [], _, [], hW', trodAll_mk1 (shut_bool Tryz.underlying4 _), (trodAll_cons_mk (Below.trod laidOut (by kernel_rfl) (of_decide_eq_true (by kernel_rfl)) k0 bel lt0) trodAll_mk0), rfl, bel.frame _, fun h => by cases h⟩

theorem fnSafeStart_holds : Rows.FnSafeStartSaid :=
  OpenClaim.holds_of_wide 11 Tryz.f11 rfl rfl rfl rfl rfl rfl rfl ⟨rfl, rfl, rfl, rfl, rfl⟩ rfl rfl rfl rfl rfl (by kernel_rfl) Tryz.func11 (by kernel_rfl)
    (of_decide_eq_true (by kernel_rfl)) (by unfold Func.isWrapper; first | (rw [if_pos (by decide +kernel)]; kernel_rfl) | (rw [if_neg (by decide +kernel)]; exact ⟨rfl, rfl⟩))
    (fun os started H enc _ => law_lifted os started H enc)
#print axioms fnSafeStart_holds
end Go.Proofs.YtpgnlbkldjdjlaaGreat
