/- For every code of bytes, of the program and the reckoning that are drawn from it, PlaceNone answers as the model does, has neither a put nor a take, and PlaceNone, PlaceBusy and PlaceLazy have a yes or no for each step, none if one of the two is not ok: the law FnPlaceForm answers true. No condition. Two rows of bools that are the same; whether a way leads from a step to a place: the laws' own small functions. The model's DrawPlaceNone: some program and some reckoning. -/
import Derived.Test.YtpgnlbkldjdjlaaGreatTwo
import Derived.Test.YtpgnlbkldjdjlaaGreatCode
import Derived.Test.YtpgnlbkldjdjlaaGreatRowsO
import Derived.Test.YtpgnlbkldjdjlaaGreatChecked
import Derived.Test.YtpgnlbkldjdjlaaGreatReach
import Derived.Test.YtpgnlbkldjdjlaaGreatRows
import Derived.Test.YtpgnlbkldjdjlaaGreatBoxUM
import Derived.Test.YtpgnlbkldjdjlaaGreatSpecPB
import Derived.Test.YtpgnlbkldjdjlaaGreatImplPLB
import Derived.Deep.QuietTactic
import Derived.BigQuiet
import Derived.OpenShut
import Derived.ShutString
import Derived.ChangeOld
import Derived.Below
import Derived.Deep.RegionHeld3
import Derived.Deep.CutRange
namespace Go.Proofs.YtpgnlbkldjdjlaaGreat
open Go.RowKit

set_option maxRecDepth 100000 in
set_option maxHeartbeats 1000000 in
theorem drawPlaceNone_any {Q : Ending → World → Prop} (v : Value) (w : World) (h : CodeAt w v)
    (hQ : ∀ (v' : Value) (ss : List St) (e : E5) w', StepsN w' v' ss → ss.length ≤ 61 → (∀ s ∈ ss, s.next.length ≤ 61) → Below w.heap.size w w' → Q (.returned (.tuple #[.agg #[v'], .agg #[.int .i64 e.op, .int .i64 e.av, .int .i64 e.an, .int .i64 e.bv, .int .i64 e.bn]])) w') :
    Calls Tryz.prog 52 #[v] w Q := by
  have HQ : Hid _ := hQ
  clear hQ
  go_enter Tryz.func52, Tryz.ntmps52
  go_wp2_with fail
  have hb0 : ∀ O O', Below w.heap.size w ((w.alloc O).alloc O') := fun O O' => ((Below.refl _ _).alloc (Nat.le_refl _) O).alloc (by simp) O'
  refine openCode_any v _ (h.keep (hb0 _ _)) fun w1 hr1 hb1 => ?_
  have e0 : ((w.alloc (.cells #[.slice none 0 0] 34)).alloc (.cells #[.int .i64 0, .int .i64 0, .int .i64 0, .int .i64 0, .int .i64 0] 38)).heap.size = w.heap.size + 2 := by simp
  rw [e0] at hr1 hb1 ⊢
  have hlt := hr1.lt
  have HB1 : Hid (Below w.heap.size w w1) := (hb0 _ _).trans (hb1.mono (by omega))
  have q1 : w1.cell? ⟨w.heap.size, 0, none⟩ = some (.slice none 0 0) := (hb1.cell (p := ⟨w.heap.size, 0, none⟩) (by show w.heap.size < w.heap.size + 2; omega)).trans (by simp [go_sem])
  have f1 : ∀ j, w1.frozen? ⟨w.heap.size, j, none⟩ = false := fun j => (hb1.frozen (p := ⟨w.heap.size, j, none⟩) (by show w.heap.size < w.heap.size + 2; omega)).trans (by simp [go_sem])
  have x0 : w1.cell? ⟨w.heap.size + 1, 0, none⟩ = some (.int .i64 0) := (hb1.cell (p := ⟨w.heap.size + 1, 0, none⟩) (by show w.heap.size + 1 < w.heap.size + 2; omega)).trans (by simp [go_sem])
  have x1 : w1.cell? ⟨w.heap.size + 1, 1, none⟩ = some (.int .i64 0) := (hb1.cell (p := ⟨w.heap.size + 1, 1, none⟩) (by show w.heap.size + 1 < w.heap.size + 2; omega)).trans (by simp [go_sem])
  have x2 : w1.cell? ⟨w.heap.size + 1, 2, none⟩ = some (.int .i64 0) := (hb1.cell (p := ⟨w.heap.size + 1, 2, none⟩) (by show w.heap.size + 1 < w.heap.size + 2; omega)).trans (by simp [go_sem])
  have x3 : w1.cell? ⟨w.heap.size + 1, 3, none⟩ = some (.int .i64 0) := (hb1.cell (p := ⟨w.heap.size + 1, 3, none⟩) (by show w.heap.size + 1 < w.heap.size + 2; omega)).trans (by simp [go_sem])
  have x4 : w1.cell? ⟨w.heap.size + 1, 4, none⟩ = some (.int .i64 0) := (hb1.cell (p := ⟨w.heap.size + 1, 4, none⟩) (by show w.heap.size + 1 < w.heap.size + 2; omega)).trans (by simp [go_sem])
  have g1 : ∀ j, w1.frozen? ⟨w.heap.size + 1, j, none⟩ = false := fun j => (hb1.frozen (p := ⟨w.heap.size + 1, j, none⟩) (by show w.heap.size + 1 < w.heap.size + 2; omega)).trans (by simp [go_sem])
  clear hb1 e0
  go_wp2_with fail
  refine l71Two_any (w.heap.size + 2) 0 _ hr1 (by omega) fun v2 ss e p2 w2 hS hl hls hr2 hp2 hx2 => ?_
  have hne : w.heap.size ≠ w.heap.size + 2 := by omega
  have hne1 : w.heap.size + 1 ≠ w.heap.size + 2 := by omega
  have q2 := hx2.cell q1 hne
  have f2 := fun j => (hx2.frozen (p := ⟨w.heap.size, j, none⟩) (by show w.heap.size < w1.heap.size; omega) hne).trans (f1 j)
  have y0 := hx2.cell x0 hne1
  have y1 := hx2.cell x1 hne1
  have y2 := hx2.cell x2 hne1
  have y3 := hx2.cell x3 hne1
  have y4 := hx2.cell x4 hne1
  have g2 := fun j => (hx2.frozen (p := ⟨w.heap.size + 1, j, none⟩) (by show w.heap.size + 1 < w1.heap.size; omega) hne1).trans (g1 j)
  obtain ⟨A2, b2, o2, c2, rfl, hS'⟩ := id hS
  clear hS'
  have hbE : Below w.heap.size w w2 := HB1.out.trans ((hx2.below (by omega)).mono (by omega))
  have hle : w.heap.size ≤ w1.heap.size := by omega
  have HF : Hid (∀ u0 u1 u2 u3 u4 u5, Below w.heap.size w ((((((w2.setCell ⟨w.heap.size, 0, none⟩ u0).setCell ⟨w.heap.size + 1, 0, none⟩ u1).setCell ⟨w.heap.size + 1, 1, none⟩ u2).setCell ⟨w.heap.size + 1, 2, none⟩ u3).setCell ⟨w.heap.size + 1, 3, none⟩ u4).setCell ⟨w.heap.size + 1, 4, none⟩ u5)
      ∧ StepsN ((((((w2.setCell ⟨w.heap.size, 0, none⟩ u0).setCell ⟨w.heap.size + 1, 0, none⟩ u1).setCell ⟨w.heap.size + 1, 1, none⟩ u2).setCell ⟨w.heap.size + 1, 2, none⟩ u3).setCell ⟨w.heap.size + 1, 3, none⟩ u4).setCell ⟨w.heap.size + 1, 4, none⟩ u5) (.slice A2 ss.length c2) ss) := fun u0 u1 u2 u3 u4 u5 => by
    refine ⟨(((((hbE.setCell ?_ _).setCell ?_ _).setCell ?_ _).setCell ?_ _).setCell ?_ _).setCell ?_ _, ((((((hS.put ?_ _).put ?_ _).put ?_ _).put ?_ _).put ?_ _).put ?_ _).n⟩
    all_goals (simp only []; omega)
  have HLS : Hid (∀ s ∈ ss, s.next.length ≤ 61) := hls
  clear hS hls hr2 hx2 HB1 hr1 hb0 q1 f1 x0 x1 x2 x3 x4 g1 hbE
  go_wp2_with fail
  refine bodyPost_ret (v := .tuple #[.agg #[.slice A2 ss.length c2], .agg #[.int .i64 e.op, .int .i64 e.av, .int .i64 e.an, .int .i64 e.bv, .int .i64 e.bn]]) (by simp [results, Tryz.results52, go_sem, q2, y0, y1, y2, y3, y4]) rfl ?_
  exact HQ.out _ ss e _ (HF.out _ _ _ _ _ _).2 hl HLS.out (HF.out _ _ _ _ _ _).1
end Go.Proofs.YtpgnlbkldjdjlaaGreat
namespace Go.Proofs.YtpgnlbkldjdjlaaGreat
open Go.RowKit

set_option maxHeartbeats 1000000 in
theorem lkBools_any {Q : Ending → World → Prop} (u v : Value) (bs : List Bool) (lo hi lo' hi' : Nat) (w : World) (hu : BoolsOwn lo hi w u bs) (hv : BoolsOwn lo' hi' w v bs) (hl : bs.length ≤ 1048576)
    (hQ : ∀ w', Below w.heap.size w w' → Q (.returned (.bool true)) w') :
    Calls Tryz.prog 48 #[u, v] w Q := by
  have HQ : Hid _ := hQ
  clear hQ
  obtain ⟨ao, b, cap, rfl, hc⟩ := hu.read
  obtain ⟨ao', b', cap', rfl, hc'⟩ := hv.read
  have HC : Hid _ := hc
  have HC' : Hid _ := hc'
  clear hc hc' hu hv
  go_enter Tryz.func48, Tryz.ntmps48
  go_wp2
  go_loopw [5] (fun i wr => ∃ k : Nat, k ≤ bs.length ∧ i = .int .i64 k ∧ Below w.heap.size w wr) (fun i _ => bs.length - (intOf i).toNat)
  case atStart => exact ⟨0, Nat.zero_le _, rfl, Below.refl _ _⟩
  case round =>
    obtain ⟨k, hk, rfl, hb⟩ := hrel
    by_cases hkl : k < bs.length
    · obtain ⟨rfl, c1, _, _⟩ := HC.out k hkl
      obtain ⟨rfl, c2, _, _⟩ := HC'.out k hkl
      have d1 := cell_keep hb c1
      have d2 := cell_keep hb c2
      have hki : (k : Int) < (bs.length : Int) := by omega
      generalize bs.getD k false = x at *
      clear c1 c2
      cases x
      all_goals
        go_wp2_with fail
        go_quiet (fail)
        go_wp2
        go_roundw
        case rel => exact ⟨k + 1, by omega, by go_num, below_drewN hb _⟩
        case measure => simp [intOf]; omega
    · go_wp2
      exact HQ.out _ hb

end Go.Proofs.YtpgnlbkldjdjlaaGreat
namespace Go.Proofs.YtpgnlbkldjdjlaaGreat
open Go.ChangeShapes Go.WideShapes Go.ChangeAt Go.RowKit

theorem own : ownKnob Tryz.prog.godebug = none := by kernel_rfl
theorem laidOut : laidOutB Tryz.prog = true := by kernel_rfl

theorem PlOr.lens {P : List St → E5 → List Bool → (Nat → Bool) → (Nat → Bool) → Prop} {ss : List St} {e : E5} {ps ts : List Bool} (h : PlOr P ss e ps ts) {m : Nat} (hm : m = if okB ss && exprB e then ss.length else 0) : ps.length = m ∧ ts.length = m := by
  rcases h with ⟨h1, h2, rs, f, g, _, _, rfl, rfl⟩ | ⟨h1, rfl, rfl⟩
  · rw [h1, h2] at hm
    simp at hm
    simp [hm]
  · have : (okB ss && exprB e) = false := by
      cases a : okB ss <;> cases b : exprB e <;> simp_all
    rw [this] at hm
    simp at hm
    simp [hm]

theorem PlOr.no {ss : List St} {e : E5} {ps ts : List Bool} (h : PlOr IsNone ss e ps ts) (i : Nat) : ps.getD i false = false ∧ ts.getD i false = false := by
  rcases h with ⟨h1, h2, rs, f, g, _, hn, rfl, rfl⟩ | ⟨h1, rfl, rfl⟩
  · constructor
    · rw [List.getD_eq_getElem?_getD, List.getElem?_map]
      cases (List.range ss.length)[i]? <;> simp [(hn _).1]
    · rw [List.getD_eq_getElem?_getD, List.getElem?_map]
      cases (List.range ss.length)[i]? <;> simp [(hn _).2]
  · simp

theorem boxes_all {W : World} {b B : Nat} {a a' : Value} {A : Option Addr} {n c : Nat} {e : E5} (hp : BoxP W b a a') (h : BoxE W B A n c e) : W.cell? ⟨b, 0, none⟩ = some a ∧ W.cell? ⟨b, 1, none⟩ = some a' ∧ W.cell? ⟨B, 0, none⟩ = some (.slice A n c) ∧ W.cell? ⟨B + 1, 0, none⟩ = some (.int .i64 e.op) ∧ W.cell? ⟨B + 1, 1, none⟩ = some (.int .i64 e.av) ∧ W.cell? ⟨B + 1, 2, none⟩ = some (.int .i64 e.an) ∧ W.cell? ⟨B + 1, 3, none⟩ = some (.int .i64 e.bv) ∧ W.cell? ⟨B + 1, 4, none⟩ = some (.int .i64 e.bn) := ⟨hp.c0, hp.c1, h.p, h.c0, h.c1, h.c2, h.c3, h.c4⟩

set_option maxHeartbeats 1000000 in
theorem lkPlace_any {Q : Ending → World → Prop} (u v : Value) (ps ts : List Bool) (lo hi lo' hi' : Nat) (w : World) (hu : PlaceO lo hi w u ps ts) (hv : PlaceO lo' hi' w v ps ts) (h1 : ps.length ≤ 1048576) (h2 : ts.length ≤ 1048576)
    (hQ : ∀ w', Below w.heap.size w w' → Q (.returned (.bool true)) w') :
    Calls Tryz.prog 54 #[u, v] w Q := by
  have HQ : Hid _ := hQ
  clear hQ
  obtain ⟨ov, pv, rfl, i1, i2, _⟩ := hu
  obtain ⟨ov', pv', rfl, i3, i4, _⟩ := hv
  have I1 : Hid (BoolsOwn lo hi w ov ps) := i1
  have I2 : Hid (BoolsOwn lo hi w pv ts) := i2
  have I3 : Hid (BoolsOwn lo' hi' w ov' ps) := i3
  have I4 : Hid (BoolsOwn lo' hi' w pv' ts) := i4
  obtain ⟨A, c, rfl⟩ := i1.slice
  obtain ⟨A2, c2, rfl⟩ := i2.slice
  obtain ⟨A3, c3, rfl⟩ := i3.slice
  obtain ⟨A4, c4, rfl⟩ := i4.slice
  clear i1 i2 i3 i4
  have HB0 : Hid (∀ O O', Below w.heap.size w ((w.alloc O).alloc O')) := fun O O' => ((Below.refl _ _).alloc (Nat.le_refl _) O).alloc (by simp) O'
  go_enter Tryz.func54, Tryz.ntmps54
  go_wp2_with fail
  refine lkBools_any _ _ ps _ _ _ _ _ (I1.out.keep (HB0.out _ _)) (I3.out.keep (HB0.out _ _)) h1 fun w1 hb1 => ?_
  have HB1 : Hid (Below w.heap.size w w1) := (HB0.out _ _).trans (hb1.mono (by simp; omega))
  have q2 : w1.cell? ⟨w.heap.size, 1, none⟩ = some (.slice A2 ts.length c2) := cell_keep hb1 (by simp [go_sem])
  have q3 : w1.cell? ⟨w.heap.size + 1, 1, none⟩ = some (.slice A4 ts.length c4) := cell_keep hb1 (by simp [go_sem])
  clear hb1
  go_wp2_with fail
  refine lkBools_any _ _ ts _ _ _ _ _ (I2.out.keep HB1.out) (I4.out.keep HB1.out) h2 fun w2 hb2 => ?_
  have HB2 : Hid (Below w.heap.size w w2) := HB1.out.trans (hb2.mono HB1.out.size)
  clear hb2
  go_wp2
  exact HQ.out _ HB2.out

set_option maxRecDepth 100000 in
set_option maxHeartbeats 8000000 in
theorem law_walk (v : Value) (w : World) (h : CodeAt w v) {Q : Ending → World → Prop} (hQ : ∀ w', Below w.heap.size w w' → Q (.returned (.bool true)) w') :
    Calls Tryz.prog 13 #[v] w Q := by
  have HQ : Hid (∀ w', Below w.heap.size w w' → Q (.returned (.bool true)) w') := hQ
  clear hQ
  have HC : Hid _ := h
  obtain ⟨ao, bb, bo, bl, cap, rfl, h1, h2, h3, h4, h5⟩ := h
  clear h3 h4 h5
  by_cases hbl : 1048576 < bl
  · go_enter Tryz.func13, Tryz.ntmps13
    go_wp2
    exact HQ.out _ (Below.refl _ _)
  go_enter Tryz.func13, Tryz.ntmps13
  go_wp2_with fail
  refine drawPlaceNone_any _ _ HC.out fun v1 ss e w1 hS1 hl hls hb1 => ?_
  clear HC
  obtain ⟨A1, b1, o1, c1, rfl, hA1, hC1⟩ := id hS1
  have HS1 : Hid (StepsAt w1 (.slice A1 ss.length c1) ss) := hS1.at
  have HLS : Hid (∀ s ∈ ss, s.next.length ≤ 1048576) := fun s hs => Nat.le_trans (hls s hs) (by decide)
  have HB1 : Hid (Below w.heap.size w w1) := hb1
  obtain ⟨m, hm⟩ : ∃ m, m = if okB ss && exprB e then ss.length else 0 := ⟨_, rfl⟩
  have HM : Hid (m = if okB ss && exprB e then ss.length else 0) := hm
  have hml : m ≤ 61 := by rw [hm]; split <;> omega
  clear hA1 hC1 hS1 hls hb1 hm
  go_wp2_with fail
  have hb0 : Below w1.heap.size w1 ((w1.alloc (.cells #[.slice A1 ss.length c1] 34)).alloc (.cells #[.int .i64 e.op, .int .i64 e.av, .int .i64 e.an, .int .i64 e.bv, .int .i64 e.bn] 38)) := ((Below.refl _ _).alloc (Nat.le_refl _) _).alloc (by simp) _
  have hbx := BoxE.new w1 A1 ss.length c1 e 34 38
  generalize hW2 : (w1.alloc (.cells #[.slice A1 ss.length c1] 34)).alloc (.cells #[.int .i64 e.op, .int .i64 e.av, .int .i64 e.an, .int .i64 e.bv, .int .i64 e.bn] 38) = W2 at *
  clear hW2
  have HBA2 : Hid (Below w1.heap.size w1 W2) := hb0
  have HX2 : Hid (BoxE W2 w1.heap.size A1 ss.length c1 e) := hbx
  clear hb0 hbx
  refine implPlaceNone_any _ ss e _ (HS1.out.keep HBA2.out) (by omega) HLS.out fun v2 ps2 ts2 w2 hb2 hpl2 hpo2 => ?_
  have HPL2 : Hid (PlOr IsNone ss e ps2 ts2) := hpl2
  obtain ⟨A2, c2, B2, d2, hv2⟩ := hpo2.form
  have hln2 := hpl2.lens HM.out
  rw [hln2.1, hln2.2] at hv2
  subst hv2
  have hba2 : Below W2.heap.size W2 (w2.alloc (.cells #[.slice A2 m c2, .slice B2 m d2] 46)) := hb2.trans (((Below.refl _ _).alloc (Nat.le_refl _) _).mono hb2.size)
  have HX3 : Hid (BoxE (w2.alloc (.cells #[.slice A2 m c2, .slice B2 m d2] 46)) w1.heap.size A1 ss.length c1 e) := HX2.out.keep hba2
  have HBA3 : Hid (Below w1.heap.size w1 (w2.alloc (.cells #[.slice A2 m c2, .slice B2 m d2] 46))) := HBA2.out.trans (hba2.mono HBA2.out.size)
  have HX2x3 : Hid (BoxP (w2.alloc (.cells #[.slice A2 m c2, .slice B2 m d2] 46)) w2.heap.size (.slice A2 m c2) (.slice B2 m d2)) := BoxP.new _ _ _ _
  have HPO2x3 : Hid (PlaceO W2.heap.size w2.heap.size (w2.alloc (.cells #[.slice A2 m c2, .slice B2 m d2] 46)) (.agg #[.slice A2 m c2, .slice B2 m d2]) ps2 ts2) := hpo2.keep ((Below.refl _ _).alloc (Nat.le_refl _) _)
  have p3 := HX3.out.p
  have x30 := HX3.out.c0
  have x31 := HX3.out.c1
  have x32 := HX3.out.c2
  have x33 := HX3.out.c3
  have x34 := HX3.out.c4
  clear hb2 hpl2 hpo2 hba2
  go_wp2_with fail
  generalize w2.alloc (.cells #[.slice A2 m c2, .slice B2 m d2] 46) = W3 at *
  refine implPlaceBusy_any _ ss e _ (HS1.out.keep HBA3.out) (by omega) HLS.out fun v3 ps3 ts3 w3 hb3 hpl3 hpo3 => ?_
  have HPL3 : Hid (PlOr IsBusy ss e ps3 ts3) := hpl3
  obtain ⟨A3, c3, B3, d3, hv3⟩ := hpo3.form
  have hln3 := hpl3.lens HM.out
  rw [hln3.1, hln3.2] at hv3
  subst hv3
  have hba3 : Below W3.heap.size W3 (w3.alloc (.cells #[.slice A3 m c3, .slice B3 m d3] 46)) := hb3.trans (((Below.refl _ _).alloc (Nat.le_refl _) _).mono hb3.size)
  have HX4 : Hid (BoxE (w3.alloc (.cells #[.slice A3 m c3, .slice B3 m d3] 46)) w1.heap.size A1 ss.length c1 e) := HX3.out.keep hba3
  have HBA4 : Hid (Below w1.heap.size w1 (w3.alloc (.cells #[.slice A3 m c3, .slice B3 m d3] 46))) := HBA3.out.trans (hba3.mono HBA3.out.size)
  have HX3x4 : Hid (BoxP (w3.alloc (.cells #[.slice A3 m c3, .slice B3 m d3] 46)) w3.heap.size (.slice A3 m c3) (.slice B3 m d3)) := BoxP.new _ _ _ _
  have HPO2x4 : Hid (PlaceO W2.heap.size w2.heap.size (w3.alloc (.cells #[.slice A3 m c3, .slice B3 m d3] 46)) (.agg #[.slice A2 m c2, .slice B2 m d2]) ps2 ts2) := HPO2x3.out.keep hba3
  have HX2x4 : Hid (BoxP (w3.alloc (.cells #[.slice A3 m c3, .slice B3 m d3] 46)) w2.heap.size (.slice A2 m c2) (.slice B2 m d2)) := HX2x3.out.keep hba3
  have p4 := HX4.out.p
  have x40 := HX4.out.c0
  have x41 := HX4.out.c1
  have x42 := HX4.out.c2
  have x43 := HX4.out.c3
  have x44 := HX4.out.c4
  clear hb3 hpl3 hpo3 hba3 p3 x30 x31 x32 x33 x34
  go_wp2_with fail
  generalize w3.alloc (.cells #[.slice A3 m c3, .slice B3 m d3] 46) = W4 at *
  refine implPlaceLazy_any _ ss e _ (HS1.out.keep HBA4.out) (by omega) HLS.out fun v4 ps4 ts4 w4 hb4 hpl4 hpo4 => ?_
  have HPL4 : Hid (PlOr IsLazy ss e ps4 ts4) := hpl4
  obtain ⟨A4, c4, B4, d4, hv4⟩ := hpo4.form
  have hln4 := hpl4.lens HM.out
  rw [hln4.1, hln4.2] at hv4
  subst hv4
  have hba4 : Below W4.heap.size W4 (w4.alloc (.cells #[.slice A4 m c4, .slice B4 m d4] 46)) := hb4.trans (((Below.refl _ _).alloc (Nat.le_refl _) _).mono hb4.size)
  have HX5 : Hid (BoxE (w4.alloc (.cells #[.slice A4 m c4, .slice B4 m d4] 46)) w1.heap.size A1 ss.length c1 e) := HX4.out.keep hba4
  have HBA5 : Hid (Below w1.heap.size w1 (w4.alloc (.cells #[.slice A4 m c4, .slice B4 m d4] 46))) := HBA4.out.trans (hba4.mono HBA4.out.size)
  have HX4x5 : Hid (BoxP (w4.alloc (.cells #[.slice A4 m c4, .slice B4 m d4] 46)) w4.heap.size (.slice A4 m c4) (.slice B4 m d4)) := BoxP.new _ _ _ _
  have HPO2x5 : Hid (PlaceO W2.heap.size w2.heap.size (w4.alloc (.cells #[.slice A4 m c4, .slice B4 m d4] 46)) (.agg #[.slice A2 m c2, .slice B2 m d2]) ps2 ts2) := HPO2x4.out.keep hba4
  have HX2x5 : Hid (BoxP (w4.alloc (.cells #[.slice A4 m c4, .slice B4 m d4] 46)) w2.heap.size (.slice A2 m c2) (.slice B2 m d2)) := HX2x4.out.keep hba4
  have HX3x5 : Hid (BoxP (w4.alloc (.cells #[.slice A4 m c4, .slice B4 m d4] 46)) w3.heap.size (.slice A3 m c3) (.slice B3 m d3)) := HX3x4.out.keep hba4
  have p5 := HX5.out.p
  have x50 := HX5.out.c0
  have x51 := HX5.out.c1
  have x52 := HX5.out.c2
  have x53 := HX5.out.c3
  have x54 := HX5.out.c4
  clear hb4 hpl4 hpo4 hba4 p4 x40 x41 x42 x43 x44
  go_upto_region 7 with fail
  generalize w4.alloc (.cells #[.slice A4 m c4, .slice B4 m d4] 46) = W5 at *
  have HW : Hid (Below w.heap.size w W5) := HB1.out.trans (HBA5.out.mono HB1.out.size)
  have q5 : BoxE W5 w1.heap.size A1 ss.length c1 e := HX5.out
  have hx5 : BoxP W5 w2.heap.size (.slice A2 m c2) (.slice B2 m d2) := HX2x5.out
  have hst5 : StepsAt W5 (.slice A1 ss.length c1) ss := HS1.out.keep HBA5.out
  clear p5 x50 x51 x52 x53 x54
  go_cut [32] from 10 (fun s wx => s = .bool false ∧ Below W5.heap.size W5 wx)
  case first =>
    go_region_held3 (fun wx => wx.cell? ⟨w2.heap.size, 0, none⟩ = some (.slice A2 m c2) ∧ wx.cell? ⟨w2.heap.size, 1, none⟩ = some (.slice B2 m d2) ∧ wx.cell? ⟨w1.heap.size, 0, none⟩ = some (.slice A1 ss.length c1) ∧ wx.cell? ⟨w1.heap.size + 1, 0, none⟩ = some (.int .i64 e.op) ∧ wx.cell? ⟨w1.heap.size + 1, 1, none⟩ = some (.int .i64 e.av) ∧ wx.cell? ⟨w1.heap.size + 1, 2, none⟩ = some (.int .i64 e.an) ∧ wx.cell? ⟨w1.heap.size + 1, 3, none⟩ = some (.int .i64 e.bv) ∧ wx.cell? ⟨w1.heap.size + 1, 4, none⟩ = some (.int .i64 e.bn)) (exact boxes_all (by first | assumption | exact BoxP.drw (by assumption)) (by first | assumption | exact BoxE.drw (by assumption))) (first
      | (go_at_call 55; refine specPlaceNone_any _ ss e _ (hst5.keep (Below.refl _ _).drew) (by omega) HLS.out ?_; intro v6 ps6 ts6 w6 hb6 hpl6 hpo6; have q6 : BoxE w6 w1.heap.size A1 ss.length c1 e := q5.drw.keep hb6; have hx6 : BoxP w6 w2.heap.size (.slice A2 m c2) (.slice B2 m d2) := hx5.drw.keep hb6; obtain ⟨hps, hts⟩ := PlOr.unique IsNone.unique hpl6 HPL2.out; subst hps; subst hts; have hpo2 := (HPO2x5.out.keep ((Below.refl _ _).drew)).keep hb6; have bw6 : Below W5.heap.size W5 w6 := ((Below.refl _ _).drew).trans hb6)
      | (go_at_call 54; refine lkPlace_any _ _ ps6 ts6 _ _ _ _ _ hpo2 hpo6 (by omega) (by omega) ?_; intro w7 hb7; have q7 : BoxE w7 w1.heap.size A1 ss.length c1 e := q6.keep hb7; have hx7 : BoxP w7 w2.heap.size (.slice A2 m c2) (.slice B2 m d2) := hx6.keep hb7; have bw7 : Below W5.heap.size W5 w7 := bw6.trans (hb7.mono bw6.size)))
    all_goals
      go_wp2_with fail
      go_meet
      exact ⟨rfl, by first | exact bw7 | exact bw7.drew⟩
  case rest =>
    obtain ⟨rfl, hbc⟩ := hcut
    have HWC : Hid (Below w.heap.size w wc) := HW.out.trans (hbc.mono HW.out.size)
    have HQC : Hid (BoxE wc w1.heap.size A1 ss.length c1 e) := q5.keep hbc
    have HX2C : Hid (BoxP wc w2.heap.size (.slice A2 m c2) (.slice B2 m d2)) := hx5.keep hbc
    have HX3C : Hid (BoxP wc w3.heap.size (.slice A3 m c3) (.slice B3 m d3)) := HX3x5.out.keep hbc
    have HX4C : Hid (BoxP wc w4.heap.size (.slice A4 m c4) (.slice B4 m d4)) := HX4x5.out.keep hbc
    have HPC : Hid (PlaceO W2.heap.size w2.heap.size wc (.agg #[.slice A2 m c2, .slice B2 m d2]) ps2 ts2) := HPO2x5.out.keep hbc
    have HSC : Hid (StepsAt wc (.slice A1 ss.length c1) ss) := hst5.keep hbc
    clear hbc q5 hx5 hst5 HW HBA5 HX5
    generalize wc = w8 at *
    have p8 := HQC.out.p
    go_wp2_with fail
    refine specOk_any _ ss _ HSC.out (by omega) HLS.out fun w9 hb9 => ?_
    have HW9 : Hid (Below w.heap.size w w9) := HWC.out.trans (hb9.mono HWC.out.size)
    have q9 := HQC.out.keep hb9
    have HX29 : Hid (BoxP w9 w2.heap.size (.slice A2 m c2) (.slice B2 m d2)) := HX2C.out.keep hb9
    have HX39 : Hid (BoxP w9 w3.heap.size (.slice A3 m c3) (.slice B3 m d3)) := HX3C.out.keep hb9
    have HX49 : Hid (BoxP w9 w4.heap.size (.slice A4 m c4) (.slice B4 m d4)) := HX4C.out.keep hb9
    have HP9 : Hid (PlaceO W2.heap.size w2.heap.size w9 (.agg #[.slice A2 m c2, .slice B2 m d2]) ps2 ts2) := HPC.out.keep hb9
    have y0 := q9.c0
    have y1 := q9.c1
    have y2 := q9.c2
    have y3 := q9.c3
    have y4 := q9.c4
    clear hb9 p8 HSC HPC HX2C HX3C HX4C HQC HWC
    have FIN : Hid (∀ (w : World), True) := fun _ => trivial
    cases hok : okB ss
    · have hm0 : m = 0 := by have := HM.out; rw [hok] at this; simpa using this
      subst hm0
      have b20 := HX29.out.c0
      have b21 := HX29.out.c1
      have b30 := HX39.out.c0
      have b31 := HX39.out.c1
      have b40 := HX49.out.c0
      have b41 := HX49.out.c1
      go_wp2_with fail
      go_loop [9] (fun i => i = .int .i64 0) (fun _ => 0)
      case atStart => rfl
      case round =>
        subst hrel
        go_wp2
        exact HQ.out _ HW9.out
    · go_wp2_with fail
      refine specExprOk_u e _ fun w10 hb10 => ?_
      have HW9 : Hid (Below w.heap.size w w10) := HW9.out.trans (hb10.mono HW9.out.size)
      have HX29 : Hid (BoxP w10 w2.heap.size (.slice A2 m c2) (.slice B2 m d2)) := HX29.out.keep hb10
      have HX39 : Hid (BoxP w10 w3.heap.size (.slice A3 m c3) (.slice B3 m d3)) := HX39.out.keep hb10
      have HX49 : Hid (BoxP w10 w4.heap.size (.slice A4 m c4) (.slice B4 m d4)) := HX49.out.keep hb10
      have HP9 : Hid (PlaceO W2.heap.size w2.heap.size w10 (.agg #[.slice A2 m c2, .slice B2 m d2]) ps2 ts2) := HP9.out.keep hb10
      clear hb10 y0 y1 y2 y3 y4
      cases hex : exprB e
      · have hm0 : m = 0 := by have := HM.out; rw [hok, hex] at this; simpa using this
        subst hm0
        have b20 := HX29.out.c0
        have b21 := HX29.out.c1
        have b30 := HX39.out.c0
        have b31 := HX39.out.c1
        have b40 := HX49.out.c0
        have b41 := HX49.out.c1
        go_wp2_with fail
        go_loop [9] (fun i => i = .int .i64 0) (fun _ => 0)
        case atStart => rfl
        case round =>
          subst hrel
          go_wp2
          exact HQ.out _ HW9.out
      · have hm0 : m = ss.length := by have := HM.out; rw [hok, hex] at this; simpa using this
        rw [← hm0]
        have HROW : Hid (∀ i, i < m → ∃ ga gb, A2 = some ⟨ga, 0, none⟩ ∧ B2 = some ⟨gb, 0, none⟩ ∧ w10.cell? ⟨ga, i, none⟩ = some (.bool false) ∧ w10.cell? ⟨gb, i, none⟩ = some (.bool false)) := fun i hi => by
          obtain ⟨pv, tv, e1, r1, r2, _⟩ := HP9.out
          obtain ⟨n1, n2⟩ := HPL2.out.lens HM.out
          obtain ⟨ao1, ga, ca, ea, ra⟩ := r1.read
          obtain ⟨ao2, gb, cb, eb, rb⟩ := r2.read
          simp only [Value.agg.injEq] at e1
          have e2 : Value.slice A2 m c2 = pv ∧ Value.slice B2 m d2 = tv := by simpa using e1
          have f1 := ra i (by omega)
          have f2 := rb i (by omega)
          have e3 := e2.1.trans ea
          have e4 := e2.2.trans eb
          simp only [Value.slice.injEq] at e3 e4
          refine ⟨ga, gb, e3.1.trans f1.1, e4.1.trans f2.1, ?_, ?_⟩
          · rw [f1.2.1, (HPL2.out.no i).1]
          · rw [f2.2.1, (HPL2.out.no i).2]
        have b20 := HX29.out.c0
        have b21 := HX29.out.c1
        have b30 := HX39.out.c0
        have b31 := HX39.out.c1
        have b40 := HX49.out.c0
        have b41 := HX49.out.c1
        clear hok hex
        go_wp2_with fail
        go_loop [9] (fun i => ∃ k : Nat, k ≤ m ∧ i = .int .i64 k) (fun i => m - (intOf i).toNat)
        case atStart => exact ⟨0, Nat.zero_le _, rfl⟩
        case round =>
          obtain ⟨k, hk, rfl⟩ := hrel
          by_cases hkm : k < m
          · have hki : (k : Int) < (m : Int) := by omega
            obtain ⟨ga, gb, hA, hB, z1, z2⟩ := HROW.out k hkm
            subst hA
            subst hB
            go_wp2
            go_round
            case rel => exact ⟨k + 1, by omega, by go_num⟩
            case measure => simp [intOf]; omega
          · have hki : ¬ (k : Int) < (m : Int) := by omega
            go_wp2
            exact HQ.out _ HW9.out

set_option maxRecDepth 100000 in
theorem law_lifted (os : Os) (started : os.Started) (H : Type) (enc : TypeId × Value → H) :
    ReturnsInHanded {} Tryz.checked os 13 .any (Rows.fnPlaceFormSpec.pre6 enc Tryz.prog Tryz.f13 Rows.fnPlaceFormRow.domain false) (Rows.fnPlaceFormSpec.post enc Tryz.prog Tryz.f13 false true false false) := by
  refine returnsInHanded_of_change (C := Tryz.checked) own started (by kernel_rfl) Tryz.func13
    (ChangeSpec.witness6 (enc := enc) (C := Tryz.checked) false ⟨#[], #[.slice none 0 0], []⟩ 8 (by kernel_rfl) (by kernel_rfl) (by kernel_rfl) (by kernel_rfl)) ?_
  intro W base args ds gs before hval0 hW hcnd _
  have hval : ∀ (j : Nat) t v, Tryz.f13.params[j]? = some t → args[j]? = some v → Value.okWide Tryz.prog W .any base t v := hval0
  have hW' := hW
  obtain ⟨p, q, hA0, hV, rfl, hfz, hnd⟩ := hW
  have hA : DataW.TrodAll enc Tryz.prog W 0 (fun _ => true) true Tryz.f13.params.toList args.toList ds p := hA0
  rw [Tryz.params13] at hA hval
  obtain ⟨v0, vs0, d0, ds0, p0, q0, hargs, rfl, rfl, h0, r0⟩ := trodAll_cons hA
  obtain ⟨rfl, rfl, rfl⟩ := trodAll_nil r0
  obtain rfl : args = #[v0] := by cases args; simp_all
  obtain ⟨rfl, rfl⟩ := trodVars_none hV
  have k0 := h0
  have lt0 : ∀ x ∈ p0, x.block < W.heap.size := by obtain ⟨m, hm⟩ := k0; exact DataW.trod_lt m _ _ _ hm
  have c0 := open_code (hval 0 58 v0 rfl rfl) h0
  clear hA0 hval0
  refine law_walk v0 W c0 fun W' bel => ?_
  exact ⟨_, rfl, _, _, _, [], _, [], hW', trodAll_mk1 (shut_bool Tryz.underlying4 _), (trodAll_cons_mk (Below.trod laidOut (by kernel_rfl) (of_decide_eq_true (by kernel_rfl)) k0 bel lt0) trodAll_mk0), rfl, bel.frame _, fun h => by cases h⟩

theorem fnPlaceForm_holds : Rows.FnPlaceFormSaid :=
  OpenClaim.holds_of_wide 13 Tryz.f13 rfl rfl rfl rfl rfl rfl rfl ⟨rfl, rfl, rfl, rfl, rfl⟩ rfl rfl rfl rfl rfl (by kernel_rfl) Tryz.func13 (by kernel_rfl)
    (of_decide_eq_true (by kernel_rfl)) (by unfold Func.isWrapper; first | (rw [if_pos (by decide +kernel)]; kernel_rfl) | (rw [if_neg (by decide +kernel)]; exact ⟨rfl, rfl⟩))
    (fun os started H enc _ => law_lifted os started H enc)
#print axioms fnPlaceForm_holds
end Go.Proofs.YtpgnlbkldjdjlaaGreat
