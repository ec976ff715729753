/- What the model's PlaceLazy answers. -/
import Derived.Test.YtpgnlbkldjdjlaaGreatSpecPB
import Derived.BigRegion
namespace Go.Proofs.YtpgnlbkldjdjlaaGreat
open Go.RowKit

theorem PlaceO.rowsG {w : World} {lo hi n : Nat} {v : Value} {f t : Nat → Bool} (h : PlaceO lo hi w v ((List.range n).map f) ((List.range n).map t)) (hn : 0 < n) : ∃ g1 k1 g2 k2, v = .agg #[.slice (some ⟨g1, 0, none⟩) n k1, .slice (some ⟨g2, 0, none⟩) n k2] ∧ BoolF lo w g1 k1 n f ∧ BoolF lo w g2 k2 n t ∧ g1 ≠ g2 ∧ g1 < hi ∧ g2 < hi := by
  obtain ⟨pv, tv, e, h1, h2, ap⟩ := h
  obtain ⟨g1, k1, e1, r1⟩ := BoolF.of_row hn h1.1
  obtain ⟨g2, k2, e2, r2⟩ := BoolF.of_row hn h2.1
  subst e1
  subst e2
  exact ⟨g1, k1, g2, k2, e, r1, r2, fun e3 => ap g1 rfl (by rw [e3]; rfl), h1.2 g1 rfl, h2.2 g2 rfl⟩

set_option maxRecDepth 100000 in
set_option maxHeartbeats 4000000 in
theorem specPlaceLazy_any {Q : Ending → World → Prop} (v : Value) (ss : List St) (e : E5) (w : World) (h : StepsAt w v ss) (hl : ss.length ≤ 1048576) (hls : ∀ s ∈ ss, s.next.length ≤ 1048576)
    (hQ : ∀ v' ps ts w', Below w.heap.size w w' → PlOr IsLazy ss e ps ts → PlaceO w.heap.size w'.heap.size w' v' ps ts → Q (.returned v') w') :
    Calls Tryz.prog 36 #[.agg #[v], .agg #[.int .i64 e.op, .int .i64 e.av, .int .i64 e.an, .int .i64 e.bv, .int .i64 e.bn]] w Q := by
  have HQ : Hid _ := hQ
  clear hQ
  obtain ⟨ao, b, o, cap, rfl, ha, hc⟩ := id h
  have HH : Hid (StepsAt w (.slice ao ss.length cap) ss) := h
  have HL : Hid (∀ s ∈ ss, s.next.length ≤ 1048576) := hls
  clear ha hc h hls
  go_enter Tryz.func36, Tryz.ntmps36
  go_wp2_with fail
  have hb0 : Below w.heap.size w (((w.alloc (.cells #[.slice ao ss.length cap] 34)).alloc (.cells #[.int .i64 e.op, .int .i64 e.av, .int .i64 e.an, .int .i64 e.bv, .int .i64 e.bn] 38)).alloc (.cells #[.slice none 0 0, .slice none 0 0] 46)) := (((Below.refl _ _).alloc (Nat.le_refl _) _).alloc (by simp) _).alloc (by simp; omega) _
  have hbx := (BoxE.new w ao ss.length cap e 34 38).keep ((Below.refl _ _).alloc (Nat.le_refl _) (.cells #[.slice none 0 0, .slice none 0 0] 46))
  have hbp := BoxP.new ((w.alloc (.cells #[.slice ao ss.length cap] 34)).alloc (.cells #[.int .i64 e.op, .int .i64 e.av, .int .i64 e.an, .int .i64 e.bv, .int .i64 e.bn] 38)) (.slice none 0 0) (.slice none 0 0) 46
  rw [show ((w.alloc (.cells #[.slice ao ss.length cap] 34)).alloc (.cells #[.int .i64 e.op, .int .i64 e.av, .int .i64 e.an, .int .i64 e.bv, .int .i64 e.bn] 38)).heap.size = w.heap.size + 1 + 1 by simp] at hbp
  generalize ((w.alloc (.cells #[.slice ao ss.length cap] 34)).alloc (.cells #[.int .i64 e.op, .int .i64 e.av, .int .i64 e.an, .int .i64 e.bv, .int .i64 e.bn] 38)).alloc (.cells #[.slice none 0 0, .slice none 0 0] 46) = W0 at *
  refine l12Ok_any _ ss e _ (HH.out.keep hb0) hl HL.out fun w1 hb1 => ?_
  have HB1 : Hid (Below w.heap.size w w1) := hb0.trans (hb1.mono hb0.size)
  have HP1 : Hid (BoxP w1 (w.heap.size + 1 + 1) (.slice none 0 0) (.slice none 0 0)) := hbp.keep hb1
  have p1 := (hbx.keep hb1).p
  have c0 := HP1.out.c0
  have c1 := HP1.out.c1
  have f0 := HP1.out.f0
  have f1 := HP1.out.f1
  have hs1 : w.heap.size + 1 + 1 < w1.heap.size := HP1.out.lt
  have HQ1 : Hid (BoxE w1 w.heap.size ao ss.length cap e) := hbx.keep hb1
  clear hb0 hbx hbp hb1
  cases hok : (okB ss && exprB e)
  · have HR : Hid (PlOr IsLazy ss e [] []) := Or.inr ⟨by simpa using hok, rfl, rfl⟩
    have HBF : Hid (∀ u v, Below w.heap.size w ((w1.setCell ⟨w.heap.size + 1 + 1, 0, none⟩ u).setCell ⟨w.heap.size + 1 + 1, 1, none⟩ v)) := fun u v => (HB1.out.setCell (by show w.heap.size ≤ w.heap.size + 1 + 1; omega) u).setCell (by show w.heap.size ≤ w.heap.size + 1 + 1; omega) v
    clear hok
    go_wp2
    refine bodyPost_ret (v := .agg #[.slice none 0 0, .slice none 0 0]) (by simp [results, Tryz.results36, go_sem, c0, c1]) rfl ?_
    exact HQ.out _ _ _ _ (HBF.out _ _) HR.out (PlaceO.nil _ _ _)
  obtain ⟨hok1, hex1⟩ : okB ss = true ∧ exprB e = true := by simpa using hok
  obtain ⟨hn1, hn2⟩ := ok_len hok1
  have HOK : Hid (okB ss = true) := hok1
  have HEX : Hid (exprB e = true) := hex1
  have p1' := HQ1.out.p
  have x10 := HQ1.out.c0
  have x11 := HQ1.out.c1
  have x12 := HQ1.out.c2
  have x13 := HQ1.out.c3
  have x14 := HQ1.out.c4
  clear hok hok1 hex1 c0 c1 f0 f1 p1'
  go_wp2_with fail
  refine specSafeLate_any _ ss e _ (HH.out.keep HB1.out) hl HL.out fun v2 bs2 w2 hb2 hs2 hown2 => ?_
  obtain ⟨rr, L, hre, hL, hbs⟩ := hs2.okay HOK.out HEX.out
  have HRE : Hid (IsReach ss rr) := hre
  have HLT : Hid (IsLate ss e rr L) := hL
  subst hbs
  obtain ⟨g2, k2, hv2, hf2⟩ := BoolF.of_row hn1 hown2
  subst hv2
  have HB2 : Hid (Below w.heap.size w w2) := HB1.out.trans (hb2.mono HB1.out.size)
  have HQ2 : Hid (BoxE w2 w.heap.size ao ss.length cap e) := HQ1.out.keep hb2
  have HP2 : Hid (BoxP w2 (w.heap.size + 1 + 1) (.slice none 0 0) (.slice none 0 0)) := HP1.out.keep hb2
  have HF2 : Hid (BoolF w1.heap.size w2 g2 k2 ss.length L) := hf2
  have p2 := HQ2.out.p
  have x20 := HQ2.out.c0
  have x21 := HQ2.out.c1
  have x22 := HQ2.out.c2
  have x23 := HQ2.out.c3
  have x24 := HQ2.out.c4
  clear hb2 hs2 hown2 hre hL hf2 p1 x10 x11 x12 x13 x14
  go_wp2_with fail
  refine specSafeAlone_any _ ss e _ (HH.out.keep HB2.out) hl HL.out fun v3 bs3 w3 hb3 hs3 hown3 => ?_
  obtain ⟨ra, AL, hra, hA, hbs⟩ := hs3.okay HOK.out HEX.out
  obtain rfl := hra.unique HRE.out
  have HAL : Hid (IsAlone ss e ra AL) := hA
  subst hbs
  obtain ⟨g3, k3, hv3, hf3⟩ := BoolF.of_row hn1 hown3
  subst hv3
  have HB3 : Hid (Below w.heap.size w w3) := HB2.out.trans (hb3.mono HB2.out.size)
  have HQ3 : Hid (BoxE w3 w.heap.size ao ss.length cap e) := HQ2.out.keep hb3
  have HP3 : Hid (BoxP w3 (w.heap.size + 1 + 1) (.slice none 0 0) (.slice none 0 0)) := HP2.out.keep hb3
  have HF3 : Hid (BoolF w2.heap.size w3 g3 k3 ss.length AL) := hf3
  have HF2x3 : Hid (BoolF w1.heap.size w3 g2 k2 ss.length L) := HF2.out.keep hb3
  have p3 := HQ3.out.p
  have x30 := HQ3.out.c0
  have x31 := HQ3.out.c1
  have x32 := HQ3.out.c2
  have x33 := HQ3.out.c3
  have x34 := HQ3.out.c4
  clear hb3 hs3 hown3 hra hA hf3 p2 x20 x21 x22 x23 x24
  go_wp2_with fail
  refine specComp_u _ ss e _ (HH.out.keep HB3.out) hl HL.out fun v4 cs4 w4 hb4 hcz4 hown4 => ?_
  have hcs := hcz4.list HOK.out HEX.out
  subst hcs
  obtain ⟨g4, k4, hv4, hf4⟩ := BoolF.of_row hn1 hown4
  subst hv4
  have HB4 : Hid (Below w.heap.size w w4) := HB3.out.trans (hb4.mono HB3.out.size)
  have HQ4 : Hid (BoxE w4 w.heap.size ao ss.length cap e) := HQ3.out.keep hb4
  have HP4 : Hid (BoxP w4 (w.heap.size + 1 + 1) (.slice none 0 0) (.slice none 0 0)) := HP3.out.keep hb4
  have HF4 : Hid (BoolF w3.heap.size w4 g4 k4 ss.length (cF e ss)) := hf4
  have HF2x4 : Hid (BoolF w1.heap.size w4 g2 k2 ss.length L) := HF2x3.out.keep hb4
  have HF3x4 : Hid (BoolF w2.heap.size w4 g3 k3 ss.length AL) := HF3.out.keep hb4
  have p4 := HQ4.out.p
  have x40 := HQ4.out.c0
  have x41 := HQ4.out.c1
  have x42 := HQ4.out.c2
  have x43 := HQ4.out.c3
  have x44 := HQ4.out.c4
  clear hb4 hcz4 hown4 hf4 p3 x30 x31 x32 x33 x34
  go_wp2_with fail
  refine specReach_yes _ ss _ (HH.out.keep HB4.out) HOK.out fun v5 rs5 w5 hb5 hre5 hown5 => ?_
  obtain rfl := hre5.unique HRE.out
  obtain ⟨g5, k5, hv5, hf5⟩ : ∃ g cap, v5 = .slice (some ⟨g, 0, none⟩) ss.length cap ∧ BoolF w4.heap.size w5 g cap ss.length (rF rs5) := by
    have e1 : rs5 = (List.range ss.length).map (rF rs5) := by
      apply List.ext_getElem?
      intro i
      have hl := hre5.1
      rw [List.getElem?_map]
      by_cases hi : i < ss.length
      · rw [List.getElem?_range hi, List.getElem?_eq_getElem (by omega)]
        simp [rF, List.getD_eq_getElem?_getD, show i < rs5.length by omega]
      · rw [List.getElem?_eq_none (by omega), List.getElem?_eq_none (by simp; omega)]
        rfl
    refine BoolF.of_row hn1 ?_
    rw [← e1, hre5.1]
    exact hown5
  subst hv5
  have HB5 : Hid (Below w.heap.size w w5) := HB4.out.trans (hb5.mono HB4.out.size)
  have HQ5 : Hid (BoxE w5 w.heap.size ao ss.length cap e) := HQ4.out.keep hb5
  have HP5 : Hid (BoxP w5 (w.heap.size + 1 + 1) (.slice none 0 0) (.slice none 0 0)) := HP4.out.keep hb5
  have HF5 : Hid (BoolF w4.heap.size w5 g5 k5 ss.length (rF rs5)) := hf5
  have HF2x5 : Hid (BoolF w1.heap.size w5 g2 k2 ss.length L) := HF2x4.out.keep hb5
  have HF3x5 : Hid (BoolF w2.heap.size w5 g3 k3 ss.length AL) := HF3x4.out.keep hb5
  have HF4x5 : Hid (BoolF w3.heap.size w5 g4 k4 ss.length (cF e ss)) := HF4.out.keep hb5
  have p5 := HQ5.out.p
  have x50 := HQ5.out.c0
  have x51 := HQ5.out.c1
  have x52 := HQ5.out.c2
  have x53 := HQ5.out.c3
  have x54 := HQ5.out.c4
  clear hb5 hre5 hown5 hf5 p4 x40 x41 x42 x43 x44
  have hs5 := HB5.out.size
  have hP5 := HP5.out.lt
  go_wp2_with fail
  refine specPlaceNone_any _ ss e _ (HH.out.keep HB5.out) hl HL.out fun v6 ps6 ts6 w6 hb6 hpl6 hpo6 => ?_
  obtain ⟨f0, t0, hft, hps, hts⟩ : ∃ f t : Nat → Bool, (∀ i, f i = false ∧ t i = false) ∧ ps6 = (List.range ss.length).map f ∧ ts6 = (List.range ss.length).map t := by
    rcases hpl6 with ⟨_, _, _, f, t, _, h1, h2, h3⟩ | ⟨h1, _⟩
    · exact ⟨f, t, h1, h2, h3⟩
    · exact absurd ⟨HOK.out, HEX.out⟩ h1
  subst hps
  subst hts
  obtain ⟨ga, ka, gb, kb, hv6, ra0, rb0, hab, hah, hbh⟩ := hpo6.rowsG hn1
  subst hv6
  have HB6 : Hid (Below w.heap.size w w6) := HB5.out.trans (hb6.mono HB5.out.size)
  have hb7 : Below w6.heap.size w6 (w6.alloc (.cells #[.slice (some ⟨ga, 0, none⟩) ss.length ka, .slice (some ⟨gb, 0, none⟩) ss.length kb] 46)) := (Below.refl _ _).alloc (Nat.le_refl _) _
  have hb67 := hb6.trans (hb7.mono hb6.size)
  have HBX : Hid (BoxP (w6.alloc (.cells #[.slice (some ⟨ga, 0, none⟩) ss.length ka, .slice (some ⟨gb, 0, none⟩) ss.length kb] 46)) w6.heap.size (.slice (some ⟨ga, 0, none⟩) ss.length ka) (.slice (some ⟨gb, 0, none⟩) ss.length kb)) := BoxP.new _ _ _ _
  have HRA : Hid (BoolF w5.heap.size (w6.alloc (.cells #[.slice (some ⟨ga, 0, none⟩) ss.length ka, .slice (some ⟨gb, 0, none⟩) ss.length kb] 46)) ga ka ss.length (fun _ => false)) := (ra0.congr (fun j _ => (hft j).1.symm)).keep hb7
  have HRB : Hid (BoolF w5.heap.size (w6.alloc (.cells #[.slice (some ⟨ga, 0, none⟩) ss.length ka, .slice (some ⟨gb, 0, none⟩) ss.length kb] 46)) gb kb ss.length (fun _ => false)) := (rb0.congr (fun j _ => (hft j).2.symm)).keep hb7
  have HB7 : Hid (Below w.heap.size w (w6.alloc (.cells #[.slice (some ⟨ga, 0, none⟩) ss.length ka, .slice (some ⟨gb, 0, none⟩) ss.length kb] 46))) := HB6.out.trans (hb7.mono HB6.out.size)
  have HQ7 : Hid (BoxE (w6.alloc (.cells #[.slice (some ⟨ga, 0, none⟩) ss.length ka, .slice (some ⟨gb, 0, none⟩) ss.length kb] 46)) w.heap.size ao ss.length cap e) := HQ5.out.keep hb67
  have HP7 : Hid (BoxP (w6.alloc (.cells #[.slice (some ⟨ga, 0, none⟩) ss.length ka, .slice (some ⟨gb, 0, none⟩) ss.length kb] 46)) (w.heap.size + 1 + 1) (.slice none 0 0) (.slice none 0 0)) := HP5.out.keep hb67
  have HCC : Hid (∀ i, i < ss.length → (w6.alloc (.cells #[.slice (some ⟨ga, 0, none⟩) ss.length ka, .slice (some ⟨gb, 0, none⟩) ss.length kb] 46)).cell? ⟨g2, i, none⟩ = some (.bool (L i)) ∧ (w6.alloc (.cells #[.slice (some ⟨ga, 0, none⟩) ss.length ka, .slice (some ⟨gb, 0, none⟩) ss.length kb] 46)).cell? ⟨g3, i, none⟩ = some (.bool (AL i)) ∧ (w6.alloc (.cells #[.slice (some ⟨ga, 0, none⟩) ss.length ka, .slice (some ⟨gb, 0, none⟩) ss.length kb] 46)).cell? ⟨g4, i, none⟩ = some (.bool (cF e ss i)) ∧ (w6.alloc (.cells #[.slice (some ⟨ga, 0, none⟩) ss.length ka, .slice (some ⟨gb, 0, none⟩) ss.length kb] 46)).cell? ⟨g5, i, none⟩ = some (.bool (rF rs5 i))) := fun i hi => ⟨cell_keep hb67 (HF2x5.out.cell hi), cell_keep hb67 (HF3x5.out.cell hi), cell_keep hb67 (HF4x5.out.cell hi), cell_keep hb67 (HF5.out.cell hi)⟩
  have l2 : g2 < w5.heap.size := HF2x5.out.lt.2
  have l3 : g3 < w5.heap.size := HF3x5.out.lt.2
  have l4 : g4 < w5.heap.size := HF4x5.out.lt.2
  have l5 : g5 < w5.heap.size := HF5.out.lt.2
  have la : w5.heap.size ≤ ga := ra0.lt.1
  have lb : w5.heap.size ≤ gb := rb0.lt.1
  have s56 : w5.heap.size ≤ w6.heap.size := hb6.size
  have hz7 : w6.heap.size < (w6.alloc (.cells #[.slice (some ⟨ga, 0, none⟩) ss.length ka, .slice (some ⟨gb, 0, none⟩) ss.length kb] 46)).heap.size := by simp
  clear hb6 hb7 hb67 hpl6 hpo6 hft ra0 rb0 p5 x50 x51 x52 x53 x54 HF2 HF3 HF4 HF5 HF2x3 HF2x4 HF2x5 HF3x4 HF3x5 HF4x5
  go_upto_region 8 with fail
  generalize w6.alloc (.cells #[.slice (some ⟨ga, 0, none⟩) ss.length ka, .slice (some ⟨gb, 0, none⟩) ss.length kb] 46) = w7 at *
  go_wp2_with fail
  go_loopw [10] (fun i wr => ∃ k : Nat, k ≤ ss.length ∧ i = .int .i64 k ∧ BoolF w5.heap.size wr ga ka ss.length (fun j => if j < k then L j && !AL j else false) ∧ BoolF w5.heap.size wr gb kb ss.length (fun j => if j < k then (cF e ss j && rF rs5 j) && !(L j && AL j) else false) ∧ Out w5.heap.size w6.heap.size w7 wr) (fun i _ => ss.length - (intOf i).toNat)
  case atStart => exact ⟨0, Nat.zero_le _, rfl, HRA.out.congr fun j _ => by simp, HRB.out.congr fun j _ => by simp, Out.refl _ _ _⟩
  case round =>
    clear HRA HRB
    obtain ⟨x, hx, rfl, hba, hbb, ho⟩ := hrel
    have HA : Hid (BoolF w5.heap.size wr ga ka ss.length (fun j => if j < x then L j && !AL j else false)) := hba
    have HBb : Hid (BoolF w5.heap.size wr gb kb ss.length (fun j => if j < x then (cF e ss j && rF rs5 j) && !(L j && AL j) else false)) := hbb
    have HO : Hid (Out w5.heap.size w6.heap.size w7 wr) := ho
    clear hba hbb ho
    have cq := HO.out.cell HQ7.out.p (Or.inl (by show w.heap.size < w5.heap.size; omega))
    have b0 := HO.out.cell HBX.out.c0 (Or.inr (by show w6.heap.size ≤ w6.heap.size; omega))
    have b1 := HO.out.cell HBX.out.c1 (Or.inr (by show w6.heap.size ≤ w6.heap.size; omega))
    by_cases hxl : x < ss.length
    · have hxi : (x : Int) < (ss.length : Int) := by omega
      have ca := HA.out.cell hxl
      have fa := HA.out.frozen x
      have cb := HBb.out.cell hxl
      have fb := HBb.out.frozen x
      rw [if_neg (by omega)] at ca cb
      obtain ⟨e2, e3, e4, e5⟩ := HCC.out x hxl
      have d2 := HO.out.cell e2 (Or.inl (by show g2 < w5.heap.size; omega))
      have d3 := HO.out.cell e3 (Or.inl (by show g3 < w5.heap.size; omega))
      have d4 := HO.out.cell e4 (Or.inl (by show g4 < w5.heap.size; omega))
      have d5 := HO.out.cell e5 (Or.inl (by show g5 < w5.heap.size; omega))
      have n1 : ¬ g2 = ga := by omega
      have n2 : ¬ g3 = ga := by omega
      have n3 : ¬ g4 = ga := by omega
      have n4 : ¬ g5 = ga := by omega
      have n5 : ¬ gb = ga := fun h => hab h.symm
      have n6 : ¬ w6.heap.size = ga := by omega
      have HN : Hid (∀ p q, p = (L x && !AL x) → q = ((cF e ss x && rF rs5 x) && !(L x && AL x)) → BoolF w5.heap.size ((wr.setCell ⟨ga, x, none⟩ (.bool p)).setCell ⟨gb, x, none⟩ (.bool q)) ga ka ss.length (fun j => if j < x + 1 then L j && !AL j else false) ∧ BoolF w5.heap.size ((wr.setCell ⟨ga, x, none⟩ (.bool p)).setCell ⟨gb, x, none⟩ (.bool q)) gb kb ss.length (fun j => if j < x + 1 then (cF e ss j && rF rs5 j) && !(L j && AL j) else false) ∧ Out w5.heap.size w6.heap.size w7 ((wr.setCell ⟨ga, x, none⟩ (.bool p)).setCell ⟨gb, x, none⟩ (.bool q))) := fun p q hp hq => by
        have o1 : Out gb (gb + 1) (wr.setCell ⟨ga, x, none⟩ (.bool p)) ((wr.setCell ⟨ga, x, none⟩ (.bool p)).setCell ⟨gb, x, none⟩ (.bool q)) := (Out.refl _ _ _).setCell (p := ⟨gb, x, none⟩) (Nat.le_refl _) (Nat.lt_succ_self _) _
        have o2 : Out ga (ga + 1) wr (wr.setCell ⟨ga, x, none⟩ (.bool p)) := (Out.refl _ _ _).setCell (p := ⟨ga, x, none⟩) (Nat.le_refl _) (Nat.lt_succ_self _) _
        refine ⟨BoolF.congr (BoolF.oth (HA.out.set x p) o1 (by omega)) fun j _ => ?_, BoolF.congr ((HBb.out.oth o2 (by omega)).set x q) fun j _ => ?_, (HO.out.setCell (p := ⟨ga, x, none⟩) la hah _).setCell (p := ⟨gb, x, none⟩) lb hbh _⟩
        · by_cases a1 : j = x
          · subst a1; simp [hp]
          · by_cases a2 : j < x
            · have : j < x + 1 := by omega
              simp [a1, a2, this]
            · have : ¬ j < x + 1 := by omega
              simp [a1, a2, this]
        · by_cases a1 : j = x
          · subst a1; simp [hq]
          · by_cases a2 : j < x
            · have : j < x + 1 := by omega
              simp [a1, a2, this]
            · have : ¬ j < x + 1 := by omega
              simp [a1, a2, this]
      clear HA HBb HO e2 e3 e4 e5
      generalize L x = lx at *
      generalize AL x = ax at *
      generalize cF e ss x = cx at *
      generalize rF rs5 x = rx at *
      cases lx <;> cases ax <;> cases cx <;> cases rx
      all_goals
        go_wp2_with fail
        go_region
        all_goals
          go_wp2_with fail
          go_region
          all_goals
            go_wp2
            go_roundw
            case rel =>
              have h9 := HN.out _ _ rfl rfl
              exact ⟨x + 1, by omega, by go_num, h9.1, h9.2.1, ⟨h9.2.2.os, h9.2.2.tape, h9.2.2.output, h9.2.2.size, h9.2.2.block⟩⟩
            case measure => simp [intOf]; omega
    · have hxi : ¬ (x : Int) < (ss.length : Int) := by omega
      obtain rfl : x = ss.length := by omega
      have HAE : Hid (BoolF w5.heap.size wr ga ka ss.length (fun j => L j && !AL j)) := HA.out.congr fun j hj => by simp [hj]
      have HBE : Hid (BoolF w5.heap.size wr gb kb ss.length (fun j => (cF e ss j && rF rs5 j) && !(L j && AL j))) := HBb.out.congr fun j hj => by simp [hj]
      have hpr := HP7.out.oth HO.out (Or.inl (by omega))
      have r0 := hpr.c0
      have r1 := hpr.c1
      have r2 := hpr.f0
      have r3 := hpr.f1
      have HBW : Hid (Below w.heap.size w wr) := HB7.out.trans (HO.out.below (by omega) HB7.out.size)
      have HPL : Hid (PlOr IsLazy ss e ((List.range ss.length).map fun j => L j && !AL j) ((List.range ss.length).map fun j => (cF e ss j && rF rs5 j) && !(L j && AL j))) := Or.inl ⟨HOK.out, HEX.out, rs5, _, _, HRE.out, ⟨L, AL, HLT.out, HAL.out, fun i _ => ⟨rfl, rfl⟩⟩, rfl, rfl⟩
      have HFN : Hid (∀ u u', PlaceO w.heap.size ((wr.setCell ⟨w.heap.size + 1 + 1, 0, none⟩ u).setCell ⟨w.heap.size + 1 + 1, 1, none⟩ u').heap.size ((wr.setCell ⟨w.heap.size + 1 + 1, 0, none⟩ u).setCell ⟨w.heap.size + 1 + 1, 1, none⟩ u') (.agg #[.slice (some ⟨ga, 0, none⟩) ss.length ka, .slice (some ⟨gb, 0, none⟩) ss.length kb]) ((List.range ss.length).map fun j => L j && !AL j) ((List.range ss.length).map fun j => (cF e ss j && rF rs5 j) && !(L j && AL j)) ∧ Below w.heap.size w ((wr.setCell ⟨w.heap.size + 1 + 1, 0, none⟩ u).setCell ⟨w.heap.size + 1 + 1, 1, none⟩ u')) := fun u u' => by
        have hou : Out (w.heap.size + 1 + 1) (w.heap.size + 1 + 1 + 1) wr ((wr.setCell ⟨w.heap.size + 1 + 1, 0, none⟩ u).setCell ⟨w.heap.size + 1 + 1, 1, none⟩ u') := ((Out.refl _ _ _).setCell (p := ⟨w.heap.size + 1 + 1, 0, none⟩) (Nat.le_refl _) (Nat.lt_succ_self _) _).setCell (p := ⟨w.heap.size + 1 + 1, 1, none⟩) (Nat.le_refl _) (Nat.lt_succ_self _) _
        exact ⟨PlaceO.rowsF (HAE.out.oth hou (Or.inr (by omega))) (HBE.out.oth hou (Or.inr (by omega))) (by omega) (by omega) hab, HBW.out.trans (hou.below (by omega) HBW.out.size)⟩
      clear HA HBb HO hpr
      go_wp2
      refine bodyPost_ret (v := .agg #[.slice (some ⟨ga, 0, none⟩) ss.length ka, .slice (some ⟨gb, 0, none⟩) ss.length kb]) (by simp [results, Tryz.results36, go_sem, r0, r1]) rfl ?_
      exact HQ.out _ _ _ _ (HFN.out _ _).2 HPL.out (HFN.out _ _).1
end Go.Proofs.YtpgnlbkldjdjlaaGreat
