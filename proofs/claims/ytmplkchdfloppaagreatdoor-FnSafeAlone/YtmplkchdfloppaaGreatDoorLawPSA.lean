/-
  For every code of bytes, of the program, the reckoning and the path that are drawn from it, SafeAlone answers as the model does, and behind a latest place of the path where it is so, if the program is tidy, no step reckons it before the next latest place, by what SafeLate and ExprComp tell: the law FnSafeAlone answers true. The row lists one table of the library (laid), and the card ties it to the program's text: no other condition.
-/
import Derived.Test.YtmplkchdfloppaaGreatDoorCards
import Derived.Test.YtmplkchdfloppaaGreatDoorTie
import Derived.Test.YtmplkchdfloppaaGreatDoorDrawPBe
import Derived.Test.YtmplkchdfloppaaGreatDoorLkB
import Derived.Test.YtmplkchdfloppaaGreatDoorEachPG
import Derived.Test.YtmplkchdfloppaaGreatDoorSpecSSG
import Derived.Test.YtmplkchdfloppaaGreatDoorSpecPath
import Derived.Test.YtmplkchdfloppaaGreatDoorPathPG
import Derived.Test.YtmplkchdfloppaaGreatDoorSpecTidy
import Derived.Test.YtmplkchdfloppaaGreatDoorSafeT
import Derived.OpenShut
import Derived.ShutString
import Derived.ChangeOld
import Derived.Below
import Derived.Deep.DeepHandedRow
import Derived.Lib.LaidTab
import Derived.BigQuiet
namespace Go.Proofs.YtmplkchdfloppaaGreatDoor
open Go.ChangeShapes Go.WideShapes Go.ChangeAt Go.RowKit

theorem own : ownKnob Tryz.prog.godebug = none := by kernel_rfl
theorem laidOut : laidOutB Tryz.prog = true := by kernel_rfl

theorem SafeOr.yes {P : List St → E5 → List Bool → (Nat → Bool) → Prop} {ss : List St} {e : E5} {bs : List Bool} (h : SafeOr P ss e bs) (hp : 0 < bs.length) : okB ss = true ∧ exprB e = true ∧ ∃ rs f, IsReach ss rs ∧ P ss e rs f ∧ bs = (List.range ss.length).map f := by
  rcases h with h | ⟨_, rfl⟩
  · exact h
  · simp at hp

theorem SafeOr.same {P : List St → E5 → List Bool → (Nat → Bool) → Prop} {ss : List St} {e : E5} {bs rs : List Bool} (h : SafeOr P ss e bs) (hok : okB ss = true) (hex : exprB e = true) (hre : IsReach ss rs) : ∃ f, P ss e rs f ∧ bs = (List.range ss.length).map f := by
  rcases h with ⟨_, _, rs', f, h1, h2, h3⟩ | ⟨h1, _⟩
  · obtain rfl := h1.unique hre
    exact ⟨f, h2, h3⟩
  · exact absurd ⟨hok, hex⟩ h1

set_option maxRecDepth 100000 in
set_option maxHeartbeats 8000000 in
theorem law_walk (v : Value) (w : World) (h : CodeAt w v) (hT : ∀ W, Below w.heap.size w W → Tab W ∧ 0 < W.heap.size) {Q : Ending → World → Prop} (hQ : ∀ w', Below w.heap.size w w' → Q (.returned (.bool true)) w') :
    Calls Tryz.prog 5 #[v] w Q := by
  have HQ : Hid (∀ w', Below w.heap.size w w' → Q (.returned (.bool true)) w') := hQ
  have HTK : Hid (∀ W, Below w.heap.size w W → Tab W ∧ 0 < W.heap.size) := hT
  clear hQ hT
  have HC : Hid _ := h
  obtain ⟨ao, bb, bo, bl, cap, rfl, h1, h2, h3, h4, h5⟩ := h
  clear h3 h4 h5
  by_cases hbl : 1048576 < bl
  · go_enter Tryz.func5, Tryz.ntmps5
    go_wp2
    exact HQ.out _ (Below.refl _ _)
  go_enter Tryz.func5, Tryz.ntmps5
  go_wp2_with fail
  refine drawPathBest_any _ _ HC.out fun v1 yv ss e zs w1 hS1 hl hls hz1 hzl hb1 => ?_
  clear HC
  obtain ⟨A1, b1, o1, c1, rfl, hA1, hC1⟩ := id hS1
  obtain ⟨yo, yb, yof, ycap, rfl, _, hya, hyc⟩ := id hz1
  have HS1 : Hid (StepsAt w1 (.slice A1 ss.length c1) ss) := hS1.at
  have HLS : Hid (∀ s ∈ ss, s.next.length ≤ 1048576) := fun s hs => Nat.le_trans (hls s hs) (by decide)
  have HZ1 : Hid (IntsC w1 (.slice yo zs.length ycap) zs) := hz1
  have HB1 : Hid (Below w.heap.size w w1) := hb1
  have HYA : Hid _ := hya
  have HYC : Hid _ := hyc
  clear hA1 hC1 hS1 hls hb1 hz1 hya hyc
  go_wp2_with fail
  have hb0 : Below w1.heap.size w1 ((w1.alloc (.cells #[.slice A1 ss.length c1] 25)).alloc (.cells #[.int .i64 e.op, .int .i64 e.av, .int .i64 e.an, .int .i64 e.bv, .int .i64 e.bn] 29)) := ((Below.refl _ _).alloc (Nat.le_refl _) _).alloc (by simp) _
  have hbx := BoxE.new w1 A1 ss.length c1 e 25 29
  generalize hW2 : (w1.alloc (.cells #[.slice A1 ss.length c1] 25)).alloc (.cells #[.int .i64 e.op, .int .i64 e.av, .int .i64 e.an, .int .i64 e.bv, .int .i64 e.bn] 29) = W2 at *
  clear hW2
  refine specSafeAlone_any _ ss e _ (HS1.out.keep hb0) (by omega) HLS.out fun v2 rs w2 hb2 hrs hown2 => ?_
  have HB12 : Hid (Below w1.heap.size w1 w2) := hb0.trans (hb2.mono hb0.size)
  have HX2 : Hid (BoxE w2 w1.heap.size A1 ss.length c1 e) := hbx.keep hb2
  have HRS : Hid (SafeOr IsAlone ss e rs) := hrs
  obtain ⟨A2, c2, hv2⟩ := (BoolsOwn.of hown2).slice
  subst hv2
  have HO2 : Hid (BoolsOwn W2.heap.size w2.heap.size w2 (.slice A2 rs.length c2) rs) := BoolsOwn.of hown2
  have HBW2 : Hid (Below w.heap.size w w2) := HB1.out.trans (HB12.out.mono HB1.out.size)
  have hrl : rs.length ≤ 1048576 := hrs.bound (by omega)
  have p2 := HX2.out.p
  have x20 := HX2.out.c0
  have x21 := HX2.out.c1
  have x22 := HX2.out.c2
  have x23 := HX2.out.c3
  have x24 := HX2.out.c4
  clear hb2 hrs hown2 hb0 hbx
  go_wp2_with fail
  refine implSafeAlone_any _ ss e _ (HS1.out.keep HB12.out) (by omega) HLS.out fun v3 rs3 w3 hb3 hrs3 hown3 => ?_
  obtain rfl : rs3 = rs := SafeOr.uniqueK IsAlone.unique hrs3 HRS.out
  have HB13 : Hid (Below w1.heap.size w1 w3) := HB12.out.trans (hb3.mono HB12.out.size)
  have HX3 : Hid (BoxE w3 w1.heap.size A1 ss.length c1 e) := HX2.out.keep hb3
  obtain ⟨A3, c3, hv3⟩ := (BoolsOwn.of hown3).slice
  subst hv3
  have HO3 : Hid (BoolsOwn w2.heap.size w3.heap.size w3 (.slice A3 rs3.length c3) rs3) := BoolsOwn.of hown3
  have HO23 : Hid (BoolsOwn W2.heap.size w2.heap.size w3 (.slice A2 rs3.length c2) rs3) := HO2.out.keep hb3
  have p3 := HX3.out.p
  have x30 := HX3.out.c0
  have x31 := HX3.out.c1
  have x32 := HX3.out.c2
  have x33 := HX3.out.c3
  have x34 := HX3.out.c4
  clear hb3 hrs3 hown3 p2 x20 x21 x22 x23 x24 HX2 HO2 HB12 HBW2
  go_wp2_with fail
  refine lkBools_any _ _ rs3 _ _ _ _ _ HO3.out HO23.out (by omega) fun w4 hb4 => ?_
  have HB14 : Hid (Below w1.heap.size w1 w4) := HB13.out.trans (hb4.mono HB13.out.size)
  have HX4 : Hid (BoxE w4 w1.heap.size A1 ss.length c1 e) := HX3.out.keep hb4
  have HO34 : Hid (BoolsOwn w2.heap.size w3.heap.size w4 (.slice A3 rs3.length c3) rs3) := HO3.out.keep hb4
  have HO24 : Hid (BoolsOwn W2.heap.size w2.heap.size w4 (.slice A2 rs3.length c2) rs3) := HO23.out.keep hb4
  have HBW4 : Hid (Below w.heap.size w w4) := HB1.out.trans (HB14.out.mono HB1.out.size)
  have p4 := HX4.out.p
  have x40 := HX4.out.c0
  have x41 := HX4.out.c1
  have x42 := HX4.out.c2
  have x43 := HX4.out.c3
  have x44 := HX4.out.c4
  clear hb4 HX3 HO3 HO23 HB13 p3 x30 x31 x32 x33 x34
  rcases Nat.eq_zero_or_pos rs3.length with hz | hpos
  · obtain rfl : rs3 = [] := List.eq_nil_of_length_eq_zero hz
    go_wp2_with fail
    refine lkBools_any _ _ [] _ _ _ _ _ HO34.out HO24.out (by omega) fun w5 hb5 => ?_
    have HF : Hid (Below w.heap.size w w5) := HBW4.out.trans (hb5.mono HBW4.out.size)
    clear hb5
    go_wp2
    exact HQ.out _ HF.out
  have hpi : ¬ (rs3.length : Int) = 0 := by omega
  have hpi2 : ((rs3.length : Int) == 0) = false := beq_eq_false_iff_ne.2 hpi
  obtain ⟨hok, he, rr, E, hre, hE, hEe⟩ := HRS.out.yes hpos
  have hlen : rs3.length = ss.length := by rw [hEe]; simp
  have HRE : Hid (IsReach ss rr) := hre
  have HOK : Hid (okB ss = true) := hok
  have HEX : Hid (exprB e = true) := he
  clear hok he hre
  have hsp : ¬ (ss.length : Int) = 0 := by omega
  have hsp2 : ((ss.length : Int) == 0) = false := beq_eq_false_iff_ne.2 hsp
  have hsn : ¬ ss.length = 0 := by omega
  have HU4 : Hid (BoolsOwn w2.heap.size w3.heap.size w4 (.slice A3 rs3.length c3) rs3) := HO34.out
  have HV4 : Hid (BoolsOwn W2.heap.size w2.heap.size w4 (.slice A2 rs3.length c2) rs3) := HO24.out
  clear HO34 HO24
  go_wp2_with fail
  refine specPathOk_any _ _ ss zs _ (HS1.out.keep HB14.out) (by omega) HLS.out (HZ1.out.keep HB14.out).at (by omega) fun ok5 w5 hb5 hq5 => ?_
  have HB15 : Hid (Below w1.heap.size w1 w5) := HB14.out.trans (hb5.mono HB14.out.size)
  have HX5 : Hid (BoxE w5 w1.heap.size A1 ss.length c1 e) := HX4.out.keep hb5
  have HU5 : Hid (BoolsOwn w2.heap.size w3.heap.size w5 (.slice A3 rs3.length c3) rs3) := HU4.out.keep hb5
  have HV5 : Hid (BoolsOwn W2.heap.size w2.heap.size w5 (.slice A2 rs3.length c2) rs3) := HV4.out.keep hb5
  have HBW5 : Hid (Below w.heap.size w w5) := HB1.out.trans (HB15.out.mono HB1.out.size)
  have p5 := HX5.out.p
  have x50 := HX5.out.c0
  have x51 := HX5.out.c1
  have x52 := HX5.out.c2
  have x53 := HX5.out.c3
  have x54 := HX5.out.c4
  cases ok5
  · clear hb5 hq5 HX4 p4 x40 x41 x42 x43 x44 HU4 HV4
    go_wp2_with fail
    refine lkBools_any _ _ rs3 _ _ _ _ _ (by rw [← hlen]; exact HU5.out) (by rw [← hlen]; exact HV5.out) (by omega) fun w9 hb9 => ?_
    have HF : Hid (Below w.heap.size w w9) := HBW5.out.trans (hb9.mono HBW5.out.size)
    clear hb9
    go_wp2
    exact HQ.out _ HF.out
  have HIP : Hid (IsPath ss zs) := (hq5.1 rfl).2
  clear hb5 hq5 HX4 p4 x40 x41 x42 x43 x44 HU4 HV4 HBW4
  go_wp2_with fail
  refine specIsTidy_any _ ss _ (HS1.out.keep HB15.out) (by omega) HLS.out fun ok6 w6 hb6 hq6 => ?_
  have HB16 : Hid (Below w1.heap.size w1 w6) := HB15.out.trans (hb6.mono HB15.out.size)
  have HX6 : Hid (BoxE w6 w1.heap.size A1 ss.length c1 e) := HX5.out.keep hb6
  have HU6 : Hid (BoolsOwn w2.heap.size w3.heap.size w6 (.slice A3 rs3.length c3) rs3) := HU5.out.keep hb6
  have HV6 : Hid (BoolsOwn W2.heap.size w2.heap.size w6 (.slice A2 rs3.length c2) rs3) := HV5.out.keep hb6
  have HBW6 : Hid (Below w.heap.size w w6) := HB1.out.trans (HB16.out.mono HB1.out.size)
  have p6 := HX6.out.p
  have x60 := HX6.out.c0
  have x61 := HX6.out.c1
  have x62 := HX6.out.c2
  have x63 := HX6.out.c3
  have x64 := HX6.out.c4
  cases ok6
  · clear hb6 hq6 HX5 p5 x50 x51 x52 x53 x54 HU5 HV5
    go_wp2_with fail
    refine lkBools_any _ _ rs3 _ _ _ _ _ (by rw [← hlen]; exact HU6.out) (by rw [← hlen]; exact HV6.out) (by omega) fun w9 hb9 => ?_
    have HF : Hid (Below w.heap.size w w9) := HBW6.out.trans (hb9.mono HBW6.out.size)
    clear hb9
    go_wp2
    exact HQ.out _ HF.out
  have HTD : Hid (Tidy ss) := (hq6.1 rfl).2
  clear hb6 hq6 HX5 p5 x50 x51 x52 x53 x54 HU5 HV5 HBW5
  go_wp2_with fail
  refine implSafeLate_any _ ss e _ (HS1.out.keep HB16.out) (by omega) HLS.out fun v7 ts7 w7 hb7 hts7 hown7 => ?_
  have HT7 : Hid (∃ f, IsLate ss e rr f ∧ ts7 = (List.range ss.length).map f) := hts7.same HOK.out HEX.out HRE.out
  have hl7 : ts7.length = ss.length := by obtain ⟨_, _, h⟩ := HT7.out; rw [h]; simp
  have HB17 : Hid (Below w1.heap.size w1 w7) := HB16.out.trans (hb7.mono HB16.out.size)
  have HX7 : Hid (BoxE w7 w1.heap.size A1 ss.length c1 e) := HX6.out.keep hb7
  have HU7 : Hid (BoolsOwn w2.heap.size w3.heap.size w7 (.slice A3 rs3.length c3) rs3) := HU6.out.keep hb7
  obtain ⟨A7, c7, hv7⟩ := (BoolsOwn.of hown7).slice
  subst hv7
  have HR7x7 : Hid (BoolsOwn w6.heap.size w7.heap.size w7 (.slice A7 ts7.length c7) ts7) := BoolsOwn.of hown7
  have p7 := HX7.out.p
  have x70 := HX7.out.c0
  have x71 := HX7.out.c1
  have x72 := HX7.out.c2
  have x73 := HX7.out.c3
  have x74 := HX7.out.c4
  clear hb7 hown7 hts7 HX6 p6 x60 x61 x62 x63 x64 HU6 HV6 HBW6
  go_wp2_with fail
  refine implComp_u _ ss e _ (HS1.out.keep HB17.out) (HTK.out _ (HB1.out.trans (HB17.out.mono HB1.out.size))).1 (HTK.out _ (HB1.out.trans (HB17.out.mono HB1.out.size))).2 (by omega) HLS.out fun v8 ts8 w8 hb8 hts8 hown8 => ?_
  obtain ⟨hl8, hg8⟩ := hts8.get HOK.out HEX.out
  have HT8 : Hid (∀ i (hi : i < ss.length), ts8.getD i false = compB e ss[i]) := hg8
  clear hg8
  have HB18 : Hid (Below w1.heap.size w1 w8) := HB17.out.trans (hb8.mono HB17.out.size)
  have HX8 : Hid (BoxE w8 w1.heap.size A1 ss.length c1 e) := HX7.out.keep hb8
  have HU8 : Hid (BoolsOwn w2.heap.size w3.heap.size w8 (.slice A3 rs3.length c3) rs3) := HU7.out.keep hb8
  have HR7x8 : Hid (BoolsOwn w6.heap.size w7.heap.size w8 (.slice A7 ts7.length c7) ts7) := HR7x7.out.keep hb8
  obtain ⟨A8, c8, hv8⟩ := (BoolsOwn.of hown8).slice
  subst hv8
  have HR8x8 : Hid (BoolsOwn w7.heap.size w8.heap.size w8 (.slice A8 ts8.length c8) ts8) := BoolsOwn.of hown8
  have p8 := HX8.out.p
  have x80 := HX8.out.c0
  have x81 := HX8.out.c1
  have x82 := HX8.out.c2
  have x83 := HX8.out.c3
  have x84 := HX8.out.c4
  clear hb8 hown8 hts8 HX7 p7 x70 x71 x72 x73 x74 HU7 HR7x7
  have HBW : Hid (Below w.heap.size w w8) := HB1.out.trans (HB18.out.mono HB1.out.size)
  obtain ⟨ao_rs3, g_rs3, cap_rs3, hv_rs3, hrow_rs3⟩ := HU8.out.read
  cases hv_rs3
  obtain rfl := (hrow_rs3 0 (by omega)).1
  obtain ⟨ao_ts7, g_ts7, cap_ts7, hv_ts7, hrow_ts7⟩ := HR7x8.out.read
  cases hv_ts7
  obtain rfl := (hrow_ts7 0 (by omega)).1
  obtain ⟨ao_ts8, g_ts8, cap_ts8, hv_ts8, hrow_ts8⟩ := HR8x8.out.read
  cases hv_ts8
  obtain rfl := (hrow_ts8 0 (by omega)).1
  have hget : ∀ (f : Nat → Bool) (bs : List Bool), bs = (List.range ss.length).map f → ∀ i, i < ss.length → bs.getD i false = f i := fun f bs h i hi => by
    rw [h, List.getD_eq_getElem?_getD, List.getElem?_map, List.getElem?_range hi]
    rfl
  obtain ⟨LA, hLA, hLAe⟩ := HT7.out
  have HCC : Hid (∀ i, i < ss.length → w8.cell? ⟨g_rs3, i, none⟩ = some (.bool (E i)) ∧ w8.cell? ⟨g_ts7, i, none⟩ = some (.bool (LA i)) ∧ w8.cell? ⟨g_ts8, i, none⟩ = some (.bool (cF e ss i))) := fun i hi => by
    have h3 := (hrow_rs3 i (by omega)).2.1
    have h7 := (hrow_ts7 i (by omega)).2.1
    have h8 := (hrow_ts8 i (by omega)).2.1
    rw [hget E _ hEe i hi] at h3
    rw [hget LA _ hLAe i hi] at h7
    rw [HT8.out i hi, ← cF_get hi] at h8
    exact ⟨h3, h7, h8⟩
  have HON : Hid (∀ k, k + 1 < zs.length → E (onP zs k) = true → LA (onP zs (k + 1)) = false → cF e ss (onP zs (k + 1)) = false ∧ E (onP zs (k + 1)) = true) := fun k hk h1 h2 => IsAlone.on HOK.out hE hLA HIP.out hk h1 h2
  have HPC : Hid (∀ i, i < zs.length → w8.cell? ⟨yb, yof + i, none⟩ = some (.int .i64 (onP zs i : Int)) ∧ (onP zs i : Int) < (ss.length : Int) ∧ onP zs i < ss.length) := fun i hi => by
    have h1 := cell_keep HB18.out (HYC.out i hi)
    obtain ⟨h2, h3⟩ := HIP.out.at HOK.out hi
    rw [h2] at h1
    exact ⟨h1, by omega, h3⟩
  have hn0 : 0 < ss.length := by omega
  have hn60 : ss.length ≤ 60 := (ok_len HOK.out).2
  obtain ⟨hz0, _⟩ := HIP.out.first
  obtain rfl := HYA.out hz0
  try rw [hlen]
  try rw [hl7]
  try rw [hl8]
  clear hget hrow_rs3 hrow_ts7 hrow_ts8 hE hEe
  clear hLA hLAe HT7 HT8
  go_wp2_with fail
  go_loop [10, 11] (fun i _ => ∃ x : Nat, x ≤ zs.length ∧ i = .int .i64 x) (fun i _ => zs.length - (intOf i).toNat)
  case atStart => exact ⟨0, Nat.zero_le _, rfl⟩
  case round =>
    obtain ⟨x, hx, rfl⟩ := hrel
    by_cases hxl : x < zs.length
    · have hxi : (x : Int) < (zs.length : Int) := by omega
      obtain ⟨cx, hai, hal⟩ := HPC.out x hxl
      obtain ⟨d3, d7, _⟩ := HCC.out _ hal
      obtain ⟨L, hL⟩ : ∃ b, LA (onP zs x) = b := ⟨_, rfl⟩
      obtain ⟨S, hS⟩ : ∃ b, E (onP zs x) = b := ⟨_, rfl⟩
      rw [hL] at d7
      rw [hS] at d3
      have HES : Hid (E (onP zs x) = S) := hS
      clear hL hS
      have hcs : L = false ∨ (L = true ∧ S = false) ∨ (L = true ∧ S = true) := by cases L <;> cases S <;> simp
      rcases hcs with rfl | ⟨rfl, rfl⟩ | ⟨rfl, rfl⟩
      · go_wp2
        go_round
        case rel => exact ⟨x + 1, by omega, by go_num⟩
        case measure => simp [intOf]; omega
      · go_wp2
        go_round
        case rel => exact ⟨x + 1, by omega, by go_num⟩
        case measure => simp [intOf]; omega
      · go_wp2_with fail
        go_loop [11] (fun i => ∃ m : Nat, m < zs.length ∧ i = .int .i64 ((m + 1 : Nat) : Int) ∧ E (onP zs m) = true) (fun i => zs.length - (intOf i).toNat)
        case atStart => exact ⟨x, hxl, by go_num, HES.out⟩
        case round =>
          obtain ⟨m, hml, rfl, hem⟩ := hrel
          by_cases hm1 : m + 1 < zs.length
          · have hmi : ((m + 1 : Nat) : Int) < (zs.length : Int) := by omega
            obtain ⟨cm, hbi, hbl⟩ := HPC.out (m + 1) hm1
            obtain ⟨_, e7, e8⟩ := HCC.out _ hbl
            obtain ⟨M, hM⟩ : ∃ b, LA (onP zs (m + 1)) = b := ⟨_, rfl⟩
            have hon := HON.out m hm1 hem
            rw [hM] at e7 hon
            clear hM hem
            cases M
            · obtain ⟨h1, h2⟩ := hon rfl
              rw [h1] at e8
              have HN : Hid _ := h2
              clear h1 h2 hon
              generalize m + 1 = q at *
              go_wp2
              go_round
              case rel => exact ⟨q, hm1, by go_num, HN.out⟩
              case measure => first | (simp [intOf]; done) | (simp [intOf]; omega)
            · clear hon
              generalize m + 1 = q at *
              go_wp2
              go_round
              case rel => exact ⟨x + 1, by omega, by go_num⟩
              case measure => simp [intOf]; omega
          · have hmi : ¬ ((m + 1 : Nat) : Int) < (zs.length : Int) := by omega
            clear hem
            generalize m + 1 = q at *
            go_wp2
            go_round
            case rel => exact ⟨x + 1, by omega, by go_num⟩
            case measure => simp [intOf]; omega
    · have hxi : ¬ (x : Int) < (zs.length : Int) := by omega
      go_wp2
      exact HQ.out _ HBW.out

theorem gTab : Tryz.prog.globalNamed "math/bits.deBruijn64tab" = some 0 := by kernel_rfl
theorem gTabType : (Tryz.prog.globals[0]?).map (·.type) = some 144 := by kernel_rfl

theorem tab_of_laid {W : World} (h : laidMetH Tryz.prog Rows.fnSafeAloneRow.laid W) : Tab W := by
  have h1 := laidMetH.filter (fun x => x.1 == "math/bits.deBruijn64tab") h
  have h2 : Lib.TabIs Tryz.prog W "math/bits.deBruijn64tab" .u8 (Lib.deBruijn64tab.map Int.ofNat) := Lib.tabIs_of_head (rest := []) gTab gTabType Tryz.underlying144 Tryz.underlying5 (by kernel_rfl) (by kernel_rfl) h1
  intro j hj
  have h3 := h2.cell gTab j (by simpa using hj)
  rw [h3]
  simp only [List.getD, List.getElem?_map]
  cases Lib.deBruijn64tab[j]? <;> rfl

theorem Tab.lt {W : World} (h : Tab W) : 0 < W.heap.size := cell_lt (h 0 (by decide))

/-- The numbers of a table, as cells. -/
def tableCells : DataW Unit → Array Value
  | .agg l => (l.map fun | .lit (.int k n) => Value.int k n | _ => Value.int .i64 0).toArray
  | _ => #[]

/-- A world whose first blocks hold the library's tables. -/
def withTables (W : World) : World :=
  { W with heap := W.heap.modify 0 fun
      | .cells _ t frozen => .cells (tableCells Rows.laid_math_bits_deBruijn64tab) t frozen
      | o => o }

theorem laid_met (os : Os) : laidMet Tryz.prog Rows.fnSafeAloneRow.laid ((withTables (World.holding Tryz.prog os ⟨#[], #[], []⟩)).forCall (fun _ _ => 0) ⟨#[], #[.slice none 0 0], []⟩).memory :=
  laidMet_of_run' 8 (by kernel_rfl) (by kernel_rfl)
theorem reads (os : Os) {H : Type} (enc : TypeId × Value → H) : ∃ places, DataW.whole enc Tryz.prog ((withTables (World.holding Tryz.prog os ⟨#[], #[], []⟩)).forCall (fun _ _ => 0) ⟨#[], #[.slice none 0 0], []⟩).memory Tryz.f5.params.toList Rows.fnSafeAloneSpec.vars false #[Value.slice none 0 0].toList 8 = some ([.nil], [], places) :=
  ⟨[], by kernel_rfl⟩

set_option maxRecDepth 100000 in
theorem contract (H : Type) (enc : TypeId × Value → H) (W : World) (base : Nat) (args : Array Value) (ds gs : List (DataW H)) (before : List MemPlace)
    (hval : ∀ (j : Nat) t v, Tryz.f5.params[j]? = some t → args[j]? = some v → Value.okWide Tryz.prog W .any base t v)
    (hW : DataW.Whole enc Tryz.prog Tryz.f5.params.toList Rows.fnSafeAloneSpec.vars false W args.toList ds gs before) (hL : laidMetH Tryz.prog Rows.fnSafeAloneRow.laid W) :
    Calls Tryz.prog 5 args W fun e W' => ∃ v, e = .returned v ∧ Rows.fnSafeAloneSpec.post enc Tryz.prog Tryz.f5 false true false false W args v W' := by
  have hW' := hW
  obtain ⟨p, q, hA0, hV, rfl, hfz, hnd⟩ := hW
  have hA : DataW.TrodAll enc Tryz.prog W 0 (fun _ => true) true Tryz.f5.params.toList args.toList ds p := hA0
  rw [Tryz.params5] at hA hval
  obtain ⟨v0, vs0, d0, ds0, p0, q0, hargs, rfl, rfl, h0, r0⟩ := trodAll_cons hA
  obtain ⟨rfl, rfl, rfl⟩ := trodAll_nil r0
  obtain rfl : args = #[v0] := by cases args; simp_all
  obtain ⟨rfl, rfl⟩ := trodVars_none hV
  have k0 := h0
  have lt0 : ∀ x ∈ p0, x.block < W.heap.size := by obtain ⟨m, hm⟩ := k0; exact DataW.trod_lt m _ _ _ hm
  have c0 := open_code (hval 0 22 v0 rfl rfl) h0
  clear hA0
  refine law_walk v0 W c0 (fun X hX => ⟨(tab_of_laid hL).keep hX, Nat.lt_of_lt_of_le (Tab.lt (tab_of_laid hL)) hX.size⟩) fun W' bel => ?_
  exact ⟨_, rfl, _, _, _, [], _, [], hW', trodAll_mk1 (shut_bool Tryz.underlying4 _), (trodAll_cons_mk (Below.trod laidOut (by kernel_rfl) (of_decide_eq_true (by kernel_rfl)) k0 bel lt0) trodAll_mk0), rfl, bel.frame _, fun h => by cases h⟩

set_option maxRecDepth 100000 in
theorem lifted (os : Os) (started : os.Started) (H : Type) (enc : TypeId × Value → H) (F : Stop.Interp) :
    ReturnsInHanded {} Tryz.checked os 5 .any ((OpenSpec.ofChange Rows.fnSafeAloneSpec).preRow enc Tryz.prog Tryz.f5 Rows.fnSafeAloneRow.domain false Rows.fnSafeAloneRow.laid) (((OpenSpec.ofChange Rows.fnSafeAloneSpec).at F).post enc Tryz.prog Tryz.f5 false true false false) := by
  obtain ⟨places, hx⟩ := reads os enc
  refine returnsInHanded_of_row (C := Tryz.checked) (s := OpenSpec.ofChange Rows.fnSafeAloneSpec) own started (by kernel_rfl) Tryz.func5
    (witness_row_at (enc := enc) (C := Tryz.checked) false (withTables (World.holding Tryz.prog os ⟨#[], #[], []⟩)) #[.slice none 0 0] rfl (by kernel_rfl) (by kernel_rfl) (by kernel_rfl)
      (OpenSpec.preRow_of_cond 8 hx (by kernel_rfl) (fun k hk => by cases hk) (by kernel_rfl) (laid_met os))) ?_
  intro W base args ds gs before hval hW _ _ _ hL _ _
  exact contract H enc W base args ds gs before hval hW hL

theorem said : Rows.FnSafeAloneSaid :=
  OpenClaim.holds_of_cond 5 Tryz.f5 rfl rfl rfl rfl rfl rfl rfl ⟨rfl, rfl, rfl, rfl, rfl⟩ rfl rfl rfl rfl rfl (by kernel_rfl) Tryz.func5 (by kernel_rfl)
    (of_decide_eq_true (by kernel_rfl)) (by unfold Func.isWrapper; first | (rw [if_pos (by decide +kernel)]; kernel_rfl) | (rw [if_neg (by decide +kernel)]; exact ⟨rfl, rfl⟩))
    (fun os started H enc _ F => by rw [OpenClaim.pre_eq_preRow]; exact lifted os started H enc F)

theorem plain (f : FuncId) (fn : Func) (hf : Tryz.pinned.checked.prog.funcNamed Rows.fnSafeAloneRow.func = some f) (hfn : Tryz.pinned.checked.prog.funcs[f]? = some fn) :
    false = Tryz.pinned.checked.prog.looks [] ∧ ∀ (j : Nat) t, fn.params[j]? = some t → Tryz.pinned.checked.prog.wantsStandIn t = false := by
  obtain rfl : f = 5 := Option.some.inj ((show Tryz.prog.funcNamed Rows.fnSafeAloneRow.func = some 5 by kernel_rfl).symm.trans hf) |>.symm
  obtain rfl : fn = Tryz.f5 := (Option.some.inj (Tryz.func5.symm.trans hfn)).symm
  refine ⟨by kernel_rfl, fun j t ht => ?_⟩
  rw [Tryz.params5] at ht
  obtain rfl : t = 22 := by simpa using Array.mem_of_getElem? ht
  exact (show Tryz.prog.wantsStandIn 22 = false by kernel_rfl)

theorem fnSafeAlone_card : Rows.FnSafeAloneCardSaid :=
  Claim7.holds_tied_plain_at .later [] _ _ _ _ said (fun _ h => by cases h) (by kernel_rfl) (fun _ h => by cases h) fnSafeAlone_row_tie rfl ⟨rfl, rfl⟩ (by kernel_rfl) rfl plain (by kernel_rfl)
#print axioms fnSafeAlone_card
end Go.Proofs.YtmplkchdfloppaaGreatDoor
