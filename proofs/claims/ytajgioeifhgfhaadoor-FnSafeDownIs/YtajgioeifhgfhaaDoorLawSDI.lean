/-
  For every code of bytes, of the program and the reckoning that are drawn from it, SafeDown answers as the model does, and is so just of a step that can be come to, and that reckons it, or keeps it, has steps behind, and of all these it is so, by what FlowReach, ExprComp and ExprKeeps tell: the law FnSafeDownIs answers true. The row lists one table of the library (laid), and the card ties it to the program's text: no other condition.
-/
import Derived.Test.YtajgioeifhgfhaaDoorCards
import Derived.Test.YtajgioeifhgfhaaDoorTie
import Derived.Test.YtajgioeifhgfhaaDoorDrawSD
import Derived.Test.YtajgioeifhgfhaaDoorLkB
import Derived.Test.YtajgioeifhgfhaaDoorEachPG
import Derived.Test.YtajgioeifhgfhaaDoorSpecSD
import Derived.Test.YtajgioeifhgfhaaDoorLkE
import Derived.Test.YtajgioeifhgfhaaDoorSafeT
import Derived.Test.YtajgioeifhgfhaaDoorImplReach
import Derived.OpenShut
import Derived.ShutString
import Derived.ChangeOld
import Derived.Below
import Derived.Deep.DeepHandedRow
import Derived.Lib.LaidTab
import Derived.BigQuiet
namespace Go.Proofs.YtajgioeifhgfhaaDoor
open Go.ChangeShapes Go.WideShapes Go.ChangeAt Go.RowKit

theorem own : ownKnob Tryd.prog.godebug = none := by kernel_rfl
theorem laidOut : laidOutB Tryd.prog = true := by kernel_rfl

theorem SafeOr.yes {P : List St → E5 → List Bool → (Nat → Bool) → Prop} {ss : List St} {e : E5} {bs : List Bool} (h : SafeOr P ss e bs) (hp : 0 < bs.length) : okB ss = true ∧ exprB e = true ∧ ∃ rs f, IsReach ss rs ∧ P ss e rs f ∧ bs = (List.range ss.length).map f := by
  rcases h with h | ⟨_, rfl⟩
  · exact h
  · simp at hp

theorem SafeOr.same {P : List St → E5 → List Bool → (Nat → Bool) → Prop} {ss : List St} {e : E5} {bs rs : List Bool} (h : SafeOr P ss e bs) (hok : okB ss = true) (hex : exprB e = true) (hre : IsReach ss rs) : ∃ f, P ss e rs f ∧ bs = (List.range ss.length).map f := by
  rcases h with ⟨_, _, rs', f, h1, h2, h3⟩ | ⟨h1, _⟩
  · obtain rfl := h1.unique hre
    exact ⟨f, h2, h3⟩
  · exact absurd ⟨hok, hex⟩ h1

theorem Gr.fix {n : Nat} {r : Nat → Bool} {F : (Nat → Bool) → Nat → Bool} {g : Nat → Bool} (h : Gr n r F g) (hm : Mono n F) {i : Nat} (hi : i < n) : g i = (r i && F g i) := by
  have h1 := h.fit i hi
  have h2 : r i = true → F g i = true → g i = true := fun a b => h.top (fun j => g j || decide (j = i)) (fun j hj hh => by
    simp only [Bool.or_eq_true, decide_eq_true_eq] at hh
    have hle : ∀ k, k < n → g k = true → (g k || decide (k = i)) = true := fun k _ hk => by rw [hk]; rfl
    rcases hh with hh | rfl
    · exact ⟨(h.fit j hj hh).1, hm g _ hle j hj (h.fit j hj hh).2⟩
    · exact ⟨a, hm g _ hle j hj b⟩) i hi (by simp)
  cases hr : r i <;> cases hf : F g i <;> cases hg : g i <;> simp_all

set_option maxRecDepth 100000 in
set_option maxHeartbeats 80000000 in
theorem law_walk (v : Value) (w : World) (h : CodeAt w v) (hT : ∀ W, Below w.heap.size w W → Tab W ∧ 0 < W.heap.size) {Q : Ending → World → Prop} (hQ : ∀ w', Below w.heap.size w w' → Q (.returned (.bool true)) w') :
    Calls Tryd.prog 3 #[v] w Q := by
  have HQ : Hid (∀ w', Below w.heap.size w w' → Q (.returned (.bool true)) w') := hQ
  have HTK : Hid (∀ W, Below w.heap.size w W → Tab W ∧ 0 < W.heap.size) := hT
  clear hQ hT
  have HC : Hid _ := h
  obtain ⟨ao, bb, bo, bl, cap, rfl, h1, h2, h3, h4, h5⟩ := h
  clear h3 h4 h5
  by_cases hbl : 1048576 < bl
  · go_enter Tryd.func3, Tryd.ntmps3
    go_wp2
    exact HQ.out _ (Below.refl _ _)
  go_enter Tryd.func3, Tryd.ntmps3
  go_wp2_with fail
  refine drawSafeDown_any _ _ HC.out fun v1 ss e w1 hS1 hl hls hb1 => ?_
  clear HC
  obtain ⟨A1, b1, o1, c1, rfl, hA1, hC1⟩ := id hS1
  have HS1 : Hid (StepsAt w1 (.slice A1 ss.length c1) ss) := hS1.at
  have HLS : Hid (∀ s ∈ ss, s.next.length ≤ 1048576) := fun s hs => Nat.le_trans (hls s hs) (by decide)
  have HB1 : Hid (Below w.heap.size w w1) := hb1
  clear hA1 hC1 hS1 hls hb1
  go_wp2_with fail
  have hb0 : Below w1.heap.size w1 ((w1.alloc (.cells #[.slice A1 ss.length c1] 25)).alloc (.cells #[.int .i64 e.op, .int .i64 e.av, .int .i64 e.an, .int .i64 e.bv, .int .i64 e.bn] 29)) := ((Below.refl _ _).alloc (Nat.le_refl _) _).alloc (by simp) _
  have hbx := BoxE.new w1 A1 ss.length c1 e 25 29
  generalize hW2 : (w1.alloc (.cells #[.slice A1 ss.length c1] 25)).alloc (.cells #[.int .i64 e.op, .int .i64 e.av, .int .i64 e.an, .int .i64 e.bv, .int .i64 e.bn] 29) = W2 at *
  clear hW2
  refine specSafeDown_any _ ss e _ (HS1.out.keep hb0) (by omega) HLS.out fun v2 rs w2 hb2 hrs hown2 => ?_
  have HB12 : Hid (Below w1.heap.size w1 w2) := hb0.trans (hb2.mono hb0.size)
  have HX2 : Hid (BoxE w2 w1.heap.size A1 ss.length c1 e) := hbx.keep hb2
  have HRS : Hid (SafeOr IsDown ss e rs) := hrs
  obtain ⟨A2, c2, hv2⟩ := (BoolsOwn.of hown2).slice
  subst hv2
  have HO2 : Hid (BoolsOwn W2.heap.size w2.heap.size w2 (.slice A2 rs.length c2) rs) := BoolsOwn.of hown2
  have HBW2 : Hid (Below w.heap.size w w2) := HB1.out.trans (HB12.out.mono HB1.out.size)
  have hrl : rs.length ≤ 1048576 := hrs.bound (by omega)
  have p2 := HX2.out.p
  have x20 := HX2.out.c0
  have x21 := HX2.out.c1
  have x22 := HX2.out.c2
  have x23 := HX2.out.c3
  have x24 := HX2.out.c4
  clear hb2 hrs hown2 hb0 hbx
  go_wp2_with fail
  refine implSafeDown_any _ ss e _ (HS1.out.keep HB12.out) (by omega) HLS.out fun v3 rs3 w3 hb3 hrs3 hown3 => ?_
  obtain rfl : rs3 = rs := SafeOr.unique IsDown.unique hrs3 HRS.out
  have HB13 : Hid (Below w1.heap.size w1 w3) := HB12.out.trans (hb3.mono HB12.out.size)
  have HX3 : Hid (BoxE w3 w1.heap.size A1 ss.length c1 e) := HX2.out.keep hb3
  obtain ⟨A3, c3, hv3⟩ := (BoolsOwn.of hown3).slice
  subst hv3
  have HO3 : Hid (BoolsOwn w2.heap.size w3.heap.size w3 (.slice A3 rs3.length c3) rs3) := BoolsOwn.of hown3
  have HO23 : Hid (BoolsOwn W2.heap.size w2.heap.size w3 (.slice A2 rs3.length c2) rs3) := HO2.out.keep hb3
  have p3 := HX3.out.p
  have x30 := HX3.out.c0
  have x31 := HX3.out.c1
  have x32 := HX3.out.c2
  have x33 := HX3.out.c3
  have x34 := HX3.out.c4
  clear hb3 hrs3 hown3 p2 x20 x21 x22 x23 x24 HX2 HO2 HB12 HBW2
  go_wp2_with fail
  refine lkBools_any _ _ rs3 _ _ _ _ _ HO3.out HO23.out (by omega) fun w4 hb4 => ?_
  have HB14 : Hid (Below w1.heap.size w1 w4) := HB13.out.trans (hb4.mono HB13.out.size)
  have HX4 : Hid (BoxE w4 w1.heap.size A1 ss.length c1 e) := HX3.out.keep hb4
  have HO34 : Hid (BoolsOwn w2.heap.size w3.heap.size w4 (.slice A3 rs3.length c3) rs3) := HO3.out.keep hb4
  have HO24 : Hid (BoolsOwn W2.heap.size w2.heap.size w4 (.slice A2 rs3.length c2) rs3) := HO23.out.keep hb4
  have HBW4 : Hid (Below w.heap.size w w4) := HB1.out.trans (HB14.out.mono HB1.out.size)
  have p4 := HX4.out.p
  have x40 := HX4.out.c0
  have x41 := HX4.out.c1
  have x42 := HX4.out.c2
  have x43 := HX4.out.c3
  have x44 := HX4.out.c4
  clear hb4 HX3 HO3 HO23 HB13 p3 x30 x31 x32 x33 x34
  rcases Nat.eq_zero_or_pos rs3.length with hz | hpos
  · obtain rfl : rs3 = [] := List.eq_nil_of_length_eq_zero hz
    go_wp2_with fail
    refine lkBools_any _ _ [] _ _ _ _ _ HO34.out HO24.out (by omega) fun w5 hb5 => ?_
    have HF : Hid (Below w.heap.size w w5) := HBW4.out.trans (hb5.mono HBW4.out.size)
    clear hb5
    go_wp2
    exact HQ.out _ HF.out
  have hpi : ¬ (rs3.length : Int) = 0 := by omega
  have hpi2 : ((rs3.length : Int) == 0) = false := beq_eq_false_iff_ne.2 hpi
  obtain ⟨hok, he, rr, E, hre, hE, hEe⟩ := HRS.out.yes hpos
  have hlen : rs3.length = ss.length := by rw [hEe]; simp
  have HRE : Hid (IsReach ss rr) := hre
  have HOK : Hid (okB ss = true) := hok
  have HEX : Hid (exprB e = true) := he
  clear hok he hre
  go_wp2_with fail
  refine implReach_any _ ss _ (HS1.out.keep HB14.out) (by omega) HLS.out fun v5 ts5 w5 hb5 hts5 hown5 => ?_
  have HT5 : Hid (ts5 = rr) := by
    rcases hts5 with ⟨_, h⟩ | ⟨h, _⟩
    · exact h.unique HRE.out
    · rw [HOK.out] at h; cases h
  have hl5 : ts5.length = ss.length := by rw [HT5.out]; exact HRE.out.1
  have HB15 : Hid (Below w1.heap.size w1 w5) := HB14.out.trans (hb5.mono HB14.out.size)
  have HX5 : Hid (BoxE w5 w1.heap.size A1 ss.length c1 e) := HX4.out.keep hb5
  have HU5 : Hid (BoolsOwn w2.heap.size w3.heap.size w5 (.slice A3 rs3.length c3) rs3) := HO34.out.keep hb5
  obtain ⟨A5, c5, hv5⟩ := (BoolsOwn.of hown5).slice
  subst hv5
  have HR5x5 : Hid (BoolsOwn w4.heap.size w5.heap.size w5 (.slice A5 ts5.length c5) ts5) := BoolsOwn.of hown5
  have p5 := HX5.out.p
  have x50 := HX5.out.c0
  have x51 := HX5.out.c1
  have x52 := HX5.out.c2
  have x53 := HX5.out.c3
  have x54 := HX5.out.c4
  clear hb5 hown5 hts5 HX4 p4 x40 x41 x42 x43 x44
  go_wp2_with fail
  refine implComp_u _ ss e _ (HS1.out.keep HB15.out) (HTK.out _ (HB1.out.trans (HB15.out.mono HB1.out.size))).1 (HTK.out _ (HB1.out.trans (HB15.out.mono HB1.out.size))).2 (by omega) HLS.out fun v6 ts6 w6 hb6 hts6 hown6 => ?_
  obtain ⟨hl6, hg6⟩ := hts6.get HOK.out HEX.out
  have HT6 : Hid (∀ i (hi : i < ss.length), ts6.getD i false = compB e ss[i]) := hg6
  clear hg6
  have HB16 : Hid (Below w1.heap.size w1 w6) := HB15.out.trans (hb6.mono HB15.out.size)
  have HX6 : Hid (BoxE w6 w1.heap.size A1 ss.length c1 e) := HX5.out.keep hb6
  have HU6 : Hid (BoolsOwn w2.heap.size w3.heap.size w6 (.slice A3 rs3.length c3) rs3) := HU5.out.keep hb6
  have HR5x6 : Hid (BoolsOwn w4.heap.size w5.heap.size w6 (.slice A5 ts5.length c5) ts5) := HR5x5.out.keep hb6
  obtain ⟨A6, c6, hv6⟩ := (BoolsOwn.of hown6).slice
  subst hv6
  have HR6x6 : Hid (BoolsOwn w5.heap.size w6.heap.size w6 (.slice A6 ts6.length c6) ts6) := BoolsOwn.of hown6
  have p6 := HX6.out.p
  have x60 := HX6.out.c0
  have x61 := HX6.out.c1
  have x62 := HX6.out.c2
  have x63 := HX6.out.c3
  have x64 := HX6.out.c4
  clear hb6 hown6 hts6 HX5 p5 x50 x51 x52 x53 x54
  go_wp2_with fail
  refine implKeeps_u _ ss e _ (HS1.out.keep HB16.out) (HTK.out _ (HB1.out.trans (HB16.out.mono HB1.out.size))).1 (HTK.out _ (HB1.out.trans (HB16.out.mono HB1.out.size))).2 (by omega) HLS.out fun v7 ts7 w7 hb7 hts7 hown7 => ?_
  obtain ⟨hl7, hg7⟩ := hts7.get HOK.out HEX.out
  have HT7 : Hid (∀ i (hi : i < ss.length), ts7.getD i false = keepB e ss[i]) := hg7
  clear hg7
  have HB17 : Hid (Below w1.heap.size w1 w7) := HB16.out.trans (hb7.mono HB16.out.size)
  have HX7 : Hid (BoxE w7 w1.heap.size A1 ss.length c1 e) := HX6.out.keep hb7
  have HU7 : Hid (BoolsOwn w2.heap.size w3.heap.size w7 (.slice A3 rs3.length c3) rs3) := HU6.out.keep hb7
  have HR5x7 : Hid (BoolsOwn w4.heap.size w5.heap.size w7 (.slice A5 ts5.length c5) ts5) := HR5x6.out.keep hb7
  have HR6x7 : Hid (BoolsOwn w5.heap.size w6.heap.size w7 (.slice A6 ts6.length c6) ts6) := HR6x6.out.keep hb7
  obtain ⟨A7, c7, hv7⟩ := (BoolsOwn.of hown7).slice
  subst hv7
  have HR7x7 : Hid (BoolsOwn w6.heap.size w7.heap.size w7 (.slice A7 ts7.length c7) ts7) := BoolsOwn.of hown7
  have p7 := HX7.out.p
  have x70 := HX7.out.c0
  have x71 := HX7.out.c1
  have x72 := HX7.out.c2
  have x73 := HX7.out.c3
  have x74 := HX7.out.c4
  clear hb7 hown7 hts7 HX6 p6 x60 x61 x62 x63 x64
  have HBW : Hid (Below w.heap.size w w7) := HB1.out.trans (HB17.out.mono HB1.out.size)
  obtain ⟨ao_rs3, g_rs3, cap_rs3, hv_rs3, hrow_rs3⟩ := HU7.out.read
  cases hv_rs3
  obtain rfl := (hrow_rs3 0 (by omega)).1
  obtain ⟨ao_ts5, g_ts5, cap_ts5, hv_ts5, hrow_ts5⟩ := HR5x7.out.read
  cases hv_ts5
  obtain rfl := (hrow_ts5 0 (by omega)).1
  obtain ⟨ao_ts6, g_ts6, cap_ts6, hv_ts6, hrow_ts6⟩ := HR6x7.out.read
  cases hv_ts6
  obtain rfl := (hrow_ts6 0 (by omega)).1
  obtain ⟨ao_ts7, g_ts7, cap_ts7, hv_ts7, hrow_ts7⟩ := HR7x7.out.read
  cases hv_ts7
  obtain rfl := (hrow_ts7 0 (by omega)).1
  have hget : ∀ (f : Nat → Bool) (bs : List Bool), bs = (List.range ss.length).map f → ∀ i, i < ss.length → bs.getD i false = f i := fun f bs h i hi => by
    rw [h, List.getD_eq_getElem?_getD, List.getElem?_map, List.getElem?_range hi]
    rfl
  obtain rfl : ts5 = rr := HT5.out
  have HCC : Hid (∀ i, i < ss.length → w7.cell? ⟨g_rs3, i, none⟩ = some (.bool (E i)) ∧ w7.cell? ⟨g_ts5, i, none⟩ = some (.bool (rF ts5 i)) ∧ w7.cell? ⟨g_ts6, i, none⟩ = some (.bool (cF e ss i)) ∧ w7.cell? ⟨g_ts7, i, none⟩ = some (.bool (kF e ss i))) := fun i hi => by
    have h3 := (hrow_rs3 i (by omega)).2.1
    have h5 := (hrow_ts5 i (by omega)).2.1
    have h6 := (hrow_ts6 i (by omega)).2.1
    have h7 := (hrow_ts7 i (by omega)).2.1
    rw [hget E _ hEe i hi] at h3
    rw [HT6.out i hi, ← cF_get hi] at h6
    rw [HT7.out i hi, ← kF_get hi] at h7
    exact ⟨h3, h5, h6, h7⟩
  have HFX : Hid (∀ i, i < ss.length → E i = (rF ts5 i && (cF e ss i || (kF e ss i && (decide (0 < (nextOf ss i).length) && allI (nextOf ss i) E))))) := fun i hi => Gr.fix hE (downF_mono (low_next HOK.out)) hi
  have HLW : Hid (Low ss.length (nextOf ss)) := low_next HOK.out
  try rw [hlen]
  try rw [hl5]
  try rw [hl6]
  try rw [hl7]
  have hn0 : 0 < ss.length := by omega
  have hn60 : ss.length ≤ 60 := (ok_len HOK.out).2
  obtain ⟨sao, sb, so, scap, hsv, hsa, hsc⟩ := id HS1.out
  cases hsv
  obtain rfl := hsa (by omega)
  have HSC : Hid (∀ i s, ss[i]? = some s → ∃ nv, StepCells w1 sb (so + i * 8) s nv ∧ IntsAt w1 nv s.next) := hsc
  clear hrow_rs3 hrow_ts5 hrow_ts6 hrow_ts7 hE hEe hget HT5 HT6 HT7 HU7 HR5x7 HR6x7 HR7x7 HU5 HU6 HR5x5 HR5x6 HR6x6 HO34 HO24 hsa hsc
  go_wp2_with fail
  go_loopw [10] (fun i wr => ∃ x : Nat, x ≤ ss.length ∧ i = .int .i64 x ∧ Below w7.heap.size w7 wr) (fun i _ => ss.length - (intOf i).toNat)
  case atStart => exact ⟨0, Nat.zero_le _, rfl, Below.refl _ _⟩
  case round =>
    obtain ⟨x, hx, rfl, hbr⟩ := hrel
    have HBR : Hid (Below w7.heap.size w7 wr) := hbr
    clear hbr
    by_cases hxl : x < ss.length
    · have hxi : (x : Int) < (ss.length : Int) := by omega
      obtain ⟨b3, b5, b6, b7⟩ := HCC.out x hxl
      have d3 := cell_keep HBR.out b3
      have d5 := cell_keep HBR.out b5
      have d6 := cell_keep HBR.out b6
      have d7 := cell_keep HBR.out b7
      have dp := cell_keep HBR.out HX7.out.p
      obtain ⟨nv, st, hin⟩ := HSC.out x ss[x] (List.getElem?_eq_getElem hxl)
      obtain ⟨nao, nb, no, ncap, rfl, hu1, hu2⟩ := id hin
      clear hu1 hu2
      have HBX : Hid (Below w1.heap.size w1 wr) := HB17.out.trans (HBR.out.mono HB17.out.size)
      have d8 := cell_keep HBX.out st.c7
      have HIN : Hid (IntsAt wr (.slice nao ss[x].next.length ncap) ss[x].next) := hin.keep HBX.out
      have h2 := step_many (ok_step HOK.out (List.getElem?_eq_getElem hxl))
      have HFE : Hid _ := HFX.out x hxl
      have HLX : Hid (∀ y ∈ ss[x].next, 0 ≤ y ∧ y < (ss.length : Int)) := by have := HLW.out x hxl; rw [nextOf_get hxl] at this; exact this
      have HDR : Hid (∀ j, j < ss.length → wr.cell? ⟨g_rs3, j, none⟩ = some (.bool (E j))) := fun j hj => cell_keep HBR.out (HCC.out j hj).1
      have HLK : Hid (∀ W, (∃ m, W = wr.drewN m) → Calls Tryd.prog 16 #[.slice (some ⟨g_rs3, 0, none⟩) ss.length c3, .slice nao ss[x].next.length ncap] W fun e w' => e = .returned (.bool (allI ss[x].next E)) ∧ w' = W) := fun W hW => by
        obtain ⟨m, rfl⟩ := hW
        exact lkEach_any g_rs3 ss.length c3 E _ ss[x].next _ (fun j hj => HDR.out j hj) (HIN.out.keep (below_drewN (Below.refl _ _) m)) HLX.out (by omega)
      have HFE2 : Hid (E x = (rF ts5 x && (cF e ss x || (kF e ss x && (decide (0 < ss[x].next.length) && allI ss[x].next E))))) := by have := HFE.out; rw [nextOf_get hxl] at this; exact this
      clear b3 b5 b6 b7 st hin HFE HLX HDR HIN
      obtain ⟨L, hL⟩ : ∃ b, E x = b := ⟨_, rfl⟩
      obtain ⟨D, hD⟩ : ∃ b, rF ts5 x = b := ⟨_, rfl⟩
      obtain ⟨C, hC⟩ : ∃ b, cF e ss x = b := ⟨_, rfl⟩
      obtain ⟨K, hK⟩ : ∃ b, kF e ss x = b := ⟨_, rfl⟩
      obtain ⟨al, hal⟩ : ∃ b, allI ss[x].next E = b := ⟨_, rfl⟩
      have hq := HFE2.out
      have hlk := HLK.out
      rw [hL, hD, hC, hK, hal] at hq
      rw [hL] at d3
      rw [hD] at d5
      rw [hC] at d6
      rw [hK] at d7
      rw [hal] at hlk
      have HLK2 : Hid _ := hlk
      clear hlk HLK HFE2 hL hD hC hK hal
      generalize hnl : ss[x].next.length = nl at *
      clear hnl
      generalize wr = W9 at *
      have hcs : D = false ∨ (D = true ∧ C = true) ∨ (D = true ∧ C = false ∧ K = false) ∨ (D = true ∧ C = false ∧ K = true ∧ nl = 0) ∨ (D = true ∧ C = false ∧ K = true ∧ 0 < nl ∧ decide (0 < nl) = true ∧ al = false) ∨ (D = true ∧ C = false ∧ K = true ∧ 0 < nl ∧ decide (0 < nl) = true ∧ al = true) := by
        cases D <;> cases C <;> cases K <;> cases al <;> simp <;> omega
      rcases hcs with rfl | ⟨rfl, rfl⟩ | ⟨rfl, rfl, rfl⟩ | ⟨rfl, rfl, rfl, rfl⟩ | ⟨rfl, rfl, rfl, hn1, hn2, rfl⟩ | ⟨rfl, rfl, rfl, hn1, hn2, rfl⟩
      all_goals
        try rw [hn2] at hq
        try clear hn2
        try (have hn3 : (0 : Int) < (nl : Int) := by omega)
        have hq2 := hq
        simp at hq2
        clear hq
        subst hq2
        go_wp2_with fail
        go_quiet ((go_at_call 16; exact Calls.quiet_of_same (HLK2.out _ ⟨_, rfl⟩)))
        go_wp2
        go_roundw
        case rel => exact ⟨x + 1, by omega, by go_num, below_drewN HBR.out _⟩
        case measure => simp [intOf]; omega
    · have hxi : ¬ (x : Int) < (ss.length : Int) := by omega
      obtain rfl : x = ss.length := by omega
      go_wp2
      exact HQ.out _ (HBW.out.trans (HBR.out.mono HBW.out.size))

theorem gTab : Tryd.prog.globalNamed "math/bits.deBruijn64tab" = some 0 := by kernel_rfl
theorem gTabType : (Tryd.prog.globals[0]?).map (·.type) = some 160 := by kernel_rfl

theorem tab_of_laid {W : World} (h : laidMetH Tryd.prog Rows.fnSafeDownIsRow.laid W) : Tab W := by
  have h1 := laidMetH.filter (fun x => x.1 == "math/bits.deBruijn64tab") h
  have h2 : Lib.TabIs Tryd.prog W "math/bits.deBruijn64tab" .u8 (Lib.deBruijn64tab.map Int.ofNat) := Lib.tabIs_of_head (rest := []) gTab gTabType Tryd.underlying160 Tryd.underlying5 (by kernel_rfl) (by kernel_rfl) h1
  intro j hj
  have h3 := h2.cell gTab j (by simpa using hj)
  rw [h3]
  simp only [List.getD, List.getElem?_map]
  cases Lib.deBruijn64tab[j]? <;> rfl

theorem Tab.lt {W : World} (h : Tab W) : 0 < W.heap.size := cell_lt (h 0 (by decide))

/-- The numbers of a table, as cells. -/
def tableCells : DataW Unit → Array Value
  | .agg l => (l.map fun | .lit (.int k n) => Value.int k n | _ => Value.int .i64 0).toArray
  | _ => #[]

/-- A world whose first blocks hold the library's tables. -/
def withTables (W : World) : World :=
  { W with heap := W.heap.modify 0 fun
      | .cells _ t frozen => .cells (tableCells Rows.laid_math_bits_deBruijn64tab) t frozen
      | o => o }

theorem laid_met (os : Os) : laidMet Tryd.prog Rows.fnSafeDownIsRow.laid ((withTables (World.holding Tryd.prog os ⟨#[], #[], []⟩)).forCall (fun _ _ => 0) ⟨#[], #[.slice none 0 0], []⟩).memory :=
  laidMet_of_run' 8 (by kernel_rfl) (by kernel_rfl)
theorem reads (os : Os) {H : Type} (enc : TypeId × Value → H) : ∃ places, DataW.whole enc Tryd.prog ((withTables (World.holding Tryd.prog os ⟨#[], #[], []⟩)).forCall (fun _ _ => 0) ⟨#[], #[.slice none 0 0], []⟩).memory Tryd.f3.params.toList Rows.fnSafeDownIsSpec.vars false #[Value.slice none 0 0].toList 8 = some ([.nil], [], places) :=
  ⟨[], by kernel_rfl⟩

set_option maxRecDepth 100000 in
theorem contract (H : Type) (enc : TypeId × Value → H) (W : World) (base : Nat) (args : Array Value) (ds gs : List (DataW H)) (before : List MemPlace)
    (hval : ∀ (j : Nat) t v, Tryd.f3.params[j]? = some t → args[j]? = some v → Value.okWide Tryd.prog W .any base t v)
    (hW : DataW.Whole enc Tryd.prog Tryd.f3.params.toList Rows.fnSafeDownIsSpec.vars false W args.toList ds gs before) (hL : laidMetH Tryd.prog Rows.fnSafeDownIsRow.laid W) :
    Calls Tryd.prog 3 args W fun e W' => ∃ v, e = .returned v ∧ Rows.fnSafeDownIsSpec.post enc Tryd.prog Tryd.f3 false true false false W args v W' := by
  have hW' := hW
  obtain ⟨p, q, hA0, hV, rfl, hfz, hnd⟩ := hW
  have hA : DataW.TrodAll enc Tryd.prog W 0 (fun _ => true) true Tryd.f3.params.toList args.toList ds p := hA0
  rw [Tryd.params3] at hA hval
  obtain ⟨v0, vs0, d0, ds0, p0, q0, hargs, rfl, rfl, h0, r0⟩ := trodAll_cons hA
  obtain ⟨rfl, rfl, rfl⟩ := trodAll_nil r0
  obtain rfl : args = #[v0] := by cases args; simp_all
  obtain ⟨rfl, rfl⟩ := trodVars_none hV
  have k0 := h0
  have lt0 : ∀ x ∈ p0, x.block < W.heap.size := by obtain ⟨m, hm⟩ := k0; exact DataW.trod_lt m _ _ _ hm
  have c0 := open_code (hval 0 22 v0 rfl rfl) h0
  clear hA0
  refine law_walk v0 W c0 (fun X hX => ⟨(tab_of_laid hL).keep hX, Nat.lt_of_lt_of_le (Tab.lt (tab_of_laid hL)) hX.size⟩) fun W' bel => ?_
  exact ⟨_, rfl, _, _, _, [], _, [], hW', trodAll_mk1 (shut_bool Tryd.underlying4 _), (trodAll_cons_mk (Below.trod laidOut (by kernel_rfl) (of_decide_eq_true (by kernel_rfl)) k0 bel lt0) trodAll_mk0), rfl, bel.frame _, fun h => by cases h⟩

set_option maxRecDepth 100000 in
theorem lifted (os : Os) (started : os.Started) (H : Type) (enc : TypeId × Value → H) (F : Stop.Interp) :
    ReturnsInHanded {} Tryd.checked os 3 .any ((OpenSpec.ofChange Rows.fnSafeDownIsSpec).preRow enc Tryd.prog Tryd.f3 Rows.fnSafeDownIsRow.domain false Rows.fnSafeDownIsRow.laid) (((OpenSpec.ofChange Rows.fnSafeDownIsSpec).at F).post enc Tryd.prog Tryd.f3 false true false false) := by
  obtain ⟨places, hx⟩ := reads os enc
  refine returnsInHanded_of_row (C := Tryd.checked) (s := OpenSpec.ofChange Rows.fnSafeDownIsSpec) own started (by kernel_rfl) Tryd.func3
    (witness_row_at (enc := enc) (C := Tryd.checked) false (withTables (World.holding Tryd.prog os ⟨#[], #[], []⟩)) #[.slice none 0 0] rfl (by kernel_rfl) (by kernel_rfl) (by kernel_rfl)
      (OpenSpec.preRow_of_cond 8 hx (by kernel_rfl) (fun k hk => by cases hk) (by kernel_rfl) (laid_met os))) ?_
  intro W base args ds gs before hval hW _ _ _ hL _ _
  exact contract H enc W base args ds gs before hval hW hL

theorem said : Rows.FnSafeDownIsSaid :=
  OpenClaim.holds_of_cond 3 Tryd.f3 rfl rfl rfl rfl rfl rfl rfl ⟨rfl, rfl, rfl, rfl, rfl⟩ rfl rfl rfl rfl rfl (by kernel_rfl) Tryd.func3 (by kernel_rfl)
    (of_decide_eq_true (by kernel_rfl)) (by unfold Func.isWrapper; first | (rw [if_pos (by decide +kernel)]; kernel_rfl) | (rw [if_neg (by decide +kernel)]; exact ⟨rfl, rfl⟩))
    (fun os started H enc _ F => by rw [OpenClaim.pre_eq_preRow]; exact lifted os started H enc F)

theorem plain (f : FuncId) (fn : Func) (hf : Tryd.pinned.checked.prog.funcNamed Rows.fnSafeDownIsRow.func = some f) (hfn : Tryd.pinned.checked.prog.funcs[f]? = some fn) :
    false = Tryd.pinned.checked.prog.looks [] ∧ ∀ (j : Nat) t, fn.params[j]? = some t → Tryd.pinned.checked.prog.wantsStandIn t = false := by
  obtain rfl : f = 3 := Option.some.inj ((show Tryd.prog.funcNamed Rows.fnSafeDownIsRow.func = some 3 by kernel_rfl).symm.trans hf) |>.symm
  obtain rfl : fn = Tryd.f3 := (Option.some.inj (Tryd.func3.symm.trans hfn)).symm
  refine ⟨by kernel_rfl, fun j t ht => ?_⟩
  rw [Tryd.params3] at ht
  obtain rfl : t = 22 := by simpa using Array.mem_of_getElem? ht
  exact (show Tryd.prog.wantsStandIn 22 = false by kernel_rfl)

theorem fnSafeDownIs_card : Rows.FnSafeDownIsCardSaid :=
  Claim7.holds_tied_plain_at .later [] _ _ _ _ said (fun _ h => by cases h) (by kernel_rfl) (fun _ h => by cases h) fnSafeDownIs_row_tie rfl ⟨rfl, rfl⟩ (by kernel_rfl) rfl plain (by kernel_rfl)
#print axioms fnSafeDownIs_card
end Go.Proofs.YtajgioeifhgfhaaDoor
