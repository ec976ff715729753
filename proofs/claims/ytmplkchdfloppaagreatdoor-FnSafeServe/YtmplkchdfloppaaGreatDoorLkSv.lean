/- The laws' lkServed: ahead of each place of a path that reckons it is a place of a row, and all between keep it, if some P is so of places that reckon it, and goes back on the path, kept, as long as the row is not so. -/
import Derived.Test.YtmplkchdfloppaaGreatDoorPathPG
import Derived.Test.YtmplkchdfloppaaGreatDoorEachPG
import Derived.Test.YtmplkchdfloppaaGreatDoorBoxU
namespace Go.Proofs.YtmplkchdfloppaaGreatDoor
open Go.RowKit

set_option maxRecDepth 100000 in
set_option maxHeartbeats 16000000 in
theorem lkServed_any {Q : Ending → World → Prop} (A1 : Option Addr) (c1 : Nat) (ss : List St) (e : E5) (yo : Option Addr) (yc : Nat) (zs : List Int) (g n cap : Nat) (f : Nat → Bool) (P : Nat → Prop) (w : World)
    (hS : StepsAt w (.slice A1 ss.length c1) ss) (hT : ∀ W, Below w.heap.size w W → Tab W ∧ 0 < W.heap.size) (hl : ss.length ≤ 61) (hls : ∀ s ∈ ss, s.next.length ≤ 1048576)
    (hok : okB ss = true) (hex : exprB e = true) (hp : IsPath ss zs) (hz : IntsAt w (.slice yo zs.length yc) zs) (hzl : zs.length ≤ 201) (hn : n = ss.length) (hf : ∀ i, i < ss.length → w.cell? ⟨g, i, none⟩ = some (.bool (f i)))
    (hP0 : ∀ k, k < zs.length → cF e ss (onP zs k) = true → P k) (hPs : ∀ k, k < zs.length → P k → f (onP zs k) = false → ∃ m, k = m + 1 ∧ kF e ss (onP zs m) = true ∧ P m)
    (hQ : ∀ w', Below w.heap.size w w' → Q (.returned (.bool true)) w') :
    Calls Tryz.prog 12 #[.agg #[.slice A1 ss.length c1], .agg #[.int .i64 e.op, .int .i64 e.av, .int .i64 e.an, .int .i64 e.bv, .int .i64 e.bn], .slice yo zs.length yc, .slice (some ⟨g, 0, none⟩) n cap] w Q := by
  have HQ : Hid _ := hQ
  have HTK : Hid (∀ W, Below w.heap.size w W → Tab W ∧ 0 < W.heap.size) := hT
  have HS1 : Hid (StepsAt w (.slice A1 ss.length c1) ss) := hS
  have HLS : Hid _ := hls
  have HOK : Hid (okB ss = true) := hok
  have HEX : Hid (exprB e = true) := hex
  have HIP : Hid (IsPath ss zs) := hp
  have HP0 : Hid _ := hP0
  have HPS : Hid (∀ k, k < zs.length → P k → f (onP zs k) = false → ∃ m, k = m + 1 ∧ kF e ss (onP zs m) = true ∧ P m) := hPs
  have HFC : Hid (∀ i, i < ss.length → w.cell? ⟨g, i, none⟩ = some (.bool (f i))) := hf
  have HLN : Hid (n = ss.length) := hn
  obtain ⟨yo', yb, yof, ycap, hyv, hya, hyc⟩ := hz
  cases hyv
  obtain ⟨hz0, _⟩ := hp.first
  obtain rfl := hya hz0
  have HYC : Hid (∀ i, i < zs.length → w.cell? ⟨yb, yof + i, none⟩ = some (.int .i64 (zs.getD i 0))) := hyc
  clear hQ hT hS hls hok hex hp hP0 hPs hf hn hya hyc
  go_enter Tryz.func12, Tryz.ntmps12
  go_wp2_with fail
  have hb0 : Below w.heap.size w ((w.alloc (.cells #[.slice A1 ss.length c1] 25)).alloc (.cells #[.int .i64 e.op, .int .i64 e.av, .int .i64 e.an, .int .i64 e.bv, .int .i64 e.bn] 29)) := ((Below.refl _ _).alloc (Nat.le_refl _) _).alloc (by simp) _
  have hbx := BoxE.new w A1 ss.length c1 e 25 29
  generalize hW2 : (w.alloc (.cells #[.slice A1 ss.length c1] 25)).alloc (.cells #[.int .i64 e.op, .int .i64 e.av, .int .i64 e.an, .int .i64 e.bv, .int .i64 e.bn] 29) = W2 at *
  clear hW2
  refine implComp_u _ ss e _ (HS1.out.keep hb0) (HTK.out _ hb0).1 (HTK.out _ hb0).2 (by omega) HLS.out fun v6 ts6 w6 hb6 hts6 hown6 => ?_
  obtain ⟨hl6, hg6⟩ := hts6.get HOK.out HEX.out
  have HT6 : Hid (∀ i (hi : i < ss.length), ts6.getD i false = compB e ss[i]) := hg6
  have HB6 : Hid (Below w.heap.size w w6) := hb0.trans (hb6.mono hb0.size)
  have HX6 : Hid (BoxE w6 w.heap.size A1 ss.length c1 e) := hbx.keep hb6
  obtain ⟨A6, c6, hv6⟩ := (BoolsOwn.of hown6).slice
  subst hv6
  have HR6 : Hid (BoolsOwn W2.heap.size w6.heap.size w6 (.slice A6 ts6.length c6) ts6) := BoolsOwn.of hown6
  have p6 := HX6.out.p
  have x60 := HX6.out.c0
  have x61 := HX6.out.c1
  have x62 := HX6.out.c2
  have x63 := HX6.out.c3
  have x64 := HX6.out.c4
  clear hb6 hown6 hts6 hg6 hb0 hbx
  go_wp2_with fail
  refine implKeeps_u _ ss e _ (HS1.out.keep HB6.out) (HTK.out _ HB6.out).1 (HTK.out _ HB6.out).2 (by omega) HLS.out fun v7 ts7 w7 hb7 hts7 hown7 => ?_
  obtain ⟨hl7, hg7⟩ := hts7.get HOK.out HEX.out
  have HT7 : Hid (∀ i (hi : i < ss.length), ts7.getD i false = keepB e ss[i]) := hg7
  have HB7 : Hid (Below w.heap.size w w7) := HB6.out.trans (hb7.mono HB6.out.size)
  have HR6x7 : Hid (BoolsOwn W2.heap.size w6.heap.size w7 (.slice A6 ts6.length c6) ts6) := HR6.out.keep hb7
  obtain ⟨A7, c7, hv7⟩ := (BoolsOwn.of hown7).slice
  subst hv7
  have HR7 : Hid (BoolsOwn w6.heap.size w7.heap.size w7 (.slice A7 ts7.length c7) ts7) := BoolsOwn.of hown7
  clear hb7 hown7 hts7 hg7 HX6 p6 x60 x61 x62 x63 x64
  obtain ⟨ao_ts6, g_ts6, cap_ts6, hv_ts6, hrow_ts6⟩ := HR6x7.out.read
  cases hv_ts6
  have hn0 : 0 < ss.length := by have := (ok_len HOK.out).1; omega
  obtain rfl := (hrow_ts6 0 (by omega)).1
  obtain ⟨ao_ts7, g_ts7, cap_ts7, hv_ts7, hrow_ts7⟩ := HR7.out.read
  cases hv_ts7
  obtain rfl := (hrow_ts7 0 (by omega)).1
  have HCC : Hid (∀ i, i < ss.length → w7.cell? ⟨g, i, none⟩ = some (.bool (f i)) ∧ w7.cell? ⟨g_ts6, i, none⟩ = some (.bool (cF e ss i)) ∧ w7.cell? ⟨g_ts7, i, none⟩ = some (.bool (kF e ss i))) := fun i hi => by
    have h3 := cell_keep HB7.out (HFC.out i hi)
    have h6 := (hrow_ts6 i (by omega)).2.1
    have h7 := (hrow_ts7 i (by omega)).2.1
    rw [HT6.out i hi, ← cF_get hi] at h6
    rw [HT7.out i hi, ← kF_get hi] at h7
    exact ⟨h3, h6, h7⟩
  have HPC : Hid (∀ i, i < zs.length → w7.cell? ⟨yb, yof + i, none⟩ = some (.int .i64 (onP zs i : Int)) ∧ (onP zs i : Int) < (ss.length : Int) ∧ onP zs i < ss.length) := fun i hi => by
    have h1 := cell_keep HB7.out (HYC.out i hi)
    obtain ⟨h2, h3⟩ := HIP.out.at HOK.out hi
    rw [h2] at h1
    exact ⟨h1, by omega, h3⟩
  try rw [hl6]
  try rw [hl7]
  rw [HLN.out]
  clear hrow_ts6 hrow_ts7 HT6 HT7 HR6 HR7 HR6x7 hl6 hl7 HLN
  go_wp2_with fail
  go_loop [11, 12] (fun i _ => ∃ x : Nat, x ≤ zs.length ∧ i = .int .i64 x) (fun i _ => zs.length - (intOf i).toNat)
  case atStart => exact ⟨0, Nat.zero_le _, rfl⟩
  case round =>
    obtain ⟨x, hx, rfl⟩ := hrel
    by_cases hxl : x < zs.length
    · have hxi : (x : Int) < (zs.length : Int) := by omega
      obtain ⟨cx, hai, hal⟩ := HPC.out x hxl
      obtain ⟨_, dx, _⟩ := HCC.out _ hal
      obtain ⟨C, hC⟩ : ∃ b, cF e ss (onP zs x) = b := ⟨_, rfl⟩
      rw [hC] at dx
      cases C
      · clear hC
        go_wp2
        go_round
        case rel => exact ⟨x + 1, by omega, by go_num⟩
        case measure => simp [intOf]; omega
      · have HPX : Hid (P x) := HP0.out x hxl hC
        clear hC
        go_wp2_with fail
        go_loop [12] (fun i => ∃ k : Nat, k < zs.length ∧ i = .int .i64 k ∧ P k) (fun i => (intOf i).toNat)
        case atStart => exact ⟨x, hxl, rfl, HPX.out⟩
        case round =>
          obtain ⟨k, hkl, rfl, hpk⟩ := hrel
          have hki : (k : Int) < (zs.length : Int) := by omega
          obtain ⟨ck, hbi, hbl⟩ := HPC.out k hkl
          obtain ⟨e3, _, _⟩ := HCC.out _ hbl
          obtain ⟨F, hF⟩ : ∃ b, f (onP zs k) = b := ⟨_, rfl⟩
          rw [hF] at e3
          cases F
          · obtain ⟨m, rfl, hk1, hpm⟩ := HPS.out k hkl hpk hF
            have HPM : Hid (P m) := hpm
            obtain ⟨cm, hmi, hml⟩ := HPC.out m (by omega)
            obtain ⟨_, _, e7⟩ := HCC.out _ hml
            rw [hk1] at e7
            have hwr : IntKind.i64.wrap (((m + 1 : Nat) : Int) - 1) = (m : Int) := by simp [IntKind.wrap, IntKind.bits, IntKind.signed]; omega
            have hm0 : ¬ (m : Int) < 0 := by omega
            have hmz : (m : Int) < (zs.length : Int) := by omega
            clear hpk hF hk1 hpm
            go_wp2
            go_round
            case rel => exact ⟨m, by omega, by first | rfl | go_num, HPM.out⟩
            case measure => first | (simp [intOf]; done) | (simp [intOf]; omega)
          · clear hF hpk
            go_wp2
            go_round
            case rel => exact ⟨x + 1, by omega, by go_num⟩
            case measure => simp [intOf]; omega
    · have hxi : ¬ (x : Int) < (zs.length : Int) := by omega
      go_wp2
      exact HQ.out _ HB7.out
end Go.Proofs.YtmplkchdfloppaaGreatDoor
