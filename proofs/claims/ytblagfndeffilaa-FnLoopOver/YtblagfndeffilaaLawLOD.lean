/-
  For every code of bytes, of the program that is drawn from it, what LoopOver tells of a step stands on each way to it, and all others that do stand over that, by what FlowDoms tells; and it is as the model tells it: the law FnLoopOver answers true. No condition.
-/
import Derived.Test.YtblagfndeffilaaRows
import Derived.Test.YtblagfndeffilaaDrawLO
import Derived.Test.YtblagfndeffilaaLkI
import Derived.Test.YtblagfndeffilaaMatR
import Derived.Test.YtblagfndeffilaaSpecLO
import Derived.Test.YtblagfndeffilaaImplLO
import Derived.Test.YtblagfndeffilaaImplDoms
import Derived.OpenShut
import Derived.ShutString
import Derived.ChangeOld
import Derived.Below
namespace Go.Proofs.Ytblagfndeffilaa
open Go.ChangeShapes Go.WideShapes Go.ChangeAt Go.RowKit

theorem own : ownKnob Try.prog.godebug = none := by kernel_rfl
theorem laidOut : laidOutB Try.prog = true := by kernel_rfl

set_option maxRecDepth 100000 in
set_option maxHeartbeats 8000000 in
theorem law_walk (v : Value) (w : World) (h : CodeAt w v) {Q : Ending → World → Prop} (hQ : ∀ w', Below w.heap.size w w' → Q (.returned (.bool true)) w') :
    Calls Try.prog 9 #[v] w Q := by
  have HQ : Hid (∀ w', Below w.heap.size w w' → Q (.returned (.bool true)) w') := hQ
  clear hQ
  have HC : Hid _ := h
  obtain ⟨ao, bb, bo, bl, cap, rfl, h1, h2, h3, h4, h5⟩ := h
  clear h3 h4 h5
  by_cases hbl : 1048576 < bl
  · go_enter Try.func9, Try.ntmps9
    go_wp2
    exact HQ.out _ (Below.refl _ _)
  go_enter Try.func9, Try.ntmps9
  go_wp2_with fail
  refine drawLoopOver_any _ _ HC.out fun v1 ss w1 hS1 hl hls hb1 => ?_
  clear HC
  obtain ⟨A1, b1, o1, c1, rfl, hA1, hC1⟩ := id hS1
  have HS1 : Hid (StepsAt w1 (.slice A1 ss.length c1) ss) := hS1.at
  have HLS : Hid (∀ s ∈ ss, s.next.length ≤ 1048576) := fun s hs => Nat.le_trans (hls s hs) (by decide)
  have HB1 : Hid (Below w.heap.size w w1) := hb1
  clear hA1 hC1 hS1 hls hb1
  go_wp2_with fail
  have hb0 : ∀ O, Below w1.heap.size w1 (w1.alloc O) := fun O => (Below.refl _ _).alloc (Nat.le_refl _) O
  refine specLoopOver_any _ ss _ (HS1.out.keep (hb0 _)) (by omega) HLS.out fun v2 zs w2 hb2 hzs hown2 => ?_
  have hb12 : Below w1.heap.size w1 w2 := (hb0 _).trans (hb2.mono (by simp))
  have p2 : w2.cell? ⟨w1.heap.size, 0, none⟩ = some (.slice A1 ss.length c1) := cell_keep hb2 (by simp [go_sem])
  have I2 := (IntsO.of hown2)
  obtain ⟨A2, c2, hv2⟩ := I2.slice
  subst hv2
  have HI2 : Hid (IntsAt w2 (.slice A2 zs.length c2) zs) := I2.at
  have HZS : Hid (OverOr ss zs) := hzs
  clear hb2 hzs hown2 I2
  go_wp2_with fail
  refine implLoopOver_any _ ss _ (HS1.out.keep hb12) (by omega) HLS.out fun v3 zs' w3 hb3 hzs' hown3 => ?_
  obtain rfl := HZS.out.unique hzs'
  have HB13 : Hid (Below w1.heap.size w1 w3) := hb12.trans (hb3.mono hb12.size)
  have p3 := cell_keep hb3 p2
  have I3 := IntsO.of hown3
  obtain ⟨ao3, g3, c3, hv3, hc3⟩ := I3.read
  subst hv3
  have HI3 : Hid (IntsAt w3 (.slice ao3 zs.length c3) zs) := I3.at
  have HI23 : Hid (IntsAt w3 (.slice A2 zs.length c2) zs) := HI2.out.keep hb3
  have HC3 : Hid _ := hc3
  have hzl : zs.length ≤ 1048576 := HZS.out.bound (by omega)
  clear hb3 hzs' hown3 I3 hc3 p2 hb12
  go_wp2_with fail
  refine lkInts_any _ _ zs _ HI3.out HI23.out hzl fun w4 hb4 => ?_
  have HB14 : Hid (Below w1.heap.size w1 w4) := HB13.out.trans (hb4.mono HB13.out.size)
  have p4 := cell_keep hb4 p3
  have HC4 : Hid (∀ i, i < zs.length → ao3 = some ⟨g3, 0, none⟩ ∧ w4.cell? ⟨g3, i, none⟩ = some (.int .i64 (zs.getD i 0))) := fun i hi => ⟨(HC3.out i hi).1, cell_keep hb4 (HC3.out i hi).2.1⟩
  clear hb4 p3 HI3 HI23 HC3 HI2
  cases hok : okB ss
  · obtain rfl : zs = [] := by
      rcases HZS.out with ⟨h, _⟩ | ⟨_, h⟩
      · rw [hok] at h; cases h
      · exact h
    go_wp2_with fail
    refine implDoms_no _ ss _ (HS1.out.keep HB14.out) (by omega) HLS.out hok fun v5 w5 hb5 hown5 => ?_
    have HB15 : Hid (Below w1.heap.size w1 w5) := HB14.out.trans (hb5.mono HB14.out.size)
    obtain ⟨A5, c5, hv5⟩ := hown5.slice
    subst hv5
    clear hown5 hb5 p4
    go_wp2_with fail
    go_loopw [7] (fun i wr => i = .int .i64 0 ∧ Below w1.heap.size w1 wr) (fun _ _ => 0)
    case atStart => exact ⟨rfl, HB15.out⟩
    case round =>
      obtain ⟨rfl, hb⟩ := hrel
      have HF : Hid (Below w.heap.size w wr) := HB1.out.trans (hb.mono HB1.out.size)
      go_wp2
      exact HQ.out _ HF.out
  · obtain ⟨f, hf, hz⟩ : ∃ f : Nat → Option Nat, (∀ i, i < ss.length → IsNear ss i (f i)) ∧ zs = (List.range ss.length).map (fun i => ovI (f i)) := by
      rcases HZS.out with ⟨_, f, h1, h2⟩ | ⟨h, _⟩
      · exact ⟨f, h1, h2⟩
      · rw [hok] at h; cases h
    obtain ⟨hn1, hn2⟩ := ok_len hok
    have hzn : zs.length = ss.length := by rw [hz]; simp
    have HGD : Hid (∀ i, i < ss.length → zs.getD i 0 = ovI (f i)) := fun i hi => by rw [hz]; simp [List.getD, hi]
    have HF : Hid (∀ i, i < ss.length → IsNear ss i (f i)) := hf
    have HA3 : Hid _ := (HC4.out 0 (by omega)).1
    obtain rfl := HA3.out
    have HC5 : Hid (∀ i, i < ss.length → w4.cell? ⟨g3, i, none⟩ = some (.int .i64 (ovI (f i)))) := fun i hi => by rw [← HGD.out i hi]; exact (HC4.out i (by omega)).2
    have HOK : Hid (okB ss = true) := hok
    clear hz hf HC4 HGD HZS HA3
    rw [hzn]
    clear hzn
    go_wp2_with fail
    refine implDoms_yes _ ss _ (HS1.out.keep HB14.out) hok fun v5 m w5 hb5 hdm _ hown5 => ?_
    have HB15 : Hid (Below w1.heap.size w1 w5) := HB14.out.trans (hb5.mono HB14.out.size)
    have HDM : Hid (DomsM ss m) := hdm
    obtain ⟨g, gcap, gs, cs, rfl, hmr⟩ := MatR.of hown5 hn1
    have HM5 : Hid (MatR w5 g ss.length gs cs m) := hmr
    have HC6 : Hid (∀ i, i < ss.length → w5.cell? ⟨g3, i, none⟩ = some (.int .i64 (ovI (f i)))) := fun i hi => cell_keep hb5 (HC5.out i hi)
    have HN : Hid (∀ i, i < ss.length → f i = none → ∀ k, k < ss.length → k ≠ i → m i k = false) := by
      intro i hi hfi k hk hki
      have h5 := HF.out i hi
      rw [hfi] at h5
      cases hm : m i k
      · rfl
      · exact absurd ((HDM.out i k hi hk).1 hm) (h5 k hki)
    have HY : Hid (∀ i, i < ss.length → ∀ y, f i = some y → y < ss.length ∧ y ≠ i ∧ m i y = true ∧ ∀ k, k < ss.length → k ≠ i → m i k = true → m y k = true) := by
      intro i hi y hfi
      have h5 := HF.out i hi
      rw [hfi] at h5
      have hyl := reach_lt HOK.out h5.2.1.reach
      exact ⟨hyl, h5.1, (HDM.out i y hi hyl).2 h5.2.1, fun k hk hki hm => (HDM.out y k hyl hk).2 (h5.2.2 k hki ((HDM.out i k hi hk).1 hm))⟩
    clear hb5 hdm hmr hown5 HC5 HB14 hok p4 HDM HF
    go_wp2_with fail
    go_loopw [7] (fun i wr => ∃ x : Nat, x ≤ ss.length ∧ i = .int .i64 x ∧ Below w5.heap.size w5 wr) (fun i _ => ss.length - (intOf i).toNat)
    case atStart => exact ⟨0, Nat.zero_le _, rfl, Below.refl _ _⟩
    case round =>
      obtain ⟨x, hx, rfl, hbx⟩ := hrel
      have HBX : Hid (Below w5.heap.size w5 wr) := hbx
      have HMX : Hid (MatR wr g ss.length gs cs m) := HM5.out.keep hbx
      by_cases hxl : x < ss.length
      · have hxi : (x : Int) < (ss.length : Int) := by omega
        have cx := cell_keep hbx (HC6.out x hxl)
        have rx := HMX.out.row x hxl
        clear hbx
        cases hfx : f x with
        | none =>
          rw [hfx] at cx
          simp only [ovI] at cx
          have HNX : Hid (∀ k, k < ss.length → k ≠ x → m x k = false) := HN.out x hxl hfx
          clear hfx
          go_wp2
          go_loopw [8] (fun i wr => ∃ k : Nat, k ≤ ss.length ∧ i = .int .i64 k ∧ Below w5.heap.size w5 wr) (fun i _ => ss.length - (intOf i).toNat)
          case atStart => exact ⟨0, Nat.zero_le _, rfl, HBX.out⟩
          case round =>
            obtain ⟨k, hk, rfl, hbk⟩ := hrel
            have HBK : Hid (Below w5.heap.size w5 wr) := hbk
            have HMK : Hid (MatR wr g ss.length gs cs m) := HM5.out.keep hbk
            clear hbk
            by_cases hkl : k < ss.length
            · have hki : (k : Int) < (ss.length : Int) := by omega
              by_cases hkx : k = x
              · subst hkx
                go_wp2
                go_roundw
                case rel => exact ⟨k + 1, by omega, by go_num, HBK.out⟩
                case measure => simp [intOf]; omega
              · have hkb : ((k : Int) == (x : Int)) = false := by simp; omega
                have r1 := HMK.out.row x hxl
                have e1 := HMK.out.cell x k hxl hkl
                rw [HNX.out k hkl hkx] at e1
                go_wp2
                go_roundw
                case rel => exact ⟨k + 1, by omega, by go_num, HBK.out⟩
                case measure => simp [intOf]; omega
            · have hki : ¬ (k : Int) < (ss.length : Int) := by omega
              go_wp2
              go_roundw
              case rel => exact ⟨x + 1, by omega, by go_num, HBK.out⟩
              case measure => simp [intOf]; omega
        | some y =>
          rw [hfx] at cx
          simp only [ovI] at cx
          obtain ⟨hyl, hyx, hmy, hall⟩ := HY.out x hxl y hfx
          have HALL : Hid (∀ k, k < ss.length → k ≠ x → m x k = true → m y k = true) := hall
          have HMY : Hid (m x y = true) := hmy
          have hy0 : ¬ (y : Int) < 0 := by omega
          have hyi : (y : Int) < (ss.length : Int) := by omega
          have hyb : ((y : Int) == (x : Int)) = false := by simp; omega
          have HCX : Hid (∀ W, Below w5.heap.size w5 W → W.cell? ⟨g3, x, none⟩ = some (.int .i64 (y : Int))) := by
            intro W hW
            have h5 := cell_keep hW (HC6.out x hxl)
            rw [hfx] at h5
            exact h5
          clear hfx hall hmy
          go_wp2
          go_loopw [9] (fun i wr => ∃ k : Nat, k ≤ ss.length ∧ i = .int .i64 k ∧ Below w5.heap.size w5 wr) (fun i _ => ss.length - (intOf i).toNat)
          case atStart => exact ⟨0, Nat.zero_le _, rfl, HBX.out⟩
          case round =>
            obtain ⟨k, hk, rfl, hbk⟩ := hrel
            have HBK : Hid (Below w5.heap.size w5 wr) := hbk
            have HMK : Hid (MatR wr g ss.length gs cs m) := HM5.out.keep hbk
            have cx2 := HCX.out wr hbk
            clear hbk
            by_cases hkl : k < ss.length
            · have hki : (k : Int) < (ss.length : Int) := by omega
              by_cases hkx : k = x
              · subst hkx
                go_wp2_with fail
                try go_quiet (fail)
                try go_wp2
                go_roundw
                case rel => exact ⟨k + 1, by omega, by go_num, by first | exact HBK.out | exact below_drewN HBK.out _⟩
                case measure => simp [intOf]; omega
              · have hkb : ((k : Int) == (x : Int)) = false := by simp; omega
                have r1 := HMK.out.row x hxl
                have r2 := HMK.out.row y hyl
                have e1 := HMK.out.cell x k hxl hkl
                have e2 := HMK.out.cell y k hyl hkl
                cases hm : m x k
                · rw [hm] at e1
                  clear hm
                  go_wp2_with fail
                  try go_quiet (fail)
                  try go_wp2
                  go_roundw
                  case rel => exact ⟨k + 1, by omega, by go_num, by first | exact HBK.out | exact below_drewN HBK.out _⟩
                  case measure => simp [intOf]; omega
                · rw [hm] at e1
                  rw [HALL.out k hkl hkx hm] at e2
                  clear hm
                  go_wp2_with fail
                  try go_quiet (fail)
                  try go_wp2
                  go_roundw
                  case rel => exact ⟨k + 1, by omega, by go_num, by first | exact HBK.out | exact below_drewN HBK.out _⟩
                  case measure => simp [intOf]; omega
            · have hki : ¬ (k : Int) < (ss.length : Int) := by omega
              have r1 := HMK.out.row x hxl
              have e1 := HMK.out.cell x y hxl hyl
              rw [HMY.out] at e1
              go_wp2_with fail
              go_quiet (fail)
              go_wp2
              go_roundw
              case rel => exact ⟨x + 1, by omega, by go_num, below_drewN HBK.out _⟩
              case measure => simp [intOf]; omega
      · have hxi : ¬ (x : Int) < (ss.length : Int) := by omega
        have HFN : Hid (Below w.heap.size w wr) := HB1.out.trans ((HB15.out.trans (hbx.mono HB15.out.size)).mono HB1.out.size)
        clear hbx
        go_wp2
        exact HQ.out _ HFN.out

set_option maxRecDepth 100000 in
theorem law_lifted (os : Os) (started : os.Started) (H : Type) (enc : TypeId × Value → H) :
    ReturnsInHanded {} Try.checked os 9 .any (Rows.fnLoopOverSpec.pre6 enc Try.prog Try.f9 Rows.fnLoopOverRow.domain false) (Rows.fnLoopOverSpec.post enc Try.prog Try.f9 false true false false) := by
  refine returnsInHanded_of_change (C := Try.checked) own started (by kernel_rfl) Try.func9
    (ChangeSpec.witness6 (enc := enc) (C := Try.checked) false ⟨#[], #[.slice none 0 0], []⟩ 8 (by kernel_rfl) (by kernel_rfl) (by kernel_rfl) (by kernel_rfl)) ?_
  intro W base args ds gs before hval0 hW hcnd _
  have hval : ∀ (j : Nat) t v, Try.f9.params[j]? = some t → args[j]? = some v → Value.okWide Try.prog W .any base t v := hval0
  have hW' := hW
  obtain ⟨p, q, hA0, hV, rfl, hfz, hnd⟩ := hW
  have hA : DataW.TrodAll enc Try.prog W 0 (fun _ => true) true Try.f9.params.toList args.toList ds p := hA0
  rw [Try.params9] at hA hval
  obtain ⟨v0, vs0, d0, ds0, p0, q0, hargs, rfl, rfl, h0, r0⟩ := trodAll_cons hA
  obtain ⟨rfl, rfl, rfl⟩ := trodAll_nil r0
  obtain rfl : args = #[v0] := by cases args; simp_all
  obtain ⟨rfl, rfl⟩ := trodVars_none hV
  have k0 := h0
  have lt0 : ∀ x ∈ p0, x.block < W.heap.size := by obtain ⟨m, hm⟩ := k0; exact DataW.trod_lt m _ _ _ hm
  have c0 := open_code (hval 0 37 v0 rfl rfl) h0
  clear hA0 hval0
  refine law_walk v0 W c0 fun W' bel => ?_
  exact ⟨_, rfl, _, _, _, [], _, [], hW', trodAll_mk1 (shut_bool Try.underlying4 _), (trodAll_cons_mk (Below.trod laidOut (by kernel_rfl) (of_decide_eq_true (by kernel_rfl)) k0 bel lt0) trodAll_mk0), rfl, bel.frame _, fun h => by cases h⟩

theorem fnLoopOver_holds : Rows.FnLoopOverSaid :=
  OpenClaim.holds_of_wide 9 Try.f9 rfl rfl rfl rfl rfl rfl rfl ⟨rfl, rfl, rfl, rfl, rfl⟩ rfl rfl rfl rfl rfl (by kernel_rfl) Try.func9 (by kernel_rfl)
    (of_decide_eq_true (by kernel_rfl)) (by unfold Func.isWrapper; first | (rw [if_pos (by decide +kernel)]; kernel_rfl) | (rw [if_neg (by decide +kernel)]; exact ⟨rfl, rfl⟩))
    (fun os started H enc _ => law_lifted os started H enc)
#print axioms fnLoopOver_holds
end Go.Proofs.Ytblagfndeffilaa
