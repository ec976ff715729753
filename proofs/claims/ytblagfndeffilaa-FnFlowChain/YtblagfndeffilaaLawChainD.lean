/-
  For every code of bytes, of the program that is drawn from it, of two steps that stand on each way to a third one stands on each way to the other, by what FlowDoms tells, which is as the model tells it: the law FnFlowChain answers true. No condition.
-/
import Derived.Test.YtblagfndeffilaaRows
import Derived.Test.YtblagfndeffilaaDrawD
import Derived.Test.YtblagfndeffilaaLkRows
import Derived.Test.YtblagfndeffilaaMatR
import Derived.Test.YtblagfndeffilaaSpecDoms
import Derived.Test.YtblagfndeffilaaImplDoms
import Derived.Test.YtblagfndeffilaaReachI
import Derived.OpenShut
import Derived.ShutString
import Derived.ChangeOld
import Derived.Below
namespace Go.Proofs.Ytblagfndeffilaa
open Go.ChangeShapes Go.WideShapes Go.ChangeAt Go.RowKit

theorem own : ownKnob Try.prog.godebug = none := by kernel_rfl
theorem laidOut : laidOutB Try.prog = true := by kernel_rfl

set_option maxRecDepth 100000 in
set_option maxHeartbeats 8000000 in
theorem law_walk (v : Value) (w : World) (h : CodeAt w v) {Q : Ending → World → Prop} (hQ : ∀ w', Below w.heap.size w w' → Q (.returned (.bool true)) w') :
    Calls Try.prog 7 #[v] w Q := by
  have HQ : Hid (∀ w', Below w.heap.size w w' → Q (.returned (.bool true)) w') := hQ
  clear hQ
  have HC : Hid _ := h
  obtain ⟨ao, bb, bo, bl, cap, rfl, h1, h2, h3, h4, h5⟩ := h
  clear h3 h4 h5
  by_cases hbl : 1048576 < bl
  · go_enter Try.func7, Try.ntmps7
    go_wp2
    exact HQ.out _ (Below.refl _ _)
  go_enter Try.func7, Try.ntmps7
  go_wp2_with fail
  refine drawFlowDoms_any _ _ HC.out fun v1 ss w1 hS1 hl hls hb1 => ?_
  clear HC
  obtain ⟨A1, b1, o1, c1, rfl, hA1, hC1⟩ := id hS1
  have HS1 : Hid (StepsAt w1 (.slice A1 ss.length c1) ss) := hS1.at
  have HLS : Hid (∀ s ∈ ss, s.next.length ≤ 1048576) := fun s hs => Nat.le_trans (hls s hs) (by decide)
  have HB1 : Hid (Below w.heap.size w w1) := hb1
  clear hA1 hC1 hS1 hls hb1
  go_wp2_with fail
  have hb0 : ∀ O, Below w1.heap.size w1 (w1.alloc O) := fun O => (Below.refl _ _).alloc (Nat.le_refl _) O
  refine specDoms_any _ ss _ (HS1.out.keep (hb0 _)) (by omega) HLS.out fun v2 zss w2 hb2 hzs hown2 => ?_
  have hb12 : Below w1.heap.size w1 w2 := (hb0 _).trans (hb2.mono (by simp))
  have p2 : w2.cell? ⟨w1.heap.size, 0, none⟩ = some (.slice A1 ss.length c1) := cell_keep hb2 (by simp [go_sem])
  obtain ⟨A2, c2, hv2⟩ := hown2.slice
  subst hv2
  have HO2 : Hid (RowsB (w1.alloc (.cells #[.slice A1 ss.length c1] 30)).heap.size w2.heap.size w2 (.slice A2 zss.length c2) zss) := hown2
  have HZS : Hid (DomsOr ss zss) := hzs
  clear hb2 hzs hown2
  cases hok : okB ss
  · obtain rfl : zss = [] := by
      rcases HZS.out with ⟨h, _⟩ | ⟨_, h⟩
      · rw [hok] at h; cases h
      · exact h
    go_wp2_with fail
    refine implDoms_no _ ss _ (HS1.out.keep hb12) (by omega) HLS.out hok fun v3 w3 hb3 hown3 => ?_
    have HB13 : Hid (Below w1.heap.size w1 w3) := hb12.trans (hb3.mono hb12.size)
    have p3 := cell_keep hb3 p2
    obtain ⟨A3, c3, hv3⟩ := hown3.slice
    subst hv3
    have HO3 : Hid (RowsB (w2.heap.size + 1) w3.heap.size w3 (.slice A3 0 c3) []) := hown3
    have HO23 : Hid (RowsB (w1.alloc (.cells #[.slice A1 ss.length c1] 30)).heap.size w2.heap.size w3 (.slice A2 0 c2) []) := HO2.out.keep hb3
    clear hown3 hb3 hb12 p2
    go_wp2_with fail
    refine lkRows_any _ _ [] _ _ _ _ _ HO3.out HO23.out (by simp) (by simp) fun w4 hb4 => ?_
    have HB14 : Hid (Below w1.heap.size w1 w4) := HB13.out.trans (hb4.mono HB13.out.size)
    have p4 := cell_keep hb4 p3
    clear hb4 p3 HO3 HO23 HO2 HB13
    go_wp2_with fail
    go_loopw [6] (fun i wr => i = .int .i64 0 ∧ Below w1.heap.size w1 wr) (fun _ _ => 0)
    case atStart => exact ⟨rfl, HB14.out⟩
    case round =>
      obtain ⟨rfl, hb⟩ := hrel
      have HF : Hid (Below w.heap.size w wr) := HB1.out.trans (hb.mono HB1.out.size)
      go_wp2
      exact HQ.out _ HF.out
  · go_wp2_with fail
    refine implDoms_yes _ ss _ (HS1.out.keep hb12) hok fun v3 m w3 hb3 hdm hov hown3 => ?_
    obtain rfl : zss = matL ss.length m := HZS.out.unique (Or.inl ⟨hok, m, hdm, rfl⟩)
    have HB13 : Hid (Below w1.heap.size w1 w3) := hb12.trans (hb3.mono hb12.size)
    have p3 := cell_keep hb3 p2
    obtain ⟨hn1, hn2⟩ := ok_len hok
    have HOK : Hid (okB ss = true) := hok
    have HDM : Hid (DomsM ss m) := hdm
    obtain ⟨ov, hov⟩ := hov
    have HOV : Hid (OverF ss ov) := hov
    have HO3 : Hid (RowsB (w2.heap.size + 1) w3.heap.size w3 v3 (matL ss.length m)) := hown3
    have HO23 : Hid (RowsB (w1.alloc (.cells #[.slice A1 ss.length c1] 30)).heap.size w2.heap.size w3 (.slice A2 ss.length c2) (matL ss.length m)) := by
      have h5 := HO2.out.keep hb3
      rwa [matL_len] at h5
    obtain ⟨g, gcap, gs, cs, rfl, hmr⟩ := MatR.of hown3 hn1
    have HMR : Hid (MatR w3 g ss.length gs cs m) := hmr
    have hml : (matL ss.length m).length = ss.length := matL_len _ _
    have HBD : Hid _ := DomsOr.bound HZS.out
    clear hown3 hb3 hb12 p2 hdm hok hov hmr HZS HO2
    go_wp2_with fail
    refine lkRows_any _ _ (matL ss.length m) _ _ _ _ _ HO3.out HO23.out (by omega) HBD.out.2 fun w4 hb4 => ?_
    have HB14 : Hid (Below w1.heap.size w1 w4) := HB13.out.trans (hb4.mono HB13.out.size)
    have p4 := cell_keep hb4 p3
    have HM4 : Hid (MatR w4 g ss.length gs cs m) := HMR.out.keep hb4
    clear hb4 p3 HO3 HO23 HMR HB13 HBD hml
    go_wp2_with fail
    have HALL : Hid (∀ i a b, i < ss.length → a < ss.length → b < ss.length → m i a = true → m i b = true → m a b = true ∨ m b a = true) := by
      intro i a b hi ha hb h1 h2
      rcases HOV.out.chain ((HDM.out i a hi ha).1 h1) ((HDM.out i b hi hb).1 h2) with k | k
      · exact Or.inr ((HDM.out b a hb ha).2 k)
      · exact Or.inl ((HDM.out a b ha hb).2 k)
    go_loop [6] (fun i => ∃ x : Nat, x ≤ ss.length ∧ i = .int .i64 x) (fun i => ss.length - (intOf i).toNat)
    case atStart => exact ⟨0, Nat.zero_le _, rfl⟩
    case round =>
      obtain ⟨x, hx, rfl⟩ := hrel
      by_cases hxl : x < ss.length
      · have hxi : (x : Int) < (ss.length : Int) := by omega
        go_wp2
        go_loop [7] (fun i => ∃ x : Nat, x ≤ ss.length ∧ i = .int .i64 x) (fun i => ss.length - (intOf i).toNat)
        case atStart => exact ⟨0, Nat.zero_le _, rfl⟩
        case round =>
          obtain ⟨a, ha, rfl⟩ := hrel
          by_cases hal : a < ss.length
          · have hai : (a : Int) < (ss.length : Int) := by omega
            go_wp2
            go_loop [8] (fun i => ∃ x : Nat, x ≤ ss.length ∧ i = .int .i64 x) (fun i => ss.length - (intOf i).toNat)
            case atStart => exact ⟨0, Nat.zero_le _, rfl⟩
            case round =>
              obtain ⟨b, hb, rfl⟩ := hrel
              by_cases hbl2 : b < ss.length
              · have hbi : (b : Int) < (ss.length : Int) := by omega
                have r1 := HM4.out.row x hxl
                have r2 := HM4.out.row a hal
                have r3 := HM4.out.row b hbl2
                have e1 := HM4.out.cell x a hxl hal
                have e2 := HM4.out.cell x b hxl hbl2
                have e3 := HM4.out.cell a b hal hbl2
                have e4 := HM4.out.cell b a hbl2 hal
                have HK : Hid (m x a = true → m x b = true → m a b = true ∨ m b a = true) := HALL.out x a b hxl hal hbl2
                cases h1 : m x a
                · rw [h1] at e1
                  clear h1 HK
                  go_wp2
                  go_round
                  case rel => exact ⟨b + 1, by omega, by go_num⟩
                  case measure => simp [intOf]; omega
                · rw [h1] at e1
                  cases h2 : m x b
                  · rw [h2] at e2
                    clear h1 h2 HK
                    go_wp2
                    go_round
                    case rel => exact ⟨b + 1, by omega, by go_num⟩
                    case measure => simp [intOf]; omega
                  · rw [h2] at e2
                    cases h3 : m a b
                    · rw [h3] at e3
                      have h4 : m b a = true := by
                        rcases HK.out h1 h2 with k | k
                        · rw [h3] at k; cases k
                        · exact k
                      rw [h4] at e4
                      clear h1 h2 h3 h4 HK
                      go_wp2
                      go_round
                      case rel => exact ⟨b + 1, by omega, by go_num⟩
                      case measure => simp [intOf]; omega
                    · rw [h3] at e3
                      clear h1 h2 h3 HK
                      go_wp2
                      go_round
                      case rel => exact ⟨b + 1, by omega, by go_num⟩
                      case measure => simp [intOf]; omega
              · have hbi : ¬ (b : Int) < (ss.length : Int) := by omega
                go_wp2
                go_round
                case rel => exact ⟨a + 1, by omega, by go_num⟩
                case measure => simp [intOf]; omega
          · have hai : ¬ (a : Int) < (ss.length : Int) := by omega
            go_wp2
            go_round
            case rel => exact ⟨x + 1, by omega, by go_num⟩
            case measure => simp [intOf]; omega
      · have hxi : ¬ (x : Int) < (ss.length : Int) := by omega
        have HF : Hid (Below w.heap.size w w4) := HB1.out.trans (HB14.out.mono HB1.out.size)
        go_wp2
        exact HQ.out _ HF.out

set_option maxRecDepth 100000 in
theorem law_lifted (os : Os) (started : os.Started) (H : Type) (enc : TypeId × Value → H) :
    ReturnsInHanded {} Try.checked os 7 .any (Rows.fnFlowChainSpec.pre6 enc Try.prog Try.f7 Rows.fnFlowChainRow.domain false) (Rows.fnFlowChainSpec.post enc Try.prog Try.f7 false true false false) := by
  refine returnsInHanded_of_change (C := Try.checked) own started (by kernel_rfl) Try.func7
    (ChangeSpec.witness6 (enc := enc) (C := Try.checked) false ⟨#[], #[.slice none 0 0], []⟩ 8 (by kernel_rfl) (by kernel_rfl) (by kernel_rfl) (by kernel_rfl)) ?_
  intro W base args ds gs before hval0 hW hcnd _
  have hval : ∀ (j : Nat) t v, Try.f7.params[j]? = some t → args[j]? = some v → Value.okWide Try.prog W .any base t v := hval0
  have hW' := hW
  obtain ⟨p, q, hA0, hV, rfl, hfz, hnd⟩ := hW
  have hA : DataW.TrodAll enc Try.prog W 0 (fun _ => true) true Try.f7.params.toList args.toList ds p := hA0
  rw [Try.params7] at hA hval
  obtain ⟨v0, vs0, d0, ds0, p0, q0, hargs, rfl, rfl, h0, r0⟩ := trodAll_cons hA
  obtain ⟨rfl, rfl, rfl⟩ := trodAll_nil r0
  obtain rfl : args = #[v0] := by cases args; simp_all
  obtain ⟨rfl, rfl⟩ := trodVars_none hV
  have k0 := h0
  have lt0 : ∀ x ∈ p0, x.block < W.heap.size := by obtain ⟨m, hm⟩ := k0; exact DataW.trod_lt m _ _ _ hm
  have c0 := open_code (hval 0 37 v0 rfl rfl) h0
  clear hA0 hval0
  refine law_walk v0 W c0 fun W' bel => ?_
  exact ⟨_, rfl, _, _, _, [], _, [], hW', trodAll_mk1 (shut_bool Try.underlying4 _), (trodAll_cons_mk (Below.trod laidOut (by kernel_rfl) (of_decide_eq_true (by kernel_rfl)) k0 bel lt0) trodAll_mk0), rfl, bel.frame _, fun h => by cases h⟩

theorem fnFlowChain_holds : Rows.FnFlowChainSaid :=
  OpenClaim.holds_of_wide 7 Try.f7 rfl rfl rfl rfl rfl rfl rfl ⟨rfl, rfl, rfl, rfl, rfl⟩ rfl rfl rfl rfl rfl (by kernel_rfl) Try.func7 (by kernel_rfl)
    (of_decide_eq_true (by kernel_rfl)) (by unfold Func.isWrapper; first | (rw [if_pos (by decide +kernel)]; kernel_rfl) | (rw [if_neg (by decide +kernel)]; exact ⟨rfl, rfl⟩))
    (fun os started H enc _ => law_lifted os started H enc)
#print axioms fnFlowChain_holds
end Go.Proofs.Ytblagfndeffilaa
