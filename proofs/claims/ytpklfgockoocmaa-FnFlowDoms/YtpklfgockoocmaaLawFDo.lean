/-
  For every code of bytes, of the program and the path that are drawn from it FlowDoms answers as the model does, and all that stand on each way to a step of the path are on it, up to there: the law FnFlowDoms answers true. No condition.
-/
import Derived.Test.YtpklfgockoocmaaRows
import Derived.Test.YtpklfgockoocmaaDrawPOk
import Derived.Test.YtpklfgockoocmaaLkRows
import Derived.Test.YtpklfgockoocmaaMatR
import Derived.Test.YtpklfgockoocmaaSpecDoms
import Derived.Test.YtpklfgockoocmaaSpecPath
import Derived.Test.YtpklfgockoocmaaImplDoms
import Derived.OpenShut
import Derived.ShutString
import Derived.ChangeOld
import Derived.Below
namespace Go.Proofs.Ytpklfgockoocmaa
open Go.ChangeShapes Go.WideShapes Go.ChangeAt Go.RowKit

theorem own : ownKnob Try.prog.godebug = none := by kernel_rfl
theorem laidOut : laidOutB Try.prog = true := by kernel_rfl

/-- Who walks past a step never comes to it. -/
theorem Walks.av {ss : List St} (hok : okB ss = true) {r : List Int} {k : Nat} : ∀ {x : Nat}, Walks ss r x → (∀ t, t ≤ x → atP r t ≠ (k : Int)) → Av ss k (atP r x).toNat
  | 0, _, hn => Av.first ss fun h => hn 0 (Nat.le_refl _) (by rw [atP_zero, ← h]; rfl)
  | x + 1, hw, hn => by
    have ih := Walks.av hok (hw.le (Nat.le_succ x)) fun t ht => hn t (by omega)
    obtain ⟨a, ha, hal⟩ := (hw.le (Nat.le_succ x)).place hok
    have h1 := hw x (by omega)
    rw [ha, Int.toNat_natCast] at ih h1
    obtain ⟨b, hb, hbl⟩ := hw.place hok
    have h2 := hn (x + 1) (Nat.le_refl _)
    rw [hb] at h2 ⊢
    rw [Int.toNat_natCast]
    rw [← atP_succ, hb] at h1
    exact ih.on ⟨ss[a], List.getElem?_eq_getElem hal, by rwa [nextOf_get hal] at h1⟩ (by omega)

/-- Is a place among the first so many of a row. -/
def onR (zs : List Int) (k j : Nat) : Bool := (zs.take j).any (fun y => decide (y = (k : Int)))

theorem onR_succ {zs : List Int} {k j : Nat} (hj : j < zs.length) : onR zs k (j + 1) = (onR zs k j || decide (zs.getD j 0 = (k : Int))) := by
  unfold onR
  rw [List.take_add_one, List.getElem?_eq_getElem hj, List.any_append, List.getD_eq_getElem?_getD, List.getElem?_eq_getElem hj]
  simp

theorem onR_no {zs : List Int} {k j : Nat} (hj : j ≤ zs.length) (h : onR zs k j = false) : ∀ t, t < j → zs.getD t 0 ≠ (k : Int) := by
  intro t ht e
  unfold onR at h
  rw [List.any_eq_false] at h
  refine h (zs.getD t 0) ?_ (by simpa using e)
  rw [List.getD_eq_getElem?_getD, List.getElem?_eq_getElem (by omega)]
  exact List.mem_take_iff_getElem.2 ⟨t, by omega, rfl⟩

set_option maxRecDepth 100000 in
set_option maxHeartbeats 16000000 in
theorem law_walk (v : Value) (w : World) (h : CodeAt w v) {Q : Ending → World → Prop} (hQ : ∀ w', Below w.heap.size w w' → Q (.returned (.bool true)) w') :
    Calls Try.prog 3 #[v] w Q := by
  have HQ : Hid (∀ w', Below w.heap.size w w' → Q (.returned (.bool true)) w') := hQ
  clear hQ
  have HC : Hid _ := h
  obtain ⟨ao, bb, bo, bl, cap, rfl, h1, h2, h3, h4, h5⟩ := h
  clear h3 h4 h5
  by_cases hbl : 1048576 < bl
  · go_enter Try.func3, Try.ntmps3
    go_wp2
    exact HQ.out _ (Below.refl _ _)
  go_enter Try.func3, Try.ntmps3
  go_wp2_with fail
  refine drawPathOk_any _ _ HC.out fun v1 pv ss zs w1 hS1 hl hls hz1 hzl hb1 => ?_
  clear HC
  obtain ⟨A1, b1, o1, c1, rfl, _, _⟩ := id hS1.at
  obtain ⟨yo, yb, yof, ycap, rfl, _, hya, hyc⟩ := id hz1
  have HS1 : Hid (StepsAt w1 (.slice A1 ss.length c1) ss) := hS1.at
  have HZ1 : Hid (IntsAt w1 (.slice yo zs.length ycap) zs) := hz1.at
  have HLS : Hid (∀ s ∈ ss, s.next.length ≤ 1048576) := fun s hs => Nat.le_trans (hls s hs) (by decide)
  have HYA : Hid _ := hya
  have HYC : Hid _ := hyc
  have HB1 : Hid (Below w.heap.size w w1) := hb1
  clear hS1 hls hz1 hya hyc hb1
  have hb0 : ∀ O, Below w1.heap.size w1 (w1.alloc O) := fun O => (Below.refl _ _).alloc (Nat.le_refl _) O
  go_wp2_with fail
  refine specDoms_any _ ss _ (HS1.out.keep (hb0 _)) (by omega) HLS.out fun v2 zss w2 hb2 hzs hown2 => ?_
  have hb12 : Below w1.heap.size w1 w2 := (hb0 _).trans (hb2.mono (by simp))
  have p2 : w2.cell? ⟨w1.heap.size, 0, none⟩ = some (.slice A1 ss.length c1) := cell_keep hb2 (by simp [go_sem])
  obtain ⟨A2, c2, hv2⟩ := hown2.slice
  subst hv2
  have HO2 : Hid (RowsB (w1.alloc (.cells #[.slice A1 ss.length c1] 25)).heap.size w2.heap.size w2 (.slice A2 zss.length c2) zss) := hown2
  have HZS : Hid (DomsOr ss zss) := hzs
  clear hb2 hzs hown2
  cases hok : okB ss
  · obtain rfl : zss = [] := by
      rcases HZS.out with ⟨h, _⟩ | ⟨_, h⟩
      · rw [hok] at h; cases h
      · exact h
    have HNO : Hid (okB ss = false) := hok
    go_wp2_with fail
    refine implDoms_no _ ss _ (HS1.out.keep hb12) (by omega) HLS.out hok fun v3 w3 hb3 hown3 => ?_
    have HB13 : Hid (Below w1.heap.size w1 w3) := hb12.trans (hb3.mono hb12.size)
    have p3 := cell_keep hb3 p2
    obtain ⟨A3, c3, hv3⟩ := hown3.slice
    subst hv3
    have HO3 : Hid (RowsB (w2.heap.size + 1) w3.heap.size w3 (.slice A3 0 c3) []) := hown3
    have HO23 : Hid (RowsB (w1.alloc (.cells #[.slice A1 ss.length c1] 25)).heap.size w2.heap.size w3 (.slice A2 0 c2) []) := HO2.out.keep hb3
    clear hown3 hb3 hb12 p2
    go_wp2_with fail
    refine lkRows_any _ _ [] _ _ _ _ _ HO3.out HO23.out (by simp) (by simp) fun w4 hb4 => ?_
    have HB14 : Hid (Below w1.heap.size w1 w4) := HB13.out.trans (hb4.mono HB13.out.size)
    have p4 := cell_keep hb4 p3
    have HO4 : Hid (RowsB (w2.heap.size + 1) w3.heap.size w4 (.slice A3 0 c3) []) := HO3.out.keep hb4
    have HO24 : Hid (RowsB (w1.alloc (.cells #[.slice A1 ss.length c1] 25)).heap.size w2.heap.size w4 (.slice A2 0 c2) []) := HO23.out.keep hb4
    clear hb4 p3 HO3 HO23 HO2 HB13
    go_wp2_with fail
    refine specPathOk_any _ _ ss zs _ (HS1.out.keep HB14.out) (by omega) HLS.out (HZ1.out.keep HB14.out) (by omega) fun ok w5 hb5 hok5 => ?_
    have hokf : ok = false := by
      cases e : ok
      · rfl
      · have := (hok5.1 e).1; rw [HNO.out] at this; cases this
    subst hokf
    have HB15 : Hid (Below w1.heap.size w1 w5) := HB14.out.trans (hb5.mono HB14.out.size)
    have HO5 : Hid (RowsB (w2.heap.size + 1) w3.heap.size w5 (.slice A3 0 c3) []) := HO4.out.keep hb5
    have HO25 : Hid (RowsB (w1.alloc (.cells #[.slice A1 ss.length c1] 25)).heap.size w2.heap.size w5 (.slice A2 0 c2) []) := HO24.out.keep hb5
    clear hb5 hok5 p4 HO4 HO24 HB14
    go_wp2_with fail
    refine lkRows_any _ _ [] _ _ _ _ _ HO5.out HO25.out (by simp) (by simp) fun w6 hb6 => ?_
    have HF : Hid (Below w.heap.size w w6) := HB1.out.trans ((HB15.out.trans (hb6.mono HB15.out.size)).mono HB1.out.size)
    clear hb6
    go_wp2
    exact HQ.out _ HF.out
  · go_wp2_with fail
    refine implDoms_yes _ ss _ (HS1.out.keep hb12) hok fun v3 m w3 hb3 hdm hov hown3 => ?_
    obtain rfl : zss = matL ss.length m := HZS.out.unique (Or.inl ⟨hok, m, hdm, rfl⟩)
    have HB13 : Hid (Below w1.heap.size w1 w3) := hb12.trans (hb3.mono hb12.size)
    have p3 := cell_keep hb3 p2
    obtain ⟨hn1, hn2⟩ := ok_len hok
    have HOK : Hid (okB ss = true) := hok
    have HDM : Hid (DomsM ss m) := hdm
    have HO3 : Hid (RowsB (w2.heap.size + 1) w3.heap.size w3 v3 (matL ss.length m)) := hown3
    have HO23 : Hid (RowsB (w1.alloc (.cells #[.slice A1 ss.length c1] 25)).heap.size w2.heap.size w3 (.slice A2 ss.length c2) (matL ss.length m)) := by
      have h5 := HO2.out.keep hb3
      rwa [matL_len] at h5
    obtain ⟨g, gcap, gs, cs, rfl, hmr⟩ := MatR.of hown3 hn1
    have HMR : Hid (MatR w3 g ss.length gs cs m) := hmr
    have HML : Hid ((matL ss.length m).length = ss.length) := matL_len _ _
    have HBD : Hid _ := DomsOr.bound HZS.out
    rw [HML.out]
    clear hown3 hb3 hb12 p2 hdm hok hov hmr HZS HO2
    go_wp2_with fail
    refine lkRows_any _ _ (matL ss.length m) _ _ _ _ _ HO3.out HO23.out (by rw [HML.out]; omega) HBD.out.2 fun w4 hb4 => ?_
    have HB14 : Hid (Below w1.heap.size w1 w4) := HB13.out.trans (hb4.mono HB13.out.size)
    have p4 := cell_keep hb4 p3
    have HM4 : Hid (MatR w4 g ss.length gs cs m) := HMR.out.keep hb4
    have HO4 : Hid (RowsB (w2.heap.size + 1) w3.heap.size w4 (.slice (some ⟨g, 0, none⟩) ss.length gcap) (matL ss.length m)) := HO3.out.keep hb4
    have HO24 : Hid (RowsB (w1.alloc (.cells #[.slice A1 ss.length c1] 25)).heap.size w2.heap.size w4 (.slice A2 ss.length c2) (matL ss.length m)) := HO23.out.keep hb4
    clear hb4 p3 HO3 HO23 HMR HB13
    go_wp2_with fail
    refine specPathOk_any _ _ ss zs _ (HS1.out.keep HB14.out) (by omega) HLS.out (HZ1.out.keep HB14.out) (by omega) fun ok w5 hb5 hok5 => ?_
    have HB15 : Hid (Below w1.heap.size w1 w5) := HB14.out.trans (hb5.mono HB14.out.size)
    have p5 := cell_keep hb5 p4
    have HM5 : Hid (MatR w5 g ss.length gs cs m) := HM4.out.keep hb5
    have HO5 : Hid (RowsB (w2.heap.size + 1) w3.heap.size w5 (.slice (some ⟨g, 0, none⟩) ss.length gcap) (matL ss.length m)) := HO4.out.keep hb5
    have HO25 : Hid (RowsB (w1.alloc (.cells #[.slice A1 ss.length c1] 25)).heap.size w2.heap.size w5 (.slice A2 ss.length c2) (matL ss.length m)) := HO24.out.keep hb5
    have HF5 : Hid (Below w.heap.size w w5) := HB1.out.trans (HB15.out.mono HB1.out.size)
    cases ok
    · clear hb5 hok5 p4 HO4 HO24 HM4 HB14
      go_wp2_with fail
      refine lkRows_any _ _ (matL ss.length m) _ _ _ _ _ HO5.out HO25.out (by rw [HML.out]; omega) HBD.out.2 fun w6 hb6 => ?_
      have HF : Hid (Below w.heap.size w w6) := HF5.out.trans (hb6.mono HF5.out.size)
      clear hb6
      go_wp2
      exact HQ.out _ HF.out
    have hip := (hok5.1 rfl).2
    have HPL : Hid (∀ j, j < zs.length → ∃ a : Nat, zs.getD j 0 = (a : Int) ∧ a < ss.length) := fun j hj => by
      obtain ⟨r, hr, _, hw, _⟩ := hip
      subst hr
      simp only [List.length_cons] at hj
      exact Walks.place HOK.out (hw.le (j := j) (by omega))
    have HKEY : Hid (∀ x k a, x < zs.length → k < ss.length → a < ss.length → zs.getD x 0 = (a : Int) → m a k = true → onR zs k (x + 1) = true) := fun x k a hx hk ha hxa hm => by
      cases e : onR zs k (x + 1)
      · exfalso
        have h1 := onR_no (by omega) e
        obtain ⟨r, hr, _, hw, _⟩ := hip
        subst hr
        have h2 : ∀ t, (0 :: r).getD t 0 = atP r t := fun t => rfl
        simp only [List.length_cons] at hx
        have h3 := Walks.av HOK.out (hw.le (j := x) (by omega)) fun t ht => by rw [← h2]; exact h1 t (by omega)
        rw [← h2, hxa, Int.toNat_natCast] at h3
        exact ((HDM.out a k ha hk).1 hm).2 h3
      · rfl
    have HYD : Hid (∀ j, j < zs.length → w5.cell? ⟨yb, yof + j, none⟩ = some (.int .i64 (zs.getD j 0))) := fun j hj => cell_keep HB15.out (HYC.out j hj)
    clear hb5 hok5 p4 HO4 HO24 HM4 HB14 HO5 HO25 hip HBD
    go_wp2_with fail
    go_loop [7] (fun i => ∃ x : Nat, x ≤ zs.length ∧ i = .int .i64 x) (fun i => zs.length - (intOf i).toNat)
    case atStart => exact ⟨0, Nat.zero_le _, rfl⟩
    case round =>
      obtain ⟨x, hx, rfl⟩ := hrel
      by_cases hxl : x < zs.length
      · have hxi : (x : Int) < (zs.length : Int) := by omega
        obtain rfl := HYA.out (by omega)
        obtain ⟨a, ha, hal⟩ := HPL.out x hxl
        have cx := HYD.out x hxl
        rw [ha] at cx
        have HXA : Hid (zs.getD x 0 = (a : Int)) := ha
        have hai : (a : Int) < (ss.length : Int) := by omega
        have ra := HM5.out.row a hal
        clear ha
        go_wp2
        go_loop [8] (fun i => ∃ k : Nat, k ≤ ss.length ∧ i = .int .i64 k) (fun i => ss.length - (intOf i).toNat)
        case atStart => exact ⟨0, Nat.zero_le _, rfl⟩
        case round =>
          obtain ⟨k, hk, rfl⟩ := hrel
          by_cases hkl : k < ss.length
          · have hki : (k : Int) < (ss.length : Int) := by omega
            have ck := HM5.out.cell a k hal hkl
            have HK : Hid _ := HKEY.out x k a hxl hkl hal HXA.out
            go_wp2
            go_loop [9, 10] (fun on i => ∃ j : Nat, j ≤ x + 1 ∧ i = .int .i64 j ∧ on = .bool (onR zs k j)) (fun _ i => x + 1 - (intOf i).toNat)
            case atStart => exact ⟨0, Nat.zero_le _, rfl, by simp [onR]⟩
            case round =>
              obtain ⟨j, hj, rfl, rfl⟩ := hrel
              by_cases hjx : j ≤ x
              · have hji : (j : Int) ≤ (x : Int) := by omega
                have hjl : (j : Int) < (zs.length : Int) := by omega
                have cj := HYD.out j (by omega)
                have HS : Hid (onR zs k (j + 1) = (onR zs k j || decide (zs.getD j 0 = (k : Int)))) := onR_succ (by omega)
                generalize zs.getD j 0 = y at *
                obtain ⟨o, ho⟩ : ∃ o, onR zs k j = o := ⟨_, rfl⟩
                rw [ho]
                have hs := HS.out
                rw [ho] at hs
                have HS2 : Hid _ := hs
                clear hs HS ho
                cases o
                · by_cases hyk : y = (k : Int)
                  · subst hyk
                    go_wp2
                    go_round
                    case rel => exact ⟨j + 1, by omega, by go_num, by rw [HS2.out]; simp⟩
                    case measure => simp [intOf]; omega
                  · have hyb : (y == (k : Int)) = false := by simpa using hyk
                    go_wp2
                    go_round
                    case rel => exact ⟨j + 1, by omega, by go_num, by rw [HS2.out]; simp [hyk]⟩
                    case measure => simp [intOf]; omega
                · go_wp2
                  go_round
                  case rel => exact ⟨j + 1, by omega, by go_num, by rw [HS2.out]; simp⟩
                  case measure => simp [intOf]; omega
              · have hji : ¬ (j : Int) ≤ (x : Int) := by omega
                obtain rfl : j = x + 1 := by omega
                obtain ⟨mk, hmk⟩ : ∃ mk, m a k = mk := ⟨_, rfl⟩
                rw [hmk] at ck
                have hkk := HK.out
                rw [hmk] at hkk
                clear hmk
                cases mk
                · go_wp2
                  go_round
                  case rel => exact ⟨k + 1, by omega, by go_num⟩
                  case measure => simp [intOf]; omega
                · rw [hkk rfl]
                  clear hkk
                  go_wp2
                  go_round
                  case rel => exact ⟨k + 1, by omega, by go_num⟩
                  case measure => simp [intOf]; omega
          · have hki : ¬ (k : Int) < (ss.length : Int) := by omega
            go_wp2
            go_round
            case rel => exact ⟨x + 1, by omega, by go_num⟩
            case measure => simp [intOf]; omega
      · have hxi : ¬ (x : Int) < (zs.length : Int) := by omega
        go_wp2
        exact HQ.out _ HF5.out

set_option maxRecDepth 100000 in
theorem law_lifted (os : Os) (started : os.Started) (H : Type) (enc : TypeId × Value → H) :
    ReturnsInHanded {} Try.checked os 3 .any (Rows.fnFlowDomsSpec.pre6 enc Try.prog Try.f3 Rows.fnFlowDomsRow.domain false) (Rows.fnFlowDomsSpec.post enc Try.prog Try.f3 false true false false) := by
  refine returnsInHanded_of_change (C := Try.checked) own started (by kernel_rfl) Try.func3
    (ChangeSpec.witness6 (enc := enc) (C := Try.checked) false ⟨#[], #[.slice none 0 0], []⟩ 8 (by kernel_rfl) (by kernel_rfl) (by kernel_rfl) (by kernel_rfl)) ?_
  intro W base args ds gs before hval0 hW hcnd _
  have hval : ∀ (j : Nat) t v, Try.f3.params[j]? = some t → args[j]? = some v → Value.okWide Try.prog W .any base t v := hval0
  have hW' := hW
  obtain ⟨p, q, hA0, hV, rfl, hfz, hnd⟩ := hW
  have hA : DataW.TrodAll enc Try.prog W 0 (fun _ => true) true Try.f3.params.toList args.toList ds p := hA0
  rw [Try.params3] at hA hval
  obtain ⟨v0, vs0, d0, ds0, p0, q0, hargs, rfl, rfl, h0, r0⟩ := trodAll_cons hA
  obtain ⟨rfl, rfl, rfl⟩ := trodAll_nil r0
  obtain rfl : args = #[v0] := by cases args; simp_all
  obtain ⟨rfl, rfl⟩ := trodVars_none hV
  have k0 := h0
  have lt0 : ∀ x ∈ p0, x.block < W.heap.size := by obtain ⟨m, hm⟩ := k0; exact DataW.trod_lt m _ _ _ hm
  have c0 := open_code (hval 0 22 v0 rfl rfl) h0
  clear hA0 hval0
  refine law_walk v0 W c0 fun W' bel => ?_
  exact ⟨_, rfl, _, _, _, [], _, [], hW', trodAll_mk1 (shut_bool Try.underlying4 _), (trodAll_cons_mk (Below.trod laidOut (by kernel_rfl) (of_decide_eq_true (by kernel_rfl)) k0 bel lt0) trodAll_mk0), rfl, bel.frame _, fun h => by cases h⟩

theorem fnFlowDoms_holds : Rows.FnFlowDomsSaid :=
  OpenClaim.holds_of_wide 3 Try.f3 rfl rfl rfl rfl rfl rfl rfl ⟨rfl, rfl, rfl, rfl, rfl⟩ rfl rfl rfl rfl rfl (by kernel_rfl) Try.func3 (by kernel_rfl)
    (of_decide_eq_true (by kernel_rfl)) (by unfold Func.isWrapper; first | (rw [if_pos (by decide +kernel)]; kernel_rfl) | (rw [if_neg (by decide +kernel)]; exact ⟨rfl, rfl⟩))
    (fun os started H enc _ => law_lifted os started H enc)
#print axioms fnFlowDoms_holds
end Go.Proofs.Ytpklfgockoocmaa
