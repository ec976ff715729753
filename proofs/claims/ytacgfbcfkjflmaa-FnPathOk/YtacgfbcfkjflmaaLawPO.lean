/-
  For every code of bytes, of the program and the row of numbers that are drawn from it, PathOk answers as the model does, and says that it is a path just if it begins with the first step, each may come behind the one ahead, and the last is an end: the law FnPathOk answers true. No condition.
-/
import Derived.Test.YtacgfbcfkjflmaaRows
import Derived.Test.YtacgfbcfkjflmaaDrawPOk
import Derived.Test.YtacgfbcfkjflmaaLkGo
import Derived.Test.YtacgfbcfkjflmaaSpecPath
import Derived.Test.YtacgfbcfkjflmaaImplPath
import Derived.OpenShut
import Derived.ShutString
import Derived.ChangeOld
import Derived.Below
import Derived.Deep.RegionHeld3
import Derived.Deep.QuietTactic
import Derived.BigQuiet
namespace Go.Proofs.Ytacgfbcfkjflmaa
open Go.ChangeShapes Go.WideShapes Go.ChangeAt Go.RowKit

theorem own : ownKnob Try.prog.godebug = none := by kernel_rfl
theorem laidOut : laidOutB Try.prog = true := by kernel_rfl

set_option maxRecDepth 100000 in
set_option maxHeartbeats 16000000 in
theorem law_walk (v : Value) (w : World) (h : CodeAt w v) {Q : Ending → World → Prop} (hQ : ∀ w', Below w.heap.size w w' → Q (.returned (.bool true)) w') :
    Calls Try.prog 6 #[v] w Q := by
  have HQ : Hid (∀ w', Below w.heap.size w w' → Q (.returned (.bool true)) w') := hQ
  clear hQ
  have HC : Hid _ := h
  obtain ⟨ao, bb, bo, bl, cap, rfl, h1, h2, h3, h4, h5⟩ := h
  clear h3 h4 h5
  by_cases hbl : 1048576 < bl
  · go_enter Try.func6, Try.ntmps6
    go_wp2
    exact HQ.out _ (Below.refl _ _)
  go_enter Try.func6, Try.ntmps6
  go_wp2_with fail
  refine drawPathOk_any _ _ HC.out fun v1 pv ss zs w1 hS1 hl hls hz1 hzl hb1 => ?_
  clear HC
  obtain ⟨A1, b1, o1, c1, rfl, hA1, hC1⟩ := id hS1.at
  obtain ⟨yo, yb, yof, ycap, rfl, _, hya, hyc⟩ := id hz1
  have HS1 : Hid (StepsAt w1 (.slice A1 ss.length c1) ss) := hS1.at
  have HZ1 : Hid (IntsC w1 (.slice yo zs.length ycap) zs) := hz1
  have HLS : Hid (∀ s ∈ ss, s.next.length ≤ 1048576) := fun s hs => Nat.le_trans (hls s hs) (by decide)
  have HA1 : Hid _ := hA1
  have HC1 : Hid (∀ i s, ss[i]? = some s → ∃ nv, StepCells w1 b1 (o1 + i * 8) s nv ∧ IntsAt w1 nv s.next) := hC1
  have HYA : Hid _ := hya
  have HYC : Hid _ := hyc
  have HB1 : Hid (Below w.heap.size w w1) := hb1
  clear hS1 hls hz1 hA1 hC1 hya hyc hb1
  have hb0 : ∀ O, Below w1.heap.size w1 (w1.alloc O) := fun O => (Below.refl _ _).alloc (Nat.le_refl _) O
  go_wp2_with fail
  refine implPathOk_any _ _ ss zs _ (HS1.out.keep (hb0 _)) (by omega) HLS.out (HZ1.out.keep (hb0 _)) (by omega) fun ok w2 hb2 hok => ?_
  have HB2 : Hid (Below w1.heap.size w1 w2) := (hb0 _).trans (hb2.mono (by simp))
  have q2 : w2.cell? ⟨w1.heap.size, 0, none⟩ = some (.slice A1 ss.length c1) := cell_keep hb2 (by simp [go_sem])
  have HOK : Hid (ok = true ↔ okB ss = true ∧ IsPath ss zs) := hok
  clear hb2 hb0 hok
  go_wp2_with fail
  refine specPathOk_any _ _ ss zs _ (HS1.out.keep HB2.out) (by omega) HLS.out (HZ1.out.keep HB2.out).at (by omega) fun ok2 w3 hb3 hok2 => ?_
  obtain rfl : ok = ok2 := Bool.eq_iff_iff.2 (HOK.out.trans hok2.symm)
  have HB3 : Hid (Below w1.heap.size w1 w3) := HB2.out.trans (hb3.mono HB2.out.size)
  have q3 := cell_keep hb3 q2
  have hne : (ok != ok) = false := by simp
  clear hb3 hok2 q2 HB2
  go_wp2_with fail
  refine specOk_any _ ss _ (HS1.out.keep HB3.out) (by omega) HLS.out fun w4 hb4 => ?_
  have HB4 : Hid (Below w1.heap.size w1 w4) := HB3.out.trans (hb4.mono HB3.out.size)
  have q4 := cell_keep hb4 q3
  clear hb4 q3 HB3
  have hee : (ok == ok) = true := by simp
  cases hokb : okB ss
  · clear hokb
    go_wp2_with fail
    refine specPathOk_any _ _ ss zs _ (HS1.out.keep HB4.out) (by omega) HLS.out (HZ1.out.keep HB4.out).at (by omega) fun ok2 w5 hb5 hok2 => ?_
    obtain rfl : ok = ok2 := Bool.eq_iff_iff.2 (HOK.out.trans hok2.symm)
    have HBF : Hid (Below w.heap.size w w5) := HB1.out.trans ((HB4.out.trans (hb5.mono HB4.out.size)).mono HB1.out.size)
    clear hb5 hok2
    go_wp2
    exact HQ.out _ HBF.out
  have HOB : Hid (okB ss = true) := hokb
  obtain ⟨hn1, hn2⟩ := ok_len hokb
  obtain rfl := HA1.out (by omega)
  clear hokb
  match zs, hzl, HZ1, HYA, HYC, HOK with
  | [], hzl, HZ1, HYA, HYC, HOK =>
    go_wp2_with fail
    refine specPathOk_any _ _ ss [] _ (HS1.out.keep HB4.out) (by omega) HLS.out (HZ1.out.keep HB4.out).at (by simp) fun ok2 w5 hb5 hok2 => ?_
    obtain rfl : ok = ok2 := Bool.eq_iff_iff.2 (HOK.out.trans hok2.symm)
    have HBF : Hid (Below w.heap.size w w5) := HB1.out.trans ((HB4.out.trans (hb5.mono HB4.out.size)).mono HB1.out.size)
    clear hb5 hok2
    go_wp2
    exact HQ.out _ HBF.out
  | z0 :: r, hzl, HZ1, HYA, HYC, HOK =>
    obtain rfl := HYA.out (by simp)
    simp only [List.length_cons] at hzl ⊢
    have hnz : ¬ (r.length : Int) + 1 = 0 := by omega
    by_cases h200 : r.length < 200
    case neg =>
      have hi2 : (200 : Int) < (r.length : Int) + 1 := by omega
      go_wp2_with fail
      refine specPathOk_any _ _ ss (z0 :: r) _ (HS1.out.keep HB4.out) (by omega) HLS.out (HZ1.out.keep HB4.out).at (by simp; omega) fun ok2 w5 hb5 hok2 => ?_
      obtain rfl : ok = ok2 := Bool.eq_iff_iff.2 (HOK.out.trans hok2.symm)
      have HBF : Hid (Below w.heap.size w w5) := HB1.out.trans ((HB4.out.trans (hb5.mono HB4.out.size)).mono HB1.out.size)
      clear hb5 hok2
      go_wp2
      exact HQ.out _ HBF.out
    have hi2 : ¬ (200 : Int) < (r.length : Int) + 1 := by omega
    have c0 := cell_keep HB4.out (HYC.out 0 (by simp))
    simp only [Nat.add_zero, List.getD_cons_zero] at c0
    have HOP : Hid (ok = true ↔ z0 = 0 ∧ Walks ss r r.length ∧ kindAt ss (atP r r.length).toNat = 7) := by
      rw [Hid, HOK.out, IsPath.cons_iff]
      exact ⟨fun e => ⟨e.2.1, e.2.2.2⟩, fun e => ⟨HOB.out, e.1, h200, e.2⟩⟩
    have HXC : Hid (∀ k, k ≤ r.length → z0 = 0 → w1.cell? ⟨yb, yof + k, none⟩ = some (.int .i64 (atP r k))) := fun k hk h0 => by
      rw [HYC.out k (by simp; omega), h0]
      rfl
    have HXD : Hid (∀ k, k < r.length → w1.cell? ⟨yb, yof + (k + 1), none⟩ = some (.int .i64 (r.getD k 0))) := fun k hk => by
      rw [HYC.out (k + 1) (by simp; omega)]
      rfl
    clear HYA HYC HOK
    obtain ⟨g0, hg0⟩ : ∃ g0 : Bool, (z0 == 0) = g0 := ⟨_, rfl⟩
    have HG0 : Hid (g0 = true → z0 = 0 ∧ Walks ss r 0) := fun e => ⟨by rw [← hg0] at e; simpa using e, Walks.zero _ _⟩
    have HG1 : Hid (g0 = false → ¬ (z0 = 0 ∧ Walks ss r r.length)) := fun e h => by rw [← hg0, h.1] at e; cases e
    have hgi : decide (z0 = 0) = g0 := by rw [← hg0]; by_cases e : z0 = 0 <;> simp [e]
    go_wp2
    go_loopw [6, 7] (fun gv i wr => ∃ (k : Nat) (g : Bool), k ≤ r.length ∧ i = .int .i64 ((k : Int) + 1) ∧ gv = .bool g ∧ (g = true → z0 = 0 ∧ Walks ss r k) ∧ (g = false → ¬ (z0 = 0 ∧ Walks ss r r.length)) ∧ Below w4.heap.size w4 wr) (fun _ i _ => r.length + 1 - (intOf i).toNat)
    case atStart => exact ⟨0, g0, Nat.zero_le _, rfl, by first | rfl | rw [hg0] | rw [hgi], HG0.out, HG1.out, Below.refl _ _⟩
    case round =>
      clear HG0 HG1 hg0 hgi c0
      obtain ⟨k, g, hk, rfl, rfl, hgt, hgf, hbr⟩ := hrel
      have HBR : Hid (Below w4.heap.size w4 wr) := hbr
      have HBW : Hid (Below w1.heap.size w1 wr) := HB4.out.trans (hbr.mono HB4.out.size)
      have HFW : Hid (Below w.heap.size w wr) := HB1.out.trans (HBW.out.mono HB1.out.size)
      have q5 := cell_keep hbr q4
      clear hbr
      cases g
      · have HNP : Hid _ := hgf rfl
        have hokf : ok = false := by
          cases e : ok
          · rfl
          · exact absurd ⟨(HOP.out.1 e).1, (HOP.out.1 e).2.1⟩ HNP.out
        subst hokf
        clear hgt hgf
        by_cases hkl : k < r.length
        · have hki : (k : Int) + 1 < (r.length : Int) + 1 := by omega
          go_wp2_with fail
          go_quiet (fail)
          go_wp2
          exact HQ.out _ (below_drewN HFW.out _)
        · have hki : ¬ (k : Int) + 1 < (r.length : Int) + 1 := by omega
          go_wp2_with fail
          go_quiet (fail)
          go_wp2
          exact HQ.out _ (below_drewN HFW.out _)
      · obtain ⟨h0, hw⟩ := hgt rfl
        obtain ⟨m, hm, hmn⟩ := hw.place HOB.out
        have HW : Hid (Walks ss r k) := hw
        have HM : Hid (atP r k = (m : Int)) := hm
        have H0 : Hid (z0 = 0) := h0
        obtain ⟨nv, st, hin⟩ := HC1.out m ss[m] (List.getElem?_eq_getElem hmn)
        obtain ⟨nao, nb, no, ncap, rfl, _, _⟩ := id hin
        obtain ⟨k0, k1, k2, k3, k4, k5, k6, k7⟩ := st.keep HBW.out
        have HI : Hid (IntsAt wr (.slice nao ss[m].next.length ncap) ss[m].next) := hin.keep HBW.out
        have h2 := step_many (ok_step HOB.out (List.getElem?_eq_getElem hmn))
        have hmi : (m : Int) < (ss.length : Int) := by omega
        have HNX : Hid (nextOf ss m = ss[m].next) := nextOf_get hmn
        have HKA : Hid (kindAt ss m = ss[m].kind) := kindAt_get hmn
        have ck := cell_keep HBW.out (HXC.out k hk h0)
        rw [hm] at ck
        clear hw hm st hin hgt hgf h0
        have hwk : IntKind.i64.wrap (k : Int) = (k : Int) := by simp [IntKind.wrap, IntKind.bits, IntKind.signed]; omega
        have hk0 : (0 : Int) ≤ (k : Int) + 1 := by omega
        have hk1 : (0 : Int) ≤ (k : Int) := by omega
        have hk2 : (k : Int) < (r.length : Int) + 1 := by omega
        by_cases hkl : k < r.length
        · have hki : (k : Int) + 1 < (r.length : Int) + 1 := by omega
          have cy := cell_keep HBW.out (HXD.out k hkl)
          have HS : Hid (r.getD k 0 ∈ ss[m].next → Walks ss r (k + 1)) := fun e => HW.out.succ (by rw [HM.out, Int.toNat_natCast, HNX.out]; exact e)
          have HN : Hid (r.getD k 0 ∉ ss[m].next → ¬ (z0 = 0 ∧ Walks ss r r.length)) := fun e f => by
            have h1 := f.2 k hkl
            rw [HM.out, Int.toNat_natCast, HNX.out] at h1
            exact absurd h1 e
          have HIN : Hid (r.getD k 0 ∈ ss[m].next → 0 ≤ r.getD k 0 ∧ r.getD k 0 < (ss.length : Int)) := fun e => low_next HOB.out m hmn (r.getD k 0) (by rw [nextOf_get hmn]; exact e)
          generalize r.getD k 0 = y at *
          generalize wr = W5 at *
          by_cases hy0 : 0 ≤ y
          case neg =>
            have HN2 : Hid _ := HN.out fun e => hy0 (HIN.out e).1
            have hyb : (decide (0 ≤ y)) = false := by simpa using hy0
            clear HS HN HIN
            go_wp2_with fail
            go_quiet (fail)
            go_wp2
            go_roundw
            case rel => exact ⟨k + 1, false, by omega, by go_num, rfl, (fun e => by cases e), fun _ => HN2.out, below_drewN HBR.out _⟩
            case measure => simp [intOf]; omega
          by_cases hy1 : y < (ss.length : Int)
          case neg =>
            have HN2 : Hid _ := HN.out fun e => hy1 (HIN.out e).2
            have hyb : (decide (0 ≤ y)) = true := by simpa using hy0
            have hyc : (decide (y < (ss.length : Int))) = false := by simpa using hy1
            clear HS HN HIN
            go_wp2_with fail
            go_quiet (fail)
            go_wp2
            go_roundw
            case rel => exact ⟨k + 1, false, by omega, by go_num, rfl, (fun e => by cases e), fun _ => HN2.out, below_drewN HBR.out _⟩
            case measure => simp [intOf]; omega
          have hyb : (decide (0 ≤ y)) = true := by simpa using hy0
          have hyc : (decide (y < (ss.length : Int))) = true := by simpa using hy1
          clear HIN
          go_wp2_with fail
          go_region_held3 (fun wx => wx.cell? ⟨w1.heap.size, 0, none⟩ = some (.slice (some ⟨b1, o1, none⟩) ss.length c1) ∧ wx.cell? ⟨yb, yof + k, none⟩ = some (.int .i64 (m : Int)) ∧ wx.cell? ⟨yb, yof + (k + 1), none⟩ = some (.int .i64 y) ∧ wx.cell? ⟨b1, o1 + m * 8, none⟩ = some (.int .i64 ss[m].kind) ∧ wx.cell? ⟨b1, o1 + m * 8 + 1, none⟩ = some (.int .i64 ss[m].dst) ∧ wx.cell? ⟨b1, o1 + m * 8 + 2, none⟩ = some (.int .i64 ss[m].op) ∧ wx.cell? ⟨b1, o1 + m * 8 + 3, none⟩ = some (.int .i64 ss[m].av) ∧ wx.cell? ⟨b1, o1 + m * 8 + 4, none⟩ = some (.int .i64 ss[m].an) ∧ wx.cell? ⟨b1, o1 + m * 8 + 5, none⟩ = some (.int .i64 ss[m].bv) ∧ wx.cell? ⟨b1, o1 + m * 8 + 6, none⟩ = some (.int .i64 ss[m].bn) ∧ wx.cell? ⟨b1, o1 + m * 8 + 7, none⟩ = some (.slice nao ss[m].next.length ncap)) (go_keep) (first
            | (go_at_call 32; refine lkGoes_any _ ss[m] y _ (HI.out.keep (Below.refl _ _).drew) (by omega) ?_; intro w7 hb7; have hj : ∀ (p : Addr) (u : Value), W5.cell? p = some u → w7.cell? p = some u := fun p u hp => cell_keep hb7 (show W5.drew.cell? p = some u from hp); have j0 := hj _ _ q5; have j1 := hj _ _ ck; have j2 := hj _ _ cy; have j3 := hj _ _ k0; have j4 := hj _ _ k1; have j5 := hj _ _ k2; have j6 := hj _ _ k3; have j7 := hj _ _ k4; have j8 := hj _ _ k5; have j9 := hj _ _ k6; have ja := hj _ _ k7; clear hj))
          all_goals
            have HB7 : Hid (Below w4.heap.size w4 w7) := HBR.out.trans (((Below.refl _ _).drew.trans hb7).mono HBR.out.size)
            clear hb7
            by_cases hyn : y ∈ ss[m].next
            · have HS2 : Hid _ := HS.out hyn
              rw [decide_eq_true hyn]
              clear hyn HS HN
              go_wp2
              go_roundw
              case rel => exact ⟨k + 1, true, by omega, by go_num, rfl, fun _ => ⟨H0.out, HS2.out⟩, (fun e => by cases e), HB7.out⟩
              case measure => simp [intOf]; omega
            · have HN2 : Hid _ := HN.out hyn
              rw [decide_eq_false hyn]
              clear hyn HS HN
              go_wp2
              go_roundw
              case rel => exact ⟨k + 1, false, by omega, by go_num, rfl, (fun e => by cases e), fun _ => HN2.out, HB7.out⟩
              case measure => simp [intOf]; omega
        · have hki : ¬ (k : Int) + 1 < (r.length : Int) + 1 := by omega
          obtain rfl : k = r.length := by omega
          have hok7 : ok = decide (ss[m].kind = 7) := by
            have e1 : ok = true ↔ ss[m].kind = 7 := by
              rw [HOP.out, HM.out, Int.toNat_natCast, HKA.out]
              exact ⟨fun e => e.2.2, fun e => ⟨H0.out, HW.out, e⟩⟩
            cases e2 : ok
            · rw [e2] at e1
              have : ¬ ss[m].kind = 7 := fun e => by have := e1.2 e; cases this
              simp [this]
            · rw [e2] at e1
              simp [e1.1 rfl]
          generalize ss[m].kind = kd at *
          subst hok7
          by_cases h7 : kd = 7
          · subst h7
            go_wp2_with fail
            go_quiet (fail)
            go_wp2
            exact HQ.out _ (below_drewN HFW.out _)
          · have h7b : (kd == 7) = false := by simpa using h7
            have h7c : decide (kd = 7) = false := by simpa using h7
            rw [h7c] at *
            go_wp2_with fail
            go_quiet (fail)
            go_wp2
            exact HQ.out _ (below_drewN HFW.out _)

set_option maxRecDepth 100000 in
theorem law_lifted (os : Os) (started : os.Started) (H : Type) (enc : TypeId × Value → H) :
    ReturnsInHanded {} Try.checked os 6 .any (Rows.fnPathOkSpec.pre6 enc Try.prog Try.f6 Rows.fnPathOkRow.domain false) (Rows.fnPathOkSpec.post enc Try.prog Try.f6 false true false false) := by
  refine returnsInHanded_of_change (C := Try.checked) own started (by kernel_rfl) Try.func6
    (ChangeSpec.witness6 (enc := enc) (C := Try.checked) false ⟨#[], #[.slice none 0 0], []⟩ 8 (by kernel_rfl) (by kernel_rfl) (by kernel_rfl) (by kernel_rfl)) ?_
  intro W base args ds gs before hval0 hW hcnd _
  have hval : ∀ (j : Nat) t v, Try.f6.params[j]? = some t → args[j]? = some v → Value.okWide Try.prog W .any base t v := hval0
  have hW' := hW
  obtain ⟨p, q, hA0, hV, rfl, hfz, hnd⟩ := hW
  have hA : DataW.TrodAll enc Try.prog W 0 (fun _ => true) true Try.f6.params.toList args.toList ds p := hA0
  rw [Try.params6] at hA hval
  obtain ⟨v0, vs0, d0, ds0, p0, q0, hargs, rfl, rfl, h0, r0⟩ := trodAll_cons hA
  obtain ⟨rfl, rfl, rfl⟩ := trodAll_nil r0
  obtain rfl : args = #[v0] := by cases args; simp_all
  obtain ⟨rfl, rfl⟩ := trodVars_none hV
  have k0 := h0
  have lt0 : ∀ x ∈ p0, x.block < W.heap.size := by obtain ⟨m, hm⟩ := k0; exact DataW.trod_lt m _ _ _ hm
  have c0 := open_code (hval 0 61 v0 rfl rfl) h0
  clear hA0 hval0
  refine law_walk v0 W c0 fun W' bel => ?_
  exact ⟨_, rfl, _, _, _, [], _, [], hW', trodAll_mk1 (shut_bool Try.underlying4 _), (trodAll_cons_mk (Below.trod laidOut (by kernel_rfl) (of_decide_eq_true (by kernel_rfl)) k0 bel lt0) trodAll_mk0), rfl, bel.frame _, fun h => by cases h⟩

theorem fnPathOk_holds : Rows.FnPathOkSaid :=
  OpenClaim.holds_of_wide 6 Try.f6 rfl rfl rfl rfl rfl rfl rfl ⟨rfl, rfl, rfl, rfl, rfl⟩ rfl rfl rfl rfl rfl (by kernel_rfl) Try.func6 (by kernel_rfl)
    (of_decide_eq_true (by kernel_rfl)) (by unfold Func.isWrapper; first | (rw [if_pos (by decide +kernel)]; kernel_rfl) | (rw [if_neg (by decide +kernel)]; exact ⟨rfl, rfl⟩))
    (fun os started H enc _ => law_lifted os started H enc)
#print axioms fnPathOk_holds
end Go.Proofs.Ytacgfbcfkjflmaa
