/- The model's PathOk. -/
import Derived.Test.YtmplkchdfloppaaGreatDoorPathPG
import Derived.Test.YtmplkchdfloppaaGreatDoorSpecOk
import Derived.Test.YtmplkchdfloppaaGreatDoorSpecSSG
import Derived.Deep.RegionHeld3
import Derived.Deep.RegionWith
import Derived.Deep.QuietTactic
import Derived.BigQuiet
namespace Go.Proofs.YtmplkchdfloppaaGreatDoor
open Go.RowKit

set_option maxRecDepth 100000 in
set_option maxHeartbeats 4000000 in
theorem specPathOk_any {Q : Ending → World → Prop} (v x : Value) (ss : List St) (zs : List Int) (w : World) (h : StepsAt w v ss) (hl : ss.length ≤ 1048576) (hls : ∀ s ∈ ss, s.next.length ≤ 1048576) (hz : IntsAt w x zs) (hzl : zs.length ≤ 1048576)
    (hQ : ∀ (b : Bool) w', Below w.heap.size w w' → (b = true ↔ okB ss = true ∧ IsPath ss zs) → Q (.returned (.bool b)) w') :
    Calls Tryz.prog 11 #[.agg #[v], x] w Q := by
  have HQ : Hid _ := hQ
  clear hQ
  obtain ⟨ao, b, o, cap, rfl, ha, hc⟩ := id h
  obtain ⟨xao, xb, xo, xcap, rfl, hxa, hxc⟩ := id hz
  have HH : Hid (StepsAt w (.slice ao ss.length cap) ss) := h
  have HA : Hid _ := ha
  have HC : Hid (∀ i s, ss[i]? = some s → ∃ nv, StepCells w b (o + i * 8) s nv ∧ IntsAt w nv s.next) := hc
  have HL : Hid _ := hls
  have HXA : Hid _ := hxa
  have HXC : Hid _ := hxc
  clear h hz hls ha hc hxa hxc
  have hb0 : ∀ O, Below w.heap.size w (w.alloc O) := fun O => (Below.refl _ _).alloc (Nat.le_refl _) O
  go_enter Tryz.func11, Tryz.ntmps11
  go_wp2_with fail
  refine specOk_any _ ss _ (HH.out.keep (hb0 _)) hl HL.out fun w1 hb1 => ?_
  have HB1 : Hid (Below w.heap.size w w1) := (hb0 _).trans (hb1.mono (by simp))
  have q1 : w1.cell? ⟨w.heap.size, 0, none⟩ = some (.slice ao ss.length cap) := cell_keep hb1 (by simp [go_sem])
  clear hb1 hb0 HL
  cases hok : okB ss
  · have HF : Hid (false = true ↔ okB ss = true ∧ IsPath ss zs) := ⟨(fun e => by cases e), fun e => by rw [hok] at e; exact e.1⟩
    rw [hok] at HF
    rw [hok] at HQ
    clear hok
    go_wp2
    exact HQ.out _ _ HB1.out HF.out
  have HOK : Hid (okB ss = true) := hok
  obtain ⟨hn1, hn2⟩ := ok_len hok
  obtain rfl := HA.out (by omega)
  have HQ2 : Hid (∀ (b : Bool) w', Below w.heap.size w w' → (b = true ↔ IsPath ss zs) → Q (.returned (.bool b)) w') := fun b w' h1 h2 => HQ.out b w' h1 (by rw [h2]; exact ⟨fun e => ⟨HOK.out, e⟩, fun e => e.2⟩)
  clear hok HQ HH HA
  match zs, hzl, HXA, HXC, HQ2 with
  | [], hzl, HXA, HXC, HQ =>
    have HF : Hid (false = true ↔ IsPath ss []) := ⟨(fun e => by cases e), fun e => absurd e IsPath.nil⟩
    clear HXA HXC
    go_wp2
    exact HQ.out _ _ HB1.out HF.out
  | z0 :: r, hzl, HXA, HXC, HQ =>
    obtain rfl := HXA.out (by simp)
    simp only [List.length_cons] at hzl ⊢
    have c0 := cell_keep HB1.out (HXC.out 0 (by simp))
    simp only [Nat.add_zero, List.getD_cons_zero] at c0
    by_cases h200 : r.length < 200
    case neg =>
      have HF : Hid (false = true ↔ IsPath ss (z0 :: r)) := ⟨(fun e => by cases e), fun e => absurd (IsPath.cons_iff.1 e).2.1 h200⟩
      have hi2 : (200 : Int) < (r.length : Int) + 1 := by omega
      go_wp2
      exact HQ.out _ _ HB1.out HF.out
    have hi2 : ¬ (200 : Int) < (r.length : Int) + 1 := by omega
    by_cases hz0 : z0 = 0
    case neg =>
      have HF : Hid (false = true ↔ IsPath ss (z0 :: r)) := ⟨(fun e => by cases e), fun e => absurd (IsPath.cons_iff.1 e).1 hz0⟩
      have hzb : (z0 != 0) = true := by simpa using hz0
      go_wp2
      exact HQ.out _ _ HB1.out HF.out
    subst hz0
    have HP : Hid (∀ b : Bool, (b = true ↔ Walks ss r r.length ∧ kindAt ss (atP r r.length).toNat = 7) → (b = true ↔ IsPath ss (0 :: r))) := fun b hb => by
      rw [hb, IsPath.cons_iff]
      exact ⟨fun e => ⟨rfl, h200, e⟩, fun e => e.2.2⟩
    have HXK : Hid (∀ k, k ≤ r.length → w.cell? ⟨xb, xo + k, none⟩ = some (.int .i64 (atP r k))) := fun k hk => by
      rw [HXC.out k (by simp; omega)]
      rfl
    clear HXA HXC
    go_wp2
    go_loopw [5] (fun i wr => ∃ k : Nat, k ≤ r.length ∧ i = .int .i64 ((k : Int) + 1) ∧ Walks ss r k ∧ Below w1.heap.size w1 wr) (fun i _ => r.length + 1 - (intOf i).toNat)
    case atStart => exact ⟨0, Nat.zero_le _, rfl, Walks.zero _ _, Below.refl _ _⟩
    case round =>
      obtain ⟨k, hk, rfl, hw, hbr⟩ := hrel
      obtain ⟨m, hm, hmn⟩ := hw.place HOK.out
      have HW : Hid (Walks ss r k) := hw
      have HM : Hid (atP r k = (m : Int)) := hm
      have HBR : Hid (Below w1.heap.size w1 wr) := hbr
      have HBW : Hid (Below w.heap.size w wr) := HB1.out.trans (hbr.mono HB1.out.size)
      have q2 := cell_keep hbr q1
      obtain ⟨nv, st, hin⟩ := HC.out m ss[m] (List.getElem?_eq_getElem hmn)
      obtain ⟨nao, nb, no, ncap, rfl, _, _⟩ := id hin
      obtain ⟨k0, k1, k2, k3, k4, k5, k6, k7⟩ := st.keep HBW.out
      have HI : Hid (IntsAt wr (.slice nao ss[m].next.length ncap) ss[m].next) := hin.keep HBW.out
      have h2 := step_many (ok_step HOK.out (List.getElem?_eq_getElem hmn))
      have hmi : (m : Int) < (ss.length : Int) := by omega
      have HNX : Hid (nextOf ss m = ss[m].next) := nextOf_get hmn
      have HKA : Hid (kindAt ss m = ss[m].kind) := kindAt_get hmn
      have ck := cell_keep HBW.out (HXK.out k hk)
      rw [hm] at ck
      clear hw hm st hin hbr c0
      by_cases hkl : k < r.length
      · have hki : (k : Int) + 1 < (r.length : Int) + 1 := by omega
        have cy := cell_keep HBW.out (HXK.out (k + 1) (by omega))
        rw [atP_succ] at cy
        have HS : Hid (r.getD k 0 ∈ ss[m].next → Walks ss r (k + 1)) := fun e => HW.out.succ (by rw [HM.out, Int.toNat_natCast, HNX.out]; exact e)
        have HN : Hid (r.getD k 0 ∉ ss[m].next → (false = true ↔ IsPath ss (0 :: r))) := fun e => HP.out false ⟨(fun f => by cases f), fun f => by
          have h1 := f.1 k hkl
          rw [HM.out, Int.toNat_natCast, HNX.out] at h1
          exact absurd h1 e⟩
        have HIB : ∀ y : Int, 0 ≤ y → y < (ss.length : Int) → inB y 0 ((ss.length : Int) - 1) = true := fun y h1 h2 => by simp [inB]; omega
        have HIN : Hid (r.getD k 0 ∈ ss[m].next → inB (r.getD k 0) 0 ((ss.length : Int) - 1) = true) := fun e => by
          have h1 := low_next HOK.out m hmn (r.getD k 0) (by rw [nextOf_get hmn]; exact e)
          exact HIB _ h1.1 h1.2
        clear HIB
        have hwn : IntKind.i64.wrap ((ss.length : Int) - 1) = (ss.length : Int) - 1 := by simp [IntKind.wrap, IntKind.bits, IntKind.signed]; omega
        have hwk : IntKind.i64.wrap (k : Int) = (k : Int) := by simp [IntKind.wrap, IntKind.bits, IntKind.signed]; omega
        have hk0 : (0 : Int) ≤ (k : Int) + 1 := by omega
        have hk1 : (0 : Int) ≤ (k : Int) := by omega
        have hk2 : (k : Int) < (r.length : Int) + 1 := by omega
        generalize r.getD k 0 = y at *
        generalize wr = W5 at *
        cases hy : inB y 0 ((ss.length : Int) - 1)
        · have HN2 : Hid _ := HN.out fun e => by
            have := HIN.out e
            rw [hy] at this
            cases this
          have HY : Hid (inB y 0 ((ss.length : Int) - 1) = false) := hy
          clear hy HS HN HIN
          go_wp2_with fail
          have HQC : Hid (∀ w', Calls Tryz.prog 32 #[.int .i64 y, .int .i64 0, .int .i64 ((ss.length : Int) - 1)] w' fun e w'' => e = .returned (.bool false) ∧ w'' = w') := fun w' => l6In_any y 0 ((ss.length : Int) - 1) w' ⟨by rw [HY.out], rfl⟩
          go_quiet ((go_at_call 32; exact Calls.quiet_of_same (HQC.out _)))
          all_goals
            go_wp2
            exact HQ.out _ _ (below_drewN HBW.out _) HN2.out
        · have HY : Hid (inB y 0 ((ss.length : Int) - 1) = true) := hy
          clear hy HIN
          go_wp2_with fail
          go_region_held3 (fun wx => wx.cell? ⟨w.heap.size, 0, none⟩ = some (.slice (some ⟨b, o, none⟩) ss.length cap) ∧ wx.cell? ⟨xb, xo + k, none⟩ = some (.int .i64 (m : Int)) ∧ wx.cell? ⟨xb, xo + (k + 1), none⟩ = some (.int .i64 y) ∧ wx.cell? ⟨b, o + m * 8, none⟩ = some (.int .i64 ss[m].kind) ∧ wx.cell? ⟨b, o + m * 8 + 1, none⟩ = some (.int .i64 ss[m].dst) ∧ wx.cell? ⟨b, o + m * 8 + 2, none⟩ = some (.int .i64 ss[m].op) ∧ wx.cell? ⟨b, o + m * 8 + 3, none⟩ = some (.int .i64 ss[m].av) ∧ wx.cell? ⟨b, o + m * 8 + 4, none⟩ = some (.int .i64 ss[m].an) ∧ wx.cell? ⟨b, o + m * 8 + 5, none⟩ = some (.int .i64 ss[m].bv) ∧ wx.cell? ⟨b, o + m * 8 + 6, none⟩ = some (.int .i64 ss[m].bn) ∧ wx.cell? ⟨b, o + m * 8 + 7, none⟩ = some (.slice nao ss[m].next.length ncap)) (go_keep) (first
            | (go_at_call 32; refine l6In_any _ _ _ _ ?_; rw [HY.out])
            | (go_at_call 33; refine l2Goes_any _ ss[m] y _ (HI.out.keep (Below.refl _ _).drew) (by omega) ?_; intro w7 hb7; have hj : ∀ (p : Addr) (u : Value), W5.cell? p = some u → w7.cell? p = some u := fun p u hp => cell_keep hb7 (show W5.drew.cell? p = some u from hp); have j0 := hj _ _ q2; have j1 := hj _ _ ck; have j2 := hj _ _ cy; have j3 := hj _ _ k0; have j4 := hj _ _ k1; have j5 := hj _ _ k2; have j6 := hj _ _ k3; have j7 := hj _ _ k4; have j8 := hj _ _ k5; have j9 := hj _ _ k6; have ja := hj _ _ k7; clear hj))
          all_goals
            have HB7 : Hid (Below W5.heap.size W5 w7) := (Below.refl _ _).drew.trans hb7
            clear hb7
            by_cases hyn : y ∈ ss[m].next
            · have HS2 : Hid _ := HS.out hyn
              rw [decide_eq_true hyn]
              clear hyn HS HN
              go_wp2
              go_roundw
              case rel => exact ⟨k + 1, by omega, by go_num, HS2.out, HBR.out.trans (HB7.out.mono HBR.out.size)⟩
              case measure => simp [intOf]; omega
            · have HN2 : Hid _ := HN.out hyn
              rw [decide_eq_false hyn]
              clear hyn HS HN
              go_wp2
              exact HQ.out _ _ (HBW.out.trans (HB7.out.mono HBW.out.size)) HN2.out
      · have hki : ¬ (k : Int) + 1 < (r.length : Int) + 1 := by omega
        obtain rfl : k = r.length := by omega
        have HF : Hid (∀ b : Bool, (b = true ↔ ss[m].kind = 7) → (b = true ↔ IsPath ss (0 :: r))) := fun b hb => HP.out b (by
          rw [hb, HM.out, Int.toNat_natCast, HKA.out]
          exact ⟨fun e => ⟨HW.out, e⟩, fun e => e.2⟩)
        generalize ss[m].kind = kd at *
        go_wp2_with fail
        go_quiet (fail)
        go_wp2
        exact HQ.out _ _ (below_drewN HBW.out _) (HF.out _ (by simp))
end Go.Proofs.YtmplkchdfloppaaGreatDoor
