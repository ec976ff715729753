/- The program's isPath and PathOk. -/
import Derived.Test.YtacgfbcfkjflmaaPathP
import Derived.Test.YtacgfbcfkjflmaaContI
import Derived.Test.YtacgfbcfkjflmaaImplOk
namespace Go.Proofs.Ytacgfbcfkjflmaa
open Go.RowKit

set_option maxRecDepth 100000 in
set_option maxHeartbeats 2000000 in
theorem isPath_any {Q : Ending → World → Prop} (v x : Value) (ss : List St) (zs : List Int) (w : World) (h : StepsAt w v ss) (hok : okB ss = true) (hz : IntsC w x zs) (hl : zs.length ≤ 1048576)
    (hQ : ∀ b : Bool, (b = true ↔ IsPath ss zs) → Q (.returned (.bool b)) w) :
    Calls Try.prog 41 #[v, x] w Q := by
  have HQ : Hid _ := hQ
  clear hQ
  obtain ⟨hn1, hn2⟩ := ok_len hok
  have HOK : Hid (okB ss = true) := hok
  obtain ⟨ao, b, o, cap, rfl, ha, hc⟩ := id h
  obtain rfl := ha (by omega)
  have HC : Hid (∀ i s, ss[i]? = some s → ∃ nv, StepCells w b (o + i * 8) s nv ∧ IntsAt w nv s.next) := hc
  obtain ⟨xao, xb, xo, xcap, rfl, hxl, hxa, hxc⟩ := id hz
  clear ha hc h hok hz
  match zs, hl, hxl, hxa, hxc, HQ with
  | [], hl, hxl, hxa, hxc, HQ =>
    have HF : Hid (false = true ↔ IsPath ss []) := ⟨(fun e => by cases e), fun e => absurd e IsPath.nil⟩
    clear hxa hxc
    go_enter Try.func41, Try.ntmps41
    go_wp2
    exact HQ.out _ HF.out
  | z0 :: r, hl, hxl, hxa, hxc, HQ =>
    obtain rfl := hxa (by simp)
    simp only [List.length_cons] at hl hxl hxc ⊢
    have c0 := hxc 0 (by omega)
    simp only [Nat.add_zero, List.getD_cons_zero] at c0
    have HR : Hid (∀ i, i < r.length → w.cell? ⟨xb, xo + 1 + i, none⟩ = some (.int .i64 (r.getD i 0))) := fun i hi => by
      have h1 := hxc (i + 1) (by omega)
      rw [List.getD_cons_succ, show xo + (i + 1) = xo + 1 + i by omega] at h1
      exact h1
    clear hxa hxc
    by_cases h200 : r.length < 200
    case neg =>
      have HF : Hid (false = true ↔ IsPath ss (z0 :: r)) := ⟨(fun e => by cases e), fun e => absurd (IsPath.cons_iff.1 e).2.1 h200⟩
      have hi2 : (200 : Int) < (r.length : Int) + 1 := by omega
      go_enter Try.func41, Try.ntmps41
      go_wp2
      exact HQ.out _ HF.out
    have hi2 : ¬ (200 : Int) < (r.length : Int) + 1 := by omega
    by_cases hz0 : z0 = 0
    case neg =>
      have HF : Hid (false = true ↔ IsPath ss (z0 :: r)) := ⟨(fun e => by cases e), fun e => absurd (IsPath.cons_iff.1 e).1 hz0⟩
      have hzb : (z0 != 0) = true := by simpa using hz0
      go_enter Try.func41, Try.ntmps41
      go_wp2
      exact HQ.out _ HF.out
    subst hz0
    have HP : Hid (∀ b : Bool, (b = true ↔ Walks ss r r.length ∧ kindAt ss (atP r r.length).toNat = 7) → (b = true ↔ IsPath ss (0 :: r))) := fun b hb => by
      rw [hb, IsPath.cons_iff]
      exact ⟨fun e => ⟨rfl, h200, e⟩, fun e => e.2.2⟩
    by_cases hc1 : xcap = 1
    · obtain rfl : r = [] := List.eq_nil_of_length_eq_zero (by omega)
      subst hc1
      obtain ⟨nv, st, _⟩ := HC.out 0 ss[0] (List.getElem?_eq_getElem hn1)
      have k0 := st.c0
      simp only [Nat.zero_mul, Nat.add_zero] at k0
      have HK : Hid (∀ b : Bool, (b = true ↔ ss[0].kind = 7) → (b = true ↔ IsPath ss [0])) := fun b hb => HP.out b (by
        rw [hb]
        have e1 : kindAt ss (atP ([] : List Int) 0).toNat = ss[0].kind := kindAt_get hn1
        exact ⟨fun e => ⟨Walks.zero _ _, e1.trans e⟩, fun e => e1.symm.trans e.2⟩)
      have hni : (0 : Int) < (ss.length : Int) := by omega
      clear st HR HP
      generalize ss[0].kind = kd at *
      go_enter Try.func41, Try.ntmps41
      go_wp2
      go_loop [5, 25] (fun at_ i => at_ = .int .i64 0 ∧ i = .int .i64 0) (fun _ _ => 0)
      case atStart => exact ⟨rfl, rfl⟩
      case round =>
        obtain ⟨rfl, rfl⟩ := hrel
        go_wp2
        exact HQ.out _ (HK.out _ (by simp))
    · go_enter Try.func41, Try.ntmps41
      go_wp2
      go_loop [5, 25] (fun at_ i => ∃ k : Nat, k ≤ r.length ∧ i = .int .i64 k ∧ at_ = .int .i64 (atP r k) ∧ Walks ss r k) (fun _ i => r.length - (intOf i).toNat)
      case atStart => exact ⟨0, Nat.zero_le _, rfl, rfl, Walks.zero _ _⟩
      case round =>
        obtain ⟨k, hk, rfl, rfl, hw⟩ := hrel
        obtain ⟨m, hm, hmn⟩ := hw.place HOK.out
        have HW : Hid (Walks ss r k) := hw
        have HM : Hid (atP r k = (m : Int)) := hm
        rw [hm]
        obtain ⟨nv, st, hin⟩ := HC.out m ss[m] (List.getElem?_eq_getElem hmn)
        obtain ⟨nao, nb, no, ncap, rfl, _, _⟩ := id hin
        have k0 := st.c0
        have k7 := st.c7
        have HI : Hid (IntsAt w (.slice nao ss[m].next.length ncap) ss[m].next) := hin
        have h2 := step_many (ok_step HOK.out (List.getElem?_eq_getElem hmn))
        have hmi : (m : Int) < (ss.length : Int) := by omega
        have HNX : Hid (nextOf ss m = ss[m].next) := nextOf_get hmn
        have HKA : Hid (kindAt ss m = ss[m].kind) := kindAt_get hmn
        clear hw hm st hin
        by_cases hkl : k < r.length
        · have hki : (k : Int) < (r.length : Int) := by omega
          have ck := HR.out k hkl
          have HE : Hid (atP r (k + 1) = r.getD k 0) := atP_succ r k
          have HS : Hid (r.getD k 0 ∈ ss[m].next → Walks ss r (k + 1)) := fun e => HW.out.succ (by rw [HM.out, Int.toNat_natCast, HNX.out]; exact e)
          have HN : Hid (r.getD k 0 ∉ ss[m].next → (false = true ↔ IsPath ss (0 :: r))) := fun e => HP.out false ⟨(fun f => by cases f), fun f => by
            have h1 := f.1 k hkl
            rw [HM.out, Int.toNat_natCast, HNX.out] at h1
            exact absurd h1 e⟩
          generalize r.getD k 0 = y at *
          go_wp2_with fail
          refine containsInt_any _ ss[m].next y _ HI.out (by omega) ?_
          by_cases hy : y ∈ ss[m].next
          · have HS2 : Hid _ := HS.out hy
            rw [decide_eq_true hy]
            clear hy HS HN
            go_wp2
            go_round
            case rel => exact ⟨k + 1, by omega, by go_num, by rw [HE.out], HS2.out⟩
            case measure => simp [intOf]; omega
          · have HN2 : Hid _ := HN.out hy
            rw [decide_eq_false hy]
            clear hy HS HN
            go_wp2
            exact HQ.out _ HN2.out
        · have hki : ¬ (k : Int) < (r.length : Int) := by omega
          obtain rfl : k = r.length := by omega
          have HF : Hid (∀ b : Bool, (b = true ↔ ss[m].kind = 7) → (b = true ↔ IsPath ss (0 :: r))) := fun b hb => HP.out b (by
            rw [hb, HM.out, Int.toNat_natCast, HKA.out]
            exact ⟨fun e => ⟨HW.out, e⟩, fun e => e.2⟩)
          generalize ss[m].kind = kd at *
          go_wp2
          exact HQ.out _ (HF.out _ (by simp))

set_option maxHeartbeats 1000000 in
theorem implPathOk_any {Q : Ending → World → Prop} (v x : Value) (ss : List St) (zs : List Int) (w : World) (h : StepsAt w v ss) (hl : ss.length ≤ 1048576) (hls : ∀ s ∈ ss, s.next.length ≤ 1048576) (hz : IntsC w x zs) (hzl : zs.length ≤ 1048576)
    (hQ : ∀ (b : Bool) w', Below w.heap.size w w' → (b = true ↔ okB ss = true ∧ IsPath ss zs) → Q (.returned (.bool b)) w') :
    Calls Try.prog 13 #[.agg #[v], x] w Q := by
  have HQ : Hid _ := hQ
  clear hQ
  obtain ⟨ao, b, o, cap, rfl, _, _⟩ := id h
  obtain ⟨xao, xb, xo, xcap, rfl, _, _, _⟩ := id hz
  have HH : Hid (StepsAt w (.slice ao ss.length cap) ss) := h
  have HZ : Hid (IntsC w (.slice xao zs.length xcap) zs) := hz
  have HL : Hid _ := hls
  clear h hz hls
  have hb0 : ∀ O, Below w.heap.size w (w.alloc O) := fun O => (Below.refl _ _).alloc (Nat.le_refl _) O
  go_enter Try.func13, Try.ntmps13
  go_wp2_with fail
  refine implOk_any _ ss _ (HH.out.keep (hb0 _)) hl HL.out fun w1 hb1 => ?_
  have HB1 : Hid (Below w.heap.size w w1) := (hb0 _).trans (hb1.mono (by simp))
  have q1 : w1.cell? ⟨w.heap.size, 0, none⟩ = some (.slice ao ss.length cap) := cell_keep hb1 (by simp [go_sem])
  clear hb1 hb0
  cases hok : okB ss
  · have HF : Hid (false = true ↔ okB ss = true ∧ IsPath ss zs) := ⟨(fun e => by cases e), fun e => by rw [hok] at e; exact e.1⟩
    rw [hok] at HF
    rw [hok] at HQ
    clear hok
    go_wp2
    exact HQ.out _ _ HB1.out HF.out
  · have HOK : Hid (okB ss = true) := hok
    rw [hok] at HQ
    clear hok
    go_wp2_with fail
    refine isPath_any _ _ ss zs _ (HH.out.keep HB1.out) HOK.out (HZ.out.keep HB1.out) hzl fun bb hbb => ?_
    have HF : Hid (bb = true ↔ true = true ∧ IsPath ss zs) := ⟨fun e => ⟨rfl, hbb.1 e⟩, fun e => hbb.2 e.2⟩
    clear hbb
    go_wp2
    exact HQ.out _ _ HB1.out HF.out
end Go.Proofs.Ytacgfbcfkjflmaa
