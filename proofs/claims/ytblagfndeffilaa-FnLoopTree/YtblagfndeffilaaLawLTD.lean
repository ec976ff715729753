/-
  For every code of bytes, of the program that is drawn from it, from over to over, by what LoopOver tells, which is as the model tells it, one comes to the first step from each step that can be come to, and from no other: the law FnLoopTree answers true. No condition.
-/
import Derived.Test.YtblagfndeffilaaRows
import Derived.Test.YtblagfndeffilaaDrawLO
import Derived.Test.YtblagfndeffilaaLkI
import Derived.Test.YtblagfndeffilaaSpecLO
import Derived.Test.YtblagfndeffilaaImplLO
import Derived.Test.YtblagfndeffilaaImplReach
import Derived.OpenShut
import Derived.ShutString
import Derived.ChangeOld
import Derived.Below
namespace Go.Proofs.Ytblagfndeffilaa
open Go.ChangeShapes Go.WideShapes Go.ChangeAt Go.RowKit

theorem own : ownKnob Try.prog.godebug = none := by kernel_rfl
theorem laidOut : laidOutB Try.prog = true := by kernel_rfl

theorem DomsM.some (ss : List St) : ∃ m, DomsM ss m := by
  have h1 : ∀ p : Nat × Nat, ∃ b : Bool, (b = true ↔ Dom ss p.2 p.1) := fun p => by
    by_cases hp : Dom ss p.2 p.1
    · exact ⟨true, by simp [hp]⟩
    · exact ⟨false, by simp [hp]⟩
  obtain ⟨f, hf⟩ := Classical.axiomOfChoice h1
  exact ⟨fun i k => f (i, k), fun i k _ _ => hf (i, k)⟩

theorem cnt_pos {m : Nat → Bool} {n x : Nat} (hx : x < n) (hm : m x = true) : 1 ≤ cnt m n := by
  have h1 := (cnt_more (m := fun _ => false) (m' := m) (n := n) (z := x) (fun j _ h => by cases h)).2 hx rfl hm
  omega

theorem near_less {ss : List St} (hok : okB ss = true) {m : Nat → Nat → Bool} (hm : DomsM ss m) {x b : Nat} (hx : x < ss.length) (h : IsNear ss x (some b)) : cnt (m b) ss.length < cnt (m x) ss.length := by
  have hbl := reach_lt hok h.2.1.reach
  refine (cnt_more (m := m b) (m' := m x) (n := ss.length) (z := x) (fun j hj hbj => ?_)).2 hx ?_ ?_
  · exact (hm x j hx hj).2 (h.2.1.trans ((hm b j hbl hj).1 hbj))
  · cases e : m b x
    · rfl
    · exact absurd (Dom.same ((hm b x hbl hx).1 e) h.2.1).symm h.1
  · exact (hm x x hx hx).2 (Dom.refl h.2.1.1)

set_option maxRecDepth 100000 in
set_option maxHeartbeats 8000000 in
theorem law_walk (v : Value) (w : World) (h : CodeAt w v) {Q : Ending → World → Prop} (hQ : ∀ w', Below w.heap.size w w' → Q (.returned (.bool true)) w') :
    Calls Try.prog 10 #[v] w Q := by
  have HQ : Hid (∀ w', Below w.heap.size w w' → Q (.returned (.bool true)) w') := hQ
  clear hQ
  have HC : Hid _ := h
  obtain ⟨ao, bb, bo, bl, cap, rfl, h1, h2, h3, h4, h5⟩ := h
  clear h3 h4 h5
  by_cases hbl : 1048576 < bl
  · go_enter Try.func10, Try.ntmps10
    go_wp2
    exact HQ.out _ (Below.refl _ _)
  go_enter Try.func10, Try.ntmps10
  go_wp2_with fail
  refine drawLoopOver_any _ _ HC.out fun v1 ss w1 hS1 hl hls hb1 => ?_
  clear HC
  obtain ⟨A1, b1, o1, c1, rfl, hA1, hC1⟩ := id hS1
  have HS1 : Hid (StepsAt w1 (.slice A1 ss.length c1) ss) := hS1.at
  have HLS : Hid (∀ s ∈ ss, s.next.length ≤ 1048576) := fun s hs => Nat.le_trans (hls s hs) (by decide)
  have HB1 : Hid (Below w.heap.size w w1) := hb1
  clear hA1 hC1 hS1 hls hb1
  go_wp2_with fail
  have hb0 : ∀ O, Below w1.heap.size w1 (w1.alloc O) := fun O => (Below.refl _ _).alloc (Nat.le_refl _) O
  refine implLoopOver_any _ ss _ (HS1.out.keep (hb0 _)) (by omega) HLS.out fun v3 zs w3 hb3 hzs hown3 => ?_
  have HB13 : Hid (Below w1.heap.size w1 w3) := (hb0 _).trans (hb3.mono (by simp))
  have p3 : w3.cell? ⟨w1.heap.size, 0, none⟩ = some (.slice A1 ss.length c1) := cell_keep hb3 (by simp [go_sem])
  have HZS : Hid (OverOr ss zs) := hzs
  have I3 := IntsO.of hown3
  obtain ⟨ao3, g3, c3, hv3, hc3⟩ := I3.read
  subst hv3
  have HI3 : Hid (IntsAt w3 (.slice ao3 zs.length c3) zs) := I3.at
  have HC3 : Hid _ := hc3
  have hzl : zs.length ≤ 1048576 := HZS.out.bound (by omega)
  clear hb3 hzs hown3 I3 hc3 hb0
  go_wp2_with fail
  refine specLoopOver_any _ ss _ (HS1.out.keep HB13.out) (by omega) HLS.out fun v2 zs' w2 hb2 hzs' hown2 => ?_
  obtain rfl := HZS.out.unique hzs'
  have I2 := (IntsO.of hown2)
  obtain ⟨A2, c2, hv2⟩ := I2.slice
  subst hv2
  have HI2 : Hid (IntsAt w2 (.slice A2 zs.length c2) zs) := I2.at
  have HB12 : Hid (Below w1.heap.size w1 w2) := HB13.out.trans (hb2.mono HB13.out.size)
  have HI32 : Hid (IntsAt w2 (.slice ao3 zs.length c3) zs) := HI3.out.keep hb2
  have p2 := cell_keep hb2 p3
  have HC2 : Hid (∀ i, i < zs.length → ao3 = some ⟨g3, 0, none⟩ ∧ w2.cell? ⟨g3, i, none⟩ = some (.int .i64 (zs.getD i 0))) := fun i hi => ⟨(HC3.out i hi).1, cell_keep hb2 (HC3.out i hi).2.1⟩
  clear hb2 hzs' hown2 I2 HI3 HC3 p3
  go_wp2_with fail
  refine lkInts_any _ _ zs _ HI32.out HI2.out hzl fun w4 hb4 => ?_
  have HB14 : Hid (Below w1.heap.size w1 w4) := HB12.out.trans (hb4.mono HB12.out.size)
  have p4 := cell_keep hb4 p2
  have HC4 : Hid (∀ i, i < zs.length → ao3 = some ⟨g3, 0, none⟩ ∧ w4.cell? ⟨g3, i, none⟩ = some (.int .i64 (zs.getD i 0))) := fun i hi => ⟨(HC2.out i hi).1, cell_keep hb4 (HC2.out i hi).2⟩
  clear hb4 p2 HI32 HI2 HC2 HB13
  cases hok : okB ss
  · obtain rfl : zs = [] := by
      rcases HZS.out with ⟨h, _⟩ | ⟨_, h⟩
      · rw [hok] at h; cases h
      · exact h
    go_wp2_with fail
    refine implReach_any _ ss _ (HS1.out.keep HB14.out) (by omega) HLS.out fun v5 rs w5 hb5 hrs hown5 => ?_
    have HB15 : Hid (Below w1.heap.size w1 w5) := HB14.out.trans (hb5.mono HB14.out.size)
    obtain ⟨A5, c5, hv5⟩ := (BoolsOwn.of hown5).slice
    subst hv5
    clear hb5 hown5 hrs p4
    go_wp2_with fail
    go_loopw [6] (fun i wr => i = .int .i64 0 ∧ Below w1.heap.size w1 wr) (fun _ _ => 0)
    case atStart => exact ⟨rfl, HB15.out⟩
    case round =>
      obtain ⟨rfl, hb⟩ := hrel
      have HF : Hid (Below w.heap.size w wr) := HB1.out.trans (hb.mono HB1.out.size)
      go_wp2
      exact HQ.out _ HF.out
  · obtain ⟨f, hf, hz⟩ : ∃ f : Nat → Option Nat, (∀ i, i < ss.length → IsNear ss i (f i)) ∧ zs = (List.range ss.length).map (fun i => ovI (f i)) := by
      rcases HZS.out with ⟨_, f, h1, h2⟩ | ⟨h, _⟩
      · exact ⟨f, h1, h2⟩
      · rw [hok] at h; cases h
    obtain ⟨hn1, hn2⟩ := ok_len hok
    have hzn : zs.length = ss.length := by rw [hz]; simp
    have HGD : Hid (∀ i, i < ss.length → zs.getD i 0 = ovI (f i)) := fun i hi => by rw [hz]; simp [List.getD, hi]
    have HF : Hid (∀ i, i < ss.length → IsNear ss i (f i)) := hf
    have HA3 : Hid _ := (HC4.out 0 (by omega)).1
    obtain rfl := HA3.out
    have HC5 : Hid (∀ i, i < ss.length → w4.cell? ⟨g3, i, none⟩ = some (.int .i64 (ovI (f i)))) := fun i hi => by rw [← HGD.out i hi]; exact (HC4.out i (by omega)).2
    have HOK : Hid (okB ss = true) := hok
    clear hz hf HC4 HGD HZS HA3
    rw [hzn]
    clear hzn
    go_wp2_with fail
    refine implReach_any _ ss _ (HS1.out.keep HB14.out) (by omega) HLS.out fun v5 rs w5 hb5 hrs hown5 => ?_
    have hre : IsReach ss rs := by
      rcases hrs with h | h
      · exact h.2
      · rw [HOK.out] at h
        cases h.1
    have hrl : rs.length = ss.length := hre.1
    have HB15 : Hid (Below w1.heap.size w1 w5) := HB14.out.trans (hb5.mono HB14.out.size)
    obtain ⟨ao5, g5, cap5, hv5, hrow5⟩ := (BoolsOwn.of hown5).read
    have hA5 := (hrow5 0 (by omega)).1
    subst hA5
    subst hv5
    rw [hrl]
    have HR5 : Hid (∀ i, i < ss.length → w5.cell? ⟨g5, i, none⟩ = some (.bool (rs.getD i false))) := fun i hi => (hrow5 i (by omega)).2.1
    have HRE : Hid (∀ i, i < ss.length → (rs.getD i false = true ↔ Reaches ss i)) := fun i hi => getD_reach hre hi
    have HC6 : Hid (∀ i, i < ss.length → w5.cell? ⟨g3, i, none⟩ = some (.int .i64 (ovI (f i)))) := fun i hi => cell_keep hb5 (HC5.out i hi)
    obtain ⟨m, hm⟩ := DomsM.some ss
    have HDM : Hid (DomsM ss m) := hm
    clear hb5 hown5 hrs hre hrl hrow5 HC5 HB14 hok p4 hm
    go_wp2_with fail
    go_loop [6] (fun i => ∃ x : Nat, x ≤ ss.length ∧ i = .int .i64 x) (fun i => ss.length - (intOf i).toNat)
    case atStart => exact ⟨0, Nat.zero_le _, rfl⟩
    case round =>
      obtain ⟨x, hx, rfl⟩ := hrel
      by_cases hxl : x < ss.length
      · have hxi : (x : Int) < (ss.length : Int) := by omega
        have sx := HR5.out x hxl
        go_wp2_with fail
        go_loop [7, 8] (fun at_ n => ∃ (a t : Nat), t ≤ ss.length ∧ at_ = .int .i64 a ∧ n = .int .i64 t ∧ a < ss.length ∧ (Reaches ss x → Reaches ss a ∧ cnt (m a) ss.length + t ≤ ss.length) ∧ (¬ Reaches ss x → a = x)) (fun _ n => ss.length - (intOf n).toNat)
        case atStart => exact ⟨x, 0, Nat.zero_le _, rfl, rfl, hxl, fun h => ⟨h, by have := cnt_le (m x) ss.length; omega⟩, fun _ => rfl⟩
        case round =>
          obtain ⟨a, t, ht, rfl, rfl, hal, h1, h2⟩ := hrel
          have H1 : Hid (Reaches ss x → Reaches ss a ∧ cnt (m a) ss.length + t ≤ ss.length) := h1
          have H2 : Hid (¬ Reaches ss x → a = x) := h2
          clear h1 h2
          have hai : (a : Int) < (ss.length : Int) := by omega
          have ca := HC6.out a hal
          have HFA : Hid (IsNear ss a (f a)) := HF.out a hal
          cases hfa : f a with
          | some b =>
            rw [hfa] at ca
            simp only [ovI] at ca
            have HFB : Hid (IsNear ss a (some b)) := by rw [← hfa]; exact HFA.out
            have HRA : Hid (Reaches ss a) := HFB.out.2.1.1
            have hbl := reach_lt HOK.out HFB.out.2.1.reach
            have hlt := near_less HOK.out HDM.out hal HFB.out
            have HLT : Hid (cnt (m b) ss.length < cnt (m a) ss.length) := hlt
            have HX : Hid (Reaches ss x) := Classical.byContradiction fun hn => hn (H2.out hn ▸ HRA.out)
            have hpos : 1 ≤ cnt (m a) ss.length := by omega
            have htl : t < ss.length := by have := (H1.out HX.out).2; omega
            have hti : (t : Int) < (ss.length : Int) := by omega
            have hb0 : 0 ≤ (b : Int) := by omega
            clear hfa hlt hpos
            go_wp2
            go_round
            case rel =>
              refine ⟨b, t + 1, by omega, rfl, by go_num, hbl, fun _ => ⟨HFB.out.2.1.reach, ?_⟩, fun hn => absurd HX.out hn⟩
              have := (H1.out HX.out).2
              have := HLT.out
              omega
            case measure => simp [intOf]; omega
          | none =>
            rw [hfa] at ca
            simp only [ovI] at ca
            have HFN : Hid (IsNear ss a none) := by rw [← hfa]; exact HFA.out
            clear hfa
            have HF5 : Hid (Below w.heap.size w w5) := HB1.out.trans (HB15.out.mono HB1.out.size)
            by_cases hr : Reaches ss x
            · have ha0 : a = 0 := by
                have h5 := (H1.out hr).1
                apply Classical.byContradiction
                intro hn
                exact HFN.out 0 (Ne.symm hn) (Dom.first h5)
              subst ha0
              rw [(HRE.out x hxl).2 hr] at sx
              clear hr
              by_cases htl : t < ss.length
              · have hti : (t : Int) < (ss.length : Int) := by omega
                go_wp2
                go_round
                case rel => exact ⟨x + 1, by omega, by go_num⟩
                case measure => simp [intOf]; omega
              · have hti : ¬ (t : Int) < (ss.length : Int) := by omega
                go_wp2
                go_round
                case rel => exact ⟨x + 1, by omega, by go_num⟩
                case measure => simp [intOf]; omega
            · obtain rfl := H2.out hr
              have hx0 : a ≠ 0 := fun e => hr (e ▸ Reaches.first ss)
              have hx0b : ((a : Int) == 0) = false := by simp; omega
              have hrf : rs.getD a false = false := by
                cases e : rs.getD a false
                · rfl
                · exact absurd ((HRE.out a hxl).1 e) hr
              rw [hrf] at sx
              clear hr hrf
              by_cases htl : t < ss.length
              · have hti : (t : Int) < (ss.length : Int) := by omega
                go_wp2
                go_round
                case rel => exact ⟨a + 1, by omega, by go_num⟩
                case measure => simp [intOf]; omega
              · have hti : ¬ (t : Int) < (ss.length : Int) := by omega
                go_wp2
                go_round
                case rel => exact ⟨a + 1, by omega, by go_num⟩
                case measure => simp [intOf]; omega
      · have hxi : ¬ (x : Int) < (ss.length : Int) := by omega
        have HF5 : Hid (Below w.heap.size w w5) := HB1.out.trans (HB15.out.mono HB1.out.size)
        go_wp2
        exact HQ.out _ HF5.out

set_option maxRecDepth 100000 in
theorem law_lifted (os : Os) (started : os.Started) (H : Type) (enc : TypeId × Value → H) :
    ReturnsInHanded {} Try.checked os 10 .any (Rows.fnLoopTreeSpec.pre6 enc Try.prog Try.f10 Rows.fnLoopTreeRow.domain false) (Rows.fnLoopTreeSpec.post enc Try.prog Try.f10 false true false false) := by
  refine returnsInHanded_of_change (C := Try.checked) own started (by kernel_rfl) Try.func10
    (ChangeSpec.witness6 (enc := enc) (C := Try.checked) false ⟨#[], #[.slice none 0 0], []⟩ 8 (by kernel_rfl) (by kernel_rfl) (by kernel_rfl) (by kernel_rfl)) ?_
  intro W base args ds gs before hval0 hW hcnd _
  have hval : ∀ (j : Nat) t v, Try.f10.params[j]? = some t → args[j]? = some v → Value.okWide Try.prog W .any base t v := hval0
  have hW' := hW
  obtain ⟨p, q, hA0, hV, rfl, hfz, hnd⟩ := hW
  have hA : DataW.TrodAll enc Try.prog W 0 (fun _ => true) true Try.f10.params.toList args.toList ds p := hA0
  rw [Try.params10] at hA hval
  obtain ⟨v0, vs0, d0, ds0, p0, q0, hargs, rfl, rfl, h0, r0⟩ := trodAll_cons hA
  obtain ⟨rfl, rfl, rfl⟩ := trodAll_nil r0
  obtain rfl : args = #[v0] := by cases args; simp_all
  obtain ⟨rfl, rfl⟩ := trodVars_none hV
  have k0 := h0
  have lt0 : ∀ x ∈ p0, x.block < W.heap.size := by obtain ⟨m, hm⟩ := k0; exact DataW.trod_lt m _ _ _ hm
  have c0 := open_code (hval 0 37 v0 rfl rfl) h0
  clear hA0 hval0
  refine law_walk v0 W c0 fun W' bel => ?_
  exact ⟨_, rfl, _, _, _, [], _, [], hW', trodAll_mk1 (shut_bool Try.underlying4 _), (trodAll_cons_mk (Below.trod laidOut (by kernel_rfl) (of_decide_eq_true (by kernel_rfl)) k0 bel lt0) trodAll_mk0), rfl, bel.frame _, fun h => by cases h⟩

theorem fnLoopTree_holds : Rows.FnLoopTreeSaid :=
  OpenClaim.holds_of_wide 10 Try.f10 rfl rfl rfl rfl rfl rfl rfl ⟨rfl, rfl, rfl, rfl, rfl⟩ rfl rfl rfl rfl rfl (by kernel_rfl) Try.func10 (by kernel_rfl)
    (of_decide_eq_true (by kernel_rfl)) (by unfold Func.isWrapper; first | (rw [if_pos (by decide +kernel)]; kernel_rfl) | (rw [if_neg (by decide +kernel)]; exact ⟨rfl, rfl⟩))
    (fun os started H enc _ => law_lifted os started H enc)
#print axioms fnLoopTree_holds
end Go.Proofs.Ytblagfndeffilaa
