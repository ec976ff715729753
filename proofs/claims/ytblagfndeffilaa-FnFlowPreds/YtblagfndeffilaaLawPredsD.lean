/-
  For every code of bytes, of the program that is drawn from it FlowPreds tells just the steps that can be come to from which a way leads to a step, ascending, as the model does: the law FnFlowPreds answers true. No condition.
-/
import Derived.Test.YtblagfndeffilaaLkG
import Derived.Test.YtblagfndeffilaaRows
import Derived.Test.YtblagfndeffilaaDrawP
import Derived.Test.YtblagfndeffilaaLkB
import Derived.Test.YtblagfndeffilaaLkI
import Derived.Test.YtblagfndeffilaaSpecPreds
import Derived.Test.YtblagfndeffilaaImplPreds
import Derived.Test.YtblagfndeffilaaImplReach
import Derived.OpenShut
import Derived.ShutString
import Derived.ChangeOld
import Derived.Below
namespace Go.Proofs.Ytblagfndeffilaa
open Go.ChangeShapes Go.WideShapes Go.ChangeAt Go.RowKit

theorem own : ownKnob Try.prog.godebug = none := by kernel_rfl
theorem laidOut : laidOutB Try.prog = true := by kernel_rfl

theorem predsK_prefix (ss : List St) (rs : List Bool) (j : Nat) {a b : Nat} (h : a ≤ b) : ∃ t, predsK ss rs j b = predsK ss rs j a ++ t := by
  induction b with
  | zero =>
    obtain rfl : a = 0 := by omega
    exact ⟨[], by simp⟩
  | succ b ih =>
    by_cases e : a = b + 1
    · exact ⟨[], by subst e; simp⟩
    · obtain ⟨t, ht⟩ := ih (by omega)
      exact ⟨_, by rw [predsK_succ, ht, List.append_assoc]⟩

theorem predsK_at {ss : List St} {rs : List Bool} {j q n : Nat} (hq : q < n) (h1 : rs.getD q false = true) (h2 : (j : Int) ∈ nextOf ss q) :
    (predsK ss rs j q).length < (predsK ss rs j n).length ∧ (predsK ss rs j n).getD (predsK ss rs j q).length 0 = (q : Int) := by
  obtain ⟨t, ht⟩ := predsK_prefix ss rs j (a := q + 1) (b := n) (by omega)
  rw [predsK_succ, if_pos ⟨h1, h2⟩, List.append_assoc] at ht
  rw [ht]
  refine ⟨by simp, ?_⟩
  simp [List.getD]

/-- What is read of a step and of what is told of it. -/
structure RP (W : World) (pb g b1 o1 : Nat) (pv : Value) (ss : List St) (rs : List Bool) (i : Nat) (s : St) (nv : Value) : Prop where
  box : W.cell? ⟨pb, 0, none⟩ = some pv
  row : W.cell? ⟨g, i, none⟩ = some (.bool (rs.getD i false))
  st : StepCells W b1 (o1 + i * 8) s nv
  ints : IntsAt W nv s.next

set_option maxRecDepth 100000 in
set_option maxHeartbeats 8000000 in
theorem law_walk (v : Value) (w : World) (h : CodeAt w v) {Q : Ending → World → Prop} (hQ : ∀ w', Below w.heap.size w w' → Q (.returned (.bool true)) w') :
    Calls Try.prog 4 #[v] w Q := by
  have HQ : Hid (∀ w', Below w.heap.size w w' → Q (.returned (.bool true)) w') := hQ
  clear hQ
  have HC : Hid _ := h
  obtain ⟨ao, bb, bo, bl, cap, rfl, h1, h2, h3, h4, h5⟩ := h
  clear h3 h4 h5
  by_cases hbl : 1048576 < bl
  · go_enter Try.func4, Try.ntmps4
    go_wp2
    exact HQ.out _ (Below.refl _ _)
  go_enter Try.func4, Try.ntmps4
  go_wp2_with fail
  refine drawFlowPreds_any _ _ HC.out fun v1 ss w1 hS1 hl hls hb1 => ?_
  clear HC
  obtain ⟨A1, b1, o1, c1, rfl, hA1, hC1⟩ := id hS1
  have HS1 : Hid (StepsAt w1 (.slice A1 ss.length c1) ss) := hS1.at
  have HLS : Hid (∀ s ∈ ss, s.next.length ≤ 1048576) := fun s hs => Nat.le_trans (hls s hs) (by decide)
  have HB1 : Hid _ := hb1
  clear hA1 hC1 hS1 hls hb1
  go_wp2_with fail
  have hb0 : ∀ O, Below w1.heap.size w1 (w1.alloc O) := fun O => (Below.refl _ _).alloc (Nat.le_refl _) O
  refine specPreds_any _ ss _ (HS1.out.keep (hb0 _)) (by omega) HLS.out fun v2 zss w2 hb2 hzs hown2 => ?_
  have hb12 : Below w1.heap.size w1 w2 := (hb0 _).trans (hb2.mono (by simp))
  have p2 : w2.cell? ⟨w1.heap.size, 0, none⟩ = some (.slice A1 ss.length c1) := cell_keep hb2 (by simp [go_sem])
  obtain ⟨A2, c2, hv2⟩ := hown2.slice
  subst hv2
  clear hb2
  go_wp2_with fail
  refine implPreds_any _ ss _ (HS1.out.keep hb12) (by omega) HLS.out fun v3 zss' w3 hb3 hzs' hown3 => ?_
  obtain rfl := hzs.unique hzs'
  clear hzs'
  have hb13 : Below w1.heap.size w1 w3 := hb12.trans (hb3.mono hb12.size)
  have p3 := cell_keep hb3 p2
  have hown23 := hown2.keep hb3
  obtain ⟨A3, c3, hv3⟩ := hown3.slice
  subst hv3
  have HZS : Hid (PredsOr ss zss) := hzs
  have HB13 : Hid _ := hb13
  have HO2 : Hid (RowsI (w1.alloc (.cells #[.slice A1 ss.length c1] 30)).heap.size w2.heap.size w3 (.slice A2 zss.length c2) zss) := hown23
  have HO3 : Hid (RowsI w2.heap.size w3.heap.size w3 (.slice A3 zss.length c3) zss) := hown3
  clear hown2 hown23 hown3 hb3 hb12 p2 hzs hb13
  go_wp2_with fail
  refine implReach_any _ ss _ (HS1.out.keep HB13.out) (by omega) HLS.out fun v4 rs w4 hb4 hrs hown4 => ?_
  have HB14 : Hid (Below w1.heap.size w1 w4) := HB13.out.trans (hb4.mono HB13.out.size)
  have HBW4 : Hid (Below w.heap.size w w4) := HB1.out.trans (HB14.out.mono HB1.out.size)
  have p4 := cell_keep hb4 p3
  have o2 := HO2.out.keep hb4
  have o3 := HO3.out.keep hb4
  have HO4 : Hid (BoolsOwn w3.heap.size w4.heap.size w4 v4 rs) := BoolsOwn.of hown4
  obtain ⟨A4, c4, hv4⟩ := HO4.out.slice
  subst hv4
  clear hown4 hb4 p3 HB13
  rcases HZS.out with ⟨hok, rs0, hre, hz⟩ | ⟨hok, hz⟩
  · obtain rfl : rs = rs0 := by
      rcases hrs with h | h
      · exact h.2.unique hre
      · rw [hok] at h
        cases h.1
    have hn0 := (ok_len hok).1
    have HZ : Hid (zss = predsL ss rs) := hz
    have HZL : Hid (zss.length = ss.length) := by rw [Hid, hz]; simp [predsL]
    have HZR : Hid (∀ i, i < ss.length → zss[i]? = some (predsK ss rs i ss.length)) := fun i hi => by rw [hz]; simp [predsL, hi]
    obtain ⟨ao4, g, cap4, hv4, hrow4⟩ := HO4.out.read
    cases hv4
    have hrl : rs.length = ss.length := hre.1
    have hA4 := (hrow4 0 (by omega)).1
    subst hA4
    obtain ⟨ao3, g3, cap3, hv3, hrow3⟩ := o3.read
    cases hv3
    obtain ⟨ao2, g2, cap2, hv2, hrow2⟩ := o2.read
    cases hv2
    have hA3 : A3 = some ⟨g3, 0, none⟩ := by obtain ⟨_, _, _, e, _⟩ := hrow3 0 _ (HZR.out 0 (by omega)); exact e
    have hA2 : A2 = some ⟨g2, 0, none⟩ := by obtain ⟨_, _, _, e, _⟩ := hrow2 0 _ (HZR.out 0 (by omega)); exact e
    subst hA3
    subst hA2
    obtain ⟨A1', b1', o1', c1', hv1', hA1', hC1'⟩ := HS1.out.keep HB14.out
    cases hv1'
    have hA1'' := hA1' (by omega)
    subst hA1''
    have HRP : Hid (∀ (W : World) (i : Nat) (hi : i < ss.length), Below w4.heap.size w4 W → ∃ nv, RP W w1.heap.size g b1' o1' (.slice (some ⟨b1', o1', none⟩) ss.length c1) ss rs i ss[i] nv) := fun W i hi hb => by
      obtain ⟨nv, h1, h2⟩ := hC1' i ss[i] (List.getElem?_eq_getElem hi)
      exact ⟨nv, cell_keep hb p4, cell_keep hb (hrow4 i (by omega)).2.1, h1.keep hb, h2.keep hb⟩
    have HR3 : Hid (∀ (i : Nat) (hi : i < ss.length), ∃ A b o c, (0 < (predsK ss rs i ss.length).length → A = some ⟨b, o, none⟩) ∧ ∀ W, Below w4.heap.size w4 W → W.cell? ⟨g3, i, none⟩ = some (.slice A (predsK ss rs i ss.length).length c) ∧ IntsAt W (.slice A (predsK ss rs i ss.length).length c) (predsK ss rs i ss.length) ∧ ∀ t, t < (predsK ss rs i ss.length).length → W.cell? ⟨b, o + t, none⟩ = some (.int .i64 ((predsK ss rs i ss.length).getD t 0))) := fun i hi => by
      obtain ⟨x, A, c, _, hc, rfl, hI⟩ := hrow3 i _ (HZR.out i hi)
      obtain ⟨A', b, o, c', e, e2, e3⟩ := hI.at
      cases e
      exact ⟨A, b, o, c, e2, fun W hb => ⟨cell_keep hb hc, hI.at.keep hb, fun t ht => cell_keep hb (e3 t ht)⟩⟩
    have HR2 : Hid (∀ (i : Nat) (hi : i < ss.length), ∃ A c, ∀ W, Below w4.heap.size w4 W → W.cell? ⟨g2, i, none⟩ = some (.slice A (predsK ss rs i ss.length).length c) ∧ IntsAt W (.slice A (predsK ss rs i ss.length).length c) (predsK ss rs i ss.length)) := fun i hi => by
      obtain ⟨x, A, c, _, hc, rfl, hI⟩ := hrow2 i _ (HZR.out i hi)
      exact ⟨A, c, fun W hb => ⟨cell_keep hb hc, hI.at.keep hb⟩⟩
    have HSZ : Hid (∀ W, Below w4.heap.size w4 W → Below w.heap.size w W) := fun W hb => HBW4.out.trans (hb.mono HBW4.out.size)
    have HPL : Hid (∀ i, (predsK ss rs i ss.length).length ≤ ss.length) := fun i => by
      unfold predsK
      rw [List.length_map]
      exact Nat.le_trans (List.length_filter_le _ _) (by simp)
    have hzl := HZL.out
    generalize zss.length = L at *
    have hzl' : L = ss.length := hzl
    subst hzl'
    clear hA1' hC1' hrow2 hrow3 hrow4 HO4 HO2 HO3 o2 o3 HS1 p4 hre hok HB14 hz HZ HZS hrs HZL hb0 HB1 hzl
    have hri' : ((ss.length : Int) == 0) = false := beq_eq_false_iff_ne.2 (by omega)
    go_wp2_with fail
    go_loopw [7] (fun i wr => ∃ m : Nat, m ≤ ss.length ∧ i = .int .i64 m ∧ Below w4.heap.size w4 wr) (fun i _ => ss.length - (intOf i).toNat)
    case atStart => exact ⟨0, Nat.zero_le _, rfl, Below.refl _ _⟩
    case round =>
      obtain ⟨m, hm, rfl, hbm⟩ := hrel
      by_cases hml : m < ss.length
      · have hmi : (m : Int) < (ss.length : Int) := by omega
        obtain ⟨Am, bm, om, cm, hAm, hR3⟩ := HR3.out m hml
        obtain ⟨Aw, cw, hR2⟩ := HR2.out m hml
        have HAm : Hid _ := hAm
        have HRm : Hid _ := hR3
        have hpl := HPL.out m
        clear hAm
        obtain ⟨x3, i3, _⟩ := hR3 wr hbm
        obtain ⟨x2, i2⟩ := hR2 wr hbm
        clear hR2 hR3
        generalize hrow : predsK ss rs m ss.length = row at *
        obtain ⟨w5, rfl⟩ : ∃ w5 : World, w5 = wr := ⟨_, rfl⟩
        go_wp2_with fail
        have HI3 : Hid (IntsAt w5.drew (.slice Am row.length cm) row) := i3.keep (below_drewN (Below.refl _ _) 1)
        have HI2 : Hid (IntsAt w5.drew (.slice Aw row.length cw) row) := i2.keep (below_drewN (Below.refl _ _) 1)
        clear i3 i2
        go_region_with (go_at_call 23; refine lkInts_any _ _ row _ HI3.out HI2.out (by omega) ?_; intro w6 hb6; have HB6 : Hid (Below w4.heap.size w4 w6) := hbm.trans ((⟨hb6.os, hb6.tape, hb6.output, hb6.size, hb6.block⟩ : Below w5.heap.size w5 w6).mono hbm.size); clear hb6)
        all_goals
          clear x3 x2 HI3 HI2
          go_wp2_with fail
          go_loopw [8, 9] (fun n k wr => ∃ q : Nat, q ≤ ss.length ∧ n = .int .i64 (predsK ss rs m q).length ∧ k = .int .i64 q ∧ Below w4.heap.size w4 wr) (fun _ k _ => ss.length - (intOf k).toNat)
          case atStart => exact ⟨0, Nat.zero_le _, by simp [predsK_zero], rfl, HB6.out⟩
          case round =>
            clear HB6 hbm
            obtain ⟨q, hq, rfl, rfl, hb⟩ := hrel
            obtain ⟨x3, i3, hcell⟩ := HRm.out wr hb
            have hpq : (predsK ss rs m q).length ≤ row.length := by
              obtain ⟨t, ht⟩ := predsK_prefix ss rs m (a := q) (b := ss.length) hq
              rw [← hrow, ht, List.length_append]
              omega
            have HCELL : Hid _ := hcell
            clear hcell i3
            by_cases hql : q < ss.length
            · have hqi : (q : Int) < (ss.length : Int) := by omega
              obtain ⟨nvq, RQ⟩ := HRP.out wr q hql hb
              have HLq := HLS.out _ (List.getElem_mem hql)
              have hsucc := predsK_succ ss rs m q
              rw [nextOf_get hql] at hsucc
              have HSUC : Hid _ := hsucc
              have HAT : Hid (rs.getD q false = true → goesB ss[q].next (m : Int) = true → (predsK ss rs m q).length < row.length ∧ row.getD (predsK ss rs m q).length 0 = (q : Int)) := fun e1 e2 => by
                rw [← hrow]
                exact predsK_at hql e1 (by rw [nextOf_get hql]; simpa [goesB] using e2)
              have bx := RQ.box
              have qx := RQ.row
              obtain ⟨q0, q1, q2, q3, q4, q5, q6, q7⟩ := RQ.st
              have HRI : Hid _ := RQ.ints
              clear RQ hsucc
              cases ha : rs.getD q false
              · rw [ha] at qx
                have HE : Hid (predsK ss rs m (q + 1) = predsK ss rs m q) := by
                  rw [Hid, HSUC.out, if_neg (by rw [ha]; simp)]; simp
                clear HSUC HAT
                go_wp2
                go_roundw
                case rel => exact ⟨q + 1, by omega, by rw [HE.out], by go_num, hb⟩
                case measure => simp [intOf]; omega
              · rw [ha] at qx
                go_wp2_with fail
                refine lkGoes_any ss[q] nvq (m : Int) _ HRI.out HLq fun w7 hb7 => ?_
                have HB7 : Hid (Below w4.heap.size w4 w7) := hb.trans (hb7.mono hb.size)
                obtain ⟨x37, _, hcell7⟩ := HRm.out w7 HB7.out
                clear hb7 x3 bx qx q0 q1 q2 q3 q4 q5 q6 q7 HRI HCELL
                cases hx : goesB ss[q].next (m : Int)
                · have HE : Hid (predsK ss rs m (q + 1) = predsK ss rs m q) := by
                    rw [Hid, HSUC.out, if_neg (fun h => by have h2 := h.2; simp [goesB, h2] at hx)]; simp
                  clear HSUC HAT hcell7
                  go_wp2
                  go_roundw
                  case rel => exact ⟨q + 1, by omega, by rw [HE.out], by go_num, HB7.out⟩
                  case measure => simp [intOf]; omega
                · obtain ⟨hnl, hat⟩ := HAT.out ha hx
                  have cn := hcell7 _ hnl
                  rw [hat] at cn
                  have HE : Hid ((predsK ss rs m (q + 1)).length = (predsK ss rs m q).length + 1) := by
                    rw [Hid, HSUC.out, if_pos ⟨ha, by simpa [goesB] using hx⟩]; simp
                  obtain rfl := HAm.out (by omega)
                  clear HSUC HAT hcell7 hat
                  generalize (predsK ss rs m q).length = n at *
                  have hni : (n : Int) < (row.length : Int) := by omega
                  go_wp2
                  go_roundw
                  case rel => exact ⟨q + 1, by omega, by rw [HE.out]; go_num, by go_num, HB7.out⟩
                  case measure => simp [intOf]; omega
            · have hqi : ¬ ((q : Int) < (ss.length : Int)) := by omega
              obtain rfl : q = ss.length := by omega
              obtain ⟨nvm, RM⟩ := HRP.out wr m hml hb
              have bx := RM.box
              clear RM
              rw [hrow]
              go_wp2
              go_roundw
              case rel => exact ⟨m + 1, by omega, by go_num, hb⟩
              case measure => simp [intOf]; omega
      · have hmi : ¬ ((m : Int) < (ss.length : Int)) := by omega
        have HF : Hid (Below w.heap.size w wr) := HSZ.out _ hbm
        go_wp2
        exact HQ.out _ HF.out
  · subst hz
    have HF4 : Hid (∀ W, Below w4.heap.size w4 W → Below w.heap.size w W) := fun W hb => HBW4.out.trans (hb.mono HBW4.out.size)
    clear hrs hok HO4 HO2 HO3 o2 o3 HZS
    go_wp2_with fail
    go_loopw [7] (fun i wr => i = .int .i64 0 ∧ Below w4.heap.size w4 wr) (fun _ _ => 0)
    case atStart => exact ⟨rfl, Below.refl _ _⟩
    case round =>
      obtain ⟨rfl, hb⟩ := hrel
      have HF : Hid (Below w.heap.size w wr) := HF4.out _ hb
      go_wp2
      exact HQ.out _ HF.out

set_option maxRecDepth 100000 in
theorem law_lifted (os : Os) (started : os.Started) (H : Type) (enc : TypeId × Value → H) :
    ReturnsInHanded {} Try.checked os 4 .any (Rows.fnFlowPredsSpec.pre6 enc Try.prog Try.f4 Rows.fnFlowPredsRow.domain false) (Rows.fnFlowPredsSpec.post enc Try.prog Try.f4 false true false false) := by
  refine returnsInHanded_of_change (C := Try.checked) own started (by kernel_rfl) Try.func4
    (ChangeSpec.witness6 (enc := enc) (C := Try.checked) false ⟨#[], #[.slice none 0 0], []⟩ 8 (by kernel_rfl) (by kernel_rfl) (by kernel_rfl) (by kernel_rfl)) ?_
  intro W base args ds gs before hval0 hW hcnd _
  have hval : ∀ (j : Nat) t v, Try.f4.params[j]? = some t → args[j]? = some v → Value.okWide Try.prog W .any base t v := hval0
  have hW' := hW
  obtain ⟨p, q, hA0, hV, rfl, hfz, hnd⟩ := hW
  have hA : DataW.TrodAll enc Try.prog W 0 (fun _ => true) true Try.f4.params.toList args.toList ds p := hA0
  rw [Try.params4] at hA hval
  obtain ⟨v0, vs0, d0, ds0, p0, q0, hargs, rfl, rfl, h0, r0⟩ := trodAll_cons hA
  obtain ⟨rfl, rfl, rfl⟩ := trodAll_nil r0
  obtain rfl : args = #[v0] := by cases args; simp_all
  obtain ⟨rfl, rfl⟩ := trodVars_none hV
  have k0 := h0
  have lt0 : ∀ x ∈ p0, x.block < W.heap.size := by obtain ⟨m, hm⟩ := k0; exact DataW.trod_lt m _ _ _ hm
  have c0 := open_code (hval 0 37 v0 rfl rfl) h0
  clear hA0 hval0
  refine law_walk v0 W c0 fun W' bel => ?_
  exact ⟨_, rfl, _, _, _, [], _, [], hW', trodAll_mk1 (shut_bool Try.underlying4 _), (trodAll_cons_mk (Below.trod laidOut (by kernel_rfl) (of_decide_eq_true (by kernel_rfl)) k0 bel lt0) trodAll_mk0), rfl, bel.frame _, fun h => by cases h⟩

theorem fnFlowPreds_holds : Rows.FnFlowPredsSaid :=
  OpenClaim.holds_of_wide 4 Try.f4 rfl rfl rfl rfl rfl rfl rfl ⟨rfl, rfl, rfl, rfl, rfl⟩ rfl rfl rfl rfl rfl (by kernel_rfl) Try.func4 (by kernel_rfl)
    (of_decide_eq_true (by kernel_rfl)) (by unfold Func.isWrapper; first | (rw [if_pos (by decide +kernel)]; kernel_rfl) | (rw [if_neg (by decide +kernel)]; exact ⟨rfl, rfl⟩))
    (fun os started H enc _ => law_lifted os started H enc)
#print axioms fnFlowPreds_holds
end Go.Proofs.Ytblagfndeffilaa
