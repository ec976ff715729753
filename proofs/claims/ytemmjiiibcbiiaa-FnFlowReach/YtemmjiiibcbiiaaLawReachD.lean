/-
  For every code of bytes, of the program that is drawn from it FlowReach tells just what the model does: the first step, and all to which a way leads from such, and nothing else: the law FnFlowReach answers true. No condition.
-/
import Derived.Test.YtemmjiiibcbiiaaRows
import Derived.Test.YtemmjiiibcbiiaaDrawR
import Derived.Test.YtemmjiiibcbiiaaLkB
import Derived.Test.YtemmjiiibcbiiaaSpecReach
import Derived.Test.YtemmjiiibcbiiaaImplReach
import Derived.OpenShut
import Derived.ShutString
import Derived.ChangeOld
import Derived.Below
namespace Go.Proofs.Ytemmjiiibcbiiaa
open Go.ChangeShapes Go.WideShapes Go.ChangeAt Go.RowKit

theorem own : ownKnob Try.prog.godebug = none := by kernel_rfl
theorem laidOut : laidOutB Try.prog = true := by kernel_rfl

theorem natEq0 (m : Nat) : ((m : Int) == 0) = decide (m = 0) := by by_cases h : m = 0 <;> simp [h]

/-- What is read of two steps and of what is told of them. -/
structure RC (W : World) (pb g b1 o1 : Nat) (pv : Value) (ss : List St) (rs : List Bool) (i : Nat) (s : St) (nv : Value) : Prop where
  box : W.cell? ⟨pb, 0, none⟩ = some pv
  row : W.cell? ⟨g, i, none⟩ = some (.bool (rs.getD i false))
  st : StepCells W b1 (o1 + i * 8) s nv
  ints : IntsAt W nv s.next

theorem RC.keep {W W' : World} {pb g b1 o1 : Nat} {pv : Value} {ss : List St} {rs : List Bool} {i : Nat} {s : St} {nv : Value} (h : RC W pb g b1 o1 pv ss rs i s nv) (hb : Below W.heap.size W W') : RC W' pb g b1 o1 pv ss rs i s nv :=
  ⟨cell_keep hb h.box, cell_keep hb h.row, h.st.keep hb, h.ints.keep hb⟩

/-- A step that can be come to, and is not the first, has another one ahead that can be. -/
theorem reaches_ahead {ss : List St} {i : Nat} (h : Reaches ss i) : i = 0 ∨ ∃ k s, k ≠ i ∧ Reaches ss k ∧ ss[k]? = some s ∧ (i : Int) ∈ s.next := by
  refine (h (fun i => Reaches ss i ∧ (i = 0 ∨ ∃ k s, k ≠ i ∧ Reaches ss k ∧ ss[k]? = some s ∧ (i : Int) ∈ s.next)) ⟨Reaches.first ss, Or.inl rfl⟩ (fun a j s ha hs hj => ⟨ha.1.on hs hj, ?_⟩)).2
  by_cases e : a = j
  · subst e
    exact ha.2
  · exact Or.inr ⟨a, s, e, ha.1, hs, hj⟩

set_option maxRecDepth 100000 in
set_option maxHeartbeats 8000000 in
theorem law_walk (v : Value) (w : World) (h : CodeAt w v) {Q : Ending → World → Prop} (hQ : ∀ w', Below w.heap.size w w' → Q (.returned (.bool true)) w') :
    Calls Try.prog 11 #[v] w Q := by
  have HQ : Hid (∀ w', Below w.heap.size w w' → Q (.returned (.bool true)) w') := hQ
  clear hQ
  have HC : Hid _ := h
  obtain ⟨ao, bb, bo, bl, cap, rfl, h1, h2, h3, h4, h5⟩ := h
  clear h3 h4 h5
  by_cases hbl : 1048576 < bl
  · go_enter Try.func11, Try.ntmps11
    go_wp2
    exact HQ.out _ (Below.refl _ _)
  go_enter Try.func11, Try.ntmps11
  go_wp2_with fail
  refine drawFlowReach_any _ _ HC.out fun v1 ss w1 hS1 hl hls hb1 => ?_
  clear HC
  obtain ⟨A1, b1, o1, c1, rfl, hA1, hC1⟩ := id hS1
  have HS1 : Hid (StepsAt w1 (.slice A1 ss.length c1) ss) := hS1.at
  have HLS : Hid (∀ s ∈ ss, s.next.length ≤ 1048576) := fun s hs => Nat.le_trans (hls s hs) (by decide)
  have HB1 : Hid _ := hb1
  clear hA1 hC1 hS1 hls hb1
  go_wp2_with fail
  have hb0 : ∀ O, Below w1.heap.size w1 (w1.alloc O) := fun O => (Below.refl _ _).alloc (Nat.le_refl _) O
  refine specReach_any _ ss _ (HS1.out.keep (hb0 _)) (by omega) HLS.out fun v2 rs w2 hb2 hrs hown2 => ?_
  have hb12 : Below w1.heap.size w1 w2 := (hb0 _).trans (hb2.mono (by simp))
  have p2 : w2.cell? ⟨w1.heap.size, 0, none⟩ = some (.slice A1 ss.length c1) := cell_keep hb2 (by simp [go_sem])
  obtain ⟨A2, c2, hv2⟩ := (BoolsOwn.of hown2).slice
  have HO2 : Hid (BoolsOwn (w1.alloc (.cells #[.slice A1 ss.length c1] 29)).heap.size w2.heap.size w2 v2 rs) := BoolsOwn.of hown2
  subst hv2
  clear hown2 hb2
  go_wp2_with fail
  refine implReach_any _ ss _ (HS1.out.keep hb12) (by omega) HLS.out fun v3 rs' w3 hb3 hrs' hown3 => ?_
  obtain rfl := hrs.unique hrs'
  clear hrs'
  have hb13 : Below w1.heap.size w1 w3 := hb12.trans (hb3.mono hb12.size)
  have p3 := cell_keep hb3 p2
  have HO3 : Hid (BoolsOwn w2.heap.size w3.heap.size w3 v3 rs) := BoolsOwn.of hown3
  have HO2' : Hid (BoolsOwn (w1.alloc (.cells #[.slice A1 ss.length c1] 29)).heap.size w2.heap.size w3 (.slice A2 rs.length c2) rs) := HO2.out.keep hb3
  obtain ⟨A3, c3, hv3⟩ := HO3.out.slice
  subst hv3
  have hrl : rs.length ≤ 1048576 := ReachOr.bound hrs (by omega)
  have HRS : Hid (ReachOr ss rs) := hrs
  have HB13 : Hid _ := hb13
  clear hown3 hb3 HO2 hb12 p2 hrs hb13
  go_wp2_with fail
  refine lkBools_any _ _ rs _ _ _ _ _ HO3.out HO2'.out hrl fun w4 hb4 => ?_
  have HB14 : Hid (Below w1.heap.size w1 w4) := HB13.out.trans (hb4.mono HB13.out.size)
  have HBW4 : Hid (Below w.heap.size w w4) := HB1.out.trans (HB14.out.mono HB1.out.size)
  have p4 := cell_keep hb4 p3
  have HO4 : Hid (BoolsOwn w2.heap.size w3.heap.size w4 (.slice A3 rs.length c3) rs) := HO3.out.keep hb4
  have HO24 : Hid (BoolsOwn (w1.alloc (.cells #[.slice A1 ss.length c1] 29)).heap.size w2.heap.size w4 (.slice A2 rs.length c2) rs) := HO2'.out.keep hb4
  clear HO3 HO2' hb4 p3 HB13
  by_cases hr0 : rs.length = 0
  · have hnil : rs = [] := List.length_eq_zero_iff.1 hr0
    subst hnil
    go_wp2_with fail
    refine lkBools_any _ _ [] _ _ _ _ _ HO4.out HO24.out hrl fun w5 hb5 => ?_
    have HBW5 : Hid (Below w.heap.size w w5) := HBW4.out.trans (hb5.mono HBW4.out.size)
    clear hb5
    go_wp2
    exact HQ.out _ HBW5.out
  have hri : ((rs.length : Int) == 0) = false := by simp [hr0]
  obtain ⟨hok, hre⟩ : okB ss = true ∧ IsReach ss rs := by
    rcases HRS.out with h | h
    · exact h
    · rw [h.2] at hr0
      simp at hr0
  have hlen := hre.1
  have HRE : Hid (∀ i, i < ss.length → (rs[i]? = some true ↔ Reaches ss i)) := hre.2
  have HOK : Hid _ := hok
  obtain ⟨ao3, g, cap3, hv3, hrow3⟩ := HO4.out.read
  cases hv3
  have hA3 := (hrow3 0 (by omega)).1
  subst hA3
  have HROW : Hid (∀ i, i < rs.length → w4.cell? ⟨g, i, none⟩ = some (.bool (rs.getD i false))) := fun i hi => (hrow3 i hi).2.1
  obtain ⟨A1', b1', o1', c1', hv1', hA1', hC1'⟩ := HS1.out.keep HB14.out
  cases hv1'
  have hA1'' := hA1' (by omega)
  subst hA1''
  have HRC : Hid (∀ (W : World) (i : Nat) (hi : i < ss.length), Below w4.heap.size w4 W → ∃ nv, RC W w1.heap.size g b1' o1' (.slice (some ⟨b1', o1', none⟩) ss.length c1) ss rs i ss[i] nv) := fun W i hi hb => by
    obtain ⟨nv, h1, h2⟩ := hC1' i ss[i] (List.getElem?_eq_getElem hi)
    exact ⟨nv, cell_keep hb p4, cell_keep hb (HROW.out i (by omega)), h1.keep hb, h2.keep hb⟩
  clear hA1' hC1' HROW hrow3 HO4 HO24 HS1 p4 hre hok HB14
  have hri' : ((ss.length : Int) == 0) = false := beq_eq_false_iff_ne.2 (by omega)
  have hri2 : ¬ ((ss.length : Int) = 0) := by omega
  have HSZ : Hid (∀ W, Below w4.heap.size w4 W → Below w.heap.size w W) := fun W hb => HBW4.out.trans (hb.mono HBW4.out.size)
  have HCL : Hid (∀ a b (ha : a < ss.length) (hb : b < ss.length), rs.getD a false = true → goesB ss[a].next (b : Int) = true → rs.getD b false = true) := fun a b ha hb h1 h2 => by
    have e1 : rs[a]? = some true := by
      have e : rs.getD a false = rs[a]'(by omega) := by simp [List.getD, show a < rs.length by omega]
      rw [List.getElem?_eq_getElem (by omega), ← e, h1]
    have h3 : (b : Int) ∈ ss[a].next := by simpa [goesB] using h2
    have e2 := (HRE.out b hb).2 (Reaches.on ((HRE.out a ha).1 e1) (List.getElem?_eq_getElem ha) h3)
    simp [List.getD, e2]
  have HR0 : Hid (rs.getD 0 false = true) := by
    have e2 := (HRE.out 0 (by omega)).2 (Reaches.first ss)
    rw [Hid]
    simp [List.getD, e2]
  clear HBW4 hb0 HOK HRS HB1
  go_wp2_with fail
  go_loopw [6] (fun i wr => ∃ m : Nat, m ≤ ss.length ∧ i = .int .i64 m ∧ Below w4.heap.size w4 wr) (fun i _ => ss.length - (intOf i).toNat)
  case atStart => exact ⟨0, Nat.zero_le _, rfl, Below.refl _ _⟩
  case round =>
    obtain ⟨m, hm, rfl, hbm⟩ := hrel
    by_cases hml : m < ss.length
    · have hmi : (m : Int) < (ss.length : Int) := by omega
      obtain ⟨w5, rfl⟩ : ∃ w5 : World, w5 = wr := ⟨_, rfl⟩
      go_wp2_with fail
      go_loopw [7, 8] (fun so k wr => ∃ (q : Nat) (sb : Bool), q ≤ ss.length ∧ so = .bool sb ∧ k = .int .i64 q ∧ Below w4.heap.size w4 wr ∧ ((m = 0 ∨ ∃ j, ∃ hj : j < ss.length, j < q ∧ j ≠ m ∧ rs.getD j false = true ∧ goesB ss[j].next (m : Int) = true) → sb = true)) (fun _ k _ => ss.length - (intOf k).toNat)
      case atStart => exact ⟨0, decide (m = 0), Nat.zero_le _, congrArg Value.bool (natEq0 m), rfl, hbm, fun h => by
        rcases h with h | ⟨j, hj, h, _⟩
        · simp [h]
        · omega⟩
      case round =>
        clear hbm
        obtain ⟨q, sb, hq, rfl, rfl, hb, hinv⟩ := hrel
        have HINV : Hid ((m = 0 ∨ ∃ j, ∃ hj : j < ss.length, j < q ∧ j ≠ m ∧ rs.getD j false = true ∧ goesB ss[j].next (m : Int) = true) → sb = true) := hinv
        clear hinv
        by_cases hql : q < ss.length
        · have hqi : (q : Int) < (ss.length : Int) := by omega
          obtain ⟨nvm, RM⟩ := HRC.out wr m hml hb
          obtain ⟨nvq, RQ⟩ := HRC.out wr q hql hb
          have HLm := HLS.out _ (List.getElem_mem hml)
          have HLq := HLS.out _ (List.getElem_mem hql)
          have HNEW : Hid (∀ sb' : Bool, (sb = true → sb' = true) → (q ≠ m → rs.getD q false = true → goesB ss[q].next (m : Int) = true → sb' = true) → ((m = 0 ∨ ∃ j, ∃ hj : j < ss.length, j < q + 1 ∧ j ≠ m ∧ rs.getD j false = true ∧ goesB ss[j].next (m : Int) = true) → sb' = true)) := fun sb' g1 g2 h => by
            rcases h with h | ⟨j, hj, h, hjm, h3, h4⟩
            · exact g1 (HINV.out (Or.inl h))
            · by_cases e : j = q
              · subst e
                exact g2 hjm h3 h4
              · exact g1 (HINV.out (Or.inr ⟨j, hj, by omega, hjm, h3, h4⟩))
          have HCm := HCL.out m q hml hql
          have HRM : Hid _ := RM
          have HRQ : Hid _ := RQ
          have mx := RM.row
          have qx := RQ.row
          have bx := RM.box
          obtain ⟨m0, m1, m2, m3, m4, m5, m6, m7⟩ := RM.st
          obtain ⟨q0, q1, q2, q3, q4, q5, q6, q7⟩ := RQ.st
          clear RM RQ HINV
          generalize hr : rs.getD m false = r at *
          generalize ha : rs.getD q false = a at *
          generalize hx2 : goesB ss[m].next (q : Int) = x2 at *
          cases sb
          · by_cases hqm : q = m
            · have hne : ((q : Int) != (m : Int)) = false := by simp [hqm]
              have HQM : Hid (q = m) := hqm
              clear hqm
              cases r
              · skip
                go_wp2
                go_roundw
                case rel => first | exact ⟨q + 1, false, by omega, rfl, by go_num, hb, HNEW.out false (by simp) (fun h => absurd HQM.out h)⟩ | ((repeat apply Exists.intro); exact ⟨⟨q + 1, false, by omega, rfl, by go_num, hb, HNEW.out false (by simp) (fun h => absurd HQM.out h)⟩, rfl⟩)
                case measure => simp [intOf]; omega
              · go_wp2_with fail
                refine lkGoes_any ss[m] nvm (q : Int) _ HRM.out.ints HLm fun w7 hb7 => ?_
                rw [hx2]
                have HB7 : Hid (Below w4.heap.size w4 w7) := hb.trans (hb7.mono (hb).size)
                have qx7 := cell_keep hb7 qx
                clear hb7
                cases x2
                · skip
                  go_wp2
                  go_roundw
                  case rel => first | exact ⟨q + 1, false, by omega, rfl, by go_num, HB7.out, HNEW.out false (by simp) (fun h => absurd HQM.out h)⟩ | ((repeat apply Exists.intro); exact ⟨⟨q + 1, false, by omega, rfl, by go_num, HB7.out, HNEW.out false (by simp) (fun h => absurd HQM.out h)⟩, rfl⟩)
                  case measure => simp [intOf]; omega
                · obtain rfl : a = true := by simpa using HCm
                  go_wp2
                  go_roundw
                  case rel => first | exact ⟨q + 1, false, by omega, rfl, by go_num, HB7.out, HNEW.out false (by simp) (fun h => absurd HQM.out h)⟩ | ((repeat apply Exists.intro); exact ⟨⟨q + 1, false, by omega, rfl, by go_num, HB7.out, HNEW.out false (by simp) (fun h => absurd HQM.out h)⟩, rfl⟩)
                  case measure => simp [intOf]; omega
            · have hne : ((q : Int) != (m : Int)) = true := by simp; omega
              have hne' : ¬ ((q : Int) = (m : Int)) := by omega
              cases a
              · skip
                cases r
                · skip
                  go_wp2
                  go_roundw
                  case rel => first | exact ⟨q + 1, false, by omega, rfl, by go_num, hb, HNEW.out false (by simp) (by simp)⟩ | ((repeat apply Exists.intro); exact ⟨⟨q + 1, false, by omega, rfl, by go_num, hb, HNEW.out false (by simp) (by simp)⟩, rfl⟩)
                  case measure => simp [intOf]; omega
                · go_wp2_with fail
                  refine lkGoes_any ss[m] nvm (q : Int) _ HRM.out.ints HLm fun w7 hb7 => ?_
                  rw [hx2]
                  have HB7 : Hid (Below w4.heap.size w4 w7) := hb.trans (hb7.mono (hb).size)
                  have qx7 := cell_keep hb7 qx
                  clear hb7
                  cases x2
                  · skip
                    go_wp2
                    go_roundw
                    case rel => first | exact ⟨q + 1, false, by omega, rfl, by go_num, HB7.out, HNEW.out false (by simp) (by simp)⟩ | ((repeat apply Exists.intro); exact ⟨⟨q + 1, false, by omega, rfl, by go_num, HB7.out, HNEW.out false (by simp) (by simp)⟩, rfl⟩)
                    case measure => simp [intOf]; omega
                  · exact absurd HCm (by simp)
              · go_wp2_with fail
                refine lkGoes_any ss[q] nvq (m : Int) _ HRQ.out.ints HLq fun w6 hb6 => ?_
                have HB6 : Hid (Below w4.heap.size w4 w6) := hb.trans (hb6.mono hb.size)
                have HRM6 : Hid _ := HRM.out.keep hb6
                have mx6 := cell_keep hb6 mx
                have qx6 := cell_keep hb6 qx
                have bx6 := cell_keep hb6 bx
                have k0 := cell_keep hb6 m0
                have k1 := cell_keep hb6 m1
                have k2 := cell_keep hb6 m2
                have k3 := cell_keep hb6 m3
                have k4 := cell_keep hb6 m4
                have k5 := cell_keep hb6 m5
                have k6 := cell_keep hb6 m6
                have k7 := cell_keep hb6 m7
                clear hb6
                generalize hx1 : goesB ss[q].next (m : Int) = x1 at *
                cases r
                · skip
                  go_wp2
                  go_roundw
                  case rel => first | exact ⟨q + 1, x1, by omega, rfl, by go_num, HB6.out, HNEW.out x1 (by simp) (by simp)⟩ | ((repeat apply Exists.intro); exact ⟨⟨q + 1, x1, by omega, rfl, by go_num, HB6.out, HNEW.out x1 (by simp) (by simp)⟩, rfl⟩)
                  case measure => simp [intOf]; omega
                · go_wp2_with fail
                  refine lkGoes_any ss[m] nvm (q : Int) _ HRM6.out.ints HLm fun w7 hb7 => ?_
                  rw [hx2]
                  have HB7 : Hid (Below w4.heap.size w4 w7) := HB6.out.trans (hb7.mono (HB6.out).size)
                  have qx7 := cell_keep hb7 qx6
                  clear hb7
                  cases x2
                  · skip
                    go_wp2
                    go_roundw
                    case rel => first | exact ⟨q + 1, x1, by omega, rfl, by go_num, HB7.out, HNEW.out x1 (by simp) (by simp)⟩ | ((repeat apply Exists.intro); exact ⟨⟨q + 1, x1, by omega, rfl, by go_num, HB7.out, HNEW.out x1 (by simp) (by simp)⟩, rfl⟩)
                    case measure => simp [intOf]; omega
                  · skip
                    go_wp2
                    go_roundw
                    case rel => first | exact ⟨q + 1, x1, by omega, rfl, by go_num, HB7.out, HNEW.out x1 (by simp) (by simp)⟩ | ((repeat apply Exists.intro); exact ⟨⟨q + 1, x1, by omega, rfl, by go_num, HB7.out, HNEW.out x1 (by simp) (by simp)⟩, rfl⟩)
                    case measure => simp [intOf]; omega
          · skip
            cases r
            · skip
              go_wp2
              go_roundw
              case rel => first | exact ⟨q + 1, true, by omega, rfl, by go_num, hb, HNEW.out true (by simp) (by simp)⟩ | ((repeat apply Exists.intro); exact ⟨⟨q + 1, true, by omega, rfl, by go_num, hb, HNEW.out true (by simp) (by simp)⟩, rfl⟩)
              case measure => simp [intOf]; omega
            · go_wp2_with fail
              refine lkGoes_any ss[m] nvm (q : Int) _ HRM.out.ints HLm fun w7 hb7 => ?_
              rw [hx2]
              have HB7 : Hid (Below w4.heap.size w4 w7) := hb.trans (hb7.mono (hb).size)
              have qx7 := cell_keep hb7 qx
              clear hb7
              cases x2
              · skip
                go_wp2
                go_roundw
                case rel => first | exact ⟨q + 1, true, by omega, rfl, by go_num, HB7.out, HNEW.out true (by simp) (by simp)⟩ | ((repeat apply Exists.intro); exact ⟨⟨q + 1, true, by omega, rfl, by go_num, HB7.out, HNEW.out true (by simp) (by simp)⟩, rfl⟩)
                case measure => simp [intOf]; omega
              · obtain rfl : a = true := by simpa using HCm
                go_wp2
                go_roundw
                case rel => first | exact ⟨q + 1, true, by omega, rfl, by go_num, HB7.out, HNEW.out true (by simp) (by simp)⟩ | ((repeat apply Exists.intro); exact ⟨⟨q + 1, true, by omega, rfl, by go_num, HB7.out, HNEW.out true (by simp) (by simp)⟩, rfl⟩)
                case measure => simp [intOf]; omega
        · have hqi : ¬ ((q : Int) < (ss.length : Int)) := by omega
          obtain rfl : q = ss.length := by omega
          obtain ⟨nvm, RM⟩ := HRC.out wr m hml hb
          have mx := RM.row
          have HS : Hid (rs.getD m false = true → sb = true) := fun hr => by
            have e1 : rs[m]? = some true := by
              have e : rs.getD m false = rs[m]'(by omega) := by simp [List.getD, show m < rs.length by omega]
              rw [List.getElem?_eq_getElem (by omega), ← e, hr]
            refine HINV.out ?_
            rcases reaches_ahead ((HRE.out m hml).1 e1) with h | ⟨k, s, hkm, hk, hs, hin⟩
            · exact Or.inl h
            · have hkl := (List.getElem?_eq_some_iff.1 hs).1
              have hs' := (List.getElem?_eq_some_iff.1 hs).2
              have ek := (HRE.out k hkl).2 hk
              exact Or.inr ⟨k, hkl, hkl, hkm, by simp [List.getD, ek], by rw [hs']; simpa [goesB] using hin⟩
          clear RM HINV
          have hss := HS.out
          generalize rs.getD m false = r at *
          cases r
          · go_wp2
            go_roundw
            case rel => exact ⟨m + 1, by omega, by go_num, hb⟩
            case measure => simp [intOf]; omega
          · obtain rfl : sb = true := hss rfl
            go_wp2
            go_roundw
            case rel => exact ⟨m + 1, by omega, by go_num, hb⟩
            case measure => simp [intOf]; omega
    · have hmi : ¬ ((m : Int) < (ss.length : Int)) := by omega
      obtain ⟨nv0, R0⟩ := HRC.out wr 0 (by omega) hbm
      have r0 := R0.row
      rw [HR0.out] at r0
      have h0i : (0 : Int) < (ss.length : Int) := by omega
      clear R0
      have HF : Hid (Below w.heap.size w wr) := HSZ.out _ hbm
      go_wp2
      exact HQ.out _ HF.out

set_option maxRecDepth 100000 in
theorem law_lifted (os : Os) (started : os.Started) (H : Type) (enc : TypeId × Value → H) :
    ReturnsInHanded {} Try.checked os 11 .any (Rows.fnFlowReachSpec.pre6 enc Try.prog Try.f11 Rows.fnFlowReachRow.domain false) (Rows.fnFlowReachSpec.post enc Try.prog Try.f11 false true false false) := by
  refine returnsInHanded_of_change (C := Try.checked) own started (by kernel_rfl) Try.func11
    (ChangeSpec.witness6 (enc := enc) (C := Try.checked) false ⟨#[], #[.slice none 0 0], []⟩ 8 (by kernel_rfl) (by kernel_rfl) (by kernel_rfl) (by kernel_rfl)) ?_
  intro W base args ds gs before hval0 hW hcnd _
  have hval : ∀ (j : Nat) t v, Try.f11.params[j]? = some t → args[j]? = some v → Value.okWide Try.prog W .any base t v := hval0
  have hW' := hW
  obtain ⟨p, q, hA0, hV, rfl, hfz, hnd⟩ := hW
  have hA : DataW.TrodAll enc Try.prog W 0 (fun _ => true) true Try.f11.params.toList args.toList ds p := hA0
  rw [Try.params11] at hA hval
  obtain ⟨v0, vs0, d0, ds0, p0, q0, hargs, rfl, rfl, h0, r0⟩ := trodAll_cons hA
  obtain ⟨rfl, rfl, rfl⟩ := trodAll_nil r0
  obtain rfl : args = #[v0] := by cases args; simp_all
  obtain ⟨rfl, rfl⟩ := trodVars_none hV
  have k0 := h0
  have lt0 : ∀ x ∈ p0, x.block < W.heap.size := by obtain ⟨m, hm⟩ := k0; exact DataW.trod_lt m _ _ _ hm
  have c0 := open_code (hval 0 50 v0 rfl rfl) h0
  clear hA0 hval0
  refine law_walk v0 W c0 fun W' bel => ?_
  exact ⟨_, rfl, _, _, _, [], _, [], hW', trodAll_mk1 (shut_bool Try.underlying4 _), (trodAll_cons_mk (Below.trod laidOut (by kernel_rfl) (of_decide_eq_true (by kernel_rfl)) k0 bel lt0) trodAll_mk0), rfl, bel.frame _, fun h => by cases h⟩

theorem fnFlowReach_holds : Rows.FnFlowReachSaid :=
  OpenClaim.holds_of_wide 11 Try.f11 rfl rfl rfl rfl rfl rfl rfl ⟨rfl, rfl, rfl, rfl, rfl⟩ rfl rfl rfl rfl rfl (by kernel_rfl) Try.func11 (by kernel_rfl)
    (of_decide_eq_true (by kernel_rfl)) (by unfold Func.isWrapper; first | (rw [if_pos (by decide +kernel)]; kernel_rfl) | (rw [if_neg (by decide +kernel)]; exact ⟨rfl, rfl⟩))
    (fun os started H enc _ => law_lifted os started H enc)
#print axioms fnFlowReach_holds
end Go.Proofs.Ytemmjiiibcbiiaa
