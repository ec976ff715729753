/- What the program's wayCounts, needsSkip, slices.Contains of bools, and FlowIsTidy answer. -/
import Derived.Test.YtancacjnbbdbfaaReachI
import Derived.Test.YtancacjnbbdbfaaSpecWays
namespace Go.Proofs.Ytancacjnbbdbfaa
open Go.RowKit

theorem getD_nat {zs : List Int} {t m : Nat} (h : zs.getD t 0 = (m : Int)) (j : Nat) : (zs.getD t 0 = (j : Int)) ↔ j = m := by
  rw [h]; omega

set_option maxRecDepth 100000 in
set_option maxHeartbeats 4000000 in
theorem wayCounts_any {Q : Ending → World → Prop} (v : Value) (ss : List St) (w : World) (h : StepsAt w v ss) (hf : Fit ss)
    (hQ : ∀ w', Below w.heap.size w w' → w'.rowIs w.heap.size 3 ss.length (fun j => intV (ways ss (j : Int))) → Q (.returned (.slice (some ⟨w.heap.size, 0, none⟩) ss.length ss.length)) w') :
    Calls Try.prog 45 #[v] w Q := by
  have HQ : Hid _ := hQ
  clear hQ
  have hl := hf.1
  have HF : Hid (Fit ss) := hf
  obtain ⟨ao, b, o, cap, rfl, ha, hc⟩ := h
  have HA : Hid _ := ha
  have HC : Hid _ := hc
  clear ha hc hf
  go_enter Try.func45, Try.ntmps45
  go_wp2_with (at_make; refine wpList_make_is _ rfl (.tmp 9) (.tmp 9) 41 rfl 3 (.int .i64 0) 8 Try.underlying41 infoInt1 rfl .i64 .i64 ss.length rfl rfl (by omega) (by omega) ?_; intro w1 hrow1 hb1 hs1)
  have HR1 : Hid (w1.rowIs w.heap.size 3 ss.length (fun _ => .int .i64 0)) := hrow1
  have HB1 : Hid (Below w.heap.size w w1) := hb1
  clear hrow1 hb1
  go_loopw [13] (fun i wr => ∃ k : Nat, k ≤ ss.length ∧ i = .int .i64 k ∧ Below w.heap.size w wr ∧ wr.rowIs w.heap.size 3 ss.length (fun j => intV (waysK ss k (j : Int)))) (fun i _ => ss.length - (intOf i).toNat)
  case atStart => exact ⟨0, Nat.zero_le _, rfl, HB1.out, HR1.out.congr fun i _ => by rw [waysK_zero]; rfl⟩
  case round =>
    obtain ⟨k, hk, rfl, hb, hrow⟩ := hrel
    have HB : Hid (Below w.heap.size w wr) := hb
    have HROW : Hid (wr.rowIs w.heap.size 3 ss.length (fun j => intV (waysK ss k (j : Int)))) := hrow
    by_cases hkl : k < ss.length
    · have hki : (k : Int) < (ss.length : Int) := by omega
      obtain rfl := HA.out (by omega)
      have hss : ss[k]? = some ss[k] := by simp [hkl]
      obtain ⟨nu, cu, iu⟩ := HC.out k ss[k] hss
      obtain ⟨nao, nb, no, ncap, rfl, hna, hnc⟩ := id iu
      obtain ⟨c0, c1, c2, c3, c4, c5, c6, c7⟩ := cu.keep hb
      have HNA : Hid _ := hna
      have HNC : Hid _ := hnc
      obtain ⟨h2, hnx⟩ := HF.out.2 k ss[k] hss
      have HNX : Hid _ := hnx
      have HSUC : Hid (∀ j : Int, waysK ss (k + 1) j = waysK ss k j + ss[k].next.count j) := waysK_succ hkl
      have hwl : w.heap.size < wr.heap.size := hrow.lt
      have HTWO : Hid _ := HF.out.two
      clear cu iu hna hnc hnx hss hb hrow
      go_wp2_with fail
      have hba : ∀ O, Below wr.heap.size wr (wr.alloc O) := fun O => (Below.refl _ _).alloc (Nat.le_refl _) O
      have hrowA : ∀ O, (wr.alloc O).rowIs w.heap.size 3 ss.length (fun j => intV (waysK ss k (j : Int))) := fun O => HROW.out.alloc O
      have hBA : ∀ O, Below w.heap.size w (wr.alloc O) := fun O => HB.out.trans ((hba O).mono (by omega))
      have HRA : Hid _ := hrowA
      have HBA : Hid _ := hBA
      clear c0 c1 c2 c3 c4 c5 c6 c7 hba hrowA hBA
      go_loopw [20] (fun i wr2 => ∃ t : Nat, t ≤ ss[k].next.length ∧ i = .int .i64 t ∧ Below w.heap.size w wr2 ∧ wr2.rowIs w.heap.size 3 ss.length (fun j => intV (waysK ss k (j : Int) + (ss[k].next.take t).count (j : Int)))) (fun i _ => ss[k].next.length - (intOf i).toNat)
      case atStart => exact ⟨0, Nat.zero_le _, rfl, HBA.out _, (HRA.out _).congr fun i _ => by simp⟩
      case round =>
        obtain ⟨t, ht, rfl, hb, hrow⟩ := hrel
        have HB2 : Hid (Below w.heap.size w wr) := hb
        have HROW2 : Hid (wr.rowIs w.heap.size 3 ss.length (fun j => intV (waysK ss k (j : Int) + (ss[k].next.take t).count (j : Int)))) := hrow
        by_cases htl : t < ss[k].next.length
        · have hti : (t : Int) < (ss[k].next.length : Int) := by omega
          obtain rfl := HNA.out (by omega)
          obtain ⟨m, hm, hmn, _⟩ := HNX.out t htl
          have cx := cell_keep hb (HNC.out t htl)
          rw [hm] at cx
          have hmi : (m : Int) < (ss.length : Int) := by omega
          have rm : wr.cell? ⟨w.heap.size, m, none⟩ = some (.int .i64 ((waysK ss k (m : Int) + (ss[k].next.take t).count (m : Int) : Nat) : Int)) := hrow.cell hmn
          have fm := hrow.frozen m
          have hb1 := waysK_le HTWO.out k (m : Int)
          have hb2 := count_take_le ss[k].next t (m : Int)
          have HCT : Hid (∀ j : Nat, (ss[k].next.take (t + 1)).count (j : Int) = (ss[k].next.take t).count (j : Int) + if j = m then 1 else 0) := by
            intro j
            rw [count_take htl]
            simp only [getD_nat hm j]
          clear hb hrow hm
          generalize hN : waysK ss k (m : Int) + (ss[k].next.take t).count (m : Int) = N at *
          have hNb : N ≤ 1000 := by omega
          have HNN : Hid _ := hN
          clear hN
          go_wp2
          go_roundw
          case rel =>
            refine ⟨t + 1, by omega, by go_num, HB2.out.setCell (Nat.le_refl _) _, (HROW2.out.set m _).congr fun j hj => ?_⟩
            rw [HCT.out j]
            by_cases e : j = m
            · subst e
              have := HNN.out
              simp only [if_true, intV]
              congr 1
              omega
            · simp only [if_neg e, Nat.add_zero]
          case measure => simp [intOf]; omega
        · have hti : ¬ (t : Int) < (ss[k].next.length : Int) := by omega
          obtain rfl : t = ss[k].next.length := by omega
          clear hb hrow
          go_wp2
          go_roundw
          case rel => exact ⟨k + 1, by omega, by go_num, HB2.out, HROW2.out.congr fun j hj => by rw [HSUC.out]; simp⟩
          case measure => simp [intOf]; omega
    · have hki : ¬ (k : Int) < (ss.length : Int) := by omega
      obtain rfl : k = ss.length := by omega
      clear hb hrow
      go_wp2
      exact HQ.out _ HB.out (HROW.out.congr fun j _ => by rw [waysK_all])

def skipB (c : Nat) (k : Int) : Bool := decide (1 < c) && decide (k ≠ 6)

set_option maxHeartbeats 1000000 in
theorem needsSkip_any {Q : Ending → World → Prop} (nv : Value) (s : St) (c : Nat) (w : World)
    (hQ : ∀ w', Below w.heap.size w w' → Q (.returned (.bool (skipB c s.kind))) w') :
    Calls Try.prog 56 #[stepV s nv, .int .i64 (c : Int)] w Q := by
  have HQ : Hid _ := hQ
  clear hQ
  have hb0 : ∀ O, Below w.heap.size w (w.alloc O) := fun O => (Below.refl _ _).alloc (Nat.le_refl _) O
  unfold stepV
  unfold skipB at HQ
  by_cases h1 : 1 < c
  · have h1i : (1 : Int) < (c : Int) := by omega
    rw [decide_eq_true h1] at HQ
    by_cases h6 : s.kind = 6
    · simp only [h6, ne_eq, not_true_eq_false, decide_false, Bool.and_false] at HQ
      rw [h6]
      go_enter Try.func56, Try.ntmps56
      go_wp2
      exact HQ.out _ (hb0 _)
    · simp only [h6, ne_eq, not_false_eq_true, decide_true, Bool.and_true] at HQ
      have h6b : (s.kind != 6) = true := by simpa using h6
      go_enter Try.func56, Try.ntmps56
      go_wp2
      exact HQ.out _ (hb0 _)
  · have h1i : ¬ (1 : Int) < (c : Int) := by omega
    rw [decide_eq_false h1] at HQ
    simp only [Bool.false_and] at HQ
    go_enter Try.func56, Try.ntmps56
    go_wp2
    exact HQ.out _ (hb0 _)

set_option maxHeartbeats 1000000 in
theorem containsFalse_any {Q : Ending → World → Prop} (v : Value) (rs : List Bool) (base : Nat) (w : World) (h : w.ownsRow base 4 1 v rs.length (rs.map Value.bool)) (h0 : 0 < rs.length) (hl : rs.length ≤ 1048576)
    (hQ : ∀ w', Below w.heap.size w w' → Q (.returned (.bool (decide (false ∈ rs)))) w') :
    Calls Try.prog 55 #[v, .bool false] w Q := by
  have HQ : Hid _ := hQ
  clear hQ
  obtain ⟨g, cap, rfl, _, _, _, hc, _⟩ := own_slice1 h h0
  have HC : Hid _ := hc
  clear hc h
  have HI : Hid (∀ {Q' : Ending → World → Prop}, (∀ (z : Int), (0 ≤ z ↔ false ∈ rs) → z ≤ 1048576 → Q' (.returned (.int .i64 z)) w) → Calls Try.prog 79 #[.slice (some ⟨g, 0, none⟩) rs.length cap, .bool false] w Q') := by
    intro Q' hQ'
    have HQ' : Hid _ := hQ'
    clear hQ' HQ
    go_enter Try.func79, Try.ntmps79
    go_wp2
    go_loop [8] (fun i => ∃ k : Nat, k ≤ rs.length ∧ i = .int .i64 k ∧ ∀ j, j < k → rs[j]? = some true) (fun i => rs.length - (intOf i).toNat)
    case atStart => exact ⟨0, Nat.zero_le _, rfl, by omega⟩
    case round =>
      obtain ⟨k, hk, rfl, hall⟩ := hrel
      have HALL : Hid _ := hall
      clear hall
      by_cases hkl : k < rs.length
      · have hki : (k : Int) < (rs.length : Int) := by omega
        have c1 : w.cell? ⟨g, k, none⟩ = some (.bool rs[k]) := (HC.out k hkl).trans (by rw [List.getElem?_map, List.getElem?_eq_getElem hkl]; rfl)
        cases hv : rs[k]
        · rw [hv] at c1
          have HM : Hid (false ∈ rs) := by rw [Hid, ← hv]; exact List.getElem_mem hkl
          clear hv
          go_wp2
          exact HQ'.out _ ⟨fun _ => HM.out, fun _ => by omega⟩ (by omega)
        · rw [hv] at c1
          have HV : Hid (rs[k]? = some true) := by rw [Hid, List.getElem?_eq_getElem hkl, hv]
          clear hv
          go_wp2
          go_round
          case rel =>
            refine ⟨k + 1, by omega, by go_num, fun j hj => ?_⟩
            by_cases e : j = k
            · subst e; exact HV.out
            · exact HALL.out j (by omega)
          case measure => simp [intOf]; omega
      · have hki : ¬ (k : Int) < (rs.length : Int) := by omega
        go_wp2
        refine HQ'.out _ ⟨by omega, fun hm => ?_⟩ (by omega)
        obtain ⟨j, hj, e⟩ := List.mem_iff_getElem.1 hm
        have := HALL.out j (by omega)
        rw [List.getElem?_eq_getElem hj, e] at this
        cases this
  clear HC
  go_enter Try.func55, Try.ntmps55
  go_wp2_with fail
  refine HI.out fun z hz hz1 => ?_
  by_cases hm : false ∈ rs
  · have h1 := hz.2 hm
    rw [decide_eq_true hm] at HQ
    clear hz hm
    go_wp2
    exact HQ.out _ (Below.refl _ _)
  · have h1 : ¬ 0 ≤ z := fun h => hm (hz.1 h)
    have h1b : decide (0 ≤ z) = false := by simpa using h1
    rw [decide_eq_false hm] at HQ
    clear hz hm
    go_wp2
    exact HQ.out _ (Below.refl _ _)

set_option maxRecDepth 100000 in
set_option maxHeartbeats 4000000 in
theorem implIsTidy_any {Q : Ending → World → Prop} (v : Value) (ss : List St) (w : World) (h : StepsAt w v ss) (hl : ss.length ≤ 1048576) (hls : ∀ s ∈ ss, s.next.length ≤ 1048576)
    (hQ : ∀ (r : Bool) w', Below w.heap.size w w' → (r = true ↔ (okB ss = true ∧ Tidy ss)) → Q (.returned (.bool r)) w') :
    Calls Try.prog 25 #[.agg #[v]] w Q := by
  have HQ : Hid _ := hQ
  clear hQ
  obtain ⟨ao, b, o, cap, rfl, ha, hc⟩ := id h
  have HH : Hid (StepsAt w (.slice ao ss.length cap) ss) := h
  have HA : Hid _ := ha
  have HC : Hid _ := hc
  have HL : Hid _ := hls
  clear hls h ha hc
  have hb0 : ∀ O, Below w.heap.size w (w.alloc O) := fun O => (Below.refl _ _).alloc (Nat.le_refl _) O
  cases hok : okB ss
  · have HOK : Hid (okB ss = false) := hok
    go_enter Try.func25, Try.ntmps25
    go_wp2_with fail
    refine implOk_any _ ss _ (HH.out.keep (hb0 _)) hl HL.out fun w1 hb1 => ?_
    rw [hok]
    have hbA : Below w.heap.size w w1 := (hb0 _).trans (hb1.mono (by simp))
    clear hb1 hb0 hok
    go_wp2
    exact HQ.out false _ hbA (by rw [HOK.out]; simp)
  · have HOK : Hid (okB ss = true) := hok
    obtain ⟨hn1, hn2⟩ := ok_len hok
    obtain rfl := HA.out (by omega)
    go_enter Try.func25, Try.ntmps25
    go_wp2_with fail
    refine implOk_any _ ss _ (HH.out.keep (hb0 _)) hl HL.out fun w1 hb1 => ?_
    rw [hok]
    have hbA : Below w.heap.size w w1 := (hb0 _).trans (hb1.mono (by simp))
    have q1 : w1.cell? ⟨w.heap.size, 0, none⟩ = some (.slice (some ⟨b, o, none⟩) ss.length cap) := cell_keep hb1 (by simp [go_sem])
    clear hb1 hb0 hok
    go_wp2_with fail
    refine wayCounts_any _ ss _ (HH.out.keep hbA) (ok_fit HOK.out) fun w2 hb2 hrow2 => ?_
    have hbB : Below w.heap.size w w2 := hbA.trans (hb2.mono hbA.size)
    have q2 := cell_keep hb2 q1
    have r0 : w2.cell? ⟨w1.heap.size, 0, none⟩ = some (.int .i64 ((ways ss 0 : Nat) : Int)) := hrow2.cell (i := 0) (by omega)
    have HR2 : Hid (w2.rowIs w1.heap.size 3 ss.length (fun j => intV (ways ss (j : Int)))) := hrow2
    have s12 : w1.heap.size < w2.heap.size := hrow2.lt
    clear hb2 q1 hbA hrow2
    have hw00 := waysK_le (ok_fit HOK.out).two ss.length 0
    rw [waysK_all] at hw00
    by_cases hw0 : ways ss 0 = 0
    · have HW0 : Hid (ways ss 0 = 0) := hw0
      rw [hw0] at r0
      clear hw0 hw00
      go_wp2_with fail
      refine reachOf_any _ ss _ (HH.out.keep hbB) HOK.out fun v3 rs w3 hb3 hrs hown3 => ?_
      have hbC : Below w.heap.size w w3 := hbB.trans (hb3.mono hbB.size)
      have q3 := cell_keep hb3 q2
      have HRS : Hid (IsReach ss rs) := hrs
      have hrl := hrs.1
      have HR3 : Hid (w3.rowIs w1.heap.size 3 ss.length (fun j => intV (ways ss (j : Int)))) := HR2.out.of_block (hb3.block _ s12)
      have HO3 : Hid (w3.ownsRow w2.heap.size 4 1 v3 rs.length (rs.map Value.bool)) := by rw [hrl]; exact hown3
      obtain ⟨g, cap3, rfl, _⟩ := own_slice1 hown3 (by omega)
      clear hb3 q2 hbB hrs hown3 HR2 r0
      go_wp2_with fail
      refine containsFalse_any _ rs _ _ (by rw [hrl]; rw [hrl] at HO3; exact HO3.out) (by omega) (by omega) fun w4 hb4 => ?_
      have hbD : Below w.heap.size w w4 := hbC.trans (hb4.mono hbC.size)
      have q4 := cell_keep hb4 q3
      have HR4 : Hid (w4.rowIs w1.heap.size 3 ss.length (fun j => intV (ways ss (j : Int)))) := rowIs_keep HR3.out hb4
      clear hb4 q3 hbC HR3 HO3
      by_cases hfa : false ∈ rs
      · rw [decide_eq_true hfa]
        have HNF : Hid (∃ k, k < ss.length ∧ ¬ Reaches ss k) := by
          obtain ⟨k, hk, e⟩ := List.mem_iff_getElem.1 hfa
          refine ⟨k, by omega, fun hr => ?_⟩
          have := (HRS.out.2 k (by omega)).2 hr
          rw [List.getElem?_eq_getElem hk, e] at this
          cases this
        clear hfa
        go_wp2
        obtain ⟨k, hk, hn⟩ := HNF.out
        exact HQ.out false _ hbD ⟨by simp, fun ht => absurd (ht.2.2.1 k hk) hn⟩
      · rw [decide_eq_false hfa]
        have HALLR : Hid (∀ i, i < ss.length → Reaches ss i) := by
          intro i hi
          refine (HRS.out.2 i hi).1 ?_
          have hi' : i < rs.length := by omega
          rw [List.getElem?_eq_getElem hi']
          cases e : rs[i]
          · exact absurd (by rw [← e]; exact List.getElem_mem hi') hfa
          · rfl
        have HB4 : Hid (Below w.heap.size w w4) := hbD
        clear hfa hbD
        go_wp2_with fail
        go_loopw [27] (fun i wr => ∃ k : Nat, k ≤ ss.length ∧ i = .int .i64 k ∧ Below w4.heap.size w4 wr ∧ ∀ j s, j < k → ss[j]? = some s → (s.kind ≠ 6 → ∀ x ∈ s.next, ways ss x ≤ 1)) (fun i _ => ss.length - (intOf i).toNat)
        case atStart => exact ⟨0, Nat.zero_le _, rfl, Below.refl _ _, by omega⟩
        case round =>
          obtain ⟨k, hk, rfl, hb, hall⟩ := hrel
          have HALL : Hid _ := hall
          have HBr : Hid (Below w4.heap.size w4 wr) := hb
          have HB : Hid (Below w.heap.size w wr) := HB4.out.trans (hb.mono HB4.out.size)
          clear hall
          by_cases hkl : k < ss.length
          · have hki : (k : Int) < (ss.length : Int) := by omega
            have hss : ss[k]? = some ss[k] := by simp [hkl]
            obtain ⟨nu, cu, iu⟩ := HC.out k ss[k] hss
            obtain ⟨nao, nb, no, ncap, rfl, hna, hnc⟩ := id iu
            obtain ⟨c0, c1, c2, c3, c4, c5, c6, c7⟩ := cu.keep HB.out
            have HNA : Hid _ := hna
            have HNC : Hid _ := hnc
            obtain ⟨h2, hnx⟩ := (ok_fit HOK.out).2 k ss[k] hss
            have HNX : Hid _ := hnx
            clear cu iu hna hnc hnx hss hb
            go_wp2_with fail
            have hbx : ∀ O, Below wr.heap.size wr (wr.alloc O) := fun O => (Below.refl _ _).alloc (Nat.le_refl _) O
            have HSC : Hid (StepCells (wr.alloc (.cells #[.int .i64 ss[k].kind, .int .i64 ss[k].dst, .int .i64 ss[k].op, .int .i64 ss[k].av, .int .i64 ss[k].an, .int .i64 ss[k].bv, .int .i64 ss[k].bn, .slice nao ss[k].next.length ncap] 43)) wr.heap.size 0 ss[k] (.slice nao ss[k].next.length ncap)) := ⟨by simp [go_sem], by simp [go_sem], by simp [go_sem], by simp [go_sem], by simp [go_sem], by simp [go_sem], by simp [go_sem], by simp [go_sem]⟩
            have HBX : Hid (Below w4.heap.size w4 (wr.alloc (.cells #[.int .i64 ss[k].kind, .int .i64 ss[k].dst, .int .i64 ss[k].op, .int .i64 ss[k].av, .int .i64 ss[k].an, .int .i64 ss[k].bv, .int .i64 ss[k].bn, .slice nao ss[k].next.length ncap] 43))) := HBr.out.trans ((hbx _).mono HBr.out.size)
            clear c0 c1 c2 c3 c4 c5 c6 c7 hbx
            go_loopw [34] (fun i wr2 => ∃ t : Nat, t ≤ ss[k].next.length ∧ i = .int .i64 t ∧ Below w4.heap.size w4 wr2 ∧ StepCells wr2 wr.heap.size 0 ss[k] (.slice nao ss[k].next.length ncap) ∧ (∀ t', t' < t → ss[k].kind ≠ 6 → ways ss (ss[k].next.getD t' 0) ≤ 1)) (fun i _ => ss[k].next.length - (intOf i).toNat)
            case atStart => exact ⟨0, Nat.zero_le _, rfl, HBX.out, HSC.out, by omega⟩
            case round =>
              obtain ⟨t, ht, rfl, hb, hsc, hall⟩ := hrel
              have HALL2 : Hid _ := hall
              have HBr5 : Hid (Below w4.heap.size w4 wr) := hb
              have HB5 : Hid (Below w.heap.size w wr) := HB4.out.trans (hb.mono HB4.out.size)
              have HSC5 : Hid _ := hsc
              by_cases htl : t < ss[k].next.length
              · have hti : (t : Int) < (ss[k].next.length : Int) := by omega
                obtain rfl := HNA.out (by omega)
                obtain ⟨m, hm, hmn, hmx⟩ := HNX.out t htl
                have cx := cell_keep HB5.out (HNC.out t htl)
                rw [hm] at cx
                have hmi : (m : Int) < (ss.length : Int) := by omega
                have rm : wr.cell? ⟨w1.heap.size, m, none⟩ = some (.int .i64 ((ways ss (m : Int) : Nat) : Int)) := (rowIs_keep HR4.out hb).cell hmn
                obtain ⟨c0, c1, c2, c3, c4, c5, c6, c7⟩ := hsc
                simp only [Nat.zero_add] at c1 c2 c3 c4 c5 c6 c7
                have HMX : Hid _ := hmx
                have HLT : Hid ((ss[k].kind ≠ 6 → ways ss (m : Int) ≤ 1) → ∀ t', t' < t + 1 → ss[k].kind ≠ 6 → ways ss (ss[k].next.getD t' 0) ≤ 1) := by
                  intro h1 t' ht' h6
                  by_cases e : t' = t
                  · subst e; rw [hm]; exact h1 h6
                  · exact HALL2.out t' (by omega) h6
                clear hb hall hm hmx
                go_wp2_with fail
                go_region_with (go_at_call 56; refine needsSkip_any (.slice (some ⟨nb, no, none⟩) ss[k].next.length ncap) ss[k] (ways ss (m : Int)) _ ?_; intro w6 hb6)
                all_goals
                  have hbr6 : Below wr.heap.size wr w6 := ⟨hb6.os, hb6.tape, hb6.output, hb6.size, hb6.block⟩
                  have HB6 : Hid (Below w.heap.size w w6) := HB5.out.trans (hbr6.mono HB5.out.size)
                  have HBr6 : Hid (Below w4.heap.size w4 w6) := HBr5.out.trans (hbr6.mono HBr5.out.size)
                  have HSC6 : Hid _ := StepCells.keep HSC5.out hbr6
                  clear hb6 hbr6 c0 c1 c2 c3 c4 c5 c6 c7 cx rm
                  cases hd : skipB (ways ss (m : Int)) ss[k].kind
                  · have HD : Hid (ss[k].kind ≠ 6 → ways ss (m : Int) ≤ 1) := by
                      intro h6
                      simp [skipB, h6] at hd
                      omega
                    clear hd
                    go_wp2
                    go_roundw
                    case rel => exact ⟨t + 1, by omega, by go_num, HBr6.out, HSC6.out, HLT.out HD.out⟩
                    case measure => simp [intOf]; omega
                  · have HD : Hid (1 < ways ss (m : Int) ∧ ss[k].kind ≠ 6) := by simpa [Hid, skipB] using hd
                    clear hd
                    go_wp2
                    exact HQ.out false _ HB6.out ⟨by simp, fun ht => by have h1 := HD.out.1; have h3 := ht.2.2.2 ss[k] (List.getElem_mem hkl) HD.out.2 m HMX.out; omega⟩
              · have hti : ¬ (t : Int) < (ss[k].next.length : Int) := by omega
                clear hb hsc hall
                go_wp2
                go_roundw
                case rel =>
                  refine ⟨k + 1, by omega, by go_num, HBr5.out, fun j s hj hs h6 x hx => ?_⟩
                  by_cases hjk : j = k
                  · subst hjk
                    rw [List.getElem?_eq_getElem hkl] at hs
                    cases hs
                    obtain ⟨t', ht', e⟩ := mem_getD' hx
                    rw [← e]
                    exact HALL2.out t' (by omega) h6
                  · exact HALL.out j s (by omega) hs h6 x hx
                case measure => simp [intOf]; omega
          · have hki : ¬ (k : Int) < (ss.length : Int) := by omega
            clear hb
            go_wp2
            refine HQ.out true _ HB.out ⟨fun _ => ⟨HOK.out, HW0.out, HALLR.out, fun s hs => ?_⟩, fun _ => rfl⟩
            obtain ⟨j, hj, rfl⟩ := List.mem_iff_getElem.1 hs
            exact HALL.out j ss[j] (by omega) (List.getElem?_eq_getElem hj)
    · have hwi : (0 : Int) < (ways ss 0 : Int) := by omega
      have HW0 : Hid (¬ ways ss 0 = 0) := hw0
      clear hw0 hw00
      go_wp2
      exact HQ.out false _ hbB ⟨by simp, fun ht => absurd ht.2.1 HW0.out⟩
end Go.Proofs.Ytancacjnbbdbfaa
