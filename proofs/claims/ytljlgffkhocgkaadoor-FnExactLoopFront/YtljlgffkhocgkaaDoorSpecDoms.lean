/- What the model's l2All and FlowDoms answer. -/
import Derived.Test.YtljlgffkhocgkaaDoorMat
import Derived.Test.YtljlgffkhocgkaaDoorSpecPreds
namespace Go.Proofs.YtljlgffkhocgkaaDoor
open Go.RowKit

theorem infoBools : (Tryd.prog.info? 30).map (fun i => (i.zero, i.size, i.bytes)) = some (some (.slice none 0 0), 1, 24) := by kernel_rfl

set_option maxHeartbeats 1000000 in
theorem l2All_any {Q : Ending → World → Prop} (v sv : Value) (zs : List Int) (k n lo lo2 : Nat) (gs : Nat → Nat) (m : Nat → Nat → Bool) (w : World) (h : Mat lo lo2 w v n n gs m) (hz : IntsAt w sv zs) (hl : zs.length ≤ 1000) (hzn : ∀ t, t < zs.length → ∃ p : Nat, zs.getD t 0 = (p : Int) ∧ p < n) (hk : k < n) (hn : n ≤ 1000)
    (hQ : ∀ b : Bool, (b = true → ∀ p : Nat, (p : Int) ∈ zs → m p k = true) → (b = false → ∃ p : Nat, (p : Int) ∈ zs ∧ m p k = false) → Q (.returned (.bool b)) w) :
    Calls Tryd.prog 66 #[v, sv, .int .i64 (k : Int)] w Q := by
  have HQ : Hid _ := hQ
  have HZN : Hid _ := hzn
  clear hQ hzn
  obtain ⟨g, cap, rfl, hg, hgc⟩ := h.slice (by omega)
  obtain ⟨ao, b, o, scap, rfl, ha, hc⟩ := hz
  have HA : Hid _ := ha
  have HC : Hid _ := hc
  have HGC : Hid _ := hgc
  have HM : Hid _ := h
  clear ha hc hgc h
  have hki : (k : Int) < (n : Int) := by omega
  go_enter Tryd.func66, Tryd.ntmps66
  go_wp2
  go_loop [7] (fun i => ∃ t : Nat, t ≤ zs.length ∧ i = .int .i64 t ∧ ∀ (j p : Nat), j < t → zs.getD j 0 = (p : Int) → m p k = true) (fun i => zs.length - (intOf i).toNat)
  case atStart => exact ⟨0, Nat.zero_le _, rfl, by omega⟩
  case round =>
    obtain ⟨t, ht, rfl, hall⟩ := hrel
    have HALL : Hid _ := hall
    clear hall
    by_cases htl : t < zs.length
    · have hti : (t : Int) < (zs.length : Int) := by omega
      obtain rfl := HA.out (by omega)
      obtain ⟨p, hp, hpn⟩ := HZN.out t htl
      have c1 := HC.out t htl
      rw [hp] at c1
      have HP : Hid _ := hp
      have hpi : (p : Int) < (n : Int) := by omega
      have c2 := HGC.out p hpn
      have c3 := (HM.out.row p hpn).cell hk
      have HMEM : Hid ((p : Int) ∈ zs) := by rw [Hid, ← hp]; exact mem_of_getD htl
      clear hp
      cases hm : m p k
      · rw [hm] at c3
        have HMF : Hid _ := hm
        clear hm
        go_wp2
        exact HQ.out false (by simp) (fun _ => ⟨p, HMEM.out, HMF.out⟩)
      · rw [hm] at c3
        have HMT : Hid _ := hm
        clear hm
        go_wp2
        go_round
        case rel =>
          refine ⟨t + 1, by omega, by go_num, fun j q hj hq => ?_⟩
          by_cases e : j = t
          · subst e
            rw [HP.out] at hq
            have : p = q := by omega
            subst this
            exact HMT.out
          · exact HALL.out j q (by omega) hq
        case measure => simp [intOf]; omega
    · have hti : ¬ (t : Int) < (zs.length : Int) := by omega
      go_wp2
      refine HQ.out true (fun _ p hp => ?_) (by simp)
      obtain ⟨j, hj, e⟩ := mem_getD' hp
      exact HALL.out j p (by omega) e

theorem predsK_nat {ss : List St} {rs : List Bool} {j t : Nat} (ht : t < (predsK ss rs j ss.length).length) : ∃ p : Nat, (predsK ss rs j ss.length).getD t 0 = (p : Int) ∧ p < ss.length := by
  have h1 : (predsK ss rs j ss.length).getD t 0 ∈ predsK ss rs j ss.length := mem_of_getD ht
  have h2 := predsK_mem h1
  unfold predsK at h1
  simp only [List.mem_map, List.mem_filter, List.mem_range] at h1
  obtain ⟨a, ⟨h3, _⟩, h4⟩ := h1
  exact ⟨a, h4.symm, h3⟩

set_option maxRecDepth 100000 in
set_option maxHeartbeats 16000000 in
theorem specDoms_yes {Q : Ending → World → Prop} (v : Value) (ss : List St) (w : World) (h : StepsAt w v ss) (hok : okB ss = true)
    (hQ : ∀ v' m w', Below w.heap.size w w' → DomsM ss m → RowsB (w.heap.size + 1) w'.heap.size w' v' (matL ss.length m) → Q (.returned v') w') :
    Calls Tryd.prog 38 #[.agg #[v]] w Q := by
  have HQ : Hid _ := hQ
  clear hQ
  obtain ⟨hn1, hn2⟩ := ok_len hok
  have HOK : Hid (okB ss = true) := hok
  obtain ⟨ao, b, o, cap, rfl, ha, hc⟩ := id h
  obtain rfl := ha (by omega)
  have HH : Hid (StepsAt w (.slice (some ⟨b, o, none⟩) ss.length cap) ss) := h
  clear ha hc h
  obtain ⟨i1, hj, hy0, hy1, hy2⟩ := info_parts infoBools
  go_enter Tryd.func38, Tryd.ntmps38
  go_wp2_with fail
  have hb0 : ∀ O O', Below w.heap.size w ((w.alloc O).alloc O') := fun O O' => ((Below.refl _ _).alloc (Nat.le_refl _) O).alloc (by simp) O'
  refine specOk_any _ ss _ (HH.out.keep (hb0 _ _)) (by omega) (ok_nexts HOK.out) fun w1 hb1 => ?_
  rw [hok]
  have hbA : Below w.heap.size w w1 := (hb0 _ _).trans (hb1.mono (by simp; omega))
  have q1 : w1.cell? ⟨w.heap.size, 0, none⟩ = some (.slice (some ⟨b, o, none⟩) ss.length cap) := cell_keep hb1 (by simp [go_sem])
  have e1 : w1.ownsRow (w.heap.size + 1) 30 1 (.slice (some ⟨w.heap.size + 1, 0, none⟩) 0 0) 0 [] := by
    have h0 := World.ownsRow_lit (base := w.heap.size + 1) (e := 30) (size := 1) (w.alloc (.cells #[.slice (some ⟨b, o, none⟩) ss.length cap] 34)) #[] 0 (by simp) (by decide) (by simp)
    have h1 := ownsRow_out h0 (Out.of_below (lo := 0) (hi := 0) hb1) (fun _ _ => Or.inr (Nat.zero_le _))
    simpa using h1
  clear hb1 hb0 hok
  go_wp2_with fail
  refine specReach_yes _ ss _ (HH.out.keep hbA) HOK.out fun v3 rs w3 hb3 hrs hown3 => ?_
  have hbC : Below w.heap.size w w3 := hbA.trans (hb3.mono hbA.size)
  have q3 := cell_keep hb3 q1
  have e3 : w3.ownsRow (w.heap.size + 1) 30 1 (.slice (some ⟨w.heap.size + 1, 0, none⟩) 0 0) 0 [] := ownsRow_out e1 (Out.of_below (lo := 0) (hi := 0) hb3) (fun _ _ => Or.inr (Nat.zero_le _))
  have HRS : Hid (IsReach ss rs) := hrs
  obtain ⟨g, cap3, rfl, hg1, hg2, _, hg3, _⟩ := own_slice1 hown3 (by omega)
  have HG3 : Hid (∀ i, i < ss.length → w3.cell? ⟨g, i, none⟩ = (rs.map Value.bool)[i]?) := hg3
  have hw13 : w.heap.size + 2 ≤ g := Nat.le_trans (by have := (e1.lt (w.heap.size + 1) rfl).2; omega) hg1
  clear hb3 q1 e1 hrs hown3 hg3 hbA
  go_wp2_with fail
  refine specPreds_yes _ ss _ (HH.out.keep hbC) HOK.out fun v4 rs4 w4 hb4 hrs4 hrow4 => ?_
  obtain rfl : rs4 = rs := hrs4.unique HRS.out
  have hbD : Below w.heap.size w w4 := hbC.trans (hb4.mono hbC.size)
  have q4 := cell_keep hb4 q3
  have e4 : w4.ownsRow (w.heap.size + 1) 30 1 (.slice (some ⟨w.heap.size + 1, 0, none⟩) 0 0) 0 [] := ownsRow_out e3 (Out.of_below (lo := 0) (hi := 0) hb4) (fun _ _ => Or.inr (Nat.zero_le _))
  have HG : Hid (∀ i, i < ss.length → w4.cell? ⟨g, i, none⟩ = (rs4.map Value.bool)[i]?) := fun i hi => (hb4.cell (p := ⟨g, i, none⟩) (by show g < w3.heap.size; omega)).trans (HG3.out i hi)
  obtain ⟨pao, pg, pcap, hpv, hpr⟩ := hrow4.read
  rw [show (predsL ss rs4).length = ss.length by simp [predsL]] at hpv
  subst hpv
  have HPR : Hid _ := hpr
  have HPG : Hid (pao = some ⟨pg, 0, none⟩ → w.heap.size + 2 ≤ pg ∧ pg < w4.heap.size) := by
    intro e
    obtain ⟨vs, _, h2, h3, _⟩ := hrow4
    subst e
    have h5 := (h2.lt pg rfl).1
    have h6 := h3 pg rfl
    exact ⟨by omega, h6⟩
  have HB4 : Hid (Below w.heap.size w w4) := hbD
  have hws : w.heap.size + 2 ≤ w4.heap.size := by have := hb4.size; omega
  have hg4 : g < w4.heap.size := by have := hb4.size; omega
  have HMAT0 : Hid (Mat (w.heap.size + 1) w4.heap.size w4 (.slice (some ⟨w.heap.size + 1, 0, none⟩) 0 0) ss.length 0 (fun _ => 0) (dom0 rs4)) := ⟨e4, fun i hi => by omega, fun i hi => by omega, fun i j hi => by omega⟩
  clear hb4 q3 e3 e4 hrs4 hrow4 hpr hbC hbD HG3
  go_wp2_with fail
  go_loopw [3, 6] (fun ov i wr => ∃ (k : Nat) (gs : Nat → Nat), k ≤ ss.length ∧ i = .int .i64 k ∧ Mat (w.heap.size + 1) w4.heap.size wr ov ss.length k gs (dom0 rs4) ∧ Out (w.heap.size + 1) (w.heap.size + 2) w4 wr ∧ (∀ q, ov.ownBlock = some q → q = w.heap.size + 1 ∨ w4.heap.size ≤ q)) (fun _ i _ => ss.length - (intOf i).toNat)
  case atStart => exact ⟨0, _, Nat.zero_le _, rfl, HMAT0.out, Out.refl _ _ _, fun q hq => by simp [Value.ownBlock] at hq; omega⟩
  case round =>
    obtain ⟨k, gs, hk, rfl, hM, hO, hov⟩ := hrel
    have HM : Hid (Mat (w.heap.size + 1) w4.heap.size wr u3 ss.length k gs (dom0 rs4)) := hM
    have HO : Hid (Out (w.heap.size + 1) (w.heap.size + 2) w4 wr) := hO
    have HOV : Hid (∀ q, u3.ownBlock = some q → q = w.heap.size + 1 ∨ w4.heap.size ≤ q) := hov
    have q5 := hO.cell q4 (Or.inl (by show w.heap.size < w.heap.size + 1; omega))
    have HB : Hid (Below w.heap.size w wr) := HB4.out.trans (hO.below (by omega) (by omega))
    have hsz : w4.heap.size ≤ wr.heap.size := hO.size
    clear hov
    by_cases hkn : k < ss.length
    · have hki : (k : Int) < (ss.length : Int) := by omega
      have hrk : k < rs4.length := by rw [HRS.out.1]; exact hkn
      have ck : wr.cell? ⟨g, k, none⟩ = some (.bool rs4[k]) := hO.cell ((HG.out k hkn).trans (by rw [List.getElem?_map, List.getElem?_eq_getElem hrk]; rfl)) (Or.inr hw13)
      clear hM hO
      go_wp2_with (at_make; refine wpList_make_is _ rfl (.tmp 30) (.tmp 30) 30 rfl 4 (.bool false) 1 Tryd.underlying30 infoBool rfl .i64 .i64 ss.length rfl rfl (by omega) (by omega) ?_; intro w5 hrow5 hb5 hs5)
      have q6 := cell_keep hb5 q5
      have ck6 := cell_keep hb5 ck
      have HRW : Hid (w5.rowIs wr.heap.size 4 ss.length (fun _ => .bool false)) := hrow5
      have HB5 : Hid (Below wr.heap.size wr w5) := hb5
      clear hrow5 hb5
      generalize wr = W5 at *
      have HGD : Hid (rs4.getD k false = rs4[k]) := by simp [Hid, List.getD, hrk]
      go_loopw [8] (fun kk wr2 => ∃ t : Nat, t ≤ ss.length ∧ kk = .int .i64 t ∧ Below W5.heap.size W5 wr2 ∧ W5.heap.size < wr2.heap.size ∧ wr2.rowIs W5.heap.size 4 ss.length (fun j => .bool (decide (j < t) && dom0 rs4 k j))) (fun kk _ => ss.length - (intOf kk).toNat)
      case atStart => exact ⟨0, Nat.zero_le _, rfl, HB5.out, by omega, HRW.out.congr fun i hi => by simp⟩
      case round =>
        obtain ⟨t, ht, rfl, hb6, hs6, hr6⟩ := hrel
        have HB6 : Hid (Below W5.heap.size W5 wr) := hb6
        have HR6 : Hid (wr.rowIs W5.heap.size 4 ss.length (fun j => .bool (decide (j < t) && dom0 rs4 k j))) := hr6
        have q7 := cell_keep hb6 q5
        have ck7 := cell_keep hb6 ck
        by_cases htl : t < ss.length
        · have hti : (t : Int) < (ss.length : Int) := by omega
          have hrt : t < rs4.length := by rw [HRS.out.1]; exact htl
          have ct : wr.cell? ⟨g, t, none⟩ = some (.bool rs4[t]) := cell_keep hb6 (HO.out.cell ((HG.out t htl).trans (by rw [List.getElem?_map, List.getElem?_eq_getElem hrt]; rfl)) (Or.inr hw13))
          have HGT : Hid (rs4.getD t false = rs4[t]) := by simp [Hid, List.getD, hrt]
          have rt := hr6.cell htl
          have ft := hr6.frozen t
          have HNEW : Hid (∀ x : Bool, x = dom0 rs4 k t → ∀ j, j < ss.length → (if j = t then Value.bool x else Value.bool (decide (j < t) && dom0 rs4 k j)) = .bool (decide (j < t + 1) && dom0 rs4 k j)) := by
            intro x hx j hj
            by_cases e : j = t
            · subst e; simp [hx]
            · rw [if_neg e]
              have : (j < t + 1) ↔ j < t := by omega
              simp [this]
          have HSET : Hid (∀ x : Bool, x = dom0 rs4 k t → (wr.setCell ⟨W5.heap.size, t, none⟩ (.bool x)).rowIs W5.heap.size 4 ss.length (fun j => .bool (decide (j < t + 1) && dom0 rs4 k j))) := fun x hx => (hr6.set t _).congr fun j hj => HNEW.out x hx j hj
          clear hb6 hr6
          cases hrv : rs4[k]
          · rw [hrv] at ck7
            have HV : Hid (false = dom0 rs4 k t) := by rw [Hid]; unfold dom0; rw [HGD.out, hrv]; rfl
            clear hrv
            go_wp2
            go_roundw
            case rel => exact ⟨t + 1, by omega, by go_num, HB6.out.setCell (Nat.le_refl _) _, by simpa [World.setCell] using hs6, HSET.out _ HV.out⟩
            case measure => simp [intOf]; omega
          · rw [hrv] at ck7
            cases hrw : rs4[t]
            · rw [hrw] at ct
              have HV : Hid (false = dom0 rs4 k t) := by rw [Hid]; unfold dom0; rw [HGD.out, HGT.out, hrv, hrw]; rfl
              clear hrv hrw
              go_wp2
              go_roundw
              case rel => exact ⟨t + 1, by omega, by go_num, HB6.out.setCell (Nat.le_refl _) _, by simpa [World.setCell] using hs6, HSET.out _ HV.out⟩
              case measure => simp [intOf]; omega
            · rw [hrw] at ct
              by_cases hk0 : 0 < k
              · have hk0i : (0 : Int) < (k : Int) := by omega
                have HV : Hid (true = dom0 rs4 k t) := by rw [Hid]; unfold dom0; rw [HGD.out, HGT.out, hrv, hrw]; simp [hk0]
                clear hrv hrw
                go_wp2
                go_roundw
                case rel => exact ⟨t + 1, by omega, by go_num, HB6.out.setCell (Nat.le_refl _) _, by simpa [World.setCell] using hs6, HSET.out _ HV.out⟩
                case measure => simp [intOf]; omega
              · obtain rfl : k = 0 := by omega
                by_cases ht0 : t = 0
                · subst ht0
                  have HV : Hid (true = dom0 rs4 0 0) := by rw [Hid]; unfold dom0; rw [HGD.out, hrv]; rfl
                  clear hrv hrw
                  go_wp2
                  go_roundw
                  case rel => exact ⟨1, by omega, by go_num, HB6.out.setCell (Nat.le_refl _) _, by simpa [World.setCell] using hs6, HSET.out _ HV.out⟩
                  case measure => simp [intOf]; omega
                · have ht0i : ((t : Int) == 0) = false := by simp; omega
                  have HV : Hid (false = dom0 rs4 0 t) := by simp [Hid, dom0, ht0]
                  clear hrv hrw
                  go_wp2
                  go_roundw
                  case rel => exact ⟨t + 1, by omega, by go_num, HB6.out.setCell (Nat.le_refl _) _, by simpa [World.setCell] using hs6, HSET.out _ HV.out⟩
                  case measure => simp [intOf]; omega
        · have hti : ¬ (t : Int) < (ss.length : Int) := by omega
          obtain rfl : t = ss.length := by omega
          have HVr : Hid (wr.ownsRow (w.heap.size + 1) 30 1 u3 k (rowVs gs ss.length k)) := (HM.out.keep hb6).own
          have HRF : Hid (wr.rowIs W5.heap.size 4 ss.length (fun j => .bool (dom0 rs4 k j))) := hr6.congr fun j hj => by simp [hj]
          clear hb6 hr6
          go_wp2_with (at_builtin; refine wpList_append_lies _ rfl _ _ 52 rfl (w.heap.size + 1) 30 i1 (.slice none 0 0) 1 24 Tryd.underlying52 hj hy0 hy1 hy2 rfl (by decide) u3 k (rowVs gs ss.length k) rfl (HVr.out.alloc _) ⟨wr.heap.size, 0, none⟩ 1 1 [.slice (some ⟨W5.heap.size, 0, none⟩) ss.length ss.length] rfl rfl (cell_one_new wr _ _) (slice_int_one _ _ _) (by decide) (by unfold maxLen; omega) (by omega) (by simp; omega) (wr.heap.size + 1) (by simp) ?_; intro g8 cap8 w8 hown8 hgrow8 hat8 hlt8)
          have hs8 : wr.heap.size + 1 ≤ w8.heap.size := Nat.le_trans (by simp) hgrow8.size
          have HMN : Hid (Mat (w.heap.size + 1) w4.heap.size w8 (.slice (some ⟨g8, 0, none⟩) (k + 1) cap8) ss.length (k + 1) (fun i => if i = k then W5.heap.size else gs i) (dom0 rs4)) := by
            have h1 := ((HM.out.keep HB6.out).keep ((Below.refl _ _).alloc (Nat.le_refl _) (.cells #[.slice (some ⟨W5.heap.size, 0, none⟩) ss.length ss.length] 30)))
            have h2 := h1.snoc (HRF.out.alloc _) hsz (fun i hi e => by have := (HM.out.row i hi).lt; omega) (fun e => by have := (HM.out.own.lt _ e).2; omega) hgrow8 hown8
            refine ⟨h2.own, fun i hi => (h2.row i hi).congr fun j hj => ?_, h2.low, h2.inj⟩
            by_cases e : i = k <;> simp [e]
          have HOutN : Hid (Out (w.heap.size + 1) (w.heap.size + 2) w4 w8) := by
            refine ⟨hgrow8.os.trans (HB6.out.os.trans HO.out.os), hgrow8.tape.trans (HB6.out.tape.trans HO.out.tape), hgrow8.output.trans (HB6.out.output.trans HO.out.output), by omega, fun q hq hr => ?_⟩
            have h7 : (wr.alloc (.cells #[.slice (some ⟨W5.heap.size, 0, none⟩) ss.length ss.length] 30)).heap[q]? = wr.heap[q]? := Below.heap_alloc _ _ _ (by omega)
            refine ((hgrow8.block q (by simp; omega) (fun e => ?_)).trans h7).trans ((HB6.out.block q (by omega)).trans (HO.out.block q hq hr))
            have := HOV.out q e.symm
            omega
          have HOVN : Hid (∀ q, (Value.slice (some ⟨g8, 0, none⟩) (k + 1) cap8).ownBlock = some q → q = w.heap.size + 1 ∨ w4.heap.size ≤ q) := by
            intro q hq
            simp [Value.ownBlock] at hq
            subst hq
            rcases hat8 with e | e
            · exact HOV.out _ e
            · omega
          clear hown8 hgrow8 hat8
          go_wp2
          go_roundw
          case rel => exact ⟨k + 1, _, by omega, by go_num, HMN.out, HOutN.out, HOVN.out⟩
          case measure => simp [intOf]; omega
    · have hki : ¬ (k : Int) < (ss.length : Int) := by omega
      obtain rfl : k = ss.length := by omega
      obtain ⟨og, ocap, hsl, hog, _⟩ := hM.slice (by omega)
      subst hsl
      have hogw : og = w.heap.size + 1 ∨ w4.heap.size ≤ og := HOV.out og rfl
      have HPW : Hid (∀ wx : World, Below w4.heap.size wr wx → ∀ (i : Nat), i < ss.length → ∃ A c, pao = some ⟨pg, 0, none⟩ ∧ wx.cell? ⟨pg, i, none⟩ = some (.slice A (predsK ss rs4 i ss.length).length c) ∧ IntsAt wx (.slice A (predsK ss rs4 i ss.length).length c) (predsK ss rs4 i ss.length)) := by
        intro wx hbx i hi
        obtain ⟨x, A, c, h1, h2, h3, h4⟩ := HPR.out i (predsK ss rs4 i ss.length) (by simp [predsL, hi])
        subst h3
        have hpg : w.heap.size + 2 ≤ pg ∧ pg < w4.heap.size := HPG.out h1
        have o1 : Out (w.heap.size + 1) (w.heap.size + 2) w4 wr := HO.out
        have o2 : wx.cell? ⟨pg, i, none⟩ = some (.slice A (predsK ss rs4 i ss.length).length c) := (hbx.cell (p := ⟨pg, i, none⟩) hpg.2).trans (o1.cell h2 (Or.inr hpg.1))
        refine ⟨A, c, h1, o2, ?_⟩
        have h5 := h4.out o1 (Or.inr (by omega))
        obtain ⟨ao', g', cap', hv', hc'⟩ := h5.read
        refine ⟨ao', g', 0, cap', hv', fun hp => (hc' 0 hp).1, fun t ht => ?_⟩
        rw [Nat.zero_add]
        exact (hbx.cell (p := ⟨g', t, none⟩) (hc' t ht).2.2.2.2).trans (hc' t ht).2.1
      have hlow4 : ∀ q, q < w4.heap.size → q < wr.heap.size := fun q hq => by omega
      have HLEN : Hid _ := hlow4
      have HMAT : Hid (Mat (w.heap.size + 1) w4.heap.size wr (.slice (some ⟨og, 0, none⟩) ss.length ocap) ss.length ss.length gs (dom0 rs4)) := hM
      have HDI : Hid (DomI ss (dom0 rs4)) := DomI.start HRS.out
      clear hM hO hlow4
      go_wp2
      generalize wr = W9 at *
      have hq9 := q5
      go_loopw [9] (fun again wr => ∃ (m : Nat → Nat → Bool) (ag : Bool), again = .bool ag ∧ Below w4.heap.size W9 wr ∧ Mat (w.heap.size + 1) w4.heap.size wr (.slice (some ⟨og, 0, none⟩) ss.length ocap) ss.length ss.length gs m ∧ DomI ss m ∧ (ag = false → DomC ss rs4 m ss.length 0)) (fun again wr => 2 * cnt2 (boolM wr gs) ss.length + (match again with | .bool true => 1 | _ => 0))
      case atStart => exact ⟨_, true, rfl, Below.refl _ _, HMAT.out, HDI.out, by simp⟩
      case round =>
        obtain ⟨m, ag, rfl, hb9, hM9, hD9, hC9⟩ := hrel
        have HB9 : Hid (Below w4.heap.size W9 wr) := hb9
        have HM9 : Hid (Mat (w.heap.size + 1) w4.heap.size wr (.slice (some ⟨og, 0, none⟩) ss.length ocap) ss.length ss.length gs m) := hM9
        have HD9 : Hid (DomI ss m) := hD9
        have HC9 : Hid (ag = false → DomC ss rs4 m ss.length 0) := hC9
        have HCN : Hid (cnt2 (boolM wr gs) ss.length = cnt2 m ss.length) := boolM_mat hM9
        clear hb9 hM9 hD9 hC9
        cases ag
        · go_wp2
          refine HQ.out _ m _ (HB.out.trans (HB9.out.mono HB4.out.size)) (HD9.out.fin HOK.out HRS.out (HC9.out (by simp))) (HM9.out.rows (by omega) (by omega))
        · clear HC9
          go_wp2
          go_loopw [9, 10] (fun again i wr => ∃ (k : Nat) (m' : Nat → Nat → Bool) (ag : Bool), again = .bool ag ∧ i = .int .i64 k ∧ 1 ≤ k ∧ k ≤ ss.length ∧ Below w4.heap.size W9 wr ∧ Mat (w.heap.size + 1) w4.heap.size wr (.slice (some ⟨og, 0, none⟩) ss.length ocap) ss.length ss.length gs m' ∧ DomI ss m' ∧ cnt2 m' ss.length ≤ cnt2 m ss.length ∧ (ag = true → cnt2 m' ss.length < cnt2 m ss.length) ∧ (ag = false → DomC ss rs4 m' k 0)) (fun _ i _ => ss.length - (intOf i).toNat)
          case atStart => exact ⟨1, m, false, rfl, rfl, Nat.le_refl _, hn1, HB9.out, HM9.out, HD9.out, Nat.le_refl _, by simp, fun _ i k hi hk h1 hlt => by omega⟩
          case round =>
            obtain ⟨k, m', ag, rfl, rfl, hk1, hk, hbA, hMA, hDA, hle, hlt, hcl⟩ := hrel
            have HBA : Hid (Below w4.heap.size W9 wr) := hbA
            have HMA : Hid (Mat (w.heap.size + 1) w4.heap.size wr (.slice (some ⟨og, 0, none⟩) ss.length ocap) ss.length ss.length gs m') := hMA
            have HDA : Hid (DomI ss m') := hDA
            have HLT : Hid (ag = true → cnt2 m' ss.length < cnt2 m ss.length) := hlt
            have HCL : Hid (ag = false → DomC ss rs4 m' k 0) := hcl
            have qA := (hbA.cell (p := ⟨w.heap.size, 0, none⟩) (by show w.heap.size < w4.heap.size; omega)).trans q5
            clear hbA hDA hlt hcl
            by_cases hkn : k < ss.length
            · have hki : (k : Int) < (ss.length : Int) := by omega
              clear hMA
              go_wp2
              go_loopw [9, 11] (fun again kk wr => ∃ (t : Nat) (m2 : Nat → Nat → Bool) (ag : Bool), again = .bool ag ∧ kk = .int .i64 t ∧ t ≤ ss.length ∧ Below w4.heap.size W9 wr ∧ Mat (w.heap.size + 1) w4.heap.size wr (.slice (some ⟨og, 0, none⟩) ss.length ocap) ss.length ss.length gs m2 ∧ DomI ss m2 ∧ cnt2 m2 ss.length ≤ cnt2 m ss.length ∧ (ag = true → cnt2 m2 ss.length < cnt2 m ss.length) ∧ (ag = false → DomC ss rs4 m2 k t)) (fun _ kk _ => ss.length - (intOf kk).toNat)
              case atStart => exact ⟨0, m', ag, rfl, rfl, Nat.zero_le _, HBA.out, HMA.out, HDA.out, hle, HLT.out, HCL.out⟩
              case round =>
                obtain ⟨t, m2, ag2, rfl, rfl, ht, hbB, hMB, hDB, hle2, hlt2, hcl2⟩ := hrel
                have HBB : Hid (Below w4.heap.size W9 wr) := hbB
                have HMB : Hid (Mat (w.heap.size + 1) w4.heap.size wr (.slice (some ⟨og, 0, none⟩) ss.length ocap) ss.length ss.length gs m2) := hMB
                have HDB : Hid (DomI ss m2) := hDB
                have HLT2 : Hid (ag2 = true → cnt2 m2 ss.length < cnt2 m ss.length) := hlt2
                have HCL2 : Hid (ag2 = false → DomC ss rs4 m2 k t) := hcl2
                have qB := (hbB.cell (p := ⟨w.heap.size, 0, none⟩) (by show w.heap.size < w4.heap.size; omega)).trans q5
                clear hDB hlt2 hcl2
                by_cases htl : t < ss.length
                · have hti : (t : Int) < (ss.length : Int) := by omega
                  have cr := (hMB.slice (by omega))
                  obtain ⟨og', ocap', hsl, _, hcr⟩ := cr
                  simp only [Value.slice.injEq, Option.some.injEq, Addr.mk.injEq, and_true, true_and] at hsl
                  obtain ⟨rfl, rfl⟩ := hsl
                  have ck := hcr k hkn
                  have ckt := (hMB.row k hkn).cell htl
                  have fkt := (hMB.row k hkn).frozen t
                  clear hMB hcr
                  have HSAME : Hid ((m2 k t = false ∨ t = k ∨ ∀ p : Nat, (p : Int) ∈ predsK ss rs4 k ss.length → m2 p t = true) → ag2 = false → DomC ss rs4 m2 k (t + 1)) := by
                    intro hor e i j hi hj h1 hlt hm hji p hp
                    by_cases e2 : i = k ∧ j = t
                    · obtain ⟨rfl, rfl⟩ := e2
                      rcases hor with h | h | h
                      · rw [h] at hm; cases hm
                      · exact absurd h hji
                      · exact h p hp
                    · exact HCL2.out e i j hi hj h1 (by omega) hm hji p hp
                  cases hmk : m2 k t
                  · rw [hmk] at ckt
                    have HS : Hid _ := HSAME.out (Or.inl hmk)
                    clear hmk hbB
                    go_wp2
                    go_roundw
                    case rel => exact ⟨t + 1, m2, ag2, rfl, by go_num, by omega, HBB.out, HMB.out, HDB.out, hle2, HLT2.out, HS.out⟩
                    case measure => simp [intOf]; omega
                  · rw [hmk] at ckt
                    by_cases htk : t = k
                    · subst htk
                      have HS : Hid _ := HSAME.out (Or.inr (Or.inl rfl))
                      clear hmk hbB
                      go_wp2
                      go_roundw
                      case rel => exact ⟨t + 1, m2, ag2, rfl, by go_num, by omega, HBB.out, HMB.out, HDB.out, hle2, HLT2.out, HS.out⟩
                      case measure => simp [intOf]; omega
                    · have htki : ((t : Int) == (k : Int)) = false := by simp; omega
                      have htkn : ¬ (t : Int) = (k : Int) := by omega
                      obtain ⟨A, c, hpao, cp, ip⟩ := HPW.out wr hbB k hkn
                      subst hpao
                      have HIP : Hid _ := ip
                      have HMK : Hid (m2 k t = true) := hmk
                      have hpl := predsK_len ss rs4 k ss.length
                      clear hmk hbB ip
                      go_wp2_with fail
                      refine l2All_any _ _ (predsK ss rs4 k ss.length) t ss.length _ _ gs m2 _ HMB.out HIP.out (by omega) (fun t ht => predsK_nat ht) htl (by omega) fun r hr1 hr2 => ?_
                      cases r
                      · obtain ⟨p, hp1, hp2⟩ := hr2 rfl
                        have HP1 : Hid _ := hp1
                        have HP2 : Hid _ := hp2
                        clear hp1 hp2 hr1 hr2
                        go_wp2
                        go_roundw
                        case rel =>
                          have hc := cnt2_set hkn htl HMK.out
                          refine ⟨t + 1, setM m2 k t false, true, rfl, by go_num, by omega, HBB.out.setCell (HMB.out.low k hkn) _, HMB.out.set hkn t false, HDB.out.drop HRS.out hkn htl htk HP1.out HP2.out, by omega, fun _ => by omega, by simp⟩
                        case measure => simp [intOf]; omega
                      · have HS : Hid _ := HSAME.out (Or.inr (Or.inr (hr1 rfl)))
                        clear hr1 hr2
                        go_wp2
                        go_roundw
                        case rel => exact ⟨t + 1, m2, ag2, rfl, by go_num, by omega, HBB.out, HMB.out, HDB.out, hle2, HLT2.out, HS.out⟩
                        case measure => simp [intOf]; omega
                · have hti : ¬ (t : Int) < (ss.length : Int) := by omega
                  obtain rfl : t = ss.length := by omega
                  clear hbB hMB
                  go_wp2
                  go_roundw
                  case rel =>
                    refine ⟨k + 1, m2, ag2, rfl, by go_num, by omega, by omega, HBB.out, HMB.out, HDB.out, hle2, HLT2.out, fun e i j hi hj h1 hlt => ?_⟩
                    exact HCL2.out e i j hi hj h1 (by omega)
                  case measure => simp [intOf]; omega
            · have hki : ¬ (k : Int) < (ss.length : Int) := by omega
              obtain rfl : k = ss.length := by omega
              have HM2 : Hid (cnt2 (boolM wr gs) ss.length = cnt2 m' ss.length) := boolM_mat hMA
              clear hMA
              go_wp2
              go_roundw
              case rel => exact ⟨m', ag, rfl, HBA.out, HMA.out, HDA.out, HCL.out⟩
              case measure =>
                have e1 := HCN.out
                have e2 := HM2.out
                cases ag
                · simp [e1, e2]; omega
                · have := HLT.out rfl
                  simp [e1, e2]; omega

set_option maxHeartbeats 1000000 in
theorem specDoms_no {Q : Ending → World → Prop} (v : Value) (ss : List St) (w : World) (h : StepsAt w v ss) (hl : ss.length ≤ 1048576) (hls : ∀ s ∈ ss, s.next.length ≤ 1048576) (hok : okB ss = false)
    (hQ : ∀ v' w', Below w.heap.size w w' → RowsB (w.heap.size + 1) w'.heap.size w' v' [] → Q (.returned v') w') :
    Calls Tryd.prog 38 #[.agg #[v]] w Q := by
  have HQ : Hid _ := hQ
  clear hQ
  obtain ⟨ao, b, o, cap, rfl, ha, hc⟩ := id h
  clear ha hc
  have HH : Hid (StepsAt w (.slice ao ss.length cap) ss) := h
  have HL : Hid _ := hls
  clear hls h
  go_enter Tryd.func38, Tryd.ntmps38
  go_wp2_with fail
  have hb0 : ∀ O O', Below w.heap.size w ((w.alloc O).alloc O') := fun O O' => ((Below.refl _ _).alloc (Nat.le_refl _) O).alloc (by simp) O'
  refine specOk_any _ ss _ (HH.out.keep (hb0 _ _)) hl HL.out fun w1 hb1 => ?_
  rw [hok]
  have hbA : Below w.heap.size w w1 := (hb0 _ _).trans (hb1.mono (by simp; omega))
  have e1 : w1.ownsRow (w.heap.size + 1) 30 1 (.slice (some ⟨w.heap.size + 1, 0, none⟩) 0 0) 0 [] := by
    have h0 := World.ownsRow_lit (base := w.heap.size + 1) (e := 30) (size := 1) (w.alloc (.cells #[.slice ao ss.length cap] 34)) #[] 0 (by simp) (by decide) (by simp)
    have h1 := ownsRow_out h0 (Out.of_below (lo := 0) (hi := 0) hb1) (fun _ _ => Or.inr (Nat.zero_le _))
    simpa using h1
  have HE1 : Hid (RowsB (w.heap.size + 1) w1.heap.size w1 (.slice (some ⟨w.heap.size + 1, 0, none⟩) 0 0) []) := RowsB.nil e1 (fun k hk => (e1.lt k hk).2)
  clear hb1 hb0 e1
  go_wp2
  exact HQ.out _ _ hbA HE1.out

theorem specDoms_any {Q : Ending → World → Prop} (v : Value) (ss : List St) (w : World) (h : StepsAt w v ss) (hl : ss.length ≤ 1048576) (hls : ∀ s ∈ ss, s.next.length ≤ 1048576)
    (hQ : ∀ v' zss w', Below w.heap.size w w' → DomsOr ss zss → RowsB w.heap.size w'.heap.size w' v' zss → Q (.returned v') w') :
    Calls Tryd.prog 38 #[.agg #[v]] w Q := by
  cases hok : okB ss
  · exact specDoms_no v ss w h hl hls hok fun v' w' h1 h2 => hQ v' [] w' h1 (Or.inr ⟨hok, rfl⟩) (h2.lower (by omega))
  · exact specDoms_yes v ss w h hok fun v' m w' h1 h2 h3 => hQ v' (matL ss.length m) w' h1 (Or.inl ⟨hok, m, h2, rfl⟩) (h3.lower (by omega))
end Go.Proofs.YtljlgffkhocgkaaDoor
