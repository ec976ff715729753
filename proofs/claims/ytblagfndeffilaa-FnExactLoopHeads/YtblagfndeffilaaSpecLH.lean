/- What the model's LoopHeads answers. -/
import Derived.Test.YtblagfndeffilaaHeadP
import Derived.Test.YtblagfndeffilaaSpecDoms
import Derived.Test.YtblagfndeffilaaMatR
namespace Go.Proofs.Ytblagfndeffilaa
open Go.RowKit

theorem bool_oneCell (x : Bool) : ∀ u ∈ [Value.bool x], u.oneCell' = true := by
  intro u hu; simp at hu; subst hu; rfl

set_option maxRecDepth 100000 in
set_option maxHeartbeats 4000000 in
theorem specLoopHeads_any {Q : Ending → World → Prop} (v : Value) (ss : List St) (w : World) (h : StepsAt w v ss) (hl : ss.length ≤ 1048576) (hls : ∀ s ∈ ss, s.next.length ≤ 1048576)
    (hQ : ∀ v' bs w', Below w.heap.size w w' → HeadsOr ss bs → w'.ownsRow w.heap.size 4 1 v' bs.length (bs.map Value.bool) → Q (.returned v') w') :
    Calls Try.prog 38 #[.agg #[v]] w Q := by
  have HQ : Hid _ := hQ
  clear hQ
  obtain ⟨ao, b, o, cap, rfl, ha, hc⟩ := id h
  clear ha hc
  have HH : Hid (StepsAt w (.slice ao ss.length cap) ss) := h
  have HL : Hid _ := hls
  clear hls h
  obtain ⟨i0, hi, hz0, hz1, hz2⟩ := info_parts infoBool
  have hb0 : ∀ O O', Below w.heap.size w ((w.alloc O).alloc O') := fun O O' => ((Below.refl _ _).alloc (Nat.le_refl _) O).alloc (by simp) O'
  go_enter Try.func38, Try.ntmps38
  go_wp2_with fail
  have e0 := fun c : Array Value => World.ownsRow_lit (base := w.heap.size + 1) (e := 4) (size := 1) (w.alloc (.cells c 30)) #[] 0 (by simp) (by decide) (by simp)
  refine specDoms_any _ ss _ (HH.out.keep (hb0 _ _)) hl HL.out fun v2 zss w2 hb2 hzs hown2 => ?_
  have hbB : Below w.heap.size w w2 := (hb0 _ _).trans (hb2.mono (by simp; omega))
  have q2 : w2.cell? ⟨w.heap.size, 0, none⟩ = some (.slice ao ss.length cap) := cell_keep hb2 (by simp [go_sem])
  have e2 : w2.ownsRow (w.heap.size + 1) 4 1 (.slice (some ⟨w.heap.size + 1, 0, none⟩) 0 0) 0 [] := by
    have h1 := ownsRow_out (e0 _) (Out.of_below (lo := 0) (hi := 0) hb2) (fun _ _ => Or.inr (Nat.zero_le _))
    simpa using h1
  have HB2 : Hid (Below w.heap.size w w2) := hbB
  have HE2 : Hid (w2.ownsRow (w.heap.size + 1) 4 1 (.slice (some ⟨w.heap.size + 1, 0, none⟩) 0 0) 0 []) := e2
  have hsz2 := (e2.lt _ rfl).2
  have HO2 : Hid (RowsB ((w.alloc (.cells #[.slice ao ss.length cap] 30)).alloc (.cells #[] 4)).heap.size w2.heap.size w2 v2 zss) := hown2
  obtain ⟨A2, c2, hv2⟩ := hown2.slice
  subst hv2
  have HZS : Hid (DomsOr ss zss) := hzs
  clear hb2 hb0 e0 hbB e2 hown2 hzs
  go_wp2_with fail
  refine specPreds_any _ ss _ (HH.out.keep HB2.out) hl HL.out fun v3 pss w3 hb3 hps hown3 => ?_
  have HB3 : Hid (Below w.heap.size w w3) := HB2.out.trans (hb3.mono HB2.out.size)
  have HE3 : Hid (w3.ownsRow (w.heap.size + 1) 4 1 (.slice (some ⟨w.heap.size + 1, 0, none⟩) 0 0) 0 []) := ownsRow_out HE2.out (Out.of_below (lo := 0) (hi := 0) hb3) (fun _ _ => Or.inr (Nat.zero_le _))
  have hsz3 : w2.heap.size ≤ w3.heap.size := hb3.size
  rcases HZS.out with ⟨hok, m, hdm, rfl⟩ | ⟨hok, rfl⟩
  · obtain ⟨rs, hrs, rfl⟩ : ∃ rs, IsReach ss rs ∧ pss = predsL ss rs := by
      rcases hps with ⟨_, rs, h1, h2⟩ | ⟨h, _⟩
      · exact ⟨rs, h1, h2⟩
      · rw [hok] at h; cases h
    obtain ⟨hn1, hn2⟩ := ok_len hok
    have HOK : Hid (okB ss = true) := hok
    have HDM : Hid (DomsM ss m) := hdm
    have HRS : Hid (IsReach ss rs) := hrs
    have hml : (matL ss.length m).length = ss.length := matL_len _ _
    have h23 := HO2.out.keep hb3
    obtain ⟨g, gcap, gs, cs, hgv, hmr, hgl0⟩ := MatR.ofLow h23 hn1
    rw [hml] at hgv
    simp only [Value.slice.injEq, true_and] at hgv
    obtain ⟨rfl, rfl⟩ := hgv
    rw [hml]
    have HGL : Hid (w.heap.size + 2 ≤ g ∧ ∀ i, i < ss.length → w.heap.size + 2 ≤ gs i) := by rw [Hid]; simpa using hgl0
    have HMR : Hid (MatR w3 g ss.length gs cs m) := hmr
    have HR3 : Hid (RowsI w2.heap.size w3.heap.size w3 v3 (predsL ss rs)) := hown3
    obtain ⟨pao, pg, pcap, hpv, hpr⟩ := hown3.read
    rw [show (predsL ss rs).length = ss.length by simp [predsL]] at hpv
    subst hpv
    have HPW : Hid (∀ (i : Nat), i < ss.length → ∃ A pb c, pao = some ⟨pg, 0, none⟩ ∧ (0 < (predsK ss rs i ss.length).length → A = some ⟨pb, 0, none⟩) ∧ ∀ wx : World, Out (w.heap.size + 1) (w.heap.size + 2) w3 wx → wx.cell? ⟨pg, i, none⟩ = some (.slice A (predsK ss rs i ss.length).length c) ∧ ∀ t, t < (predsK ss rs i ss.length).length → wx.cell? ⟨pb, t, none⟩ = some (.int .i64 ((predsK ss rs i ss.length).getD t 0))) := by
      intro i hi
      obtain ⟨x, A, c, h1, h2, h3, h4⟩ := hpr i (predsK ss rs i ss.length) (by simp [predsL, hi])
      subst h3
      have hpg : w.heap.size + 2 ≤ pg := by
        obtain ⟨vs, _, h5, _⟩ := hown3
        subst h1
        have := (h5.lt pg rfl).1
        omega
      obtain ⟨A', pb, c', e, e2⟩ := h4.read
      cases e
      refine ⟨A, pb, c, h1, fun hp => (e2 0 hp).1, fun wx hbx => ⟨hbx.cell h2 (Or.inr hpg), fun t ht => ?_⟩⟩
      obtain ⟨_, e3, _, e5, _⟩ := e2 t ht
      exact hbx.cell e3 (Or.inr (by show w.heap.size + 2 ≤ pb; omega))
    clear hok hdm hrs hmr hown3 hpr hps h23 hgl0 hml HO2 HZS hb3 q2 HE2
    go_wp2_with fail
    go_loopw [3, 6] (fun ov i wr => ∃ (k : Nat) (f : Nat → Bool), k ≤ ss.length ∧ i = .int .i64 k ∧ (∀ i, i < k → (f i = true ↔ IsHead ss i)) ∧ wr.ownsRow (w.heap.size + 1) 4 1 ov k ((List.range k).map (fun i => .bool (f i))) ∧ Out (w.heap.size + 1) (w.heap.size + 2) w3 wr ∧ ∀ q, ov.ownBlock = some q → q = w.heap.size + 1 ∨ w3.heap.size ≤ q) (fun _ i _ => ss.length - (intOf i).toNat)
    case atStart => exact ⟨0, fun _ => false, Nat.zero_le _, rfl, fun i hi => by omega, HE3.out, Out.refl _ _ _, fun q hq => by simp [Value.ownBlock] at hq; omega⟩
    case round =>
      obtain ⟨k, f, hk, rfl, hf, hown, hO, hov⟩ := hrel
      have HF : Hid (∀ i, i < k → (f i = true ↔ IsHead ss i)) := hf
      have HOW : Hid (wr.ownsRow (w.heap.size + 1) 4 1 u3 k ((List.range k).map (fun i => .bool (f i)))) := hown
      have HO : Hid (Out (w.heap.size + 1) (w.heap.size + 2) w3 wr) := hO
      have HOV : Hid (∀ q, u3.ownBlock = some q → q = w.heap.size + 1 ∨ w3.heap.size ≤ q) := hov
      have hsz : w3.heap.size ≤ wr.heap.size := hO.size
      have HMW : Hid (MatR wr g ss.length gs cs m) := ⟨fun i hi => hO.cell (HMR.out.row i hi) (Or.inr (HGL.out.1)), fun i j hi hj => hO.cell (HMR.out.cell i j hi hj) (Or.inr (HGL.out.2 i hi))⟩
      clear hf hov
      by_cases hkn : k < ss.length
      · have hki : (k : Int) < (ss.length : Int) := by omega
        obtain ⟨A, pb, pc, rfl, hA, hps⟩ := HPW.out k hkn
        obtain ⟨cp, hpc⟩ := hps wr hO
        have HA : Hid (0 < (predsK ss rs k ss.length).length → A = some ⟨pb, 0, none⟩) := hA
        have HPC : Hid (∀ t, t < (predsK ss rs k ss.length).length → wr.cell? ⟨pb, t, none⟩ = some (.int .i64 ((predsK ss rs k ss.length).getD t 0))) := hpc
        have hpl := predsK_len ss rs k ss.length
        clear hown hO hA hps hpc
        go_wp2_with fail
        go_loop [7, 8] (fun bb kk => ∃ (t : Nat) (x : Bool), t ≤ (predsK ss rs k ss.length).length ∧ kk = .int .i64 t ∧ bb = .bool x ∧ (x = true ↔ ∃ (j p : Nat), j < t ∧ (predsK ss rs k ss.length).getD j 0 = (p : Int) ∧ Dom ss k p)) (fun _ kk => (predsK ss rs k ss.length).length - (intOf kk).toNat)
        case atStart => exact ⟨0, false, Nat.zero_le _, rfl, rfl, by simp⟩
        case round =>
          obtain ⟨t, x, ht, rfl, rfl, hx⟩ := hrel
          have HX : Hid (x = true ↔ ∃ (j p : Nat), j < t ∧ (predsK ss rs k ss.length).getD j 0 = (p : Int) ∧ Dom ss k p) := hx
          clear hx
          by_cases htl : t < (predsK ss rs k ss.length).length
          · have hti : (t : Int) < ((predsK ss rs k ss.length).length : Int) := by omega
            obtain ⟨p, hp, hpn⟩ := predsK_nat htl
            obtain rfl := HA.out (by omega)
            have ct := HPC.out t htl
            rw [hp] at ct
            have HP : Hid ((predsK ss rs k ss.length).getD t 0 = (p : Int)) := hp
            have hpi : (p : Int) < (ss.length : Int) := by omega
            have r1 := HMW.out.row p hpn
            have e1 := HMW.out.cell p k hpn hkn
            have HD1 : Hid (m p k = true ↔ Dom ss k p) := HDM.out p k hpn hkn
            have HNEW : Hid (∀ y : Bool, (y = true ↔ (x = true ∨ Dom ss k p)) → (y = true ↔ ∃ (j p : Nat), j < t + 1 ∧ (predsK ss rs k ss.length).getD j 0 = (p : Int) ∧ Dom ss k p)) := by
              intro y hy
              rw [hy, HX.out]
              constructor
              · rintro (⟨j, q, h1, h2, h3⟩ | h)
                · exact ⟨j, q, by omega, h2, h3⟩
                · exact ⟨t, p, by omega, HP.out, h⟩
              · rintro ⟨j, q, h1, h2, h3⟩
                by_cases e : j = t
                · subst e
                  rw [HP.out] at h2
                  have : p = q := by omega
                  subst this
                  exact Or.inr h3
                · exact Or.inl ⟨j, q, by omega, h2, h3⟩
            clear hp
            cases x
            · cases h1 : m p k
              · rw [h1] at e1
                have HN : Hid _ := HNEW.out false (by simp only [Bool.false_eq_true, false_or, false_iff]; intro hd; have := HD1.out.2 hd; rw [h1] at this; cases this)
                clear h1
                go_wp2
                go_round
                case rel => exact ⟨t + 1, false, by omega, by go_num, rfl, HN.out⟩
                case measure => simp [intOf]; omega
              · rw [h1] at e1
                have HN : Hid _ := HNEW.out true (by simp [HD1.out.1 h1])
                clear h1
                go_wp2
                go_round
                case rel => exact ⟨t + 1, true, by omega, by go_num, rfl, HN.out⟩
                case measure => simp [intOf]; omega
            · have HN : Hid _ := HNEW.out true (by simp)
              go_wp2
              go_round
              case rel => exact ⟨t + 1, true, by omega, by go_num, rfl, HN.out⟩
              case measure => simp [intOf]; omega
          · have hti : ¬ (t : Int) < ((predsK ss rs k ss.length).length : Int) := by omega
            obtain rfl : t = (predsK ss rs k ss.length).length := by omega
            have HHD : Hid (x = true ↔ IsHead ss k) := by
              rw [Hid, HX.out]
              constructor
              · rintro ⟨j, p, h1, h2, h3⟩
                have h4 : (p : Int) ∈ predsK ss rs k ss.length := by rw [← h2]; exact mem_of_getD h1
                have h5 := (mem_predsK HRS.out).1 h4
                exact ⟨p, h5.2.1, h5.2.2, h3⟩
              · rintro ⟨p, h1, h2, h3⟩
                obtain ⟨j, hj, e⟩ := mem_getD' ((mem_predsK HRS.out).2 ⟨reach_lt HOK.out h1, h1, h2⟩)
                exact ⟨j, p, hj, e, h3⟩
            go_wp2_with (at_builtin; refine wpList_append_lies _ rfl _ _ 39 rfl (w.heap.size + 1) 4 i0 (.bool false) 1 1 Try.underlying39 hi hz0 hz1 hz2 rfl (by decide) u3 k ((List.range k).map (fun i => .bool (f i))) rfl (HOW.out.alloc _) ⟨wr.heap.size, 0, none⟩ 1 1 [.bool x] rfl rfl (cell_one_new wr _ _) (bool_oneCell _) (by decide) (by unfold maxLen; omega) (by omega) (by simp; omega) (wr.heap.size + 1) (by simp) ?_; intro g8 cap8 w8 hown8 hgrow8 hat8 hlt8)
            have hs8 : wr.heap.size + 1 ≤ w8.heap.size := Nat.le_trans (by simp) hgrow8.size
            have HOWN : Hid (w8.ownsRow (w.heap.size + 1) 4 1 (.slice (some ⟨g8, 0, none⟩) (k + 1) cap8) (k + 1) ((List.range (k + 1)).map (fun i => .bool (if i = k then x else f i)))) := by
              have e : (List.range (k + 1)).map (fun i => Value.bool (if i = k then x else f i)) = (List.range k).map (fun i => .bool (f i)) ++ [.bool x] := by
                rw [List.range_succ, List.map_append]
                congr 1
                · apply List.map_congr_left
                  intro i hi
                  simp at hi
                  rw [if_neg (by omega)]
                · simp
              rw [Hid, e]
              exact hown8
            have HOutN : Hid (Out (w.heap.size + 1) (w.heap.size + 2) w3 w8) := by
              refine ⟨hgrow8.os.trans HO.out.os, hgrow8.tape.trans HO.out.tape, hgrow8.output.trans HO.out.output, by omega, fun q hq hr => ?_⟩
              have h7 : (wr.alloc (.cells #[.bool x] 4)).heap[q]? = wr.heap[q]? := Below.heap_alloc _ _ _ (by omega)
              refine ((hgrow8.block q (by simp; omega) (fun e => ?_)).trans h7).trans (HO.out.block q hq hr)
              have := HOV.out q e.symm
              omega
            have HOVN : Hid (∀ q, (Value.slice (some ⟨g8, 0, none⟩) (k + 1) cap8).ownBlock = some q → q = w.heap.size + 1 ∨ w3.heap.size ≤ q) := by
              intro q hq
              simp [Value.ownBlock] at hq
              subst hq
              rcases hat8 with e | e
              · exact HOV.out _ e
              · omega
            clear hown8 hgrow8 hat8
            go_wp2
            go_roundw
            case rel =>
              refine ⟨k + 1, fun i => if i = k then x else f i, by omega, by go_num, fun i hi => ?_, HOWN.out, HOutN.out, HOVN.out⟩
              by_cases e : i = k
              · simp only [e, if_true]; exact HHD.out
              · simp only [if_neg e]; exact HF.out i (by omega)
            case measure => simp [intOf]; omega
      · have hki : ¬ (k : Int) < (ss.length : Int) := by omega
        obtain rfl : k = ss.length := by omega
        have HFIN : Hid (wr.ownsRow w.heap.size 4 1 u3 ((List.range ss.length).map f).length (((List.range ss.length).map f).map Value.bool)) := by
          rw [Hid, map_boolV]
          simp only [List.length_map, List.length_range]
          exact own_lower hown (by omega)
        clear hown hO
        go_wp2
        exact HQ.out _ _ _ (HB3.out.trans (HO.out.below (by omega) (by omega))) (Or.inl ⟨HOK.out, f, HF.out, rfl⟩) HFIN.out
  · obtain ⟨A3, c3, hv3⟩ := hown3.slice
    subst hv3
    have HOK : Hid (okB ss = false) := hok
    clear hown3 hok hps hb3 HO2 HZS q2
    go_wp2_with fail
    go_loop [3, 6] (fun ov i => ov = .slice (some ⟨w.heap.size + 1, 0, none⟩) 0 0 ∧ i = .int .i64 0) (fun _ _ => 0)
    case atStart => exact ⟨rfl, rfl⟩
    case round =>
      obtain ⟨rfl, rfl⟩ := hrel
      go_wp2
      exact HQ.out _ [] _ HB3.out (Or.inr ⟨HOK.out, rfl⟩) (own_lower HE3.out (by omega))
end Go.Proofs.Ytblagfndeffilaa
