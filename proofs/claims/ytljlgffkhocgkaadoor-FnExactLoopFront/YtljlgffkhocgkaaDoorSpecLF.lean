/- What the model's LoopFront answers. -/
import Derived.Test.YtljlgffkhocgkaaDoorFrontP
import Derived.Test.YtljlgffkhocgkaaDoorSpecDoms
import Derived.Test.YtljlgffkhocgkaaDoorMatR
namespace Go.Proofs.YtljlgffkhocgkaaDoor
open Go.RowKit

set_option maxRecDepth 100000 in
set_option maxHeartbeats 4000000 in
theorem specLoopFront_any {Q : Ending → World → Prop} (v : Value) (ss : List St) (w : World) (h : StepsAt w v ss) (hl : ss.length ≤ 1048576) (hls : ∀ s ∈ ss, s.next.length ≤ 1048576)
    (hQ : ∀ v' zss w', Below w.heap.size w w' → FrontOr ss zss → RowsI w.heap.size w'.heap.size w' v' zss → Q (.returned v') w') :
    Calls Tryd.prog 16 #[.agg #[v]] w Q := by
  have HQ : Hid _ := hQ
  clear hQ
  obtain ⟨ao, b, o, cap, rfl, ha, hc⟩ := id h
  clear ha hc
  have HH : Hid (StepsAt w (.slice ao ss.length cap) ss) := h
  have HL : Hid _ := hls
  clear hls h
  obtain ⟨i0, hi, hz0, hz1, hz2⟩ := info_parts infoInt2
  obtain ⟨i1, hj, hy0, hy1, hy2⟩ := info_parts infoInts2
  have hb0 : ∀ O O', Below w.heap.size w ((w.alloc O).alloc O') := fun O O' => ((Below.refl _ _).alloc (Nat.le_refl _) O).alloc (by simp) O'
  go_enter Tryd.func16, Tryd.ntmps16
  go_wp2_with fail
  have e0 := fun c : Array Value => World.ownsRow_lit (base := w.heap.size + 1) (e := 55) (size := 1) (w.alloc (.cells c 34)) #[] 0 (by simp) (by decide) (by simp)
  refine specDoms_any _ ss _ (HH.out.keep (hb0 _ _)) hl HL.out fun v2 zss w2 hb2 hzs hown2 => ?_
  have hbB : Below w.heap.size w w2 := (hb0 _ _).trans (hb2.mono (by simp; omega))
  have q2 : w2.cell? ⟨w.heap.size, 0, none⟩ = some (.slice ao ss.length cap) := cell_keep hb2 (by simp [go_sem])
  have e2 : w2.ownsRow (w.heap.size + 1) 55 1 (.slice (some ⟨w.heap.size + 1, 0, none⟩) 0 0) 0 [] := by
    have h1 := ownsRow_out (e0 _) (Out.of_below (lo := 0) (hi := 0) hb2) (fun _ _ => Or.inr (Nat.zero_le _))
    simpa using h1
  have HB2 : Hid (Below w.heap.size w w2) := hbB
  have HE2 : Hid (w2.ownsRow (w.heap.size + 1) 55 1 (.slice (some ⟨w.heap.size + 1, 0, none⟩) 0 0) 0 []) := e2
  have hsz2 := (e2.lt _ rfl).2
  have HO2 : Hid (RowsB ((w.alloc (.cells #[.slice ao ss.length cap] 34)).alloc (.cells #[] 55)).heap.size w2.heap.size w2 v2 zss) := hown2
  obtain ⟨A2, c2, hv2⟩ := hown2.slice
  subst hv2
  have HZS : Hid (DomsOr ss zss) := hzs
  clear hb2 hb0 e0 hbB e2 hown2 hzs
  go_wp2_with fail
  refine specPreds_any _ ss _ (HH.out.keep HB2.out) hl HL.out fun v3 pss w3 hb3 hps hown3 => ?_
  have HB3 : Hid (Below w.heap.size w w3) := HB2.out.trans (hb3.mono HB2.out.size)
  have HE3 : Hid (w3.ownsRow (w.heap.size + 1) 55 1 (.slice (some ⟨w.heap.size + 1, 0, none⟩) 0 0) 0 []) := ownsRow_out HE2.out (Out.of_below (lo := 0) (hi := 0) hb3) (fun _ _ => Or.inr (Nat.zero_le _))
  have hsz3 : w2.heap.size ≤ w3.heap.size := hb3.size
  rcases HZS.out with ⟨hok, m, hdm, rfl⟩ | ⟨hok, rfl⟩
  · obtain ⟨rs, hrs, rfl⟩ : ∃ rs, IsReach ss rs ∧ pss = predsL ss rs := by
      rcases hps with ⟨_, rs, h1, h2⟩ | ⟨h, _⟩
      · exact ⟨rs, h1, h2⟩
      · rw [hok] at h; cases h
    obtain ⟨hn1, hn2⟩ := ok_len hok
    have HOK : Hid (okB ss = true) := hok
    have HDM : Hid (DomsM ss m) := hdm
    have HRS : Hid (IsReach ss rs) := hrs
    have hml : (matL ss.length m).length = ss.length := matL_len _ _
    have h23 := HO2.out.keep hb3
    obtain ⟨g, gcap, gs, cs, hgv, hmr, hgl0⟩ := MatR.ofLow h23 hn1
    rw [hml] at hgv
    simp only [Value.slice.injEq, true_and] at hgv
    obtain ⟨rfl, rfl⟩ := hgv
    rw [hml]
    have HGL : Hid (w.heap.size + 2 ≤ g ∧ ∀ i, i < ss.length → w.heap.size + 2 ≤ gs i) := by rw [Hid]; simpa using hgl0
    have HMR : Hid (MatR w3 g ss.length gs cs m) := hmr
    have HR3 : Hid (RowsI w2.heap.size w3.heap.size w3 v3 (predsL ss rs)) := hown3
    obtain ⟨pao, pg, pcap, hpv, hpr⟩ := hown3.read
    rw [show (predsL ss rs).length = ss.length by simp [predsL]] at hpv
    subst hpv
    have HPW : Hid (∀ (i : Nat), i < ss.length → ∃ A pb c, pao = some ⟨pg, 0, none⟩ ∧ (0 < (predsK ss rs i ss.length).length → A = some ⟨pb, 0, none⟩) ∧ ∀ wx : World, Out (w.heap.size + 1) (w.heap.size + 2) w3 wx → wx.cell? ⟨pg, i, none⟩ = some (.slice A (predsK ss rs i ss.length).length c) ∧ ∀ t, t < (predsK ss rs i ss.length).length → wx.cell? ⟨pb, t, none⟩ = some (.int .i64 ((predsK ss rs i ss.length).getD t 0))) := by
      intro i hi
      obtain ⟨x, A, c, h1, h2, h3, h4⟩ := hpr i (predsK ss rs i ss.length) (by simp [predsL, hi])
      subst h3
      have hpg : w.heap.size + 2 ≤ pg := by
        obtain ⟨vs, _, h5, _⟩ := hown3
        subst h1
        have := (h5.lt pg rfl).1
        omega
      obtain ⟨A', pb, c', e, e2⟩ := h4.read
      cases e
      refine ⟨A, pb, c, h1, fun hp => (e2 0 hp).1, fun wx hbx => ⟨hbx.cell h2 (Or.inr hpg), fun t ht => ?_⟩⟩
      obtain ⟨_, e3, _, e5, _⟩ := e2 t ht
      exact hbx.cell e3 (Or.inr (by show w.heap.size + 2 ≤ pb; omega))
    obtain ⟨fr, hfr⟩ := FrontM.some ss
    have HFR : Hid (∀ i x, (fr i x = true ↔ IsFront ss i x)) := hfr
    have HE4 : Hid (RowsI (w.heap.size + 1) w3.heap.size w3 (.slice (some ⟨w.heap.size + 1, 0, none⟩) 0 0) []) := RowsI.nil HE3.out (fun k hk => (HE3.out.lt k hk).2)
    clear hfr
    clear hok hdm hrs hmr hown3 hpr hps h23 hgl0 hml HO2 HZS hb3 q2 HE2
    go_wp2_with fail
    go_loopw [3, 6] (fun ov i wr => ∃ k : Nat, k ≤ ss.length ∧ i = .int .i64 k ∧ RowsI (w.heap.size + 1) wr.heap.size wr ov ((List.range k).map (fun j => frK fr j ss.length)) ∧ Out (w.heap.size + 1) (w.heap.size + 2) w3 wr ∧ ∀ q, ov.ownBlock = some q → q = w.heap.size + 1 ∨ w3.heap.size ≤ q) (fun _ i _ => ss.length - (intOf i).toNat)
    case atStart => exact ⟨0, Nat.zero_le _, rfl, HE4.out, Out.refl _ _ _, fun q hq => by simp [Value.ownBlock] at hq; omega⟩
    case round =>
      obtain ⟨k, hk, rfl, hR, hO, hov⟩ := hrel
      have HR : Hid (RowsI (w.heap.size + 1) wr.heap.size wr u3 ((List.range k).map (fun j => frK fr j ss.length))) := hR
      have HO : Hid (Out (w.heap.size + 1) (w.heap.size + 2) w3 wr) := hO
      have HOV : Hid (∀ q, u3.ownBlock = some q → q = w.heap.size + 1 ∨ w3.heap.size ≤ q) := hov
      have hsz : w3.heap.size ≤ wr.heap.size := hO.size
      clear hov
      by_cases hkn : k < ss.length
      · have hki : (k : Int) < (ss.length : Int) := by omega
        obtain ⟨vs, h1, h2, h3, h4, h5⟩ := hR
        have HV2 : Hid _ := h2
        have HV4 : Hid _ := h4
        have HV5 : Hid _ := h5
        rw [List.length_map, List.length_range] at h1
        clear h2 h3 h4 h5 hO
        go_wp2
        have hb5 : ∀ O, Below wr.heap.size wr (wr.alloc O) := fun O => (Below.refl _ _).alloc (Nat.le_refl _) O
        have hl5 : (wr.alloc (.cells #[] 3)).ownsRow wr.heap.size 3 1 (.slice (some ⟨wr.heap.size, 0, none⟩) 0 0) 0 [] := World.ownsRow_lit _ #[] 0 (Nat.le_refl _) (by decide) (by simp)
        have HB5 : Hid _ := hb5
        have HL5 : Hid _ := hl5
        clear hb5 hl5
        generalize wr = W5 at *
        go_loopw [7, 8] (fun lv kk wr2 => ∃ t : Nat, t ≤ ss.length ∧ kk = .int .i64 t ∧ Below W5.heap.size W5 wr2 ∧ W5.heap.size < wr2.heap.size ∧ wr2.ownsRow W5.heap.size 3 1 lv (frK fr k t).length ((frK fr k t).map (Value.int .i64))) (fun _ kk _ => ss.length - (intOf kk).toNat)
        case atStart => exact ⟨0, Nat.zero_le _, rfl, HB5.out _, by simp, by rw [frK_zero]; exact HL5.out⟩
        case round =>
          obtain ⟨t, ht, rfl, hb6, hs6, hl6⟩ := hrel
          have HB6 : Hid (Below W5.heap.size W5 wr) := hb6
          have HL6 : Hid (wr.ownsRow W5.heap.size 3 1 u7 (frK fr k t).length ((frK fr k t).map (Value.int .i64))) := hl6
          have HO6 : Hid (Out (w.heap.size + 1) (w.heap.size + 2) w3 wr) := HO.out.trans (Out.of_below hb6)
          have HMW : Hid (MatR wr g ss.length gs cs m) := ⟨fun i hi => HO6.out.cell (HMR.out.row i hi) (Or.inr (HGL.out.1)), fun i j hi hj => HO6.out.cell (HMR.out.cell i j hi hj) (Or.inr (HGL.out.2 i hi))⟩
          have hpl := frK_len fr k t
          by_cases htl : t < ss.length
          · have hti : (t : Int) < (ss.length : Int) := by omega
            obtain ⟨A, pb, pc, rfl, hA, hps⟩ := HPW.out t htl
            obtain ⟨cp, hpc⟩ := hps wr HO6.out
            have HA : Hid (0 < (predsK ss rs t ss.length).length → A = some ⟨pb, 0, none⟩) := hA
            have HPC : Hid (∀ x, x < (predsK ss rs t ss.length).length → wr.cell? ⟨pb, x, none⟩ = some (.int .i64 ((predsK ss rs t ss.length).getD x 0))) := hpc
            have hppl := predsK_len ss rs t ss.length
            have HSUC : Hid (frK fr k (t + 1) = frK fr k t ++ if fr k t = true then [(t : Int)] else []) := frK_succ fr k t
            have r2 := HMW.out.row t htl
            have e2 := HMW.out.cell t k htl hkn
            have HD2 : Hid (m t k = true ↔ Dom ss k t) := HDM.out t k htl hkn
            clear hb6 hl6 hA hps hpc
            go_wp2_with fail
            go_loop [9, 10] (fun bb kk => ∃ (u : Nat) (x : Bool), u ≤ (predsK ss rs t ss.length).length ∧ kk = .int .i64 u ∧ bb = .bool x ∧ (x = true ↔ ∃ (j p : Nat), j < u ∧ (predsK ss rs t ss.length).getD j 0 = (p : Int) ∧ Dom ss k p)) (fun _ kk => (predsK ss rs t ss.length).length - (intOf kk).toNat)
            case atStart => exact ⟨0, false, Nat.zero_le _, rfl, rfl, by simp⟩
            case round =>
              obtain ⟨u, x, hu, rfl, rfl, hx⟩ := hrel
              have HX : Hid (x = true ↔ ∃ (j p : Nat), j < u ∧ (predsK ss rs t ss.length).getD j 0 = (p : Int) ∧ Dom ss k p) := hx
              clear hx
              by_cases hul : u < (predsK ss rs t ss.length).length
              · have hui : (u : Int) < ((predsK ss rs t ss.length).length : Int) := by omega
                obtain ⟨p, hp, hpn⟩ := predsK_nat hul
                obtain rfl := HA.out (by omega)
                have ct := HPC.out u hul
                rw [hp] at ct
                have HP : Hid ((predsK ss rs t ss.length).getD u 0 = (p : Int)) := hp
                have hpi : (p : Int) < (ss.length : Int) := by omega
                have r1 := HMW.out.row p hpn
                have e1 := HMW.out.cell p k hpn hkn
                have HD1 : Hid (m p k = true ↔ Dom ss k p) := HDM.out p k hpn hkn
                have HNEW : Hid (∀ y : Bool, (y = true ↔ (x = true ∨ Dom ss k p)) → (y = true ↔ ∃ (j p : Nat), j < u + 1 ∧ (predsK ss rs t ss.length).getD j 0 = (p : Int) ∧ Dom ss k p)) := by
                  intro y hy
                  rw [hy, HX.out]
                  constructor
                  · rintro (⟨j, q, h1, h2, h3⟩ | h)
                    · exact ⟨j, q, by omega, h2, h3⟩
                    · exact ⟨u, p, by omega, HP.out, h⟩
                  · rintro ⟨j, q, h1, h2, h3⟩
                    by_cases e : j = u
                    · subst e
                      rw [HP.out] at h2
                      have : p = q := by omega
                      subst this
                      exact Or.inr h3
                    · exact Or.inl ⟨j, q, by omega, h2, h3⟩
                clear hp
                cases x
                · cases h1 : m p k
                  · rw [h1] at e1
                    have HN : Hid _ := HNEW.out false (by simp only [Bool.false_eq_true, false_or, false_iff]; intro hd; have := HD1.out.2 hd; rw [h1] at this; cases this)
                    clear h1
                    go_wp2
                    go_round
                    case rel => exact ⟨u + 1, false, by omega, by go_num, rfl, HN.out⟩
                    case measure => simp [intOf]; omega
                  · rw [h1] at e1
                    have HN : Hid _ := HNEW.out true (by simp [HD1.out.1 h1])
                    clear h1
                    go_wp2
                    go_round
                    case rel => exact ⟨u + 1, true, by omega, by go_num, rfl, HN.out⟩
                    case measure => simp [intOf]; omega
                · have HN : Hid _ := HNEW.out true (by simp)
                  go_wp2
                  go_round
                  case rel => exact ⟨u + 1, true, by omega, by go_num, rfl, HN.out⟩
                  case measure => simp [intOf]; omega
              · have hui : ¬ (u : Int) < ((predsK ss rs t ss.length).length : Int) := by omega
                obtain rfl : u = (predsK ss rs t ss.length).length := by omega
                have HSOME : Hid (x = true ↔ ∃ p, Reaches ss p ∧ Edge ss p t ∧ Dom ss k p) := by
                  rw [Hid, HX.out]
                  constructor
                  · rintro ⟨j, p, h1, h2, h3⟩
                    have h4 : (p : Int) ∈ predsK ss rs t ss.length := by rw [← h2]; exact mem_of_getD h1
                    have h5 := (mem_predsK HRS.out).1 h4
                    exact ⟨p, h5.2.1, h5.2.2, h3⟩
                  · rintro ⟨p, h1, h2, h3⟩
                    obtain ⟨j, hj, e⟩ := mem_getD' ((mem_predsK HRS.out).2 ⟨reach_lt HOK.out h1, h1, h2⟩)
                    exact ⟨j, p, hj, e, h3⟩
                have HNO : Hid (¬ IsFront ss k t → frK fr k (t + 1) = frK fr k t) := fun h => by
                  rw [HSUC.out, if_neg (fun e => h ((HFR.out k t).1 e)), List.append_nil]
                have HYES : Hid (IsFront ss k t → frK fr k (t + 1) = frK fr k t ++ [(t : Int)]) := fun h => by
                  rw [HSUC.out, if_pos ((HFR.out k t).2 h)]
                cases x
                · have HE : Hid (frK fr k (t + 1) = frK fr k t) := HNO.out fun h => by have := HSOME.out.2 h.1; cases this
                  go_wp2
                  go_roundw
                  case rel => exact ⟨t + 1, by omega, by go_num, HB6.out, hs6, by rw [HE.out]; exact HL6.out⟩
                  case measure => simp [intOf]; omega
                · have HEX : Hid (∃ p, Reaches ss p ∧ Edge ss p t ∧ Dom ss k p) := HSOME.out.1 rfl
                  by_cases htk : t = k
                  · subst htk
                    have HE : Hid (frK fr t (t + 1) = frK fr t t ++ [(t : Int)]) := HYES.out ⟨HEX.out, Or.inl rfl⟩
                    go_wp2_with (at_builtin; refine wpList_append_own _ rfl _ _ 55 rfl W5.heap.size 3 i0 (.int .i64 0) 1 8 Tryd.underlying55 hi hz0 hz1 hz2 rfl (by decide) u7 (frK fr t t).length ((frK fr t t).map (Value.int .i64)) rfl (HL6.out.alloc _) ⟨wr.heap.size, 0, none⟩ 1 1 [.int .i64 (t : Int)] rfl rfl (cell_one_new wr _ _) (int_oneCell _ _) (by unfold maxLen; omega) (by omega) (by simp; omega) ?_; intro v8 w8 hown8 hgrow8 _)
                    have HB8 : Hid (Below W5.heap.size W5 w8) := (HB6.out.alloc (by omega) _).grown hgrow8 (by simp; omega) (fun q hq => (HL6.out.lt q hq).1)
                    have hs8 : W5.heap.size < w8.heap.size := Nat.lt_of_lt_of_le hs6 (Nat.le_trans (by simp) hgrow8.size)
                    have HO8 : Hid (w8.ownsRow W5.heap.size 3 1 v8 (frK fr t (t + 1)).length ((frK fr t (t + 1)).map (Value.int .i64))) := by
                      have e := HE.out
                      rw [Hid, e]
                      simpa using hown8
                    clear hown8 hgrow8
                    go_wp2
                    go_roundw
                    case rel => exact ⟨t + 1, by omega, by go_num, HB8.out, hs8, HO8.out⟩
                    case measure => simp [intOf]; omega
                  · have htkb : ((t : Int) == (k : Int)) = false := by rw [beq_eq_false_iff_ne]; omega
                    cases hmt : m t k
                    · rw [hmt] at e2
                      have HE : Hid (frK fr k (t + 1) = frK fr k t ++ [(t : Int)]) := HYES.out ⟨HEX.out, Or.inr fun hd => by have := HD2.out.2 hd; rw [hmt] at this; cases this⟩
                      clear hmt
                      go_wp2_with (at_builtin; refine wpList_append_own _ rfl _ _ 55 rfl W5.heap.size 3 i0 (.int .i64 0) 1 8 Tryd.underlying55 hi hz0 hz1 hz2 rfl (by decide) u7 (frK fr k t).length ((frK fr k t).map (Value.int .i64)) rfl (HL6.out.alloc _) ⟨wr.heap.size, 0, none⟩ 1 1 [.int .i64 (t : Int)] rfl rfl (cell_one_new wr _ _) (int_oneCell _ _) (by unfold maxLen; omega) (by omega) (by simp; omega) ?_; intro v8 w8 hown8 hgrow8 _)
                      have HB8 : Hid (Below W5.heap.size W5 w8) := (HB6.out.alloc (by omega) _).grown hgrow8 (by simp; omega) (fun q hq => (HL6.out.lt q hq).1)
                      have hs8 : W5.heap.size < w8.heap.size := Nat.lt_of_lt_of_le hs6 (Nat.le_trans (by simp) hgrow8.size)
                      have HO8 : Hid (w8.ownsRow W5.heap.size 3 1 v8 (frK fr k (t + 1)).length ((frK fr k (t + 1)).map (Value.int .i64))) := by
                        have e := HE.out
                        rw [Hid, e]
                        simpa using hown8
                      clear hown8 hgrow8
                      go_wp2
                      go_roundw
                      case rel => exact ⟨t + 1, by omega, by go_num, HB8.out, hs8, HO8.out⟩
                      case measure => simp [intOf]; omega
                    · rw [hmt] at e2
                      have HE : Hid (frK fr k (t + 1) = frK fr k t) := HNO.out fun h => by
                        rcases h.2 with e | e
                        · exact htk e
                        · exact e (HD2.out.1 hmt)
                      clear hmt
                      go_wp2
                      go_roundw
                      case rel => exact ⟨t + 1, by omega, by go_num, HB6.out, hs6, by rw [HE.out]; exact HL6.out⟩
                      case measure => simp [intOf]; omega
          · have hti : ¬ (t : Int) < (ss.length : Int) := by omega
            obtain rfl : t = ss.length := by omega
            have HVr : Hid (wr.ownsRow (w.heap.size + 1) 55 1 u3 k vs) := by
              have := ownsRow_out HV2.out (Out.of_below (lo := 0) (hi := 0) hb6) (fun _ _ => Or.inr (Nat.zero_le _))
              rwa [List.length_map, List.length_range] at this
            obtain ⟨A6, n6, c6, hv6⟩ : ∃ A n c, u7 = .slice A n c := by
              rcases hl6.2 with ⟨e, _⟩ | ⟨g', c, _, e, _⟩
              · exact ⟨_, _, _, e⟩
              · exact ⟨_, _, _, e⟩
            subst hv6
            clear hb6 hl6
            go_wp2_with (at_builtin; refine wpList_append_lies _ rfl _ _ 45 rfl (w.heap.size + 1) 55 i1 (.slice none 0 0) 1 24 Tryd.underlying45 hj hy0 hy1 hy2 rfl (by decide) u3 k vs rfl (HVr.out.alloc _) ⟨wr.heap.size, 0, none⟩ 1 1 [.slice A6 n6 c6] rfl rfl (cell_one_new wr _ _) (slice_int_one _ _ _) (by decide) (by unfold maxLen; omega) (by omega) (by simp; omega) (wr.heap.size + 1) (by simp) ?_; intro g8 cap8 w8 hown8 hgrow8 hat8 hlt8)
            have hs8 : wr.heap.size + 1 ≤ w8.heap.size := Nat.le_trans (by simp) hgrow8.size
            have HRN : Hid (RowsI (w.heap.size + 1) w8.heap.size w8 (.slice (some ⟨g8, 0, none⟩) (k + 1) cap8) ((List.range (k + 1)).map (fun j => frK fr j ss.length))) := by
              have hgen := RowsI.snoc (lo := w.heap.size + 1) (hi := W5.heap.size) (s := W5.heap.size) (W := wr.alloc (.cells #[.slice A6 n6 c6] 55)) (w' := w8) (v := u3) (v' := .slice (some ⟨g8, 0, none⟩) (k + 1) cap8) (x := .slice A6 n6 c6) (zss := (List.range k).map (fun j => frK fr j ss.length)) (zs := frK fr k ss.length) (vs := vs) (by simp [h1]) (by simpa using HVr.out.alloc _) (fun i y zs hy hz => ((HV4.out i y zs hy hz).keep HB6.out).keep ((Below.refl _ _).alloc (Nat.le_refl _) _)) HV5.out (HL6.out.alloc _) (Nat.le_refl _) (by omega) hgrow8 (by simpa using hown8)
              rw [Hid, List.range_succ, List.map_append]
              exact hgen
            have HOutN : Hid (Out (w.heap.size + 1) (w.heap.size + 2) w3 w8) := by
              refine ⟨hgrow8.os.trans (HB6.out.os.trans HO.out.os), hgrow8.tape.trans (HB6.out.tape.trans HO.out.tape), hgrow8.output.trans (HB6.out.output.trans HO.out.output), by omega, fun q hq hr => ?_⟩
              have h7 : (wr.alloc (.cells #[.slice A6 n6 c6] 55)).heap[q]? = wr.heap[q]? := Below.heap_alloc _ _ _ (by omega)
              refine ((hgrow8.block q (by simp; omega) (fun e => ?_)).trans h7).trans ((HB6.out.block q (by omega)).trans (HO.out.block q hq hr))
              have := HOV.out q e.symm
              omega
            have HOVN : Hid (∀ q, (Value.slice (some ⟨g8, 0, none⟩) (k + 1) cap8).ownBlock = some q → q = w.heap.size + 1 ∨ w3.heap.size ≤ q) := by
              intro q hq
              simp [Value.ownBlock] at hq
              subst hq
              rcases hat8 with e | e
              · exact HOV.out _ e
              · omega
            clear hown8 hgrow8 hat8
            go_wp2
            go_roundw
            case rel => exact ⟨k + 1, by omega, by go_num, HRN.out, HOutN.out, HOVN.out⟩
            case measure => simp [intOf]; omega
      · have hki : ¬ (k : Int) < (ss.length : Int) := by omega
        obtain rfl : k = ss.length := by omega
        clear hR hO
        go_wp2
        exact HQ.out _ _ _ (HB3.out.trans (HO.out.below (by omega) (by omega))) (Or.inl ⟨HOK.out, fr, fun i x _ _ => HFR.out i x, rfl⟩) (HR.out.lower (by omega))
  · obtain ⟨A3, c3, hv3⟩ := hown3.slice
    subst hv3
    have HOK : Hid (okB ss = false) := hok
    clear hown3 hok hps hb3 HO2 HZS q2
    go_wp2_with fail
    go_loop [3, 6] (fun ov i => ov = .slice (some ⟨w.heap.size + 1, 0, none⟩) 0 0 ∧ i = .int .i64 0) (fun _ _ => 0)
    case atStart => exact ⟨rfl, rfl⟩
    case round =>
      obtain ⟨rfl, rfl⟩ := hrel
      go_wp2
      exact HQ.out _ [] _ HB3.out (Or.inr ⟨HOK.out, rfl⟩) (RowsI.nil (own_lower HE3.out (by omega)) (fun k hk => (HE3.out.lt k hk).2))
end Go.Proofs.YtljlgffkhocgkaaDoor
