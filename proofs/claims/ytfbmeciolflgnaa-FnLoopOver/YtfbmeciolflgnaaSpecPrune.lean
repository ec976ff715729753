/- What the model's l2Prune answers. -/
import Derived.Test.YtfbmeciolflgnaaTidy26
import Derived.Test.YtfbmeciolflgnaaSpecCopy
import Derived.Test.YtfbmeciolflgnaaNiceOwn
namespace Go.Proofs.Ytfbmeciolflgnaa
open Go.RowKit

theorem box_set {w w' : World} {b : Nat} {s : St} {nv u : Value} (hb : Below (b + 1) w w') (h : StepCells w b 0 s nv) : StepCells (w'.setCell ⟨b, 7, none⟩ u) b 0 s u := by
  have rd : ∀ j x, w.cell? ⟨b, j, none⟩ = some x → w'.cell? ⟨b, j, none⟩ = some x := fun j x h => (hb.cell (by show b < b + 1; omega)).trans h
  obtain ⟨d0, d1, d2, d3, d4, d5, d6, d7⟩ := box_zero h
  have d7' := rd 7 _ d7
  exact ⟨by simp [go_sem, rd _ _ d0], by simp [go_sem, rd _ _ d1], by simp [go_sem, rd _ _ d2], by simp [go_sem, rd _ _ d3], by simp [go_sem, rd _ _ d4], by simp [go_sem, rd _ _ d5], by simp [go_sem, rd _ _ d6], by simp [go_sem, d7']⟩

theorem one_newA {w : World} {a : Addr} {x : Value} (h : w.cell? a = some x) : ∀ j u, [x][j]? = some u → w.cell? (a.add j) = some u := by
  intro j u hu
  cases j with
  | zero => simp at hu; subst hu; exact h
  | succ j => simp at hu

set_option maxRecDepth 100000 in
set_option maxHeartbeats 8000000 in
theorem l2Prune_any {Q : Ending → World → Prop} (v : Value) (ss : List St) (w : World) (h : StepsAt w v ss) (hok : okB ss = true)
    (hQ : ∀ v' rs xs nvs w', IsReach ss rs → PO w.heap.size w' v' (pruneK ss rs ss.length) xs nvs → Below w.heap.size w w' → Q (.returned (.agg #[v'])) w') :
    Calls Try.prog 80 #[.agg #[v]] w Q := by
  have HQ : Hid _ := hQ
  clear hQ
  obtain ⟨hn1, hn2⟩ := ok_len hok
  have HOK : Hid (okB ss = true) := hok
  obtain ⟨ao, b, o, cap, rfl, ha, hc⟩ := id h
  obtain rfl := ha (by omega)
  have HC : Hid _ := hc
  have HH : Hid (StepsAt w (.slice (some ⟨b, o, none⟩) ss.length cap) ss) := h
  clear ha hc h hok
  obtain ⟨i0, hi, hz0, hz1, hz2⟩ := info_parts infoInt2
  obtain ⟨i1, hj, hy0, hy1, hy2⟩ := info_parts infoStep1
  go_enter Try.func80, Try.ntmps80
  go_wp2_with fail
  have hb0 : ∀ O O', Below w.heap.size w ((w.alloc O).alloc O') := fun O O' => ((Below.refl _ _).alloc (Nat.le_refl _) O).alloc (by simp) O'
  refine specReach_yes _ ss _ (HH.out.keep (hb0 _ _)) HOK.out fun v1 rs w1 hb1 hrs hown1 => ?_
  have hbA : Below w.heap.size w w1 := (hb0 _ _).trans (hb1.mono (by simp; omega))
  have q1 : w1.cell? ⟨w.heap.size, 0, none⟩ = some (.slice (some ⟨b, o, none⟩) ss.length cap) := cell_keep hb1 (by simp [go_sem])
  have r1 : w1.cell? ⟨w.heap.size + 1, 0, none⟩ = some (.slice none 0 0) := cell_keep hb1 (by simp [go_sem])
  have rf1 : w1.frozen? ⟨w.heap.size + 1, 0, none⟩ = false := (hb1.frozen (by simp)).trans (by simp [go_sem])
  have HRS : Hid (IsReach ss rs) := hrs
  have hrl := hrs.1
  obtain ⟨g, cap1, rfl, hg1, hg2, _, hg3, _⟩ := own_slice1 hown1 (by omega)
  have HG : Hid (∀ i, i < ss.length → w1.cell? ⟨g, i, none⟩ = (rs.map Value.bool)[i]?) := hg3
  have HB1 : Hid (Below w.heap.size w w1) := hbA
  have hs1 : w.heap.size + 1 < w1.heap.size := cell_lt r1
  clear hb1 hb0 hrs hown1 hg3 hbA
  go_wp2
  have HE1 : Hid ((w1.alloc (.cells #[] 3)).ownsRow w1.heap.size 3 1 (.slice (some ⟨w1.heap.size, 0, none⟩) 0 0) 0 []) := World.ownsRow_lit _ #[] 0 (Nat.le_refl _) (by decide) (by simp)
  have HBE : Hid (Below w1.heap.size w1 (w1.alloc (.cells #[] 3))) := (Below.refl _ _).alloc (Nat.le_refl _) _
  go_loopw [4, 5, 6] (fun pv n i wr => ∃ k : Nat, k ≤ ss.length ∧ i = .int .i64 k ∧ n = .int .i64 (placeN rs k : Int) ∧ Below w1.heap.size w1 wr ∧ w1.heap.size < wr.heap.size ∧ wr.ownsRow w1.heap.size 3 1 pv k ((List.range k).map (fun i => Value.int .i64 (placeN rs i : Int)))) (fun _ _ i _ => ss.length - (intOf i).toNat)
  case atStart => exact ⟨0, Nat.zero_le _, rfl, by rw [placeN_zero]; rfl, HBE.out, by simp, HE1.out⟩
  case round =>
    obtain ⟨k, hk, rfl, rfl, hb, hs, hpl⟩ := hrel
    have HB : Hid (Below w1.heap.size w1 wr) := hb
    have HPL : Hid (wr.ownsRow w1.heap.size 3 1 u4 k ((List.range k).map (fun i => Value.int .i64 (placeN rs i : Int)))) := hpl
    have q2 := cell_keep hb q1
    have hple := placeN_le rs k
    by_cases hkl : k < ss.length
    · have hki : (k : Int) < (ss.length : Int) := by omega
      have hkr : k < rs.length := by omega
      have cg0 : w1.cell? ⟨g, k, none⟩ = some (.bool rs[k]) := (HG.out k hkl).trans (by rw [List.getElem?_map, List.getElem?_eq_getElem hkr]; rfl)
      have HSUC : Hid _ := placeN_succ hkr
      have HRG : Hid ((List.range (k + 1)).map (fun i => Value.int .i64 (placeN rs i : Int)) = (List.range k).map (fun i => Value.int .i64 (placeN rs i : Int)) ++ [Value.int .i64 (placeN rs k : Int)]) := by
        rw [Hid, List.range_succ, List.map_append]; rfl
      clear hb hpl
      go_wp2_with (at_builtin; refine wpList_append_own _ rfl (.tmp 21) (.tmp 23) 42 rfl w1.heap.size 3 i0 (.int .i64 0) 1 8 Try.underlying42 hi hz0 hz1 hz2 rfl (by decide) u4 k ((List.range k).map (fun i => Value.int .i64 (placeN rs i : Int))) rfl (HPL.out.alloc _) ⟨wr.heap.size, 0, none⟩ 1 1 [.int .i64 (placeN rs k : Int)] rfl rfl (cell_one_new wr _ _) (int_oneCell _ _) (by unfold maxLen; omega) (by omega) (by simp; omega) ?_)
      intro v3 w3 hown3 hgrow3 _
      have hb3 : Below w1.heap.size w1 w3 := (HB.out.alloc (by omega) _).grown hgrow3 (by simp; omega) (fun q hq => (HPL.out.lt q hq).1)
      have hs3 : w1.heap.size < w3.heap.size := Nat.lt_of_lt_of_le hs (Nat.le_trans (by simp) hgrow3.size)
      have cg := cell_keep hb3 cg0
      have HO3 : Hid (w3.ownsRow w1.heap.size 3 1 v3 (k + 1) ((List.range (k + 1)).map (fun i => Value.int .i64 (placeN rs i : Int)))) := by
        have e := HRG.out
        rw [Hid, e]
        exact hown3
      have HB3 : Hid (Below w1.heap.size w1 w3) := hb3
      clear hown3 hgrow3 hb3 cg0 q2
      cases hrv : rs[k]
      · rw [hrv] at cg
        have HEQ : Hid (placeN rs (k + 1) = placeN rs k) := by rw [Hid, HSUC.out, hrv]; simp
        clear hrv
        go_wp2
        go_roundw
        case rel => exact ⟨k + 1, by omega, by go_num, by rw [HEQ.out], HB3.out, hs3, HO3.out⟩
        case measure => simp [intOf]; omega
      · rw [hrv] at cg
        have HEQ : Hid (placeN rs (k + 1) = placeN rs k + 1) := by rw [Hid, HSUC.out, hrv]; simp
        clear hrv
        go_wp2
        go_roundw
        case rel => exact ⟨k + 1, by omega, by go_num, by rw [HEQ.out]; rfl, HB3.out, hs3, HO3.out⟩
        case measure => simp [intOf]; omega
    · have hki : ¬ (k : Int) < (ss.length : Int) := by omega
      obtain rfl : k = ss.length := by omega
      obtain ⟨gp, capp, rfl, hgp1, hgp2, _, hgp3, _⟩ := own_slice1 hpl (by omega)
      have HGP : Hid (∀ i, i < ss.length → wr.cell? ⟨gp, i, none⟩ = some (.int .i64 (placeN rs i : Int))) := fun i hi => (hgp3 i hi).trans (by simp [hi])
      have cgp := HGP
      clear hpl hgp3
      clear hb
      go_wp2
      generalize wr = W2 at *
      have hbD : Below W2.heap.size W2 (W2.alloc (.cells #[.slice none 0 0] 30)) := (Below.refl _ _).alloc (Nat.le_refl _) _
      have HBD : Hid _ := hbD
      have dq : (W2.alloc (.cells #[.slice none 0 0] 30)).cell? ⟨W2.heap.size, 0, none⟩ = some (.slice none 0 0) := by simp [go_sem]
      have df : (W2.alloc (.cells #[.slice none 0 0] 30)).frozen? ⟨W2.heap.size, 0, none⟩ = false := by simp [go_sem]
      have DQ : Hid _ := dq
      have DF : Hid _ := df
      clear hbD dq df
      go_loopw [8] (fun i wr => ∃ (k : Nat) (ov : Value) (xs : List Value) (nvs : Nat → Value), k ≤ ss.length ∧ i = .int .i64 k ∧ Below W2.heap.size W2 wr ∧ wr.cell? ⟨W2.heap.size, 0, none⟩ = some ov ∧ wr.frozen? ⟨W2.heap.size, 0, none⟩ = false ∧ PO (W2.heap.size + 1) wr ov (pruneK ss rs k) xs nvs) (fun i _ => ss.length - (intOf i).toNat)
      case atStart => exact ⟨0, _, [], fun _ => .slice none 0 0, Nat.zero_le _, rfl, HBD.out, DQ.out, DF.out, by simpa [pruneK] using PO.nil _ _ _⟩
      case round =>
        obtain ⟨k, ov, xs, nvs, hk, rfl, hb, hq2, hf2, hP⟩ := hrel
        have HB5 : Hid (Below W2.heap.size W2 wr) := hb
        have HP : Hid (PO (W2.heap.size + 1) wr ov (pruneK ss rs k) xs nvs) := hP
        have hlt := pruneK_len hrl hk
        have hple := placeN_le rs k
        obtain ⟨A, c, hov, _⟩ := hP.slice
        rw [hlt] at hov
        subst hov
        have HLT : Hid ((pruneK ss rs k).length = placeN rs k) := hlt
        have p0 := cell_keep hb q2
        have HB1r : Hid (Below w1.heap.size w1 wr) := HB.out.trans (hb.mono HB.out.size)
        have HBw : Hid (Below w.heap.size w wr) := HB1.out.trans (HB1r.out.mono (by omega))
        have r5 := cell_keep HB1r.out r1
        have rf5 := (HB1r.out.frozen (p := ⟨w.heap.size + 1, 0, none⟩) hs1).trans rf1
        have hs2 : W2.heap.size < wr.heap.size := cell_lt hq2
        clear hb hP hlt
        by_cases hkl : k < ss.length
        · have hki : (k : Int) < (ss.length : Int) := by omega
          have hkr : k < rs.length := by omega
          have cg : wr.cell? ⟨g, k, none⟩ = some (.bool rs[k]) := cell_keep HB1r.out ((HG.out k hkl).trans (by rw [List.getElem?_map, List.getElem?_eq_getElem hkr]; rfl))
          have HSUC : Hid _ := pruneK_succ (ss := ss) hkl hkr
          cases hrv : rs[k]
          · rw [hrv] at cg
            have HEQ : Hid (pruneK ss rs (k + 1) = pruneK ss rs k) := by rw [Hid, HSUC.out, hrv]; simp
            clear hrv
            go_wp2
            go_roundw
            case rel => exact ⟨k + 1, _, xs, nvs, by omega, by go_num, HB5.out, hq2, hf2, by rw [HEQ.out]; exact HP.out⟩
            case measure => simp [intOf]; omega
          · rw [hrv] at cg
            have HEQ : Hid (pruneK ss rs (k + 1) = pruneK ss rs k ++ [mapNext (placeI rs) ss[k]]) := by rw [Hid, HSUC.out, hrv]; simp
            obtain ⟨nu, cu, iu⟩ := HC.out k ss[k] (by simp [hkl])
            obtain ⟨nao, nb, no, ncap, rfl, hna, hnc⟩ := id iu
            obtain ⟨c0, c1, c2, c3, c4, c5, c6, c7⟩ := cu.keep HBw.out
            have C7 : Hid _ := cu.c7
            have HNA : Hid _ := hna
            have HNC : Hid _ := hnc
            obtain ⟨h2, hnx⟩ := (ok_fit HOK.out).2 k ss[k] (by simp [hkl])
            have HNX : Hid _ := hnx
            clear cu iu hna hnc hnx hrv
            go_wp2
            have hbS : Below wr.heap.size wr ((wr.alloc (.cells #[.int .i64 ss[k].kind, .int .i64 ss[k].dst, .int .i64 ss[k].op, .int .i64 ss[k].av, .int .i64 ss[k].an, .int .i64 ss[k].bv, .int .i64 ss[k].bn, .slice (some ⟨wr.heap.size + 1, 0, none⟩) 0 0] 77)).alloc (.cells #[] 3)) := ((Below.refl _ _).alloc (Nat.le_refl _) _).alloc (by simp) _
            have HBS : Hid _ := hbS
            have HSC : Hid (StepCells ((wr.alloc (.cells #[.int .i64 ss[k].kind, .int .i64 ss[k].dst, .int .i64 ss[k].op, .int .i64 ss[k].av, .int .i64 ss[k].an, .int .i64 ss[k].bv, .int .i64 ss[k].bn, .slice (some ⟨wr.heap.size + 1, 0, none⟩) 0 0] 77)).alloc (.cells #[] 3)) wr.heap.size 0 ss[k] (.slice (some ⟨wr.heap.size + 1, 0, none⟩) 0 0)) := box_keep (Below.refl _ _)
            have HFZ : Hid (∀ j, ((wr.alloc (.cells #[.int .i64 ss[k].kind, .int .i64 ss[k].dst, .int .i64 ss[k].op, .int .i64 ss[k].av, .int .i64 ss[k].an, .int .i64 ss[k].bv, .int .i64 ss[k].bn, .slice (some ⟨wr.heap.size + 1, 0, none⟩) 0 0] 77)).alloc (.cells #[] 3)).frozen? ⟨wr.heap.size, j, none⟩ = false) := fun j => by simp [go_sem]
            have HLS : Hid (((wr.alloc (.cells #[.int .i64 ss[k].kind, .int .i64 ss[k].dst, .int .i64 ss[k].op, .int .i64 ss[k].av, .int .i64 ss[k].an, .int .i64 ss[k].bv, .int .i64 ss[k].bn, .slice (some ⟨wr.heap.size + 1, 0, none⟩) 0 0] 77)).alloc (.cells #[] 3)).ownsRow (wr.heap.size + 1) 3 1 (.slice (some ⟨wr.heap.size + 1, 0, none⟩) 0 0) 0 []) := by
              have h0 := World.ownsRow_lit (base := wr.heap.size + 1) (e := 3) (size := 1) (wr.alloc (.cells #[.int .i64 ss[k].kind, .int .i64 ss[k].dst, .int .i64 ss[k].op, .int .i64 ss[k].av, .int .i64 ss[k].an, .int .i64 ss[k].bv, .int .i64 ss[k].bn, .slice (some ⟨wr.heap.size + 1, 0, none⟩) 0 0] 77)) #[] 0 (by simp) (by decide) (by simp)
              simpa [Hid] using h0
            clear hbS c0 c1 c2 c3 c4 c5 c6 c7 cg p0
            generalize wr = W5 at *
            go_loopw [10] (fun i wr => ∃ (t : Nat) (lv : Value), t ≤ ss[k].next.length ∧ i = .int .i64 t ∧ Below W5.heap.size W5 wr ∧ StepCells wr W5.heap.size 0 ss[k] lv ∧ (∀ j, wr.frozen? ⟨W5.heap.size, j, none⟩ = false) ∧ wr.ownsRow (W5.heap.size + 1) 3 1 lv t (((ss[k].next.take t).map (placeI rs)).map (Value.int .i64))) (fun i _ => ss[k].next.length - (intOf i).toNat)
            case atStart => exact ⟨0, _, Nat.zero_le _, rfl, HBS.out, HSC.out, HFZ.out, by simpa using HLS.out⟩
            case round =>
              obtain ⟨t, lv, ht, rfl, hb, hsc, hfz, hlv⟩ := hrel
              have HB6 : Hid (Below W5.heap.size W5 wr) := hb
              have HSC6 : Hid (StepCells wr W5.heap.size 0 ss[k] lv) := hsc
              have HLV : Hid (wr.ownsRow (W5.heap.size + 1) 3 1 lv t (((ss[k].next.take t).map (placeI rs)).map (Value.int .i64))) := hlv
              have HFZ6 : Hid (∀ j, wr.frozen? ⟨W5.heap.size, j, none⟩ = false) := hfz
              have HBw6 : Hid (Below w.heap.size w wr) := HBw.out.trans (hb.mono HBw.out.size)
              have HB26 : Hid (Below W2.heap.size W2 wr) := HB5.out.trans (hb.mono (by omega))
              have p6 := cell_keep HB26.out q2
              have c7 := cell_keep HBw6.out C7.out
              have hs6 : W5.heap.size < wr.heap.size := cell_lt hsc.c0
              obtain ⟨d0, d1, d2, d3, d4, d5, d6, d7⟩ := box_zero hsc
              obtain ⟨A6, n6, c6', hlv6⟩ := own_is_slice hlv
              subst hlv6
              clear hb hsc hlv hfz
              by_cases htl : t < ss[k].next.length
              · have hti : (t : Int) < (ss[k].next.length : Int) := by omega
                obtain rfl := HNA.out (by omega)
                obtain ⟨m, hm, hmn, _⟩ := HNX.out t htl
                have cx := cell_keep HBw6.out (HNC.out t htl)
                rw [hm] at cx
                have hmi : (m : Int) < (ss.length : Int) := by omega
                have cp := cell_keep HB26.out (HGP.out m hmn)
                have HTK : Hid (((ss[k].next.take (t + 1)).map (placeI rs)).map (Value.int .i64) = ((ss[k].next.take t).map (placeI rs)).map (Value.int .i64) ++ [.int .i64 (placeN rs m : Int)]) := by
                  rw [Hid, take_map_succ htl, List.map_append, hm]
                  simp [placeI]
                have hfz7 := HFZ6.out 7
                have HAB : Hid (∀ O, Below wr.heap.size wr (wr.alloc O).drew) := fun O => ((Below.refl _ _).alloc (Nat.le_refl _) O).drew
                have HA7 : Hid (∀ O, (wr.alloc O).drew.cell? ⟨W5.heap.size, 7, none⟩ = some (.slice A6 n6 c6')) := fun O => cell_keep (HAB.out O) d7
                have HF7 : Hid (∀ O, (wr.alloc O).drew.frozen? ⟨W5.heap.size, 7, none⟩ = false) := fun O => ((HAB.out O).frozen hs6).trans hfz7
                have HS7 : Hid (∀ O, W5.heap.size < (wr.alloc O).drew.heap.size) := fun O => Nat.lt_of_lt_of_le hs6 (HAB.out O).size
                have HR7 : Hid (some W5.heap.size ≠ (Value.slice A6 n6 c6').ownBlock) := fun e => by have h9 := (HLV.out.lt _ e.symm).1; omega
                clear hm d0 d1 d2 d3 d4 d5 d6
                go_wp2_with fail
                go_region_law (first | (refine step_append_own rfl (.tmp 63) (.tmp 76) 42 rfl (W5.heap.size + 1) 3 i0 (.int .i64 0) 1 8 Try.underlying42 hi hz0 hz1 hz2 rfl (by decide) (.slice A6 n6 c6') t (((ss[k].next.take t).map (placeI rs)).map (Value.int .i64)) (by simp [Act.eval]) (HLV.out.alloc _) ⟨wr.heap.size, 0, none⟩ 1 1 [.int .i64 (placeN rs m : Int)] (by simp [Act.eval]) rfl (one_newA (by simp [go_sem])) (int_oneCell _ _) (by unfold maxLen; omega) (by omega) (by simp; omega) ?_; intro v7 w7 hown7 hgrow7; have d77 := hgrow7.cell (HA7.out _) HR7.out; have f77 := (hgrow7.frozen_far ⟨W5.heap.size, 7, none⟩ (HS7.out _) HR7.out).trans (HF7.out _); obtain ⟨A7, n7, c7', hv7⟩ := own_is_slice hown7; subst hv7))
                all_goals
                  have hb7 : Below (W5.heap.size + 1) wr w7 := ((HAB.out _).mono (by omega)).trans ((Below.refl _ _).grown hgrow7 (HS7.out _) (fun q hq => (HLV.out.lt q hq).1))
                  have hB7 : Hid (Below W5.heap.size W5 (w7.setCell ⟨W5.heap.size, 7, none⟩ (.slice A7 n7 c7'))) := (HB6.out.trans (hb7.mono (by omega))).setCell (Nat.le_refl _) _
                  have HSC7 : Hid (StepCells (w7.setCell ⟨W5.heap.size, 7, none⟩ (.slice A7 n7 c7')) W5.heap.size 0 ss[k] (.slice A7 n7 c7')) := box_set hb7 HSC6.out
                  have HFZ7 : Hid (∀ j, (w7.setCell ⟨W5.heap.size, 7, none⟩ (.slice A7 n7 c7')).frozen? ⟨W5.heap.size, j, none⟩ = false) := fun j => by
                    have h1 := (hb7.frozen (p := ⟨W5.heap.size, j, none⟩) (by show W5.heap.size < W5.heap.size + 1; omega)).trans (HFZ6.out j)
                    simpa [go_sem] using h1
                  have HLV7 : Hid ((w7.setCell ⟨W5.heap.size, 7, none⟩ (.slice A7 n7 c7')).ownsRow (W5.heap.size + 1) 3 1 (.slice A7 n7 c7') (t + 1) (((ss[k].next.take (t + 1)).map (placeI rs)).map (Value.int .i64))) := by
                    rw [Hid, HTK.out]
                    exact ownsRow_setCell_below hown7 (by show W5.heap.size < W5.heap.size + 1; omega) _
                  clear hb7 hown7 hgrow7 d77 f77
                  go_wp2
                  go_roundw
                  case rel => exact ⟨t + 1, _, by omega, by go_num, hB7.out, HSC7.out, HFZ7.out, HLV7.out⟩
                  case measure => simp [intOf]; omega
              · have hti : ¬ (t : Int) < (ss[k].next.length : Int) := by omega
                obtain rfl : t = ss[k].next.length := by omega
                rw [List.take_of_length_le (Nat.le_refl _)] at HLV
                have q6 := cell_keep HB6.out hq2
                have f6 := (HB6.out.frozen (p := ⟨W2.heap.size, 0, none⟩) hs2).trans hf2
                have HP6 : Hid (PO (W2.heap.size + 1) wr (.slice A (placeN rs k) c) (pruneK ss rs k) xs nvs) := HP.out.keep HB6.out
                have HR6 : Hid (wr.ownsRow (W2.heap.size + 1) 77 8 (.slice A (placeN rs k) c) (placeN rs k) xs) := by
                  have := HP6.out.row
                  rwa [HLT.out] at this
                have HMN : Hid (mapNext (placeI rs) ss[k] = ⟨ss[k].kind, ss[k].dst, ss[k].op, ss[k].av, ss[k].an, ss[k].bv, ss[k].bn, ss[k].next.map (placeI rs)⟩) := rfl
                go_wp2_with (at_builtin; refine wpList_append_own _ rfl (.tmp 80) (.tmp 82) 28 rfl (W2.heap.size + 1) 77 i1 (.agg #[.int .i64 0, .int .i64 0, .int .i64 0, .int .i64 0, .int .i64 0, .int .i64 0, .int .i64 0, .slice none 0 0]) 8 80 Try.underlying28 hj hy0 hy1 hy2 rfl (by decide) (.slice A (placeN rs k) c) (placeN rs k) xs rfl (HR6.out.alloc _) ⟨wr.heap.size, 0, none⟩ 1 1 (cells8 (mapNext (placeI rs) ss[k]) (.slice A6 n6 c6')) rfl rfl (cells8_new wr (mapNext (placeI rs) ss[k]) _ _ rfl) (cells8_one _ _ _ _) (by unfold maxLen; omega) (by omega) (by simp; omega) ?_)
                intro v8 w8 hown8 hgrow8 _
                have hX : ∀ O, Below wr.heap.size wr (wr.alloc O) := fun O => (Below.refl _ _).alloc (Nat.le_refl _) O
                have hb8 : Below (W2.heap.size + 1) wr w8 := ((hX _).mono (by omega)).trans ((Below.refl _ _).grown hgrow8 (by simp; omega) (fun q hq => (HR6.out.lt q hq).1))
                have q8 := (hb8.cell (p := ⟨W2.heap.size, 0, none⟩) (by show W2.heap.size < W2.heap.size + 1; omega)).trans q6
                have f8 := (hb8.frozen (p := ⟨W2.heap.size, 0, none⟩) (by show W2.heap.size < W2.heap.size + 1; omega)).trans f6
                have hPN := (HP6.out.keep (hX _)).snoc (s := mapNext (placeI rs) ss[k]) (hi := W5.heap.size) (fun i q hi hq => by
                  obtain ⟨si, hsi⟩ : ∃ si, (pruneK ss rs k)[i]? = some si := ⟨_, List.getElem?_eq_getElem hi⟩
                  exact ((HP.out.own i si hsi).lt q hq).2) (by have := HLV.out.alloc (.cells #[.int .i64 ss[k].kind, .int .i64 ss[k].dst, .int .i64 ss[k].op, .int .i64 ss[k].av, .int .i64 ss[k].an, .int .i64 ss[k].bv, .int .i64 ss[k].bn, .slice A6 n6 c6'] 77); simpa [mapNext] using this) (by omega) (by omega) hgrow8 (by rw [HLT.out]; exact hown8)
                have HPN : Hid _ := hPN
                have HB8 : Hid (Below W2.heap.size W2 w8) := HB26.out.trans (hb8.mono (by omega))
                have hs8 : W2.heap.size < w8.heap.size := cell_lt q8
                obtain ⟨A8, n8, c8, hv8⟩ := own_is_slice hown8
                subst hv8
                clear hPN hown8 hgrow8 hb8 hX q6 f6 d0 d1 d2 d3 d4 d5 d6 d7 c7 p6
                go_wp2
                go_roundw
                case rel =>
                  have hfin := PO.below HPN.out (a := ⟨W2.heap.size, 0, none⟩) (by show W2.heap.size < W2.heap.size + 1; omega) (.slice A8 n8 c8)
                  rw [← HEQ.out] at hfin
                  exact ⟨k + 1, .slice A8 n8 c8, _, _, by omega, by go_num, HB8.out.setCell (Nat.le_refl _) _, by simp [go_sem, q8], by simp [go_sem, f8], hfin⟩
                case measure => simp [intOf]; omega
        · have hki : ¬ (k : Int) < (ss.length : Int) := by omega
          obtain rfl : k = ss.length := by omega
          go_wp2
          refine bodyPost_ret (v := .agg #[.slice A (placeN rs ss.length) c]) (by simp [results, Try.results80, go_sem, r5]) rfl ?_
          exact HQ.out _ rs xs nvs _ HRS.out ((HP.out.below (by show w.heap.size + 1 < W2.heap.size + 1; omega) _).lower (by omega)) (HBw.out.setCell (by simp) _)
end Go.Proofs.Ytfbmeciolflgnaa
