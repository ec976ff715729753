/- What the model's l2Prune answers. The same, told by a function of places: steps that are written in place. A way turned in place, where no two lists lie in one block. What the model's l2First answers. What the model's FlowTidy answers. What the model's FlowTidy answers, of any program. -/
import Derived.Test.YtljlgffkhocgkaaDoorTidy26
import Derived.Test.YtljlgffkhocgkaaDoorSpecCopy
import Derived.Test.YtljlgffkhocgkaaDoorNiceOwn
import Derived.Test.YtljlgffkhocgkaaDoorProgO
namespace Go.Proofs.YtljlgffkhocgkaaDoor
open Go.RowKit

theorem box_set {w w' : World} {b : Nat} {s : St} {nv u : Value} (hb : Below (b + 1) w w') (h : StepCells w b 0 s nv) : StepCells (w'.setCell ⟨b, 7, none⟩ u) b 0 s u := by
  have rd : ∀ j x, w.cell? ⟨b, j, none⟩ = some x → w'.cell? ⟨b, j, none⟩ = some x := fun j x h => (hb.cell (by show b < b + 1; omega)).trans h
  obtain ⟨d0, d1, d2, d3, d4, d5, d6, d7⟩ := box_zero h
  have d7' := rd 7 _ d7
  exact ⟨by simp [go_sem, rd _ _ d0], by simp [go_sem, rd _ _ d1], by simp [go_sem, rd _ _ d2], by simp [go_sem, rd _ _ d3], by simp [go_sem, rd _ _ d4], by simp [go_sem, rd _ _ d5], by simp [go_sem, rd _ _ d6], by simp [go_sem, d7']⟩

theorem one_newA {w : World} {a : Addr} {x : Value} (h : w.cell? a = some x) : ∀ j u, [x][j]? = some u → w.cell? (a.add j) = some u := by
  intro j u hu
  cases j with
  | zero => simp at hu; subst hu; exact h
  | succ j => simp at hu

set_option maxRecDepth 100000 in
set_option maxHeartbeats 8000000 in
theorem l2Prune_any {Q : Ending → World → Prop} (v : Value) (ss : List St) (w : World) (h : StepsAt w v ss) (hok : okB ss = true)
    (hQ : ∀ v' rs xs nvs w', IsReach ss rs → PO w.heap.size w' v' (pruneK ss rs ss.length) xs nvs → Below w.heap.size w w' → Q (.returned (.agg #[v'])) w') :
    Calls Tryd.prog 91 #[.agg #[v]] w Q := by
  have HQ : Hid _ := hQ
  clear hQ
  obtain ⟨hn1, hn2⟩ := ok_len hok
  have HOK : Hid (okB ss = true) := hok
  obtain ⟨ao, b, o, cap, rfl, ha, hc⟩ := id h
  obtain rfl := ha (by omega)
  have HC : Hid _ := hc
  have HH : Hid (StepsAt w (.slice (some ⟨b, o, none⟩) ss.length cap) ss) := h
  clear ha hc h hok
  obtain ⟨i0, hi, hz0, hz1, hz2⟩ := info_parts infoInt2
  obtain ⟨i1, hj, hy0, hy1, hy2⟩ := info_parts infoStep1
  go_enter Tryd.func91, Tryd.ntmps91
  go_wp2_with fail
  have hb0 : ∀ O O', Below w.heap.size w ((w.alloc O).alloc O') := fun O O' => ((Below.refl _ _).alloc (Nat.le_refl _) O).alloc (by simp) O'
  refine specReach_yes _ ss _ (HH.out.keep (hb0 _ _)) HOK.out fun v1 rs w1 hb1 hrs hown1 => ?_
  have hbA : Below w.heap.size w w1 := (hb0 _ _).trans (hb1.mono (by simp; omega))
  have q1 : w1.cell? ⟨w.heap.size, 0, none⟩ = some (.slice (some ⟨b, o, none⟩) ss.length cap) := cell_keep hb1 (by simp [go_sem])
  have r1 : w1.cell? ⟨w.heap.size + 1, 0, none⟩ = some (.slice none 0 0) := cell_keep hb1 (by simp [go_sem])
  have rf1 : w1.frozen? ⟨w.heap.size + 1, 0, none⟩ = false := (hb1.frozen (by simp)).trans (by simp [go_sem])
  have HRS : Hid (IsReach ss rs) := hrs
  have hrl := hrs.1
  obtain ⟨g, cap1, rfl, hg1, hg2, _, hg3, _⟩ := own_slice1 hown1 (by omega)
  have HG : Hid (∀ i, i < ss.length → w1.cell? ⟨g, i, none⟩ = (rs.map Value.bool)[i]?) := hg3
  have HB1 : Hid (Below w.heap.size w w1) := hbA
  have hs1 : w.heap.size + 1 < w1.heap.size := cell_lt r1
  clear hb1 hb0 hrs hown1 hg3 hbA
  go_wp2
  have HE1 : Hid ((w1.alloc (.cells #[] 3)).ownsRow w1.heap.size 3 1 (.slice (some ⟨w1.heap.size, 0, none⟩) 0 0) 0 []) := World.ownsRow_lit _ #[] 0 (Nat.le_refl _) (by decide) (by simp)
  have HBE : Hid (Below w1.heap.size w1 (w1.alloc (.cells #[] 3))) := (Below.refl _ _).alloc (Nat.le_refl _) _
  go_loopw [4, 5, 6] (fun pv n i wr => ∃ k : Nat, k ≤ ss.length ∧ i = .int .i64 k ∧ n = .int .i64 (placeN rs k : Int) ∧ Below w1.heap.size w1 wr ∧ w1.heap.size < wr.heap.size ∧ wr.ownsRow w1.heap.size 3 1 pv k ((List.range k).map (fun i => Value.int .i64 (placeN rs i : Int)))) (fun _ _ i _ => ss.length - (intOf i).toNat)
  case atStart => exact ⟨0, Nat.zero_le _, rfl, by rw [placeN_zero]; rfl, HBE.out, by simp, HE1.out⟩
  case round =>
    obtain ⟨k, hk, rfl, rfl, hb, hs, hpl⟩ := hrel
    have HB : Hid (Below w1.heap.size w1 wr) := hb
    have HPL : Hid (wr.ownsRow w1.heap.size 3 1 u4 k ((List.range k).map (fun i => Value.int .i64 (placeN rs i : Int)))) := hpl
    have q2 := cell_keep hb q1
    have hple := placeN_le rs k
    by_cases hkl : k < ss.length
    · have hki : (k : Int) < (ss.length : Int) := by omega
      have hkr : k < rs.length := by omega
      have cg0 : w1.cell? ⟨g, k, none⟩ = some (.bool rs[k]) := (HG.out k hkl).trans (by rw [List.getElem?_map, List.getElem?_eq_getElem hkr]; rfl)
      have HSUC : Hid _ := placeN_succ hkr
      have HRG : Hid ((List.range (k + 1)).map (fun i => Value.int .i64 (placeN rs i : Int)) = (List.range k).map (fun i => Value.int .i64 (placeN rs i : Int)) ++ [Value.int .i64 (placeN rs k : Int)]) := by
        rw [Hid, List.range_succ, List.map_append]; rfl
      clear hb hpl
      go_wp2_with (at_builtin; refine wpList_append_own _ rfl (.tmp 21) (.tmp 23) 55 rfl w1.heap.size 3 i0 (.int .i64 0) 1 8 Tryd.underlying55 hi hz0 hz1 hz2 rfl (by decide) u4 k ((List.range k).map (fun i => Value.int .i64 (placeN rs i : Int))) rfl (HPL.out.alloc _) ⟨wr.heap.size, 0, none⟩ 1 1 [.int .i64 (placeN rs k : Int)] rfl rfl (cell_one_new wr _ _) (int_oneCell _ _) (by unfold maxLen; omega) (by omega) (by simp; omega) ?_)
      intro v3 w3 hown3 hgrow3 _
      have hb3 : Below w1.heap.size w1 w3 := (HB.out.alloc (by omega) _).grown hgrow3 (by simp; omega) (fun q hq => (HPL.out.lt q hq).1)
      have hs3 : w1.heap.size < w3.heap.size := Nat.lt_of_lt_of_le hs (Nat.le_trans (by simp) hgrow3.size)
      have cg := cell_keep hb3 cg0
      have HO3 : Hid (w3.ownsRow w1.heap.size 3 1 v3 (k + 1) ((List.range (k + 1)).map (fun i => Value.int .i64 (placeN rs i : Int)))) := by
        have e := HRG.out
        rw [Hid, e]
        exact hown3
      have HB3 : Hid (Below w1.heap.size w1 w3) := hb3
      clear hown3 hgrow3 hb3 cg0 q2
      cases hrv : rs[k]
      · rw [hrv] at cg
        have HEQ : Hid (placeN rs (k + 1) = placeN rs k) := by rw [Hid, HSUC.out, hrv]; simp
        clear hrv
        go_wp2
        go_roundw
        case rel => exact ⟨k + 1, by omega, by go_num, by rw [HEQ.out], HB3.out, hs3, HO3.out⟩
        case measure => simp [intOf]; omega
      · rw [hrv] at cg
        have HEQ : Hid (placeN rs (k + 1) = placeN rs k + 1) := by rw [Hid, HSUC.out, hrv]; simp
        clear hrv
        go_wp2
        go_roundw
        case rel => exact ⟨k + 1, by omega, by go_num, by rw [HEQ.out]; rfl, HB3.out, hs3, HO3.out⟩
        case measure => simp [intOf]; omega
    · have hki : ¬ (k : Int) < (ss.length : Int) := by omega
      obtain rfl : k = ss.length := by omega
      obtain ⟨gp, capp, rfl, hgp1, hgp2, _, hgp3, _⟩ := own_slice1 hpl (by omega)
      have HGP : Hid (∀ i, i < ss.length → wr.cell? ⟨gp, i, none⟩ = some (.int .i64 (placeN rs i : Int))) := fun i hi => (hgp3 i hi).trans (by simp [hi])
      have cgp := HGP
      clear hpl hgp3
      clear hb
      go_wp2
      generalize wr = W2 at *
      have hbD : Below W2.heap.size W2 (W2.alloc (.cells #[.slice none 0 0] 34)) := (Below.refl _ _).alloc (Nat.le_refl _) _
      have HBD : Hid _ := hbD
      have dq : (W2.alloc (.cells #[.slice none 0 0] 34)).cell? ⟨W2.heap.size, 0, none⟩ = some (.slice none 0 0) := by simp [go_sem]
      have df : (W2.alloc (.cells #[.slice none 0 0] 34)).frozen? ⟨W2.heap.size, 0, none⟩ = false := by simp [go_sem]
      have DQ : Hid _ := dq
      have DF : Hid _ := df
      clear hbD dq df
      go_loopw [8] (fun i wr => ∃ (k : Nat) (ov : Value) (xs : List Value) (nvs : Nat → Value), k ≤ ss.length ∧ i = .int .i64 k ∧ Below W2.heap.size W2 wr ∧ wr.cell? ⟨W2.heap.size, 0, none⟩ = some ov ∧ wr.frozen? ⟨W2.heap.size, 0, none⟩ = false ∧ PO (W2.heap.size + 1) wr ov (pruneK ss rs k) xs nvs) (fun i _ => ss.length - (intOf i).toNat)
      case atStart => exact ⟨0, _, [], fun _ => .slice none 0 0, Nat.zero_le _, rfl, HBD.out, DQ.out, DF.out, by simpa [pruneK] using PO.nil _ _ _⟩
      case round =>
        obtain ⟨k, ov, xs, nvs, hk, rfl, hb, hq2, hf2, hP⟩ := hrel
        have HB5 : Hid (Below W2.heap.size W2 wr) := hb
        have HP : Hid (PO (W2.heap.size + 1) wr ov (pruneK ss rs k) xs nvs) := hP
        have hlt := pruneK_len hrl hk
        have hple := placeN_le rs k
        obtain ⟨A, c, hov, _⟩ := hP.slice
        rw [hlt] at hov
        subst hov
        have HLT : Hid ((pruneK ss rs k).length = placeN rs k) := hlt
        have p0 := cell_keep hb q2
        have HB1r : Hid (Below w1.heap.size w1 wr) := HB.out.trans (hb.mono HB.out.size)
        have HBw : Hid (Below w.heap.size w wr) := HB1.out.trans (HB1r.out.mono (by omega))
        have r5 := cell_keep HB1r.out r1
        have rf5 := (HB1r.out.frozen (p := ⟨w.heap.size + 1, 0, none⟩) hs1).trans rf1
        have hs2 : W2.heap.size < wr.heap.size := cell_lt hq2
        clear hb hP hlt
        by_cases hkl : k < ss.length
        · have hki : (k : Int) < (ss.length : Int) := by omega
          have hkr : k < rs.length := by omega
          have cg : wr.cell? ⟨g, k, none⟩ = some (.bool rs[k]) := cell_keep HB1r.out ((HG.out k hkl).trans (by rw [List.getElem?_map, List.getElem?_eq_getElem hkr]; rfl))
          have HSUC : Hid _ := pruneK_succ (ss := ss) hkl hkr
          cases hrv : rs[k]
          · rw [hrv] at cg
            have HEQ : Hid (pruneK ss rs (k + 1) = pruneK ss rs k) := by rw [Hid, HSUC.out, hrv]; simp
            clear hrv
            go_wp2
            go_roundw
            case rel => exact ⟨k + 1, _, xs, nvs, by omega, by go_num, HB5.out, hq2, hf2, by rw [HEQ.out]; exact HP.out⟩
            case measure => simp [intOf]; omega
          · rw [hrv] at cg
            have HEQ : Hid (pruneK ss rs (k + 1) = pruneK ss rs k ++ [mapNext (placeI rs) ss[k]]) := by rw [Hid, HSUC.out, hrv]; simp
            obtain ⟨nu, cu, iu⟩ := HC.out k ss[k] (by simp [hkl])
            obtain ⟨nao, nb, no, ncap, rfl, hna, hnc⟩ := id iu
            obtain ⟨c0, c1, c2, c3, c4, c5, c6, c7⟩ := cu.keep HBw.out
            have C7 : Hid _ := cu.c7
            have HNA : Hid _ := hna
            have HNC : Hid _ := hnc
            obtain ⟨h2, hnx⟩ := (ok_fit HOK.out).2 k ss[k] (by simp [hkl])
            have HNX : Hid _ := hnx
            clear cu iu hna hnc hnx hrv
            go_wp2
            have hbS : Below wr.heap.size wr ((wr.alloc (.cells #[.int .i64 ss[k].kind, .int .i64 ss[k].dst, .int .i64 ss[k].op, .int .i64 ss[k].av, .int .i64 ss[k].an, .int .i64 ss[k].bv, .int .i64 ss[k].bn, .slice (some ⟨wr.heap.size + 1, 0, none⟩) 0 0] 62)).alloc (.cells #[] 3)) := ((Below.refl _ _).alloc (Nat.le_refl _) _).alloc (by simp) _
            have HBS : Hid _ := hbS
            have HSC : Hid (StepCells ((wr.alloc (.cells #[.int .i64 ss[k].kind, .int .i64 ss[k].dst, .int .i64 ss[k].op, .int .i64 ss[k].av, .int .i64 ss[k].an, .int .i64 ss[k].bv, .int .i64 ss[k].bn, .slice (some ⟨wr.heap.size + 1, 0, none⟩) 0 0] 62)).alloc (.cells #[] 3)) wr.heap.size 0 ss[k] (.slice (some ⟨wr.heap.size + 1, 0, none⟩) 0 0)) := box_keep (Below.refl _ _)
            have HFZ : Hid (∀ j, ((wr.alloc (.cells #[.int .i64 ss[k].kind, .int .i64 ss[k].dst, .int .i64 ss[k].op, .int .i64 ss[k].av, .int .i64 ss[k].an, .int .i64 ss[k].bv, .int .i64 ss[k].bn, .slice (some ⟨wr.heap.size + 1, 0, none⟩) 0 0] 62)).alloc (.cells #[] 3)).frozen? ⟨wr.heap.size, j, none⟩ = false) := fun j => by simp [go_sem]
            have HLS : Hid (((wr.alloc (.cells #[.int .i64 ss[k].kind, .int .i64 ss[k].dst, .int .i64 ss[k].op, .int .i64 ss[k].av, .int .i64 ss[k].an, .int .i64 ss[k].bv, .int .i64 ss[k].bn, .slice (some ⟨wr.heap.size + 1, 0, none⟩) 0 0] 62)).alloc (.cells #[] 3)).ownsRow (wr.heap.size + 1) 3 1 (.slice (some ⟨wr.heap.size + 1, 0, none⟩) 0 0) 0 []) := by
              have h0 := World.ownsRow_lit (base := wr.heap.size + 1) (e := 3) (size := 1) (wr.alloc (.cells #[.int .i64 ss[k].kind, .int .i64 ss[k].dst, .int .i64 ss[k].op, .int .i64 ss[k].av, .int .i64 ss[k].an, .int .i64 ss[k].bv, .int .i64 ss[k].bn, .slice (some ⟨wr.heap.size + 1, 0, none⟩) 0 0] 62)) #[] 0 (by simp) (by decide) (by simp)
              simpa [Hid] using h0
            clear hbS c0 c1 c2 c3 c4 c5 c6 c7 cg p0
            generalize wr = W5 at *
            go_loopw [10] (fun i wr => ∃ (t : Nat) (lv : Value), t ≤ ss[k].next.length ∧ i = .int .i64 t ∧ Below W5.heap.size W5 wr ∧ StepCells wr W5.heap.size 0 ss[k] lv ∧ (∀ j, wr.frozen? ⟨W5.heap.size, j, none⟩ = false) ∧ wr.ownsRow (W5.heap.size + 1) 3 1 lv t (((ss[k].next.take t).map (placeI rs)).map (Value.int .i64))) (fun i _ => ss[k].next.length - (intOf i).toNat)
            case atStart => exact ⟨0, _, Nat.zero_le _, rfl, HBS.out, HSC.out, HFZ.out, by simpa using HLS.out⟩
            case round =>
              obtain ⟨t, lv, ht, rfl, hb, hsc, hfz, hlv⟩ := hrel
              have HB6 : Hid (Below W5.heap.size W5 wr) := hb
              have HSC6 : Hid (StepCells wr W5.heap.size 0 ss[k] lv) := hsc
              have HLV : Hid (wr.ownsRow (W5.heap.size + 1) 3 1 lv t (((ss[k].next.take t).map (placeI rs)).map (Value.int .i64))) := hlv
              have HFZ6 : Hid (∀ j, wr.frozen? ⟨W5.heap.size, j, none⟩ = false) := hfz
              have HBw6 : Hid (Below w.heap.size w wr) := HBw.out.trans (hb.mono HBw.out.size)
              have HB26 : Hid (Below W2.heap.size W2 wr) := HB5.out.trans (hb.mono (by omega))
              have p6 := cell_keep HB26.out q2
              have c7 := cell_keep HBw6.out C7.out
              have hs6 : W5.heap.size < wr.heap.size := cell_lt hsc.c0
              obtain ⟨d0, d1, d2, d3, d4, d5, d6, d7⟩ := box_zero hsc
              obtain ⟨A6, n6, c6', hlv6⟩ := own_is_slice hlv
              subst hlv6
              clear hb hsc hlv hfz
              by_cases htl : t < ss[k].next.length
              · have hti : (t : Int) < (ss[k].next.length : Int) := by omega
                obtain rfl := HNA.out (by omega)
                obtain ⟨m, hm, hmn, _⟩ := HNX.out t htl
                have cx := cell_keep HBw6.out (HNC.out t htl)
                rw [hm] at cx
                have hmi : (m : Int) < (ss.length : Int) := by omega
                have cp := cell_keep HB26.out (HGP.out m hmn)
                have HTK : Hid (((ss[k].next.take (t + 1)).map (placeI rs)).map (Value.int .i64) = ((ss[k].next.take t).map (placeI rs)).map (Value.int .i64) ++ [.int .i64 (placeN rs m : Int)]) := by
                  rw [Hid, take_map_succ htl, List.map_append, hm]
                  simp [placeI]
                have hfz7 := HFZ6.out 7
                have HAB : Hid (∀ O, Below wr.heap.size wr (wr.alloc O).drew) := fun O => ((Below.refl _ _).alloc (Nat.le_refl _) O).drew
                have HA7 : Hid (∀ O, (wr.alloc O).drew.cell? ⟨W5.heap.size, 7, none⟩ = some (.slice A6 n6 c6')) := fun O => cell_keep (HAB.out O) d7
                have HF7 : Hid (∀ O, (wr.alloc O).drew.frozen? ⟨W5.heap.size, 7, none⟩ = false) := fun O => ((HAB.out O).frozen hs6).trans hfz7
                have HS7 : Hid (∀ O, W5.heap.size < (wr.alloc O).drew.heap.size) := fun O => Nat.lt_of_lt_of_le hs6 (HAB.out O).size
                have HR7 : Hid (some W5.heap.size ≠ (Value.slice A6 n6 c6').ownBlock) := fun e => by have h9 := (HLV.out.lt _ e.symm).1; omega
                clear hm d0 d1 d2 d3 d4 d5 d6
                go_wp2_with fail
                go_region_law (first | (refine step_append_own rfl (.tmp 63) (.tmp 76) 55 rfl (W5.heap.size + 1) 3 i0 (.int .i64 0) 1 8 Tryd.underlying55 hi hz0 hz1 hz2 rfl (by decide) (.slice A6 n6 c6') t (((ss[k].next.take t).map (placeI rs)).map (Value.int .i64)) (by simp [Act.eval]) (HLV.out.alloc _) ⟨wr.heap.size, 0, none⟩ 1 1 [.int .i64 (placeN rs m : Int)] (by simp [Act.eval]) rfl (one_newA (by simp [go_sem])) (int_oneCell _ _) (by unfold maxLen; omega) (by omega) (by simp; omega) ?_; intro v7 w7 hown7 hgrow7; have d77 := hgrow7.cell (HA7.out _) HR7.out; have f77 := (hgrow7.frozen_far ⟨W5.heap.size, 7, none⟩ (HS7.out _) HR7.out).trans (HF7.out _); obtain ⟨A7, n7, c7', hv7⟩ := own_is_slice hown7; subst hv7))
                all_goals
                  have hb7 : Below (W5.heap.size + 1) wr w7 := ((HAB.out _).mono (by omega)).trans ((Below.refl _ _).grown hgrow7 (HS7.out _) (fun q hq => (HLV.out.lt q hq).1))
                  have hB7 : Hid (Below W5.heap.size W5 (w7.setCell ⟨W5.heap.size, 7, none⟩ (.slice A7 n7 c7'))) := (HB6.out.trans (hb7.mono (by omega))).setCell (Nat.le_refl _) _
                  have HSC7 : Hid (StepCells (w7.setCell ⟨W5.heap.size, 7, none⟩ (.slice A7 n7 c7')) W5.heap.size 0 ss[k] (.slice A7 n7 c7')) := box_set hb7 HSC6.out
                  have HFZ7 : Hid (∀ j, (w7.setCell ⟨W5.heap.size, 7, none⟩ (.slice A7 n7 c7')).frozen? ⟨W5.heap.size, j, none⟩ = false) := fun j => by
                    have h1 := (hb7.frozen (p := ⟨W5.heap.size, j, none⟩) (by show W5.heap.size < W5.heap.size + 1; omega)).trans (HFZ6.out j)
                    simpa [go_sem] using h1
                  have HLV7 : Hid ((w7.setCell ⟨W5.heap.size, 7, none⟩ (.slice A7 n7 c7')).ownsRow (W5.heap.size + 1) 3 1 (.slice A7 n7 c7') (t + 1) (((ss[k].next.take (t + 1)).map (placeI rs)).map (Value.int .i64))) := by
                    rw [Hid, HTK.out]
                    exact ownsRow_setCell_below hown7 (by show W5.heap.size < W5.heap.size + 1; omega) _
                  clear hb7 hown7 hgrow7 d77 f77
                  go_wp2
                  go_roundw
                  case rel => exact ⟨t + 1, _, by omega, by go_num, hB7.out, HSC7.out, HFZ7.out, HLV7.out⟩
                  case measure => simp [intOf]; omega
              · have hti : ¬ (t : Int) < (ss[k].next.length : Int) := by omega
                obtain rfl : t = ss[k].next.length := by omega
                rw [List.take_of_length_le (Nat.le_refl _)] at HLV
                have q6 := cell_keep HB6.out hq2
                have f6 := (HB6.out.frozen (p := ⟨W2.heap.size, 0, none⟩) hs2).trans hf2
                have HP6 : Hid (PO (W2.heap.size + 1) wr (.slice A (placeN rs k) c) (pruneK ss rs k) xs nvs) := HP.out.keep HB6.out
                have HR6 : Hid (wr.ownsRow (W2.heap.size + 1) 62 8 (.slice A (placeN rs k) c) (placeN rs k) xs) := by
                  have := HP6.out.row
                  rwa [HLT.out] at this
                have HMN : Hid (mapNext (placeI rs) ss[k] = ⟨ss[k].kind, ss[k].dst, ss[k].op, ss[k].av, ss[k].an, ss[k].bv, ss[k].bn, ss[k].next.map (placeI rs)⟩) := rfl
                go_wp2_with (at_builtin; refine wpList_append_own _ rfl (.tmp 80) (.tmp 82) 32 rfl (W2.heap.size + 1) 62 i1 (.agg #[.int .i64 0, .int .i64 0, .int .i64 0, .int .i64 0, .int .i64 0, .int .i64 0, .int .i64 0, .slice none 0 0]) 8 80 Tryd.underlying32 hj hy0 hy1 hy2 rfl (by decide) (.slice A (placeN rs k) c) (placeN rs k) xs rfl (HR6.out.alloc _) ⟨wr.heap.size, 0, none⟩ 1 1 (cells8 (mapNext (placeI rs) ss[k]) (.slice A6 n6 c6')) rfl rfl (cells8_new wr (mapNext (placeI rs) ss[k]) _ _ rfl) (cells8_one _ _ _ _) (by unfold maxLen; omega) (by omega) (by simp; omega) ?_)
                intro v8 w8 hown8 hgrow8 _
                have hX : ∀ O, Below wr.heap.size wr (wr.alloc O) := fun O => (Below.refl _ _).alloc (Nat.le_refl _) O
                have hb8 : Below (W2.heap.size + 1) wr w8 := ((hX _).mono (by omega)).trans ((Below.refl _ _).grown hgrow8 (by simp; omega) (fun q hq => (HR6.out.lt q hq).1))
                have q8 := (hb8.cell (p := ⟨W2.heap.size, 0, none⟩) (by show W2.heap.size < W2.heap.size + 1; omega)).trans q6
                have f8 := (hb8.frozen (p := ⟨W2.heap.size, 0, none⟩) (by show W2.heap.size < W2.heap.size + 1; omega)).trans f6
                have hPN := (HP6.out.keep (hX _)).snoc (s := mapNext (placeI rs) ss[k]) (hi := W5.heap.size) (fun i q hi hq => by
                  obtain ⟨si, hsi⟩ : ∃ si, (pruneK ss rs k)[i]? = some si := ⟨_, List.getElem?_eq_getElem hi⟩
                  exact ((HP.out.own i si hsi).lt q hq).2) (by have := HLV.out.alloc (.cells #[.int .i64 ss[k].kind, .int .i64 ss[k].dst, .int .i64 ss[k].op, .int .i64 ss[k].av, .int .i64 ss[k].an, .int .i64 ss[k].bv, .int .i64 ss[k].bn, .slice A6 n6 c6'] 62); simpa [mapNext] using this) (by omega) (by omega) hgrow8 (by rw [HLT.out]; exact hown8)
                have HPN : Hid _ := hPN
                have HB8 : Hid (Below W2.heap.size W2 w8) := HB26.out.trans (hb8.mono (by omega))
                have hs8 : W2.heap.size < w8.heap.size := cell_lt q8
                obtain ⟨A8, n8, c8, hv8⟩ := own_is_slice hown8
                subst hv8
                clear hPN hown8 hgrow8 hb8 hX q6 f6 d0 d1 d2 d3 d4 d5 d6 d7 c7 p6
                go_wp2
                go_roundw
                case rel =>
                  have hfin := PO.below HPN.out (a := ⟨W2.heap.size, 0, none⟩) (by show W2.heap.size < W2.heap.size + 1; omega) (.slice A8 n8 c8)
                  rw [← HEQ.out] at hfin
                  exact ⟨k + 1, .slice A8 n8 c8, _, _, by omega, by go_num, HB8.out.setCell (Nat.le_refl _) _, by simp [go_sem, q8], by simp [go_sem, f8], hfin⟩
                case measure => simp [intOf]; omega
        · have hki : ¬ (k : Int) < (ss.length : Int) := by omega
          obtain rfl : k = ss.length := by omega
          go_wp2
          refine bodyPost_ret (v := .agg #[.slice A (placeN rs ss.length) c]) (by simp [results, Tryd.results91, go_sem, r5]) rfl ?_
          exact HQ.out _ rs xs nvs _ HRS.out ((HP.out.below (by show w.heap.size + 1 < W2.heap.size + 1; omega) _).lower (by omega)) (HBw.out.setCell (by simp) _)
end Go.Proofs.YtljlgffkhocgkaaDoor
namespace Go.Proofs.YtljlgffkhocgkaaDoor
open Go.RowKit

structure PF (lo : Nat) (w : World) (v : Value) (N : Nat) (F : Nat → St) (xs : List Value) (nvs : Nat → Value) : Prop where
  row : w.ownsRow lo 62 8 v N xs
  cells : ∀ i, i < N → StepX xs (i * 8) (F i) (nvs i)
  own : ∀ i, i < N → w.ownsRow lo 3 1 (nvs i) (F i).next.length ((F i).next.map (Value.int .i64))

/-- No two of the first m lists lie in one block. -/
def Apart (nvs : Nat → Value) (m : Nat) : Prop := ∀ i j k, i < m → j < m → i ≠ j → (nvs i).ownBlock = some k → (nvs j).ownBlock ≠ some k

theorem PF.keep {lo N : Nat} {w w' : World} {v : Value} {F : Nat → St} {xs : List Value} {nvs : Nat → Value} (h : PF lo w v N F xs nvs) (hb : Below w.heap.size w w') : PF lo w' v N F xs nvs :=
  ⟨ownsRow_out h.row (Out.of_below (lo := 0) (hi := 0) hb) (fun _ _ => Or.inr (Nat.zero_le _)), h.cells, fun i hi => ownsRow_out (h.own i hi) (Out.of_below (lo := 0) (hi := 0) hb) (fun _ _ => Or.inr (Nat.zero_le _))⟩

theorem PF.below {lo N : Nat} {w : World} {v : Value} {F : Nat → St} {xs : List Value} {nvs : Nat → Value} (h : PF lo w v N F xs nvs) {a : Addr} (ha : a.block < lo) (u : Value) : PF lo (w.setCell a u) v N F xs nvs :=
  ⟨ownsRow_setCell_below h.row ha u, h.cells, fun i hi => ownsRow_setCell_below (h.own i hi) ha u⟩

/-- A store into a block that is none of its own. -/
theorem PF.other {lo N : Nat} {w : World} {v : Value} {F : Nat → St} {xs : List Value} {nvs : Nat → Value} (h : PF lo w v N F xs nvs) {a : Addr} (hv : v.ownBlock ≠ some a.block) (hn : ∀ i, i < N → (nvs i).ownBlock ≠ some a.block) (u : Value) : PF lo (w.setCell a u) v N F xs nvs :=
  ⟨ownsRow_setCell_other h.row hv u, h.cells, fun i hi => ownsRow_setCell_other (h.own i hi) (hn i hi) u⟩

theorem PF.congr {lo N : Nat} {w : World} {v : Value} {F G : Nat → St} {xs : List Value} {nvs : Nat → Value} (h : PF lo w v N F xs nvs) (e : ∀ i, i < N → G i = F i) : PF lo w v N G xs nvs :=
  ⟨h.row, fun i hi => by rw [e i hi]; exact h.cells i hi, fun i hi => by rw [e i hi]; exact h.own i hi⟩

theorem PF.lower {lo lo' N : Nat} {w : World} {v : Value} {F : Nat → St} {xs : List Value} {nvs : Nat → Value} (h : PF lo w v N F xs nvs) (hl : lo' ≤ lo) : PF lo' w v N F xs nvs :=
  ⟨own_lower h.row hl, h.cells, fun i hi => own_lower (h.own i hi) hl⟩

theorem PF.po {lo N : Nat} {w : World} {v : Value} {F : Nat → St} {xs : List Value} {nvs : Nat → Value} (h : PF lo w v N F xs nvs) (ha : Apart nvs N) : PO lo w v ((List.range N).map F) xs nvs := by
  have hg : ∀ (i : Nat) (s : St), ((List.range N).map F)[i]? = some s → i < N ∧ s = F i := by
    intro i s hs
    have l := (List.getElem?_eq_some_iff.1 hs).1
    simp at l
    simp [l] at hs
    exact ⟨l, hs.symm⟩
  refine ⟨by simpa using h.row, fun i s hs => ?_, fun i s hs => ?_, by simpa [Apart] using ha⟩
  · obtain ⟨l, rfl⟩ := hg i s hs
    exact h.cells i l
  · obtain ⟨l, rfl⟩ := hg i s hs
    exact h.own i l

theorem PO.pf {lo : Nat} {w : World} {v : Value} {ss : List St} {xs : List Value} {nvs : Nat → Value} (h : PO lo w v ss xs nvs) (d : St) : PF lo w v ss.length (fun i => ss.getD i d) xs nvs := by
  have hg : ∀ i, i < ss.length → ss[i]? = some (ss.getD i d) := fun i hi => by simp [List.getD, hi]
  exact ⟨h.row, fun i hi => h.cells i _ (hg i hi), fun i hi => h.own i _ (hg i hi)⟩

theorem PF.at {lo N : Nat} {w : World} {v : Value} {F : Nat → St} {xs : List Value} {nvs : Nat → Value} (h : PF lo w v N F xs nvs) : ∃ A c, v = .slice A N c ∧ ∀ i, i < N → ∃ g, A = some ⟨g, 0, none⟩ ∧ lo ≤ g ∧ g < w.heap.size ∧ StepCells w g (i * 8) (F i) (nvs i) ∧ ∀ j, w.frozen? ⟨g, j, none⟩ = false := by
  rcases id h.row.2 with ⟨e, e2⟩ | ⟨g, cap, cur, e, _⟩
  · exact ⟨none, 0, by rw [e2]; exact e, fun i hi => by omega⟩
  · refine ⟨_, cap, e, fun i hi => ⟨g, rfl, (h.row.lt g (by rw [e]; rfl)).1, (h.row.lt g (by rw [e]; rfl)).2, ?_, ?_⟩⟩
    · have hrow := h.row
      rw [e] at hrow
      obtain ⟨c0, c1, c2, c3, c4, c5, c6, c7⟩ := (h.cells i hi).cells
      have rd : ∀ j, j < 8 → w.cell? ⟨g, i * 8 + j, none⟩ = xs[i * 8 + j]? := fun j hj => hrow.cellAt _ (by omega)
      exact ⟨(rd 0 (by omega)).trans c0, (rd 1 (by omega)).trans c1, (rd 2 (by omega)).trans c2, (rd 3 (by omega)).trans c3, (rd 4 (by omega)).trans c4, (rd 5 (by omega)).trans c5, (rd 6 (by omega)).trans c6, (rd 7 (by omega)).trans c7⟩
    · have hrow := h.row
      rw [e] at hrow
      exact hrow.frozenAt

/-- One list of one step in another one's place. -/
theorem PF.putNext {lo N i g c : Nat} {w : World} {F : Nat → St} {xs : List Value} {nvs : Nat → Value} {nv : Value} {zs : List Int} (h : PF lo w (.slice (some ⟨g, 0, none⟩) N c) N F xs nvs) (hi : i < N) (hn : w.ownsRow lo 3 1 nv zs.length (zs.map (Value.int .i64))) :
    PF lo (w.setCell ⟨g, i * 8 + 7, none⟩ nv) (.slice (some ⟨g, 0, none⟩) N c) N (fun j => if j = i then { F i with next := zs } else F j) (xs.set (i * 8 + 7) nv) (fun j => if j = i then nv else nvs j) := by
  obtain ⟨s1, s2⟩ := h.row.stored (i * 8 + 7) nv
  have kept : ∀ {b : Nat} {y : Value} {n : Nat} {ys : List Value}, w.ownsRow b 3 1 y n ys → (w.setCell ⟨g, i * 8 + 7, none⟩ nv).ownsRow b 3 1 y n ys := by
    intro b y n ys hy
    refine hy.kept s2 ?_
    rcases own_diff hy h.row (by decide) with e | e
    · exact Or.inl e
    · exact Or.inr e
  have hlen : xs.length = N * 8 := h.row.1
  refine ⟨s1, fun j hj => ?_, fun j hj => ?_⟩
  · by_cases e : j = i
    · subst e
      rw [if_pos rfl, if_pos rfl]
      intro q u hu
      have hq : q < 8 := by have := (List.getElem?_eq_some_iff.1 hu).1; simpa [cells8] using this
      by_cases e7 : q = 7
      · subst e7
        simp [cells8] at hu
        subst hu
        rw [List.getElem?_set_self (by omega)]
      · rw [List.getElem?_set_ne (by omega)]
        refine h.cells j hj q u ?_
        rw [← hu]
        rcases (by omega : q = 0 ∨ q = 1 ∨ q = 2 ∨ q = 3 ∨ q = 4 ∨ q = 5 ∨ q = 6) with rfl | rfl | rfl | rfl | rfl | rfl | rfl <;> rfl
    · rw [if_neg e, if_neg e]
      intro q u hu
      have hq : q < 8 := by have := (List.getElem?_eq_some_iff.1 hu).1; simpa [cells8] using this
      rw [List.getElem?_set_ne (by omega)]
      exact h.cells j hj q u hu
  · by_cases e : j = i
    · subst e
      rw [if_pos rfl, if_pos rfl]
      exact kept hn
    · rw [if_neg e, if_neg e]
      exact kept (h.own j hj)

/-- Eight cells stored, one behind the other. -/
def set8 (w : World) (g o : Nat) (s : St) (nv : Value) : World := (((((((w.setCell ⟨g, o, none⟩ (.int .i64 s.kind)).setCell ⟨g, o + 1, none⟩ (.int .i64 s.dst)).setCell ⟨g, o + 2, none⟩ (.int .i64 s.op)).setCell ⟨g, o + 3, none⟩ (.int .i64 s.av)).setCell ⟨g, o + 4, none⟩ (.int .i64 s.an)).setCell ⟨g, o + 5, none⟩ (.int .i64 s.bv)).setCell ⟨g, o + 6, none⟩ (.int .i64 s.bn)).setCell ⟨g, o + 7, none⟩ nv

theorem set8_below {B : Nat} {a w : World} {g o : Nat} {s : St} {nv : Value} (h : Below B a w) (hg : B ≤ g) : Below B a (set8 w g o s nv) :=
  (((((((h.setCell hg _).setCell hg _).setCell hg _).setCell hg _).setCell hg _).setCell hg _).setCell hg _).setCell hg _

theorem set8_size (w : World) (g o : Nat) (s : St) (nv : Value) : (set8 w g o s nv).heap.size = w.heap.size := by simp [set8, World.setCell]

theorem set8_block (w : World) (g o : Nat) (s : St) (nv : Value) (k : Nat) (h : k ≠ g) : (set8 w g o s nv).heap[k]? = w.heap[k]? := by
  unfold set8
  rw [Below.heap_setCell _ _ _ _ h, Below.heap_setCell _ _ _ _ h, Below.heap_setCell _ _ _ _ h, Below.heap_setCell _ _ _ _ h, Below.heap_setCell _ _ _ _ h, Below.heap_setCell _ _ _ _ h, Below.heap_setCell _ _ _ _ h, Below.heap_setCell _ _ _ _ h]

/-- One step in another one's place, its list in a block that is laid behind. -/
theorem PF.putStep {lo N i g c : Nat} {w : World} {F : Nat → St} {xs : List Value} {nvs : Nat → Value} {nv : Value} {s : St} {O : Obj} {o : Nat} (ho : i * 8 = o) (h : PF lo w (.slice (some ⟨g, 0, none⟩) N c) N F xs nvs) (hi : i < N) (hn : ((set8 w g o s nv).alloc O).ownsRow lo 3 1 nv s.next.length (s.next.map (Value.int .i64))) :
    ∃ ys, PF lo ((set8 w g o s nv).alloc O) (.slice (some ⟨g, 0, none⟩) N c) N (fun j => if j = i then s else F j) ys (fun j => if j = i then nv else nvs j) := by
  subst ho
  have kept : ∀ {w : World} {xs : List Value} {b q : Nat} {y u : Value} {n : Nat} {ys : List Value}, w.ownsRow lo 62 8 (.slice (some ⟨g, 0, none⟩) N c) N xs → w.ownsRow b 3 1 y n ys → (w.setCell ⟨g, q, none⟩ u).ownsRow b 3 1 y n ys := by
    intro w xs b q y u n ys hr hy
    refine hy.kept (hr.stored q u).2 ?_
    rcases own_diff hy hr (by decide) with e | e
    · exact Or.inl e
    · exact Or.inr e
  have hlen : xs.length = N * 8 := h.row.1
  have r0 := h.row
  have r1 := (r0.stored (i * 8) (.int .i64 s.kind)).1
  have r2 := (r1.stored (i * 8 + 1) (.int .i64 s.dst)).1
  have r3 := (r2.stored (i * 8 + 2) (.int .i64 s.op)).1
  have r4 := (r3.stored (i * 8 + 3) (.int .i64 s.av)).1
  have r5 := (r4.stored (i * 8 + 4) (.int .i64 s.an)).1
  have r6 := (r5.stored (i * 8 + 5) (.int .i64 s.bv)).1
  have r7 := (r6.stored (i * 8 + 6) (.int .i64 s.bn)).1
  have r8 := (r7.stored (i * 8 + 7) nv).1
  refine ⟨_, World.ownsRow.alloc r8 O, fun j hj => ?_, fun j hj => ?_⟩
  · by_cases e : j = i
    · subst e
      rw [if_pos rfl, if_pos rfl]
      intro q u hu
      have hq : q < 8 := by have := (List.getElem?_eq_some_iff.1 hu).1; simpa [cells8] using this
      rcases (by omega : q = 0 ∨ q = 1 ∨ q = 2 ∨ q = 3 ∨ q = 4 ∨ q = 5 ∨ q = 6 ∨ q = 7) with rfl | rfl | rfl | rfl | rfl | rfl | rfl | rfl <;> (simp [cells8] at hu; subst hu; simp [List.getElem?_set, hlen]; omega)
    · rw [if_neg e, if_neg e]
      intro q u hu
      have hq : q < 8 := by have := (List.getElem?_eq_some_iff.1 hu).1; simpa [cells8] using this
      rw [List.getElem?_set_ne (by omega), List.getElem?_set_ne (by omega), List.getElem?_set_ne (by omega), List.getElem?_set_ne (by omega), List.getElem?_set_ne (by omega), List.getElem?_set_ne (by omega), List.getElem?_set_ne (by omega), List.getElem?_set_ne (by omega)]
      exact h.cells j hj q u hu
  · by_cases e : j = i
    · subst e
      rw [if_pos rfl, if_pos rfl]
      exact hn
    · rw [if_neg e, if_neg e]
      exact (kept r7 (kept r6 (kept r5 (kept r4 (kept r3 (kept r2 (kept r1 (kept r0 (h.own j hj)))))))) : (set8 w g (i * 8) s nv).ownsRow _ _ _ _ _ _).alloc O

/-- One step more at the end. -/
theorem PF.snoc {lo N : Nat} {W w' : World} {v v' nv : Value} {F : Nat → St} {s : St} {xs : List Value} {nvs : Nat → Value} (h : PF lo W v N F xs nvs)
    (hx : W.ownsRow lo 3 1 nv s.next.length (s.next.map (Value.int .i64))) (hg : W.grownBy w' v.ownBlock) (hown : w'.ownsRow lo 62 8 v' (N + 1) (xs ++ cells8 s nv)) :
    PF lo w' v' (N + 1) (fun i => if i = N then s else F i) (xs ++ cells8 s nv) (fun i => if i = N then nv else nvs i) := by
  have kept : ∀ {b : Nat} {y : Value} {n : Nat} {ys : List Value}, W.ownsRow b 3 1 y n ys → w'.ownsRow b 3 1 y n ys := by
    intro b y n ys hy
    refine hy.kept hg ?_
    rcases own_diff hy h.row (by decide) with e | e
    · exact Or.inl e
    · exact Or.inr e
  have hlen : xs.length = N * 8 := h.row.1
  refine ⟨hown, fun i hi => ?_, fun i hi => ?_⟩
  · by_cases e : i = N
    · subst e
      rw [if_pos rfl, if_pos rfl]
      intro j u hu
      rw [List.getElem?_append_right (by omega), hlen]
      rwa [show i * 8 + j - i * 8 = j by omega]
    · rw [if_neg e, if_neg e]
      intro j u hu
      have hj : j < 8 := by have := (List.getElem?_eq_some_iff.1 hu).1; simpa [cells8] using this
      rw [List.getElem?_append_left (by omega)]
      exact h.cells i (by omega) j u hu
  · by_cases e : i = N
    · subst e
      rw [if_pos rfl, if_pos rfl]
      exact kept hx
    · rw [if_neg e, if_neg e]
      exact kept (h.own i (by omega))
end Go.Proofs.YtljlgffkhocgkaaDoor
namespace Go.Proofs.YtljlgffkhocgkaaDoor
open Go.RowKit

theorem PF.turn {lo N i g c t : Nat} {w : World} {v : Value} {F : Nat → St} {xs : List Value} {nvs : Nat → Value} (h : PF lo w v N F xs nvs) (ap : Apart nvs N) (hi : i < N) (hv : nvs i = .slice (some ⟨g, 0, none⟩) (F i).next.length c) (z : Int) :
    PF lo (w.setCell ⟨g, t, none⟩ (.int .i64 z)) v N (fun j => if j = i then { F i with next := (F i).next.set t z } else F j) xs nvs := by
  have ho := h.own i hi
  rw [hv] at ho
  obtain ⟨s1, s2⟩ := ho.stored t (.int .i64 z)
  have kept : ∀ {b : Nat} {e : TypeId} {m : Nat} {y : Value} {n : Nat} {ys : List Value}, w.ownsRow b e m y n ys → y.ownBlock ≠ some g → (w.setCell ⟨g, t, none⟩ (.int .i64 z)).ownsRow b e m y n ys := by
    intro b e m y n ys hy hne
    exact hy.kept s2 (Or.inr hne)
  have hrow : v.ownBlock ≠ some g := by
    rcases own_diff h.row ho (by decide) with e | e
    · rw [e]; simp
    · exact e
  refine ⟨kept h.row hrow, fun j hj => ?_, fun j hj => ?_⟩
  · by_cases e : j = i
    · subst e
      rw [if_pos rfl]
      exact h.cells j hj
    · rw [if_neg e]
      exact h.cells j hj
  · by_cases e : j = i
    · subst e
      rw [if_pos rfl]
      simp only [List.length_set, List.map_set]
      rw [hv]
      exact s1
    · rw [if_neg e]
      exact kept (h.own j hj) (ap i j g hi hj (Ne.symm e) (by rw [hv]; rfl))

/-- A store into a row leaves rows of other types. -/
theorem own_store {w : World} {b1 b2 m1 m2 n1 n2 g c q : Nat} {e1 e2 : TypeId} {y u : Value} {xs ys : List Value} (hy : w.ownsRow b1 e1 m1 y n1 ys) (hr : w.ownsRow b2 e2 m2 (.slice (some ⟨g, 0, none⟩) n2 c) n2 xs) (he : e1 ≠ e2) : (w.setCell ⟨g, q, none⟩ u).ownsRow b1 e1 m1 y n1 ys := by
  refine hy.kept (hr.stored q u).2 ?_
  rcases own_diff hy hr he with e | e
  · exact Or.inl e
  · exact Or.inr e

/-- So does an append to it. -/
theorem own_grow {w w' : World} {b1 b2 m1 m2 n1 n2 : Nat} {e1 e2 : TypeId} {y v : Value} {xs ys : List Value} (hy : w.ownsRow b1 e1 m1 y n1 ys) (hr : w.ownsRow b2 e2 m2 v n2 xs) (he : e1 ≠ e2) (hg : w.grownBy w' v.ownBlock) : w'.ownsRow b1 e1 m1 y n1 ys := by
  refine hy.kept hg ?_
  rcases own_diff hy hr he with e | e
  · exact Or.inl e
  · exact Or.inr e

theorem own_keepB {w w' : World} {b1 m1 n1 : Nat} {e1 : TypeId} {y : Value} {ys : List Value} (hy : w.ownsRow b1 e1 m1 y n1 ys) (hb : Below w.heap.size w w') : w'.ownsRow b1 e1 m1 y n1 ys :=
  ownsRow_out hy (Out.of_below (lo := 0) (hi := 0) hb) (fun _ _ => Or.inr (Nat.zero_le _))

/-- A store into the box leaves the program. -/
theorem PF.box {lo N D q b2 n2 c : Nat} {w : World} {v u : Value} {F : Nat → St} {xs bs : List Value} {nvs : Nat → Value} (h : PF lo w v N F xs nvs) (hr : w.ownsRow b2 34 1 (.slice (some ⟨D, 0, none⟩) n2 c) n2 bs) : PF lo (w.setCell ⟨D, q, none⟩ u) v N F xs nvs :=
  ⟨own_store h.row hr (by decide), h.cells, fun i hi => own_store (h.own i hi) hr (by decide)⟩
end Go.Proofs.YtljlgffkhocgkaaDoor
namespace Go.Proofs.YtljlgffkhocgkaaDoor
open Go.RowKit

theorem own_len {w : World} {lo n m : Nat} {e : TypeId} {v : Value} {xs : List Value} (h : w.ownsRow lo e m v n xs) : ∃ A c, v = .slice A n c ∧ (0 < n → ∃ g, A = some ⟨g, 0, none⟩ ∧ lo ≤ g) := by
  rcases h.2 with ⟨e, e2⟩ | ⟨g, cap, cur, e, hg, _⟩
  · exact ⟨none, 0, by rw [e2]; exact e, fun h => by omega⟩
  · exact ⟨_, _, e, fun _ => ⟨g, rfl, hg⟩⟩

theorem rot_two {qs : List St} (h : ∀ s ∈ qs, s.next.length ≤ 2) (h0 : 0 < qs.length) {j : Nat} (hj : j ≤ qs.length) : (rotF qs j).next.length ≤ 2 := by
  unfold rotF
  by_cases e : j = 0
  · rw [if_pos e]; simp [skipSt]
  · rw [if_neg e]
    have hlt : (if j = qs.length then 0 else j) < qs.length := by split <;> omega
    have e2 : qs.getD (if j = qs.length then 0 else j) step00 = qs[if j = qs.length then 0 else j] := by simp [List.getD, hlt]
    rw [e2]
    exact h _ (List.getElem_mem hlt)

set_option maxRecDepth 100000 in
set_option maxHeartbeats 8000000 in
theorem l2First_any {Q : Ending → World → Prop} (lo : Nat) (v : Value) (qs : List St) (xs : List Value) (nvs : Nat → Value) (w : World) (h : PO lo w v qs xs nvs) (hlo : lo ≤ w.heap.size) (h0 : 0 < qs.length) (hl : qs.length ≤ 100) (hls : ∀ s ∈ qs, s.next.length ≤ 2)
    (hQ : ∀ v' ys mvs w', PO lo w' v' (firstL qs) ys mvs → Below w.heap.size w w' → Q (.returned (.agg #[v'])) w') :
    Calls Tryd.prog 90 #[.agg #[v]] w Q := by
  have HQ : Hid _ := hQ
  have HP : Hid (PO lo w v qs xs nvs) := h
  have HL : Hid _ := hls
  clear hQ hls h
  obtain ⟨i0, hi, hz0, hz1, hz2⟩ := info_parts infoInt2
  obtain ⟨i1, hj, hy0, hy1, hy2⟩ := info_parts infoStep1
  have hb0 : ∀ O O', Below w.heap.size w ((w.alloc O).alloc O') := fun O O' => ((Below.refl _ _).alloc (Nat.le_refl _) O).alloc (by simp) O'
  obtain ⟨A, c, hv, _⟩ := HP.out.slice
  subst hv
  go_enter Tryd.func90, Tryd.ntmps90
  go_wp2_with fail
  refine l2Ways_any _ qs 0 _ ((HP.out.at).keep (hb0 _ _)) (by omega) HL.out fun w1 hb1 => ?_
  have hbA : Below w.heap.size w w1 := (hb0 _ _).trans (hb1.mono (by simp; omega))
  have q1 : w1.cell? ⟨w.heap.size, 0, none⟩ = some (.slice A qs.length c) := cell_keep hb1 (by simp [go_sem])
  have r1 : w1.cell? ⟨w.heap.size + 1, 0, none⟩ = some (.slice none 0 0) := cell_keep hb1 (by simp [go_sem])
  have rf1 : w1.frozen? ⟨w.heap.size + 1, 0, none⟩ = false := (hb1.frozen (by simp)).trans (by simp [go_sem])
  have hs1 : w.heap.size + 1 < w1.heap.size := cell_lt r1
  have HB1 : Hid (Below w.heap.size w w1) := hbA
  clear hb1 hb0 hbA
  by_cases hw0 : ways qs 0 = 0
  · have HW0 : Hid (ways qs 0 = 0) := hw0
    rw [hw0]
    clear hw0
    go_wp2
    refine bodyPost_ret (v := .agg #[.slice A qs.length c]) (by simp [results, Tryd.results90, go_sem, r1]) rfl ?_
    refine HQ.out _ xs nvs _ ?_ (HB1.out.setCell (by simp) _)
    rw [firstL, if_pos HW0.out]
    exact HP.out.keep (HB1.out.setCell (by simp) _)
  · have hwk := waysK_le HL.out qs.length 0
    rw [waysK_all] at hwk
    have hwi : ¬ ((ways qs 0 : Nat) : Int) = 0 := by omega
    have HW0 : Hid (¬ ways qs 0 = 0) := hw0
    have HL2 : Hid (∀ s ∈ qs, s.next.length ≤ 1000) := fun s hs => Nat.le_trans (HL.out s hs) (by omega)
    clear hw0
    go_wp2_with fail
    refine l1Copy_any _ qs _ (HP.out.n.keep HB1.out) (by omega) HL2.out fun v2 ys mvs w2 hP2 hb2 => ?_
    have q2 := cell_keep hb2 q1
    have r2 := cell_keep hb2 r1
    have rf2 := (hb2.frozen (p := ⟨w.heap.size + 1, 0, none⟩) hs1).trans rf1
    have HB2 : Hid (Below w1.heap.size w1 w2) := hb2
    have s12 := hb2.size
    have HP2 : Hid (PF w1.heap.size w2 v2 qs.length (fun i => qs.getD i step00) ys mvs) := hP2.pf step00
    obtain ⟨A2, c2, hv2, hg2⟩ := HP2.out.at
    obtain ⟨g, rfl, hgl, hgr, hsc0, hfz0⟩ := hg2 0 h0
    subst hv2
    obtain ⟨s0, hs0⟩ : ∃ s0, s0 = qs.getD 0 step00 := ⟨_, rfl⟩
    have hsc1 : StepCells w2 g 0 s0 (mvs 0) := by rw [hs0]; simpa using hsc0
    have HS0 : Hid (s0 = qs.getD 0 step00) := hs0
    obtain ⟨e0, e1, e2, e3, e4, e5, e6, e7⟩ := box_zero hsc1
    obtain ⟨M0, m0, k0, hm0⟩ := own_is_slice (HP2.out.own 0 h0)
    have HM0 : Hid (mvs 0 = .slice M0 m0 k0) := hm0
    rw [hm0] at e7
    have hBD : Below w2.heap.size w2 (w2.alloc (.cells #[.slice (some ⟨g, 0, none⟩) qs.length c2] 34)) := (Below.refl _ _).alloc (Nat.le_refl _) _
    have HBD : Hid _ := hBD
    have E0 := cell_keep hBD e0
    have E1 := cell_keep hBD e1
    have E2 := cell_keep hBD e2
    have E3 := cell_keep hBD e3
    have E4 := cell_keep hBD e4
    have E5 := cell_keep hBD e5
    have E6 := cell_keep hBD e6
    have E7 := cell_keep hBD e7
    clear hb2 hP2 q1 hg2 r2 rf2 q2 hsc0 hsc1 hs0 e0 e1 e2 e3 e4 e5 e6 e7 hfz0 hBD hm0
    have HDB : Hid (∀ O, Below (w2.heap.size + 1) (w2.alloc (.cells #[.slice (some ⟨g, 0, none⟩) qs.length c2] 34)) ((w2.alloc (.cells #[.slice (some ⟨g, 0, none⟩) qs.length c2] 34)).alloc O).drew) := fun O => ((Below.refl _ _).alloc (by simp) O).drew
    have HDA : Hid (∀ O, ((w2.alloc (.cells #[.slice (some ⟨g, 0, none⟩) qs.length c2] 34)).alloc O).drew.cell? ⟨w2.heap.size, 0, none⟩ = some (.slice (some ⟨g, 0, none⟩) qs.length c2)) := fun O => ((HDB.out O).cell (by show w2.heap.size < w2.heap.size + 1; omega)).trans (by simp [go_sem])
    have HDF : Hid (∀ O, ((w2.alloc (.cells #[.slice (some ⟨g, 0, none⟩) qs.length c2] 34)).alloc O).drew.frozen? ⟨w2.heap.size, 0, none⟩ = false) := fun O => ((HDB.out O).frozen (by show w2.heap.size < w2.heap.size + 1; omega)).trans (by simp [go_sem])
    have HDS : Hid (∀ O, w2.heap.size < ((w2.alloc (.cells #[.slice (some ⟨g, 0, none⟩) qs.length c2] 34)).alloc O).drew.heap.size) := fun O => Nat.lt_of_lt_of_le (by simp) (HDB.out O).size
    have HDR : Hid (some w2.heap.size ≠ (Value.slice (some ⟨g, 0, none⟩) qs.length c2).ownBlock) := fun e => by simp [Value.ownBlock] at e; omega
    go_wp2_with fail
    go_region_law (first | (refine step_append_lies _ rfl (.tmp 18) (.tmp 23) 32 rfl w1.heap.size 62 i1 (.agg #[.int .i64 0, .int .i64 0, .int .i64 0, .int .i64 0, .int .i64 0, .int .i64 0, .int .i64 0, .slice none 0 0]) 8 80 Tryd.underlying32 hj hy0 hy1 hy2 rfl (by decide) (.slice (some ⟨g, 0, none⟩) qs.length c2) qs.length ys (by simp [Act.eval]) ((HP2.out.row.alloc _).alloc _) ⟨w2.heap.size + 1, 0, none⟩ 1 1 (cells8 s0 (.slice M0 m0 k0)) (by simp [Act.eval]) rfl (cells8_new (w2.alloc (.cells #[.slice (some ⟨g, 0, none⟩) qs.length c2] 34)) s0 _ _ (by simp)) (cells8_one _ _ _ _) (by decide) (by unfold maxLen; omega) (by omega) (by simp; omega) (w2.heap.size + 2) (by simp) ?_; intro g4 cap4 w4 hown4 hgrow4 hat4 hlt4; have d4 := hgrow4.cell (HDA.out _) HDR.out; have f4 := (hgrow4.frozen_far ⟨w2.heap.size, 0, none⟩ (HDS.out _) HDR.out).trans (HDF.out _)))
    all_goals
      have hg4D : g4 ≠ w2.heap.size := by
        rcases hat4 with e | e
        · simp [Value.ownBlock] at e; omega
        · omega
      have hg4l : w1.heap.size ≤ g4 := (hown4.lt g4 rfl).1
      have hX2 : Below w2.heap.size w2 ((w2.alloc (.cells #[.slice (some ⟨g, 0, none⟩) qs.length c2] 34)).alloc (.cells #[.int .i64 s0.kind, .int .i64 s0.dst, .int .i64 s0.op, .int .i64 s0.av, .int .i64 s0.an, .int .i64 s0.bv, .int .i64 s0.bn, .slice M0 m0 k0] 62)).drew := (HBD.out.trans ((HDB.out _).mono (by omega)))
      have hOW0 : w2.ownsRow w1.heap.size 3 1 (.slice M0 m0 k0) s0.next.length (s0.next.map (Value.int .i64)) := by
        have h9 := HP2.out.own 0 h0
        rw [HM0.out] at h9
        rw [HS0.out]
        exact h9
      have hP4 := (HP2.out.keep hX2).snoc (s := s0) (nv := .slice M0 m0 k0) (ownsRow_out hOW0 (Out.of_below (lo := 0) (hi := 0) hX2) (fun _ _ => Or.inr (Nat.zero_le _))) hgrow4 hown4
      have hP4' := hP4.other (a := ⟨w2.heap.size, 0, none⟩) (by simp [Value.ownBlock]; exact hg4D) (fun i hi => by
        by_cases e : i = qs.length
        · rw [if_pos e]
          intro hq
          have := (hOW0.lt _ hq).2
          simp at this
        · rw [if_neg e]
          intro hq
          have := ((HP2.out.own i (by omega)).lt _ hq).2
          simp at this) (.slice (some ⟨g4, 0, none⟩) (qs.length + 1) cap4)
      have HP4 : Hid _ := hP4'
      have hb4 : Below w1.heap.size w1 w4 := (HB2.out.trans (hX2.mono s12)).trans ((Below.refl _ _).grown hgrow4 (by have := hX2.size; omega) (fun q hq => by simp [Value.ownBlock] at hq; omega))
      have HB4 : Hid (Below w1.heap.size w1 (w4.setCell ⟨w2.heap.size, 0, none⟩ (.slice (some ⟨g4, 0, none⟩) (qs.length + 1) cap4))) := hb4.setCell s12 _
      have hD4 : w2.heap.size < w4.heap.size := cell_lt d4
      have D4 : (w4.setCell ⟨w2.heap.size, 0, none⟩ (.slice (some ⟨g4, 0, none⟩) (qs.length + 1) cap4)).cell? ⟨w2.heap.size, 0, none⟩ = some (.slice (some ⟨g4, 0, none⟩) (qs.length + 1) cap4) := by simp [go_sem, d4]
      have F4 : (w4.setCell ⟨w2.heap.size, 0, none⟩ (.slice (some ⟨g4, 0, none⟩) (qs.length + 1) cap4)).frozen? ⟨w2.heap.size, 0, none⟩ = false := by simp [go_sem, f4]
      clear hP4 hP4' hOW0 hX2 hb4 hown4 hgrow4 hat4 d4 f4 E0 E1 E2 E3 E4 E5 E6 E7 hlt4
      generalize w4.setCell ⟨w2.heap.size, 0, none⟩ (.slice (some ⟨g4, 0, none⟩) (qs.length + 1) cap4) = W4 at *
      obtain ⟨A4, c4x, hv4, hg4⟩ := PF.at HP4.out
      obtain ⟨g4', hA4, _, hg4r, hsc4, hfz4⟩ := hg4 0 (by omega)
      cases hv4
      cases hA4
      obtain ⟨b0, b1, b2, b3, b4, b5, b6, b7⟩ := box_zero (by simpa using hsc4)
      have hD4' : w2.heap.size < W4.heap.size := cell_lt D4
      clear hg4 hsc4
      go_wp2
      have hWs : (set8 W4 g4 0 (skipSt (qs.length : Int)) (.slice (some ⟨W4.heap.size, 0, none⟩) 1 1)).heap.size = W4.heap.size := set8_size _ _ _ _ _
      have hn6 : ((set8 W4 g4 0 (skipSt (qs.length : Int)) (.slice (some ⟨W4.heap.size, 0, none⟩) 1 1)).alloc (.cells #[.int .i64 (qs.length : Int)] 3)).ownsRow w1.heap.size 3 1 (.slice (some ⟨W4.heap.size, 0, none⟩) 1 1) 1 [.int .i64 (qs.length : Int)] := by
        have h9 := World.ownsRow_lit (base := w1.heap.size) (e := 3) (size := 1) (set8 W4 g4 0 (skipSt (qs.length : Int)) (.slice (some ⟨W4.heap.size, 0, none⟩) 1 1)) #[.int .i64 (qs.length : Int)] 1 (by rw [hWs]; omega) (by decide) (by simp)
        rw [hWs] at h9
        exact h9
      obtain ⟨ys6, hP6⟩ := PF.putStep (i := 0) (o := 0) (s := skipSt (qs.length : Int)) (by omega) HP4.out (by omega) hn6
      have hB6 : Below w1.heap.size w1 ((set8 W4 g4 0 (skipSt (qs.length : Int)) (.slice (some ⟨W4.heap.size, 0, none⟩) 1 1)).alloc (.cells #[.int .i64 (qs.length : Int)] 3)) := (set8_below HB4.out hg4l).alloc (by rw [hWs]; omega) _
      have hbk : ((set8 W4 g4 0 (skipSt (qs.length : Int)) (.slice (some ⟨W4.heap.size, 0, none⟩) 1 1)).alloc (.cells #[.int .i64 (qs.length : Int)] 3)).heap[w2.heap.size]? = W4.heap[w2.heap.size]? := (Below.heap_alloc _ _ _ (by rw [hWs]; omega)).trans (set8_block _ _ _ _ _ _ (Ne.symm hg4D))
      have hD6 : ((set8 W4 g4 0 (skipSt (qs.length : Int)) (.slice (some ⟨W4.heap.size, 0, none⟩) 1 1)).alloc (.cells #[.int .i64 (qs.length : Int)] 3)).cell? ⟨w2.heap.size, 0, none⟩ = some (.slice (some ⟨g4, 0, none⟩) (qs.length + 1) cap4) := (World.cell?_of_block (w := W4) (a := ⟨w2.heap.size, 0, none⟩) hbk).trans D4
      have hF6 : ((set8 W4 g4 0 (skipSt (qs.length : Int)) (.slice (some ⟨W4.heap.size, 0, none⟩) 1 1)).alloc (.cells #[.int .i64 (qs.length : Int)] 3)).frozen? ⟨w2.heap.size, 0, none⟩ = false := (World.frozen?_of_block (w := W4) (a := ⟨w2.heap.size, 0, none⟩) hbk).trans F4
      have hP7 := hP6.congr fun j _ => firstF_one HS0.out j
      have HP6 : Hid _ := hP7
      clear hP7
      have HB6 : Hid _ := hB6
      have HD6 : Hid _ := hD6
      have HF6 : Hid _ := hF6
      clear hP6 hB6 hD6 hF6 hbk hn6 hWs b0 b1 b2 b3 b4 b5 b6 b7 hfz4 D4 F4
      go_loopw [5] (fun i wr => ∃ (k : Nat) (ys : List Value) (mvs : Nat → Value), 1 ≤ k ∧ k ≤ qs.length + 1 ∧ i = .int .i64 k ∧ Below w1.heap.size w1 wr ∧ wr.cell? ⟨w2.heap.size, 0, none⟩ = some (.slice (some ⟨g4, 0, none⟩) (qs.length + 1) cap4) ∧ wr.frozen? ⟨w2.heap.size, 0, none⟩ = false ∧ PF w1.heap.size wr (.slice (some ⟨g4, 0, none⟩) (qs.length + 1) cap4) (qs.length + 1) (firstF qs k) ys mvs ∧ Apart mvs k) (fun i _ => qs.length + 1 - (intOf i).toNat)
      case atStart => exact ⟨1, ys6, _, Nat.le_refl _, by omega, rfl, HB6.out, HD6.out, HF6.out, HP6.out, fun i j k hi hj hij => by omega⟩
      case round =>
        clear HP6 HB6 HD6 HF6
        obtain ⟨k, zys, zvs, hk1, hk2, rfl, hb, hD, hF, hPk, hAp⟩ := hrel
        have HBk : Hid (Below w1.heap.size w1 wr) := hb
        have HPk : Hid (PF w1.heap.size wr (.slice (some ⟨g4, 0, none⟩) (qs.length + 1) cap4) (qs.length + 1) (firstF qs k) zys zvs) := hPk
        have HAp : Hid (Apart zvs k) := hAp
        have hDl : w2.heap.size < wr.heap.size := cell_lt hD
        have r5 := cell_keep hb r1
        have rf5 := (hb.frozen (p := ⟨w.heap.size + 1, 0, none⟩) hs1).trans rf1
        have s15 := hb.size
        clear hb hAp
        by_cases hkl : k < qs.length + 1
        · have hki : (k : Int) < (qs.length : Int) + 1 := by omega
          obtain ⟨A5, c5, hv5, hg5⟩ := hPk.at
          obtain ⟨g5, hA5, _, hg5r, hsc5, hfz5⟩ := hg5 k hkl
          cases hv5
          cases hA5
          have c7 := hsc5.c7
          obtain ⟨Mk, kk, hmk, _⟩ := own_len (hPk.own k hkl)
          have HMK : Hid (zvs k = .slice Mk (firstF qs k k).next.length kk) := hmk
          rw [hmk] at c7
          have hFk : firstF qs k k = rotF qs k := by unfold firstF; rw [if_neg (by omega)]
          have h2 := rot_two HL.out h0 (j := k) (by omega)
          rw [← hFk] at h2
          have HFK : Hid (firstF qs k k = rotF qs k) := hFk
          have HOK : Hid _ := hPk.own k hkl
          have f7 := hfz5 (k * 8 + 7)
          clear hg5 hsc5 hfz5 hPk hmk hFk
          have HE : Hid ((wr.alloc (.cells #[] 3)).ownsRow wr.heap.size 3 1 (.slice (some ⟨wr.heap.size, 0, none⟩) 0 0) 0 []) := World.ownsRow_lit _ #[] 0 (Nat.le_refl _) (by decide) (by simp)
          have HIA : Hid (IntsAt (wr.alloc (.cells #[] 3)) (.slice Mk (firstF qs k k).next.length kk) (firstF qs k k).next) := by
            have h9 := own_ints HOK.out
            rw [HMK.out] at h9
            exact h9.keep ((Below.refl _ _).alloc (Nat.le_refl _) _)
          have HNI : Hid (Nice (.slice Mk (firstF qs k k).next.length kk)) := by
            have h9 := own_nice HOK.out
            rwa [HMK.out] at h9
          obtain ⟨zs, hzs⟩ : ∃ zs, zs = (firstF qs k k).next := ⟨_, rfl⟩
          rw [← hzs] at HIA HNI HMK h2 c7
          have HZS : Hid (zs = (firstF qs k k).next) := hzs
          clear hzs HOK
          go_wp2_with (at_builtin; refine wpList_append_ints _ rfl (.tmp 39) (.tmp 45) 55 rfl wr.heap.size 3 i0 Tryd.underlying55 hi hz0 hz1 hz2 (.slice (some ⟨wr.heap.size, 0, none⟩) 0 0) 0 [] rfl HE.out Mk kk zs rfl HIA.out HNI.out (by omega) (by simp) ?_)
          intro v7 w7 hown7 hgrow7 _
          have hb7 : Below wr.heap.size wr w7 := ((Below.refl _ _).alloc (Nat.le_refl _) _).trans ((Below.refl _ _).grown hgrow7 (by simp) (fun q hq => by simp [Value.ownBlock] at hq; omega))
          obtain ⟨A7, c7', hv7, hA7⟩ := own_len hown7
          subst hv7
          have HB7 : Hid (Below wr.heap.size wr w7) := hb7
          have HO7 : Hid (w7.ownsRow wr.heap.size 3 1 (.slice A7 zs.length c7') zs.length (zs.map (Value.int .i64))) := hown7
          have HA7 : Hid _ := hA7
          clear hb7 hown7 hgrow7 hA7
          generalize wr = W5 at *
          go_wp2
          go_loopw [7] (fun i wr => ∃ t : Nat, t ≤ zs.length ∧ i = .int .i64 t ∧ Below W5.heap.size W5 wr ∧ wr.ownsRow W5.heap.size 3 1 (.slice A7 zs.length c7') zs.length ((turnT qs.length zs t).map (Value.int .i64))) (fun i _ => zs.length - (intOf i).toNat)
          case atStart => exact ⟨0, Nat.zero_le _, rfl, HB7.out, by rw [turnT_zero]; exact HO7.out⟩
          case round =>
            obtain ⟨t, ht, rfl, hb, hz⟩ := hrel
            have HBt : Hid (Below W5.heap.size W5 wr) := hb
            have HZt : Hid (wr.ownsRow W5.heap.size 3 1 (.slice A7 zs.length c7') zs.length ((turnT qs.length zs t).map (Value.int .i64))) := hz
            by_cases htl : t < zs.length
            · have hti : (t : Int) < (zs.length : Int) := by omega
              obtain ⟨g7, hA7, hg7⟩ := HA7.out (by omega)
              subst hA7
              have ct := hz.cellAt t (by omega)
              rw [List.getElem?_map, turnT_get htl, Option.map_some] at ct
              have ft := hz.frozenAt t
              have HSUC : Hid _ := turnT_succ (n := qs.length) htl
              have HSAM : Hid _ := turnT_same (n := qs.length) htl
              have HST : Hid _ := hz.stored t (.int .i64 (qs.length : Int))
              clear hb hz
              generalize zs.getD t 0 = x at *
              by_cases hx : x = 0
              · subst hx
                go_wp2
                go_roundw
                case rel =>
                  obtain ⟨s1, s2⟩ := HST.out
                  refine ⟨t + 1, by omega, by go_num, HBt.out.setCell hg7 _, ?_⟩
                  have e := HSUC.out
                  rw [e, List.map_set]
                  exact s1
                case measure => simp [intOf]; omega
              · go_wp2
                go_roundw
                case rel =>
                  have e := HSAM.out hx
                  exact ⟨t + 1, by omega, by go_num, HBt.out, by rw [e]; exact HZt.out⟩
                case measure => simp [intOf]; omega
            · have hti : ¬ (t : Int) < (zs.length : Int) := by omega
              obtain rfl : t = zs.length := by omega
              have hD9 := cell_keep hb hD
              have hF9 := (hb.frozen (p := ⟨w2.heap.size, 0, none⟩) hDl).trans hF
              have c79 := cell_keep hb c7
              have f79 := (hb.frozen (p := ⟨g4, k * 8 + 7, none⟩) hg5r).trans f7
              have HZ9 : Hid (wr.ownsRow W5.heap.size 3 1 (.slice A7 zs.length c7') (zs.map (endI qs.length)).length ((zs.map (endI qs.length)).map (Value.int .i64))) := by
                rw [Hid, List.length_map, ← turnT_all]
                exact hz
              have HP9 := PF.putNext (i := k) (HPk.out.keep hb) hkl (own_lower HZ9.out s15)
              have HPN := PF.congr (G := firstF qs (k + 1)) HP9 (fun j hj => by
                by_cases e : j = k
                · subst e
                  rw [if_pos rfl, HFK.out]
                  unfold firstF
                  rw [if_pos ⟨hk1, by omega⟩]
                  have e2 := HZS.out
                  rw [HFK.out] at e2
                  rw [e2]
                  rfl
                · rw [if_neg e]
                  unfold firstF
                  by_cases e2 : 1 ≤ j ∧ j < k
                  · rw [if_pos ⟨e2.1, by omega⟩, if_pos e2]
                  · rw [if_neg (by omega), if_neg e2])
              have HPH : Hid _ := HPN
              have HBN : Hid (Below w1.heap.size w1 (wr.setCell ⟨g4, k * 8 + 7, none⟩ (.slice A7 zs.length c7'))) := (HBk.out.trans (hb.mono s15)).setCell hg4l _
              have HAN : Hid (Apart (fun j => if j = k then .slice A7 zs.length c7' else zvs j) (k + 1)) := by
                intro i j q hi hj hij
                have old : ∀ j, j < k → ∀ q, (zvs j).ownBlock = some q → q < W5.heap.size := fun j hj q hq => ((HPk.out.own j (by omega)).lt q hq).2
                by_cases e1 : i = k <;> by_cases e2 : j = k
                · omega
                · simp only [if_pos e1, if_neg e2]
                  intro hq hq2
                  have a1 := (HZ9.out.lt q hq).1
                  have a2 := old j (by omega) q hq2
                  omega
                · simp only [if_neg e1, if_pos e2]
                  intro hq hq2
                  have a1 := (HZ9.out.lt q hq2).1
                  have a2 := old i (by omega) q hq
                  omega
                · simp only [if_neg e1, if_neg e2]
                  exact HAp.out i j q (by omega) (by omega) hij
              clear hb hz HP9 HPN
              go_wp2
              go_roundw
              case rel => exact ⟨k + 1, _, _, by omega, by omega, by go_num, HBN.out, by rw [cell_setOther _ _ _ _ (Ne.symm hg4D)]; exact hD9, (World.frozen?_of_block (w := wr) (a := ⟨w2.heap.size, 0, none⟩) (Below.heap_setCell wr _ _ _ (Ne.symm hg4D))).trans hF9, HPH.out, HAN.out⟩
              case measure => simp [intOf]; omega
        · have hki : ¬ (k : Int) < (qs.length : Int) + 1 := by omega
          obtain rfl : k = qs.length + 1 := by omega
          clear hPk
          go_wp2
          refine bodyPost_ret (v := .agg #[.slice (some ⟨g4, 0, none⟩) (qs.length + 1) cap4]) (by simp [results, Tryd.results90, go_sem, r5]) rfl ?_
          refine HQ.out _ zys zvs _ ?_ ((HB1.out.trans (HBk.out.mono (by omega))).setCell (by simp) _)
          rw [firstL, if_neg HW0.out]
          exact ((HPk.out.below (a := ⟨w.heap.size + 1, 0, none⟩) hs1 _).po HAp.out).lower (by omega)
end Go.Proofs.YtljlgffkhocgkaaDoor
namespace Go.Proofs.YtljlgffkhocgkaaDoor
open Go.RowKit

def tidyL (ss : List St) (rs : List Bool) : List St := partL (firstL (pruneK ss rs ss.length))

theorem infoBool2 : (Tryd.prog.info? 4).map (fun i => (i.zero, i.size, i.bytes)) = some (some (.bool false), 1, 1) := by kernel_rfl

theorem bool_oneCell (x : Bool) : ∀ u ∈ [Value.bool x], u.oneCell' = true := by
  intro u hu; simp at hu; subst hu; rfl

def meetB (qs : List St) (x : Int) : Bool := decide (1 < ways qs x)

def meetV (qs : List St) (j : Nat) : Value := .bool (meetB qs (j : Int))

set_option maxRecDepth 100000 in
set_option maxHeartbeats 8000000 in
theorem specTidy_yes {Q : Ending → World → Prop} (v : Value) (ss : List St) (w : World) (h : StepsAt w v ss) (hok : okB ss = true)
    (hno : ∀ rs w', Below w.heap.size w w' → IsReach ss rs → okB (tidyL ss rs) = false → Q (.returned (.tuple #[.agg #[.slice none 0 0], .bool false])) w')
    (hyes : ∀ v' rs xs nvs w', Below w.heap.size w w' → IsReach ss rs → okB (tidyL ss rs) = true → PO w.heap.size w' v' (tidyL ss rs) xs nvs → Q (.returned (.tuple #[.agg #[v'], .bool true])) w') :
    Calls Tryd.prog 72 #[.agg #[v]] w Q := by
  have HN : Hid _ := hno
  have HY : Hid _ := hyes
  clear hno hyes
  obtain ⟨hn1, hn2⟩ := ok_len hok
  have HOK : Hid (okB ss = true) := hok
  obtain ⟨ao, b, o, cap, rfl, ha, hc⟩ := id h
  clear ha hc
  have HH : Hid (StepsAt w (.slice ao ss.length cap) ss) := h
  clear h
  obtain ⟨i0, hi, hz0, hz1, hz2⟩ := info_parts infoInt2
  obtain ⟨i1, hj, hy0, hy1, hy2⟩ := info_parts infoStep1
  obtain ⟨i2, hk, hx0, hx1, hx2⟩ := info_parts infoBool2
  have hb0 : ∀ O O', Below w.heap.size w ((w.alloc O).alloc O') := fun O O' => ((Below.refl _ _).alloc (Nat.le_refl _) O).alloc (by simp) O'
  go_enter Tryd.func72, Tryd.ntmps72
  go_wp2_with fail
  refine specOk_any _ ss _ (HH.out.keep (hb0 _ _)) (by omega) (ok_nexts HOK.out) fun w1 hb1 => ?_
  rw [hok]
  have hbA : Below w.heap.size w w1 := (hb0 _ _).trans (hb1.mono (by simp; omega))
  have q1 : w1.cell? ⟨w.heap.size, 0, none⟩ = some (.slice ao ss.length cap) := cell_keep hb1 (by simp [go_sem])
  have r1 : w1.cell? ⟨w.heap.size + 1, 0, none⟩ = some (.slice none 0 0) := cell_keep hb1 (by simp [go_sem])
  have rf1 : w1.frozen? ⟨w.heap.size + 1, 0, none⟩ = false := (hb1.frozen (by simp)).trans (by simp [go_sem])
  have hsB : w.heap.size + 1 < w1.heap.size := cell_lt r1
  have R1 : Hid _ := r1
  have RF1 : Hid _ := rf1
  have HB1 : Hid (Below w.heap.size w w1) := hbA
  clear hb1 hb0 hok
  go_wp2_with fail
  refine l2Prune_any _ ss _ (HH.out.keep hbA) HOK.out fun v2 rs xs2 nv2 w2 hrs hP2 hb2 => ?_
  have HRS : Hid (IsReach ss rs) := hrs
  obtain ⟨hfit, hp1, hp2⟩ := prune_fit HOK.out hrs
  have HFIT : Hid (FitN (pruneK ss rs ss.length)) := hfit
  have hbB : Below w.heap.size w w2 := hbA.trans (hb2.mono hbA.size)
  have r2 := cell_keep hb2 r1
  have rf2 := (hb2.frozen (p := ⟨w.heap.size + 1, 0, none⟩) (cell_lt r1)).trans rf1
  have HP2 : Hid (PO w1.heap.size w2 v2 (pruneK ss rs ss.length) xs2 nv2) := hP2
  have s12 := hb2.size
  have HB12 : Hid (Below w1.heap.size w1 w2) := hb2
  obtain ⟨A2, c2, hv2, _⟩ := hP2.slice
  subst hv2
  clear hb2 hP2 q1 r1 rf1 hrs hfit
  go_wp2_with fail
  refine l2First_any w1.heap.size _ (pruneK ss rs ss.length) xs2 nv2 _ HP2.out s12 hp1 (by omega) HFIT.out.1 fun v3 xs3 nv3 w3 hP3 hb3 => ?_
  obtain ⟨hfit3, hp3, hp4⟩ := first_fit HFIT.out hp1
  obtain ⟨qs, hqs⟩ : ∃ qs, qs = firstL (pruneK ss rs ss.length) := ⟨_, rfl⟩
  rw [← hqs] at hP3 hfit3 hp3 hp4
  have HQS : Hid (qs = firstL (pruneK ss rs ss.length)) := hqs
  have HF3 : Hid (FitN qs) := hfit3
  have hq61 : qs.length ≤ 61 := by omega
  have hbC : Below w.heap.size w w3 := hbB.trans (hb3.mono hbB.size)
  have r3 := cell_keep hb3 r2
  have rf3 := (hb3.frozen (p := ⟨w.heap.size + 1, 0, none⟩) (cell_lt r2)).trans rf2
  have HP3 : Hid (PO w1.heap.size w3 v3 qs xs3 nv3) := hP3
  have s23 := hb3.size
  obtain ⟨A3, c3, hv3, hg3⟩ := hP3.slice
  obtain ⟨g3, rfl, hg3l, hg3r⟩ := hg3 0 hp3
  subst hv3
  have HB13 : Hid (Below w1.heap.size w1 w3) := HB12.out.trans (hb3.mono s12)
  clear hb3 hP3 r2 rf2 hg3 hqs hfit3 HP2 hp4 hp1 hp2 HFIT hbB hbA r3 rf3 hbC HB12
  go_wp2_with fail
  have hBX : ((w3.alloc (.cells #[.slice (some ⟨g3, 0, none⟩) qs.length c3] 34)).alloc (.cells #[] 4)).ownsRow w3.heap.size 34 1 (.slice (some ⟨w3.heap.size, 0, none⟩) 1 1) 1 [.slice (some ⟨g3, 0, none⟩) qs.length c3] := (World.ownsRow_lit _ #[.slice (some ⟨g3, 0, none⟩) qs.length c3] 1 (Nat.le_refl _) (by decide) (by simp)).alloc _
  have hML : ((w3.alloc (.cells #[.slice (some ⟨g3, 0, none⟩) qs.length c3] 34)).alloc (.cells #[] 4)).ownsRow (w3.heap.size + 1) 4 1 (.slice (some ⟨w3.heap.size + 1, 0, none⟩) 0 0) 0 [] := by
    have h0 := World.ownsRow_lit (base := w3.heap.size + 1) (e := 4) (size := 1) (w3.alloc (.cells #[.slice (some ⟨g3, 0, none⟩) qs.length c3] 34)) #[] 0 (by simp) (by decide) (by simp)
    simpa using h0
  have hB3 : Below w3.heap.size w3 ((w3.alloc (.cells #[.slice (some ⟨g3, 0, none⟩) qs.length c3] 34)).alloc (.cells #[] 4)) := ((Below.refl _ _).alloc (Nat.le_refl _) _).alloc (by simp) _
  have HBX : Hid _ := hBX
  have HML : Hid _ := hML
  have HB3 : Hid _ := hB3
  have hsL : w3.heap.size + 1 < ((w3.alloc (.cells #[.slice (some ⟨g3, 0, none⟩) qs.length c3] 34)).alloc (.cells #[] 4)).heap.size := by simp
  clear hBX hML hB3
  generalize ((w3.alloc (.cells #[.slice (some ⟨g3, 0, none⟩) qs.length c3] 34)).alloc (.cells #[] 4)) = wL at *
  go_loopw [6, 7] (fun mv i wr => ∃ k : Nat, k ≤ qs.length ∧ i = .int .i64 k ∧ Below w3.heap.size w3 wr ∧ w3.heap.size + 1 < wr.heap.size ∧ wr.ownsRow w3.heap.size 34 1 (.slice (some ⟨w3.heap.size, 0, none⟩) 1 1) 1 [.slice (some ⟨g3, 0, none⟩) qs.length c3] ∧ wr.ownsRow (w3.heap.size + 1) 4 1 mv k ((List.range k).map (meetV qs))) (fun _ i _ => qs.length - (intOf i).toNat)
  case atStart => exact ⟨0, Nat.zero_le _, rfl, HB3.out, hsL, HBX.out, HML.out⟩
  case round =>
    clear HBX HML HB3 hsL
    obtain ⟨k, hkq, rfl, hb, hsz, hbx, hml⟩ := hrel
    have HBr : Hid (Below w3.heap.size w3 wr) := hb
    have HBX : Hid (wr.ownsRow w3.heap.size 34 1 (.slice (some ⟨w3.heap.size, 0, none⟩) 1 1) 1 [.slice (some ⟨g3, 0, none⟩) qs.length c3]) := hbx
    have HML : Hid (wr.ownsRow (w3.heap.size + 1) 4 1 u6 k ((List.range k).map (meetV qs))) := hml
    by_cases hkl : k < qs.length
    · have hki : (k : Int) < (qs.length : Int) := by omega
      have dq : wr.cell? ⟨w3.heap.size, 0, none⟩ = some (.slice (some ⟨g3, 0, none⟩) qs.length c3) := by rw [hbx.cellAt 0 (by omega)]; rfl
      have HWK : Hid (ways qs (k : Int) ≤ 200) := by
        have h9 := waysK_le HF3.out.1 qs.length (k : Int)
        rw [waysK_all] at h9
        exact Nat.le_trans h9 (by omega)
      have HRG : Hid ((List.range (k + 1)).map (meetV qs) = (List.range k).map (meetV qs) ++ [Value.bool (meetB qs (k : Int))]) := by
        rw [Hid, List.range_succ, List.map_append]; rfl
      clear hb hbx hml
      go_wp2_with fail
      refine l2Ways_any _ qs (k : Int) _ (HP3.out.at.keep HBr.out) (by omega) HF3.out.1 fun w4 hb4 => ?_
      have HB4 : Hid (Below w3.heap.size w3 w4) := HBr.out.trans (hb4.mono HBr.out.size)
      have hs4 : w3.heap.size + 1 < w4.heap.size := Nat.lt_of_lt_of_le hsz hb4.size
      have HBX4 : Hid (w4.ownsRow w3.heap.size 34 1 (.slice (some ⟨w3.heap.size, 0, none⟩) 1 1) 1 [.slice (some ⟨g3, 0, none⟩) qs.length c3]) := own_keepB HBX.out hb4
      have HML4 : Hid (w4.ownsRow (w3.heap.size + 1) 4 1 u6 k ((List.range k).map (meetV qs))) := own_keepB HML.out hb4
      have hwk := HWK.out
      have HMB : Hid (meetB qs (k : Int) = decide (1 < ways qs (k : Int))) := rfl
      clear hb4 dq
      by_cases hm : 1 < ways qs (k : Int)
      all_goals
        first | (have hmi : (1 : Int) < (ways qs (k : Int) : Int) := by omega) | (have hmi : decide ((1 : Int) < (ways qs (k : Int) : Int)) = false := decide_eq_false (by omega))
        first | (rw [decide_eq_true hm] at HMB) | (rw [decide_eq_false hm] at HMB)
        rw [HMB.out] at HRG
        first
          | (go_wp2_with (at_builtin; refine wpList_append_own _ rfl (.tmp 27) (.tmp 32) 30 rfl (w3.heap.size + 1) 4 i2 (.bool false) 1 1 Tryd.underlying30 hk hx0 hx1 hx2 rfl (by decide) u6 k ((List.range k).map (meetV qs)) rfl (HML4.out.alloc _) ⟨w4.heap.size, 0, none⟩ 1 1 [.bool true] rfl rfl (cell_one_new w4 _ _) (bool_oneCell _) (by unfold maxLen; omega) (by omega) (by simp; omega) ?_); intro v5 w5 hown5 hgrow5 _)
          | (go_wp2_with (at_builtin; refine wpList_append_own _ rfl (.tmp 27) (.tmp 32) 30 rfl (w3.heap.size + 1) 4 i2 (.bool false) 1 1 Tryd.underlying30 hk hx0 hx1 hx2 rfl (by decide) u6 k ((List.range k).map (meetV qs)) rfl (HML4.out.alloc _) ⟨w4.heap.size, 0, none⟩ 1 1 [.bool false] rfl rfl (cell_one_new w4 _ _) (bool_oneCell _) (by unfold maxLen; omega) (by omega) (by simp; omega) ?_); intro v5 w5 hown5 hgrow5 _)
        have HB5 : Hid (Below w3.heap.size w3 w5) := (HB4.out.alloc (by omega) _).grown hgrow5 (by simp; omega) (fun q hq => Nat.le_trans (by omega) (HML4.out.lt q hq).1)
        have hs5 : w3.heap.size + 1 < w5.heap.size := Nat.lt_of_lt_of_le hs4 (Nat.le_trans (by simp) hgrow5.size)
        have HBX5 : Hid (w5.ownsRow w3.heap.size 34 1 (.slice (some ⟨w3.heap.size, 0, none⟩) 1 1) 1 [.slice (some ⟨g3, 0, none⟩) qs.length c3]) := own_grow (HBX4.out.alloc _) (HML4.out.alloc _) (by decide) hgrow5
        have HML5 : Hid (w5.ownsRow (w3.heap.size + 1) 4 1 v5 (k + 1) ((List.range (k + 1)).map (meetV qs))) := by
          have e := HRG.out
          rw [Hid, e]
          exact hown5
        clear hown5 hgrow5 HML HML4 HBX HBX4
        go_wp2
        go_roundw
        case rel => exact ⟨k + 1, by omega, by go_num, HB5.out, hs5, HBX5.out, HML5.out⟩
        case measure => simp [intOf]; omega
    · have hki : ¬ (k : Int) < (qs.length : Int) := by omega
      obtain rfl : k = qs.length := by omega
      obtain ⟨mg, mc, rfl, hmg1, _⟩ := own_slice1 hml hp3
      clear hb hbx hml
      go_wp2_with fail
      generalize wr = WM at *
      have HPM : Hid (PF w1.heap.size WM (.slice (some ⟨g3, 0, none⟩) qs.length c3) qs.length (partF qs 0 0) xs3 nv3) := ((HP3.out.pf step00).keep HBr.out).congr fun j hj => partF_start hj
      have HAM : Hid (Apart nv3 qs.length) := HP3.out.apart
      have HB1M : Hid (Below w1.heap.size w1 WM) := HB13.out.trans (HBr.out.mono (by omega))
      go_loopw [8] (fun i wr => ∃ (k : Nat) (ov : Value) (ys : List Value) (mvs : Nat → Value), k ≤ qs.length ∧ i = .int .i64 k ∧ Below w1.heap.size w1 wr ∧ w3.heap.size + 1 < wr.heap.size ∧ wr.ownsRow w3.heap.size 34 1 (.slice (some ⟨w3.heap.size, 0, none⟩) 1 1) 1 [ov] ∧ wr.ownsRow (w3.heap.size + 1) 4 1 (.slice (some ⟨mg, 0, none⟩) qs.length mc) qs.length ((List.range qs.length).map (meetV qs)) ∧ PF w1.heap.size wr ov (qs.length + (skK qs k).length) (partF qs k 0) ys mvs ∧ Apart mvs (qs.length + (skK qs k).length)) (fun i _ => qs.length - (intOf i).toNat)
      case atStart => exact ⟨0, _, xs3, nv3, Nat.zero_le _, rfl, HB1M.out, hsz, HBX.out, HML.out, by rw [skK_zero]; exact HPM.out, by rw [skK_zero]; exact HAM.out⟩
      case round =>
        clear HPM HAM HB1M HBX HML
        obtain ⟨k, ov, ys, mvs, hkq, rfl, hb, hsz2, hbx, hml, hPk, hApk⟩ := hrel
        have HBk : Hid (Below w1.heap.size w1 wr) := hb
        have HBXk : Hid (wr.ownsRow w3.heap.size 34 1 (.slice (some ⟨w3.heap.size, 0, none⟩) 1 1) 1 [ov]) := hbx
        have HMLk : Hid (wr.ownsRow (w3.heap.size + 1) 4 1 (.slice (some ⟨mg, 0, none⟩) qs.length mc) qs.length ((List.range qs.length).map (meetV qs))) := hml
        have HPk : Hid (PF w1.heap.size wr ov (qs.length + (skK qs k).length) (partF qs k 0) ys mvs) := hPk
        have HAk : Hid (Apart mvs (qs.length + (skK qs k).length)) := hApk
        by_cases hkl : k < qs.length
        · have hki : (k : Int) < (qs.length : Int) := by omega
          clear hb hbx hml hPk hApk
          go_wp2_with fail
          generalize wr = WK at *
          go_loopw [9] (fun i wr => ∃ (t : Nat) (ov : Value) (ys : List Value) (mvs : Nat → Value), t ≤ qs[k].next.length ∧ i = .int .i64 t ∧ Below w1.heap.size w1 wr ∧ w3.heap.size + 1 < wr.heap.size ∧ wr.ownsRow w3.heap.size 34 1 (.slice (some ⟨w3.heap.size, 0, none⟩) 1 1) 1 [ov] ∧ wr.ownsRow (w3.heap.size + 1) 4 1 (.slice (some ⟨mg, 0, none⟩) qs.length mc) qs.length ((List.range qs.length).map (meetV qs)) ∧ PF w1.heap.size wr ov (qs.length + (skT qs k t).length) (partF qs k t) ys mvs ∧ Apart mvs (qs.length + (skT qs k t).length)) (fun i _ => qs[k].next.length - (intOf i).toNat)
          case atStart => exact ⟨0, ov, ys, mvs, Nat.zero_le _, rfl, HBk.out, hsz2, HBXk.out, HMLk.out, by rw [skT_zero]; exact HPk.out, by rw [skT_zero]; exact HAk.out⟩
          case round =>
            clear HBk HBXk HMLk HPk HAk
            obtain ⟨t, ov, ys, mvs, htq, rfl, hb, hsz3, hbx, hml, hPt, hApt⟩ := hrel
            have HBt : Hid (Below w1.heap.size w1 wr) := hb
            have HBXt : Hid (wr.ownsRow w3.heap.size 34 1 (.slice (some ⟨w3.heap.size, 0, none⟩) 1 1) 1 [ov]) := hbx
            have HMLt : Hid (wr.ownsRow (w3.heap.size + 1) 4 1 (.slice (some ⟨mg, 0, none⟩) qs.length mc) qs.length ((List.range qs.length).map (meetV qs))) := hml
            have HPt : Hid (PF w1.heap.size wr ov (qs.length + (skT qs k t).length) (partF qs k t) ys mvs) := hPt
            have HAt : Hid (Apart mvs (qs.length + (skT qs k t).length)) := hApt
            have dq : wr.cell? ⟨w3.heap.size, 0, none⟩ = some ov := by rw [hbx.cellAt 0 (by omega)]; rfl
            have df := hbx.frozenAt 0
            have hsk := skT_len HF3.out.1 (t := t) hkl
            obtain ⟨A4, c4, hv4, hg4⟩ := hPt.at
            obtain ⟨g4, hA4, hg4l, hg4r, hsc4, hfz4⟩ := hg4 k (by omega)
            subst hA4
            subst hv4
            have c0 := hsc4.c0
            have c7 := hsc4.c7
            rw [partF_self hkl] at c0
            obtain ⟨Mk, kk, hmk, hMk⟩ := own_len (hPt.own k (by omega))
            have hown := hPt.own k (by omega)
            rw [partF_self hkl] at hmk hMk hown
            have hpl : (partT qs k t).length = qs[k].next.length := by rw [partT_len]; simp [List.getD, hkl]
            have HPL : Hid _ := hpl
            simp only [hpl] at hmk hMk hown
            have HMK : Hid (mvs k = .slice Mk qs[k].next.length kk) := hmk
            rw [hmk] at c7 hown
            have HOWN : Hid (wr.ownsRow w1.heap.size 3 1 (.slice Mk qs[k].next.length kk) qs[k].next.length ((partT qs k t).map (Value.int .i64))) := hown
            clear hb hbx hml hPt hApt hg4 hsc4 hmk hpl
            by_cases htl : t < qs[k].next.length
            · have hti : (t : Int) < (qs[k].next.length : Int) := by omega
              by_cases h6 : qs[k].kind = 6
              · have HS6 : Hid _ := part_six hkl h6 t
                simp only [h6] at c0
                go_wp2
                go_roundw
                case rel =>
                  obtain ⟨e1, e2⟩ := HS6.out
                  exact ⟨k + 1, _, ys, mvs, by omega, by go_num, HBt.out, hsz3, HBXt.out, HMLt.out, by rw [e2]; exact HPt.out.congr fun j _ => e1 j, by rw [e2]; exact HAt.out⟩
                case measure => simp [intOf]; omega
              · obtain ⟨gl, hMk', hgl⟩ := hMk (by omega)
                subst hMk'
                have eD : qs.getD k step00 = qs[k] := by simp [List.getD, hkl]
                have hx := HF3.out.2 _ (List.getElem_mem hkl) _ (mem_of_getD htl)
                obtain ⟨m, hm⟩ := Int.eq_ofNat_of_zero_le hx.1
                have hmn : m < qs.length := by omega
                have hmi : (m : Int) < (qs.length : Int) := by omega
                have ct := hown.cellAt t (by omega)
                rw [List.getElem?_map, partT_get (by rw [eD]; exact htl), eD, hm, Option.map_some] at ct
                have ft := hown.frozenAt t
                have cm := HMLt.out.cellAt m (by omega)
                rw [List.getElem?_map, List.getElem?_range hmn, Option.map_some] at cm
                have HM : Hid (qs[k].next.getD t 0 = (m : Int)) := hm
                have HED : Hid (qs.getD k step00 = qs[k]) := eD
                have h6b : (qs[k].kind != 6) = true := by simpa using h6
                have h2 := HF3.out.1 _ (List.getElem_mem hkl)
                have HTS : Hid (t < (qs.getD k step00).next.length) := by rw [Hid, eD]; exact htl
                clear hown hx hm eD
                unfold meetV at cm
                cases hmb : meetB qs (m : Int)
                · rw [hmb] at cm
                  have HC : Hid (condB qs (qs.getD k step00) ((qs.getD k step00).next.getD t 0) = false) := by
                    rw [Hid, HED.out, HM.out]
                    show (decide _ && meetB qs (m : Int)) = false
                    rw [hmb, Bool.and_false]
                  clear hmb
                  go_wp2
                  go_roundw
                  case rel =>
                    have e2 := (partF_no hkl HTS.out HC.out 0).2
                    exact ⟨t + 1, _, ys, mvs, by omega, by go_num, HBt.out, hsz3, HBXt.out, HMLt.out, by rw [e2]; exact HPt.out.congr fun j _ => (partF_no hkl HTS.out HC.out j).1, by rw [e2]; exact HAt.out⟩
                  case measure => simp [intOf]; omega
                · rw [hmb] at cm
                  have HC : Hid (condB qs (qs.getD k step00) ((qs.getD k step00).next.getD t 0) = true) := by
                    rw [Hid, HED.out, HM.out]
                    show (decide _ && meetB qs (m : Int)) = true
                    rw [hmb, Bool.and_true, decide_eq_true h6]
                  have hkN : (k : Int) < (qs.length : Int) + ((skT qs k t).length : Int) := by omega
                  clear hmb
                  go_wp2_with fail
                  go_region_law (fail)
                  all_goals
                    have HZ : Hid ((qs.length : Int) + ((skT qs k t).length : Int) = ((qs.length + (skT qs k t).length : Nat) : Int)) := by rw [Hid]; omega
                    have hPX := HPt.out.turn (t := t) HAt.out (i := k) (by omega) (g := gl) (c := kk) (by rw [HMK.out, partF_self hkl]; simp only [HPL.out]) ((qs.length : Int) + ((skT qs k t).length : Int))
                    have HPX : Hid (PF w1.heap.size (wr.setCell ⟨gl, t, none⟩ (.int .i64 ((qs.length : Int) + ((skT qs k t).length : Int)))).drew _ (qs.length + (skT qs k t).length) _ ys mvs) := ⟨hPX.row, hPX.cells, hPX.own⟩
                    have HBXX : Hid ((wr.setCell ⟨gl, t, none⟩ (.int .i64 ((qs.length : Int) + ((skT qs k t).length : Int)))).drew.ownsRow w3.heap.size 34 1 (.slice (some ⟨w3.heap.size, 0, none⟩) 1 1) 1 [.slice (some ⟨g4, 0, none⟩) (qs.length + (skT qs k t).length) c4]) := own_store HBXt.out HOWN.out (by decide)
                    have HMLX : Hid ((wr.setCell ⟨gl, t, none⟩ (.int .i64 ((qs.length : Int) + ((skT qs k t).length : Int)))).drew.ownsRow (w3.heap.size + 1) 4 1 (.slice (some ⟨mg, 0, none⟩) qs.length mc) qs.length ((List.range qs.length).map (meetV qs))) := own_store HMLt.out HOWN.out (by decide)
                    have HB1X : Hid (Below w1.heap.size w1 (wr.setCell ⟨gl, t, none⟩ (.int .i64 ((qs.length : Int) + ((skT qs k t).length : Int)))).drew) := (HBt.out.setCell hgl _).drew
                    have hszX : w3.heap.size + 1 < (wr.setCell ⟨gl, t, none⟩ (.int .i64 ((qs.length : Int) + ((skT qs k t).length : Int)))).drew.heap.size := by
                      have h9 : (wr.setCell ⟨gl, t, none⟩ (.int .i64 ((qs.length : Int) + ((skT qs k t).length : Int)))).drew.heap.size = wr.heap.size := by simp
                      omega
                    clear hPX ct ft cm c0 c7 dq df hfz4
                    generalize (wr.setCell ⟨gl, t, none⟩ (.int .i64 ((qs.length : Int) + ((skT qs k t).length : Int)))).drew = WX at *
                    have dqX : WX.cell? ⟨w3.heap.size, 0, none⟩ = some (.slice (some ⟨g4, 0, none⟩) (qs.length + (skT qs k t).length) c4) := by rw [HBXX.out.cellAt 0 (by omega)]; rfl
                    have dfX := HBXX.out.frozenAt 0
                    have hs1X : w1.heap.size ≤ WX.heap.size := HB1X.out.size
                    go_wp2_with (at_builtin; refine wpList_append_own _ rfl (.tmp 84) (.tmp 88) 32 rfl w1.heap.size 62 i1 (.agg #[.int .i64 0, .int .i64 0, .int .i64 0, .int .i64 0, .int .i64 0, .int .i64 0, .int .i64 0, .slice none 0 0]) 8 80 Tryd.underlying32 hj hy0 hy1 hy2 rfl (by decide) (.slice (some ⟨g4, 0, none⟩) (qs.length + (skT qs k t).length) c4) (qs.length + (skT qs k t).length) ys rfl ((HPX.out.row.alloc _).alloc _) ⟨WX.heap.size + 1, 0, none⟩ 1 1 (cells8 (skipSt (m : Int)) (.slice (some ⟨WX.heap.size, 0, none⟩) 1 1)) rfl rfl (cells8_new (WX.alloc (.cells #[.int .i64 (m : Int)] 3)) (skipSt (m : Int)) _ _ (by simp)) (cells8_one _ _ _ _) (by unfold maxLen; omega) (by omega) (by simp; omega) ?_)
                    intro v8 w8 hown8 hgrow8 _
                    have hW2 : Below WX.heap.size WX ((WX.alloc (.cells #[.int .i64 (m : Int)] 3)).alloc (.cells #[.int .i64 6, .int .i64 0, .int .i64 0, .int .i64 0, .int .i64 0, .int .i64 0, .int .i64 0, .slice (some ⟨WX.heap.size, 0, none⟩) 1 1] 62)) := ((Below.refl _ _).alloc (Nat.le_refl _) _).alloc (by simp) _
                    have hnl : ((WX.alloc (.cells #[.int .i64 (m : Int)] 3)).alloc (.cells #[.int .i64 6, .int .i64 0, .int .i64 0, .int .i64 0, .int .i64 0, .int .i64 0, .int .i64 0, .slice (some ⟨WX.heap.size, 0, none⟩) 1 1] 62)).ownsRow w1.heap.size 3 1 (.slice (some ⟨WX.heap.size, 0, none⟩) 1 1) (skipSt (m : Int)).next.length ((skipSt (m : Int)).next.map (Value.int .i64)) := (World.ownsRow_lit WX #[.int .i64 (m : Int)] 1 hs1X (by decide) (by simp)).alloc _
                    have hPN := (HPX.out.keep hW2).snoc (s := skipSt (m : Int)) (nv := .slice (some ⟨WX.heap.size, 0, none⟩) 1 1) hnl hgrow8 hown8
                    have hb8 : Below w1.heap.size WX w8 := (hW2.mono hs1X).trans ((Below.refl _ _).grown hgrow8 (Nat.le_trans hs1X hW2.size) (fun q hq => (HPX.out.row.lt q hq).1))
                    have hBX8 : w8.ownsRow w3.heap.size 34 1 (.slice (some ⟨w3.heap.size, 0, none⟩) 1 1) 1 [.slice (some ⟨g4, 0, none⟩) (qs.length + (skT qs k t).length) c4] := own_grow (own_keepB HBXX.out hW2) (own_keepB HPX.out.row hW2) (by decide) hgrow8
                    have hML8 : w8.ownsRow (w3.heap.size + 1) 4 1 (.slice (some ⟨mg, 0, none⟩) qs.length mc) qs.length ((List.range qs.length).map (meetV qs)) := own_grow (own_keepB HMLX.out hW2) (own_keepB HPX.out.row hW2) (by decide) hgrow8
                    have hs8 : w3.heap.size + 1 < w8.heap.size := Nat.lt_of_lt_of_le hszX hb8.size
                    obtain ⟨A8, n8, c8, hv8⟩ := own_is_slice hown8
                    subst hv8
                    have dq8 : w8.cell? ⟨w3.heap.size, 0, none⟩ = some (.slice (some ⟨g4, 0, none⟩) (qs.length + (skT qs k t).length) c4) := by rw [hBX8.cellAt 0 (by omega)]; rfl
                    have df8 := hBX8.frozenAt 0
                    have HBXN : Hid ((w8.setCell ⟨w3.heap.size, 0, none⟩ (.slice A8 n8 c8)).ownsRow w3.heap.size 34 1 (.slice (some ⟨w3.heap.size, 0, none⟩) 1 1) 1 [.slice A8 n8 c8]) := (hBX8.stored 0 (.slice A8 n8 c8)).1
                    have HMLN : Hid ((w8.setCell ⟨w3.heap.size, 0, none⟩ (.slice A8 n8 c8)).ownsRow (w3.heap.size + 1) 4 1 (.slice (some ⟨mg, 0, none⟩) qs.length mc) qs.length ((List.range qs.length).map (meetV qs))) := own_store hML8 hBX8 (by decide)
                    have hPN2 := PF.box (q := 0) (u := .slice A8 n8 c8) hPN hBX8
                    have HSKN : Hid (skT qs k (t + 1) = skT qs k t ++ [(m : Int)]) := by
                      have h9 := HC.out
                      rw [HED.out] at h9
                      rw [Hid, skT_succ hkl htl, if_pos h9, HM.out]
                    have HLN : Hid ((skT qs k (t + 1)).length = (skT qs k t).length + 1) := by rw [Hid, HSKN.out]; simp
                    have hPN3 := PF.congr (G := partF qs k (t + 1)) hPN2 (fun j _ => by
                      rw [partF_yes hkl HTS.out HC.out j, HED.out, HM.out, ← HZ.out])
                    have HPN : Hid _ := hPN3
                    have HAN : Hid (Apart (fun i => if i = qs.length + (skT qs k t).length then .slice (some ⟨WX.heap.size, 0, none⟩) 1 1 else mvs i) (qs.length + (skT qs k t).length + 1)) := by
                      intro i j q hi hj hij
                      have old : ∀ j, j < qs.length + (skT qs k t).length → ∀ q, (mvs j).ownBlock = some q → q < WX.heap.size := fun j hj q hq => ((HPX.out.own j hj).lt q hq).2
                      by_cases e1 : i = qs.length + (skT qs k t).length <;> by_cases e2 : j = qs.length + (skT qs k t).length
                      · omega
                      · simp only [if_pos e1, if_neg e2]
                        intro hq hq2
                        simp [Value.ownBlock] at hq
                        have a2 := old j (by omega) q hq2
                        omega
                      · simp only [if_neg e1, if_pos e2]
                        intro hq hq2
                        simp [Value.ownBlock] at hq2
                        have a2 := old i (by omega) q hq
                        omega
                      · simp only [if_neg e1, if_neg e2]
                        exact HAt.out i j q (by omega) (by omega) hij
                    have HBN : Hid (Below w1.heap.size w1 (w8.setCell ⟨w3.heap.size, 0, none⟩ (.slice A8 n8 c8))) := (HB1X.out.trans hb8).setCell (by show w1.heap.size ≤ w3.heap.size; omega) _
                    have hszN : w3.heap.size + 1 < (w8.setCell ⟨w3.heap.size, 0, none⟩ (.slice A8 n8 c8)).heap.size := by simpa [World.setCell] using hs8
                    clear hPN hPN2 hPN3 hnl hW2 hb8 hBX8 hML8 hown8 hgrow8 dqX dfX
                    go_wp2
                    go_roundw
                    case rel =>
                      have e := HLN.out
                      exact ⟨t + 1, .slice A8 n8 c8, _, _, by omega, by go_num, HBN.out, hszN, HBXN.out, HMLN.out, by rw [e]; exact HPN.out, by rw [e]; exact HAN.out⟩
                    case measure => simp [intOf]; omega
            · have hti : ¬ (t : Int) < (qs[k].next.length : Int) := by omega
              obtain rfl : t = qs[k].next.length := by omega
              have HE1 : Hid (∀ j, partF qs (k + 1) 0 j = partF qs k qs[k].next.length j) := by
                intro j
                have := partF_next hkl j
                rwa [show qs.getD k step00 = qs[k] by simp [List.getD, hkl]] at this
              have HE2 : Hid (skK qs (k + 1) = skT qs k qs[k].next.length) := skK_succ hkl
              clear HOWN hown hMk
              go_wp2
              go_roundw
              case rel => exact ⟨k + 1, _, ys, mvs, by omega, by go_num, HBt.out, hsz3, HBXt.out, HMLt.out, by rw [HE2.out]; exact HPt.out.congr fun j _ => HE1.out j, by rw [HE2.out]; exact HAt.out⟩
              case measure => simp [intOf]; omega
        · have hki : ¬ (k : Int) < (qs.length : Int) := by omega
          obtain rfl : k = qs.length := by omega
          have dq : wr.cell? ⟨w3.heap.size, 0, none⟩ = some ov := by rw [hbx.cellAt 0 (by omega)]; rfl
          have HPO : Hid (PO w1.heap.size wr ov (partL qs) ys mvs) := hPk.po hApk
          have hsk := skK_len HF3.out.1 qs.length
          have hpl : (partL qs).length ≤ 1000 := by simp [partL]; omega
          obtain ⟨A4, c4, hv4, _⟩ := HPO.out.slice
          subst hv4
          have r4 := cell_keep hb R1.out
          have rf4 := (hb.frozen (p := ⟨w.heap.size + 1, 0, none⟩) hsB).trans RF1.out
          clear hb hbx hml hPk hApk
          go_wp2_with fail
          refine specOk_any _ (partL qs) _ HPO.out.at (by omega) (fun s hs => Nat.le_trans (part_two HF3.out.1 s hs) (by omega)) fun w9 hb9 => ?_
          have HB9 : Hid (Below w.heap.size w w9) := HB1.out.trans ((HBk.out.trans (hb9.mono HBk.out.size)).mono HB1.out.size)
          have dq9 := cell_keep hb9 dq
          have r9 := cell_keep hb9 r4
          have rf9 := (hb9.frozen (p := ⟨w.heap.size + 1, 0, none⟩) (cell_lt r4)).trans rf4
          have HPO9 : Hid (PO w1.heap.size w9 (.slice A4 (partL qs).length c4) (partL qs) ys mvs) := HPO.out.keep hb9
          have HT : Hid (tidyL ss rs = partL qs) := by rw [Hid, tidyL, HQS.out]
          clear hb9 dq r4 rf4
          cases hokp : okB (partL qs)
          · have HF : Hid (okB (tidyL ss rs) = false) := by rw [Hid, HT.out]; exact hokp
            clear hokp
            go_wp2
            refine bodyPost_ret (v := .tuple #[.agg #[.slice none 0 0], .bool false]) (by simp [results, Tryd.results72, go_sem, r9]) rfl ?_
            exact HN.out rs _ (HB9.out.setCell (by simp) _) HRS.out HF.out
          · have HF : Hid (okB (tidyL ss rs) = true) := by rw [Hid, HT.out]; exact hokp
            clear hokp
            go_wp2
            refine bodyPost_ret (v := .tuple #[.agg #[.slice A4 (partL qs).length c4], .bool true]) (by simp [results, Tryd.results72, go_sem, r9]) rfl ?_
            refine HY.out _ rs ys mvs _ (HB9.out.setCell (by simp) _) HRS.out HF.out ?_
            rw [HT.out]
            exact (HPO9.out.below (a := ⟨w.heap.size + 1, 0, none⟩) hsB _).lower HB1.out.size
end Go.Proofs.YtljlgffkhocgkaaDoor
namespace Go.Proofs.YtljlgffkhocgkaaDoor
open Go.RowKit

set_option maxHeartbeats 1000000 in
theorem specTidy_no {Q : Ending → World → Prop} (v : Value) (ss : List St) (w : World) (h : StepsAt w v ss) (hl : ss.length ≤ 1048576) (hls : ∀ s ∈ ss, s.next.length ≤ 1048576) (hok : okB ss = false)
    (hQ : ∀ w', Below w.heap.size w w' → Q (.returned (.tuple #[.agg #[.slice none 0 0], .bool false])) w') :
    Calls Tryd.prog 72 #[.agg #[v]] w Q := by
  have HQ : Hid _ := hQ
  clear hQ
  obtain ⟨ao, b, o, cap, rfl, ha, hc⟩ := id h
  clear ha hc
  have HH : Hid (StepsAt w (.slice ao ss.length cap) ss) := h
  have HL : Hid _ := hls
  clear hls h
  have hb0 : ∀ O O', Below w.heap.size w ((w.alloc O).alloc O') := fun O O' => ((Below.refl _ _).alloc (Nat.le_refl _) O).alloc (by simp) O'
  go_enter Tryd.func72, Tryd.ntmps72
  go_wp2_with fail
  refine specOk_any _ ss _ (HH.out.keep (hb0 _ _)) hl HL.out fun w1 hb1 => ?_
  rw [hok]
  have hbA : Below w.heap.size w w1 := (hb0 _ _).trans (hb1.mono (by simp; omega))
  have r1 : w1.cell? ⟨w.heap.size + 1, 0, none⟩ = some (.slice none 0 0) := cell_keep hb1 (by simp [go_sem])
  have rf1 : w1.frozen? ⟨w.heap.size + 1, 0, none⟩ = false := (hb1.frozen (by simp)).trans (by simp [go_sem])
  clear hb1 hb0
  go_wp2
  exact bodyPost_ret (v := .tuple #[.agg #[.slice none 0 0], .bool false]) (by simp [results, Tryd.results72, go_sem, r1]) rfl (HQ.out _ (hbA.setCell (by simp) _))

/-- What FlowTidy tells of any program: nothing, or the tidy one. -/
def TidyOr (ss : List St) (ts : List St) (b : Bool) : Prop :=
  (b = false ∧ ts = [] ∧ (okB ss = false ∨ ∃ rs, okB ss = true ∧ IsReach ss rs ∧ okB (tidyL ss rs) = false)) ∨ (b = true ∧ ∃ rs, okB ss = true ∧ IsReach ss rs ∧ ts = tidyL ss rs ∧ okB (tidyL ss rs) = true)

theorem TidyOr.unique {ss a b : List St} {x y : Bool} (ha : TidyOr ss a x) (hb : TidyOr ss b y) : a = b ∧ x = y := by
  rcases ha with ⟨rfl, rfl, h1⟩ | ⟨rfl, r1, h1, h2, rfl, h3⟩ <;> rcases hb with ⟨rfl, rfl, g1⟩ | ⟨rfl, r2, g1, g2, rfl, g3⟩
  · exact ⟨rfl, rfl⟩
  · rcases h1 with h1 | ⟨r, h1, h2, h3⟩
    · rw [h1] at g1; cases g1
    · rw [h2.unique g2, g3] at h3; cases h3
  · rcases g1 with g1 | ⟨r, g1, g2, g3⟩
    · rw [g1] at h1; cases h1
    · rw [g2.unique h2, h3] at g3; cases g3
  · rw [h2.unique g2]; exact ⟨rfl, rfl⟩

theorem specTidy_any {Q : Ending → World → Prop} (v : Value) (ss : List St) (w : World) (h : StepsAt w v ss) (hl : ss.length ≤ 1048576) (hls : ∀ s ∈ ss, s.next.length ≤ 1048576)
    (hQ : ∀ v' ts b xs nvs w', Below w.heap.size w w' → TidyOr ss ts b → PO w.heap.size w' v' ts xs nvs → Q (.returned (.tuple #[.agg #[v'], .bool b])) w') :
    Calls Tryd.prog 72 #[.agg #[v]] w Q := by
  cases hok : okB ss
  · exact specTidy_no v ss w h hl hls hok fun w' h1 => hQ _ [] false [] (fun _ => .slice none 0 0) w' h1 (Or.inl ⟨rfl, rfl, Or.inl hok⟩) (PO.nil _ _ _)
  · exact specTidy_yes v ss w h hok (fun rs w' h1 h2 h3 => hQ _ [] false [] (fun _ => .slice none 0 0) w' h1 (Or.inl ⟨rfl, rfl, Or.inr ⟨rs, hok, h2, h3⟩⟩) (PO.nil _ _ _)) (fun v' rs xs nvs w' h1 h2 h3 h4 => hQ v' _ true xs nvs w' h1 (Or.inr ⟨rfl, rs, hok, h2, rfl, h3⟩) h4)
end Go.Proofs.YtljlgffkhocgkaaDoor
