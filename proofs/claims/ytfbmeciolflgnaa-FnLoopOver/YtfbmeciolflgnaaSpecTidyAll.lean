/- What the model's FlowTidy answers. -/
import Derived.Test.YtfbmeciolflgnaaSpecFirst
import Derived.Test.YtfbmeciolflgnaaProgFG
import Derived.Test.YtfbmeciolflgnaaTidy26
namespace Go.Proofs.Ytfbmeciolflgnaa
open Go.RowKit

def tidyL (ss : List St) (rs : List Bool) : List St := partL (firstL (pruneK ss rs ss.length))

theorem infoBool2 : (Try.prog.info? 4).map (fun i => (i.zero, i.size, i.bytes)) = some (some (.bool false), 1, 1) := by kernel_rfl

theorem bool_oneCell (x : Bool) : ∀ u ∈ [Value.bool x], u.oneCell' = true := by
  intro u hu; simp at hu; subst hu; rfl

def meetB (qs : List St) (x : Int) : Bool := decide (1 < ways qs x)

def meetV (qs : List St) (j : Nat) : Value := .bool (meetB qs (j : Int))

set_option maxRecDepth 100000 in
set_option maxHeartbeats 8000000 in
theorem specTidy_yes {Q : Ending → World → Prop} (v : Value) (ss : List St) (w : World) (h : StepsAt w v ss) (hok : okB ss = true)
    (hno : ∀ rs w', Below w.heap.size w w' → IsReach ss rs → okB (tidyL ss rs) = false → Q (.returned (.tuple #[.agg #[.slice none 0 0], .bool false])) w')
    (hyes : ∀ v' rs xs nvs w', Below w.heap.size w w' → IsReach ss rs → okB (tidyL ss rs) = true → PO w.heap.size w' v' (tidyL ss rs) xs nvs → Q (.returned (.tuple #[.agg #[v'], .bool true])) w') :
    Calls Try.prog 64 #[.agg #[v]] w Q := by
  have HN : Hid _ := hno
  have HY : Hid _ := hyes
  clear hno hyes
  obtain ⟨hn1, hn2⟩ := ok_len hok
  have HOK : Hid (okB ss = true) := hok
  obtain ⟨ao, b, o, cap, rfl, ha, hc⟩ := id h
  clear ha hc
  have HH : Hid (StepsAt w (.slice ao ss.length cap) ss) := h
  clear h
  obtain ⟨i0, hi, hz0, hz1, hz2⟩ := info_parts infoInt2
  obtain ⟨i1, hj, hy0, hy1, hy2⟩ := info_parts infoStep1
  obtain ⟨i2, hk, hx0, hx1, hx2⟩ := info_parts infoBool2
  have hb0 : ∀ O O', Below w.heap.size w ((w.alloc O).alloc O') := fun O O' => ((Below.refl _ _).alloc (Nat.le_refl _) O).alloc (by simp) O'
  go_enter Try.func64, Try.ntmps64
  go_wp2_with fail
  refine specOk_any _ ss _ (HH.out.keep (hb0 _ _)) (by omega) (ok_nexts HOK.out) fun w1 hb1 => ?_
  rw [hok]
  have hbA : Below w.heap.size w w1 := (hb0 _ _).trans (hb1.mono (by simp; omega))
  have q1 : w1.cell? ⟨w.heap.size, 0, none⟩ = some (.slice ao ss.length cap) := cell_keep hb1 (by simp [go_sem])
  have r1 : w1.cell? ⟨w.heap.size + 1, 0, none⟩ = some (.slice none 0 0) := cell_keep hb1 (by simp [go_sem])
  have rf1 : w1.frozen? ⟨w.heap.size + 1, 0, none⟩ = false := (hb1.frozen (by simp)).trans (by simp [go_sem])
  have hsB : w.heap.size + 1 < w1.heap.size := cell_lt r1
  have R1 : Hid _ := r1
  have RF1 : Hid _ := rf1
  have HB1 : Hid (Below w.heap.size w w1) := hbA
  clear hb1 hb0 hok
  go_wp2_with fail
  refine l2Prune_any _ ss _ (HH.out.keep hbA) HOK.out fun v2 rs xs2 nv2 w2 hrs hP2 hb2 => ?_
  have HRS : Hid (IsReach ss rs) := hrs
  obtain ⟨hfit, hp1, hp2⟩ := prune_fit HOK.out hrs
  have HFIT : Hid (FitN (pruneK ss rs ss.length)) := hfit
  have hbB : Below w.heap.size w w2 := hbA.trans (hb2.mono hbA.size)
  have r2 := cell_keep hb2 r1
  have rf2 := (hb2.frozen (p := ⟨w.heap.size + 1, 0, none⟩) (cell_lt r1)).trans rf1
  have HP2 : Hid (PO w1.heap.size w2 v2 (pruneK ss rs ss.length) xs2 nv2) := hP2
  have s12 := hb2.size
  have HB12 : Hid (Below w1.heap.size w1 w2) := hb2
  obtain ⟨A2, c2, hv2, _⟩ := hP2.slice
  subst hv2
  clear hb2 hP2 q1 r1 rf1 hrs hfit
  go_wp2_with fail
  refine l2First_any w1.heap.size _ (pruneK ss rs ss.length) xs2 nv2 _ HP2.out s12 hp1 (by omega) HFIT.out.1 fun v3 xs3 nv3 w3 hP3 hb3 => ?_
  obtain ⟨hfit3, hp3, hp4⟩ := first_fit HFIT.out hp1
  obtain ⟨qs, hqs⟩ : ∃ qs, qs = firstL (pruneK ss rs ss.length) := ⟨_, rfl⟩
  rw [← hqs] at hP3 hfit3 hp3 hp4
  have HQS : Hid (qs = firstL (pruneK ss rs ss.length)) := hqs
  have HF3 : Hid (FitN qs) := hfit3
  have hq61 : qs.length ≤ 61 := by omega
  have hbC : Below w.heap.size w w3 := hbB.trans (hb3.mono hbB.size)
  have r3 := cell_keep hb3 r2
  have rf3 := (hb3.frozen (p := ⟨w.heap.size + 1, 0, none⟩) (cell_lt r2)).trans rf2
  have HP3 : Hid (PO w1.heap.size w3 v3 qs xs3 nv3) := hP3
  have s23 := hb3.size
  obtain ⟨A3, c3, hv3, hg3⟩ := hP3.slice
  obtain ⟨g3, rfl, hg3l, hg3r⟩ := hg3 0 hp3
  subst hv3
  have HB13 : Hid (Below w1.heap.size w1 w3) := HB12.out.trans (hb3.mono s12)
  clear hb3 hP3 r2 rf2 hg3 hqs hfit3 HP2 hp4 hp1 hp2 HFIT hbB hbA r3 rf3 hbC HB12
  go_wp2_with fail
  have hBX : ((w3.alloc (.cells #[.slice (some ⟨g3, 0, none⟩) qs.length c3] 30)).alloc (.cells #[] 4)).ownsRow w3.heap.size 30 1 (.slice (some ⟨w3.heap.size, 0, none⟩) 1 1) 1 [.slice (some ⟨g3, 0, none⟩) qs.length c3] := (World.ownsRow_lit _ #[.slice (some ⟨g3, 0, none⟩) qs.length c3] 1 (Nat.le_refl _) (by decide) (by simp)).alloc _
  have hML : ((w3.alloc (.cells #[.slice (some ⟨g3, 0, none⟩) qs.length c3] 30)).alloc (.cells #[] 4)).ownsRow (w3.heap.size + 1) 4 1 (.slice (some ⟨w3.heap.size + 1, 0, none⟩) 0 0) 0 [] := by
    have h0 := World.ownsRow_lit (base := w3.heap.size + 1) (e := 4) (size := 1) (w3.alloc (.cells #[.slice (some ⟨g3, 0, none⟩) qs.length c3] 30)) #[] 0 (by simp) (by decide) (by simp)
    simpa using h0
  have hB3 : Below w3.heap.size w3 ((w3.alloc (.cells #[.slice (some ⟨g3, 0, none⟩) qs.length c3] 30)).alloc (.cells #[] 4)) := ((Below.refl _ _).alloc (Nat.le_refl _) _).alloc (by simp) _
  have HBX : Hid _ := hBX
  have HML : Hid _ := hML
  have HB3 : Hid _ := hB3
  have hsL : w3.heap.size + 1 < ((w3.alloc (.cells #[.slice (some ⟨g3, 0, none⟩) qs.length c3] 30)).alloc (.cells #[] 4)).heap.size := by simp
  clear hBX hML hB3
  generalize ((w3.alloc (.cells #[.slice (some ⟨g3, 0, none⟩) qs.length c3] 30)).alloc (.cells #[] 4)) = wL at *
  go_loopw [6, 7] (fun mv i wr => ∃ k : Nat, k ≤ qs.length ∧ i = .int .i64 k ∧ Below w3.heap.size w3 wr ∧ w3.heap.size + 1 < wr.heap.size ∧ wr.ownsRow w3.heap.size 30 1 (.slice (some ⟨w3.heap.size, 0, none⟩) 1 1) 1 [.slice (some ⟨g3, 0, none⟩) qs.length c3] ∧ wr.ownsRow (w3.heap.size + 1) 4 1 mv k ((List.range k).map (meetV qs))) (fun _ i _ => qs.length - (intOf i).toNat)
  case atStart => exact ⟨0, Nat.zero_le _, rfl, HB3.out, hsL, HBX.out, HML.out⟩
  case round =>
    clear HBX HML HB3 hsL
    obtain ⟨k, hkq, rfl, hb, hsz, hbx, hml⟩ := hrel
    have HBr : Hid (Below w3.heap.size w3 wr) := hb
    have HBX : Hid (wr.ownsRow w3.heap.size 30 1 (.slice (some ⟨w3.heap.size, 0, none⟩) 1 1) 1 [.slice (some ⟨g3, 0, none⟩) qs.length c3]) := hbx
    have HML : Hid (wr.ownsRow (w3.heap.size + 1) 4 1 u6 k ((List.range k).map (meetV qs))) := hml
    by_cases hkl : k < qs.length
    · have hki : (k : Int) < (qs.length : Int) := by omega
      have dq : wr.cell? ⟨w3.heap.size, 0, none⟩ = some (.slice (some ⟨g3, 0, none⟩) qs.length c3) := by rw [hbx.cellAt 0 (by omega)]; rfl
      have HWK : Hid (ways qs (k : Int) ≤ 200) := by
        have h9 := waysK_le HF3.out.1 qs.length (k : Int)
        rw [waysK_all] at h9
        exact Nat.le_trans h9 (by omega)
      have HRG : Hid ((List.range (k + 1)).map (meetV qs) = (List.range k).map (meetV qs) ++ [Value.bool (meetB qs (k : Int))]) := by
        rw [Hid, List.range_succ, List.map_append]; rfl
      clear hb hbx hml
      go_wp2_with fail
      refine l2Ways_any _ qs (k : Int) _ (HP3.out.at.keep HBr.out) (by omega) HF3.out.1 fun w4 hb4 => ?_
      have HB4 : Hid (Below w3.heap.size w3 w4) := HBr.out.trans (hb4.mono HBr.out.size)
      have hs4 : w3.heap.size + 1 < w4.heap.size := Nat.lt_of_lt_of_le hsz hb4.size
      have HBX4 : Hid (w4.ownsRow w3.heap.size 30 1 (.slice (some ⟨w3.heap.size, 0, none⟩) 1 1) 1 [.slice (some ⟨g3, 0, none⟩) qs.length c3]) := own_keepB HBX.out hb4
      have HML4 : Hid (w4.ownsRow (w3.heap.size + 1) 4 1 u6 k ((List.range k).map (meetV qs))) := own_keepB HML.out hb4
      have hwk := HWK.out
      have HMB : Hid (meetB qs (k : Int) = decide (1 < ways qs (k : Int))) := rfl
      clear hb4 dq
      by_cases hm : 1 < ways qs (k : Int)
      all_goals
        first | (have hmi : (1 : Int) < (ways qs (k : Int) : Int) := by omega) | (have hmi : decide ((1 : Int) < (ways qs (k : Int) : Int)) = false := decide_eq_false (by omega))
        first | (rw [decide_eq_true hm] at HMB) | (rw [decide_eq_false hm] at HMB)
        rw [HMB.out] at HRG
        first
          | (go_wp2_with (at_builtin; refine wpList_append_own _ rfl (.tmp 27) (.tmp 32) 39 rfl (w3.heap.size + 1) 4 i2 (.bool false) 1 1 Try.underlying39 hk hx0 hx1 hx2 rfl (by decide) u6 k ((List.range k).map (meetV qs)) rfl (HML4.out.alloc _) ⟨w4.heap.size, 0, none⟩ 1 1 [.bool true] rfl rfl (cell_one_new w4 _ _) (bool_oneCell _) (by unfold maxLen; omega) (by omega) (by simp; omega) ?_); intro v5 w5 hown5 hgrow5 _)
          | (go_wp2_with (at_builtin; refine wpList_append_own _ rfl (.tmp 27) (.tmp 32) 39 rfl (w3.heap.size + 1) 4 i2 (.bool false) 1 1 Try.underlying39 hk hx0 hx1 hx2 rfl (by decide) u6 k ((List.range k).map (meetV qs)) rfl (HML4.out.alloc _) ⟨w4.heap.size, 0, none⟩ 1 1 [.bool false] rfl rfl (cell_one_new w4 _ _) (bool_oneCell _) (by unfold maxLen; omega) (by omega) (by simp; omega) ?_); intro v5 w5 hown5 hgrow5 _)
        have HB5 : Hid (Below w3.heap.size w3 w5) := (HB4.out.alloc (by omega) _).grown hgrow5 (by simp; omega) (fun q hq => Nat.le_trans (by omega) (HML4.out.lt q hq).1)
        have hs5 : w3.heap.size + 1 < w5.heap.size := Nat.lt_of_lt_of_le hs4 (Nat.le_trans (by simp) hgrow5.size)
        have HBX5 : Hid (w5.ownsRow w3.heap.size 30 1 (.slice (some ⟨w3.heap.size, 0, none⟩) 1 1) 1 [.slice (some ⟨g3, 0, none⟩) qs.length c3]) := own_grow (HBX4.out.alloc _) (HML4.out.alloc _) (by decide) hgrow5
        have HML5 : Hid (w5.ownsRow (w3.heap.size + 1) 4 1 v5 (k + 1) ((List.range (k + 1)).map (meetV qs))) := by
          have e := HRG.out
          rw [Hid, e]
          exact hown5
        clear hown5 hgrow5 HML HML4 HBX HBX4
        go_wp2
        go_roundw
        case rel => exact ⟨k + 1, by omega, by go_num, HB5.out, hs5, HBX5.out, HML5.out⟩
        case measure => simp [intOf]; omega
    · have hki : ¬ (k : Int) < (qs.length : Int) := by omega
      obtain rfl : k = qs.length := by omega
      obtain ⟨mg, mc, rfl, hmg1, _⟩ := own_slice1 hml hp3
      clear hb hbx hml
      go_wp2_with fail
      generalize wr = WM at *
      have HPM : Hid (PF w1.heap.size WM (.slice (some ⟨g3, 0, none⟩) qs.length c3) qs.length (partF qs 0 0) xs3 nv3) := ((HP3.out.pf step00).keep HBr.out).congr fun j hj => partF_start hj
      have HAM : Hid (Apart nv3 qs.length) := HP3.out.apart
      have HB1M : Hid (Below w1.heap.size w1 WM) := HB13.out.trans (HBr.out.mono (by omega))
      go_loopw [8] (fun i wr => ∃ (k : Nat) (ov : Value) (ys : List Value) (mvs : Nat → Value), k ≤ qs.length ∧ i = .int .i64 k ∧ Below w1.heap.size w1 wr ∧ w3.heap.size + 1 < wr.heap.size ∧ wr.ownsRow w3.heap.size 30 1 (.slice (some ⟨w3.heap.size, 0, none⟩) 1 1) 1 [ov] ∧ wr.ownsRow (w3.heap.size + 1) 4 1 (.slice (some ⟨mg, 0, none⟩) qs.length mc) qs.length ((List.range qs.length).map (meetV qs)) ∧ PF w1.heap.size wr ov (qs.length + (skK qs k).length) (partF qs k 0) ys mvs ∧ Apart mvs (qs.length + (skK qs k).length)) (fun i _ => qs.length - (intOf i).toNat)
      case atStart => exact ⟨0, _, xs3, nv3, Nat.zero_le _, rfl, HB1M.out, hsz, HBX.out, HML.out, by rw [skK_zero]; exact HPM.out, by rw [skK_zero]; exact HAM.out⟩
      case round =>
        clear HPM HAM HB1M HBX HML
        obtain ⟨k, ov, ys, mvs, hkq, rfl, hb, hsz2, hbx, hml, hPk, hApk⟩ := hrel
        have HBk : Hid (Below w1.heap.size w1 wr) := hb
        have HBXk : Hid (wr.ownsRow w3.heap.size 30 1 (.slice (some ⟨w3.heap.size, 0, none⟩) 1 1) 1 [ov]) := hbx
        have HMLk : Hid (wr.ownsRow (w3.heap.size + 1) 4 1 (.slice (some ⟨mg, 0, none⟩) qs.length mc) qs.length ((List.range qs.length).map (meetV qs))) := hml
        have HPk : Hid (PF w1.heap.size wr ov (qs.length + (skK qs k).length) (partF qs k 0) ys mvs) := hPk
        have HAk : Hid (Apart mvs (qs.length + (skK qs k).length)) := hApk
        by_cases hkl : k < qs.length
        · have hki : (k : Int) < (qs.length : Int) := by omega
          clear hb hbx hml hPk hApk
          go_wp2_with fail
          generalize wr = WK at *
          go_loopw [9] (fun i wr => ∃ (t : Nat) (ov : Value) (ys : List Value) (mvs : Nat → Value), t ≤ qs[k].next.length ∧ i = .int .i64 t ∧ Below w1.heap.size w1 wr ∧ w3.heap.size + 1 < wr.heap.size ∧ wr.ownsRow w3.heap.size 30 1 (.slice (some ⟨w3.heap.size, 0, none⟩) 1 1) 1 [ov] ∧ wr.ownsRow (w3.heap.size + 1) 4 1 (.slice (some ⟨mg, 0, none⟩) qs.length mc) qs.length ((List.range qs.length).map (meetV qs)) ∧ PF w1.heap.size wr ov (qs.length + (skT qs k t).length) (partF qs k t) ys mvs ∧ Apart mvs (qs.length + (skT qs k t).length)) (fun i _ => qs[k].next.length - (intOf i).toNat)
          case atStart => exact ⟨0, ov, ys, mvs, Nat.zero_le _, rfl, HBk.out, hsz2, HBXk.out, HMLk.out, by rw [skT_zero]; exact HPk.out, by rw [skT_zero]; exact HAk.out⟩
          case round =>
            clear HBk HBXk HMLk HPk HAk
            obtain ⟨t, ov, ys, mvs, htq, rfl, hb, hsz3, hbx, hml, hPt, hApt⟩ := hrel
            have HBt : Hid (Below w1.heap.size w1 wr) := hb
            have HBXt : Hid (wr.ownsRow w3.heap.size 30 1 (.slice (some ⟨w3.heap.size, 0, none⟩) 1 1) 1 [ov]) := hbx
            have HMLt : Hid (wr.ownsRow (w3.heap.size + 1) 4 1 (.slice (some ⟨mg, 0, none⟩) qs.length mc) qs.length ((List.range qs.length).map (meetV qs))) := hml
            have HPt : Hid (PF w1.heap.size wr ov (qs.length + (skT qs k t).length) (partF qs k t) ys mvs) := hPt
            have HAt : Hid (Apart mvs (qs.length + (skT qs k t).length)) := hApt
            have dq : wr.cell? ⟨w3.heap.size, 0, none⟩ = some ov := by rw [hbx.cellAt 0 (by omega)]; rfl
            have df := hbx.frozenAt 0
            have hsk := skT_len HF3.out.1 (t := t) hkl
            obtain ⟨A4, c4, hv4, hg4⟩ := hPt.at
            obtain ⟨g4, hA4, hg4l, hg4r, hsc4, hfz4⟩ := hg4 k (by omega)
            subst hA4
            subst hv4
            have c0 := hsc4.c0
            have c7 := hsc4.c7
            rw [partF_self hkl] at c0
            obtain ⟨Mk, kk, hmk, hMk⟩ := own_len (hPt.own k (by omega))
            have hown := hPt.own k (by omega)
            rw [partF_self hkl] at hmk hMk hown
            have hpl : (partT qs k t).length = qs[k].next.length := by rw [partT_len]; simp [List.getD, hkl]
            have HPL : Hid _ := hpl
            simp only [hpl] at hmk hMk hown
            have HMK : Hid (mvs k = .slice Mk qs[k].next.length kk) := hmk
            rw [hmk] at c7 hown
            have HOWN : Hid (wr.ownsRow w1.heap.size 3 1 (.slice Mk qs[k].next.length kk) qs[k].next.length ((partT qs k t).map (Value.int .i64))) := hown
            clear hb hbx hml hPt hApt hg4 hsc4 hmk hpl
            by_cases htl : t < qs[k].next.length
            · have hti : (t : Int) < (qs[k].next.length : Int) := by omega
              by_cases h6 : qs[k].kind = 6
              · have HS6 : Hid _ := part_six hkl h6 t
                simp only [h6] at c0
                go_wp2
                go_roundw
                case rel =>
                  obtain ⟨e1, e2⟩ := HS6.out
                  exact ⟨k + 1, _, ys, mvs, by omega, by go_num, HBt.out, hsz3, HBXt.out, HMLt.out, by rw [e2]; exact HPt.out.congr fun j _ => e1 j, by rw [e2]; exact HAt.out⟩
                case measure => simp [intOf]; omega
              · obtain ⟨gl, hMk', hgl⟩ := hMk (by omega)
                subst hMk'
                have eD : qs.getD k step00 = qs[k] := by simp [List.getD, hkl]
                have hx := HF3.out.2 _ (List.getElem_mem hkl) _ (mem_of_getD htl)
                obtain ⟨m, hm⟩ := Int.eq_ofNat_of_zero_le hx.1
                have hmn : m < qs.length := by omega
                have hmi : (m : Int) < (qs.length : Int) := by omega
                have ct := hown.cellAt t (by omega)
                rw [List.getElem?_map, partT_get (by rw [eD]; exact htl), eD, hm, Option.map_some] at ct
                have ft := hown.frozenAt t
                have cm := HMLt.out.cellAt m (by omega)
                rw [List.getElem?_map, List.getElem?_range hmn, Option.map_some] at cm
                have HM : Hid (qs[k].next.getD t 0 = (m : Int)) := hm
                have HED : Hid (qs.getD k step00 = qs[k]) := eD
                have h6b : (qs[k].kind != 6) = true := by simpa using h6
                have h2 := HF3.out.1 _ (List.getElem_mem hkl)
                have HTS : Hid (t < (qs.getD k step00).next.length) := by rw [Hid, eD]; exact htl
                clear hown hx hm eD
                unfold meetV at cm
                cases hmb : meetB qs (m : Int)
                · rw [hmb] at cm
                  have HC : Hid (condB qs (qs.getD k step00) ((qs.getD k step00).next.getD t 0) = false) := by
                    rw [Hid, HED.out, HM.out]
                    show (decide _ && meetB qs (m : Int)) = false
                    rw [hmb, Bool.and_false]
                  clear hmb
                  go_wp2
                  go_roundw
                  case rel =>
                    have e2 := (partF_no hkl HTS.out HC.out 0).2
                    exact ⟨t + 1, _, ys, mvs, by omega, by go_num, HBt.out, hsz3, HBXt.out, HMLt.out, by rw [e2]; exact HPt.out.congr fun j _ => (partF_no hkl HTS.out HC.out j).1, by rw [e2]; exact HAt.out⟩
                  case measure => simp [intOf]; omega
                · rw [hmb] at cm
                  have HC : Hid (condB qs (qs.getD k step00) ((qs.getD k step00).next.getD t 0) = true) := by
                    rw [Hid, HED.out, HM.out]
                    show (decide _ && meetB qs (m : Int)) = true
                    rw [hmb, Bool.and_true, decide_eq_true h6]
                  have hkN : (k : Int) < (qs.length : Int) + ((skT qs k t).length : Int) := by omega
                  clear hmb
                  go_wp2_with fail
                  go_region_law (fail)
                  all_goals
                    have HZ : Hid ((qs.length : Int) + ((skT qs k t).length : Int) = ((qs.length + (skT qs k t).length : Nat) : Int)) := by rw [Hid]; omega
                    have hPX := HPt.out.turn (t := t) HAt.out (i := k) (by omega) (g := gl) (c := kk) (by rw [HMK.out, partF_self hkl]; simp only [HPL.out]) ((qs.length : Int) + ((skT qs k t).length : Int))
                    have HPX : Hid (PF w1.heap.size (wr.setCell ⟨gl, t, none⟩ (.int .i64 ((qs.length : Int) + ((skT qs k t).length : Int)))).drew _ (qs.length + (skT qs k t).length) _ ys mvs) := ⟨hPX.row, hPX.cells, hPX.own⟩
                    have HBXX : Hid ((wr.setCell ⟨gl, t, none⟩ (.int .i64 ((qs.length : Int) + ((skT qs k t).length : Int)))).drew.ownsRow w3.heap.size 30 1 (.slice (some ⟨w3.heap.size, 0, none⟩) 1 1) 1 [.slice (some ⟨g4, 0, none⟩) (qs.length + (skT qs k t).length) c4]) := own_store HBXt.out HOWN.out (by decide)
                    have HMLX : Hid ((wr.setCell ⟨gl, t, none⟩ (.int .i64 ((qs.length : Int) + ((skT qs k t).length : Int)))).drew.ownsRow (w3.heap.size + 1) 4 1 (.slice (some ⟨mg, 0, none⟩) qs.length mc) qs.length ((List.range qs.length).map (meetV qs))) := own_store HMLt.out HOWN.out (by decide)
                    have HB1X : Hid (Below w1.heap.size w1 (wr.setCell ⟨gl, t, none⟩ (.int .i64 ((qs.length : Int) + ((skT qs k t).length : Int)))).drew) := (HBt.out.setCell hgl _).drew
                    have hszX : w3.heap.size + 1 < (wr.setCell ⟨gl, t, none⟩ (.int .i64 ((qs.length : Int) + ((skT qs k t).length : Int)))).drew.heap.size := by
                      have h9 : (wr.setCell ⟨gl, t, none⟩ (.int .i64 ((qs.length : Int) + ((skT qs k t).length : Int)))).drew.heap.size = wr.heap.size := by simp
                      omega
                    clear hPX ct ft cm c0 c7 dq df hfz4
                    generalize (wr.setCell ⟨gl, t, none⟩ (.int .i64 ((qs.length : Int) + ((skT qs k t).length : Int)))).drew = WX at *
                    have dqX : WX.cell? ⟨w3.heap.size, 0, none⟩ = some (.slice (some ⟨g4, 0, none⟩) (qs.length + (skT qs k t).length) c4) := by rw [HBXX.out.cellAt 0 (by omega)]; rfl
                    have dfX := HBXX.out.frozenAt 0
                    have hs1X : w1.heap.size ≤ WX.heap.size := HB1X.out.size
                    go_wp2_with (at_builtin; refine wpList_append_own _ rfl (.tmp 84) (.tmp 88) 28 rfl w1.heap.size 77 i1 (.agg #[.int .i64 0, .int .i64 0, .int .i64 0, .int .i64 0, .int .i64 0, .int .i64 0, .int .i64 0, .slice none 0 0]) 8 80 Try.underlying28 hj hy0 hy1 hy2 rfl (by decide) (.slice (some ⟨g4, 0, none⟩) (qs.length + (skT qs k t).length) c4) (qs.length + (skT qs k t).length) ys rfl ((HPX.out.row.alloc _).alloc _) ⟨WX.heap.size + 1, 0, none⟩ 1 1 (cells8 (skipSt (m : Int)) (.slice (some ⟨WX.heap.size, 0, none⟩) 1 1)) rfl rfl (cells8_new (WX.alloc (.cells #[.int .i64 (m : Int)] 3)) (skipSt (m : Int)) _ _ (by simp)) (cells8_one _ _ _ _) (by unfold maxLen; omega) (by omega) (by simp; omega) ?_)
                    intro v8 w8 hown8 hgrow8 _
                    have hW2 : Below WX.heap.size WX ((WX.alloc (.cells #[.int .i64 (m : Int)] 3)).alloc (.cells #[.int .i64 6, .int .i64 0, .int .i64 0, .int .i64 0, .int .i64 0, .int .i64 0, .int .i64 0, .slice (some ⟨WX.heap.size, 0, none⟩) 1 1] 77)) := ((Below.refl _ _).alloc (Nat.le_refl _) _).alloc (by simp) _
                    have hnl : ((WX.alloc (.cells #[.int .i64 (m : Int)] 3)).alloc (.cells #[.int .i64 6, .int .i64 0, .int .i64 0, .int .i64 0, .int .i64 0, .int .i64 0, .int .i64 0, .slice (some ⟨WX.heap.size, 0, none⟩) 1 1] 77)).ownsRow w1.heap.size 3 1 (.slice (some ⟨WX.heap.size, 0, none⟩) 1 1) (skipSt (m : Int)).next.length ((skipSt (m : Int)).next.map (Value.int .i64)) := (World.ownsRow_lit WX #[.int .i64 (m : Int)] 1 hs1X (by decide) (by simp)).alloc _
                    have hPN := (HPX.out.keep hW2).snoc (s := skipSt (m : Int)) (nv := .slice (some ⟨WX.heap.size, 0, none⟩) 1 1) hnl hgrow8 hown8
                    have hb8 : Below w1.heap.size WX w8 := (hW2.mono hs1X).trans ((Below.refl _ _).grown hgrow8 (Nat.le_trans hs1X hW2.size) (fun q hq => (HPX.out.row.lt q hq).1))
                    have hBX8 : w8.ownsRow w3.heap.size 30 1 (.slice (some ⟨w3.heap.size, 0, none⟩) 1 1) 1 [.slice (some ⟨g4, 0, none⟩) (qs.length + (skT qs k t).length) c4] := own_grow (own_keepB HBXX.out hW2) (own_keepB HPX.out.row hW2) (by decide) hgrow8
                    have hML8 : w8.ownsRow (w3.heap.size + 1) 4 1 (.slice (some ⟨mg, 0, none⟩) qs.length mc) qs.length ((List.range qs.length).map (meetV qs)) := own_grow (own_keepB HMLX.out hW2) (own_keepB HPX.out.row hW2) (by decide) hgrow8
                    have hs8 : w3.heap.size + 1 < w8.heap.size := Nat.lt_of_lt_of_le hszX hb8.size
                    obtain ⟨A8, n8, c8, hv8⟩ := own_is_slice hown8
                    subst hv8
                    have dq8 : w8.cell? ⟨w3.heap.size, 0, none⟩ = some (.slice (some ⟨g4, 0, none⟩) (qs.length + (skT qs k t).length) c4) := by rw [hBX8.cellAt 0 (by omega)]; rfl
                    have df8 := hBX8.frozenAt 0
                    have HBXN : Hid ((w8.setCell ⟨w3.heap.size, 0, none⟩ (.slice A8 n8 c8)).ownsRow w3.heap.size 30 1 (.slice (some ⟨w3.heap.size, 0, none⟩) 1 1) 1 [.slice A8 n8 c8]) := (hBX8.stored 0 (.slice A8 n8 c8)).1
                    have HMLN : Hid ((w8.setCell ⟨w3.heap.size, 0, none⟩ (.slice A8 n8 c8)).ownsRow (w3.heap.size + 1) 4 1 (.slice (some ⟨mg, 0, none⟩) qs.length mc) qs.length ((List.range qs.length).map (meetV qs))) := own_store hML8 hBX8 (by decide)
                    have hPN2 := PF.box (q := 0) (u := .slice A8 n8 c8) hPN hBX8
                    have HSKN : Hid (skT qs k (t + 1) = skT qs k t ++ [(m : Int)]) := by
                      have h9 := HC.out
                      rw [HED.out] at h9
                      rw [Hid, skT_succ hkl htl, if_pos h9, HM.out]
                    have HLN : Hid ((skT qs k (t + 1)).length = (skT qs k t).length + 1) := by rw [Hid, HSKN.out]; simp
                    have hPN3 := PF.congr (G := partF qs k (t + 1)) hPN2 (fun j _ => by
                      rw [partF_yes hkl HTS.out HC.out j, HED.out, HM.out, ← HZ.out])
                    have HPN : Hid _ := hPN3
                    have HAN : Hid (Apart (fun i => if i = qs.length + (skT qs k t).length then .slice (some ⟨WX.heap.size, 0, none⟩) 1 1 else mvs i) (qs.length + (skT qs k t).length + 1)) := by
                      intro i j q hi hj hij
                      have old : ∀ j, j < qs.length + (skT qs k t).length → ∀ q, (mvs j).ownBlock = some q → q < WX.heap.size := fun j hj q hq => ((HPX.out.own j hj).lt q hq).2
                      by_cases e1 : i = qs.length + (skT qs k t).length <;> by_cases e2 : j = qs.length + (skT qs k t).length
                      · omega
                      · simp only [if_pos e1, if_neg e2]
                        intro hq hq2
                        simp [Value.ownBlock] at hq
                        have a2 := old j (by omega) q hq2
                        omega
                      · simp only [if_neg e1, if_pos e2]
                        intro hq hq2
                        simp [Value.ownBlock] at hq2
                        have a2 := old i (by omega) q hq
                        omega
                      · simp only [if_neg e1, if_neg e2]
                        exact HAt.out i j q (by omega) (by omega) hij
                    have HBN : Hid (Below w1.heap.size w1 (w8.setCell ⟨w3.heap.size, 0, none⟩ (.slice A8 n8 c8))) := (HB1X.out.trans hb8).setCell (by show w1.heap.size ≤ w3.heap.size; omega) _
                    have hszN : w3.heap.size + 1 < (w8.setCell ⟨w3.heap.size, 0, none⟩ (.slice A8 n8 c8)).heap.size := by simpa [World.setCell] using hs8
                    clear hPN hPN2 hPN3 hnl hW2 hb8 hBX8 hML8 hown8 hgrow8 dqX dfX
                    go_wp2
                    go_roundw
                    case rel =>
                      have e := HLN.out
                      exact ⟨t + 1, .slice A8 n8 c8, _, _, by omega, by go_num, HBN.out, hszN, HBXN.out, HMLN.out, by rw [e]; exact HPN.out, by rw [e]; exact HAN.out⟩
                    case measure => simp [intOf]; omega
            · have hti : ¬ (t : Int) < (qs[k].next.length : Int) := by omega
              obtain rfl : t = qs[k].next.length := by omega
              have HE1 : Hid (∀ j, partF qs (k + 1) 0 j = partF qs k qs[k].next.length j) := by
                intro j
                have := partF_next hkl j
                rwa [show qs.getD k step00 = qs[k] by simp [List.getD, hkl]] at this
              have HE2 : Hid (skK qs (k + 1) = skT qs k qs[k].next.length) := skK_succ hkl
              clear HOWN hown hMk
              go_wp2
              go_roundw
              case rel => exact ⟨k + 1, _, ys, mvs, by omega, by go_num, HBt.out, hsz3, HBXt.out, HMLt.out, by rw [HE2.out]; exact HPt.out.congr fun j _ => HE1.out j, by rw [HE2.out]; exact HAt.out⟩
              case measure => simp [intOf]; omega
        · have hki : ¬ (k : Int) < (qs.length : Int) := by omega
          obtain rfl : k = qs.length := by omega
          have dq : wr.cell? ⟨w3.heap.size, 0, none⟩ = some ov := by rw [hbx.cellAt 0 (by omega)]; rfl
          have HPO : Hid (PO w1.heap.size wr ov (partL qs) ys mvs) := hPk.po hApk
          have hsk := skK_len HF3.out.1 qs.length
          have hpl : (partL qs).length ≤ 1000 := by simp [partL]; omega
          obtain ⟨A4, c4, hv4, _⟩ := HPO.out.slice
          subst hv4
          have r4 := cell_keep hb R1.out
          have rf4 := (hb.frozen (p := ⟨w.heap.size + 1, 0, none⟩) hsB).trans RF1.out
          clear hb hbx hml hPk hApk
          go_wp2_with fail
          refine specOk_any _ (partL qs) _ HPO.out.at (by omega) (fun s hs => Nat.le_trans (part_two HF3.out.1 s hs) (by omega)) fun w9 hb9 => ?_
          have HB9 : Hid (Below w.heap.size w w9) := HB1.out.trans ((HBk.out.trans (hb9.mono HBk.out.size)).mono HB1.out.size)
          have dq9 := cell_keep hb9 dq
          have r9 := cell_keep hb9 r4
          have rf9 := (hb9.frozen (p := ⟨w.heap.size + 1, 0, none⟩) (cell_lt r4)).trans rf4
          have HPO9 : Hid (PO w1.heap.size w9 (.slice A4 (partL qs).length c4) (partL qs) ys mvs) := HPO.out.keep hb9
          have HT : Hid (tidyL ss rs = partL qs) := by rw [Hid, tidyL, HQS.out]
          clear hb9 dq r4 rf4
          cases hokp : okB (partL qs)
          · have HF : Hid (okB (tidyL ss rs) = false) := by rw [Hid, HT.out]; exact hokp
            clear hokp
            go_wp2
            refine bodyPost_ret (v := .tuple #[.agg #[.slice none 0 0], .bool false]) (by simp [results, Try.results64, go_sem, r9]) rfl ?_
            exact HN.out rs _ (HB9.out.setCell (by simp) _) HRS.out HF.out
          · have HF : Hid (okB (tidyL ss rs) = true) := by rw [Hid, HT.out]; exact hokp
            clear hokp
            go_wp2
            refine bodyPost_ret (v := .tuple #[.agg #[.slice A4 (partL qs).length c4], .bool true]) (by simp [results, Try.results64, go_sem, r9]) rfl ?_
            refine HY.out _ rs ys mvs _ (HB9.out.setCell (by simp) _) HRS.out HF.out ?_
            rw [HT.out]
            exact (HPO9.out.below (a := ⟨w.heap.size + 1, 0, none⟩) hsB _).lower HB1.out.size
end Go.Proofs.Ytfbmeciolflgnaa
