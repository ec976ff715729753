/- A program with a step ahead of all: the laws' lkAhead. -/
import Derived.Test.YtnlcdecokpdkpaaDoorFreeP
import Derived.Test.YtnlcdecokpdkpaaDoorSpecFirst
namespace Go.Proofs.YtnlcdecokpdkpaaDoor
open Go.RowKit

def aheadS (ss : List St) (s : St) : List St := { s with next := [(ss.length : Int)] } :: (ss.tail.map (ren ss.length)) ++ [ren ss.length (ss.getD 0 st0)]

theorem ren_next (n : Nat) (s : St) : (ren n s).next = s.next.map (endI n) := rfl

theorem StepCells.below {B b o : Nat} {a w' : World} {s : St} {nv : Value} (h : StepCells a b o s nv) (hb : Below B a w') (hl : b < B) : StepCells w' b o s nv := by
  obtain ⟨c0, c1, c2, c3, c4, c5, c6, c7⟩ := h
  have rd : ∀ j u, a.cell? ⟨b, j, none⟩ = some u → w'.cell? ⟨b, j, none⟩ = some u := fun j u h => (hb.cell (p := ⟨b, j, none⟩) hl).trans h
  exact ⟨rd _ _ c0, rd _ _ c1, rd _ _ c2, rd _ _ c3, rd _ _ c4, rd _ _ c5, rd _ _ c6, rd _ _ c7⟩

theorem PF.steps {lo N : Nat} {w : World} {v : Value} {F : Nat → St} {xs : List Value} {nvs : Nat → Value} (h : PF lo w v N F xs nvs) : StepsAt w v ((List.range N).map F) := by
  obtain ⟨A, c, e, hg⟩ := h.at
  rcases Nat.eq_zero_or_pos N with h0 | h0
  · subst h0
    exact ⟨A, 0, 0, c, by simpa using e, fun hp => by simp at hp, fun i s hs => by simp at hs⟩
  · obtain ⟨g, hA, _⟩ := hg 0 h0
    refine ⟨A, g, 0, c, by simpa using e, fun _ => hA, fun i s hs => ?_⟩
    have hi : i < N := by have := (List.getElem?_eq_some_iff.1 hs).1; simpa using this
    have es : s = F i := by simp [hi] at hs; exact hs.symm
    obtain ⟨g', hA', _, _, hsc, _⟩ := hg i hi
    have eg : g' = g := by rw [hA] at hA'; cases hA'; rfl
    subst eg
    refine ⟨nvs i, ?_, ?_⟩
    · rw [es, Nat.zero_add]; exact hsc
    · rw [es]; exact own_ints (h.own i hi)

theorem ahead_range (ss : List St) (s s0 : St) (h0 : 0 < ss.length) (e0 : s0 = ren ss.length (ss.getD 0 st0)) :
    (List.range (ss.length + 1)).map (fun j => if j = 0 then { s with next := [(ss.length : Int)] } else if j = ss.length then s0 else ren ss.length (ss.getD j st0)) = aheadS ss s := by
  unfold aheadS
  refine List.ext_getElem (by simp; omega) fun i h1 h2 => ?_
  simp only [List.length_map, List.length_range] at h1
  simp only [List.getElem_map, List.getElem_range]
  by_cases hi : i = 0
  · subst hi
    simp
  · rw [if_neg hi]
    obtain ⟨j, rfl⟩ : ∃ j, i = j + 1 := ⟨i - 1, by omega⟩
    by_cases hn : j + 1 = ss.length
    · rw [if_pos hn, e0, List.getElem_append_right (by simp; omega)]
      simp
    · rw [if_neg hn, List.getElem_append_left (by simp; omega)]
      have : j + 1 < ss.length := by omega
      simp [List.getD, this]

set_option maxRecDepth 100000 in
set_option maxHeartbeats 8000000 in
theorem lkAhead_any {Q : Ending → World → Prop} (v : Value) (ss : List St) (s : St) (w : World) (h : StepsN w v ss) (h0 : 0 < ss.length) (hl : ss.length ≤ 100) (hls : ∀ s ∈ ss, s.next.length ≤ 100)
    (hQ : ∀ v' w', StepsAt w' v' (aheadS ss s) → Below w.heap.size w w' → Q (.returned (.agg #[v'])) w') :
    Calls Tryd.prog 30 #[.agg #[v], stepV s (.slice none 0 0)] w Q := by
  have HQ : Hid _ := hQ
  clear hQ
  obtain ⟨ao, b, o, cap, rfl, ha, hc⟩ := h
  have HA : Hid _ := ha
  have HC : Hid _ := hc
  have HL : Hid _ := hls
  clear ha hc hls
  obtain ⟨i0, hi, hz0, hz1, hz2⟩ := info_parts infoInt2
  obtain ⟨i1, hj, hy0, hy1, hy2⟩ := info_parts infoStep1
  unfold stepV
  go_enter Tryd.func30, Tryd.ntmps30
  go_wp2
  obtain ⟨wL, hwL⟩ : ∃ wL, wL = (((w.alloc (.cells #[.slice ao ss.length cap] 32)).alloc (.cells #[.int .i64 s.kind, .int .i64 s.dst, .int .i64 s.op, .int .i64 s.av, .int .i64 s.an, .int .i64 s.bv, .int .i64 s.bn, .slice none 0 0] 50)).alloc (.cells #[.slice none 0 0] 32)).alloc (.cells #[.slice none 0 0] 32) := ⟨_, rfl⟩
  have hq0 : wL.cell? ⟨w.heap.size, 0, none⟩ = some (.slice ao ss.length cap) := by rw [hwL]; simp [go_sem]
  have hsb : StepCells wL (w.heap.size + 1) 0 s (.slice none 0 0) := by rw [hwL]; exact ⟨by simp [go_sem], by simp [go_sem], by simp [go_sem], by simp [go_sem], by simp [go_sem], by simp [go_sem], by simp [go_sem], by simp [go_sem]⟩
  have hsf : ∀ j, wL.frozen? ⟨w.heap.size + 1, j, none⟩ = false := fun j => by rw [hwL]; simp [go_sem]
  have hq1 : wL.cell? ⟨w.heap.size + 1 + 1, 0, none⟩ = some (.slice none 0 0) := by rw [hwL]; simp [go_sem]
  have hq2 : wL.cell? ⟨w.heap.size + 1 + 1 + 1, 0, none⟩ = some (.slice none 0 0) := by rw [hwL]; simp [go_sem]
  have hf1 : wL.frozen? ⟨w.heap.size + 1 + 1, 0, none⟩ = false := by rw [hwL]; simp [go_sem]
  have hf2 : wL.frozen? ⟨w.heap.size + 1 + 1 + 1, 0, none⟩ = false := by rw [hwL]; simp [go_sem]
  have HBW : Hid (Below w.heap.size w wL) := by rw [hwL]; exact ((((Below.refl _ _).alloc (Nat.le_refl _) _).alloc (by simp) _).alloc (by simp; omega) _).alloc (by simp; omega) _
  have hsL : wL.heap.size = w.heap.size + 4 := by rw [hwL]; simp
  rw [← hwL]
  have HSB : Hid _ := hsb
  have HSF : Hid _ := hsf
  clear hwL hsb hsf
  go_loopw [7] (fun i wr => ∃ (k : Nat) (ov : Value) (xs : List Value) (nvs : Nat → Value), k ≤ ss.length ∧ i = .int .i64 k ∧ Below (w.heap.size + 3) wL wr ∧ wr.cell? ⟨w.heap.size + 1 + 1 + 1, 0, none⟩ = some ov ∧ wr.frozen? ⟨w.heap.size + 1 + 1 + 1, 0, none⟩ = false ∧ PO (w.heap.size + 4) wr ov ((ss.take k).map (ren ss.length)) xs nvs) (fun i _ => ss.length - (intOf i).toNat)
  case atStart => exact ⟨0, _, [], fun _ => .slice none 0 0, Nat.zero_le _, rfl, Below.refl _ _, hq2, hf2, by simpa using PO.nil _ _ _⟩
  case round =>
    clear hq2 hf2
    obtain ⟨k, ov, xs, nvs, hk, rfl, hb, hq2, hf2, hP⟩ := hrel
    have HB : Hid (Below (w.heap.size + 3) wL wr) := hb
    have HP : Hid (PO (w.heap.size + 4) wr ov ((ss.take k).map (ren ss.length)) xs nvs) := hP
    have p0 := (hb.cell (p := ⟨w.heap.size, 0, none⟩) (by show w.heap.size < w.heap.size + 3; omega)).trans hq0
    have p1 := (hb.cell (p := ⟨w.heap.size + 1 + 1, 0, none⟩) (by show w.heap.size + 1 + 1 < w.heap.size + 3; omega)).trans hq1
    have g1 := (hb.frozen (p := ⟨w.heap.size + 1 + 1, 0, none⟩) (by show w.heap.size + 1 + 1 < w.heap.size + 3; omega)).trans hf1
    have HBw : Hid (Below w.heap.size w wr) := HBW.out.trans (hb.mono (by omega))
    have hs2 : w.heap.size + 1 + 1 + 1 < wr.heap.size := cell_lt hq2
    have hlt : ((ss.take k).map (ren ss.length)).length = k := by simp; omega
    obtain ⟨A, c, hov, _⟩ := hP.slice
    rw [hlt] at hov
    subst hov
    have HLT : Hid (((ss.take k).map (ren ss.length)).length = k) := hlt
    clear hb hP hlt
    by_cases hkl : k < ss.length
    · have hki : (k : Int) < (ss.length : Int) := by omega
      obtain rfl := HA.out (by omega)
      obtain ⟨nu, cu, iu, hnice⟩ := HC.out k ss[k] (by simp [hkl])
      obtain ⟨nao, nb, no, ncap, rfl, hna, hnc⟩ := id iu
      obtain ⟨c0, c1, c2, c3, c4, c5, c6, c7⟩ := cu.keep HBw.out
      have h2 := HL.out _ (List.getElem_mem hkl)
      have HNI : Hid (Nice (.slice nao ss[k].next.length ncap)) := hnice
      have HIU : Hid (IntsAt w (.slice nao ss[k].next.length ncap) ss[k].next) := iu
      clear cu iu hna hnc hnice
      have HE : Hid (∀ O, ((wr.alloc O).alloc (.cells #[] 3)).ownsRow (wr.heap.size + 1) 3 1 (.slice (some ⟨wr.heap.size + 1, 0, none⟩) 0 0) 0 []) := by
        intro O
        have h0 := World.ownsRow_lit (base := wr.heap.size + 1) (e := 3) (size := 1) (wr.alloc O) #[] 0 (by simp) (by decide) (by simp)
        simpa using h0
      have HBX : Hid (∀ O O', Below wr.heap.size wr ((wr.alloc O).alloc O')) := fun O O' => ((Below.refl _ _).alloc (Nat.le_refl _) O).alloc (by simp) O'
      have HSS : Hid ((ss.take (k + 1)).map (ren ss.length) = (ss.take k).map (ren ss.length) ++ [ren ss.length ss[k]]) := by rw [Hid, List.take_succ_eq_append_getElem hkl, List.map_append]; rfl
      go_wp2_with (at_builtin; refine wpList_append_ints _ rfl (.tmp 25) (.tmp 27) 25 rfl (wr.heap.size + 1) 3 i0 Tryd.underlying25 hi hz0 hz1 hz2 (.slice (some ⟨wr.heap.size + 1, 0, none⟩) 0 0) 0 [] rfl (HE.out _) nao ncap ss[k].next rfl (HIU.out.keep (HBw.out.trans ((HBX.out _ _).mono (by omega)))) HNI.out (by omega) (by simp) ?_)
      intro v7 w7 hown7 hgrow7 hat7
      have hb7 : Below (wr.heap.size + 1) ((wr.alloc (.cells #[.int .i64 ss[k].kind, .int .i64 ss[k].dst, .int .i64 ss[k].op, .int .i64 ss[k].av, .int .i64 ss[k].an, .int .i64 ss[k].bv, .int .i64 ss[k].bn, .slice nao ss[k].next.length ncap] 50)).alloc (.cells #[] 3)) w7 := (Below.refl _ _).grown hgrow7 (by simp) (fun q hq => by simp [Value.ownBlock] at hq; omega)
      have hs7 : wr.heap.size + 2 ≤ w7.heap.size := Nat.le_trans (by simp) hgrow7.size
      have HW7 : Hid (Below wr.heap.size wr w7) := (HBX.out _ _).trans (hb7.mono (by omega))
      have HFZ : Hid (∀ j, w7.frozen? ⟨wr.heap.size, j, none⟩ = false) := fun j => (hb7.frozen (by simp)).trans (by simp [go_sem])
      have HBK : Hid (StepCells w7 wr.heap.size 0 ss[k] (.slice nao ss[k].next.length ncap)) := box_keep hb7
      obtain ⟨A7, c7', hv7, hA7⟩ := own_len hown7
      subst hv7
      have HO7 : Hid (w7.ownsRow (wr.heap.size + 1) 3 1 (.slice A7 ss[k].next.length c7') ss[k].next.length (ss[k].next.map (Value.int .i64))) := by simpa [Hid] using hown7
      have HA7 : Hid _ := hA7
      clear hb7 hgrow7 hat7 hown7 hA7 c0 c1 c2 c3 c4 c5 c6 c7
      generalize wr = W5 at *
      obtain ⟨zs, hzs⟩ : ∃ zs, zs = ss[k].next := ⟨_, rfl⟩
      rw [← hzs] at HO7 HA7 h2
      rw [← hzs]
      have HZS : Hid (zs = ss[k].next) := hzs
      clear hzs
      go_wp2
      go_loopw [10] (fun i wr => ∃ t : Nat, t ≤ zs.length ∧ i = .int .i64 t ∧ Below (W5.heap.size + 1) w7 wr ∧ wr.ownsRow (W5.heap.size + 1) 3 1 (.slice A7 zs.length c7') zs.length ((turnT ss.length zs t).map (Value.int .i64))) (fun i _ => zs.length - (intOf i).toNat)
      case atStart => exact ⟨0, Nat.zero_le _, rfl, Below.refl _ _, by rw [turnT_zero]; exact HO7.out⟩
      case round =>
        obtain ⟨t, ht, rfl, hb, hz⟩ := hrel
        have HBt : Hid (Below (W5.heap.size + 1) w7 wr) := hb
        have HZt : Hid (wr.ownsRow (W5.heap.size + 1) 3 1 (.slice A7 zs.length c7') zs.length ((turnT ss.length zs t).map (Value.int .i64))) := hz
        by_cases htl : t < zs.length
        · have hti : (t : Int) < (zs.length : Int) := by omega
          obtain ⟨g7, hA7, hg7⟩ := HA7.out (by omega)
          subst hA7
          have ct := hz.cellAt t (by omega)
          rw [List.getElem?_map, turnT_get htl, Option.map_some] at ct
          have ft := hz.frozenAt t
          have HSUC : Hid _ := turnT_succ (n := ss.length) htl
          have HSAM : Hid _ := turnT_same (n := ss.length) htl
          have HST : Hid _ := hz.stored t (.int .i64 (ss.length : Int))
          clear hb hz
          generalize zs.getD t 0 = x at *
          by_cases hx : x = 0
          · subst hx
            go_wp2
            go_roundw
            case rel =>
              obtain ⟨s1, s2⟩ := HST.out
              refine ⟨t + 1, by omega, by go_num, HBt.out.setCell hg7 _, ?_⟩
              have e := HSUC.out
              rw [e, List.map_set]
              exact s1
            case measure => simp [intOf]; omega
          · go_wp2
            go_roundw
            case rel =>
              have e := HSAM.out hx
              exact ⟨t + 1, by omega, by go_num, HBt.out, by rw [e]; exact HZt.out⟩
            case measure => simp [intOf]; omega
        · have hti : ¬ (t : Int) < (zs.length : Int) := by omega
          obtain rfl : t = zs.length := by omega
          have hw7 : Below W5.heap.size W5 wr := HW7.out.trans (hb.mono (by have := HW7.out.size; omega))
          obtain ⟨d0, d1, d2, d3, d4, d5, d6, d7⟩ := box_zero (HBK.out.below hb (by omega))
          have fz7 : ∀ j, wr.frozen? ⟨W5.heap.size, j, none⟩ = false := fun j => (hb.frozen (by simp)).trans (HFZ.out j)
          have q7 := cell_keep hw7 hq2
          have f7 := (hw7.frozen (p := ⟨w.heap.size + 1 + 1 + 1, 0, none⟩) hs2).trans hf2
          have hn7 : W5.heap.size < wr.heap.size := by have := hb.size; omega
          have hne7 : ¬ w.heap.size + 1 + 1 + 1 = W5.heap.size := by omega
          have HZ9 : Hid (wr.ownsRow (W5.heap.size + 1) 3 1 (.slice A7 zs.length c7') (ren ss.length ss[k]).next.length ((ren ss.length ss[k]).next.map (Value.int .i64))) := by
            rw [Hid, ren_next, ← HZS.out, List.length_map, ← turnT_all]
            exact hz
          have HW8 : Hid (Below W5.heap.size W5 (wr.setCell ⟨W5.heap.size, 7, none⟩ (.slice A7 zs.length c7'))) := hw7.setCell (Nat.le_refl _) _
          have HO8 : Hid ((wr.setCell ⟨W5.heap.size, 7, none⟩ (.slice A7 zs.length c7')).ownsRow (W5.heap.size + 1) 3 1 (.slice A7 zs.length c7') (ren ss.length ss[k]).next.length ((ren ss.length ss[k]).next.map (Value.int .i64))) :=
            ownsRow_setCell_below HZ9.out (a := ⟨W5.heap.size, 7, none⟩) (by simp) _
          have HP8 : Hid (PO (w.heap.size + 4) (wr.setCell ⟨W5.heap.size, 7, none⟩ (.slice A7 zs.length c7')) (.slice A k c) ((ss.take k).map (ren ss.length)) xs nvs) := HP.out.keep HW8.out
          have HR8 : Hid ((wr.setCell ⟨W5.heap.size, 7, none⟩ (.slice A7 zs.length c7')).ownsRow (w.heap.size + 4) 50 8 (.slice A k c) k xs) := by
            have := HP8.out.row
            rwa [HLT.out] at this
          clear hb hz hw7
          go_wp2_with (at_builtin; refine wpList_append_own _ rfl (.tmp 47) (.tmp 49) 30 rfl (w.heap.size + 4) 50 i1 (.agg #[.int .i64 0, .int .i64 0, .int .i64 0, .int .i64 0, .int .i64 0, .int .i64 0, .int .i64 0, .slice none 0 0]) 8 80 Tryd.underlying30 hj hy0 hy1 hy2 rfl (by decide) (.slice A k c) k xs rfl (HR8.out.alloc _) ⟨wr.heap.size, 0, none⟩ 1 1 (cells8 (ren ss.length ss[k]) (.slice A7 zs.length c7')) rfl rfl (cells8_new _ (ren ss.length ss[k]) _ _ (by simp)) (cells8_one _ _ _ _) (by unfold maxLen; omega) (by omega) (by simp; omega) ?_)
          intro v8 w8 hown8 hgrow8 _
          have hX : ∀ O, Below W5.heap.size W5 ((wr.setCell ⟨W5.heap.size, 7, none⟩ (.slice A7 zs.length c7')).alloc O) := fun O => HW8.out.alloc HW8.out.size O
          have hw8 : Below (w.heap.size + 4) W5 w8 := ((hX _).mono (by omega)).trans ((Below.refl _ _).grown hgrow8 (by simp; omega) (fun q hq => (HR8.out.lt q hq).1))
          have q8 := (hw8.cell (p := ⟨w.heap.size + 1 + 1 + 1, 0, none⟩) (by show w.heap.size + 1 + 1 + 1 < w.heap.size + 4; omega)).trans hq2
          have f8 := (hw8.frozen (p := ⟨w.heap.size + 1 + 1 + 1, 0, none⟩) (by show w.heap.size + 1 + 1 + 1 < w.heap.size + 4; omega)).trans hf2
          have hPN := (HP8.out.keep ((Below.refl _ _).alloc (Nat.le_refl _) _)).snoc (hi := W5.heap.size) (fun i q hi hq => by
            obtain ⟨si, hsi⟩ : ∃ si, ((ss.take k).map (ren ss.length))[i]? = some si := ⟨_, List.getElem?_eq_getElem hi⟩
            exact ((HP.out.own i si hsi).lt q hq).2) (HO8.out.alloc _) (by omega) (by omega) hgrow8 (by rw [HLT.out]; exact hown8)
          have HPN : Hid _ := hPN
          have HB8 : Hid (Below (w.heap.size + 3) wL w8) := HB.out.trans (hw8.mono (by omega))
          have hs8 : w.heap.size + 1 + 1 + 1 < w8.heap.size := cell_lt q8
          obtain ⟨A8, n8, c8, hv8⟩ := own_is_slice hown8
          subst hv8
          clear hPN hown8 hgrow8 hX hw8 q7 f7 d0 d1 d2 d3 d4 d5 d6 d7 fz7
          go_wp2
          go_roundw
          case rel =>
            have hfin := PO.below HPN.out (a := ⟨w.heap.size + 1 + 1 + 1, 0, none⟩) (by show w.heap.size + 1 + 1 + 1 < w.heap.size + 4; omega) (.slice A8 n8 c8)
            rw [← HSS.out] at hfin
            exact ⟨k + 1, .slice A8 n8 c8, _, _, by omega, by go_num, HB8.out.setCell (by show w.heap.size + 3 ≤ w.heap.size + 1 + 1 + 1; omega) _, by simp [go_sem, q8], by simp [go_sem, f8], hfin⟩
          case measure => simp [intOf]; omega
    · have hki : ¬ (k : Int) < (ss.length : Int) := by omega
      obtain rfl : k = ss.length := by omega
      have HPF : Hid (PF (w.heap.size + 4) wr (.slice A ss.length c) ss.length (fun i => ren ss.length (ss.getD i st0)) xs nvs) := by
        have h9 := HP.out.pf st0
        rw [HLT.out] at h9
        refine h9.congr fun i hi => ?_
        simp [List.getD, hi]
      have hsB : StepCells wr (w.heap.size + 1) 0 s (.slice none 0 0) := HSB.out.below HB.out (by omega)
      have HSBr : Hid _ := hsB
      have HSFr : Hid (∀ j, wr.frozen? ⟨w.heap.size + 1, j, none⟩ = false) := fun j => (HB.out.frozen (by simp)).trans (HSF.out j)
      obtain ⟨A', c', hv, hg⟩ := HPF.out.at
      cases hv
      obtain ⟨g, rfl, hgl, hgr, hsc0, hfz0⟩ := hg 0 h0
      obtain ⟨s0, hs0⟩ : ∃ s0, s0 = ren ss.length (ss.getD 0 st0) := ⟨_, rfl⟩
      have hsc1 : StepCells wr g 0 s0 (nvs 0) := by rw [hs0]; simpa using hsc0
      have HS0 : Hid (s0 = ren ss.length (ss.getD 0 st0)) := hs0
      obtain ⟨M0, m0, k0, hm0⟩ := own_is_slice (HPF.out.own 0 h0)
      have HM0 : Hid (nvs 0 = .slice M0 m0 k0) := hm0
      obtain ⟨E0, E1, E2, E3, E4, E5, E6, E7⟩ := box_zero hsc1
      rw [hm0] at E7
      clear hg hsc0 hsc1 hs0 hfz0 hm0 hsB
      have HDB : Hid (∀ O, Below wr.heap.size wr (wr.alloc O).drew) := fun O => ((Below.refl _ _).alloc (Nat.le_refl _) O).drew
      have HDA : Hid (∀ O, (wr.alloc O).drew.cell? ⟨w.heap.size + 1 + 1 + 1, 0, none⟩ = some (.slice (some ⟨g, 0, none⟩) ss.length c)) := fun O => ((HDB.out O).cell hs2).trans hq2
      have HDF : Hid (∀ O, (wr.alloc O).drew.frozen? ⟨w.heap.size + 1 + 1 + 1, 0, none⟩ = false) := fun O => ((HDB.out O).frozen hs2).trans hf2
      have HDS : Hid (∀ O, w.heap.size + 1 + 1 + 1 < (wr.alloc O).drew.heap.size) := fun O => Nat.lt_of_lt_of_le hs2 (HDB.out O).size
      have HDR : Hid (some (w.heap.size + 1 + 1 + 1) ≠ (Value.slice (some ⟨g, 0, none⟩) ss.length c).ownBlock) := fun e => by simp [Value.ownBlock] at e; omega
      go_wp2_with fail
      go_region_law (first | (refine step_append_lies _ rfl (.tmp 53) (.tmp 58) 30 rfl (w.heap.size + 4) 50 i1 (.agg #[.int .i64 0, .int .i64 0, .int .i64 0, .int .i64 0, .int .i64 0, .int .i64 0, .int .i64 0, .slice none 0 0]) 8 80 Tryd.underlying30 hj hy0 hy1 hy2 rfl (by decide) (.slice (some ⟨g, 0, none⟩) ss.length c) ss.length xs (by simp [Act.eval]) (HPF.out.row.alloc _) ⟨wr.heap.size, 0, none⟩ 1 1 (cells8 s0 (.slice M0 m0 k0)) (by simp [Act.eval]) rfl (cells8_new wr s0 _ _ (by simp)) (cells8_one _ _ _ _) (by decide) (by unfold maxLen; omega) (by omega) (by simp; omega) (wr.heap.size + 1) (by simp) ?_; intro g4 cap4 w4 hown4 hgrow4 hat4 hlt4; have d4 := hgrow4.cell (HDA.out _) HDR.out; have f4 := (hgrow4.frozen_far ⟨w.heap.size + 1 + 1 + 1, 0, none⟩ (HDS.out _) HDR.out).trans (HDF.out _)))
      all_goals
        have hg4l : w.heap.size + 4 ≤ g4 := (hown4.lt g4 rfl).1
        have hX2 : Below wr.heap.size wr (wr.alloc (.cells #[.int .i64 s0.kind, .int .i64 s0.dst, .int .i64 s0.op, .int .i64 s0.av, .int .i64 s0.an, .int .i64 s0.bv, .int .i64 s0.bn, .slice M0 m0 k0] 50)).drew := HDB.out _
        have hOW0 : wr.ownsRow (w.heap.size + 4) 3 1 (.slice M0 m0 k0) s0.next.length (s0.next.map (Value.int .i64)) := by
          have h9 := HPF.out.own 0 h0
          rw [HM0.out] at h9
          rw [HS0.out]
          exact h9
        have hP4 := (HPF.out.keep hX2).snoc (s := s0) (nv := .slice M0 m0 k0) (ownsRow_out hOW0 (Out.of_below (lo := 0) (hi := 0) hX2) (fun _ _ => Or.inr (Nat.zero_le _))) hgrow4 hown4
        have HP4 : Hid _ := hP4.below (a := ⟨w.heap.size + 1 + 1 + 1, 0, none⟩) (by show w.heap.size + 1 + 1 + 1 < w.heap.size + 4; omega) (.slice (some ⟨g4, 0, none⟩) (ss.length + 1) cap4)
        have hb4 : Below (w.heap.size + 4) wr w4 := (hX2.mono (by omega)).trans ((Below.refl _ _).grown hgrow4 (by have := hX2.size; omega) (fun q hq => by simp [Value.ownBlock] at hq; omega))
        have HB4 : Hid (Below (w.heap.size + 3) wr (w4.setCell ⟨w.heap.size + 1 + 1 + 1, 0, none⟩ (.slice (some ⟨g4, 0, none⟩) (ss.length + 1) cap4))) := (hb4.mono (by omega)).setCell (by simp) _
        have D4 : (w4.setCell ⟨w.heap.size + 1 + 1 + 1, 0, none⟩ (.slice (some ⟨g4, 0, none⟩) (ss.length + 1) cap4)).cell? ⟨w.heap.size + 1 + 1 + 1, 0, none⟩ = some (.slice (some ⟨g4, 0, none⟩) (ss.length + 1) cap4) := by simp [go_sem, d4]
        have F4 : (w4.setCell ⟨w.heap.size + 1 + 1 + 1, 0, none⟩ (.slice (some ⟨g4, 0, none⟩) (ss.length + 1) cap4)).frozen? ⟨w.heap.size + 1 + 1 + 1, 0, none⟩ = false := by simp [go_sem, f4]
        have hD4 : w.heap.size + 1 + 1 + 1 < w4.heap.size := cell_lt d4
        clear hP4 hOW0 hX2 hb4 hown4 hgrow4 hat4 d4 f4 E0 E1 E2 E3 E4 E5 E6 E7 hlt4
        generalize w4.setCell ⟨w.heap.size + 1 + 1 + 1, 0, none⟩ (.slice (some ⟨g4, 0, none⟩) (ss.length + 1) cap4) = W4 at *
        obtain ⟨A4, c4x, hv4, hg4⟩ := PF.at HP4.out
        obtain ⟨g4', hA4, _, hg4r, hsc4, hfz4⟩ := hg4 0 (by omega)
        cases hv4
        cases hA4
        obtain ⟨b0, b1, b2, b3, b4, b5, b6, b7⟩ := box_zero (by simpa using hsc4)
        obtain ⟨s_0, s_1, s_2, s_3, s_4, s_5, s_6, s_7⟩ := box_zero (HSBr.out.below HB4.out (by omega))
        have t7 : W4.frozen? ⟨w.heap.size + 1, 7, none⟩ = false := (HB4.out.frozen (by simp)).trans (HSFr.out 7)
        have r4 := (HB4.out.cell (p := ⟨w.heap.size + 1 + 1, 0, none⟩) (by show w.heap.size + 1 + 1 < w.heap.size + 3; omega)).trans p1
        have rf4 := (HB4.out.frozen (p := ⟨w.heap.size + 1 + 1, 0, none⟩) (by show w.heap.size + 1 + 1 < w.heap.size + 3; omega)).trans g1
        have hD4' : w.heap.size + 1 + 1 + 1 < W4.heap.size := cell_lt D4
        have hne1 : ¬ g4 = w.heap.size + 1 := by omega
        have hne2 : ¬ w.heap.size + 1 = g4 := by omega
        have hne3 : ¬ w.heap.size + 1 + 1 = g4 := by omega
        have hne4 : ¬ w.heap.size + 1 + 1 + 1 = g4 := by omega
        have hs4a : w.heap.size + 1 < W4.heap.size := by omega
        have hs4c : w.heap.size + 1 + 1 < W4.heap.size := by omega
        have hs4b : ¬ w.heap.size + 1 = W4.heap.size := by omega
        have hs4d : ¬ w.heap.size + 1 + 1 = W4.heap.size := by omega
        have hs4e : ¬ w.heap.size + 1 + 1 + 1 = W4.heap.size := by omega
        have hs4f : ¬ g4 = W4.heap.size := by omega
        clear hg4 hsc4 p1 g1
        go_wp2
        have hWs : (set8 (W4.setCell ⟨w.heap.size + 1, 7, none⟩ (.slice (some ⟨W4.heap.size, 0, none⟩) 1 1)) g4 0 { s with next := [(ss.length : Int)] } (.slice (some ⟨W4.heap.size, 0, none⟩) 1 1)).heap.size = W4.heap.size := (set8_size _ _ _ _ _).trans (by simp)
        have hn6 : ((set8 (W4.setCell ⟨w.heap.size + 1, 7, none⟩ (.slice (some ⟨W4.heap.size, 0, none⟩) 1 1)) g4 0 { s with next := [(ss.length : Int)] } (.slice (some ⟨W4.heap.size, 0, none⟩) 1 1)).alloc (.cells #[.int .i64 (ss.length : Int)] 3)).ownsRow (w.heap.size + 4) 3 1 (.slice (some ⟨W4.heap.size, 0, none⟩) 1 1) 1 [.int .i64 (ss.length : Int)] := by
          have h9 := World.ownsRow_lit (base := w.heap.size + 4) (e := 3) (size := 1) (set8 (W4.setCell ⟨w.heap.size + 1, 7, none⟩ (.slice (some ⟨W4.heap.size, 0, none⟩) 1 1)) g4 0 { s with next := [(ss.length : Int)] } (.slice (some ⟨W4.heap.size, 0, none⟩) 1 1)) #[.int .i64 (ss.length : Int)] 1 (by rw [hWs]; omega) (by decide) (by simp)
          rw [hWs] at h9
          exact h9
        obtain ⟨ys6, hP6⟩ := PF.putStep (i := 0) (o := 0) (s := { s with next := [(ss.length : Int)] }) (by omega) (HP4.out.below (a := ⟨w.heap.size + 1, 7, none⟩) (by show w.heap.size + 1 < w.heap.size + 4; omega) (.slice (some ⟨W4.heap.size, 0, none⟩) 1 1)) (by omega) hn6
        have hP7 := (hP6.below (a := ⟨w.heap.size + 1 + 1, 0, none⟩) (by show w.heap.size + 1 + 1 < w.heap.size + 4; omega) (.slice (some ⟨g4, 0, none⟩) (ss.length + 1) cap4)).steps
        have eL := ahead_range ss s s0 h0 HS0.out
        refine bodyPost_ret (v := .agg #[.slice (some ⟨g4, 0, none⟩) (ss.length + 1) cap4]) (by simp [results, Tryd.results30, go_sem, r4, hs4c]) rfl ?_
        refine HQ.out _ _ ?_ ?_
        · rw [← eL]
          rw [World.setCell_alloc_past _ _ _ _ (by rw [hWs]; omega)] at hP7
          exact hP7
        · have hB9 := (set8_below (o := 0) (s := { s with next := [(ss.length : Int)] }) (nv := .slice (some ⟨W4.heap.size, 0, none⟩) 1 1) ((HBw.out.trans (HB4.out.mono (by omega))).setCell (p := ⟨w.heap.size + 1, 7, none⟩) (by simp) (.slice (some ⟨W4.heap.size, 0, none⟩) 1 1)) (show w.heap.size ≤ g4 by omega)).setCell (p := ⟨w.heap.size + 1 + 1, 0, none⟩) (by simp; omega) (.slice (some ⟨g4, 0, none⟩) (ss.length + 1) cap4)
          exact hB9.alloc hB9.size _
end Go.Proofs.YtnlcdecokpdkpaaDoor
