/- What the model's l2First answers. -/
import Derived.Test.YtfbmeciolflgnaaSpecPrune
import Derived.Test.YtfbmeciolflgnaaProgFG
import Derived.Test.YtfbmeciolflgnaaTidy26
namespace Go.Proofs.Ytfbmeciolflgnaa
open Go.RowKit

theorem own_len {w : World} {lo n m : Nat} {e : TypeId} {v : Value} {xs : List Value} (h : w.ownsRow lo e m v n xs) : ∃ A c, v = .slice A n c ∧ (0 < n → ∃ g, A = some ⟨g, 0, none⟩ ∧ lo ≤ g) := by
  rcases h.2 with ⟨e, e2⟩ | ⟨g, cap, cur, e, hg, _⟩
  · exact ⟨none, 0, by rw [e2]; exact e, fun h => by omega⟩
  · exact ⟨_, _, e, fun _ => ⟨g, rfl, hg⟩⟩

theorem rot_two {qs : List St} (h : ∀ s ∈ qs, s.next.length ≤ 2) (h0 : 0 < qs.length) {j : Nat} (hj : j ≤ qs.length) : (rotF qs j).next.length ≤ 2 := by
  unfold rotF
  by_cases e : j = 0
  · rw [if_pos e]; simp [skipSt]
  · rw [if_neg e]
    have hlt : (if j = qs.length then 0 else j) < qs.length := by split <;> omega
    have e2 : qs.getD (if j = qs.length then 0 else j) step00 = qs[if j = qs.length then 0 else j] := by simp [List.getD, hlt]
    rw [e2]
    exact h _ (List.getElem_mem hlt)

set_option maxRecDepth 100000 in
set_option maxHeartbeats 8000000 in
theorem l2First_any {Q : Ending → World → Prop} (lo : Nat) (v : Value) (qs : List St) (xs : List Value) (nvs : Nat → Value) (w : World) (h : PO lo w v qs xs nvs) (hlo : lo ≤ w.heap.size) (h0 : 0 < qs.length) (hl : qs.length ≤ 100) (hls : ∀ s ∈ qs, s.next.length ≤ 2)
    (hQ : ∀ v' ys mvs w', PO lo w' v' (firstL qs) ys mvs → Below w.heap.size w w' → Q (.returned (.agg #[v'])) w') :
    Calls Try.prog 79 #[.agg #[v]] w Q := by
  have HQ : Hid _ := hQ
  have HP : Hid (PO lo w v qs xs nvs) := h
  have HL : Hid _ := hls
  clear hQ hls h
  obtain ⟨i0, hi, hz0, hz1, hz2⟩ := info_parts infoInt2
  obtain ⟨i1, hj, hy0, hy1, hy2⟩ := info_parts infoStep1
  have hb0 : ∀ O O', Below w.heap.size w ((w.alloc O).alloc O') := fun O O' => ((Below.refl _ _).alloc (Nat.le_refl _) O).alloc (by simp) O'
  obtain ⟨A, c, hv, _⟩ := HP.out.slice
  subst hv
  go_enter Try.func79, Try.ntmps79
  go_wp2_with fail
  refine l2Ways_any _ qs 0 _ ((HP.out.at).keep (hb0 _ _)) (by omega) HL.out fun w1 hb1 => ?_
  have hbA : Below w.heap.size w w1 := (hb0 _ _).trans (hb1.mono (by simp; omega))
  have q1 : w1.cell? ⟨w.heap.size, 0, none⟩ = some (.slice A qs.length c) := cell_keep hb1 (by simp [go_sem])
  have r1 : w1.cell? ⟨w.heap.size + 1, 0, none⟩ = some (.slice none 0 0) := cell_keep hb1 (by simp [go_sem])
  have rf1 : w1.frozen? ⟨w.heap.size + 1, 0, none⟩ = false := (hb1.frozen (by simp)).trans (by simp [go_sem])
  have hs1 : w.heap.size + 1 < w1.heap.size := cell_lt r1
  have HB1 : Hid (Below w.heap.size w w1) := hbA
  clear hb1 hb0 hbA
  by_cases hw0 : ways qs 0 = 0
  · have HW0 : Hid (ways qs 0 = 0) := hw0
    rw [hw0]
    clear hw0
    go_wp2
    refine bodyPost_ret (v := .agg #[.slice A qs.length c]) (by simp [results, Try.results79, go_sem, r1]) rfl ?_
    refine HQ.out _ xs nvs _ ?_ (HB1.out.setCell (by simp) _)
    rw [firstL, if_pos HW0.out]
    exact HP.out.keep (HB1.out.setCell (by simp) _)
  · have hwk := waysK_le HL.out qs.length 0
    rw [waysK_all] at hwk
    have hwi : ¬ ((ways qs 0 : Nat) : Int) = 0 := by omega
    have HW0 : Hid (¬ ways qs 0 = 0) := hw0
    have HL2 : Hid (∀ s ∈ qs, s.next.length ≤ 1000) := fun s hs => Nat.le_trans (HL.out s hs) (by omega)
    clear hw0
    go_wp2_with fail
    refine l1Copy_any _ qs _ (HP.out.n.keep HB1.out) (by omega) HL2.out fun v2 ys mvs w2 hP2 hb2 => ?_
    have q2 := cell_keep hb2 q1
    have r2 := cell_keep hb2 r1
    have rf2 := (hb2.frozen (p := ⟨w.heap.size + 1, 0, none⟩) hs1).trans rf1
    have HB2 : Hid (Below w1.heap.size w1 w2) := hb2
    have s12 := hb2.size
    have HP2 : Hid (PF w1.heap.size w2 v2 qs.length (fun i => qs.getD i step00) ys mvs) := hP2.pf step00
    obtain ⟨A2, c2, hv2, hg2⟩ := HP2.out.at
    obtain ⟨g, rfl, hgl, hgr, hsc0, hfz0⟩ := hg2 0 h0
    subst hv2
    obtain ⟨s0, hs0⟩ : ∃ s0, s0 = qs.getD 0 step00 := ⟨_, rfl⟩
    have hsc1 : StepCells w2 g 0 s0 (mvs 0) := by rw [hs0]; simpa using hsc0
    have HS0 : Hid (s0 = qs.getD 0 step00) := hs0
    obtain ⟨e0, e1, e2, e3, e4, e5, e6, e7⟩ := box_zero hsc1
    obtain ⟨M0, m0, k0, hm0⟩ := own_is_slice (HP2.out.own 0 h0)
    have HM0 : Hid (mvs 0 = .slice M0 m0 k0) := hm0
    rw [hm0] at e7
    have hBD : Below w2.heap.size w2 (w2.alloc (.cells #[.slice (some ⟨g, 0, none⟩) qs.length c2] 30)) := (Below.refl _ _).alloc (Nat.le_refl _) _
    have HBD : Hid _ := hBD
    have E0 := cell_keep hBD e0
    have E1 := cell_keep hBD e1
    have E2 := cell_keep hBD e2
    have E3 := cell_keep hBD e3
    have E4 := cell_keep hBD e4
    have E5 := cell_keep hBD e5
    have E6 := cell_keep hBD e6
    have E7 := cell_keep hBD e7
    clear hb2 hP2 q1 hg2 r2 rf2 q2 hsc0 hsc1 hs0 e0 e1 e2 e3 e4 e5 e6 e7 hfz0 hBD hm0
    have HDB : Hid (∀ O, Below (w2.heap.size + 1) (w2.alloc (.cells #[.slice (some ⟨g, 0, none⟩) qs.length c2] 30)) ((w2.alloc (.cells #[.slice (some ⟨g, 0, none⟩) qs.length c2] 30)).alloc O).drew) := fun O => ((Below.refl _ _).alloc (by simp) O).drew
    have HDA : Hid (∀ O, ((w2.alloc (.cells #[.slice (some ⟨g, 0, none⟩) qs.length c2] 30)).alloc O).drew.cell? ⟨w2.heap.size, 0, none⟩ = some (.slice (some ⟨g, 0, none⟩) qs.length c2)) := fun O => ((HDB.out O).cell (by show w2.heap.size < w2.heap.size + 1; omega)).trans (by simp [go_sem])
    have HDF : Hid (∀ O, ((w2.alloc (.cells #[.slice (some ⟨g, 0, none⟩) qs.length c2] 30)).alloc O).drew.frozen? ⟨w2.heap.size, 0, none⟩ = false) := fun O => ((HDB.out O).frozen (by show w2.heap.size < w2.heap.size + 1; omega)).trans (by simp [go_sem])
    have HDS : Hid (∀ O, w2.heap.size < ((w2.alloc (.cells #[.slice (some ⟨g, 0, none⟩) qs.length c2] 30)).alloc O).drew.heap.size) := fun O => Nat.lt_of_lt_of_le (by simp) (HDB.out O).size
    have HDR : Hid (some w2.heap.size ≠ (Value.slice (some ⟨g, 0, none⟩) qs.length c2).ownBlock) := fun e => by simp [Value.ownBlock] at e; omega
    go_wp2_with fail
    go_region_law (first | (refine step_append_lies _ rfl (.tmp 18) (.tmp 23) 28 rfl w1.heap.size 77 i1 (.agg #[.int .i64 0, .int .i64 0, .int .i64 0, .int .i64 0, .int .i64 0, .int .i64 0, .int .i64 0, .slice none 0 0]) 8 80 Try.underlying28 hj hy0 hy1 hy2 rfl (by decide) (.slice (some ⟨g, 0, none⟩) qs.length c2) qs.length ys (by simp [Act.eval]) ((HP2.out.row.alloc _).alloc _) ⟨w2.heap.size + 1, 0, none⟩ 1 1 (cells8 s0 (.slice M0 m0 k0)) (by simp [Act.eval]) rfl (cells8_new (w2.alloc (.cells #[.slice (some ⟨g, 0, none⟩) qs.length c2] 30)) s0 _ _ (by simp)) (cells8_one _ _ _ _) (by decide) (by unfold maxLen; omega) (by omega) (by simp; omega) (w2.heap.size + 2) (by simp) ?_; intro g4 cap4 w4 hown4 hgrow4 hat4 hlt4; have d4 := hgrow4.cell (HDA.out _) HDR.out; have f4 := (hgrow4.frozen_far ⟨w2.heap.size, 0, none⟩ (HDS.out _) HDR.out).trans (HDF.out _)))
    all_goals
      have hg4D : g4 ≠ w2.heap.size := by
        rcases hat4 with e | e
        · simp [Value.ownBlock] at e; omega
        · omega
      have hg4l : w1.heap.size ≤ g4 := (hown4.lt g4 rfl).1
      have hX2 : Below w2.heap.size w2 ((w2.alloc (.cells #[.slice (some ⟨g, 0, none⟩) qs.length c2] 30)).alloc (.cells #[.int .i64 s0.kind, .int .i64 s0.dst, .int .i64 s0.op, .int .i64 s0.av, .int .i64 s0.an, .int .i64 s0.bv, .int .i64 s0.bn, .slice M0 m0 k0] 77)).drew := (HBD.out.trans ((HDB.out _).mono (by omega)))
      have hOW0 : w2.ownsRow w1.heap.size 3 1 (.slice M0 m0 k0) s0.next.length (s0.next.map (Value.int .i64)) := by
        have h9 := HP2.out.own 0 h0
        rw [HM0.out] at h9
        rw [HS0.out]
        exact h9
      have hP4 := (HP2.out.keep hX2).snoc (s := s0) (nv := .slice M0 m0 k0) (ownsRow_out hOW0 (Out.of_below (lo := 0) (hi := 0) hX2) (fun _ _ => Or.inr (Nat.zero_le _))) hgrow4 hown4
      have hP4' := hP4.other (a := ⟨w2.heap.size, 0, none⟩) (by simp [Value.ownBlock]; exact hg4D) (fun i hi => by
        by_cases e : i = qs.length
        · rw [if_pos e]
          intro hq
          have := (hOW0.lt _ hq).2
          simp at this
        · rw [if_neg e]
          intro hq
          have := ((HP2.out.own i (by omega)).lt _ hq).2
          simp at this) (.slice (some ⟨g4, 0, none⟩) (qs.length + 1) cap4)
      have HP4 : Hid _ := hP4'
      have hb4 : Below w1.heap.size w1 w4 := (HB2.out.trans (hX2.mono s12)).trans ((Below.refl _ _).grown hgrow4 (by have := hX2.size; omega) (fun q hq => by simp [Value.ownBlock] at hq; omega))
      have HB4 : Hid (Below w1.heap.size w1 (w4.setCell ⟨w2.heap.size, 0, none⟩ (.slice (some ⟨g4, 0, none⟩) (qs.length + 1) cap4))) := hb4.setCell s12 _
      have hD4 : w2.heap.size < w4.heap.size := cell_lt d4
      have D4 : (w4.setCell ⟨w2.heap.size, 0, none⟩ (.slice (some ⟨g4, 0, none⟩) (qs.length + 1) cap4)).cell? ⟨w2.heap.size, 0, none⟩ = some (.slice (some ⟨g4, 0, none⟩) (qs.length + 1) cap4) := by simp [go_sem, d4]
      have F4 : (w4.setCell ⟨w2.heap.size, 0, none⟩ (.slice (some ⟨g4, 0, none⟩) (qs.length + 1) cap4)).frozen? ⟨w2.heap.size, 0, none⟩ = false := by simp [go_sem, f4]
      clear hP4 hP4' hOW0 hX2 hb4 hown4 hgrow4 hat4 d4 f4 E0 E1 E2 E3 E4 E5 E6 E7 hlt4
      generalize w4.setCell ⟨w2.heap.size, 0, none⟩ (.slice (some ⟨g4, 0, none⟩) (qs.length + 1) cap4) = W4 at *
      obtain ⟨A4, c4x, hv4, hg4⟩ := PF.at HP4.out
      obtain ⟨g4', hA4, _, hg4r, hsc4, hfz4⟩ := hg4 0 (by omega)
      cases hv4
      cases hA4
      obtain ⟨b0, b1, b2, b3, b4, b5, b6, b7⟩ := box_zero (by simpa using hsc4)
      have hD4' : w2.heap.size < W4.heap.size := cell_lt D4
      clear hg4 hsc4
      go_wp2
      have hWs : (set8 W4 g4 0 (skipSt (qs.length : Int)) (.slice (some ⟨W4.heap.size, 0, none⟩) 1 1)).heap.size = W4.heap.size := set8_size _ _ _ _ _
      have hn6 : ((set8 W4 g4 0 (skipSt (qs.length : Int)) (.slice (some ⟨W4.heap.size, 0, none⟩) 1 1)).alloc (.cells #[.int .i64 (qs.length : Int)] 3)).ownsRow w1.heap.size 3 1 (.slice (some ⟨W4.heap.size, 0, none⟩) 1 1) 1 [.int .i64 (qs.length : Int)] := by
        have h9 := World.ownsRow_lit (base := w1.heap.size) (e := 3) (size := 1) (set8 W4 g4 0 (skipSt (qs.length : Int)) (.slice (some ⟨W4.heap.size, 0, none⟩) 1 1)) #[.int .i64 (qs.length : Int)] 1 (by rw [hWs]; omega) (by decide) (by simp)
        rw [hWs] at h9
        exact h9
      obtain ⟨ys6, hP6⟩ := PF.putStep (i := 0) (o := 0) (s := skipSt (qs.length : Int)) (by omega) HP4.out (by omega) hn6
      have hB6 : Below w1.heap.size w1 ((set8 W4 g4 0 (skipSt (qs.length : Int)) (.slice (some ⟨W4.heap.size, 0, none⟩) 1 1)).alloc (.cells #[.int .i64 (qs.length : Int)] 3)) := (set8_below HB4.out hg4l).alloc (by rw [hWs]; omega) _
      have hbk : ((set8 W4 g4 0 (skipSt (qs.length : Int)) (.slice (some ⟨W4.heap.size, 0, none⟩) 1 1)).alloc (.cells #[.int .i64 (qs.length : Int)] 3)).heap[w2.heap.size]? = W4.heap[w2.heap.size]? := (Below.heap_alloc _ _ _ (by rw [hWs]; omega)).trans (set8_block _ _ _ _ _ _ (Ne.symm hg4D))
      have hD6 : ((set8 W4 g4 0 (skipSt (qs.length : Int)) (.slice (some ⟨W4.heap.size, 0, none⟩) 1 1)).alloc (.cells #[.int .i64 (qs.length : Int)] 3)).cell? ⟨w2.heap.size, 0, none⟩ = some (.slice (some ⟨g4, 0, none⟩) (qs.length + 1) cap4) := (World.cell?_of_block (w := W4) (a := ⟨w2.heap.size, 0, none⟩) hbk).trans D4
      have hF6 : ((set8 W4 g4 0 (skipSt (qs.length : Int)) (.slice (some ⟨W4.heap.size, 0, none⟩) 1 1)).alloc (.cells #[.int .i64 (qs.length : Int)] 3)).frozen? ⟨w2.heap.size, 0, none⟩ = false := (World.frozen?_of_block (w := W4) (a := ⟨w2.heap.size, 0, none⟩) hbk).trans F4
      have hP7 := hP6.congr fun j _ => firstF_one HS0.out j
      have HP6 : Hid _ := hP7
      clear hP7
      have HB6 : Hid _ := hB6
      have HD6 : Hid _ := hD6
      have HF6 : Hid _ := hF6
      clear hP6 hB6 hD6 hF6 hbk hn6 hWs b0 b1 b2 b3 b4 b5 b6 b7 hfz4 D4 F4
      go_loopw [5] (fun i wr => ∃ (k : Nat) (ys : List Value) (mvs : Nat → Value), 1 ≤ k ∧ k ≤ qs.length + 1 ∧ i = .int .i64 k ∧ Below w1.heap.size w1 wr ∧ wr.cell? ⟨w2.heap.size, 0, none⟩ = some (.slice (some ⟨g4, 0, none⟩) (qs.length + 1) cap4) ∧ wr.frozen? ⟨w2.heap.size, 0, none⟩ = false ∧ PF w1.heap.size wr (.slice (some ⟨g4, 0, none⟩) (qs.length + 1) cap4) (qs.length + 1) (firstF qs k) ys mvs ∧ Apart mvs k) (fun i _ => qs.length + 1 - (intOf i).toNat)
      case atStart => exact ⟨1, ys6, _, Nat.le_refl _, by omega, rfl, HB6.out, HD6.out, HF6.out, HP6.out, fun i j k hi hj hij => by omega⟩
      case round =>
        clear HP6 HB6 HD6 HF6
        obtain ⟨k, zys, zvs, hk1, hk2, rfl, hb, hD, hF, hPk, hAp⟩ := hrel
        have HBk : Hid (Below w1.heap.size w1 wr) := hb
        have HPk : Hid (PF w1.heap.size wr (.slice (some ⟨g4, 0, none⟩) (qs.length + 1) cap4) (qs.length + 1) (firstF qs k) zys zvs) := hPk
        have HAp : Hid (Apart zvs k) := hAp
        have hDl : w2.heap.size < wr.heap.size := cell_lt hD
        have r5 := cell_keep hb r1
        have rf5 := (hb.frozen (p := ⟨w.heap.size + 1, 0, none⟩) hs1).trans rf1
        have s15 := hb.size
        clear hb hAp
        by_cases hkl : k < qs.length + 1
        · have hki : (k : Int) < (qs.length : Int) + 1 := by omega
          obtain ⟨A5, c5, hv5, hg5⟩ := hPk.at
          obtain ⟨g5, hA5, _, hg5r, hsc5, hfz5⟩ := hg5 k hkl
          cases hv5
          cases hA5
          have c7 := hsc5.c7
          obtain ⟨Mk, kk, hmk, _⟩ := own_len (hPk.own k hkl)
          have HMK : Hid (zvs k = .slice Mk (firstF qs k k).next.length kk) := hmk
          rw [hmk] at c7
          have hFk : firstF qs k k = rotF qs k := by unfold firstF; rw [if_neg (by omega)]
          have h2 := rot_two HL.out h0 (j := k) (by omega)
          rw [← hFk] at h2
          have HFK : Hid (firstF qs k k = rotF qs k) := hFk
          have HOK : Hid _ := hPk.own k hkl
          have f7 := hfz5 (k * 8 + 7)
          clear hg5 hsc5 hfz5 hPk hmk hFk
          have HE : Hid ((wr.alloc (.cells #[] 3)).ownsRow wr.heap.size 3 1 (.slice (some ⟨wr.heap.size, 0, none⟩) 0 0) 0 []) := World.ownsRow_lit _ #[] 0 (Nat.le_refl _) (by decide) (by simp)
          have HIA : Hid (IntsAt (wr.alloc (.cells #[] 3)) (.slice Mk (firstF qs k k).next.length kk) (firstF qs k k).next) := by
            have h9 := own_ints HOK.out
            rw [HMK.out] at h9
            exact h9.keep ((Below.refl _ _).alloc (Nat.le_refl _) _)
          have HNI : Hid (Nice (.slice Mk (firstF qs k k).next.length kk)) := by
            have h9 := own_nice HOK.out
            rwa [HMK.out] at h9
          obtain ⟨zs, hzs⟩ : ∃ zs, zs = (firstF qs k k).next := ⟨_, rfl⟩
          rw [← hzs] at HIA HNI HMK h2 c7
          have HZS : Hid (zs = (firstF qs k k).next) := hzs
          clear hzs HOK
          go_wp2_with (at_builtin; refine wpList_append_ints _ rfl (.tmp 39) (.tmp 45) 42 rfl wr.heap.size 3 i0 Try.underlying42 hi hz0 hz1 hz2 (.slice (some ⟨wr.heap.size, 0, none⟩) 0 0) 0 [] rfl HE.out Mk kk zs rfl HIA.out HNI.out (by omega) (by simp) ?_)
          intro v7 w7 hown7 hgrow7 _
          have hb7 : Below wr.heap.size wr w7 := ((Below.refl _ _).alloc (Nat.le_refl _) _).trans ((Below.refl _ _).grown hgrow7 (by simp) (fun q hq => by simp [Value.ownBlock] at hq; omega))
          obtain ⟨A7, c7', hv7, hA7⟩ := own_len hown7
          subst hv7
          have HB7 : Hid (Below wr.heap.size wr w7) := hb7
          have HO7 : Hid (w7.ownsRow wr.heap.size 3 1 (.slice A7 zs.length c7') zs.length (zs.map (Value.int .i64))) := hown7
          have HA7 : Hid _ := hA7
          clear hb7 hown7 hgrow7 hA7
          generalize wr = W5 at *
          go_wp2
          go_loopw [7] (fun i wr => ∃ t : Nat, t ≤ zs.length ∧ i = .int .i64 t ∧ Below W5.heap.size W5 wr ∧ wr.ownsRow W5.heap.size 3 1 (.slice A7 zs.length c7') zs.length ((turnT qs.length zs t).map (Value.int .i64))) (fun i _ => zs.length - (intOf i).toNat)
          case atStart => exact ⟨0, Nat.zero_le _, rfl, HB7.out, by rw [turnT_zero]; exact HO7.out⟩
          case round =>
            obtain ⟨t, ht, rfl, hb, hz⟩ := hrel
            have HBt : Hid (Below W5.heap.size W5 wr) := hb
            have HZt : Hid (wr.ownsRow W5.heap.size 3 1 (.slice A7 zs.length c7') zs.length ((turnT qs.length zs t).map (Value.int .i64))) := hz
            by_cases htl : t < zs.length
            · have hti : (t : Int) < (zs.length : Int) := by omega
              obtain ⟨g7, hA7, hg7⟩ := HA7.out (by omega)
              subst hA7
              have ct := hz.cellAt t (by omega)
              rw [List.getElem?_map, turnT_get htl, Option.map_some] at ct
              have ft := hz.frozenAt t
              have HSUC : Hid _ := turnT_succ (n := qs.length) htl
              have HSAM : Hid _ := turnT_same (n := qs.length) htl
              have HST : Hid _ := hz.stored t (.int .i64 (qs.length : Int))
              clear hb hz
              generalize zs.getD t 0 = x at *
              by_cases hx : x = 0
              · subst hx
                go_wp2
                go_roundw
                case rel =>
                  obtain ⟨s1, s2⟩ := HST.out
                  refine ⟨t + 1, by omega, by go_num, HBt.out.setCell hg7 _, ?_⟩
                  have e := HSUC.out
                  rw [e, List.map_set]
                  exact s1
                case measure => simp [intOf]; omega
              · go_wp2
                go_roundw
                case rel =>
                  have e := HSAM.out hx
                  exact ⟨t + 1, by omega, by go_num, HBt.out, by rw [e]; exact HZt.out⟩
                case measure => simp [intOf]; omega
            · have hti : ¬ (t : Int) < (zs.length : Int) := by omega
              obtain rfl : t = zs.length := by omega
              have hD9 := cell_keep hb hD
              have hF9 := (hb.frozen (p := ⟨w2.heap.size, 0, none⟩) hDl).trans hF
              have c79 := cell_keep hb c7
              have f79 := (hb.frozen (p := ⟨g4, k * 8 + 7, none⟩) hg5r).trans f7
              have HZ9 : Hid (wr.ownsRow W5.heap.size 3 1 (.slice A7 zs.length c7') (zs.map (endI qs.length)).length ((zs.map (endI qs.length)).map (Value.int .i64))) := by
                rw [Hid, List.length_map, ← turnT_all]
                exact hz
              have HP9 := PF.putNext (i := k) (HPk.out.keep hb) hkl (own_lower HZ9.out s15)
              have HPN := PF.congr (G := firstF qs (k + 1)) HP9 (fun j hj => by
                by_cases e : j = k
                · subst e
                  rw [if_pos rfl, HFK.out]
                  unfold firstF
                  rw [if_pos ⟨hk1, by omega⟩]
                  have e2 := HZS.out
                  rw [HFK.out] at e2
                  rw [e2]
                  rfl
                · rw [if_neg e]
                  unfold firstF
                  by_cases e2 : 1 ≤ j ∧ j < k
                  · rw [if_pos ⟨e2.1, by omega⟩, if_pos e2]
                  · rw [if_neg (by omega), if_neg e2])
              have HPH : Hid _ := HPN
              have HBN : Hid (Below w1.heap.size w1 (wr.setCell ⟨g4, k * 8 + 7, none⟩ (.slice A7 zs.length c7'))) := (HBk.out.trans (hb.mono s15)).setCell hg4l _
              have HAN : Hid (Apart (fun j => if j = k then .slice A7 zs.length c7' else zvs j) (k + 1)) := by
                intro i j q hi hj hij
                have old : ∀ j, j < k → ∀ q, (zvs j).ownBlock = some q → q < W5.heap.size := fun j hj q hq => ((HPk.out.own j (by omega)).lt q hq).2
                by_cases e1 : i = k <;> by_cases e2 : j = k
                · omega
                · simp only [if_pos e1, if_neg e2]
                  intro hq hq2
                  have a1 := (HZ9.out.lt q hq).1
                  have a2 := old j (by omega) q hq2
                  omega
                · simp only [if_neg e1, if_pos e2]
                  intro hq hq2
                  have a1 := (HZ9.out.lt q hq2).1
                  have a2 := old i (by omega) q hq
                  omega
                · simp only [if_neg e1, if_neg e2]
                  exact HAp.out i j q (by omega) (by omega) hij
              clear hb hz HP9 HPN
              go_wp2
              go_roundw
              case rel => exact ⟨k + 1, _, _, by omega, by omega, by go_num, HBN.out, by rw [cell_setOther _ _ _ _ (Ne.symm hg4D)]; exact hD9, (World.frozen?_of_block (w := wr) (a := ⟨w2.heap.size, 0, none⟩) (Below.heap_setCell wr _ _ _ (Ne.symm hg4D))).trans hF9, HPH.out, HAN.out⟩
              case measure => simp [intOf]; omega
        · have hki : ¬ (k : Int) < (qs.length : Int) + 1 := by omega
          obtain rfl : k = qs.length + 1 := by omega
          clear hPk
          go_wp2
          refine bodyPost_ret (v := .agg #[.slice (some ⟨g4, 0, none⟩) (qs.length + 1) cap4]) (by simp [results, Try.results79, go_sem, r5]) rfl ?_
          refine HQ.out _ zys zvs _ ?_ ((HB1.out.trans (HBk.out.mono (by omega))).setCell (by simp) _)
          rw [firstL, if_neg HW0.out]
          exact ((HPk.out.below (a := ⟨w.heap.size + 1, 0, none⟩) hs1 _).po HAp.out).lower (by omega)
end Go.Proofs.Ytfbmeciolflgnaa
