/- The program's countOn and PathCount. -/
import Derived.Test.YtacgfbcfkjflmaaGreatImplPath
import Derived.Test.YtacgfbcfkjflmaaGreatMovesOf
import Derived.Test.YtacgfbcfkjflmaaGreatPathPG
import Derived.Test.YtacgfbcfkjflmaaGreatImplEC
import Derived.Test.YtacgfbcfkjflmaaGreatHas
import Derived.Test.YtacgfbcfkjflmaaGreatImplEB
import Derived.Deep.RegionHeld3
namespace Go.Proofs.YtacgfbcfkjflmaaGreat
open Go.RowKit Go.Maps

theorem has_cc {Q : Ending → World → Prop} {ss : List St} {e : E5} {bc : BitVec 64} (h : CompW ss e bc) (hok : okB ss = true) (x : Nat) (hx : x < ss.length) (w : World) (hQ : Q (.returned (.bool (cF e ss x))) w) :
    Calls Tryz.prog 95 #[bsV bc, .int .i64 (x : Int)] w Q := by
  have := (ok_len hok).2
  refine has_any bc x w (by omega) ?_
  rw [h.get hx (by omega), ← cF_get hx]
  exact hQ

set_option maxRecDepth 100000 in
set_option maxHeartbeats 4000000 in
theorem countOn_any {Q : Ending → World → Prop} (x : Value) (ss : List St) (e : E5) (zs : List Int) (B : Nat) (f t : Nat → Bool) (bb : BitVec 64) (w : World) (hok : okB ss = true) (hz : IntsAt w x zs) (hpl : ∀ z ∈ zs, 0 ≤ z ∧ z.toNat < ss.length) (hl : zs.length ≤ 200) (hm : MRow w B 103 ss.length f t) (hcw : CompW ss e bb)
    (hQ : Q (.returned (.int .i64 (cntP f (fun j => cF e ss j && !t j) zs : Int))) w) :
    Calls Tryz.prog 76 #[x, .slice (some ⟨B, 0, none⟩) ss.length ss.length, bsV bb] w Q := by
  have HQ : Hid _ := hQ
  have HOK : Hid (okB ss = true) := hok
  have HM : Hid (MRow w B 103 ss.length f t) := hm
  have HCW : Hid (CompW ss e bb) := hcw
  have hn2 : ss.length ≤ 60 := (ok_len hok).2
  obtain ⟨xao, xb, xo, xcap, rfl, hxa, hxc⟩ := id hz
  have HA : Hid _ := hxa
  have HC : Hid _ := hxc
  have HP : Hid _ := hpl
  clear hQ hok hm hcw hxa hxc hpl hz
  go_enter Tryz.func76, Tryz.ntmps76
  go_wp2
  go_loop [7, 12] (fun c i => ∃ k : Nat, k ≤ zs.length ∧ i = .int .i64 k ∧ c = .int .i64 (cntP f (fun j => cF e ss j && !t j) (zs.take k) : Int)) (fun _ i => zs.length - (intOf i).toNat)
  case atStart => exact ⟨0, Nat.zero_le _, rfl, rfl⟩
  case round =>
    obtain ⟨k, hk, rfl, rfl⟩ := hrel
    have hcl := cntP_le f (fun j => cF e ss j && !t j) (zs.take k)
    have htl : (zs.take k).length ≤ 200 := by simp; omega
    by_cases hkl : k < zs.length
    · have hki : (k : Int) < (zs.length : Int) := by omega
      obtain rfl := HA.out (by omega)
      have ck := HC.out k hkl
      obtain ⟨hy0, hy1⟩ := HP.out (zs.getD k 0) (by rw [List.getD_eq_getElem?_getD, List.getElem?_eq_getElem hkl]; exact List.getElem_mem hkl)
      obtain ⟨m, hm⟩ := Int.eq_ofNat_of_zero_le hy0
      have HE : cntP f (fun j => cF e ss j && !t j) (zs.take (k + 1)) = cntP f (fun j => cF e ss j && !t j) (zs.take k) + ((if f m then 1 else 0) + (if (cF e ss m && !t m) then 1 else 0)) := cntP_at _ _ hkl hm
      rw [hm] at ck hy1
      simp only [Int.toNat_natCast] at hy1
      have hmi : (m : Int) < (ss.length : Int) := by omega
      have m0 := HM.out.put hy1
      have m1 := HM.out.take hy1
      clear hm hy0
      obtain ⟨cn, hcn⟩ : ∃ cn, cntP f (fun j => cF e ss j && !t j) (zs.take k) = cn := ⟨_, rfl⟩
      rw [hcn] at HE
      rw [hcn] at hcl ⊢
      obtain ⟨fm, hfm⟩ : ∃ fm, f m = fm := ⟨_, rfl⟩
      rw [hfm] at HE
      rw [hfm] at m0
      obtain ⟨tm, htm⟩ : ∃ tm, t m = tm := ⟨_, rfl⟩
      rw [htm] at HE m1
      have HE : Hid _ := HE
      clear hfm htm
      clear hcn
      cases fm
      · go_wp2_with fail
        refine has_cc HCW.out HOK.out m hy1 _ ?_
        obtain ⟨cm, hcm⟩ : ∃ cm, cF e ss m = cm := ⟨_, rfl⟩
        rw [hcm]
        have HE := HE.out
        rw [hcm] at HE
        have HE : Hid _ := HE
        clear hcm
        cases cm
        · go_wp2
          go_round
          case rel => exact ⟨k + 1, by omega, by go_num, by rw [HE.out]; simp⟩
          case measure => simp [intOf]; omega
        · cases tm
          · go_wp2
            go_round
            case rel => exact ⟨k + 1, by omega, by go_num, by rw [HE.out]; go_num⟩
            case measure => simp [intOf]; omega
          · go_wp2
            go_round
            case rel => exact ⟨k + 1, by omega, by go_num, by rw [HE.out]; simp⟩
            case measure => simp [intOf]; omega
      · go_wp2_with fail
        refine has_cc HCW.out HOK.out m hy1 _ ?_
        obtain ⟨cm, hcm⟩ : ∃ cm, cF e ss m = cm := ⟨_, rfl⟩
        rw [hcm]
        have HE := HE.out
        rw [hcm] at HE
        have HE : Hid _ := HE
        clear hcm
        cases cm
        · go_wp2
          go_round
          case rel => exact ⟨k + 1, by omega, by go_num, by rw [HE.out]; go_num⟩
          case measure => simp [intOf]; omega
        · cases tm
          · go_wp2
            go_round
            case rel => exact ⟨k + 1, by omega, by go_num, by rw [HE.out]; go_num⟩
            case measure => simp [intOf]; omega
          · go_wp2
            go_round
            case rel => exact ⟨k + 1, by omega, by go_num, by rw [HE.out]; go_num⟩
            case measure => simp [intOf]; omega
    · have hki : ¬ (k : Int) < (zs.length : Int) := by omega
      obtain rfl : k = zs.length := by omega
      rw [List.take_length] at *
      go_wp2
      exact HQ.out

set_option maxRecDepth 100000 in
set_option maxHeartbeats 4000000 in
theorem implPathCount_any {Q : Ending → World → Prop} (v x1 x2 y : Value) (ss : List St) (e : E5) (ps ts : List Bool) (zs : List Int) (w : World) (h : StepsAt w v ss) (hl : ss.length ≤ 1048576) (hls : ∀ s ∈ ss, s.next.length ≤ 1048576) (hp : BoolsAt w x1 ps) (ht : BoolsAt w x2 ts) (hz : IntsC w y zs) (hzl : zs.length ≤ 1048576)
    (hQ : ∀ (n : Int) w', Below w.heap.size w w' → CountOr ss e ps ts zs n → Q (.returned (.int .i64 n)) w') :
    Calls Tryz.prog 39 #[.agg #[v], .agg #[.int .i64 e.op, .int .i64 e.av, .int .i64 e.an, .int .i64 e.bv, .int .i64 e.bn], .agg #[x1, x2], y] w Q := by
  have HQ : Hid _ := hQ
  clear hQ
  obtain ⟨ao, b, o, cap, rfl, _, _⟩ := id h
  obtain ⟨po, pb, pof, pcap, rfl, _, _⟩ := id hp
  obtain ⟨to, tb, tof, tcap, rfl, _, _⟩ := id ht
  obtain ⟨yo, yb, yof, ycap, rfl, _, _, _⟩ := id hz
  have HH : Hid (StepsAt w (.slice ao ss.length cap) ss) := h
  have HL : Hid (∀ s ∈ ss, s.next.length ≤ 1048576) := hls
  have HXV : Hid (exV e = .agg #[.int .i64 e.op, .int .i64 e.av, .int .i64 e.an, .int .i64 e.bv, .int .i64 e.bn]) := rfl
  have HP : Hid (BoolsAt w (.slice po ps.length pcap) ps) := hp
  have HT : Hid (BoolsAt w (.slice to ts.length tcap) ts) := ht
  have HZ : Hid (IntsC w (.slice yo zs.length ycap) zs) := hz
  clear h hls hp ht hz
  have hb0 : ∀ O O' O'', Below w.heap.size w (((w.alloc O).alloc O').alloc O'') := fun O O' O'' => (((Below.refl _ _).alloc (Nat.le_refl _) O).alloc (by simp) O').alloc (by simp; omega) O''
  go_enter Tryz.func39, Tryz.ntmps39
  go_wp2_with fail
  refine movesOf_any _ _ _ ss e ps ts _ (HH.out.keep (hb0 _ _ _)) hl HL.out (HP.out.keep (hb0 _ _ _)) (HT.out.keep (hb0 _ _ _)) (fun B w2 hb2 hB hf hm => ?_) (fun w2 hb2 hf => ?_)
  · have HB2 : Hid (Below w.heap.size w w2) := (hb0 _ _ _).trans (hb2.mono (by simp; omega))
    have q2 : w2.cell? ⟨w.heap.size, 0, none⟩ = some (.slice ao ss.length cap) := cell_keep hb2 (by simp [go_sem])
    have x0 : w2.cell? ⟨w.heap.size + 1, 0, none⟩ = some (.int .i64 e.op) := cell_keep hb2 (by simp [go_sem])
    have x1 : w2.cell? ⟨w.heap.size + 1, 1, none⟩ = some (.int .i64 e.av) := cell_keep hb2 (by simp [go_sem])
    have x2 : w2.cell? ⟨w.heap.size + 1, 2, none⟩ = some (.int .i64 e.an) := cell_keep hb2 (by simp [go_sem])
    have x3 : w2.cell? ⟨w.heap.size + 1, 3, none⟩ = some (.int .i64 e.bv) := cell_keep hb2 (by simp [go_sem])
    have x4 : w2.cell? ⟨w.heap.size + 1, 4, none⟩ = some (.int .i64 e.bn) := cell_keep hb2 (by simp [go_sem])
    have HF : Hid (FormP ss e ps ts) := hf
    have HM : Hid (MRow w2 B 103 ss.length (fun j => ps.getD j false) (fun j => ts.getD j false)) := hm
    clear hb2 hb0 hB hf hm
    go_wp2_with fail
    refine isPath_any _ _ ss zs _ (HH.out.keep HB2.out) HF.out.1 (HZ.out.keep HB2.out) hzl fun bb hbb => ?_
    cases bb
    · have HC : Hid (CountOr ss e ps ts zs (-1)) := Or.inr ⟨(fun e => by have := hbb.2 e.2; cases this), rfl⟩
      clear hbb
      go_wp2
      exact HQ.out _ _ HB2.out HC.out
    · have HPA : Hid (IsPath ss zs) := hbb.1 rfl
      have hzl2 : zs.length ≤ 200 := HPA.out.len
      clear hbb
      go_wp2_with fail
      go_region_held3 (fun wx => wx.cell? ⟨w.heap.size, 0, none⟩ = some (.slice ao ss.length cap) ∧ wx.cell? ⟨w.heap.size + 1, 0, none⟩ = some (.int .i64 e.op) ∧ wx.cell? ⟨w.heap.size + 1, 1, none⟩ = some (.int .i64 e.av) ∧ wx.cell? ⟨w.heap.size + 1, 2, none⟩ = some (.int .i64 e.an) ∧ wx.cell? ⟨w.heap.size + 1, 3, none⟩ = some (.int .i64 e.bv) ∧ wx.cell? ⟨w.heap.size + 1, 4, none⟩ = some (.int .i64 e.bn)) (go_keep) (first
        | (go_at_call 77; refine reckonedBy_any _ ss _ (HH.out.keep HB2.out.drew) HF.out.1 ?_; intro W4 es bs D lv sv hRS hb4 hs4 hes hcb; subst hes; have z0 := cell_keep hb4 (show w2.drew.cell? _ = _ from q2); have y0 := cell_keep hb4 (show w2.drew.cell? _ = _ from x0); have y1 := cell_keep hb4 (show w2.drew.cell? _ = _ from x1); have y2 := cell_keep hb4 (show w2.drew.cell? _ = _ from x2); have y3 := cell_keep hb4 (show w2.drew.cell? _ = _ from x3); have y4 := cell_keep hb4 (show w2.drew.cell? _ = _ from x4); have HB24 : Hid (Below w2.heap.size w2 W4) := (Below.refl _ _).drew.trans hb4)
        | (go_at_call 78; rw [← HXV.out]; refine reckonedSteps_any _ _ _ (Nat.lt_succ_self _) W4 ss bs D lv sv hRS hs4 hcb e HF.out.2.1 ?_; intro bb W5 hcw hb5; rw [HXV.out]; have u0 := cell_keep hb5 z0; have v0 := cell_keep hb5 y0; have v1 := cell_keep hb5 y1; have v2 := cell_keep hb5 y2; have v3 := cell_keep hb5 y3; have v4 := cell_keep hb5 y4; have HB25 : Hid (Below w2.heap.size w2 W5) := HB24.out.trans (hb5.mono HB24.out.size))
        | (go_at_call 76; refine countOn_any _ ss e zs B _ _ bb _ HF.out.1 ((HZ.out.keep HB2.out).at.keep HB25.out) (HPA.out.places HF.out.1) hzl2 (HM.out.keep HB25.out) hcw ?_))
      all_goals
        have HBW : Hid (Below w.heap.size w W5) := HB2.out.trans (HB25.out.mono HB2.out.size)
        have HC : Hid (CountOr ss e ps ts zs (cntP (fun j => ps.getD j false) (fun j => cF e ss j && !ts.getD j false) zs : Int)) := Or.inl ⟨HF.out, HPA.out, rfl⟩
        clear hRS hb4 hs4 hcb hcw hb5
        go_wp2
        exact HQ.out _ _ HBW.out HC.out
  · have HB2 : Hid (Below w.heap.size w w2) := (hb0 _ _ _).trans (hb2.mono (by simp; omega))
    have HC : Hid (CountOr ss e ps ts zs (-1)) := Or.inr ⟨fun e => hf e.1, rfl⟩
    clear hb2 hb0 hf
    go_wp2
    exact HQ.out _ _ HB2.out HC.out
end Go.Proofs.YtacgfbcfkjflmaaGreat
