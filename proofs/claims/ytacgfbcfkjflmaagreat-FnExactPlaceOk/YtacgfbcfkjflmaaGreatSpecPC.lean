/- The model's l13Form and PathCount. -/
import Derived.Test.YtacgfbcfkjflmaaGreatSpecPath
import Derived.Test.YtacgfbcfkjflmaaGreatSpecSS
import Derived.Test.YtacgfbcfkjflmaaGreatSpecEC
import Derived.Test.YtacgfbcfkjflmaaGreatPathPG
namespace Go.Proofs.YtacgfbcfkjflmaaGreat
open Go.RowKit

set_option maxRecDepth 100000 in
set_option maxHeartbeats 2000000 in
theorem l13Form_any {Q : Ending → World → Prop} (v x1 x2 : Value) (ss : List St) (e : E5) (ps ts : List Bool) (w : World) (h : StepsAt w v ss) (hl : ss.length ≤ 1048576) (hls : ∀ s ∈ ss, s.next.length ≤ 1048576) (hp : BoolsAt w x1 ps) (ht : BoolsAt w x2 ts)
    (hQ : ∀ (b : Bool) w', Below w.heap.size w w' → (b = true ↔ FormP ss e ps ts) → Q (.returned (.bool b)) w') :
    Calls Tryz.prog 43 #[.agg #[v], .agg #[.int .i64 e.op, .int .i64 e.av, .int .i64 e.an, .int .i64 e.bv, .int .i64 e.bn], .agg #[x1, x2]] w Q := by
  have HQ : Hid _ := hQ
  clear hQ
  obtain ⟨ao, b, o, cap, rfl, _, _⟩ := id h
  obtain ⟨po, pb, pof, pcap, rfl, _, _⟩ := id hp
  obtain ⟨to, tb, tof, tcap, rfl, _, _⟩ := id ht
  have hb0 : ∀ O O' O'', Below w.heap.size w (((w.alloc O).alloc O').alloc O'') := fun O O' O'' => (((Below.refl _ _).alloc (Nat.le_refl _) O).alloc (by simp) O').alloc (by simp; omega) O''
  go_enter Tryz.func43, Tryz.ntmps43
  go_wp2_with fail
  refine l12Ok_any _ ss e _ (h.keep (hb0 _ _ _)) hl hls fun w2 hb2 => ?_
  have HB2 : Hid (Below w.heap.size w w2) := (hb0 _ _ _).trans (hb2.mono (by simp; omega))
  have q2 : w2.cell? ⟨w.heap.size, 0, none⟩ = some (.slice ao ss.length cap) := cell_keep hb2 (by simp [go_sem])
  have p0 : w2.cell? ⟨w.heap.size + 1 + 1, 0, none⟩ = some (.slice po ps.length pcap) := cell_keep hb2 (by simp [go_sem])
  have p1 : w2.cell? ⟨w.heap.size + 1 + 1, 1, none⟩ = some (.slice to ts.length tcap) := cell_keep hb2 (by simp [go_sem])
  clear hb2 hb0 h hp ht
  cases hok : (okB ss && exprB e)
  · have HF : Hid (false = true ↔ FormP ss e ps ts) := ⟨(fun e => by cases e), fun f => by rw [f.1, f.2.1] at hok; cases hok⟩
    clear hok
    go_wp2
    exact HQ.out _ _ HB2.out HF.out
  have hok2 : okB ss = true ∧ exprB e = true := by simpa using hok
  have HOK : Hid (okB ss = true ∧ exprB e = true) := hok2
  clear hok hok2
  by_cases hpl : ps.length = ss.length
  case neg =>
    have HF : Hid (false = true ↔ FormP ss e ps ts) := ⟨(fun e => by cases e), fun f => absurd f.2.2.1 hpl⟩
    have hpi : ¬ (ps.length : Int) = (ss.length : Int) := by omega
    have hpb : ((ps.length : Int) == (ss.length : Int)) = false := by simpa using hpi
    go_wp2
    exact HQ.out _ _ HB2.out HF.out
  by_cases htl : ts.length = ss.length
  case neg =>
    have HF : Hid (false = true ↔ FormP ss e ps ts) := ⟨(fun e => by cases e), fun f => absurd f.2.2.2 htl⟩
    have hpi : (ps.length : Int) = (ss.length : Int) := by omega
    have hpb : ((ps.length : Int) == (ss.length : Int)) = true := by simpa using hpi
    have hti : ¬ (ts.length : Int) = (ss.length : Int) := by omega
    have htb : ((ts.length : Int) == (ss.length : Int)) = false := by simpa using hti
    go_wp2
    exact HQ.out _ _ HB2.out HF.out
  have HF : Hid (FormP ss e ps ts) := ⟨HOK.out.1, HOK.out.2, hpl, htl⟩
  have hpi : (ps.length : Int) = (ss.length : Int) := by omega
  have hti : (ts.length : Int) = (ss.length : Int) := by omega
  have hpb : ((ps.length : Int) == (ss.length : Int)) = true := by simpa using hpi
  have htb : ((ts.length : Int) == (ss.length : Int)) = true := by simpa using hti
  go_wp2
  exact HQ.out _ _ HB2.out ⟨fun _ => HF.out, fun _ => rfl⟩

set_option maxRecDepth 100000 in
set_option maxHeartbeats 4000000 in
theorem specPathCount_any {Q : Ending → World → Prop} (v x1 x2 y : Value) (ss : List St) (e : E5) (ps ts : List Bool) (zs : List Int) (w : World) (h : StepsAt w v ss) (hl : ss.length ≤ 1048576) (hls : ∀ s ∈ ss, s.next.length ≤ 1048576) (hp : BoolsAt w x1 ps) (ht : BoolsAt w x2 ts) (hz : IntsAt w y zs) (hzl : zs.length ≤ 1048576)
    (hQ : ∀ (n : Int) w', Below w.heap.size w w' → CountOr ss e ps ts zs n → Q (.returned (.int .i64 n)) w') :
    Calls Tryz.prog 35 #[.agg #[v], .agg #[.int .i64 e.op, .int .i64 e.av, .int .i64 e.an, .int .i64 e.bv, .int .i64 e.bn], .agg #[x1, x2], y] w Q := by
  have HQ : Hid _ := hQ
  clear hQ
  obtain ⟨ao, b, o, cap, rfl, _, _⟩ := id h
  obtain ⟨po, pb, pof, pcap, rfl, hpa, hpc⟩ := id hp
  obtain ⟨to, tb, tof, tcap, rfl, hta, htc⟩ := id ht
  obtain ⟨yo, yb, yof, ycap, rfl, hya, hyc⟩ := id hz
  have HH : Hid (StepsAt w (.slice ao ss.length cap) ss) := h
  have HL : Hid (∀ s ∈ ss, s.next.length ≤ 1048576) := hls
  have HXV : Hid (exV e = .agg #[.int .i64 e.op, .int .i64 e.av, .int .i64 e.an, .int .i64 e.bv, .int .i64 e.bn]) := rfl
  have HP : Hid (BoolsAt w (.slice po ps.length pcap) ps) := hp
  have HT : Hid (BoolsAt w (.slice to ts.length tcap) ts) := ht
  have HZ : Hid (IntsAt w (.slice yo zs.length ycap) zs) := hz
  have HPA : Hid _ := hpa
  have HPC : Hid _ := hpc
  have HTA : Hid _ := hta
  have HTC : Hid _ := htc
  have HYA : Hid _ := hya
  have HYC : Hid _ := hyc
  clear h hls hp ht hz hpa hpc hta htc hya hyc
  have hb0 : ∀ O O' O'', Below w.heap.size w (((w.alloc O).alloc O').alloc O'') := fun O O' O'' => (((Below.refl _ _).alloc (Nat.le_refl _) O).alloc (by simp) O').alloc (by simp; omega) O''
  go_enter Tryz.func35, Tryz.ntmps35
  go_wp2_with fail
  refine l13Form_any _ _ _ ss e ps ts _ (HH.out.keep (hb0 _ _ _)) hl HL.out (HP.out.keep (hb0 _ _ _)) (HT.out.keep (hb0 _ _ _)) fun fb w2 hb2 hfb => ?_
  have HB2 : Hid (Below w.heap.size w w2) := (hb0 _ _ _).trans (hb2.mono (by simp; omega))
  have q2 : w2.cell? ⟨w.heap.size, 0, none⟩ = some (.slice ao ss.length cap) := cell_keep hb2 (by simp [go_sem])
  have x0 : w2.cell? ⟨w.heap.size + 1, 0, none⟩ = some (.int .i64 e.op) := cell_keep hb2 (by simp [go_sem])
  have x1 : w2.cell? ⟨w.heap.size + 1, 1, none⟩ = some (.int .i64 e.av) := cell_keep hb2 (by simp [go_sem])
  have x2 : w2.cell? ⟨w.heap.size + 1, 2, none⟩ = some (.int .i64 e.an) := cell_keep hb2 (by simp [go_sem])
  have x3 : w2.cell? ⟨w.heap.size + 1, 3, none⟩ = some (.int .i64 e.bv) := cell_keep hb2 (by simp [go_sem])
  have x4 : w2.cell? ⟨w.heap.size + 1, 4, none⟩ = some (.int .i64 e.bn) := cell_keep hb2 (by simp [go_sem])
  have p0 : w2.cell? ⟨w.heap.size + 1 + 1, 0, none⟩ = some (.slice po ps.length pcap) := cell_keep hb2 (by simp [go_sem])
  have p1 : w2.cell? ⟨w.heap.size + 1 + 1, 1, none⟩ = some (.slice to ts.length tcap) := cell_keep hb2 (by simp [go_sem])
  clear hb2 hb0
  cases fb
  · have HC : Hid (CountOr ss e ps ts zs (-1)) := Or.inr ⟨(fun e => by have := hfb.2 e.1; cases this), rfl⟩
    clear hfb
    go_wp2
    exact HQ.out _ _ HB2.out HC.out
  have HF : Hid (FormP ss e ps ts) := hfb.1 rfl
  have hpl : ps.length = ss.length := HF.out.2.2.1
  have htl : ts.length = ss.length := HF.out.2.2.2
  obtain ⟨hn1, hn2⟩ := ok_len HF.out.1
  clear hfb
  go_wp2_with fail
  refine specPathOk_any _ _ ss zs _ (HH.out.keep HB2.out) hl HL.out (HZ.out.keep HB2.out) hzl fun bb w3 hb3 hbb => ?_
  have q3 := cell_keep hb3 q2
  have y0 := cell_keep hb3 x0
  have y1 := cell_keep hb3 x1
  have y2 := cell_keep hb3 x2
  have y3 := cell_keep hb3 x3
  have y4 := cell_keep hb3 x4
  have r0 := cell_keep hb3 p0
  have r1 := cell_keep hb3 p1
  have HB3 : Hid (Below w.heap.size w w3) := HB2.out.trans (hb3.mono HB2.out.size)
  clear hb3 q2 x0 x1 x2 x3 x4 p0 p1 HB2
  cases bb
  · have HC : Hid (CountOr ss e ps ts zs (-1)) := Or.inr ⟨(fun e => by have := hbb.2 ⟨HF.out.1, e.2⟩; cases this), rfl⟩
    clear hbb
    go_wp2
    exact HQ.out _ _ HB3.out HC.out
  have HPT : Hid (IsPath ss zs) := (hbb.1 rfl).2
  have hzl2 : zs.length ≤ 200 := HPT.out.len
  clear hbb
  go_wp2_with fail
  rw [← HXV.out]
  refine specComp_any _ ss e _ (HH.out.keep HB3.out) hl HL.out fun cv cs w4 hb4 hco hown => ?_
  rw [HXV.out]
  have hcs : cs = ss.map (compB e) := by
    have h1 : cs = if (okB ss && exprB e) = true then ss.map (compB e) else [] := hco
    rw [h1, HF.out.1, HF.out.2.1]
    rfl
  have HCO : Hid (BoolsAt w4 cv cs) := (BoolsOwn.of hown).at
  have HCL : Hid (cs.length = ss.length) := by simp [Hid, hcs]
  have HCG : Hid (∀ i (hi : i < ss.length), cs.getD i false = cF e ss i) := fun i hi => by rw [hcs, List.getD_eq_getElem?_getD, List.getElem?_map, List.getElem?_eq_getElem hi, cF_get hi]; rfl
  obtain ⟨co, cb, cof, ccap, rfl, hca, hcc⟩ := id HCO.out
  obtain rfl := hca (by have := HCL.out; omega)
  have HCC : Hid _ := hcc
  have r0' := cell_keep hb4 r0
  have r1' := cell_keep hb4 r1
  have HB4 : Hid (Below w.heap.size w w4) := HB3.out.trans (hb4.mono HB3.out.size)
  clear hb4 hco hown hcs hca hcc q3 y0 y1 y2 y3 y4 r0 r1 HB3
  obtain rfl := HPA.out (by omega)
  obtain rfl := HTA.out (by omega)
  go_wp2
  go_loopw [10, 11] (fun c i wr => ∃ k : Nat, k ≤ zs.length ∧ i = .int .i64 k ∧ c = .int .i64 (cntP (fun j => ps.getD j false) (fun j => cF e ss j && !ts.getD j false) (zs.take k) : Int) ∧ Below w4.heap.size w4 wr) (fun _ i _ => zs.length - (intOf i).toNat)
  case atStart => exact ⟨0, Nat.zero_le _, rfl, rfl, Below.refl _ _⟩
  case round =>
    obtain ⟨k, hk, rfl, rfl, hbr⟩ := hrel
    have HBR : Hid (Below w4.heap.size w4 wr) := hbr
    have HBW : Hid (Below w.heap.size w wr) := HB4.out.trans (hbr.mono HB4.out.size)
    have hcl := cntP_le (fun j => ps.getD j false) (fun j => cF e ss j && !ts.getD j false) (zs.take k)
    have htk : (zs.take k).length ≤ 200 := by simp; omega
    have r0'' := cell_keep hbr r0'
    have r1'' := cell_keep hbr r1'
    clear hbr
    by_cases hkl : k < zs.length
    · have hki : (k : Int) < (zs.length : Int) := by omega
      obtain rfl := HYA.out (by omega)
      have ck := cell_keep HBW.out (HYC.out k hkl)
      obtain ⟨hy0, hy1⟩ := HPT.out.places HF.out.1 (zs.getD k 0) (by rw [List.getD_eq_getElem?_getD, List.getElem?_eq_getElem hkl]; exact List.getElem_mem hkl)
      obtain ⟨m, hm⟩ := Int.eq_ofNat_of_zero_le hy0
      have HE : cntP (fun j => ps.getD j false) (fun j => cF e ss j && !ts.getD j false) (zs.take (k + 1)) = cntP (fun j => ps.getD j false) (fun j => cF e ss j && !ts.getD j false) (zs.take k) + ((if ps.getD m false then 1 else 0) + (if (cF e ss m && !ts.getD m false) then 1 else 0)) := cntP_at _ _ hkl hm
      rw [hm] at ck hy1
      simp only [Int.toNat_natCast] at hy1
      have hmp : (m : Int) < (ps.length : Int) := by omega
      have hmt : (m : Int) < (ts.length : Int) := by omega
      have hmc : (m : Int) < (cs.length : Int) := by have := HCL.out; omega
      have dp := cell_keep HBW.out (HPC.out m (by omega))
      have dt := cell_keep HBW.out (HTC.out m (by omega))
      have dc := cell_keep HBR.out (HCC.out m (by omega))
      rw [HCG.out m hy1] at dc
      clear hm hy0
      obtain ⟨cn, hcn⟩ : ∃ cn, cntP (fun j => ps.getD j false) (fun j => cF e ss j && !ts.getD j false) (zs.take k) = cn := ⟨_, rfl⟩
      rw [hcn] at HE hcl ⊢
      obtain ⟨fm, hfm⟩ : ∃ fm, ps.getD m false = fm := ⟨_, rfl⟩
      obtain ⟨tm, htm⟩ : ∃ tm, ts.getD m false = tm := ⟨_, rfl⟩
      obtain ⟨cm, hcm⟩ : ∃ cm, cF e ss m = cm := ⟨_, rfl⟩
      rw [hfm, htm, hcm] at HE
      rw [hfm] at dp
      rw [htm] at dt
      rw [hcm] at dc
      have HE2 : Hid _ := HE
      clear HE hfm htm hcm hcn
      generalize wr = W5 at *
      cases fm <;> cases cm <;> cases tm
      all_goals
        go_wp2_with fail
        go_quiet (fail)
        go_wp2_with fail
        go_quiet (fail)
        go_wp2
        go_roundw
        case rel => exact ⟨k + 1, by omega, by go_num, by rw [HE2.out]; first | rfl | go_num, below_drewN HBR.out _⟩
        case measure => simp [intOf]; omega
    · have hki : ¬ (k : Int) < (zs.length : Int) := by omega
      obtain rfl : k = zs.length := by omega
      rw [List.take_length] at *
      have HC : Hid (CountOr ss e ps ts zs (cntP (fun j => ps.getD j false) (fun j => cF e ss j && !ts.getD j false) zs : Int)) := Or.inl ⟨HF.out, HPT.out, rfl⟩
      go_wp2
      exact HQ.out _ _ HBW.out HC.out
end Go.Proofs.YtacgfbcfkjflmaaGreat
