/- The program's movesOf: a way of moving as a move for each step. -/
import Derived.Test.YtacgfbcfkjflmaaGreatAnsBeG
import Derived.Test.YtacgfbcfkjflmaaGreatImplOk
import Derived.Test.YtacgfbcfkjflmaaGreatExprO
import Derived.BigRegion
namespace Go.Proofs.YtacgfbcfkjflmaaGreat
open Go.RowKit

set_option maxRecDepth 100000 in
set_option maxHeartbeats 4000000 in
theorem movesOf_any {Q : Ending → World → Prop} (v x1 x2 : Value) (ss : List St) (e : E5) (ps ts : List Bool) (w : World) (h : StepsAt w v ss) (hl : ss.length ≤ 1048576) (hls : ∀ s ∈ ss, s.next.length ≤ 1048576) (hp : BoolsAt w x1 ps) (ht : BoolsAt w x2 ts)
    (hQ : ∀ B w', Below w.heap.size w w' → w.heap.size ≤ B → FormP ss e ps ts → MRow w' B 103 ss.length (fun j => ps.getD j false) (fun j => ts.getD j false) → Q (.returned (.tuple #[.slice (some ⟨B, 0, none⟩) ss.length ss.length, .bool true])) w')
    (hN : ∀ w', Below w.heap.size w w' → ¬ FormP ss e ps ts → Q (.returned (.tuple #[.slice none 0 0, .bool false])) w') :
    Calls Tryz.prog 49 #[.agg #[v], .agg #[.int .i64 e.op, .int .i64 e.av, .int .i64 e.an, .int .i64 e.bv, .int .i64 e.bn], .agg #[x1, x2]] w Q := by
  have HQ : Hid _ := hQ
  have HNO : Hid _ := hN
  clear hQ hN
  obtain ⟨ao, b, o, cap, rfl, _, _⟩ := id h
  obtain ⟨po, pb, pof, pcap, rfl, hpa, hpc⟩ := id hp
  obtain ⟨to, tb, tof, tcap, rfl, hta, htc⟩ := id ht
  have HH : Hid (StepsAt w (.slice ao ss.length cap) ss) := h
  have HL : Hid (∀ s ∈ ss, s.next.length ≤ 1048576) := hls
  have HXV : Hid (exV e = .agg #[.int .i64 e.op, .int .i64 e.av, .int .i64 e.an, .int .i64 e.bv, .int .i64 e.bn]) := rfl
  have HPA : Hid _ := hpa
  have HPC : Hid _ := hpc
  have HTA : Hid _ := hta
  have HTC : Hid _ := htc
  clear h hls hp ht hpa hpc hta htc
  have hb0 : ∀ O O' O'', Below w.heap.size w (((w.alloc O).alloc O').alloc O'') := fun O O' O'' => (((Below.refl _ _).alloc (Nat.le_refl _) O).alloc (by simp) O').alloc (by simp; omega) O''
  go_enter Tryz.func49, Tryz.ntmps49
  go_wp2_with fail
  refine implOk_any _ ss _ (HH.out.keep (hb0 _ _ _)) hl HL.out fun w2 hb2 => ?_
  have HB2 : Hid (Below w.heap.size w w2) := (hb0 _ _ _).trans (hb2.mono (by simp; omega))
  have q2 : w2.cell? ⟨w.heap.size, 0, none⟩ = some (.slice ao ss.length cap) := cell_keep hb2 (by simp [go_sem])
  have x0 : w2.cell? ⟨w.heap.size + 1, 0, none⟩ = some (.int .i64 e.op) := cell_keep hb2 (by simp [go_sem])
  have x1 : w2.cell? ⟨w.heap.size + 1, 1, none⟩ = some (.int .i64 e.av) := cell_keep hb2 (by simp [go_sem])
  have x2 : w2.cell? ⟨w.heap.size + 1, 2, none⟩ = some (.int .i64 e.an) := cell_keep hb2 (by simp [go_sem])
  have x3 : w2.cell? ⟨w.heap.size + 1, 3, none⟩ = some (.int .i64 e.bv) := cell_keep hb2 (by simp [go_sem])
  have x4 : w2.cell? ⟨w.heap.size + 1, 4, none⟩ = some (.int .i64 e.bn) := cell_keep hb2 (by simp [go_sem])
  have p0 : w2.cell? ⟨w.heap.size + 1 + 1, 0, none⟩ = some (.slice po ps.length pcap) := cell_keep hb2 (by simp [go_sem])
  have p1 : w2.cell? ⟨w.heap.size + 1 + 1, 1, none⟩ = some (.slice to ts.length tcap) := cell_keep hb2 (by simp [go_sem])
  clear hb2 hb0
  cases hok : okB ss
  · have HF : Hid (¬ FormP ss e ps ts) := fun f => by rw [f.1] at hok; cases hok
    clear hok
    go_wp2
    exact HNO.out _ HB2.out HF.out
  have HOK : Hid (okB ss = true) := hok
  have hn2 : ss.length ≤ 60 := (ok_len hok).2
  clear hok
  go_wp2_with fail
  rw [← HXV.out]
  refine implExprOk_any e _ fun w3 hb3 => ?_
  rw [HXV.out]
  have p0' := cell_keep hb3 p0
  have p1' := cell_keep hb3 p1
  have hs3 : w.heap.size + 1 + 1 < w3.heap.size := cell_lt p0'
  have HB3 : Hid (Below w.heap.size w w3) := HB2.out.trans (hb3.mono HB2.out.size)
  clear hb3 q2 x0 x1 x2 x3 x4 p0 p1 HB2
  cases hex : exprB e
  · have HF : Hid (¬ FormP ss e ps ts) := fun f => by rw [f.2.1] at hex; cases hex
    clear hex
    go_wp2
    exact HNO.out _ HB3.out HF.out
  have HEX : Hid (exprB e = true) := hex
  clear hex
  by_cases hpl : ps.length = ss.length
  case neg =>
    have HF : Hid (¬ FormP ss e ps ts) := fun f => hpl f.2.2.1
    have hpi : ¬ (ps.length : Int) = (ss.length : Int) := by omega
    go_wp2
    exact HNO.out _ HB3.out HF.out
  by_cases htl : ts.length = ss.length
  case neg =>
    have HF : Hid (¬ FormP ss e ps ts) := fun f => htl f.2.2.2
    have hpi : (ps.length : Int) = (ss.length : Int) := by omega
    have hti : ¬ (ts.length : Int) = (ss.length : Int) := by omega
    go_wp2
    exact HNO.out _ HB3.out HF.out
  have HF : Hid (FormP ss e ps ts) := ⟨HOK.out, HEX.out, hpl, htl⟩
  have hpi : (ps.length : Int) = (ss.length : Int) := by omega
  have hti : (ts.length : Int) = (ss.length : Int) := by omega
  go_wp2_with (at_make; refine wpList_make_moves _ rfl (.tmp 36) (.tmp 36) 79 rfl 103 2 Tryz.underlying79 infoMove .i64 .i64 ss.length rfl rfl (by omega) (by omega) ?_)
  intro w4 hrow4 hb4 hs4
  have HR4 : Hid (MRow w4 w3.heap.size 103 ss.length (fun _ => false) (fun _ => false)) := hrow4
  have HB4 : Hid (Below w.heap.size w w4) := HB3.out.trans (hb4.mono HB3.out.size)
  have HC0 : Hid (w4.cell? ⟨w.heap.size + 1 + 1, 0, none⟩ = some (.slice po ps.length pcap)) := cell_keep hb4 p0'
  have HC1 : Hid (w4.cell? ⟨w.heap.size + 1 + 1, 1, none⟩ = some (.slice to ts.length tcap)) := cell_keep hb4 p1'
  have hss : w3.heap.size < w4.heap.size := by omega
  clear hrow4 hb4 hs4 p0' p1'
  generalize w3.heap.size = M at *
  go_wp2_with fail
  go_loopw [10, 40] (fun _ i wr => ∃ k : Nat, k ≤ ss.length ∧ i = .int .i64 k ∧ MRow wr M 103 ss.length (fun j => decide (j < k) && ps.getD j false) (fun j => decide (j < k) && ts.getD j false) ∧ Out M (M + 1) w4 wr) (fun _ i _ => ss.length - (intOf i).toNat)
  case atStart => exact ⟨0, Nat.zero_le _, rfl, HR4.out.congr fun j _ => by simp, Out.refl _ _ _⟩
  case round =>
    obtain ⟨k, hk, rfl, hmr, ho⟩ := hrel
    have HM : Hid (MRow wr M 103 ss.length (fun j => decide (j < k) && ps.getD j false) (fun j => decide (j < k) && ts.getD j false)) := hmr
    have HO : Hid (Out M (M + 1) w4 wr) := ho
    have HBR : Hid (Below w.heap.size w wr) := HB4.out.trans (ho.below (by omega) HB4.out.size)
    clear hmr ho
    by_cases hkn : k < ss.length
    · have hki : (k : Int) < (ss.length : Int) := by omega
      obtain rfl := HPA.out (by omega)
      obtain rfl := HTA.out (by omega)
      have d0 := HO.out.cell HC0.out (Or.inl (by show w.heap.size + 1 + 1 < M; omega))
      have d1 := HO.out.cell HC1.out (Or.inl (by show w.heap.size + 1 + 1 < M; omega))
      have dp := cell_keep HBR.out (HPC.out k (by omega))
      have dt := cell_keep HBR.out (HTC.out k (by omega))
      have hpM := cell_lt (HPC.out k (by omega))
      have htM := cell_lt (HTC.out k (by omega))
      simp only at hpM htM
      have m0 := HM.out.put hkn
      have m1 := HM.out.take hkn
      have mf := HM.out.frozen (k * 2)
      have mg := HM.out.frozen (k * 2 + 1)
      have HN : Hid (MRow ((wr.setCell ⟨M, k * 2, none⟩ (.bool (ps.getD k false))).setCell ⟨M, k * 2 + 1, none⟩ (.bool (ts.getD k false))) M 103 ss.length (fun j => decide (j < k + 1) && ps.getD j false) (fun j => decide (j < k + 1) && ts.getD j false)) := (HM.out.set k (ps.getD k false) (ts.getD k false)).congr fun j _ => by
        by_cases e1 : j = k
        · subst e1; simp
        · by_cases e2 : j < k
          · have : j < k + 1 := by omega
            simp [e1, e2, this]
          · have : ¬ j < k + 1 := by omega
            simp [e1, e2, this]
      have HNO2 : Hid (Out M (M + 1) w4 ((wr.setCell ⟨M, k * 2, none⟩ (.bool (ps.getD k false))).setCell ⟨M, k * 2 + 1, none⟩ (.bool (ts.getD k false)))) := (HO.out.setCell (p := ⟨M, k * 2, none⟩) (Nat.le_refl _) (Nat.lt_succ_self _) _).setCell (p := ⟨M, k * 2 + 1, none⟩) (Nat.le_refl _) (Nat.lt_succ_self _) _
      have ne0 : ¬ M = w.heap.size + 1 + 1 := by omega
      have ne1 : ¬ M = pb := by omega
      have ne2 : ¬ M = tb := by omega
      clear HM HO HBR
      generalize ps.getD k false = ex at *
      generalize ts.getD k false = tx at *
      generalize wr = W5 at *
      go_wp2_with fail
      go_region
      all_goals
        go_wp2
        go_roundw
        case rel => exact ⟨k + 1, by omega, by go_num, HN.out, ⟨HNO2.out.os, HNO2.out.tape, HNO2.out.output, HNO2.out.size, HNO2.out.block⟩⟩
        case measure => simp [intOf]; omega
    · have hki : ¬ (k : Int) < (ss.length : Int) := by omega
      obtain rfl : k = ss.length := by omega
      have HFM : Hid (MRow wr M 103 ss.length (fun j => ps.getD j false) (fun j => ts.getD j false)) := HM.out.congr fun j hj => by simp [hj]
      go_wp2
      exact HQ.out _ _ HBR.out (by omega) HF.out HFM.out
end Go.Proofs.YtacgfbcfkjflmaaGreat
