/- What the program's keep answers. -/
import Derived.Test.YtdgghpklhkgknaaDoorImplEK1
import Derived.Deep.RegionHeld
namespace Go.Proofs.YtdgghpklhkgknaaDoor
open Go.RowKit

theorem changedSteps_cs {Q : Ending → World → Prop} (f : Nat → BitVec 64) (cs : List Value) (hcs : chV f = .agg cs.toArray) (v n : Int) (w : World)
    (hQ : ∀ w', Below w.heap.size w w' → Q (.returned (.int .u64 ((stB f v).toNat : Int))) w') :
    Calls Tryd.prog 74 #[.agg cs.toArray, .agg #[.int .i64 v, .int .i64 n]] w Q := by
  rw [← hcs]
  exact changedSteps_any f v n w hQ

theorem firstSteps_u {Q : Ending → World → Prop} (n : Nat) (w : World) (hn : n ≤ 60) (hQ : Q (.returned (.int .u64 ((fullB n).toNat : Int))) w) :
    Calls Tryd.prog 73 #[.int .i64 (n : Int)] w Q := firstSteps_any n w hn hQ

theorem chV_range (f : Nat → BitVec 64) (w : World) : ∃ cs : List Value, chV f = .agg cs.toArray ∧ cs.length = 12 ∧ ∀ O, ((w.alloc (.cells cs.toArray 75)).alloc O).rangeAt w.heap.size 0 cs :=
  ⟨[bsV (f 0), bsV (f 1), bsV (f 2), bsV (f 3), bsV (f 4), bsV (f 5), bsV (f 6), bsV (f 7), bsV (f 8), bsV (f 9), bsV (f 10), bsV (f 11)], rfl, rfl, fun O j v hj => by
    have hr := (World.rowIs_alloc w #[bsV (f 0), bsV (f 1), bsV (f 2), bsV (f 3), bsV (f 4), bsV (f 5), bsV (f 6), bsV (f 7), bsV (f 8), bsV (f 9), bsV (f 10), bsV (f 11)] 75 (fun j => bsV (f j)) (fun i hi => by
        simp at hi
        match i, hi with
        | 0, _ => rfl
        | 1, _ => rfl
        | 2, _ => rfl
        | 3, _ => rfl
        | 4, _ => rfl
        | 5, _ => rfl
        | 6, _ => rfl
        | 7, _ => rfl
        | 8, _ => rfl
        | 9, _ => rfl
        | 10, _ => rfl
        | 11, _ => rfl
        | n + 12, h => omega)).alloc O
    have hl : j < 12 := (List.getElem?_eq_some_iff.1 hj).1
    have hc := hr.cell (i := j) (by simpa using hl)
    rw [Nat.zero_add, hc, ← hj]
    match j, hl with
    | 0, _ => rfl
    | 1, _ => rfl
    | 2, _ => rfl
    | 3, _ => rfl
    | 4, _ => rfl
    | 5, _ => rfl
    | 6, _ => rfl
    | 7, _ => rfl
    | 8, _ => rfl
    | 9, _ => rfl
    | 10, _ => rfl
    | 11, _ => rfl
    | n + 12, h => omega⟩

set_option maxRecDepth 100000 in
set_option maxHeartbeats 2000000 in
theorem keep_any {Q : Ending → World → Prop} (f : Nat → BitVec 64) (e : E5) (n : Nat) (w : World) (hn : n ≤ 60)
    (hQ : ∀ w', Below w.heap.size w w' → Q (.returned (bsV (kpB f e n))) w') :
    Calls Tryd.prog 47 #[chV f, exV e, .int .i64 (n : Int)] w Q := by
  have HQ : Hid _ := hQ
  clear hQ
  have hb0 : ∀ O O', Below w.heap.size w ((w.alloc O).alloc O') := fun O O' => ((Below.refl _ _).alloc (Nat.le_refl _) O).alloc (by simp) O'
  obtain ⟨bo, hbo⟩ : ∃ bo, stB f e.av ||| stB f e.bv = bo := ⟨_, rfl⟩
  have HOR : Hid (bits BinOp.or IntKind.u64 ((stB f e.av).toNat : Int) ((stB f e.bv).toNat : Int) = (bo.toNat : Int)) := hbo ▸ bits_or _ _
  have HAN : Hid (bits BinOp.andNot IntKind.u64 ((fullB n).toNat : Int) (bo.toNat : Int) = ((kpB f e n).toNat : Int)) := by
    rw [Hid, bits_andNot]
    unfold kpB
    rw [hbo]
  clear hbo
  obtain ⟨cs, hcs, hcl, hrg⟩ := chV_range f w
  have hex : exV e = .agg #[.int .i64 e.op, .int .i64 e.av, .int .i64 e.an, .int .i64 e.bv, .int .i64 e.bn] := rfl
  have hu : Tryd.prog.underlying 75 = some (.array 12 66) := Tryd.underlying75
  have hi : (Tryd.prog.info? 75).map (·.size) = some cs.length := by rw [hcl]; kernel_rfl
  have HCS : Hid (chV f = .agg cs.toArray) := hcs
  rw [hcs, hex]
  clear hcs hex hcl
  go_enter Tryd.func47, Tryd.ntmps47
  go_wp2_with fail
  have r0 : ((w.alloc (.cells cs.toArray 75)).alloc (.cells #[.int .i64 e.op, .int .i64 e.av, .int .i64 e.an, .int .i64 e.bv, .int .i64 e.bn] 38)).rangeAt w.heap.size 0 cs := hrg _
  have z0 : ((w.alloc (.cells cs.toArray 75)).alloc (.cells #[.int .i64 e.op, .int .i64 e.av, .int .i64 e.an, .int .i64 e.bv, .int .i64 e.bn] 38)).cell? ⟨w.heap.size + 1, 0, none⟩ = some (.int .i64 e.op) := by simp [go_sem]
  have z1 : ((w.alloc (.cells cs.toArray 75)).alloc (.cells #[.int .i64 e.op, .int .i64 e.av, .int .i64 e.an, .int .i64 e.bv, .int .i64 e.bn] 38)).cell? ⟨w.heap.size + 1, 1, none⟩ = some (.int .i64 e.av) := by simp [go_sem]
  have z2 : ((w.alloc (.cells cs.toArray 75)).alloc (.cells #[.int .i64 e.op, .int .i64 e.av, .int .i64 e.an, .int .i64 e.bv, .int .i64 e.bn] 38)).cell? ⟨w.heap.size + 1, 2, none⟩ = some (.int .i64 e.an) := by simp [go_sem]
  have z3 : ((w.alloc (.cells cs.toArray 75)).alloc (.cells #[.int .i64 e.op, .int .i64 e.av, .int .i64 e.an, .int .i64 e.bv, .int .i64 e.bn] 38)).cell? ⟨w.heap.size + 1, 3, none⟩ = some (.int .i64 e.bv) := by simp [go_sem]
  have z4 : ((w.alloc (.cells cs.toArray 75)).alloc (.cells #[.int .i64 e.op, .int .i64 e.av, .int .i64 e.an, .int .i64 e.bv, .int .i64 e.bn] 38)).cell? ⟨w.heap.size + 1, 4, none⟩ = some (.int .i64 e.bn) := by simp [go_sem]
  have HB : Hid (Below w.heap.size w ((w.alloc (.cells cs.toArray 75)).alloc (.cells #[.int .i64 e.op, .int .i64 e.av, .int .i64 e.an, .int .i64 e.bv, .int .i64 e.bn] 38))) := hb0 _ _
  generalize ((w.alloc (.cells cs.toArray 75)).alloc (.cells #[.int .i64 e.op, .int .i64 e.av, .int .i64 e.an, .int .i64 e.bv, .int .i64 e.bn] 38)) = W0 at *
  clear hb0 hrg
  refine wp_region_held_drew (S := (fun wx => wx.rangeAt w.heap.size 0 cs ∧ wx.cell? ⟨w.heap.size + 1, 0, none⟩ = some (.int .i64 e.op) ∧ wx.cell? ⟨w.heap.size + 1, 1, none⟩ = some (.int .i64 e.av) ∧ wx.cell? ⟨w.heap.size + 1, 2, none⟩ = some (.int .i64 e.an) ∧ wx.cell? ⟨w.heap.size + 1, 3, none⟩ = some (.int .i64 e.bv) ∧ wx.cell? ⟨w.heap.size + 1, 4, none⟩ = some (.int .i64 e.bn))) (by kernel_rfl) ⟨r0, z0, z1, z2, z3, z4⟩ (fun hHeld => ?_)
  refine wpAnyH_take (i := 0) (v := .int .i64 (n : Int)) rfl (by kernel_rfl) (by kernel_rfl) (by kernel_rfl) (fun _ _ _ h => h) (Or.inl ⟨by rfl, fun wx hS => by obtain ⟨_, h0, h1, h2, h3, h4⟩ := hS; go_simp⟩) hHeld ?_
  simp only [Act.put, List.setIfInBounds_toArray]
  refine wpAnyH_take (i := 2) (v := .agg cs.toArray) rfl (by kernel_rfl) (by kernel_rfl) (by kernel_rfl) (fun _ _ _ h => h) (yieldsIf_load_mid (by rfl) _ _ rfl w.heap.size 0 rfl cs _ (fun wx hS => hS.1) hu rfl hi) hHeld ?_
  simp only [Act.put]
  refine wpAnyH_take (i := 3) (v := .pointer (some ⟨w.heap.size + 1, 1, none⟩)) rfl (by kernel_rfl) (by kernel_rfl) (by kernel_rfl) (fun _ _ _ h => h) (Or.inl ⟨by rfl, fun wx hS => by obtain ⟨_, h0, h1, h2, h3, h4⟩ := hS; go_simp⟩) hHeld ?_
  simp only [Act.put]
  refine wpAnyH_take (i := 4) (v := .agg #[.int .i64 e.av, .int .i64 e.an]) rfl (by kernel_rfl) (by kernel_rfl) (by kernel_rfl) (fun _ _ _ h => h) (Or.inl ⟨by rfl, fun wx hS => by obtain ⟨_, h0, h1, h2, h3, h4⟩ := hS; go_simp⟩) hHeld ?_
  simp only [Act.put]
  refine wpAnyH_take (i := 6) (v := .agg cs.toArray) rfl (by kernel_rfl) (by kernel_rfl) (by kernel_rfl) (fun _ _ _ h => h) (yieldsIf_load_mid (by rfl) _ _ rfl w.heap.size 0 rfl cs _ (fun wx hS => hS.1) hu rfl hi) hHeld ?_
  simp only [Act.put]
  refine wpAnyH_take (i := 7) (v := .pointer (some ⟨w.heap.size + 1, 3, none⟩)) rfl (by kernel_rfl) (by kernel_rfl) (by kernel_rfl) (fun _ _ _ h => h) (Or.inl ⟨by rfl, fun wx hS => by obtain ⟨_, h0, h1, h2, h3, h4⟩ := hS; go_simp⟩) hHeld ?_
  simp only [Act.put]
  refine wpAnyH_take (i := 8) (v := .agg #[.int .i64 e.bv, .int .i64 e.bn]) rfl (by kernel_rfl) (by kernel_rfl) (by kernel_rfl) (fun _ _ _ h => h) (Or.inl ⟨by rfl, fun wx hS => by obtain ⟨_, h0, h1, h2, h3, h4⟩ := hS; go_simp⟩) hHeld ?_
  simp only [Act.put]
  refine wpAnyH_ready (rs := [1]) (by kernel_rfl) (by simp) ?_
  refine AllReadyH.cons rfl (fun K hK => ?_) AllReadyH.nil
  go_simp
  refine firstSteps_u n _ hn ?_
  go_wp2_with fail
  refine hK.out _ _ hHeld (fun hHeld => ?_)
  clear hK K
  try simp only [Act.put, List.setIfInBounds_toArray, List.set_cons_zero, List.set_cons_succ]
  refine wpAnyH_ready (rs := [5]) (by kernel_rfl) (by simp) ?_
  refine AllReadyH.cons rfl (fun K hK => ?_) AllReadyH.nil
  go_simp
  refine changedSteps_cs f cs HCS.out e.av e.an _ fun w1 hb1 => ?_
  go_wp2_with fail
  refine hK.out _ _ ⟨rangeAt_keep hHeld.1 hb1, cell_keep hb1 hHeld.2.1, cell_keep hb1 hHeld.2.2.1, cell_keep hb1 hHeld.2.2.2.1, cell_keep hb1 hHeld.2.2.2.2.1, cell_keep hb1 hHeld.2.2.2.2.2⟩ (fun hHeld2 => ?_)
  clear hK K
  try simp only [Act.put, List.setIfInBounds_toArray, List.set_cons_zero, List.set_cons_succ]
  refine wpAnyH_ready (rs := [9]) (by kernel_rfl) (by simp) ?_
  refine AllReadyH.cons rfl (fun K hK => ?_) AllReadyH.nil
  go_simp
  refine changedSteps_cs f cs HCS.out e.bv e.bn _ fun w2 hb2 => ?_
  go_wp2_with fail
  refine hK.out _ _ ⟨rangeAt_keep hHeld2.1 hb2, cell_keep hb2 hHeld2.2.1, cell_keep hb2 hHeld2.2.2.1, cell_keep hb2 hHeld2.2.2.2.1, cell_keep hb2 hHeld2.2.2.2.2.1, cell_keep hb2 hHeld2.2.2.2.2.2⟩ (fun hHeld3 => ?_)
  clear hK K
  try simp only [Act.put, List.setIfInBounds_toArray, List.set_cons_zero, List.set_cons_succ]
  have HB1 : Below w.heap.size w w1 := HB.out.drew.trans (hb1.mono HB.out.size)
  have HB2 : Hid (Below w.heap.size w w2) := HB1.trans (hb2.mono HB1.size)
  clear hb1 hb2 HB1 hHeld hHeld2
  refine wpAnyH_ready (rs := [10]) (by kernel_rfl) (by simp) ?_
  refine AllReadyH.cons rfl (fun K hK => ?_) AllReadyH.nil
  go_simp
  rw [HOR.out]
  refine hK.out _ _ hHeld3 (fun _ => ?_)
  clear hK K
  try simp only [Act.put, List.setIfInBounds_toArray, List.set_cons_zero, List.set_cons_succ]
  refine wpAnyH_ready (rs := [11]) (by kernel_rfl) (by simp) ?_
  refine AllReadyH.cons rfl (fun K hK => ?_) AllReadyH.nil
  go_simp
  rw [HAN.out]
  refine hK.out _ _ hHeld3 (fun _ => ?_)
  clear hK K
  try simp only [Act.put, List.setIfInBounds_toArray, List.set_cons_zero, List.set_cons_succ]
  refine wpAnyH_ready (rs := [12]) (by kernel_rfl) (by simp) ?_
  refine AllReadyH.cons rfl (fun K hK => ?_) AllReadyH.nil
  go_simp
  refine hK.out _ _ hHeld3 (fun _ => ?_)
  clear hK K
  try simp only [Act.put, List.setIfInBounds_toArray, List.set_cons_zero, List.set_cons_succ]
  refine wpAnyH_done (by kernel_rfl) ?_ _
  go_wp2
  exact HQ.out _ HB2.out
end Go.Proofs.YtdgghpklhkgknaaDoor
