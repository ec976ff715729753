/- What the program's ExprComp answers. What the program's ExprKeeps answers. -/
import Derived.Test.YtljlgffkhocgkaaDoorImplEC
import Derived.Test.YtljlgffkhocgkaaDoorImplEKA
import Derived.Test.YtljlgffkhocgkaaDoorImplOk
import Derived.Test.YtljlgffkhocgkaaDoorExprO
import Derived.Test.YtljlgffkhocgkaaDoorRowS
import Derived.Deep.RegionHeld3
namespace Go.Proofs.YtljlgffkhocgkaaDoor
open Go.RowKit Go.Maps

theorem CompW.row {ss : List St} {e : E5} {b : BitVec 64} (h : CompW ss e b) (hn : ss.length ≤ 60) : (List.range ss.length).map (fun j => Value.bool (b.getLsbD j)) = (ss.map (compB e)).map Value.bool := by
  apply List.ext_getElem
  · simp
  · intro i h1 h2
    simp at h1 h2
    simp only [List.getElem_map, List.getElem_range]
    rw [h.get h1 (by omega)]

end Go.Proofs.YtljlgffkhocgkaaDoor
namespace Go.Proofs.YtljlgffkhocgkaaDoor
open Go.RowKit

theorem keep_row {ss : List St} {f : Nat → BitVec 64} {e : E5} (hok : okB ss = true) (hex : exprB e = true) (h : ChF ss ss.length f) : (List.range ss.length).map (fun j => Value.bool ((kpB f e ss.length).getLsbD j)) = (ss.map (keepB e)).map Value.bool := by
  apply List.ext_getElem
  · simp
  · intro i h1 h2
    simp at h1 h2
    simp only [List.getElem_map, List.getElem_range]
    rw [kpB_get hok hex h h1]

theorem keep_u {Q : Ending → World → Prop} (f : Nat → BitVec 64) (e : E5) (n : Nat) (w : World) (hn : n ≤ 60)
    (hQ : ∀ w', Below w.heap.size w w' → Q (.returned (.int .u64 ((kpB f e n).toNat : Int))) w') :
    Calls Tryd.prog 34 #[chV f, .agg #[.int .i64 e.op, .int .i64 e.av, .int .i64 e.an, .int .i64 e.bv, .int .i64 e.bn], .int .i64 (n : Int)] w Q := keep_any f e n w hn hQ

set_option maxRecDepth 100000 in
set_option maxHeartbeats 4000000 in
theorem implKeeps_any {Q : Ending → World → Prop} (v : Value) (ss : List St) (e : E5) (w : World) (h : StepsAt w v ss) (hT : Tab w) (hg : 0 < w.heap.size) (hl : ss.length ≤ 1048576) (hls : ∀ s ∈ ss, s.next.length ≤ 1048576)
    (hQ : ∀ v' rs w', Below w.heap.size w w' → RowOr keepB ss e rs → w'.ownsRow w.heap.size 4 1 v' rs.length (rs.map Value.bool) → Q (.returned v') w') :
    Calls Tryd.prog 10 #[.agg #[v], exV e] w Q := by
  have HQ : Hid _ := hQ
  clear hQ
  obtain ⟨ao, b, o, cap, rfl, ha, hc⟩ := id h
  clear ha hc
  have HH : Hid (StepsAt w (.slice ao ss.length cap) ss) := h
  have HL : Hid (∀ s ∈ ss, s.next.length ≤ 1048576) := hls
  have HT : Hid (∀ X, Below w.heap.size w X → Tab X ∧ 0 < X.heap.size) := fun X hX => ⟨hT.keep hX, Nat.lt_of_lt_of_le hg hX.size⟩
  clear hls h hT hg
  have hb0 : ∀ O O', Below w.heap.size w ((w.alloc O).alloc O') := fun O O' => ((Below.refl _ _).alloc (Nat.le_refl _) O).alloc (by simp) O'
  have hexv : exV e = .agg #[.int .i64 e.op, .int .i64 e.av, .int .i64 e.an, .int .i64 e.bv, .int .i64 e.bn] := rfl
  have HXV : Hid (exV e = .agg #[.int .i64 e.op, .int .i64 e.av, .int .i64 e.an, .int .i64 e.bv, .int .i64 e.bn]) := rfl
  rw [hexv]
  clear hexv
  go_enter Tryd.func10, Tryd.ntmps10
  go_wp2_with fail
  refine implOk_any _ ss _ (HH.out.keep (hb0 _ _)) hl HL.out fun w2 hb2 => ?_
  have hbB : Below w.heap.size w w2 := (hb0 _ _).trans (hb2.mono (by simp; omega))
  have q2 : w2.cell? ⟨w.heap.size, 0, none⟩ = some (.slice ao ss.length cap) := cell_keep hb2 (by simp [go_sem])
  have x0 : w2.cell? ⟨w.heap.size + 1, 0, none⟩ = some (.int .i64 e.op) := cell_keep hb2 (by simp [go_sem])
  have x1 : w2.cell? ⟨w.heap.size + 1, 1, none⟩ = some (.int .i64 e.av) := cell_keep hb2 (by simp [go_sem])
  have x2 : w2.cell? ⟨w.heap.size + 1, 2, none⟩ = some (.int .i64 e.an) := cell_keep hb2 (by simp [go_sem])
  have x3 : w2.cell? ⟨w.heap.size + 1, 3, none⟩ = some (.int .i64 e.bv) := cell_keep hb2 (by simp [go_sem])
  have x4 : w2.cell? ⟨w.heap.size + 1, 4, none⟩ = some (.int .i64 e.bn) := cell_keep hb2 (by simp [go_sem])
  have HB2 : Hid (Below w.heap.size w w2) := hbB
  clear hb2 hb0 hbB
  cases hok : okB ss
  · have HR : Hid (RowOr keepB ss e []) := by simp [Hid, RowOr, hok]
    clear hok
    go_wp2
    exact HQ.out _ [] _ HB2.out HR.out (World.ownsRow_nil _ _ _ _)
  have HOK : Hid (okB ss = true) := hok
  have hn2 : ss.length ≤ 60 := (ok_len hok).2
  clear hok
  go_wp2_with fail
  rw [← HXV.out]
  refine implExprOk_any e _ fun w3 hb3 => ?_
  rw [HXV.out]
  have q3 := cell_keep hb3 q2
  have y0 := cell_keep hb3 x0
  have y1 := cell_keep hb3 x1
  have y2 := cell_keep hb3 x2
  have y3 := cell_keep hb3 x3
  have y4 := cell_keep hb3 x4
  have HB3 : Hid (Below w.heap.size w w3) := HB2.out.trans (hb3.mono HB2.out.size)
  clear hb3 q2 x0 x1 x2 x3 x4 HB2
  cases hex : exprB e
  · have HR : Hid (RowOr keepB ss e []) := by simp [Hid, RowOr, hex]
    clear hex
    go_wp2
    exact HQ.out _ [] _ HB3.out HR.out (World.ownsRow_nil _ _ _ _)
  have HEX : Hid (exprB e = true) := hex
  have HR : Hid (RowOr keepB ss e (ss.map (keepB e))) := by simp [Hid, RowOr, HOK.out, hex]
  clear hex
  go_wp2_with fail
  go_region_held3 (fun wx => wx.cell? ⟨w.heap.size, 0, none⟩ = some (.slice ao ss.length cap) ∧ wx.cell? ⟨w.heap.size + 1, 0, none⟩ = some (.int .i64 e.op) ∧ wx.cell? ⟨w.heap.size + 1, 1, none⟩ = some (.int .i64 e.av) ∧ wx.cell? ⟨w.heap.size + 1, 2, none⟩ = some (.int .i64 e.an) ∧ wx.cell? ⟨w.heap.size + 1, 3, none⟩ = some (.int .i64 e.bv) ∧ wx.cell? ⟨w.heap.size + 1, 4, none⟩ = some (.int .i64 e.bn)) (go_keep) (first
    | (go_at_call 33; refine changedBy_any _ ss _ (HH.out.keep (HB3.out.drew)) HOK.out ?_; intro f W4 hb4 hcf; have q4 := cell_keep hb4 q3; have z0 := cell_keep hb4 y0; have z1 := cell_keep hb4 y1; have z2 := cell_keep hb4 y2; have z3 := cell_keep hb4 y3; have z4 := cell_keep hb4 y4; have HB4 : Hid (Below w.heap.size w W4) := HB3.out.drew.trans (hb4.mono HB3.out.size))
    | (go_at_call 34; refine keep_u f e ss.length _ hn2 ?_; intro W5 hb5; have q5 := cell_keep hb5 q4; have u0 := cell_keep hb5 z0; have u1 := cell_keep hb5 z1; have u2 := cell_keep hb5 z2; have u3 := cell_keep hb5 z3; have u4 := cell_keep hb5 z4; have HB5 : Hid (Below w.heap.size w W5) := HB4.out.trans (hb5.mono HB4.out.size))
    | (go_at_call 35; refine row_any ss.length (by omega) (kpB f e ss.length) (fun j hj hb => kpB_lt hj hb) _ (HT.out _ HB5.out).1 (HT.out _ HB5.out).2 ?_; intro W6 hb6 hr6; have q6 := cell_keep hb6 q5; have t0 := cell_keep hb6 u0; have t1 := cell_keep hb6 u1; have t2 := cell_keep hb6 u2; have t3 := cell_keep hb6 u3; have t4 := cell_keep hb6 u4))
  all_goals
    have hs5 := HB5.out.size
    have HB6 : Hid (Below w.heap.size w W6) := HB5.out.trans (hb6.mono hs5)
    have HOWN : Hid (W6.ownsRow w.heap.size 4 1 (.slice (some ⟨W5.heap.size, 0, none⟩) ss.length ss.length) (ss.map (keepB e)).length ((ss.map (keepB e)).map Value.bool)) := by
      rw [Hid, ← keep_row HOK.out HEX.out hcf, List.length_map]
      exact rowIs_own hr6 hs5 (by omega)
    clear hcf hb4 hb5 hb6 hr6
    go_wp2
    exact HQ.out _ _ _ HB6.out HR.out HOWN.out
end Go.Proofs.YtljlgffkhocgkaaDoor
