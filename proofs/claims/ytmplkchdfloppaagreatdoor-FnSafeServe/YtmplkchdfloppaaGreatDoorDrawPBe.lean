/- The model's DrawPathBest: some program, some reckoning and some row of numbers. -/
import Derived.Test.YtmplkchdfloppaaGreatDoorTwo
import Derived.Test.YtmplkchdfloppaaGreatDoorDrawCh
import Derived.Test.YtmplkchdfloppaaGreatDoorCode
import Derived.Test.YtmplkchdfloppaaGreatDoorBoxU
import Derived.Deep.RegionHeld3
namespace Go.Proofs.YtmplkchdfloppaaGreatDoor
open Go.RowKit

set_option maxRecDepth 100000 in
set_option maxHeartbeats 8000000 in
theorem drawPathBest_any {Q : Ending → World → Prop} (v : Value) (w : World) (h : CodeAt w v)
    (hQ : ∀ (v' pv : Value) (ss : List St) (e : E5) (zs : List Int) w', StepsN w' v' ss → ss.length ≤ 61 → (∀ s ∈ ss, s.next.length ≤ 61) → IntsC w' pv zs → zs.length ≤ 201 → Below w.heap.size w w' → Q (.returned (.tuple #[.agg #[v'], .agg #[.int .i64 e.op, .int .i64 e.av, .int .i64 e.an, .int .i64 e.bv, .int .i64 e.bn], pv])) w') :
    Calls Tryz.prog 7 #[v] w Q := by
  have HQ : Hid _ := hQ
  clear hQ
  go_enter Tryz.func7, Tryz.ntmps7
  go_wp2_with fail
  have hb0 : ∀ O O', Below w.heap.size w ((w.alloc O).alloc O') := fun O O' => ((Below.refl _ _).alloc (Nat.le_refl _) O).alloc (by simp) O'
  refine openCode_any v _ (h.keep (hb0 _ _)) fun w1 hr1 hb1 => ?_
  have e0 : ((w.alloc (.cells #[.slice none 0 0] 25)).alloc (.cells #[.int .i64 0, .int .i64 0, .int .i64 0, .int .i64 0, .int .i64 0] 29)).heap.size = w.heap.size + 2 := by simp
  rw [e0] at hr1 hb1 ⊢
  have hlt := hr1.lt
  have HB1 : Hid (Below w.heap.size w w1) := (hb0 _ _).trans (hb1.mono (by omega))
  have HQC : Hid (w1.cell? ⟨w.heap.size, 0, none⟩ = some (.slice none 0 0)) := (hb1.cell (p := ⟨w.heap.size, 0, none⟩) (by show w.heap.size < w.heap.size + 2; omega)).trans (by simp [go_sem])
  have HQF : Hid (∀ j, w1.frozen? ⟨w.heap.size, j, none⟩ = false) := fun j => (hb1.frozen (p := ⟨w.heap.size, j, none⟩) (by show w.heap.size < w.heap.size + 2; omega)).trans (by simp [go_sem])
  have HXC : Hid (∀ j, j < 5 → w1.cell? ⟨w.heap.size + 1, j, none⟩ = some (.int .i64 0)) := fun j hj => (hb1.cell (p := ⟨w.heap.size + 1, j, none⟩) (by show w.heap.size + 1 < w.heap.size + 2; omega)).trans (by
    obtain rfl | rfl | rfl | rfl | rfl : j = 0 ∨ j = 1 ∨ j = 2 ∨ j = 3 ∨ j = 4 := by omega
    all_goals simp [go_sem])
  have HXF : Hid (∀ j, w1.frozen? ⟨w.heap.size + 1, j, none⟩ = false) := fun j => (hb1.frozen (p := ⟨w.heap.size + 1, j, none⟩) (by show w.heap.size + 1 < w.heap.size + 2; omega)).trans (by simp [go_sem])
  have HR1 : Hid (Rd w1 (w.heap.size + 2) 0) := hr1
  clear hb1 hb0 hr1 h e0
  go_wp2_with fail
  refine l71Two_any (w.heap.size + 2) 0 _ HR1.out (by omega) fun v2 ss e p2 w2 hS hl hls hr2 hp2 hx2 => ?_
  obtain ⟨A2, b2, o2, c2, rfl, _⟩ := id hS
  have HLS : Hid (∀ s ∈ ss, s.next.length ≤ 61) := hls
  have HS2 : Hid (StepsNF w1.heap.size w2 (.slice A2 ss.length c2) ss) := hS
  have HR2 : Hid (Rd w2 (w.heap.size + 2) p2) := hr2
  have HX2 : Hid (Ex (w.heap.size + 2) w1 w2) := hx2
  have s2 := hx2.size
  clear hS hls hr2 hx2
  go_wp2_with fail
  have hxa : Ex (w.heap.size + 2) w2 ((w2.alloc (.cells #[.slice A2 ss.length c2] 25)).alloc (.cells #[.int .i64 e.op, .int .i64 e.av, .int .i64 e.an, .int .i64 e.bv, .int .i64 e.bn] 29)) := ((Ex.refl _ _).alloc _).alloc _
  have hws : w.heap.size + 1 < w1.heap.size := cell_lt (HXC.out 0 (by omega))
  have HBX : Hid (BoxE ((w2.alloc (.cells #[.slice A2 ss.length c2] 25)).alloc (.cells #[.int .i64 e.op, .int .i64 e.av, .int .i64 e.an, .int .i64 e.bv, .int .i64 e.bn] 29)) w2.heap.size A2 ss.length c2 e) := BoxE.new w2 A2 ss.length c2 e 25 29
  have HX1 : Hid (Ex (w.heap.size + 2) w1 ((w2.alloc (.cells #[.slice A2 ss.length c2] 25)).alloc (.cells #[.int .i64 e.op, .int .i64 e.av, .int .i64 e.an, .int .i64 e.bv, .int .i64 e.bn] 29))) := HX2.out.trans hxa
  have HSA : Hid (StepsNF w1.heap.size ((w2.alloc (.cells #[.slice A2 ss.length c2] 25)).alloc (.cells #[.int .i64 e.op, .int .i64 e.av, .int .i64 e.an, .int .i64 e.bv, .int .i64 e.bn] 29)) (.slice A2 ss.length c2) ss) := HS2.out.ex hxa hlt
  have HRA : Hid (Rd ((w2.alloc (.cells #[.slice A2 ss.length c2] 25)).alloc (.cells #[.int .i64 e.op, .int .i64 e.av, .int .i64 e.an, .int .i64 e.bv, .int .i64 e.bn] 29)) (w.heap.size + 2) p2) := (HR2.out.alloc _).alloc _
  have hsa : ((w2.alloc (.cells #[.slice A2 ss.length c2] 25)).alloc (.cells #[.int .i64 e.op, .int .i64 e.av, .int .i64 e.an, .int .i64 e.bv, .int .i64 e.bn] 29)).heap.size = w2.heap.size + 2 := by simp
  generalize (w2.alloc (.cells #[.slice A2 ss.length c2] 25)).alloc (.cells #[.int .i64 e.op, .int .i64 e.av, .int .i64 e.an, .int .i64 e.bv, .int .i64 e.bn] 29) = w2a at *
  have hra : w.heap.size + 2 < w2a.heap.size := by omega
  have HCL : Hid (∀ W, Ex (w.heap.size + 2) w2a W → (W.cell? ⟨w2.heap.size, 0, none⟩ = some (.slice A2 ss.length c2) ∧ W.cell? ⟨w2.heap.size + 1, 0, none⟩ = some (.int .i64 e.op) ∧ W.cell? ⟨w2.heap.size + 1, 1, none⟩ = some (.int .i64 e.av) ∧ W.cell? ⟨w2.heap.size + 1, 2, none⟩ = some (.int .i64 e.an) ∧ W.cell? ⟨w2.heap.size + 1, 3, none⟩ = some (.int .i64 e.bv) ∧ W.cell? ⟨w2.heap.size + 1, 4, none⟩ = some (.int .i64 e.bn))
      ∧ W.cell? ⟨w.heap.size, 0, none⟩ = some (.slice none 0 0) ∧ (∀ j, W.frozen? ⟨w.heap.size, j, none⟩ = false) ∧ W.cell? ⟨w.heap.size + 1, 0, none⟩ = some (.int .i64 0) ∧ W.cell? ⟨w.heap.size + 1, 1, none⟩ = some (.int .i64 0) ∧ W.cell? ⟨w.heap.size + 1, 2, none⟩ = some (.int .i64 0) ∧ W.cell? ⟨w.heap.size + 1, 3, none⟩ = some (.int .i64 0) ∧ W.cell? ⟨w.heap.size + 1, 4, none⟩ = some (.int .i64 0) ∧ (∀ j, W.frozen? ⟨w.heap.size + 1, j, none⟩ = false)) := fun W hW => by
    have n0 : w2.heap.size ≠ w.heap.size + 2 := by omega
    have n1 : w2.heap.size + 1 ≠ w.heap.size + 2 := by omega
    have m0 : w.heap.size ≠ w.heap.size + 2 := by omega
    have m1 : w.heap.size + 1 ≠ w.heap.size + 2 := by omega
    have hx := HX1.out.trans hW
    exact ⟨⟨hW.cell HBX.out.p n0, hW.cell HBX.out.c0 n1, hW.cell HBX.out.c1 n1, hW.cell HBX.out.c2 n1, hW.cell HBX.out.c3 n1, hW.cell HBX.out.c4 n1⟩, hx.cell HQC.out m0, fun j => (hx.frozen (p := ⟨w.heap.size, j, none⟩) (by show w.heap.size < w1.heap.size; omega) m0).trans (HQF.out j), hx.cell (HXC.out 0 (by omega)) m1, hx.cell (HXC.out 1 (by omega)) m1, hx.cell (HXC.out 2 (by omega)) m1, hx.cell (HXC.out 3 (by omega)) m1, hx.cell (HXC.out 4 (by omega)) m1, fun j => (hx.frozen (p := ⟨w.heap.size + 1, j, none⟩) (by show w.heap.size + 1 < w1.heap.size; omega) m1).trans (HXF.out j)⟩
  have FIN : Hid (∀ (W : World) (pv : Value) (zs : List Int) (u0 u1 u2 u3 u4 u5 : Value), Ex (w.heap.size + 2) w2a W → IntsD w2a.heap.size W pv zs → zs.length ≤ 201 → Q (.returned (.tuple #[.agg #[.slice A2 ss.length c2], .agg #[.int .i64 e.op, .int .i64 e.av, .int .i64 e.an, .int .i64 e.bv, .int .i64 e.bn], pv])) ((((((W.setCell ⟨w.heap.size, 0, none⟩ u0).setCell ⟨w.heap.size + 1, 0, none⟩ u1).setCell ⟨w.heap.size + 1, 1, none⟩ u2).setCell ⟨w.heap.size + 1, 2, none⟩ u3).setCell ⟨w.heap.size + 1, 3, none⟩ u4).setCell ⟨w.heap.size + 1, 4, none⟩ u5)) := fun W pv zs u0 u1 u2 u3 u4 u5 h2 h3 h4 => by
    have hle : w.heap.size ≤ w.heap.size := Nat.le_refl _
    have hb := HB1.out.trans (((HX1.out.trans h2).below (by omega)).mono (by omega))
    refine HQ.out _ _ ss e zs _ ((((((((HSA.out.ex h2 hlt).put ?_ _).put ?_ _).put ?_ _).put ?_ _).put ?_ _).put ?_ _).n) hl HLS.out ((((((h3.put ?_ _).put ?_ _).put ?_ _).put ?_ _).put ?_ _).put ?_ _).c h4 ((((((hb.setCell ?_ _).setCell ?_ _).setCell ?_ _).setCell ?_ _).setCell ?_ _).setCell ?_ _)
    all_goals (simp only []; omega)
  obtain ⟨⟨k0, k1, k2, k3, k4, k5⟩, _⟩ := HCL.out w2a (Ex.refl _ _)
  have z1 : ¬ w2.heap.size = w.heap.size := by omega
  have z2 : ¬ w2.heap.size + 1 = w.heap.size := by omega
  have z3 : ¬ w2.heap.size = w.heap.size + 1 := by omega
  have z4 : ¬ w.heap.size = w2.heap.size := by omega
  have z5 : ¬ w.heap.size = w2.heap.size + 1 := by omega
  have z6 : ¬ w.heap.size + 1 = w2.heap.size := by omega
  clear HQ HB1 HQC HQF HXC HXF HBX HX1 HX2 HS2 HR2 hxa hsa HR1
  go_region_held3 (fun wx => wx.cell? ⟨w2.heap.size, 0, none⟩ = some (.slice A2 ss.length c2) ∧ wx.cell? ⟨w2.heap.size + 1, 0, none⟩ = some (.int .i64 e.op) ∧ wx.cell? ⟨w2.heap.size + 1, 1, none⟩ = some (.int .i64 e.av) ∧ wx.cell? ⟨w2.heap.size + 1, 2, none⟩ = some (.int .i64 e.an) ∧ wx.cell? ⟨w2.heap.size + 1, 3, none⟩ = some (.int .i64 e.bv) ∧ wx.cell? ⟨w2.heap.size + 1, 4, none⟩ = some (.int .i64 e.bn)) (go_keep) (first | (go_at_call 24; refine l71Path_any (w.heap.size + 2) p2 w1.heap.size _ ss _ (HRA.out.drewN 1) (by omega) (HSA.out.ex ((Ex.refl _ _).drew) hlt) hlt hl HLS.out ?_; intro pv zs p3 w3 hown3 hz0 hz1 hr3 hp3 hx3; have hx13 : Ex (w.heap.size + 2) w2a w3 := (Ex.refl _ _).drew.trans hx3; obtain ⟨⟨j0, j1, j2, j3, j4, j5⟩, q2, f2, y0, y1, y2, y3, y4, g2⟩ := HCL.out w3 hx13; obtain ⟨g3, c3, hv3, _, _⟩ := hown3.form hz0; subst hv3) | fail)
  all_goals
    have HX3 : Hid (Ex (w.heap.size + 2) w2a w3) := hx13
    have HOW : Hid (w3.ownsRow w2a.heap.size 3 1 (.slice (some ⟨g3, 0, none⟩) zs.length c3) zs.length (zs.map (Value.int .i64))) := hown3
    clear hown3 hr3 hx3 hx13
    go_wp2_with fail
    refine bodyPost_ret (v := .tuple #[.agg #[.slice A2 ss.length c2], .agg #[.int .i64 e.op, .int .i64 e.av, .int .i64 e.an, .int .i64 e.bv, .int .i64 e.bn], .slice (some ⟨g3, 0, none⟩) zs.length c3]) (by simp [results, Tryz.results7, go_sem, q2, y0, y1, y2, y3, y4]) rfl ?_
    exact FIN.out _ _ zs _ _ _ _ _ _ HX3.out (IntsD.of HOW.out) (by omega)
end Go.Proofs.YtmplkchdfloppaaGreatDoor
