/- The model's DrawSafeDown: some program and some reckoning. -/
import Derived.Test.YtajgioeifhgfhaaDoorTwo
import Derived.Test.YtajgioeifhgfhaaDoorCode
namespace Go.Proofs.YtajgioeifhgfhaaDoor
open Go.RowKit

set_option maxRecDepth 100000 in
set_option maxHeartbeats 1000000 in
theorem drawSafeDown_any {Q : Ending → World → Prop} (v : Value) (w : World) (h : CodeAt w v)
    (hQ : ∀ (v' : Value) (ss : List St) (e : E5) w', StepsN w' v' ss → ss.length ≤ 61 → (∀ s ∈ ss, s.next.length ≤ 61) → Below w.heap.size w w' → Q (.returned (.tuple #[.agg #[v'], .agg #[.int .i64 e.op, .int .i64 e.av, .int .i64 e.an, .int .i64 e.bv, .int .i64 e.bn]])) w') :
    Calls Tryd.prog 9 #[v] w Q := by
  have HQ : Hid _ := hQ
  clear hQ
  go_enter Tryd.func9, Tryd.ntmps9
  go_wp2_with fail
  have hb0 : ∀ O O', Below w.heap.size w ((w.alloc O).alloc O') := fun O O' => ((Below.refl _ _).alloc (Nat.le_refl _) O).alloc (by simp) O'
  refine openCode_any v _ (h.keep (hb0 _ _)) fun w1 hr1 hb1 => ?_
  have e0 : ((w.alloc (.cells #[.slice none 0 0] 25)).alloc (.cells #[.int .i64 0, .int .i64 0, .int .i64 0, .int .i64 0, .int .i64 0] 29)).heap.size = w.heap.size + 2 := by simp
  rw [e0] at hr1 hb1 ⊢
  have hlt := hr1.lt
  have HB1 : Hid (Below w.heap.size w w1) := (hb0 _ _).trans (hb1.mono (by omega))
  have q1 : w1.cell? ⟨w.heap.size, 0, none⟩ = some (.slice none 0 0) := (hb1.cell (p := ⟨w.heap.size, 0, none⟩) (by show w.heap.size < w.heap.size + 2; omega)).trans (by simp [go_sem])
  have f1 : ∀ j, w1.frozen? ⟨w.heap.size, j, none⟩ = false := fun j => (hb1.frozen (p := ⟨w.heap.size, j, none⟩) (by show w.heap.size < w.heap.size + 2; omega)).trans (by simp [go_sem])
  have x0 : w1.cell? ⟨w.heap.size + 1, 0, none⟩ = some (.int .i64 0) := (hb1.cell (p := ⟨w.heap.size + 1, 0, none⟩) (by show w.heap.size + 1 < w.heap.size + 2; omega)).trans (by simp [go_sem])
  have x1 : w1.cell? ⟨w.heap.size + 1, 1, none⟩ = some (.int .i64 0) := (hb1.cell (p := ⟨w.heap.size + 1, 1, none⟩) (by show w.heap.size + 1 < w.heap.size + 2; omega)).trans (by simp [go_sem])
  have x2 : w1.cell? ⟨w.heap.size + 1, 2, none⟩ = some (.int .i64 0) := (hb1.cell (p := ⟨w.heap.size + 1, 2, none⟩) (by show w.heap.size + 1 < w.heap.size + 2; omega)).trans (by simp [go_sem])
  have x3 : w1.cell? ⟨w.heap.size + 1, 3, none⟩ = some (.int .i64 0) := (hb1.cell (p := ⟨w.heap.size + 1, 3, none⟩) (by show w.heap.size + 1 < w.heap.size + 2; omega)).trans (by simp [go_sem])
  have x4 : w1.cell? ⟨w.heap.size + 1, 4, none⟩ = some (.int .i64 0) := (hb1.cell (p := ⟨w.heap.size + 1, 4, none⟩) (by show w.heap.size + 1 < w.heap.size + 2; omega)).trans (by simp [go_sem])
  have g1 : ∀ j, w1.frozen? ⟨w.heap.size + 1, j, none⟩ = false := fun j => (hb1.frozen (p := ⟨w.heap.size + 1, j, none⟩) (by show w.heap.size + 1 < w.heap.size + 2; omega)).trans (by simp [go_sem])
  clear hb1 e0
  go_wp2_with fail
  refine l71Two_any (w.heap.size + 2) 0 _ hr1 (by omega) fun v2 ss e p2 w2 hS hl hls hr2 hp2 hx2 => ?_
  have hne : w.heap.size ≠ w.heap.size + 2 := by omega
  have hne1 : w.heap.size + 1 ≠ w.heap.size + 2 := by omega
  have q2 := hx2.cell q1 hne
  have f2 := fun j => (hx2.frozen (p := ⟨w.heap.size, j, none⟩) (by show w.heap.size < w1.heap.size; omega) hne).trans (f1 j)
  have y0 := hx2.cell x0 hne1
  have y1 := hx2.cell x1 hne1
  have y2 := hx2.cell x2 hne1
  have y3 := hx2.cell x3 hne1
  have y4 := hx2.cell x4 hne1
  have g2 := fun j => (hx2.frozen (p := ⟨w.heap.size + 1, j, none⟩) (by show w.heap.size + 1 < w1.heap.size; omega) hne1).trans (g1 j)
  obtain ⟨A2, b2, o2, c2, rfl, hS'⟩ := id hS
  clear hS'
  have hbE : Below w.heap.size w w2 := HB1.out.trans ((hx2.below (by omega)).mono (by omega))
  have hle : w.heap.size ≤ w1.heap.size := by omega
  have HF : Hid (∀ u0 u1 u2 u3 u4 u5, Below w.heap.size w ((((((w2.setCell ⟨w.heap.size, 0, none⟩ u0).setCell ⟨w.heap.size + 1, 0, none⟩ u1).setCell ⟨w.heap.size + 1, 1, none⟩ u2).setCell ⟨w.heap.size + 1, 2, none⟩ u3).setCell ⟨w.heap.size + 1, 3, none⟩ u4).setCell ⟨w.heap.size + 1, 4, none⟩ u5)
      ∧ StepsN ((((((w2.setCell ⟨w.heap.size, 0, none⟩ u0).setCell ⟨w.heap.size + 1, 0, none⟩ u1).setCell ⟨w.heap.size + 1, 1, none⟩ u2).setCell ⟨w.heap.size + 1, 2, none⟩ u3).setCell ⟨w.heap.size + 1, 3, none⟩ u4).setCell ⟨w.heap.size + 1, 4, none⟩ u5) (.slice A2 ss.length c2) ss) := fun u0 u1 u2 u3 u4 u5 => by
    refine ⟨(((((hbE.setCell ?_ _).setCell ?_ _).setCell ?_ _).setCell ?_ _).setCell ?_ _).setCell ?_ _, ((((((hS.put ?_ _).put ?_ _).put ?_ _).put ?_ _).put ?_ _).put ?_ _).n⟩
    all_goals (simp only []; omega)
  have HLS : Hid (∀ s ∈ ss, s.next.length ≤ 61) := hls
  clear hS hls hr2 hx2 HB1 hr1 hb0 q1 f1 x0 x1 x2 x3 x4 g1 hbE
  go_wp2_with fail
  refine bodyPost_ret (v := .tuple #[.agg #[.slice A2 ss.length c2], .agg #[.int .i64 e.op, .int .i64 e.av, .int .i64 e.an, .int .i64 e.bv, .int .i64 e.bn]]) (by simp [results, Tryd.results9, go_sem, q2, y0, y1, y2, y3, y4]) rfl ?_
  exact HQ.out _ ss e _ (HF.out _ _ _ _ _ _).2 hl HLS.out (HF.out _ _ _ _ _ _).1
end Go.Proofs.YtajgioeifhgfhaaDoor
