/- The model's DrawLoopOver: some program. -/
import Derived.Test.YtblagfndeffilaaDraw8
import Derived.Test.YtblagfndeffilaaCode
namespace Go.Proofs.Ytblagfndeffilaa
open Go.RowKit

set_option maxRecDepth 100000 in
set_option maxHeartbeats 1000000 in
theorem drawLoopOver_any {Q : Ending → World → Prop} (v : Value) (w : World) (h : CodeAt w v)
    (hQ : ∀ (v' : Value) (ss : List St) w', StepsN w' v' ss → ss.length ≤ 61 → (∀ s ∈ ss, s.next.length ≤ 61) → Below w.heap.size w w' → Q (.returned (.agg #[v'])) w') :
    Calls Try.prog 37 #[v] w Q := by
  have HQ : Hid _ := hQ
  clear hQ
  go_enter Try.func37, Try.ntmps37
  go_wp2_with fail
  have hb0 : ∀ O, Below w.heap.size w (w.alloc O) := fun O => (Below.refl _ _).alloc (Nat.le_refl _) O
  refine openCode_any v _ (h.keep (hb0 _)) fun w1 hr1 hb1 => ?_
  have e0 : (w.alloc (.cells #[.slice none 0 0] 30)).heap.size = w.heap.size + 1 := by simp
  rw [e0] at hr1 hb1 ⊢
  have hlt := hr1.lt
  have HB1 : Hid (Below w.heap.size w w1) := (hb0 _).trans (hb1.mono (by omega))
  have q1 : w1.cell? ⟨w.heap.size, 0, none⟩ = some (.slice none 0 0) := (hb1.cell (p := ⟨w.heap.size, 0, none⟩) (by show w.heap.size < w.heap.size + 1; omega)).trans (by simp [go_sem])
  have f1 : w1.frozen? ⟨w.heap.size, 0, none⟩ = false := (hb1.frozen (p := ⟨w.heap.size, 0, none⟩) (by show w.heap.size < w.heap.size + 1; omega)).trans (by simp [go_sem])
  clear hb1
  go_wp2_with fail
  refine l71Any_any (w.heap.size + 1) 0 _ hr1 (by omega) fun v2 ss p2 w2 hS hl hls hr2 hp2 hx2 => ?_
  have hne : w.heap.size ≠ w.heap.size + 1 := by omega
  have q2 := hx2.cell q1 hne
  have f2 := (hx2.frozen (p := ⟨w.heap.size, 0, none⟩) (by show w.heap.size < w1.heap.size; omega) hne).trans f1
  obtain ⟨A2, b2, o2, c2, rfl, hS'⟩ := id hS
  clear hS'
  have HB2 : Hid (Below w.heap.size w (w2.setCell ⟨w.heap.size, 0, none⟩ (.slice A2 ss.length c2))) := (HB1.out.trans ((hx2.below (by omega)).mono (by omega))).setCell (Nat.le_refl _) _
  have HS : Hid (StepsN (w2.setCell ⟨w.heap.size, 0, none⟩ (.slice A2 ss.length c2)) (.slice A2 ss.length c2) ss) := (hS.put (by show w.heap.size < w1.heap.size; omega) _).n
  have HLS : Hid (∀ s ∈ ss, s.next.length ≤ 61) := hls
  clear hS hls hr2 hx2 HB1 hr1 hb0 q1 f1
  go_wp2_with fail
  refine bodyPost_ret (v := .agg #[.slice A2 ss.length c2]) (by simp [results, Try.results37, go_sem, q2]) rfl ?_
  exact HQ.out _ ss _ HS.out hl HLS.out HB2.out
end Go.Proofs.Ytblagfndeffilaa
