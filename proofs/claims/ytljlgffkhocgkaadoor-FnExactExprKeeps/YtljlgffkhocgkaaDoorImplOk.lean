/- What the program's own ProgOk answers. -/
import Derived.Test.YtljlgffkhocgkaaDoorFormN
namespace Go.Proofs.YtljlgffkhocgkaaDoor
open Go.RowKit

set_option maxHeartbeats 1000000 in
theorem implOk_any {Q : Ending → World → Prop} (v : Value) (ss : List St) (w : World) (h : StepsAt w v ss) (hl : ss.length ≤ 1048576) (hls : ∀ s ∈ ss, s.next.length ≤ 1048576)
    (hQ : ∀ w', Below w.heap.size w w' → Q (.returned (.bool (okB ss))) w') :
    Calls Tryd.prog 31 #[.agg #[v]] w Q := by
  have HQ : Hid (∀ w', Below w.heap.size w w' → Q (.returned (.bool (okB ss))) w') := hQ
  clear hQ
  obtain ⟨ao, b, o, cap, rfl, ha, hc⟩ := id h
  clear ha hc
  have HL : Hid _ := hls
  clear hls
  have hb0 : ∀ O, Below w.heap.size w (w.alloc O) := fun O => (Below.refl _ _).alloc (Nat.le_refl _) O
  go_enter Tryd.func31, Tryd.ntmps31
  go_wp2_with fail
  refine formsOf_any _ ss _ (h.keep (hb0 _)) hl HL.out ?_ ?_
  · intro w1 hb1 hf
    have hb2 : Below w.heap.size w w1 := (hb0 _).trans (hb1.mono (by simp))
    rw [hf] at HQ
    clear hb1 hf
    go_wp2
    exact HQ.out _ hb2
  · intro fv w1 hb1 ht hown
    have hb2 : Below w.heap.size w w1 := (hb0 _).trans (hb1.mono (by simp))
    have hsl : ∃ A n c, fv = .slice A n c := by
      rcases hown.2 with ⟨e, _⟩ | ⟨g', c, _, e, _⟩
      · exact ⟨_, _, _, e⟩
      · exact ⟨_, _, _, e⟩
    obtain ⟨A, n, c, hfv⟩ := hsl
    subst hfv
    rw [ht] at HQ
    clear hb1 ht hown
    go_wp2
    exact HQ.out _ hb2
end Go.Proofs.YtljlgffkhocgkaaDoor
