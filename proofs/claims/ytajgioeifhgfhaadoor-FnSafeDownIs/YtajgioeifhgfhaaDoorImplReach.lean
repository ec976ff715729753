/- What the program's FlowReach answers. -/
import Derived.Test.YtajgioeifhgfhaaDoorReachI
namespace Go.Proofs.YtajgioeifhgfhaaDoor
open Go.RowKit

set_option maxHeartbeats 1000000 in
theorem implReach_any {Q : Ending → World → Prop} (v : Value) (ss : List St) (w : World) (h : StepsAt w v ss) (hl : ss.length ≤ 1048576) (hls : ∀ s ∈ ss, s.next.length ≤ 1048576)
    (hQ : ∀ v' rs w', Below w.heap.size w w' → ReachOr ss rs → w'.ownsRow w.heap.size 4 1 v' rs.length (rs.map Value.bool) → Q (.returned v') w') :
    Calls Tryd.prog 13 #[.agg #[v]] w Q := by
  have HQ : Hid _ := hQ
  clear hQ
  obtain ⟨ao, b, o, cap, rfl, ha, hc⟩ := id h
  clear ha hc
  have HH : Hid (StepsAt w (.slice ao ss.length cap) ss) := h
  have HL : Hid _ := hls
  clear hls h
  have hb0 : ∀ O, Below w.heap.size w (w.alloc O) := fun O => (Below.refl _ _).alloc (Nat.le_refl _) O
  cases hok : okB ss
  · go_enter Tryd.func13, Tryd.ntmps13
    go_wp2_with fail
    refine implOk_any _ ss _ (HH.out.keep (hb0 _)) hl HL.out fun w1 hb1 => ?_
    rw [hok]
    have hbA : Below w.heap.size w w1 := (hb0 _).trans (hb1.mono (by simp))
    have HOK : Hid (okB ss = false) := hok
    clear hb1 hb0 hok
    go_wp2
    exact HQ.out _ [] _ hbA (Or.inr ⟨HOK.out, rfl⟩) (World.ownsRow_nil _ _ _ _)
  · go_enter Tryd.func13, Tryd.ntmps13
    go_wp2_with fail
    refine implOk_any _ ss _ (HH.out.keep (hb0 _)) hl HL.out fun w1 hb1 => ?_
    rw [hok]
    have hbA : Below w.heap.size w w1 := (hb0 _).trans (hb1.mono (by simp))
    have q1 : w1.cell? ⟨w.heap.size, 0, none⟩ = some (.slice ao ss.length cap) := cell_keep hb1 (by simp [go_sem])
    have HOK : Hid (okB ss = true) := hok
    clear hb1 hb0 hok
    go_wp2_with fail
    refine reachOf_any _ ss _ (HH.out.keep hbA) HOK.out fun v2 rs w2 hb2 hrs hown2 => ?_
    have hbB : Below w.heap.size w w2 := hbA.trans (hb2.mono hbA.size)
    have HR : Hid _ := hrs
    have HO : Hid _ := hown2
    have hlow := hbA.size
    obtain ⟨A, n, c, hsv⟩ : ∃ A n c, v2 = .slice A n c := by
      rcases hown2.2 with ⟨e, _⟩ | ⟨g', c, _, e, _⟩
      · exact ⟨_, _, _, e⟩
      · exact ⟨_, _, _, e⟩
    subst hsv
    clear hb2 hrs hown2 hbA
    go_wp2
    refine HQ.out _ rs _ hbB (Or.inl ⟨HOK.out, HR.out⟩) ?_
    have hl2 : rs.length = ss.length := HR.out.1
    rw [hl2]
    exact ownsRow_lower HO.out hlow
end Go.Proofs.YtajgioeifhgfhaaDoor
