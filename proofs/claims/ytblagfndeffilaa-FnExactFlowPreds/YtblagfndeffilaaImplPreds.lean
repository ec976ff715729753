/- What the program's FlowPreds answers. -/
import Derived.Test.YtblagfndeffilaaPredsOf
namespace Go.Proofs.Ytblagfndeffilaa
open Go.RowKit

set_option maxHeartbeats 1000000 in
theorem implPreds_any {Q : Ending → World → Prop} (v : Value) (ss : List St) (w : World) (h : StepsAt w v ss) (hl : ss.length ≤ 1048576) (hls : ∀ s ∈ ss, s.next.length ≤ 1048576)
    (hQ : ∀ v' zss w', Below w.heap.size w w' → PredsOr ss zss → RowsI w.heap.size w'.heap.size w' v' zss → Q (.returned v') w') :
    Calls Try.prog 15 #[.agg #[v]] w Q := by
  have HQ : Hid _ := hQ
  clear hQ
  obtain ⟨ao, b, o, cap, rfl, ha, hc⟩ := id h
  clear ha hc
  have HH : Hid (StepsAt w (.slice ao ss.length cap) ss) := h
  have HL : Hid _ := hls
  clear hls h
  have hb0 : ∀ O, Below w.heap.size w (w.alloc O) := fun O => (Below.refl _ _).alloc (Nat.le_refl _) O
  cases hok : okB ss
  · go_enter Try.func15, Try.ntmps15
    go_wp2_with fail
    refine implOk_any _ ss _ (HH.out.keep (hb0 _)) hl HL.out fun w1 hb1 => ?_
    rw [hok]
    have hbA : Below w.heap.size w w1 := (hb0 _).trans (hb1.mono (by simp))
    have HOK : Hid (okB ss = false) := hok
    clear hb1 hb0 hok
    go_wp2
    exact HQ.out _ [] _ hbA (Or.inr ⟨HOK.out, rfl⟩) (RowsI.nil (World.ownsRow_nil _ _ _ _) (by simp [Value.ownBlock]))
  · go_enter Try.func15, Try.ntmps15
    go_wp2_with fail
    refine implOk_any _ ss _ (HH.out.keep (hb0 _)) hl HL.out fun w1 hb1 => ?_
    rw [hok]
    have hbA : Below w.heap.size w w1 := (hb0 _).trans (hb1.mono (by simp))
    have q1 : w1.cell? ⟨w.heap.size, 0, none⟩ = some (.slice ao ss.length cap) := cell_keep hb1 (by simp [go_sem])
    have HOK : Hid (okB ss = true) := hok
    clear hb1 hb0 hok
    go_wp2_with fail
    refine predsOf_any _ ss _ (HH.out.keep hbA) HOK.out fun v2 rs w2 hb2 hrs hown2 => ?_
    have hbB : Below w.heap.size w w2 := hbA.trans (hb2.mono hbA.size)
    have HR : Hid (IsReach ss rs) := hrs
    have HO : Hid (RowsI w.heap.size w2.heap.size w2 v2 (predsL ss rs)) := hown2.lower hbA.size
    obtain ⟨A, c, hsv⟩ := hown2.slice
    subst hsv
    clear hb2 hrs hown2 hbA
    go_wp2
    exact HQ.out _ _ _ hbB (Or.inl ⟨HOK.out, rs, HR.out, rfl⟩) HO.out
end Go.Proofs.Ytblagfndeffilaa
