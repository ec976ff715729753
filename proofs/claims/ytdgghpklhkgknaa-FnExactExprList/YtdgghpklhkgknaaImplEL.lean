/- What the program's ExprList answers. -/
import Derived.Test.YtdgghpklhkgknaaImplEB
import Derived.Test.YtdgghpklhkgknaaImplOk
namespace Go.Proofs.Ytdgghpklhkgknaa
open Go.RowKit Go.Maps

set_option maxHeartbeats 1000000 in
theorem implExprList_any {Q : Ending → World → Prop} (v : Value) (ss : List St) (w : World) (h : StepsAt w v ss) (hl : ss.length ≤ 1048576) (hls : ∀ s ∈ ss, s.next.length ≤ 1048576)
    (hQ : ∀ v' es w', Below w.heap.size w w' → ExprsOr ss es → w'.ownsRow w.heap.size 29 5 v' es.length (es.flatMap exC) → Q (.returned v') w') :
    Calls Try.prog 11 #[.agg #[v]] w Q := by
  have HQ : Hid _ := hQ
  clear hQ
  obtain ⟨ao, b, o, cap, rfl, ha, hc⟩ := id h
  clear ha hc
  have HH : Hid (StepsAt w (.slice ao ss.length cap) ss) := h
  have HL : Hid _ := hls
  clear hls h
  have hb0 : ∀ O, Below w.heap.size w (w.alloc O) := fun O => (Below.refl _ _).alloc (Nat.le_refl _) O
  cases hok : okB ss
  · go_enter Try.func11, Try.ntmps11
    go_wp2_with fail
    refine implOk_any _ ss _ (HH.out.keep (hb0 _)) hl HL.out fun w1 hb1 => ?_
    rw [hok]
    have hbA : Below w.heap.size w w1 := (hb0 _).trans (hb1.mono (by simp))
    have HR : Hid (ExprsOr ss []) := by simp [Hid, ExprsOr, hok]
    clear hb1 hb0 hok
    go_wp2
    exact HQ.out _ [] _ hbA HR.out (World.ownsRow_nil _ _ _ _)
  · go_enter Try.func11, Try.ntmps11
    go_wp2_with fail
    refine implOk_any _ ss _ (HH.out.keep (hb0 _)) hl HL.out fun w1 hb1 => ?_
    rw [hok]
    have hbA : Below w.heap.size w w1 := (hb0 _).trans (hb1.mono (by simp))
    have q1 : w1.cell? ⟨w.heap.size, 0, none⟩ = some (.slice ao ss.length cap) := cell_keep hb1 (by simp [go_sem])
    have HOK : Hid (okB ss = true) := hok
    have HR : Hid (ExprsOr ss (exprsOf ss)) := by simp [Hid, ExprsOr, hok]
    clear hb1 hb0 hok
    go_wp2_with fail
    refine reckonedBy_any _ ss _ (HH.out.keep hbA) HOK.out fun W2 es bs D lv sv hRS hb2 hs2 hes hcb => ?_
    subst hes
    obtain ⟨A, c, hlv⟩ := own_form hRS.lst
    subst hlv
    have c1 : W2.cell? ⟨w1.heap.size + 1, 1, none⟩ = some (.slice A (exprsOf ss).length c) := hRS.row.cell (i := 1) (by omega)
    have hbB : Below w.heap.size w W2 := hbA.trans (hb2.mono hbA.size)
    have HO : Hid (W2.ownsRow w.heap.size 29 5 (.slice A (exprsOf ss).length c) (exprsOf ss).length ((exprsOf ss).flatMap exC)) := own_lower hRS.lst (by have := hbA.size; omega)
    clear hRS hb2 hcb hbA q1
    go_wp2
    exact HQ.out _ _ _ hbB HR.out HO.out
end Go.Proofs.Ytdgghpklhkgknaa
