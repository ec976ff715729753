/- What the program's LoopOver answers. -/
import Derived.Test.YtblagfndeffilaaLoopP
import Derived.Test.YtblagfndeffilaaOverI
namespace Go.Proofs.Ytblagfndeffilaa
open Go.RowKit

set_option maxHeartbeats 1000000 in
theorem implLoopOver_any {Q : Ending → World → Prop} (v : Value) (ss : List St) (w : World) (h : StepsAt w v ss) (hl : ss.length ≤ 1048576) (hls : ∀ s ∈ ss, s.next.length ≤ 1048576)
    (hQ : ∀ v' zs w', Below w.heap.size w w' → OverOr ss zs → w'.ownsRow w.heap.size 3 1 v' zs.length (zs.map (Value.int .i64)) → Q (.returned v') w') :
    Calls Try.prog 33 #[.agg #[v]] w Q := by
  have HQ : Hid _ := hQ
  clear hQ
  obtain ⟨ao, b, o, cap, rfl, ha, hc⟩ := id h
  clear ha hc
  have HH : Hid (StepsAt w (.slice ao ss.length cap) ss) := h
  have HL : Hid _ := hls
  clear hls h
  have hb0 : ∀ O, Below w.heap.size w (w.alloc O) := fun O => (Below.refl _ _).alloc (Nat.le_refl _) O
  cases hok : okB ss
  · go_enter Try.func33, Try.ntmps33
    go_wp2_with fail
    refine implOk_any _ ss _ (HH.out.keep (hb0 _)) hl HL.out fun w1 hb1 => ?_
    rw [hok]
    have hbA : Below w.heap.size w w1 := (hb0 _).trans (hb1.mono (by simp))
    have HOK : Hid (okB ss = false) := hok
    clear hb1 hb0 hok
    go_wp2
    exact HQ.out _ [] _ hbA (Or.inr ⟨HOK.out, rfl⟩) (World.ownsRow_nil _ _ _ _)
  · obtain ⟨hn1, hn2⟩ := ok_len hok
    go_enter Try.func33, Try.ntmps33
    go_wp2_with fail
    refine implOk_any _ ss _ (HH.out.keep (hb0 _)) hl HL.out fun w1 hb1 => ?_
    rw [hok]
    have hbA : Below w.heap.size w w1 := (hb0 _).trans (hb1.mono (by simp))
    have q1 : w1.cell? ⟨w.heap.size, 0, none⟩ = some (.slice ao ss.length cap) := cell_keep hb1 (by simp [go_sem])
    have HOK : Hid (okB ss = true) := hok
    clear hb1 hb0 hok
    go_wp2_with fail
    refine nearestOver_any _ ss _ (HH.out.keep hbA) HOK.out fun vg ov w2 hb2 hov hvg hrow2 => ?_
    have HB2 : Hid (Below w.heap.size w w2) := hbA.trans (hb2.mono hbA.size)
    have HOV : Hid (OverF ss ov) := hov
    have HV2 : Hid (w2.rowIs vg 3 ss.length (ovV ov)) := hrow2
    have c0 := hrow2.cell (i := 0) (by omega)
    unfold ovV at c0
    have f0 := hrow2.frozen 0
    have hlow := hbA.size
    have h0i : (0 : Int) < (ss.length : Int) := by omega
    clear hb2 hov hrow2 hbA q1
    generalize hz : ovI (ov 0) = z at *
    clear hz
    go_wp2
    refine HQ.out _ ((List.range ss.length).map (fun i => ovI (if i = 0 then none else ov i))) _ (HB2.out.setCell (p := ⟨vg, 0, none⟩) (by show w.heap.size ≤ vg; omega) _) (Or.inl ⟨HOK.out, _, fun i _ => HOV.out.isNear i, rfl⟩) ?_
    rw [List.map_map]
    simp only [List.length_map, List.length_range]
    refine rowIs_own (f := (Value.int .i64) ∘ fun i => ovI (if i = 0 then none else ov i)) ((HV2.out.set 0 _).congr fun i hi => ?_) (by omega) (by omega)
    by_cases e : i = 0 <;> simp [e, ovV, ovI]
end Go.Proofs.Ytblagfndeffilaa
