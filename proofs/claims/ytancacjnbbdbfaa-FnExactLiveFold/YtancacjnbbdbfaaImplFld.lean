/- What the program's LiveFold answers, of any program. -/
import Derived.Test.YtancacjnbbdbfaaImplOk
import Derived.Test.YtancacjnbbdbfaaImplFoD
import Derived.Test.YtancacjnbbdbfaaImplRm
import Derived.Shelf.Abstract
namespace Go.Proofs.Ytancacjnbbdbfaa
open Go.RowKit

theorem bec_of_fold {w w' : World} {nv nv' : Value} {s : St} (h : FoldRes w w' nv nv' s) : BecRes w w' nv nv' s (foldS s) := h

theorem remL_fold (ss : List St) : remL (fun _ s => foldS s) ss = foldL ss := by
  unfold remL foldL
  apply List.ext_getElem?
  intro i
  by_cases hi : i < ss.length
  · simp [hi, remF, List.getD]
  · simp [hi]

set_option maxHeartbeats 1000000 in
theorem foldLit_any {Q : Ending → World → Prop} (i : Int) (s : St) (nv : Value) (n : Int) (w : World) (hs : stepB s n = true) (hi : IntsAt w nv s.next)
    (hQ : ∀ nv' w', Below w.heap.size w w' → BecRes w w' nv nv' s (foldS s) → Q (.returned (stepV (foldS s) nv')) w') :
    Calls Try.prog 32 #[.int .i64 i, stepV s nv] w Q := by
  have HQ : Hid _ := hQ
  have HS : Hid (stepB s n = true) := hs
  have HI : Hid (IntsAt w nv s.next) := hi
  clear hQ hs
  obtain ⟨ao, b, o, cap, rfl, hao, hc⟩ := hi
  clear hao hc
  unfold stepV at HQ ⊢
  have hb0 : ∀ O O', Below w.heap.size w ((w.alloc O).alloc O') := fun O O' => ((Below.refl _ _).alloc (Nat.le_refl _) O).alloc (by simp) O'
  have HB0 : Hid _ := hb0
  go_enter Try.func32, Try.ntmps32
  go_wp2_with fail
  refine folded_any s _ n _ HS.out (HI.out.keep (HB0.out _ _)) fun nv' w1 hb1 hres => ?_
  have HB1 : Hid (Below w.heap.size w w1) := (hb0 _ _).trans (hb1.mono (by simp; omega))
  have hcs : ∃ A n c, nv' = .slice A n c := by
    rcases hres with ⟨rfl, _⟩ | ⟨g, _, rfl, _⟩
    · exact ⟨_, _, _, rfl⟩
    · exact ⟨_, _, _, rfl⟩
  obtain ⟨NA, NN, NC, rfl⟩ := hcs
  have hres1 : BecRes ((w.alloc (.cells #[.int .i64 s.kind, .int .i64 s.dst, .int .i64 s.op, .int .i64 s.av, .int .i64 s.an, .int .i64 s.bv, .int .i64 s.bn, .slice ao s.next.length cap] 43)).alloc (.cells #[.int .i64 0, .int .i64 0, .int .i64 0, .int .i64 0, .int .i64 0, .int .i64 0, .int .i64 0, .slice none 0 0] 43)) w1 (.slice ao s.next.length cap) (.slice NA NN NC) s (foldS s) := hres
  have HRES : Hid _ := hres1
  have e0 : w1.cell? ⟨w.heap.size + 1, 0, none⟩ = some (.int .i64 0) := cell_keep hb1 (by simp [go_sem])
  have e1 : w1.cell? ⟨w.heap.size + 1, 1, none⟩ = some (.int .i64 0) := cell_keep hb1 (by simp [go_sem])
  have e2 : w1.cell? ⟨w.heap.size + 1, 2, none⟩ = some (.int .i64 0) := cell_keep hb1 (by simp [go_sem])
  have e3 : w1.cell? ⟨w.heap.size + 1, 3, none⟩ = some (.int .i64 0) := cell_keep hb1 (by simp [go_sem])
  have e4 : w1.cell? ⟨w.heap.size + 1, 4, none⟩ = some (.int .i64 0) := cell_keep hb1 (by simp [go_sem])
  have e5 : w1.cell? ⟨w.heap.size + 1, 5, none⟩ = some (.int .i64 0) := cell_keep hb1 (by simp [go_sem])
  have e6 : w1.cell? ⟨w.heap.size + 1, 6, none⟩ = some (.int .i64 0) := cell_keep hb1 (by simp [go_sem])
  have e7 : w1.cell? ⟨w.heap.size + 1, 7, none⟩ = some (.slice none 0 0) := cell_keep hb1 (by simp [go_sem])
  have fz : ∀ j, w1.frozen? ⟨w.heap.size + 1, j, none⟩ = false := fun j => (hb1.frozen (by simp)).trans (by simp [go_sem])
  clear hb1 hb0 hres hres1
  unfold stepV
  generalize foldS s = t at *
  go_wp2
  refine bodyPost_ret (v := .agg #[.int .i64 t.kind, .int .i64 t.dst, .int .i64 t.op, .int .i64 t.av, .int .i64 t.an, .int .i64 t.bv, .int .i64 t.bn, .slice NA NN NC]) (by simp [results, Try.results32, go_sem, e0, e1, e2, e3, e4, e5, e6, e7]) rfl ?_
  refine HQ.out (.slice NA NN NC) _ (below_res HB1.out _ _ _ _ _ _ _ _) ?_
  rcases HRES.out with h | ⟨g, hg, e, h2, h3⟩
  · exact Or.inl h
  · refine Or.inr ⟨g, by simp at hg; omega, e, h2, ?_⟩
    rw [e] at h3 ⊢
    obtain ⟨z, hz⟩ := List.length_eq_one_iff.1 h2
    rw [hz] at h3 ⊢
    exact own_lower (own_res (b := w.heap.size + 1) h3 (by simp) _ _ _ _ _ _ _ _) (by simp; omega)

set_option maxHeartbeats 2000000 in
theorem implFold_any {Q : Ending → World → Prop} (v : Value) (ss : List St) (w : World) (h : StepsAt w v ss) (hl : ss.length ≤ 1048576) (hls : ∀ s ∈ ss, s.next.length ≤ 1048576)
    (hQ : ∀ v' ts xs nvs w', Below w.heap.size w w' → FoldOr ss ts → PO w.heap.size w' v' ts xs nvs → Q (.returned (.agg #[v'])) w') :
    Calls Try.prog 12 #[.agg #[v]] w Q := by
  have HQ : Hid _ := hQ
  clear hQ
  obtain ⟨ao, b, o, cap, rfl, ha, hc⟩ := id h
  clear ha hc
  have HH : Hid (StepsAt w (.slice ao ss.length cap) ss) := h
  have HL : Hid _ := hls
  clear hls h
  have hb0 : ∀ O O', Below w.heap.size w ((w.alloc O).alloc O') := fun O O' => ((Below.refl _ _).alloc (Nat.le_refl _) O).alloc (by simp) O'
  go_enter Try.func12, Try.ntmps12
  go_wp2_with fail
  refine implOk_any _ ss _ (HH.out.keep (hb0 _ _)) hl HL.out fun w1 hb1 => ?_
  have hbA : Below w.heap.size w w1 := (hb0 _ _).trans (hb1.mono (by simp; omega))
  have q1 : w1.cell? ⟨w.heap.size, 0, none⟩ = some (.slice ao ss.length cap) := cell_keep hb1 (by simp [go_sem])
  have r1 : w1.cell? ⟨w.heap.size + 1, 0, none⟩ = some (.slice none 0 0) := cell_keep hb1 (by simp [go_sem])
  have rf1 : w1.frozen? ⟨w.heap.size + 1, 0, none⟩ = false := (hb1.frozen (by simp)).trans (by simp [go_sem])
  have HBA : Hid (Below w.heap.size w w1) := hbA
  clear hb1 hb0 hbA
  cases hok : okB ss
  · have HOR : Hid (FoldOr ss []) := by rw [Hid, FoldOr, hok]; rfl
    clear hok
    go_wp2
    exact bodyPost_ret (v := .agg #[.slice none 0 0]) (by simp [results, Try.results12, go_sem, r1]) rfl (HQ.out _ _ [] (fun _ => .slice none 0 0) _ (HBA.out.setCell (by simp) _) HOR.out (PO.nil _ _ _))
  · have HOK : Hid (okB ss = true) := hok
    have HOR : Hid (FoldOr ss (foldL ss)) := by rw [Hid, FoldOr, hok]; rfl
    clear hok
    go_wp2_with fail
    refine remade_any 32 #[] (enters_of Try.func32 (by kernel_rfl) rfl) (fun _ s => foldS s) _ ss _ (HH.out.keep HBA.out) HOK.out (fun W i s nv _ hss hi Q' hq => ?_) fun v2 xs nvs w2 hb2 hP => ?_
    · exact foldLit_any _ s nv _ W (ok_stepM HOK.out (List.mem_of_getElem? hss)) hi hq
    · rw [remL_fold] at hP
      have HP : Hid _ := hP
      have HB2 : Hid (Below w.heap.size w w2) := HBA.out.trans (hb2.mono HBA.out.size)
      have r2 := cell_keep hb2 r1
      have rf2 := (hb2.frozen (p := ⟨w.heap.size + 1, 0, none⟩) (cell_lt r1)).trans rf1
      have hlt : w.heap.size + 1 < w1.heap.size := cell_lt r1
      obtain ⟨A2, c2, rfl, _⟩ := hP.slice
      clear hP hb2 q1 r1 rf1
      go_wp2
      refine bodyPost_ret (v := .agg #[.slice A2 (foldL ss).length c2]) (by simp [results, Try.results12, go_sem, r2]) rfl ?_
      exact HQ.out _ _ xs nvs _ (HB2.out.setCell (by simp) _) HOR.out ((HP.out.below (a := ⟨w.heap.size + 1, 0, none⟩) hlt _).lower (by omega))
end Go.Proofs.Ytancacjnbbdbfaa
