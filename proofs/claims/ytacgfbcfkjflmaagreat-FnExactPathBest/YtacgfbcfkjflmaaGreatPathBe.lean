/- PathBest: the program's and the model's. -/
import Derived.Test.YtacgfbcfkjflmaaGreatSpecPB
import Derived.Test.YtacgfbcfkjflmaaGreatSpecPC
import Derived.Test.YtacgfbcfkjflmaaGreatImplPB
import Derived.Test.YtacgfbcfkjflmaaGreatImplPC
namespace Go.Proofs.YtacgfbcfkjflmaaGreat
open Go.RowKit

/-- A path's count by the earliest; -1 if that has none. -/
def BestOr (ss : List St) (e : E5) (zs : List Int) (n : Int) : Prop := ∃ ps ts, PlOr IsBusy ss e ps ts ∧ CountOr ss e ps ts zs n

theorem BestOr.unique {ss : List St} {e : E5} {zs : List Int} {n m : Int} (h : BestOr ss e zs n) (h' : BestOr ss e zs m) : n = m := by
  obtain ⟨ps, ts, h1, h2⟩ := h
  obtain ⟨ps', ts', k1, k2⟩ := h'
  obtain ⟨rfl, rfl⟩ := PlOr.unique IsBusy.unique h1 k1
  exact h2.unique k2

theorem PlaceO.two {lo hi : Nat} {w : World} {v : Value} {ps ts : List Bool} (h : PlaceO lo hi w v ps ts) : ∃ A c A' c', v = .agg #[.slice A ps.length c, .slice A' ts.length c'] ∧ BoolsAt w (.slice A ps.length c) ps ∧ BoolsAt w (.slice A' ts.length c') ts := by
  obtain ⟨ov, pv, e, h1, h2, _⟩ := h
  obtain ⟨A, c, rfl⟩ := h1.slice
  obtain ⟨A', c', rfl⟩ := h2.slice
  exact ⟨A, c, A', c', e, h1.at, h2.at⟩

set_option maxRecDepth 100000 in
set_option maxHeartbeats 4000000 in
theorem specPathBest_any {Q : Ending → World → Prop} (v y : Value) (ss : List St) (e : E5) (zs : List Int) (w : World) (h : StepsAt w v ss) (hl : ss.length ≤ 1048576) (hls : ∀ s ∈ ss, s.next.length ≤ 1048576) (hz : IntsAt w y zs) (hzl : zs.length ≤ 1048576)
    (hQ : ∀ (n : Int) w', Below w.heap.size w w' → BestOr ss e zs n → Q (.returned (.int .i64 n)) w') :
    Calls Tryz.prog 10 #[.agg #[v], .agg #[.int .i64 e.op, .int .i64 e.av, .int .i64 e.an, .int .i64 e.bv, .int .i64 e.bn], y] w Q := by
  have HQ : Hid _ := hQ
  clear hQ
  obtain ⟨ao, b, o, cap, rfl, _, _⟩ := id h
  obtain ⟨yo, yb, yof, ycap, rfl, _, _⟩ := id hz
  have HH : Hid (StepsAt w (.slice ao ss.length cap) ss) := h
  have HL : Hid (∀ s ∈ ss, s.next.length ≤ 1048576) := hls
  have HZ : Hid (IntsAt w (.slice yo zs.length ycap) zs) := hz
  clear h hls hz
  have hb0 : ∀ O O', Below w.heap.size w ((w.alloc O).alloc O') := fun O O' => ((Below.refl _ _).alloc (Nat.le_refl _) O).alloc (by simp) O'
  go_enter Tryz.func10, Tryz.ntmps10
  go_wp2_with fail
  refine l12Ok_any _ ss e _ (HH.out.keep (hb0 _ _)) hl HL.out fun w1 hb1 => ?_
  have HB1 : Hid (Below w.heap.size w w1) := (hb0 _ _).trans (hb1.mono (by simp; omega))
  have q1 : w1.cell? ⟨w.heap.size, 0, none⟩ = some (.slice ao ss.length cap) := cell_keep hb1 (by simp [go_sem])
  have x0 : w1.cell? ⟨w.heap.size + 1, 0, none⟩ = some (.int .i64 e.op) := cell_keep hb1 (by simp [go_sem])
  have x1 : w1.cell? ⟨w.heap.size + 1, 1, none⟩ = some (.int .i64 e.av) := cell_keep hb1 (by simp [go_sem])
  have x2 : w1.cell? ⟨w.heap.size + 1, 2, none⟩ = some (.int .i64 e.an) := cell_keep hb1 (by simp [go_sem])
  have x3 : w1.cell? ⟨w.heap.size + 1, 3, none⟩ = some (.int .i64 e.bv) := cell_keep hb1 (by simp [go_sem])
  have x4 : w1.cell? ⟨w.heap.size + 1, 4, none⟩ = some (.int .i64 e.bn) := cell_keep hb1 (by simp [go_sem])
  clear hb1 hb0
  cases hok : (okB ss && exprB e)
  · have hno : ¬ (okB ss = true ∧ exprB e = true) := by simpa using hok
    have HC : Hid (BestOr ss e zs (-1)) := ⟨[], [], Or.inr ⟨hno, rfl, rfl⟩, Or.inr ⟨fun e => hno ⟨e.1.1, e.1.2.1⟩, rfl⟩⟩
    clear hok hno
    go_wp2
    exact HQ.out _ _ HB1.out HC.out
  clear hok
  go_wp2_with fail
  go_region_held3 (fun wx => wx.cell? ⟨w.heap.size, 0, none⟩ = some (.slice ao ss.length cap) ∧ wx.cell? ⟨w.heap.size + 1, 0, none⟩ = some (.int .i64 e.op) ∧ wx.cell? ⟨w.heap.size + 1, 1, none⟩ = some (.int .i64 e.av) ∧ wx.cell? ⟨w.heap.size + 1, 2, none⟩ = some (.int .i64 e.an) ∧ wx.cell? ⟨w.heap.size + 1, 3, none⟩ = some (.int .i64 e.bv) ∧ wx.cell? ⟨w.heap.size + 1, 4, none⟩ = some (.int .i64 e.bn)) (go_keep) (first
    | (go_at_call 36; refine specPlaceBusy_any _ ss e _ (HH.out.keep HB1.out.drew) hl HL.out ?_; intro v2 ps ts w2 hb2 hpl hpo; have hb12 : Below w1.heap.size w1 w2 := (Below.refl _ _).drew.trans hb2; have z0 := cell_keep hb12 q1; have y0 := cell_keep hb12 x0; have y1 := cell_keep hb12 x1; have y2 := cell_keep hb12 x2; have y3 := cell_keep hb12 x3; have y4 := cell_keep hb12 x4; obtain ⟨A2, c2, A2', c2', hv2, hba, hbt⟩ := hpo.two; subst hv2; have HB2 : Hid (Below w.heap.size w w2) := HB1.out.trans (hb12.mono HB1.out.size))
    | (go_at_call 35; refine specPathCount_any _ _ _ _ ss e ps ts zs _ (HH.out.keep HB2.out) hl HL.out hba hbt (HZ.out.keep HB2.out) hzl ?_; intro n w3 hb3 hco; have u0 := cell_keep hb3 z0; have v0 := cell_keep hb3 y0; have v1 := cell_keep hb3 y1; have v2 := cell_keep hb3 y2; have v3 := cell_keep hb3 y3; have v4 := cell_keep hb3 y4))
  all_goals
    have HB3 : Hid (Below w.heap.size w w3) := HB2.out.trans (hb3.mono HB2.out.size)
    have HC : Hid (BestOr ss e zs n) := ⟨ps, ts, hpl, hco⟩
    clear hb2 hpl hpo hb12 hba hbt hb3 hco
    go_wp2
    exact HQ.out _ _ HB3.out HC.out

set_option maxRecDepth 100000 in
set_option maxHeartbeats 4000000 in
theorem implPathBest_any {Q : Ending → World → Prop} (v y : Value) (ss : List St) (e : E5) (zs : List Int) (w : World) (h : StepsAt w v ss) (hl : ss.length ≤ 1048576) (hls : ∀ s ∈ ss, s.next.length ≤ 1048576) (hz : IntsC w y zs) (hzl : zs.length ≤ 1048576)
    (hQ : ∀ (n : Int) w', Below w.heap.size w w' → BestOr ss e zs n → Q (.returned (.int .i64 n)) w') :
    Calls Tryz.prog 14 #[.agg #[v], .agg #[.int .i64 e.op, .int .i64 e.av, .int .i64 e.an, .int .i64 e.bv, .int .i64 e.bn], y] w Q := by
  have HQ : Hid _ := hQ
  clear hQ
  obtain ⟨ao, b, o, cap, rfl, _, _⟩ := id h
  obtain ⟨yo, yb, yof, ycap, rfl, _, _, _⟩ := id hz
  have HH : Hid (StepsAt w (.slice ao ss.length cap) ss) := h
  have HL : Hid (∀ s ∈ ss, s.next.length ≤ 1048576) := hls
  have HZ : Hid (IntsC w (.slice yo zs.length ycap) zs) := hz
  clear h hls hz
  go_enter Tryz.func14, Tryz.ntmps14
  go_wp2_with fail
  have hb0 : Below w.heap.size w ((w.alloc (.cells #[.slice ao ss.length cap] 34)).alloc (.cells #[.int .i64 e.op, .int .i64 e.av, .int .i64 e.an, .int .i64 e.bv, .int .i64 e.bn] 38)) := ((Below.refl _ _).alloc (Nat.le_refl _) _).alloc (by simp) _
  have hbx := BoxE.new w ao ss.length cap e 34 38
  generalize (w.alloc (.cells #[.slice ao ss.length cap] 34)).alloc (.cells #[.int .i64 e.op, .int .i64 e.av, .int .i64 e.an, .int .i64 e.bv, .int .i64 e.bn] 38) = w1 at *
  have HB1 : Hid (Below w.heap.size w w1) := hb0
  have q1 := hbx.p
  have x0 := hbx.c0
  have x1 := hbx.c1
  have x2 := hbx.c2
  have x3 := hbx.c3
  have x4 := hbx.c4
  clear hb0 hbx
  go_region_held3 (fun wx => wx.cell? ⟨w.heap.size, 0, none⟩ = some (.slice ao ss.length cap) ∧ wx.cell? ⟨w.heap.size + 1, 0, none⟩ = some (.int .i64 e.op) ∧ wx.cell? ⟨w.heap.size + 1, 1, none⟩ = some (.int .i64 e.av) ∧ wx.cell? ⟨w.heap.size + 1, 2, none⟩ = some (.int .i64 e.an) ∧ wx.cell? ⟨w.heap.size + 1, 3, none⟩ = some (.int .i64 e.bv) ∧ wx.cell? ⟨w.heap.size + 1, 4, none⟩ = some (.int .i64 e.bn)) (go_keep) (first
    | (go_at_call 40; refine implPlaceBusy_any _ ss e _ (HH.out.keep HB1.out.drew) hl HL.out ?_; intro v2 ps ts w2 hb2 hpl hpo; have hb12 : Below w1.heap.size w1 w2 := (Below.refl _ _).drew.trans hb2; have z0 := cell_keep hb12 q1; have y0 := cell_keep hb12 x0; have y1 := cell_keep hb12 x1; have y2 := cell_keep hb12 x2; have y3 := cell_keep hb12 x3; have y4 := cell_keep hb12 x4; obtain ⟨A2, c2, A2', c2', hv2, hba, hbt⟩ := hpo.two; subst hv2; have HB2 : Hid (Below w.heap.size w w2) := HB1.out.trans (hb12.mono HB1.out.size))
    | (go_at_call 39; refine implPathCount_any _ _ _ _ ss e ps ts zs _ (HH.out.keep HB2.out) hl HL.out hba hbt (HZ.out.keep HB2.out) hzl ?_; intro n w3 hb3 hco; have u0 := cell_keep hb3 z0; have v0 := cell_keep hb3 y0; have v1 := cell_keep hb3 y1; have v2 := cell_keep hb3 y2; have v3 := cell_keep hb3 y3; have v4 := cell_keep hb3 y4))
  all_goals
    have HB3 : Hid (Below w.heap.size w w3) := HB2.out.trans (hb3.mono HB2.out.size)
    have HC : Hid (BestOr ss e zs n) := ⟨ps, ts, hpl, hco⟩
    clear hb2 hpl hpo hb12 hba hbt hb3 hco
    go_wp2
    exact HQ.out _ _ HB3.out HC.out
end Go.Proofs.YtacgfbcfkjflmaaGreat
