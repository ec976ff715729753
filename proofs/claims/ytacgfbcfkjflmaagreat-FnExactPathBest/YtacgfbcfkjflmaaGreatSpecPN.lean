/- What the model's PlaceNone answers. -/
import Derived.Test.YtacgfbcfkjflmaaGreatPlaceB
import Derived.Test.YtacgfbcfkjflmaaGreatBoxU
namespace Go.Proofs.YtacgfbcfkjflmaaGreat
open Go.RowKit

theorem PlaceO.rows {W : World} {lo b1 b2 n : Nat} {f g : Nat → Bool} (h1 : W.rowIs b1 4 n (fun j => .bool (f j))) (h2 : W.rowIs b2 4 n (fun j => .bool (g j))) (l1 : lo ≤ b1) (l2 : lo ≤ b2) (hne : b1 ≠ b2) (hn : n ≤ 1048576) :
    PlaceO lo W.heap.size W (.agg #[.slice (some ⟨b1, 0, none⟩) n n, .slice (some ⟨b2, 0, none⟩) n n]) ((List.range n).map f) ((List.range n).map g) := by
  have a1 := BoolsOwn.of (bs := (List.range n).map f) (v := .slice (some ⟨b1, 0, none⟩) n n) (by
    rw [List.length_map, List.length_range, List.map_map]
    exact rowIs_own h1 l1 hn)
  have a2 := BoolsOwn.of (bs := (List.range n).map g) (v := .slice (some ⟨b2, 0, none⟩) n n) (by
    rw [List.length_map, List.length_range, List.map_map]
    exact rowIs_own h2 l2 hn)
  refine ⟨_, _, rfl, a1, a2, fun k hk h => ?_⟩
  simp [Value.ownBlock] at hk h
  omega

theorem reach_ex (ss : List St) : ∃ rs, IsReach ss rs := by
  classical
  exact ⟨(List.range ss.length).map fun i => decide (Reaches ss i), by simp, fun i hi => by simp [hi]⟩

set_option maxRecDepth 100000 in
set_option maxHeartbeats 4000000 in
theorem specPlaceNone_any {Q : Ending → World → Prop} (v : Value) (ss : List St) (e : E5) (w : World) (h : StepsAt w v ss) (hl : ss.length ≤ 1048576) (hls : ∀ s ∈ ss, s.next.length ≤ 1048576)
    (hQ : ∀ v' ps ts w', Below w.heap.size w w' → PlOr IsNone ss e ps ts → PlaceO w.heap.size w'.heap.size w' v' ps ts → Q (.returned v') w') :
    Calls Tryz.prog 29 #[.agg #[v], .agg #[.int .i64 e.op, .int .i64 e.av, .int .i64 e.an, .int .i64 e.bv, .int .i64 e.bn]] w Q := by
  have HQ : Hid _ := hQ
  clear hQ
  obtain ⟨ao, b, o, cap, rfl, ha, hc⟩ := id h
  have HH : Hid (StepsAt w (.slice ao ss.length cap) ss) := h
  have HL : Hid (∀ s ∈ ss, s.next.length ≤ 1048576) := hls
  clear ha hc h hls
  go_enter Tryz.func29, Tryz.ntmps29
  go_wp2_with fail
  have hb0 : Below w.heap.size w (((w.alloc (.cells #[.slice ao ss.length cap] 34)).alloc (.cells #[.int .i64 e.op, .int .i64 e.av, .int .i64 e.an, .int .i64 e.bv, .int .i64 e.bn] 38)).alloc (.cells #[.slice none 0 0, .slice none 0 0] 49)) := (((Below.refl _ _).alloc (Nat.le_refl _) _).alloc (by simp) _).alloc (by simp; omega) _
  have hbx := (BoxE.new w ao ss.length cap e 34 38).keep ((Below.refl _ _).alloc (Nat.le_refl _) (.cells #[.slice none 0 0, .slice none 0 0] 49))
  have hbp := BoxP.new ((w.alloc (.cells #[.slice ao ss.length cap] 34)).alloc (.cells #[.int .i64 e.op, .int .i64 e.av, .int .i64 e.an, .int .i64 e.bv, .int .i64 e.bn] 38)) (.slice none 0 0) (.slice none 0 0) 49
  rw [show ((w.alloc (.cells #[.slice ao ss.length cap] 34)).alloc (.cells #[.int .i64 e.op, .int .i64 e.av, .int .i64 e.an, .int .i64 e.bv, .int .i64 e.bn] 38)).heap.size = w.heap.size + 1 + 1 by simp] at hbp
  generalize ((w.alloc (.cells #[.slice ao ss.length cap] 34)).alloc (.cells #[.int .i64 e.op, .int .i64 e.av, .int .i64 e.an, .int .i64 e.bv, .int .i64 e.bn] 38)).alloc (.cells #[.slice none 0 0, .slice none 0 0] 49) = W0 at *
  refine l12Ok_any _ ss e _ (HH.out.keep hb0) hl HL.out fun w1 hb1 => ?_
  have HB1 : Hid (Below w.heap.size w w1) := hb0.trans (hb1.mono hb0.size)
  have HP1 : Hid (BoxP w1 (w.heap.size + 1 + 1) (.slice none 0 0) (.slice none 0 0)) := hbp.keep hb1
  have p1 := (hbx.keep hb1).p
  have c0 := HP1.out.c0
  have c1 := HP1.out.c1
  have f0 := HP1.out.f0
  have f1 := HP1.out.f1
  have hs1 : w.heap.size + 1 + 1 < w1.heap.size := HP1.out.lt
  clear hb0 hbx hbp hb1
  cases hok : (okB ss && exprB e)
  · have HR : Hid (PlOr IsNone ss e [] []) := Or.inr ⟨by simpa using hok, rfl, rfl⟩
    have HBF : Hid (∀ u v, Below w.heap.size w ((w1.setCell ⟨w.heap.size + 1 + 1, 0, none⟩ u).setCell ⟨w.heap.size + 1 + 1, 1, none⟩ v)) := fun u v => (HB1.out.setCell (by show w.heap.size ≤ w.heap.size + 1 + 1; omega) u).setCell (by show w.heap.size ≤ w.heap.size + 1 + 1; omega) v
    clear hok
    go_wp2
    refine bodyPost_ret (v := .agg #[.slice none 0 0, .slice none 0 0]) (by simp [results, Tryz.results29, go_sem, c0, c1]) rfl ?_
    exact HQ.out _ _ _ _ (HBF.out _ _) HR.out (PlaceO.nil _ _ _)
  obtain ⟨hok1, hex1⟩ : okB ss = true ∧ exprB e = true := by simpa using hok
  obtain ⟨hn1, hn2⟩ := ok_len hok1
  obtain ⟨rs, hrs⟩ := reach_ex ss
  have HR : Hid (PlOr IsNone ss e ((List.range ss.length).map fun _ => false) ((List.range ss.length).map fun _ => false)) := Or.inl ⟨hok1, hex1, rs, _, _, hrs, fun _ => ⟨rfl, rfl⟩, rfl, rfl⟩
  clear hok hok1 hex1 hrs
  have hmk : ∀ w, (Instr.makeSlice 44 (.int .i64 (ss.length : Int)) (.int .i64 (ss.length : Int))).run Tryz.prog w = .ok (.slice (some ⟨w.heap.size, 0, none⟩) ss.length ss.length) (w.alloc (.cells (madeCells #[.bool false] ss.length) 4)) := fun w => run_make_row' 44 4 (.bool false) 1 Tryz.underlying44 infoBoolK rfl .i64 .i64 ss.length (by omega) (by omega) w
  have hbK : ∀ O, Below w1.heap.size w1 (w1.alloc O) := fun O => (Below.refl _ _).alloc (Nat.le_refl _) O
  have hbL : ∀ O O', Below w1.heap.size w1 ((w1.alloc O).alloc O') := fun O O' => (hbK O).alloc (by simp) O'
  have pA : ∀ O, (w1.alloc O).cell? ⟨w.heap.size, 0, none⟩ = some (.slice ao ss.length cap) := fun O => cell_keep (hbK O) p1
  have cA : ∀ O O', ((w1.alloc O).alloc O').cell? ⟨w.heap.size + 1 + 1, 0, none⟩ = some (.slice none 0 0) := fun O O' => cell_keep (hbL O O') c0
  have cB : ∀ O O', ((w1.alloc O).alloc O').cell? ⟨w.heap.size + 1 + 1, 1, none⟩ = some (.slice none 0 0) := fun O O' => cell_keep (hbL O O') c1
  have fA : ∀ O O', ((w1.alloc O).alloc O').frozen? ⟨w.heap.size + 1 + 1, 0, none⟩ = false := fun O O' => ((hbL O O').frozen (by show w.heap.size + 1 + 1 < _; omega)).trans f0
  have fB : ∀ O O', ((w1.alloc O).alloc O').frozen? ⟨w.heap.size + 1 + 1, 1, none⟩ = false := fun O O' => ((hbL O O').frozen (by show w.heap.size + 1 + 1 < _; omega)).trans f1
  have HBF : Hid (∀ O O' u v, Below w.heap.size w ((((w1.alloc O).alloc O').setCell ⟨w.heap.size + 1 + 1, 0, none⟩ u).setCell ⟨w.heap.size + 1 + 1, 1, none⟩ v)) := fun O O' u v => (((HB1.out.alloc (by omega) O).alloc (by simp; omega) O').setCell (by show w.heap.size ≤ w.heap.size + 1 + 1; omega) u).setCell (by show w.heap.size ≤ w.heap.size + 1 + 1; omega) v
  have HR1 : Hid (∀ O u v, (((((w1.alloc (.cells (madeCells #[.bool false] ss.length) 4)).alloc O).setCell ⟨w.heap.size + 1 + 1, 0, none⟩ u).setCell ⟨w.heap.size + 1 + 1, 1, none⟩ v).drew).rowIs w1.heap.size 4 ss.length (fun _ => .bool false)) := fun O u v =>
    ((((World.rowIs_made w1 (.bool false) ss.length 4).alloc _).setOther (by show w1.heap.size ≠ w.heap.size + 1 + 1; omega) _).setOther (by show w1.heap.size ≠ w.heap.size + 1 + 1; omega) _).drew
  have HR2 : Hid (∀ O u v, (((((w1.alloc O).alloc (.cells (madeCells #[.bool false] ss.length) 4)).setCell ⟨w.heap.size + 1 + 1, 0, none⟩ u).setCell ⟨w.heap.size + 1 + 1, 1, none⟩ v).drew).rowIs (w1.heap.size + 1) 4 ss.length (fun _ => .bool false)) := fun O u v => by
    have h := World.rowIs_made (w1.alloc O) (.bool false) ss.length 4
    rw [World.size_alloc] at h
    exact ((h.setOther (by show w1.heap.size + 1 ≠ w.heap.size + 1 + 1; omega) _).setOther (by show w1.heap.size + 1 ≠ w.heap.size + 1 + 1; omega) _).drew
  go_wp2_with fail
  go_region
  all_goals go_wp2
  · refine bodyPost_ret (v := .agg #[.slice (some ⟨w1.heap.size, 0, none⟩) ss.length ss.length, .slice (some ⟨w1.heap.size + 1, 0, none⟩) ss.length ss.length]) (by simp [results, Tryz.results29, go_sem, cA, cB]) rfl ?_
    exact HQ.out _ _ _ _ (HBF.out _ _ _ _).drew HR.out (PlaceO.rows (f := fun _ => false) (g := fun _ => false) (HR1.out _ _ _) (HR2.out _ _ _) (by omega) (by omega) (by omega) (by omega))
  · refine bodyPost_ret (v := .agg #[.slice (some ⟨w1.heap.size + 1, 0, none⟩) ss.length ss.length, .slice (some ⟨w1.heap.size, 0, none⟩) ss.length ss.length]) (by simp [results, Tryz.results29, go_sem, cA, cB]) rfl ?_
    exact HQ.out _ _ _ _ (HBF.out _ _ _ _).drew HR.out (PlaceO.rows (f := fun _ => false) (g := fun _ => false) (HR2.out _ _ _) (HR1.out _ _ _) (by omega) (by omega) (by omega) (by omega))
end Go.Proofs.YtacgfbcfkjflmaaGreat
