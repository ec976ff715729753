/- The model's drawing of a reckoning and two numbers. -/
import Derived.Test.YtemmjiiibcbiiaaCode
import Derived.Deep.RegionWith
namespace Go.Proofs.Ytemmjiiibcbiiaa
open Go.RowKit

theorem seven {rb ab : Nat} {w1 w2 : World} (hx : Ex rb ((w1.alloc (.cells #[.int .i64 0, .int .i64 1, .int .i64 2, .int .i64 300, .int .i64 65535, .int .i64 65536, .int .i64 (-1)] 3)).drewN 1) w2) (hne : w1.heap.size ≠ rb) (he : ab = w1.heap.size) : ∀ i : Nat, (i : Int) < 7 → ∃ y : Int, w2.cell? ⟨ab, i, none⟩ = some (.int .i64 y) := fun i hi => by
  subst he
  have e : i = 0 ∨ i = 1 ∨ i = 2 ∨ i = 3 ∨ i = 4 ∨ i = 5 ∨ i = 6 := by omega
  rcases e with rfl | rfl | rfl | rfl | rfl | rfl | rfl
  all_goals exact ⟨_, hx.cell (by show World.cell? (World.alloc _ _) _ = _; simp; rfl) hne⟩

set_option maxHeartbeats 1000000 in
theorem drawRunOp_any {Q : Ending → World → Prop} (v : Value) (w : World) (h : CodeAt w v)
    (hQ : ∀ (op a b : Int) w', Below w.heap.size w w' → Q (.returned (.tuple #[.int .i64 op, .int .i64 a, .int .i64 b])) w') :
    Calls Try.prog 43 #[v] w Q := by
  have HQ : Hid _ := hQ
  clear hQ
  go_enter Try.func43, Try.ntmps43
  go_wp2_with fail
  refine openCode_any v _ h fun w1 hr1 hb1 => ?_
  have hlt := hr1.lt
  go_wp2_with fail
  have HR1 : Hid _ := hr1
  have HB1 : Hid _ := hb1
  clear hr1 hb1
  go_region_with (first
    | (go_at_call 79; refine pick_any w.heap.size 0 7 _ ((HR1.out.keep ((Below.refl _ _).alloc (Nat.le_refl _) _)).drewN 1) (by omega) (by omega) ?_; intro z2 w2 hz2 hr2 hx2; have l2 : (z2 : Int) < 7 := hz2 (by omega); have HX2 : Hid _ := hx2; have HR2 : Hid _ := hr2; clear hz2 hr2 hx2)
    | (go_at_call 79; refine pick_any w.heap.size 1 7 _ HR2.out (by omega) (by omega) ?_; intro z3 w3 hz3 hr3 hx3; have l3 : (z3 : Int) < 7 := hz3 (by omega); obtain ⟨y3, c3⟩ := seven (HX2.out.trans hx3) (by omega) rfl z3 l3; have HX3 : Hid _ := hx3; have HR3 : Hid _ := hr3; clear hz3 hr3 hx3)
    | (go_at_call 79; refine pick_any w.heap.size 2 7 _ HR3.out (by omega) (by omega) ?_; intro z4 w4 hz4 hr4 hx4; have l4 : (z4 : Int) < 7 := hz4 (by omega); obtain ⟨y4, c4⟩ := seven ((HX2.out.trans HX3.out).trans hx4) (by omega) rfl z4 l4; have c3' := hx4.cell c3 (by show w1.heap.size ≠ w.heap.size; omega); have HX4 : Hid _ := hx4; have HR4 : Hid _ := hr4; clear hz4 hr4 hx4))
  all_goals
    have s2 := HX2.out.size
    have s3 := HX3.out.size
    have b2 := HX2.out.below (by simp; omega)
    have b3 := HX3.out.below (by simp at s2; omega)
    have b4 := HX4.out.below (by simp at s2; omega)
    have HB4 : Hid (Below w.heap.size w w4) := (HB1.out.trans (((Below.refl _ _).alloc (by omega) _).trans (below_drewN (Below.refl _ _) 1))).trans (b2.trans (b3.trans b4))
    clear s2 s3 b2 b3 b4
    go_wp2
    refine bodyPost_ret (v := .tuple #[.int .i64 (IntKind.i64.wrap ((z2 : Int) - 1)), .int .i64 y3, .int .i64 y4]) (by simp [results, Try.results43, Act.put, go_sem]) rfl ?_
    exact HQ.out _ _ _ _ HB4.out
end Go.Proofs.Ytemmjiiibcbiiaa
