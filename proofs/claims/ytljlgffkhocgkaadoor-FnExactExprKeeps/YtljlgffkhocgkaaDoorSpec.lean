/- What the model's ProgOk answers. -/
import Derived.Test.YtljlgffkhocgkaaDoorPure
import Derived.Test.YtljlgffkhocgkaaDoorChecked
import Derived.Deep.QuietTactic
import Derived.BigQuiet
import Derived.Deep.RegionWith
namespace Go.Proofs.YtljlgffkhocgkaaDoor
open Go.RowKit

set_option maxHeartbeats 400000 in
theorem l6In_any {Q : Ending → World → Prop} (n lo hi : Int) (w : World) (hQ : Q (.returned (.bool (inB n lo hi))) w) :
    Calls Tryd.prog 53 #[.int .i64 n, .int .i64 lo, .int .i64 hi] w Q := by
  have HQ : Hid _ := hQ
  clear hQ
  by_cases h1 : lo ≤ n
  · by_cases h2 : n ≤ hi
    · rw [show inB n lo hi = true by simp [inB, h1, h2]] at HQ
      go_enter Tryd.func53, Tryd.ntmps53
      go_wp2
      exact HQ.out
    · rw [show inB n lo hi = false by simp [inB, h1, h2]] at HQ
      go_enter Tryd.func53, Tryd.ntmps53
      go_wp2
      exact HQ.out
  · rw [show inB n lo hi = false by simp [inB, h1]] at HQ
    go_enter Tryd.func53, Tryd.ntmps53
    go_wp2
    exact HQ.out

set_option maxHeartbeats 400000 in
theorem l1Opnd_any {Q : Ending → World → Prop} (v n : Int) (w : World) (hQ : Q (.returned (.bool (opndB v n))) (w.alloc (.cells #[.int .i64 v, .int .i64 n] 36))) :
    Calls Tryd.prog 54 #[.agg #[.int .i64 v, .int .i64 n]] w Q := by
  have HQ : Hid _ := hQ
  clear hQ
  by_cases h1 : v = -1
  · subst h1
    rw [show opndB (-1) n = inB n 0 65535 by simp [opndB]] at HQ
    go_enter Tryd.func54, Tryd.ntmps54
    go_wp2_with (go_at_call 53; refine l6In_any _ _ _ _ ?_)
    exact HQ.out
  · have hb : (v == -1) = false := by simp [h1]
    cases h2 : inB v 0 11
    · rw [show opndB v n = false by simp [opndB, h1, h2]] at HQ
      go_enter Tryd.func54, Tryd.ntmps54
      go_wp2_with (go_at_call 53; refine l6In_any _ _ _ _ ?_)
      exact HQ.out
    · by_cases h3 : n = 0
      · rw [show opndB v n = true by simp [opndB, h1, h2, h3]] at HQ
        subst h3
        go_enter Tryd.func54, Tryd.ntmps54
        go_wp2_with (go_at_call 53; refine l6In_any _ _ _ _ ?_)
        exact HQ.out
      · rw [show opndB v n = false by simp [opndB, h1, h3]] at HQ
        have hb3 : (n == 0) = false := by simp [h3]
        go_enter Tryd.func54, Tryd.ntmps54
        go_wp2_with (go_at_call 53; refine l6In_any _ _ _ _ ?_)
        exact HQ.out

set_option maxHeartbeats 400000 in
theorem l1Many_any (k : Int) (w : World) :
    Calls Tryd.prog 80 #[.int .i64 k] w fun e w' => e = .returned (.int .i64 (many k)) ∧ w' = w := by
  by_cases h : many k = -1
  · rw [h]
    have g1 : (k == 1) = false := by simp; rintro rfl; simp [many] at h
    have g2 : (k == 2) = false := by simp; rintro rfl; simp [many] at h
    have g3 : (k == 3) = false := by simp; rintro rfl; simp [many] at h
    have g4 : (k == 4) = false := by simp; rintro rfl; simp [many] at h
    have g5 : (k == 5) = false := by simp; rintro rfl; simp [many] at h
    have g6 : (k == 6) = false := by simp; rintro rfl; simp [many] at h
    have g7 : (k == 7) = false := by simp; rintro rfl; simp [many] at h
    clear h
    go_enter Tryd.func80, Tryd.ntmps80
    go_wp2
    go_ret
    exact ⟨rfl, rfl⟩
  · rcases many_cases h with rfl | rfl | rfl | rfl | rfl | rfl | rfl
    all_goals
      clear h
      go_enter Tryd.func80, Tryd.ntmps80
      go_wp2
      go_ret
      exact ⟨rfl, rfl⟩
end Go.Proofs.YtljlgffkhocgkaaDoor
