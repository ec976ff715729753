/- Reckoning of two numbers: what the model's and the program's RunOp answer. -/
import Derived.Test.YtancacjnbbdbfaaSpec
import Derived.Test.YtancacjnbbdbfaaImplLeaf
namespace Go.Proofs.Ytancacjnbbdbfaa
open Go.RowKit

def opR (op a b : Int) : Int :=
  if inB a 0 65535 && inB b 0 65535 then
    (if op = 1 then (a + b) % 65536 else if op = 2 then (a - b + 65536) % 65536 else if op = 3 then a * b % 65536 else if op = 4 then (if a < b then 1 else 0) else 0)
  else 0

theorem mul_range {a b : Int} (a0 : 0 ≤ a) (a1 : a ≤ 65535) (b0 : 0 ≤ b) (b1 : b ≤ 65535) : 0 ≤ a * b ∧ a * b ≤ 4294836225 :=
  ⟨Int.mul_nonneg a0 b0, by
    have := Int.mul_le_mul a1 b1 b0 (by decide : (0 : Int) ≤ 65535)
    omega⟩

set_option maxHeartbeats 1000000 in
theorem specRunOp_any {Q : Ending → World → Prop} (op a b : Int) (w : World) (hQ : Q (.returned (.int .i64 (opR op a b))) w) :
    Calls Try.prog 28 #[.int .i64 op, .int .i64 a, .int .i64 b] w Q := by
  have HQ : Hid _ := hQ
  clear hQ
  cases ha : inB a 0 65535
  · rw [show opR op a b = 0 by simp [opR, ha]] at HQ
    go_enter Try.func28, Try.ntmps28
    go_wp2_with (go_at_call 58; refine l6In_any _ _ _ _ ?_)
    exact HQ.out
  cases hb : inB b 0 65535
  · rw [show opR op a b = 0 by simp [opR, hb]] at HQ
    go_enter Try.func28, Try.ntmps28
    go_wp2_with (go_at_call 58; refine l6In_any _ _ _ _ ?_)
    exact HQ.out
  have ha' : 0 ≤ a ∧ a ≤ 65535 := by simpa [inB] using ha
  have hb' : 0 ≤ b ∧ b ≤ 65535 := by simpa [inB] using hb
  obtain ⟨a0, a1⟩ := ha'
  obtain ⟨b0, b1⟩ := hb'
  by_cases h1 : op = 1
  · subst h1
    rw [show opR 1 a b = (a + b) % 65536 by simp [opR, ha, hb]] at HQ
    go_enter Try.func28, Try.ntmps28
    go_wp2_with (go_at_call 58; refine l6In_any _ _ _ _ ?_)
    exact HQ.out
  by_cases h2 : op = 2
  · subst h2
    rw [show opR 2 a b = (a + 65536 - b) % 65536 by rw [show a + 65536 - b = a - b + 65536 by omega]; simp [opR, ha, hb]] at HQ
    go_enter Try.func28, Try.ntmps28
    go_wp2_with (go_at_call 58; refine l6In_any _ _ _ _ ?_)
    exact HQ.out
  by_cases h3 : op = 3
  · subst h3
    rw [show opR 3 a b = (a * b) % 65536 by simp [opR, ha, hb]] at HQ
    obtain ⟨m0, m1⟩ := mul_range a0 a1 b0 b1
    go_enter Try.func28, Try.ntmps28
    go_wp2_with (go_at_call 58; refine l6In_any _ _ _ _ ?_)
    exact HQ.out
  have g1 : (op == 1) = false := by simp [h1]
  have g2 : (op == 2) = false := by simp [h2]
  have g3 : (op == 3) = false := by simp [h3]
  by_cases h4 : op = 4
  · subst h4
    by_cases hl : a < b
    · rw [show opR 4 a b = 1 by simp [opR, ha, hb, hl]] at HQ
      go_enter Try.func28, Try.ntmps28
      go_wp2_with (go_at_call 58; refine l6In_any _ _ _ _ ?_)
      exact HQ.out
    · rw [show opR 4 a b = 0 by simp [opR, hl]] at HQ
      go_enter Try.func28, Try.ntmps28
      go_wp2_with (go_at_call 58; refine l6In_any _ _ _ _ ?_)
      exact HQ.out
  · have g4 : (op == 4) = false := by simp [h4]
    rw [show opR op a b = 0 by simp [opR, h1, h2, h3, h4]] at HQ
    go_enter Try.func28, Try.ntmps28
    go_wp2_with (go_at_call 58; refine l6In_any _ _ _ _ ?_)
    exact HQ.out

set_option maxHeartbeats 1000000 in
theorem implRunOp_any {Q : Ending → World → Prop} (op a b : Int) (w : World) (hQ : Q (.returned (.int .i64 (opR op a b))) w) :
    Calls Try.prog 63 #[.int .i64 op, .int .i64 a, .int .i64 b] w Q := by
  have HQ : Hid _ := hQ
  clear hQ
  cases ha : inB a 0 65535
  · rw [show opR op a b = 0 by simp [opR, ha]] at HQ
    go_enter Try.func63, Try.ntmps63
    go_wp2_with (go_at_call 84; refine isNum_any _ _ ?_)
    exact HQ.out
  cases hb : inB b 0 65535
  · rw [show opR op a b = 0 by simp [opR, hb]] at HQ
    go_enter Try.func63, Try.ntmps63
    go_wp2_with (go_at_call 84; refine isNum_any _ _ ?_)
    exact HQ.out
  have ha' : 0 ≤ a ∧ a ≤ 65535 := by simpa [inB] using ha
  have hb' : 0 ≤ b ∧ b ≤ 65535 := by simpa [inB] using hb
  obtain ⟨a0, a1⟩ := ha'
  obtain ⟨b0, b1⟩ := hb'
  by_cases h1 : op = 1
  · subst h1
    rw [show opR 1 a b = (a + b) % 65536 by simp [opR, ha, hb]] at HQ
    go_enter Try.func63, Try.ntmps63
    go_wp2_with (go_at_call 84; refine isNum_any _ _ ?_)
    exact HQ.out
  by_cases h2 : op = 2
  · subst h2
    rw [show opR 2 a b = (a - b + 65536) % 65536 by simp [opR, ha, hb]] at HQ
    go_enter Try.func63, Try.ntmps63
    go_wp2_with (go_at_call 84; refine isNum_any _ _ ?_)
    exact HQ.out
  by_cases h3 : op = 3
  · subst h3
    rw [show opR 3 a b = (a * b) % 65536 by simp [opR, ha, hb]] at HQ
    obtain ⟨m0, m1⟩ := mul_range a0 a1 b0 b1
    go_enter Try.func63, Try.ntmps63
    go_wp2_with (go_at_call 84; refine isNum_any _ _ ?_)
    exact HQ.out
  have g1 : (op == 1) = false := by simp [h1]
  have g2 : (op == 2) = false := by simp [h2]
  have g3 : (op == 3) = false := by simp [h3]
  by_cases h4 : op = 4
  · subst h4
    by_cases hl : a < b
    · rw [show opR 4 a b = 1 by simp [opR, ha, hb, hl]] at HQ
      go_enter Try.func63, Try.ntmps63
      go_wp2_with (go_at_call 84; refine isNum_any _ _ ?_)
      exact HQ.out
    · rw [show opR 4 a b = 0 by simp [opR, hl]] at HQ
      go_enter Try.func63, Try.ntmps63
      go_wp2_with (go_at_call 84; refine isNum_any _ _ ?_)
      exact HQ.out
  · have g4 : (op == 4) = false := by simp [h4]
    rw [show opR op a b = 0 by simp [opR, h1, h2, h3, h4]] at HQ
    go_enter Try.func63, Try.ntmps63
    go_wp2_with (go_at_call 84; refine isNum_any _ _ ?_)
    exact HQ.out
end Go.Proofs.Ytancacjnbbdbfaa
