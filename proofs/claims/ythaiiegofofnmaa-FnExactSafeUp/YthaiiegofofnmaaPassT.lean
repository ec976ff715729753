/- The model's passes until nothing changes. -/
import Derived.Test.YthaiiegofofnmaaSpecSK
import Derived.Test.YthaiiegofofnmaaSafeF
namespace Go.Proofs.Ythaiiegofofnmaa
open Go.RowKit

/-- One, if it is so. -/
def boolN : Value → Nat
  | .bool true => 1
  | _ => 0

theorem cnt_off2 {m : Nat → Bool} {i n : Nat} (hi : i < n) (hm : m i = true) : cnt (offB m i) n + 1 = cnt m n := by
  induction n with
  | zero => omega
  | succ n ih =>
    have e : cnt m (n + 1) = cnt m n + (if m n = true then 1 else 0) := by simp [cnt]
    have e2 : cnt (offB m i) (n + 1) = cnt (offB m i) n + (if offB m i n = true then 1 else 0) := by simp [cnt]
    by_cases h : i = n
    · subst h
      have : cnt (offB m i) i = cnt m i := cnt_same fun j hj => by unfold offB; rw [if_neg (by omega)]
      rw [e, e2, this, hm]
      simp [offB]
    · have := ih (by omega)
      rw [e, e2, ← this]
      have h2 : offB m i n = m n := by unfold offB; rw [if_neg (by omega)]
      rw [h2]
      omega

theorem trueAt_F {lo g cap n : Nat} {w : World} {f : Nat → Bool} (h : BoolF lo w g cap n f) : cnt (trueAt w g) n = cnt f n := cnt_same fun j hj => by
  unfold trueAt
  rw [h.cell hj]

/-- A pass of the model: from f0 on, as far as k. -/
structure PassS (n : Nat) (r : Nat → Bool) (F : (Nat → Bool) → Nat → Bool) (f0 f : Nat → Bool) (k : Nat) (b : Bool) : Prop where
  gi : GI n r F f
  no : b = false → f = f0 ∧ ∀ j, j < k → f j = true → F f j = true
  yes : b = true → cnt f n < cnt f0 n

theorem PassS.start {n : Nat} {r : Nat → Bool} {F : (Nat → Bool) → Nat → Bool} {f0 : Nat → Bool} (h : GI n r F f0) : PassS n r F f0 f0 0 false := ⟨h, fun _ => ⟨rfl, fun j hj => by omega⟩, fun h => by cases h⟩

theorem PassS.skip {n : Nat} {r : Nat → Bool} {F : (Nat → Bool) → Nat → Bool} {f0 f : Nat → Bool} {k : Nat} {b : Bool} (h : PassS n r F f0 f k b) (hk : f k = true → F f k = true) : PassS n r F f0 f (k + 1) b :=
  ⟨h.gi, fun hb => ⟨(h.no hb).1, fun j hj hf => by
    by_cases e : j = k
    · subst e; exact hk hf
    · exact (h.no hb).2 j (by omega) hf⟩, h.yes⟩

theorem PassS.off {n : Nat} {r : Nat → Bool} {F : (Nat → Bool) → Nat → Bool} {f0 f : Nat → Bool} {k : Nat} {b : Bool} (h : PassS n r F f0 f k b) (hm : Mono n F) (hk : k < n) (hf : f k = true) (hF : F f k = false) : PassS n r F f0 (offB f k) (k + 1) true :=
  { gi := h.gi.off hm hF
    no := fun hb => by cases hb
    yes := fun _ => by
      have h1 := cnt_off2 hk hf
      cases b with
      | false =>
        rw [← (h.no rfl).1]
        omega
      | true =>
        have := h.yes rfl
        omega }
end Go.Proofs.Ythaiiegofofnmaa
