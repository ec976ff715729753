/- The bits of a word, from the lowest on, plainly. -/
import Derived.Test.YtljlgffkhocgkaaDoorBits
import Derived.Lib.TrailingZeros
namespace Go.Proofs.YtljlgffkhocgkaaDoor

def ctzB (b : BitVec 64) : Nat := Lib.ctz 64 b.toNat

/-- The word without its lowest bit. -/
def clrB (b : BitVec 64) : BitVec 64 := b &&& (b - 1#64)

theorem bs_pos {b : BitVec 64} (h : b ≠ 0#64) : 0 < b.toNat := by
  rcases Nat.eq_zero_or_pos b.toNat with e | e
  · exact absurd (by apply BitVec.eq_of_toNat_eq; simpa using e) h
  · exact e

theorem ctzB_spec {b : BitVec 64} (h : b ≠ 0#64) : ∃ m, b.toNat = 2 ^ ctzB b * (2 * m + 1) ∧ ctzB b < 64 := by
  have hp := bs_pos h
  obtain ⟨m, hm, hk⟩ := Lib.ctzFrom_spec 64 b.toNat hp (bs_lt b)
  refine ⟨m, ?_, ?_⟩
  · unfold ctzB Lib.ctz
    rw [if_neg (by omega)]
    exact hm
  · unfold ctzB Lib.ctz
    rw [if_neg (by omega)]
    exact hk

theorem clrB_get {b : BitVec 64} (h : b ≠ 0#64) (j : Nat) (hj : j < 64) : (clrB b).getLsbD j = (b.getLsbD j && decide (j ≠ ctzB b)) ∧ (j < ctzB b → b.getLsbD j = false) ∧ (j = ctzB b → b.getLsbD j = true) := by
  obtain ⟨m, hm, hk⟩ := ctzB_spec h
  have hp := bs_pos h
  have hsub : (b - 1#64).toNat = b.toNat - 1 := by
    rw [BitVec.toNat_sub]
    have := bs_lt b
    simp
    omega
  have hx1 : b.toNat - 1 = 2 ^ ctzB b * (2 * m) + (2 ^ ctzB b - 1) := by
    rw [hm]
    have h2 : 0 < 2 ^ ctzB b := Nat.two_pow_pos _
    generalize 2 ^ ctzB b = z at *
    rw [Nat.mul_add]
    omega
  have tb : b.getLsbD j = b.toNat.testBit j := rfl
  have tc : (clrB b).getLsbD j = (b.toNat.testBit j && (b.toNat - 1).testBit j) := by
    unfold clrB
    rw [BitVec.getLsbD_and]
    show (b.toNat.testBit j && (b - 1#64).toNat.testBit j) = _
    rw [hsub]
  have e1 : b.toNat.testBit j = (decide (ctzB b ≤ j) && (2 * m + 1).testBit (j - ctzB b)) := by
    rw [hm, Nat.testBit_two_pow_mul]
  have e2 : (b.toNat - 1).testBit j = if j < ctzB b then (2 ^ ctzB b - 1).testBit j else (2 * m).testBit (j - ctzB b) := by
    rw [hx1, Nat.testBit_two_pow_mul_add _ (by have : 0 < 2 ^ ctzB b := Nat.two_pow_pos _; omega)]
  rcases Nat.lt_trichotomy j (ctzB b) with hlt | heq | hgt
  · have : b.toNat.testBit j = false := by rw [e1]; simp; omega
    refine ⟨?_, fun _ => by rw [tb, this], fun e => by omega⟩
    rw [tc, tb, this]; rfl
  · subst heq
    have h1 : b.toNat.testBit (ctzB b) = true := by rw [e1]; simp
    refine ⟨?_, fun h => by omega, fun _ => by rw [tb, h1]⟩
    rw [tc, tb, h1, e2]
    simp
  · have hne : j ≠ ctzB b := by omega
    refine ⟨?_, fun h => by omega, fun e => by omega⟩
    rw [tc, tb, e2, if_neg (by omega)]
    have e3 : b.toNat.testBit j = (2 * m).testBit (j - ctzB b) := by
      rw [e1]
      obtain ⟨i, hi⟩ : ∃ i, j - ctzB b = i + 1 := ⟨j - ctzB b - 1, by omega⟩
      rw [hi, Nat.testBit_succ, Nat.testBit_succ]
      have : (2 * m + 1) / 2 = m := by omega
      have : 2 * m / 2 = m := by omega
      simp [*]
      omega
    rw [← e3]
    simp [hne]

theorem clrB_lt {b : BitVec 64} (h : b ≠ 0#64) : (clrB b).toNat < b.toNat := by
  have h1 : (clrB b).toNat ≤ (b - 1#64).toNat := by
    unfold clrB
    rw [BitVec.toNat_and]
    exact Nat.and_le_right
  have hp := bs_pos h
  have hsub : (b - 1#64).toNat = b.toNat - 1 := by
    rw [BitVec.toNat_sub]
    have := bs_lt b
    simp
    omega
  omega

/-- The bits that are set, from the lowest on. -/
def IsBits (N : Nat) : BitVec 64 → List (Fin N) → Prop
  | b, [] => b = 0#64
  | b, y :: r => b ≠ 0#64 ∧ y.1 = ctzB b ∧ IsBits N (clrB b) r

theorem isBits_some {N : Nat} (hN : N ≤ 64) : ∀ (n : Nat) (b : BitVec 64), b.toNat ≤ n → (∀ j, j < 64 → b.getLsbD j = true → j < N) → ∃ xs : List (Fin N), IsBits N b xs ∧ (∀ y : Fin N, y ∈ xs ↔ b.getLsbD y.1 = true) ∧ xs.Pairwise (fun a b => a.1 < b.1) ∧ xs.length ≤ n := by
  intro n
  induction n with
  | zero =>
    intro b hb _
    have e : b = 0#64 := by apply BitVec.eq_of_toNat_eq; simp; omega
    exact ⟨[], e, fun y => by simp [e], List.Pairwise.nil, by simp⟩
  | succ n ih =>
    intro b hb hset
    by_cases e : b = 0#64
    · exact ⟨[], e, fun y => by simp [e], List.Pairwise.nil, by simp⟩
    · obtain ⟨_, _, hk⟩ := ctzB_spec e
      have hkN := hset (ctzB b) hk ((clrB_get e (ctzB b) hk).2.2 rfl)
      obtain ⟨xs, h1, h2, h3, h4⟩ := ih (clrB b) (by have := clrB_lt e; omega) (fun j hj hb => hset j hj (by
        have h5 := (clrB_get e j hj).1
        rw [h5] at hb
        simp at hb
        exact hb.1))
      refine ⟨⟨ctzB b, hkN⟩ :: xs, ⟨e, rfl, h1⟩, fun y => ?_, ?_, by simp; omega⟩
      · have h6 := (clrB_get e y.1 (by have := y.2; omega))
        rw [List.mem_cons, h2 y, h6.1]
        constructor
        · rintro (rfl | h)
          · exact h6.2.2 rfl
          · simp at h; exact h.1
        · intro h
          by_cases e2 : y.1 = ctzB b
          · exact Or.inl (Fin.ext e2)
          · exact Or.inr (by simp [h, e2])
      · refine List.Pairwise.cons (fun y hy => ?_) h3
        have h6 := (clrB_get e y.1 (by have := y.2; omega))
        have h7 := (h2 y).1 hy
        rw [h6.1] at h7
        simp at h7
        rcases Nat.lt_trichotomy y.1 (ctzB b) with hlt | heq | hgt
        · rw [h6.2.1 hlt] at h7
          exact absurd h7.1 (by simp)
        · exact absurd heq h7.2
        · exact hgt
end Go.Proofs.YtljlgffkhocgkaaDoor
