/- A step folded, plainly. -/
import Derived.Test.YtancacjnbbdbfaaRunOp
import Derived.Test.YtancacjnbbdbfaaTidy26
namespace Go.Proofs.Ytancacjnbbdbfaa

/-- A step without a reckoning of two numbers, and without a choice by one. -/
def foldS (s : St) : St :=
  if s.kind = 1 ∧ s.av = -1 ∧ s.bv = -1 then ⟨2, s.dst, 0, -1, opR s.op s.an s.bn, 0, 0, s.next⟩
  else if s.kind = 5 ∧ s.av = -1 then skipSt (if s.an = 0 then s.next.getD 1 0 else s.next.getD 0 0)
  else s

def foldL (ss : List St) : List St := ss.map foldS

def FoldOr (ss ts : List St) : Prop := ts = if okB ss = true then foldL ss else []

theorem FoldOr.unique {ss a b : List St} (ha : FoldOr ss a) (hb : FoldOr ss b) : a = b := by
  unfold FoldOr at ha hb
  rw [ha, hb]

theorem stepB_next {s : St} {n : Int} (h : stepB s n = true) : (s.next.length : Int) = many s.kind ∧ (∀ x ∈ s.next, 0 ≤ x ∧ x < n) ∧ restB s = true := by
  simp only [stepB, Bool.and_eq_true, decide_eq_true_eq, List.all_eq_true, inB] at h
  exact ⟨h.1.1, fun x hx => by have := h.1.2 x hx; omega, h.2⟩

theorem ok_stepM {ss : List St} (h : okB ss = true) {s : St} (hs : s ∈ ss) : stepB s ss.length = true := by
  simp only [okB, Bool.and_eq_true, List.all_eq_true] at h
  exact h.2 s hs

theorem foldS_len {s : St} {n : Int} (h : stepB s n = true) : (foldS s).next.length ≤ 2 := by
  obtain ⟨h1, _, _⟩ := stepB_next h
  have h2 : (s.next.length : Int) ≤ 2 := by
    rw [h1]
    unfold many
    split <;> (try split) <;> (try split) <;> omega
  unfold foldS
  split
  · show s.next.length ≤ 2
    omega
  · split
    · simp [skipSt]
    · omega

theorem FoldOr.bound {ss ts : List St} (h : FoldOr ss ts) : ts.length ≤ 1000 ∧ ∀ s ∈ ts, s.next.length ≤ 1000 := by
  unfold FoldOr at h
  subst h
  split
  · next hok =>
    refine ⟨by have := (ok_len hok).2; simp [foldL]; omega, fun s hs => ?_⟩
    obtain ⟨t, ht, rfl⟩ := List.mem_map.1 hs
    exact Nat.le_trans (foldS_len (ok_stepM hok ht)) (by decide)
  · exact ⟨by simp, by simp⟩

theorem opnd_in {v n : Int} (h : opndB v n = true) : v = -1 ∨ (0 ≤ v ∧ v ≤ 11) := by
  unfold opndB at h
  split at h
  · left; omega
  · right
    simp only [Bool.and_eq_true, inB, decide_eq_true_eq] at h
    omega

theorem set_opnds {s : St} {n : Int} (h : stepB s n = true) (hk : s.kind = 1) : (s.av = -1 ∨ (0 ≤ s.av ∧ s.av ≤ 11)) ∧ (s.bv = -1 ∨ (0 ≤ s.bv ∧ s.bv ≤ 11)) ∧ s.next.length = 1 := by
  obtain ⟨h1, _, h3⟩ := stepB_next h
  rw [hk] at h1
  simp only [restB, hk, if_pos, Bool.and_eq_true] at h3
  refine ⟨opnd_in h3.2.1.2, opnd_in h3.2.2, ?_⟩
  simp [many] at h1
  omega

theorem test_opnd {s : St} {n : Int} (h : stepB s n = true) (hk : s.kind = 5) : (s.av = -1 ∨ (0 ≤ s.av ∧ s.av ≤ 11)) ∧ s.next.length = 2 := by
  obtain ⟨h1, _, h3⟩ := stepB_next h
  rw [hk] at h1
  have h3' : (decide (s.dst = 0) && (decide (s.op = 0) && opndB s.av s.an && noneB s.bv s.bn)) = true := by
    unfold restB at h3
    rw [hk] at h3
    simpa using h3
  simp only [Bool.and_eq_true] at h3'
  refine ⟨opnd_in h3'.2.1.2, ?_⟩
  simp [many] at h1
  omega
end Go.Proofs.Ytancacjnbbdbfaa
