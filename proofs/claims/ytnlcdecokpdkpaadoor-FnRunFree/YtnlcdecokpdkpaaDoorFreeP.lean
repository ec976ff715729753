/- A variable that nobody has to do with does not matter: plain facts on runs; and lkHas, lkSame. -/
import Derived.Test.YtnlcdecokpdkpaaDoorLkR
namespace Go.Proofs.YtnlcdecokpdkpaaDoor
open Go.RowKit

/-- Whether a step has to do with a variable. -/
def hasB (s : St) (v : Int) : Bool :=
  (decide (s.kind = 1 ∨ s.kind = 2 ∨ s.kind = 3) && decide (s.dst = v)) || (decide (s.kind = 1 ∨ s.kind = 2 ∨ s.kind = 4 ∨ s.kind = 5) && decide (s.av = v)) || (decide (s.kind = 1) && decide (s.bv = v))

/-- Ways to the first step lead to n. -/
def ren (n : Nat) (s : St) : St := { s with next := s.next.map (fun x => if x = 0 then (n : Int) else x) }

def copySt (n : Nat) : St := ⟨2, 11, 0, -1, 5, 0, 0, [(n : Int)]⟩

/-- The program with a step ahead of all. -/
def aheadL (ss : List St) : List St := copySt ss.length :: (ss.tail.map (ren ss.length)) ++ [ren ss.length (ss.getD 0 st0)]

def ply (n i : Nat) : Nat := if i = 0 then n else i

theorem ahead_len {ss : List St} (h : 0 < ss.length) : (aheadL ss).length = ss.length + 1 := by
  simp [aheadL]
  omega

theorem ahead_get {ss : List St} {i : Nat} (hi : i < ss.length) : (aheadL ss).getD (ply ss.length i) st0 = ren ss.length (ss.getD i st0) := by
  unfold ply aheadL
  by_cases h0 : i = 0
  · subst h0
    rw [if_pos rfl, List.getD, List.getElem?_append_right (by simp; omega)]
    simp
    rw [show ss.length - (ss.length - 1 + 1) = 0 by omega]
    simp
  · rw [if_neg h0, List.getD, List.getElem?_append_left (by simp; omega)]
    obtain ⟨j, rfl⟩ : ∃ j, i = j + 1 := ⟨i - 1, by omega⟩
    rw [List.getElem?_cons_succ, List.getElem?_map, List.getElem?_tail]
    simp [List.getD, hi]

theorem val_free {vs : List Int} {v n : Int} (_hv : -1 ≤ v) (h11 : v ≠ 11) : valR (vs.set 11 5) v n = valR vs v n := by
  unfold valR
  split
  · rfl
  · simp only [List.getD, List.getElem?_set]
    rw [if_neg (by omega)]

theorem set_comm {vs : List Int} {d : Int} {x : Int} (_hd : 0 ≤ d) (h11 : d ≠ 11) : (vs.set 11 5).set d.toNat x = (vs.set d.toNat x).set 11 5 := List.set_comm _ _ (by omega)

theorem vars_free {s : St} {n : Int} (hst : stepB s n = true) (hf : hasB s 11 = false) (k : Nat) (vs inp : List Int) : varsR (ren k s) (vs.set 11 5) inp = (varsR s vs inp).set 11 5 := by
  obtain ⟨p1, p2, p3, p4⟩ := step_parts1 hst
  simp only [hasB, Bool.or_eq_false_iff, Bool.and_eq_false_iff, decide_eq_false_iff_not] at hf
  unfold varsR ren
  dsimp only
  split
  · next hk =>
    obtain ⟨d0, _, a0, _, b0, _⟩ := p1 hk
    rw [val_free a0 (by omega), val_free b0 (by omega), set_comm d0 (by omega)]
  · split
    · next hk =>
      obtain ⟨d0, _, a0, _⟩ := p2 hk
      rw [val_free a0 (by omega), set_comm d0 (by omega)]
    · split
      · next hk => rw [set_comm (p3 hk).1 (by omega)]
      · rfl

theorem outs_free {s : St} {n : Int} (hst : stepB s n = true) (hf : hasB s 11 = false) (k : Nat) (vs outs : List Int) : outsR (ren k s) (vs.set 11 5) outs = outsR s vs outs := by
  obtain ⟨p1, p2, p3, p4⟩ := step_parts1 hst
  simp only [hasB, Bool.or_eq_false_iff, Bool.and_eq_false_iff, decide_eq_false_iff_not] at hf
  unfold outsR ren
  dsimp only
  split
  · next hk => rw [val_free (p4 (Or.inl hk)).1 (by omega)]
  · rfl

theorem next_free {s : St} {n : Nat} (hst : stepB s n = true) (hf : hasB s 11 = false) (h7 : s.kind ≠ 7) (vs : List Int) : nextR (ren n s) (vs.set 11 5) = ply n (nextR s vs) := by
  obtain ⟨p1, p2, p3, p4⟩ := step_parts1 hst
  obtain ⟨h1, h2, h3⟩ := run_next hst h7
  simp only [hasB, Bool.or_eq_false_iff, Bool.and_eq_false_iff, decide_eq_false_iff_not] at hf
  have get : ∀ j, j < s.next.length → ((ren n s).next.getD j 0).toNat = ply n (s.next.getD j 0).toNat := fun j hj => by
    have := (h3 j hj).1
    have e : (ren n s).next.getD j 0 = if s.next.getD j 0 = 0 then (n : Int) else s.next.getD j 0 := by simp [ren, List.getD, hj]
    rw [e]
    unfold ply
    by_cases hz : s.next.getD j 0 = 0
    · rw [if_pos hz, hz]; simp
    · rw [if_neg hz, if_neg (by omega)]
  unfold nextR
  by_cases h5 : s.kind = 5
  · have hv : valR (vs.set 11 5) (ren n s).av (ren n s).an = valR vs s.av s.an := val_free (p4 (Or.inr h5)).1 (show s.av ≠ 11 by omega)
    rw [hv]
    by_cases hz : valR vs s.av s.an = 0
    · rw [if_pos ⟨h5, hz⟩, if_pos ⟨h5, hz⟩]
      exact get 1 (h2 h5)
    · rw [if_neg (fun h => hz h.2), if_neg (fun h => hz h.2)]
      exact get 0 h1
  · rw [if_neg (fun h => h5 h.1), if_neg (fun h => h5 h.1)]
    exact get 0 h1

theorem runR_free {ss : List St} (hok : okB ss = true) (hf : ∀ s ∈ ss, hasB s 11 = false) : ∀ (n i : Nat) (vs inp outs path path' : List Int), i < ss.length →
    (runR (aheadL ss) n (ply ss.length i) (vs.set 11 5) inp outs path').code = (runR ss n i vs inp outs path).code ∧ (runR (aheadL ss) n (ply ss.length i) (vs.set 11 5) inp outs path').outs = (runR ss n i vs inp outs path).outs := by
  intro n
  induction n with
  | zero => intro i vs inp outs path path' _; exact ⟨rfl, rfl⟩
  | succ n ih =>
    intro i vs inp outs path path' hi
    have e := ahead_get hi
    have hst := ok_at hok hi
    have hfi : hasB (ss.getD i st0) 11 = false := hf _ (by simp [List.getD, hi])
    have es : stopR (ren ss.length (ss.getD i st0)) inp = stopR (ss.getD i st0) inp := rfl
    cases hs : stopR (ss.getD i st0) inp with
    | some c =>
      rw [runR_stop hs, runR_stop (c := c) (by rw [e, es]; exact hs)]
      exact ⟨rfl, rfl⟩
    | none =>
      have h7 := stop_none hs
      rw [runR_go hs, runR_go (by rw [e, es]; exact hs), e, vars_free hst hfi, outs_free hst hfi, next_free hst hfi h7, show inR (ren ss.length (ss.getD i st0)) inp = inR (ss.getD i st0) inp from rfl]
      exact ih _ _ _ _ _ _ (next_lt hok hi h7 vs)
end Go.Proofs.YtnlcdecokpdkpaaDoor
