/- A step ahead of all that nobody minds: the program stays ok, and says the same. -/
import Derived.Test.YtnlcdecokpdkpaaDoorFreeP
namespace Go.Proofs.YtnlcdecokpdkpaaDoor
open Go.RowKit

theorem ren_ok {s : St} {n : Nat} (h : stepB s n = true) : stepB (ren n s) ((n : Int) + 1) = true := by
  simp only [stepB, Bool.and_eq_true, decide_eq_true_eq, List.all_eq_true] at h ⊢
  refine ⟨⟨by simpa [ren] using h.1.1, fun x hx => ?_⟩, h.2⟩
  simp only [ren, List.mem_map] at hx
  obtain ⟨y, hy, rfl⟩ := hx
  have h9 := h.1.2 y hy
  simp only [inB, Bool.and_eq_true, decide_eq_true_eq] at h9 ⊢
  split <;> omega

theorem copy_ok (n : Nat) : stepB (copySt n) ((n : Int) + 1) = true := by
  simp [stepB, copySt, many, restB, inB, opndB, noneB]

theorem ahead_ok {ss : List St} (hok : okB ss = true) (hl : ss.length < 60) : okB (aheadL ss) = true := by
  have hok' := hok
  simp only [okB, Bool.and_eq_true, decide_eq_true_eq, List.all_eq_true] at hok
  obtain ⟨⟨h1, _⟩, h3⟩ := hok
  have el := ahead_len (ss := ss) (by omega)
  simp only [okB, Bool.and_eq_true, decide_eq_true_eq, List.all_eq_true]
  refine ⟨⟨by omega, by omega⟩, fun s hs => ?_⟩
  rw [el, Int.natCast_add, Int.natCast_one]
  simp only [aheadL, List.mem_append, List.mem_cons, List.mem_map, List.not_mem_nil, or_false] at hs
  rcases hs with (rfl | ⟨t, ht, rfl⟩) | rfl
  · exact copy_ok _
  · exact ren_ok (h3 t (List.mem_of_mem_tail ht))
  · exact ren_ok (ok_at hok' (by omega))

theorem run_same {ss : List St} (hl : ss.length < 60) (hf : ∀ s ∈ ss, hasB s 11 = false) (inp : List Int) :
    (runOfR ss inp 300).code = 9 ∨ ((runOfR ss inp 300).code = 1 ∧ (runOfR ss inp 300).outs <+: (runOfR (aheadL ss) inp 600).outs) ∨ ((runOfR ss inp 300).code ≠ 9 ∧ (runOfR ss inp 300).code ≠ 1 ∧ (runOfR (aheadL ss) inp 600).code = (runOfR ss inp 300).code ∧ (runOfR (aheadL ss) inp 600).outs = (runOfR ss inp 300).outs) := by
  by_cases hc : canB ss inp 300 = true
  · have eA : runOfR ss inp 300 = runR ss 300 0 vars0 inp [] [] := by simp [runOfR, hc]
    have hok : okB ss = true := by simp only [canB, Bool.and_eq_true] at hc; exact hc.1.1
    have hn1 : 0 < ss.length := by simp only [okB, Bool.and_eq_true, decide_eq_true_eq] at hok; omega
    have hcB : canB (aheadL ss) inp 600 = true := by
      simp only [canB, Bool.and_eq_true] at hc ⊢
      exact ⟨⟨ahead_ok hok hl, by decide⟩, hc.2⟩
    have eB : runOfR (aheadL ss) inp 600 = runR (aheadL ss) (299 + 300 + 1) 0 vars0 inp [] [] := by simp [runOfR, hcB]
    have e0 : (aheadL ss).getD 0 st0 = copySt ss.length := rfl
    have hs0 : stopR ((aheadL ss).getD 0 st0) inp = none := by rw [e0]; rfl
    rw [runR_go hs0, e0, show nextR (copySt ss.length) vars0 = ply ss.length 0 from by simp [nextR, copySt, ply], show varsR (copySt ss.length) vars0 inp = vars0.set 11 5 from rfl, show inR (copySt ss.length) inp = inp from rfl, show outsR (copySt ss.length) vars0 [] = [] from rfl, Nat.add_comm 299 300] at eB
    obtain ⟨f1, f2⟩ := runR_free hok hf 300 0 vars0 inp [] [] ([] ++ [((0 : Nat) : Int)]) hn1
    rw [eA, eB]
    by_cases h9 : (runR ss 300 0 vars0 inp [] []).code = 9
    · exact Or.inl h9
    · by_cases h1 : (runR ss 300 0 vars0 inp [] []).code = 1
      · refine Or.inr (Or.inl ⟨h1, ?_⟩)
        rw [← f2]
        exact (runR_long (aheadL ss) 299 300 _ _ _ _ _ (f1.trans h1)).1
      · refine Or.inr (Or.inr ⟨h9, h1, ?_⟩)
        rw [runR_more (aheadL ss) 299 300 _ _ _ _ _ (by rw [f1]; exact h1)]
        exact ⟨f1, f2⟩
  · have e : runOfR ss inp 300 = ⟨9, [], []⟩ := by simp [runOfR, hc]
    rw [e]
    exact Or.inl rfl
end Go.Proofs.YtnlcdecokpdkpaaDoor
