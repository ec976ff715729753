/- How ways are parted, plainly; where ways of what is left lead. -/
import Derived.Test.YtemmjiiibcbiiaaTidy3
namespace Go.Proofs.Ytemmjiiibcbiiaa

/-- A way that wants a skip: from none, to where ways meet. -/
def condB (qs : List St) (s : St) (x : Int) : Bool := decide (s.kind ≠ 6) && decide (1 < ways qs x)

/-- Where the skips of the first k steps lead. -/
def skK (qs : List St) (k : Nat) : List Int := ((qs.take k).map (fun s => s.next.filter (condB qs s))).flatten

def skT (qs : List St) (k t : Nat) : List Int := skK qs k ++ ((qs.getD k step00).next.take t).filter (condB qs (qs.getD k step00))

theorem skK_zero (qs : List St) : skK qs 0 = [] := by simp [skK]

theorem skT_zero (qs : List St) (k : Nat) : skT qs k 0 = skK qs k := by simp [skT]

theorem skK_succ {qs : List St} {k : Nat} (hk : k < qs.length) : skK qs (k + 1) = skT qs k qs[k].next.length := by
  unfold skT skK
  have e : qs.getD k step00 = qs[k] := by simp [List.getD, hk]
  rw [List.take_succ_eq_append_getElem hk, List.map_append, List.flatten_append, e, List.take_of_length_le (Nat.le_refl _)]
  simp

theorem filter_take {zs : List Int} {t : Nat} (ht : t < zs.length) (f : Int → Bool) : (zs.take (t + 1)).filter f = (zs.take t).filter f ++ if f (zs.getD t 0) = true then [zs.getD t 0] else [] := by
  rw [List.take_succ_eq_append_getElem ht, List.filter_append]
  have e : zs.getD t 0 = zs[t] := by simp [List.getD, ht]
  rw [e]
  cases h : f zs[t] <;> simp [h]

theorem skT_succ {qs : List St} {k t : Nat} (hk : k < qs.length) (ht : t < qs[k].next.length) : skT qs k (t + 1) = skT qs k t ++ if condB qs qs[k] (qs[k].next.getD t 0) = true then [qs[k].next.getD t 0] else [] := by
  unfold skT
  have e : qs.getD k step00 = qs[k] := by simp [List.getD, hk]
  rw [e, filter_take ht, List.append_assoc]

theorem skK_len {qs : List St} (h : ∀ s ∈ qs, s.next.length ≤ 2) (k : Nat) : (skK qs k).length ≤ 2 * k := by
  induction k with
  | zero => simp [skK]
  | succ k ih =>
    by_cases hk : k < qs.length
    · rw [skK_succ hk]
      unfold skT
      have e : qs.getD k step00 = qs[k] := by simp [List.getD, hk]
      rw [e, List.length_append]
      have h1 := h _ (List.getElem_mem hk)
      have h2 := List.length_filter_le (condB qs qs[k]) (qs[k].next.take qs[k].next.length)
      have h3 : (qs[k].next.take qs[k].next.length).length ≤ qs[k].next.length := List.length_take_le' _ _
      omega
    · have e : skK qs (k + 1) = skK qs k := by
        unfold skK
        rw [List.take_of_length_le (by omega), List.take_of_length_le (by omega)]
      rw [e]; omega

theorem skT_len {qs : List St} (h : ∀ s ∈ qs, s.next.length ≤ 2) {k t : Nat} (hk : k < qs.length) : (skT qs k t).length ≤ 2 * k + 2 := by
  unfold skT
  have e : qs.getD k step00 = qs[k] := by simp [List.getD, hk]
  rw [e, List.length_append]
  have h0 := skK_len h k
  have h1 := h _ (List.getElem_mem hk)
  have h2 := List.length_filter_le (condB qs qs[k]) (qs[k].next.take t)
  have h3 : (qs[k].next.take t).length ≤ qs[k].next.length := List.length_take_le' _ _
  omega

/-- The ways of step j, the first t parted. -/
def partT (qs : List St) (j t : Nat) : List Int := (List.range (qs.getD j step00).next.length).map (fun q => if q < t ∧ condB qs (qs.getD j step00) ((qs.getD j step00).next.getD q 0) = true then ((qs.length + (skT qs j q).length : Nat) : Int) else (qs.getD j step00).next.getD q 0)

/-- The program when it has come to step i, and there to way t. -/
def partF (qs : List St) (i t j : Nat) : St :=
  if j < qs.length then (if j < i then { qs.getD j step00 with next := partT qs j (qs.getD j step00).next.length } else if j = i then { qs.getD j step00 with next := partT qs j t } else qs.getD j step00)
  else skipSt ((skT qs i t).getD (j - qs.length) 0)

/-- All ways parted. -/
def partL (qs : List St) : List St := (List.range (qs.length + (skK qs qs.length).length)).map (partF qs qs.length 0)

theorem map_getD (zs : List Int) : (List.range zs.length).map (fun q => zs.getD q 0) = zs := by
  apply List.ext_getElem
  · simp
  · intro i h1 h2
    simp [h2]

theorem partT_zero (qs : List St) (j : Nat) : partT qs j 0 = (qs.getD j step00).next := by
  unfold partT
  have e : (fun q => if q < 0 ∧ condB qs (qs.getD j step00) ((qs.getD j step00).next.getD q 0) = true then ((qs.length + (skT qs j q).length : Nat) : Int) else (qs.getD j step00).next.getD q 0) = fun q => (qs.getD j step00).next.getD q 0 := by
    funext q
    rw [if_neg (by omega)]
  rw [e]
  exact map_getD _

theorem partT_len (qs : List St) (j t : Nat) : (partT qs j t).length = (qs.getD j step00).next.length := by simp [partT]

theorem partT_get {qs : List St} {j t : Nat} (h : t < (qs.getD j step00).next.length) : (partT qs j t)[t]? = some ((qs.getD j step00).next.getD t 0) := by
  unfold partT
  rw [List.getElem?_map, List.getElem?_range h, Option.map_some, if_neg (by omega)]

theorem partT_succ_yes {qs : List St} {j t : Nat} (h : t < (qs.getD j step00).next.length) (hc : condB qs (qs.getD j step00) ((qs.getD j step00).next.getD t 0) = true) :
    partT qs j (t + 1) = (partT qs j t).set t ((qs.length + (skT qs j t).length : Nat) : Int) := by
  apply List.ext_getElem?
  intro i
  by_cases hi : i < (qs.getD j step00).next.length
  · by_cases e : i = t
    · subst e
      rw [List.getElem?_set_self (by rw [partT_len]; exact hi)]
      unfold partT
      rw [List.getElem?_map, List.getElem?_range hi, Option.map_some, if_pos ⟨by omega, hc⟩]
    · rw [List.getElem?_set_ne (Ne.symm e)]
      unfold partT
      rw [List.getElem?_map, List.getElem?_map, List.getElem?_range hi, Option.map_some, Option.map_some]
      congr 1
      by_cases hlt : i < t
      · simp only [hlt, show i < t + 1 by omega, true_and]
      · simp only [hlt, show ¬ i < t + 1 by omega, false_and]
  · rw [List.getElem?_eq_none (by rw [partT_len]; omega), List.getElem?_eq_none (by rw [List.length_set, partT_len]; omega)]

theorem partT_succ_no {qs : List St} {j t : Nat} (hc : condB qs (qs.getD j step00) ((qs.getD j step00).next.getD t 0) = false) : partT qs j (t + 1) = partT qs j t := by
  unfold partT
  apply List.map_congr_left
  intro q hq
  by_cases e : q = t
  · subst e
    rw [if_neg (fun h => by have h9 := h.2; rw [hc] at h9; cases h9), if_neg (by omega)]
  · by_cases hlt : q < t
    · simp only [hlt, show q < t + 1 by omega, true_and]
    · simp only [hlt, show ¬ q < t + 1 by omega, false_and]

theorem condB_six {qs : List St} {s : St} (h : s.kind = 6) (x : Int) : condB qs s x = false := by simp [condB, h]

theorem partT_six {qs : List St} {j : Nat} (h : (qs.getD j step00).kind = 6) (t t' : Nat) : partT qs j t = partT qs j t' := by
  unfold partT
  apply List.map_congr_left
  intro q _
  rw [if_neg (fun g => by have h9 := g.2; rw [condB_six h] at h9; cases h9), if_neg (fun g => by have h9 := g.2; rw [condB_six h] at h9; cases h9)]

theorem skT_six {qs : List St} {k : Nat} (h : (qs.getD k step00).kind = 6) (t : Nat) : skT qs k t = skK qs k := by
  unfold skT
  have : ((qs.getD k step00).next.take t).filter (condB qs (qs.getD k step00)) = [] := by
    rw [List.filter_eq_nil_iff]
    intro x _
    rw [condB_six h]
    exact Bool.false_ne_true
  rw [this, List.append_nil]

/-- On to the next step. -/
theorem partF_next {qs : List St} {i : Nat} (hi : i < qs.length) (j : Nat) : partF qs (i + 1) 0 j = partF qs i (qs.getD i step00).next.length j := by
  have e : qs.getD i step00 = qs[i] := by simp [List.getD, hi]
  unfold partF
  by_cases hj : j < qs.length
  · rw [if_pos hj, if_pos hj]
    by_cases h1 : j < i
    · rw [if_pos h1, if_pos (by omega)]
    · by_cases h2 : j = i
      · subst h2
        rw [if_pos (by omega), if_neg (by omega), if_pos rfl]
      · rw [if_neg (by omega), if_neg h1, if_neg h2]
        by_cases h3 : j = i + 1
        · subst h3
          rw [if_pos rfl, partT_zero]
        · rw [if_neg h3]
  · rw [if_neg hj, if_neg hj, skT_zero, skK_succ hi, e]

theorem partF_start {qs : List St} {j : Nat} (hj : j < qs.length) : partF qs 0 0 j = qs.getD j step00 := by
  unfold partF
  rw [if_pos hj, if_neg (by omega)]
  by_cases h : j = 0
  · rw [if_pos h, partT_zero]
  · rw [if_neg h]

theorem partF_yes {qs : List St} {i t : Nat} (hi : i < qs.length) (ht : t < (qs.getD i step00).next.length) (hc : condB qs (qs.getD i step00) ((qs.getD i step00).next.getD t 0) = true) (j : Nat) :
    partF qs i (t + 1) j = if j = qs.length + (skT qs i t).length then skipSt ((qs.getD i step00).next.getD t 0) else if j = i then { partF qs i t i with next := (partF qs i t i).next.set t ((qs.length + (skT qs i t).length : Nat) : Int) } else partF qs i t j := by
  have e : qs.getD i step00 = qs[i] := by simp [List.getD, hi]
  have hsk : skT qs i (t + 1) = skT qs i t ++ [(qs.getD i step00).next.getD t 0] := by
    rw [e] at ht hc ⊢
    rw [skT_succ hi ht, if_pos hc]
  by_cases hj : j < qs.length
  · rw [if_neg (by omega)]
    by_cases h2 : j = i
    · subst h2
      rw [if_pos rfl]
      unfold partF
      rw [if_pos hj, if_pos hj, if_neg (by omega), if_pos rfl, if_neg (by omega), if_pos rfl, partT_succ_yes ht hc]
    · rw [if_neg h2]
      unfold partF
      rw [if_pos hj, if_pos hj]
      by_cases h1 : j < i
      · rw [if_pos h1, if_pos h1]
      · rw [if_neg h1, if_neg h1, if_neg h2, if_neg h2]
  · by_cases hN : j = qs.length + (skT qs i t).length
    · rw [if_pos hN]
      unfold partF
      rw [if_neg hj, hsk]
      congr 1
      subst hN
      simp [List.getD]
    · rw [if_neg hN, if_neg (by omega)]
      unfold partF
      rw [if_neg hj, if_neg hj, hsk]
      congr 1
      by_cases hlt : j - qs.length < (skT qs i t).length
      · simp [List.getD, List.getElem?_append_left hlt]
      · simp only [List.getD]
        rw [List.getElem?_eq_none (by simp; omega), List.getElem?_eq_none (by omega)]

theorem partF_no {qs : List St} {i t : Nat} (hi : i < qs.length) (ht : t < (qs.getD i step00).next.length) (hc : condB qs (qs.getD i step00) ((qs.getD i step00).next.getD t 0) = false) (j : Nat) : partF qs i (t + 1) j = partF qs i t j ∧ skT qs i (t + 1) = skT qs i t := by
  have e : qs.getD i step00 = qs[i] := by simp [List.getD, hi]
  have hsk : skT qs i (t + 1) = skT qs i t := by
    rw [e] at ht hc
    rw [skT_succ hi ht, if_neg (by rw [hc]; exact Bool.false_ne_true), List.append_nil]
  refine ⟨?_, hsk⟩
  unfold partF
  rw [hsk]
  by_cases h2 : j = i
  · subst h2
    rw [partT_succ_no hc]
  · rw [if_neg h2, if_neg h2]
end Go.Proofs.Ytemmjiiibcbiiaa
