/- How many ways lead to a step, and when a program is tidy, plainly. -/
import Derived.Test.YtljlgffkhocgkaaDoorReach
namespace Go.Proofs.YtljlgffkhocgkaaDoor

/-- How many ways of the first k steps lead to a place. -/
def waysK (ss : List St) (k : Nat) (j : Int) : Nat := ((ss.take k).map (fun s => s.next.count j)).sum

def ways (ss : List St) (j : Int) : Nat := (ss.map (fun s => s.next.count j)).sum

theorem waysK_all (ss : List St) (j : Int) : waysK ss ss.length j = ways ss j := by simp [waysK, ways]

theorem waysK_zero (ss : List St) (j : Int) : waysK ss 0 j = 0 := by simp [waysK]

theorem waysK_succ {ss : List St} {k : Nat} (hk : k < ss.length) (j : Int) : waysK ss (k + 1) j = waysK ss k j + ss[k].next.count j := by
  unfold waysK
  rw [List.take_succ_eq_append_getElem hk, List.map_append, List.sum_append]
  simp only [List.map_cons, List.map_nil, List.sum_cons, List.sum_nil, Nat.add_zero]

theorem waysK_le {ss : List St} (h : ∀ s ∈ ss, s.next.length ≤ 2) (k : Nat) (j : Int) : waysK ss k j ≤ 2 * k := by
  induction k with
  | zero => simp [waysK]
  | succ k ih =>
    by_cases hk : k < ss.length
    · rw [waysK_succ hk]
      have h1 := h _ (List.getElem_mem hk)
      have h2 : ss[k].next.count j ≤ ss[k].next.length := List.count_le_length
      omega
    · have e : waysK ss (k + 1) j = waysK ss k j := by
        unfold waysK
        rw [List.take_of_length_le (by omega), List.take_of_length_le (by omega)]
      omega

theorem count_take {zs : List Int} {t : Nat} (ht : t < zs.length) (j : Int) : (zs.take (t + 1)).count j = (zs.take t).count j + if zs.getD t 0 = j then 1 else 0 := by
  rw [List.take_succ_eq_append_getElem ht, List.count_append, List.count_singleton]
  have e : zs.getD t 0 = zs[t] := by simp [List.getD, ht]
  rw [e]
  by_cases h : zs[t] = j <;> simp [h]

theorem count_take_le (zs : List Int) (t : Nat) (j : Int) : (zs.take t).count j ≤ zs.length := by
  have h1 : (zs.take t).count j ≤ (zs.take t).length := List.count_le_length
  have h2 : (zs.take t).length ≤ zs.length := List.length_take_le' _ _
  omega

/-- Every way leads to a step; no step has more than two. -/
def Fit (ss : List St) : Prop := ss.length ≤ 200 ∧ ∀ (i : Nat) (s : St), ss[i]? = some s → s.next.length ≤ 2 ∧ ∀ t, t < s.next.length → ∃ m : Nat, s.next.getD t 0 = (m : Int) ∧ m < ss.length ∧ (m : Int) ∈ s.next

theorem ok_fit {ss : List St} (h : okB ss = true) : Fit ss :=
  ⟨by have := ok_len h; omega, fun i s hs => ⟨step_many (ok_step h hs), fun t ht => ok_next h hs ht⟩⟩

theorem Fit.two {ss : List St} (h : Fit ss) : ∀ s ∈ ss, s.next.length ≤ 2 := by
  intro s hs
  obtain ⟨i, hi, rfl⟩ := List.mem_iff_getElem.1 hs
  exact (h.2 i _ (List.getElem?_eq_getElem hi)).1

/-- All can be come to, no way leads to the first, and ways that meet come from skips. -/
def Tidy (ss : List St) : Prop := ways ss 0 = 0 ∧ (∀ i, i < ss.length → Reaches ss i) ∧ ∀ s ∈ ss, s.kind ≠ 6 → ∀ x ∈ s.next, ways ss x ≤ 1

theorem mem_of_getD {zs : List Int} {t : Nat} (ht : t < zs.length) : zs.getD t 0 ∈ zs := by
  have e : zs.getD t 0 = zs[t] := by simp [List.getD, ht]
  rw [e]; exact List.getElem_mem ht

theorem mem_getD' {zs : List Int} {x : Int} (h : x ∈ zs) : ∃ t, t < zs.length ∧ zs.getD t 0 = x := by
  obtain ⟨t, ht, e⟩ := List.mem_iff_getElem.1 h
  exact ⟨t, ht, by simp [List.getD, ht, e]⟩
end Go.Proofs.YtljlgffkhocgkaaDoor
