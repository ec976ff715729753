/- Ways through a program, plainly: which steps can be come to; counting of what is so. -/
import Derived.Test.YtljlgffkhocgkaaDoorPure
namespace Go.Proofs.YtljlgffkhocgkaaDoor

/-- A step can be come to: it is in every set that has the first one, and all to which a way leads from such. -/
def Reaches (ss : List St) (i : Nat) : Prop :=
  ∀ S : Nat → Prop, S 0 → (∀ (a j : Nat) (s : St), S a → ss[a]? = some s → (j : Int) ∈ s.next → S j) → S i

theorem Reaches.first (ss : List St) : Reaches ss 0 := fun _ h _ => h

theorem Reaches.on {ss : List St} {a j : Nat} {s : St} (h : Reaches ss a) (hs : ss[a]? = some s) (hj : (j : Int) ∈ s.next) : Reaches ss j := fun S h0 h1 => h1 a j s (h S h0 h1) hs hj

def IsReach (ss : List St) (rs : List Bool) : Prop := rs.length = ss.length ∧ ∀ i, i < ss.length → (rs[i]? = some true ↔ Reaches ss i)

theorem bools_eq {a b : List Bool} (hl : a.length = b.length) (h : ∀ i, i < a.length → (a[i]? = some true ↔ b[i]? = some true)) : a = b := by
  apply List.ext_getElem hl
  intro i h1 h2
  have := h i h1
  rw [List.getElem?_eq_getElem h1, List.getElem?_eq_getElem h2] at this
  cases ha : a[i] <;> cases hb : b[i] <;> simp_all

theorem IsReach.unique {ss : List St} {a b : List Bool} (ha : IsReach ss a) (hb : IsReach ss b) : a = b :=
  bools_eq (ha.1.trans hb.1.symm) fun i hi => (ha.2 i (by have := ha.1; omega)).trans (hb.2 i (by have := ha.1; omega)).symm

theorem ok_step {ss : List St} (h : okB ss = true) {i : Nat} {s : St} (hs : ss[i]? = some s) : stepB s ss.length = true := by
  unfold okB at h
  simp only [Bool.and_eq_true, List.all_eq_true] at h
  exact h.2 s (List.mem_of_getElem? hs)

theorem ok_len {ss : List St} (h : okB ss = true) : 1 ≤ ss.length ∧ ss.length ≤ 60 := by
  unfold okB at h
  simp only [Bool.and_eq_true, decide_eq_true_eq] at h
  exact h.1

theorem many_le (k : Int) : many k ≤ 2 := by
  unfold many
  repeat' split
  all_goals omega

theorem step_next {s : St} {n : Nat} (h : stepB s n = true) {t : Nat} (ht : t < s.next.length) : ∃ m : Nat, s.next.getD t 0 = (m : Int) ∧ m < n ∧ (m : Int) ∈ s.next := by
  unfold stepB at h
  simp only [Bool.and_eq_true, List.all_eq_true, decide_eq_true_eq] at h
  have hm : s.next[t] ∈ s.next := List.getElem_mem ht
  have := h.1.2 _ hm
  unfold inB at this
  simp only [Bool.and_eq_true, decide_eq_true_eq] at this
  have e : s.next.getD t 0 = s.next[t] := by simp [List.getD, ht]
  refine ⟨s.next[t].toNat, ?_, by omega, ?_⟩
  · rw [e]; omega
  · rw [Int.toNat_of_nonneg this.1]; exact hm

theorem step_many {s : St} {n : Nat} (h : stepB s n = true) : s.next.length ≤ 2 := by
  unfold stepB at h
  simp only [Bool.and_eq_true, decide_eq_true_eq] at h
  have := many_le s.kind
  omega

theorem ok_next {ss : List St} (h : okB ss = true) {i : Nat} {s : St} (hs : ss[i]? = some s) {t : Nat} (ht : t < s.next.length) : ∃ m : Nat, s.next.getD t 0 = (m : Int) ∧ m < ss.length ∧ (m : Int) ∈ s.next :=
  step_next (ok_step h hs) ht

theorem mem_getD {s : St} {j : Nat} (h : (j : Int) ∈ s.next) : ∃ t, t < s.next.length ∧ s.next.getD t 0 = (j : Int) := by
  obtain ⟨t, ht, e⟩ := List.mem_iff_getElem.1 h
  exact ⟨t, ht, by simp [List.getD, ht, e]⟩

/-- How many of the first n are so. -/
def cnt (m : Nat → Bool) : Nat → Nat
  | 0 => 0
  | n + 1 => cnt m n + (if m n then 1 else 0)

theorem cnt_le (m : Nat → Bool) (n : Nat) : cnt m n ≤ n := by
  induction n with
  | zero => simp [cnt]
  | succ n ih => unfold cnt; split <;> omega

theorem cnt_same {m m' : Nat → Bool} {n : Nat} (h : ∀ j, j < n → m' j = m j) : cnt m' n = cnt m n := by
  induction n with
  | zero => rfl
  | succ n ih => unfold cnt; rw [ih fun j hj => h j (by omega), h n (by omega)]

theorem cnt_set {m : Nat → Bool} {i n : Nat} (hi : i < n) (hm : m i = false) : cnt (fun j => if j = i then true else m j) n = cnt m n + 1 := by
  induction n with
  | zero => omega
  | succ n ih =>
    unfold cnt
    by_cases e : n = i
    · subst e
      rw [cnt_same (m := m) fun j hj => by rw [if_neg (by omega)]]
      simp [hm]
    · rw [ih (by omega), if_neg e]; omega

/-- The sum of the first n. -/
def tot (f : Nat → Nat) : Nat → Nat
  | 0 => 0
  | n + 1 => tot f n + f n

theorem tot_same {f g : Nat → Nat} {n : Nat} (h : ∀ j, j < n → g j = f j) : tot g n = tot f n := by
  induction n with
  | zero => rfl
  | succ n ih => unfold tot; rw [ih fun j hj => h j (by omega), h n (by omega)]

theorem tot_le {f g : Nat → Nat} {n : Nat} (h : ∀ j, j < n → g j ≤ f j) : tot g n ≤ tot f n := by
  induction n with
  | zero => exact Nat.le_refl _
  | succ n ih => unfold tot; have := ih fun j hj => h j (by omega); have := h n (by omega); omega

theorem tot_set {f : Nat → Nat} {i n v : Nat} (hi : i < n) : tot (fun j => if j = i then v else f j) n + f i = tot f n + v := by
  induction n with
  | zero => omega
  | succ n ih =>
    unfold tot
    by_cases e : n = i
    · subst e
      rw [tot_same (f := f) fun j hj => by rw [if_neg (by omega)]]
      simp; omega
    · have := ih (by omega)
      rw [if_neg e]; omega

/-- A row of bools, by a function on places. -/
def boolV (m : Nat → Bool) : Nat → Value := fun j => .bool (m j)

theorem reach_of {ss : List St} {m : Nat → Bool} (h0 : m 0 = true) (hr : ∀ j, m j = true → Reaches ss j)
    (hc : ∀ (a j : Nat) (s : St), m a = true → ss[a]? = some s → (j : Int) ∈ s.next → m j = true) : IsReach ss ((List.range ss.length).map m) := by
  refine ⟨by simp, fun i hi => ?_⟩
  simp only [List.getElem?_map, List.getElem?_range hi, Option.map_some, Option.some.injEq]
  exact ⟨hr i, fun h => h (fun j => m j = true) h0 hc⟩

theorem map_boolV (m : Nat → Bool) (n : Nat) : ((List.range n).map m).map Value.bool = (List.range n).map (boolV m) := by
  rw [List.map_map]; rfl
end Go.Proofs.YtljlgffkhocgkaaDoor
