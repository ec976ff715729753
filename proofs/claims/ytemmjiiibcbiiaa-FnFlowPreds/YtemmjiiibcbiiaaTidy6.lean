/- What is made tidy is ok, if it has no more steps than a program may have. -/
import Derived.Test.YtemmjiiibcbiiaaTidy5
namespace Go.Proofs.Ytemmjiiibcbiiaa

/-- As many ways as a step of its kind has, and of the rest what it may have. -/
def ShapeL (qs : List St) : Prop := ∀ s ∈ qs, restB s = true ∧ (s.next.length : Int) = many s.kind

theorem fitN_ok {qs : List St} (h : ShapeL qs) (f : FitN qs) (h1 : 1 ≤ qs.length) (h2 : qs.length ≤ 60) : okB qs = true := by
  unfold okB
  simp only [Bool.and_eq_true, decide_eq_true_eq, List.all_eq_true]
  refine ⟨⟨h1, h2⟩, fun s hs => ?_⟩
  unfold stepB
  simp only [Bool.and_eq_true, decide_eq_true_eq, List.all_eq_true]
  refine ⟨⟨(h s hs).2, fun x hx => ?_⟩, (h s hs).1⟩
  have := f.2 s hs x hx
  simp [inB]
  omega

theorem ok_shape {ss : List St} (h : okB ss = true) : ShapeL ss := by
  intro s hs
  unfold okB at h
  simp only [Bool.and_eq_true, decide_eq_true_eq, List.all_eq_true] at h
  have := h.2 s hs
  unfold stepB at this
  simp only [Bool.and_eq_true, decide_eq_true_eq] at this
  exact ⟨this.2, this.1.1⟩

theorem shape_next {s : St} {zs : List Int} (hl : zs.length = s.next.length) (h : restB s = true ∧ (s.next.length : Int) = many s.kind) : restB { s with next := zs } = true ∧ (({ s with next := zs } : St).next.length : Int) = many ({ s with next := zs } : St).kind := by
  refine ⟨h.1, ?_⟩
  show (zs.length : Int) = many s.kind
  rw [hl]
  exact h.2

theorem shape_skip (x : Int) : restB (skipSt x) = true ∧ ((skipSt x).next.length : Int) = many (skipSt x).kind := ⟨rfl, rfl⟩

theorem prune_shape {ss : List St} {rs : List Bool} (h : ShapeL ss) (hl : rs.length = ss.length) : ShapeL (pruneK ss rs ss.length) := by
  intro s hs
  obtain ⟨i, hi, _, _, rfl⟩ := pruneK_mem (Nat.le_refl _) hl hs
  exact shape_next (by simp) (h _ (List.getElem_mem hi))

theorem first_shape {qs : List St} (h : ShapeL qs) (h0 : 0 < qs.length) : ShapeL (firstL qs) := by
  unfold firstL
  by_cases hw : ways qs 0 = 0
  · rw [if_pos hw]
    exact h
  · rw [if_neg hw]
    intro s hs
    simp only [List.mem_map, List.mem_range] at hs
    obtain ⟨j, hj, rfl⟩ := hs
    unfold firstF
    by_cases e : j = 0
    · rw [if_neg (by omega)]
      unfold rotF
      rw [if_pos e]
      exact shape_skip _
    · rw [if_pos (by omega)]
      unfold rotF
      rw [if_neg e]
      have hlt : (if j = qs.length then 0 else j) < qs.length := by split <;> omega
      have e2 : qs.getD (if j = qs.length then 0 else j) step00 = qs[if j = qs.length then 0 else j] := by simp [List.getD, hlt]
      rw [e2]
      exact shape_next (by simp) (h _ (List.getElem_mem hlt))

theorem part_shape {qs : List St} (h : ShapeL qs) : ShapeL (partL qs) := by
  intro s hs
  unfold partL at hs
  simp only [List.mem_map, List.mem_range] at hs
  obtain ⟨j, _, rfl⟩ := hs
  unfold partF
  by_cases hj : j < qs.length
  · have e : qs.getD j step00 = qs[j] := by simp [List.getD, hj]
    rw [if_pos hj, if_pos hj]
    exact shape_next (by rw [partT_len]) (by rw [e]; exact h _ (List.getElem_mem hj))
  · rw [if_neg hj]
    exact shape_skip _

theorem skK_mono {qs : List St} {i j : Nat} (hij : i ≤ j) (hj : j ≤ qs.length) : (skK qs i).length ≤ (skK qs j).length := by
  induction j with
  | zero => have : i = 0 := by omega
            subst this; exact Nat.le_refl _
  | succ j ih =>
    by_cases e : i = j + 1
    · subst e; exact Nat.le_refl _
    · have := ih (by omega) (by omega)
      rw [skK_succ (by omega)]
      unfold skT
      rw [List.length_append]
      omega

theorem skT_mono {qs : List St} {k : Nat} (hk : k < qs.length) {t u : Nat} (htu : t ≤ u) (hu : u ≤ qs[k].next.length) : (skT qs k t).length ≤ (skT qs k u).length := by
  induction u with
  | zero => have : t = 0 := by omega
            subst this; exact Nat.le_refl _
  | succ u ih =>
    by_cases e : t = u + 1
    · subst e; exact Nat.le_refl _
    · have := ih (by omega) (by omega)
      rw [skT_succ hk (by omega), List.length_append]
      omega

theorem skK_mem {qs : List St} {k : Nat} {x : Int} (h : x ∈ skK qs k) : ∃ s ∈ qs, x ∈ s.next := by
  unfold skK at h
  simp only [List.mem_flatten, List.mem_map] at h
  obtain ⟨l, ⟨s, hs, rfl⟩, hx⟩ := h
  exact ⟨s, List.mem_of_mem_take hs, (List.mem_filter.1 hx).1⟩

theorem partL_len (qs : List St) : (partL qs).length = qs.length + (skK qs qs.length).length := by simp [partL]

theorem part_fit {qs : List St} (h : FitN qs) (_h0 : 0 < qs.length) : FitN (partL qs) := by
  refine ⟨part_two h.1, fun s hs x hx => ?_⟩
  rw [partL_len]
  unfold partL at hs
  simp only [List.mem_map, List.mem_range] at hs
  obtain ⟨j, hjt, rfl⟩ := hs
  unfold partF at hx
  by_cases hj : j < qs.length
  · have e : qs.getD j step00 = qs[j] := by simp [List.getD, hj]
    rw [if_pos hj, if_pos hj] at hx
    simp only [partT, List.mem_map, List.mem_range] at hx
    obtain ⟨q, hq, rfl⟩ := hx
    rw [e] at hq ⊢
    have hin := h.2 _ (List.getElem_mem hj) (qs[j].next.getD q 0) (by simp [List.getD, hq])
    split
    · rename_i hc
      have h1 := skT_succ hj hq
      rw [if_pos hc.2] at h1
      have h2 := skT_mono hj (t := q + 1) (u := qs[j].next.length) (by omega) (Nat.le_refl _)
      rw [← skK_succ hj, h1, List.length_append, List.length_singleton] at h2
      have h3 := skK_mono (qs := qs) (i := j + 1) (j := qs.length) (by omega) (Nat.le_refl _)
      omega
    · omega
  · rw [if_neg hj] at hx
    simp only [skipSt, List.mem_singleton] at hx
    have hx2 : x ∈ skK qs qs.length := by
      rw [hx, skT_zero]
      have hl : j - qs.length < (skK qs qs.length).length := by omega
      simp [List.getD, hl]
    obtain ⟨s, hs, hxs⟩ := skK_mem hx2
    have := h.2 s hs x hxs
    omega

def tidyQ (ss : List St) (rs : List Bool) : List St := partL (firstL (pruneK ss rs ss.length))

theorem tidy_ok {ss : List St} {rs : List Bool} (hok : okB ss = true) (hr : IsReach ss rs) (hl : (tidyQ ss rs).length ≤ 60) : okB (tidyQ ss rs) = true := by
  obtain ⟨f1, l1, _⟩ := prune_fit hok hr
  obtain ⟨f2, l2, _⟩ := first_fit f1 l1
  refine fitN_ok (part_shape (first_shape (prune_shape (ok_shape hok) hr.1) l1)) (part_fit f2 l2) ?_ hl
  unfold tidyQ
  rw [partL_len]
  omega

theorem tidy_len {ss : List St} {rs : List Bool} (hok : okB ss = true) (hr : IsReach ss rs) : (tidyQ ss rs).length ≤ 3 * ss.length + 3 := by
  obtain ⟨f1, l1, _⟩ := prune_fit hok hr
  obtain ⟨f2, l2, l3⟩ := first_fit f1 l1
  have h1 := pruneK_len hr.1 (Nat.le_refl ss.length)
  have h2 := placeN_le rs ss.length
  have h3 := skK_len f2.1 (firstL (pruneK ss rs ss.length)).length
  unfold tidyQ
  rw [partL_len]
  omega
end Go.Proofs.Ytemmjiiibcbiiaa
