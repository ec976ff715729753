/- Where the ways of what is left lead: to steps of it. -/
import Derived.Test.YtemmjiiibcbiiaaTidy4
namespace Go.Proofs.Ytemmjiiibcbiiaa

/-- Ways lead to steps; no step has more than two. -/
def FitN (qs : List St) : Prop := (∀ s ∈ qs, s.next.length ≤ 2) ∧ ∀ s ∈ qs, ∀ x ∈ s.next, 0 ≤ x ∧ x < (qs.length : Int)

theorem ok_fitN {ss : List St} (h : okB ss = true) : FitN ss := by
  refine ⟨(ok_fit h).two, fun s hs x hx => ?_⟩
  obtain ⟨i, hi, rfl⟩ := List.mem_iff_getElem.1 hs
  obtain ⟨t, ht, e⟩ := mem_getD' hx
  obtain ⟨m, hm, hmn, _⟩ := ok_next h (List.getElem?_eq_getElem hi) ht
  rw [hm] at e
  omega

theorem placeN_mono {rs : List Bool} {i j : Nat} (hij : i ≤ j) (hj : j ≤ rs.length) : placeN rs i ≤ placeN rs j := by
  induction j with
  | zero => have : i = 0 := by omega
            subst this; exact Nat.le_refl _
  | succ j ih =>
    by_cases e : i = j + 1
    · subst e; exact Nat.le_refl _
    · have := ih (by omega) (by omega)
      rw [placeN_succ (by omega)]
      omega

theorem pruneK_mem {ss : List St} {rs : List Bool} {k : Nat} (hk : k ≤ ss.length) (hr : rs.length = ss.length) {s : St} (h : s ∈ pruneK ss rs k) : ∃ (i : Nat) (hi : i < ss.length), i < k ∧ rs[i]? = some true ∧ s = mapNext (placeI rs) ss[i] := by
  unfold pruneK at h
  simp only [List.mem_map, List.mem_filter, List.mem_range] at h
  obtain ⟨i, ⟨h1, h2⟩, h3⟩ := h
  have hi : i < ss.length := by omega
  refine ⟨i, hi, h1, ?_, ?_⟩
  · have e : rs.getD i false = rs[i] := by simp [List.getD, show i < rs.length by omega]
    rw [e] at h2
    rw [List.getElem?_eq_getElem (by omega), h2]
  · have e : ss.getD i step00 = ss[i] := by simp [List.getD, hi]
    rw [← h3, e]

theorem prune_fit {ss : List St} {rs : List Bool} (hok : okB ss = true) (hr : IsReach ss rs) : FitN (pruneK ss rs ss.length) ∧ 0 < (pruneK ss rs ss.length).length ∧ (pruneK ss rs ss.length).length ≤ 60 := by
  have hl := hr.1
  obtain ⟨n1, n2⟩ := ok_len hok
  have hlen := pruneK_len hl (Nat.le_refl ss.length)
  refine ⟨⟨fun s hs => ?_, fun s hs x hx => ?_⟩, ?_, ?_⟩
  · obtain ⟨i, hi, _, _, rfl⟩ := pruneK_mem (Nat.le_refl _) hl hs
    have := (ok_fit hok).two _ (List.getElem_mem hi)
    simpa [mapNext] using this
  · obtain ⟨i, hi, _, hri, rfl⟩ := pruneK_mem (Nat.le_refl _) hl hs
    simp only [mapNext, List.mem_map] at hx
    obtain ⟨y, hy, rfl⟩ := hx
    obtain ⟨t, ht, e⟩ := mem_getD' hy
    obtain ⟨m, hm, hmn, hmm⟩ := ok_next hok (List.getElem?_eq_getElem hi) ht
    rw [hm] at e
    subst e
    have hre : Reaches ss m := Reaches.on ((hr.2 i hi).1 hri) (List.getElem?_eq_getElem hi) hmm
    have hrm := (hr.2 m hmn).2 hre
    have hmr : m < rs.length := by omega
    rw [List.getElem?_eq_getElem hmr] at hrm
    have hs1 := placeN_succ hmr
    have : rs[m] = true := by simpa using hrm
    rw [if_pos this] at hs1
    have hs2 := placeN_mono (rs := rs) (i := m + 1) (j := ss.length) (by omega) (by omega)
    rw [hlen]
    unfold placeI
    simp only [Int.toNat_natCast]
    omega
  · rw [hlen]
    have hr0 := (hr.2 0 (by omega)).2 (Reaches.first ss)
    have h0 : 0 < rs.length := by omega
    rw [List.getElem?_eq_getElem h0] at hr0
    have : rs[0] = true := by simpa using hr0
    have hs1 := placeN_succ h0
    rw [if_pos this] at hs1
    have hs2 := placeN_mono (rs := rs) (i := 0 + 1) (j := ss.length) (by omega) (by omega)
    omega
  · rw [hlen]
    have := placeN_le rs ss.length
    omega

theorem first_fit {qs : List St} (h : FitN qs) (h0 : 0 < qs.length) : FitN (firstL qs) ∧ 0 < (firstL qs).length ∧ (firstL qs).length ≤ qs.length + 1 := by
  unfold firstL
  by_cases hw : ways qs 0 = 0
  · rw [if_pos hw]
    exact ⟨h, h0, by omega⟩
  · rw [if_neg hw]
    have hmem : ∀ s, s ∈ (List.range (qs.length + 1)).map (firstF qs (qs.length + 1)) → s = skipSt (qs.length : Int) ∨ ∃ q ∈ qs, s = mapNext (endI qs.length) q := by
      intro s hs
      simp only [List.mem_map, List.mem_range] at hs
      obtain ⟨j, hj, rfl⟩ := hs
      unfold firstF
      by_cases e : j = 0
      · left
        rw [if_neg (by omega)]
        unfold rotF
        rw [if_pos e]
      · right
        rw [if_pos (by omega)]
        unfold rotF
        rw [if_neg e]
        have hlt : (if j = qs.length then 0 else j) < qs.length := by split <;> omega
        have e2 : qs.getD (if j = qs.length then 0 else j) step00 = qs[if j = qs.length then 0 else j] := by simp [List.getD, hlt]
        rw [e2]
        exact ⟨_, List.getElem_mem hlt, rfl⟩
    refine ⟨⟨fun s hs => ?_, fun s hs x hx => ?_⟩, by simp, by simp⟩
    · rcases hmem s hs with rfl | ⟨q, hq, rfl⟩
      · simp [skipSt]
      · have := h.1 q hq
        simpa [mapNext] using this
    · rcases hmem s hs with rfl | ⟨q, hq, rfl⟩
      · simp [skipSt] at hx
        subst hx
        simp
        omega
      · simp only [mapNext, List.mem_map] at hx
        obtain ⟨y, hy, rfl⟩ := hx
        have := h.2 q hq y hy
        unfold endI
        simp only [List.length_map, List.length_range]
        split <;> omega

theorem partF_self {qs : List St} {k t : Nat} (hk : k < qs.length) : partF qs k t k = { qs[k] with next := partT qs k t } := by
  have e : qs.getD k step00 = qs[k] := by simp [List.getD, hk]
  unfold partF
  rw [if_pos hk, if_neg (by omega), if_pos rfl, e]

theorem part_six {qs : List St} {k : Nat} (hk : k < qs.length) (h : qs[k].kind = 6) (t : Nat) : (∀ j, partF qs (k + 1) 0 j = partF qs k t j) ∧ skK qs (k + 1) = skT qs k t := by
  have e : qs.getD k step00 = qs[k] := by simp [List.getD, hk]
  have h' : (qs.getD k step00).kind = 6 := by rw [e]; exact h
  refine ⟨fun j => ?_, ?_⟩
  · rw [partF_next hk]
    unfold partF
    rw [skT_six h', skT_six h']
    by_cases h2 : j = k
    · subst h2
      rw [partT_six h' (qs.getD j step00).next.length t]
    · rw [if_neg h2, if_neg h2]
  · rw [skK_succ hk, skT_six h', skT_six h']

theorem part_two {qs : List St} (h : ∀ s ∈ qs, s.next.length ≤ 2) : ∀ s ∈ partL qs, s.next.length ≤ 2 := by
  intro s hs
  unfold partL at hs
  simp only [List.mem_map, List.mem_range] at hs
  obtain ⟨j, _, rfl⟩ := hs
  unfold partF
  by_cases hj : j < qs.length
  · have e : qs.getD j step00 = qs[j] := by simp [List.getD, hj]
    have h1 := h _ (List.getElem_mem hj)
    rw [if_pos hj, if_pos hj]
    simp only [partT_len, e]
    exact h1
  · rw [if_neg hj]
    simp [skipSt]
end Go.Proofs.Ytemmjiiibcbiiaa
