/- How a program is made tidy, plainly: what cannot be come to left out; the first step freed; ways parted. How the first step is freed, plainly. How ways are parted, plainly; where ways of what is left lead. Where the ways of what is left lead: to steps of it. What is made tidy is ok, if it has no more steps than a program may have. -/
import Derived.Test.YtljlgffkhocgkaaDoorProgO
namespace Go.Proofs.YtljlgffkhocgkaaDoor

/-- How many of the first i can be come to. -/
def placeN (rs : List Bool) (i : Nat) : Nat := (rs.take i).count true

theorem placeN_zero (rs : List Bool) : placeN rs 0 = 0 := by simp [placeN]

theorem placeN_succ {rs : List Bool} {i : Nat} (hi : i < rs.length) : placeN rs (i + 1) = placeN rs i + if rs[i] = true then 1 else 0 := by
  unfold placeN
  rw [List.take_succ_eq_append_getElem hi, List.count_append, List.count_singleton]
  cases rs[i] <;> simp

theorem placeN_le (rs : List Bool) (i : Nat) : placeN rs i ≤ i := by
  unfold placeN
  have h1 : (rs.take i).count true ≤ (rs.take i).length := List.count_le_length
  have h2 : (rs.take i).length ≤ i := List.length_take_le _ _
  omega

def mapNext (f : Int → Int) (s : St) : St := { s with next := s.next.map f }

def placeI (rs : List Bool) (x : Int) : Int := (placeN rs x.toNat : Int)

def step00 : St := ⟨0, 0, 0, 0, 0, 0, 0, []⟩

/-- Of the first k steps those that can be come to. -/
def pruneK (ss : List St) (rs : List Bool) (k : Nat) : List St := ((List.range k).filter (fun i => rs.getD i false)).map (fun i => mapNext (placeI rs) (ss.getD i step00))

theorem pruneK_zero (ss : List St) (rs : List Bool) : pruneK ss rs 0 = [] := by simp [pruneK]

theorem pruneK_succ {ss : List St} {rs : List Bool} {k : Nat} (hk : k < ss.length) (hr : k < rs.length) : pruneK ss rs (k + 1) = pruneK ss rs k ++ if rs[k] = true then [mapNext (placeI rs) ss[k]] else [] := by
  unfold pruneK
  rw [List.range_succ, List.filter_append, List.map_append]
  congr 1
  have e : rs.getD k false = rs[k] := by simp [List.getD, hr]
  have e2 : ss.getD k step00 = ss[k] := by simp [List.getD, hk]
  cases h : rs[k]
  · simp only [List.filter_cons, e, h, List.filter_nil]
    rfl
  · simp only [List.filter_cons, e, h, List.filter_nil, if_true, List.map_cons, List.map_nil, e2]

theorem pruneK_len {ss : List St} {rs : List Bool} (hl : rs.length = ss.length) {k : Nat} (hk : k ≤ ss.length) : (pruneK ss rs k).length = placeN rs k := by
  induction k with
  | zero => simp [pruneK, placeN]
  | succ k ih =>
    rw [pruneK_succ (by omega) (by omega), placeN_succ (by omega), List.length_append, ih (by omega)]
    cases rs[k] <;> simp

theorem take_map_succ {zs : List Int} {t : Nat} (ht : t < zs.length) (f : Int → Int) : (zs.take (t + 1)).map f = (zs.take t).map f ++ [f (zs.getD t 0)] := by
  rw [List.take_succ_eq_append_getElem ht, List.map_append]
  have e : zs.getD t 0 = zs[t] := by simp [List.getD, ht]
  rw [e]; rfl
end Go.Proofs.YtljlgffkhocgkaaDoor
namespace Go.Proofs.YtljlgffkhocgkaaDoor

def skipSt (x : Int) : St := ⟨6, 0, 0, 0, 0, 0, 0, [x]⟩

/-- The first step at the end, a skip in its place. -/
def rotF (qs : List St) (j : Nat) : St := if j = 0 then skipSt (qs.length : Int) else qs.getD (if j = qs.length then 0 else j) step00

/-- What led to the first step leads to the end. -/
def endI (n : Nat) (x : Int) : Int := if x = 0 then (n : Int) else x

def firstF (qs : List St) (i j : Nat) : St := if 1 ≤ j ∧ j < i then mapNext (endI qs.length) (rotF qs j) else rotF qs j

def firstL (qs : List St) : List St := if ways qs 0 = 0 then qs else (List.range (qs.length + 1)).map (firstF qs (qs.length + 1))

theorem firstF_one {qs : List St} {s0 : St} (h : s0 = qs.getD 0 step00) (j : Nat) : firstF qs 1 j = if j = 0 then skipSt (qs.length : Int) else if j = qs.length then s0 else qs.getD j step00 := by
  unfold firstF rotF
  rw [if_neg (by omega)]
  by_cases e0 : j = 0
  · rw [if_pos e0, if_pos e0]
  · rw [if_neg e0, if_neg e0]
    by_cases e1 : j = qs.length
    · rw [if_pos e1, if_pos e1, h]
    · rw [if_neg e1, if_neg e1]

/-- The first t ways are turned. -/
def turnT (n : Nat) (zs : List Int) (t : Nat) : List Int := (zs.take t).map (endI n) ++ zs.drop t

theorem turnT_zero (n : Nat) (zs : List Int) : turnT n zs 0 = zs := by simp [turnT]
theorem turnT_all (n : Nat) (zs : List Int) : turnT n zs zs.length = zs.map (endI n) := by simp [turnT]
theorem turnT_len (n : Nat) (zs : List Int) (t : Nat) : (turnT n zs t).length = zs.length := by simp [turnT]; omega

theorem turnT_get {n : Nat} {zs : List Int} {t : Nat} (ht : t < zs.length) : (turnT n zs t)[t]? = some (zs.getD t 0) := by
  unfold turnT
  rw [List.getElem?_append_right (by simp; omega)]
  simp [List.getD, show min t zs.length = t by omega, ht]

theorem turnT_succ {n : Nat} {zs : List Int} {t : Nat} (ht : t < zs.length) : turnT n zs (t + 1) = (turnT n zs t).set t (endI n (zs.getD t 0)) := by
  unfold turnT
  have hl : ((zs.take t).map (endI n)).length = t := by simp; omega
  rw [List.set_append_right _ _ (by omega), hl, Nat.sub_self, take_map_succ ht, List.drop_eq_getElem_cons ht, List.set_cons_zero, List.append_assoc]
  rfl

theorem turnT_same {n : Nat} {zs : List Int} {t : Nat} (ht : t < zs.length) (h : zs.getD t 0 ≠ 0) : turnT n zs (t + 1) = turnT n zs t := by
  rw [turnT_succ ht]
  apply List.ext_getElem?
  intro i
  by_cases e : i = t
  · subst e
    rw [List.getElem?_set_self (by rw [turnT_len]; exact ht), turnT_get ht]
    simp only [endI, if_neg h]
  · rw [List.getElem?_set_ne (Ne.symm e)]
end Go.Proofs.YtljlgffkhocgkaaDoor
namespace Go.Proofs.YtljlgffkhocgkaaDoor

/-- A way that wants a skip: from none, to where ways meet. -/
def condB (qs : List St) (s : St) (x : Int) : Bool := decide (s.kind ≠ 6) && decide (1 < ways qs x)

/-- Where the skips of the first k steps lead. -/
def skK (qs : List St) (k : Nat) : List Int := ((qs.take k).map (fun s => s.next.filter (condB qs s))).flatten

def skT (qs : List St) (k t : Nat) : List Int := skK qs k ++ ((qs.getD k step00).next.take t).filter (condB qs (qs.getD k step00))

theorem skK_zero (qs : List St) : skK qs 0 = [] := by simp [skK]

theorem skT_zero (qs : List St) (k : Nat) : skT qs k 0 = skK qs k := by simp [skT]

theorem skK_succ {qs : List St} {k : Nat} (hk : k < qs.length) : skK qs (k + 1) = skT qs k qs[k].next.length := by
  unfold skT skK
  have e : qs.getD k step00 = qs[k] := by simp [List.getD, hk]
  rw [List.take_succ_eq_append_getElem hk, List.map_append, List.flatten_append, e, List.take_of_length_le (Nat.le_refl _)]
  simp

theorem filter_take {zs : List Int} {t : Nat} (ht : t < zs.length) (f : Int → Bool) : (zs.take (t + 1)).filter f = (zs.take t).filter f ++ if f (zs.getD t 0) = true then [zs.getD t 0] else [] := by
  rw [List.take_succ_eq_append_getElem ht, List.filter_append]
  have e : zs.getD t 0 = zs[t] := by simp [List.getD, ht]
  rw [e]
  cases h : f zs[t] <;> simp [h]

theorem skT_succ {qs : List St} {k t : Nat} (hk : k < qs.length) (ht : t < qs[k].next.length) : skT qs k (t + 1) = skT qs k t ++ if condB qs qs[k] (qs[k].next.getD t 0) = true then [qs[k].next.getD t 0] else [] := by
  unfold skT
  have e : qs.getD k step00 = qs[k] := by simp [List.getD, hk]
  rw [e, filter_take ht, List.append_assoc]

theorem skK_len {qs : List St} (h : ∀ s ∈ qs, s.next.length ≤ 2) (k : Nat) : (skK qs k).length ≤ 2 * k := by
  induction k with
  | zero => simp [skK]
  | succ k ih =>
    by_cases hk : k < qs.length
    · rw [skK_succ hk]
      unfold skT
      have e : qs.getD k step00 = qs[k] := by simp [List.getD, hk]
      rw [e, List.length_append]
      have h1 := h _ (List.getElem_mem hk)
      have h2 := List.length_filter_le (condB qs qs[k]) (qs[k].next.take qs[k].next.length)
      have h3 : (qs[k].next.take qs[k].next.length).length ≤ qs[k].next.length := List.length_take_le' _ _
      omega
    · have e : skK qs (k + 1) = skK qs k := by
        unfold skK
        rw [List.take_of_length_le (by omega), List.take_of_length_le (by omega)]
      rw [e]; omega

theorem skT_len {qs : List St} (h : ∀ s ∈ qs, s.next.length ≤ 2) {k t : Nat} (hk : k < qs.length) : (skT qs k t).length ≤ 2 * k + 2 := by
  unfold skT
  have e : qs.getD k step00 = qs[k] := by simp [List.getD, hk]
  rw [e, List.length_append]
  have h0 := skK_len h k
  have h1 := h _ (List.getElem_mem hk)
  have h2 := List.length_filter_le (condB qs qs[k]) (qs[k].next.take t)
  have h3 : (qs[k].next.take t).length ≤ qs[k].next.length := List.length_take_le' _ _
  omega

/-- The ways of step j, the first t parted. -/
def partT (qs : List St) (j t : Nat) : List Int := (List.range (qs.getD j step00).next.length).map (fun q => if q < t ∧ condB qs (qs.getD j step00) ((qs.getD j step00).next.getD q 0) = true then ((qs.length + (skT qs j q).length : Nat) : Int) else (qs.getD j step00).next.getD q 0)

/-- The program when it has come to step i, and there to way t. -/
def partF (qs : List St) (i t j : Nat) : St :=
  if j < qs.length then (if j < i then { qs.getD j step00 with next := partT qs j (qs.getD j step00).next.length } else if j = i then { qs.getD j step00 with next := partT qs j t } else qs.getD j step00)
  else skipSt ((skT qs i t).getD (j - qs.length) 0)

/-- All ways parted. -/
def partL (qs : List St) : List St := (List.range (qs.length + (skK qs qs.length).length)).map (partF qs qs.length 0)

theorem map_getD (zs : List Int) : (List.range zs.length).map (fun q => zs.getD q 0) = zs := by
  apply List.ext_getElem
  · simp
  · intro i h1 h2
    simp [h2]

theorem partT_zero (qs : List St) (j : Nat) : partT qs j 0 = (qs.getD j step00).next := by
  unfold partT
  have e : (fun q => if q < 0 ∧ condB qs (qs.getD j step00) ((qs.getD j step00).next.getD q 0) = true then ((qs.length + (skT qs j q).length : Nat) : Int) else (qs.getD j step00).next.getD q 0) = fun q => (qs.getD j step00).next.getD q 0 := by
    funext q
    rw [if_neg (by omega)]
  rw [e]
  exact map_getD _

theorem partT_len (qs : List St) (j t : Nat) : (partT qs j t).length = (qs.getD j step00).next.length := by simp [partT]

theorem partT_get {qs : List St} {j t : Nat} (h : t < (qs.getD j step00).next.length) : (partT qs j t)[t]? = some ((qs.getD j step00).next.getD t 0) := by
  unfold partT
  rw [List.getElem?_map, List.getElem?_range h, Option.map_some, if_neg (by omega)]

theorem partT_succ_yes {qs : List St} {j t : Nat} (h : t < (qs.getD j step00).next.length) (hc : condB qs (qs.getD j step00) ((qs.getD j step00).next.getD t 0) = true) :
    partT qs j (t + 1) = (partT qs j t).set t ((qs.length + (skT qs j t).length : Nat) : Int) := by
  apply List.ext_getElem?
  intro i
  by_cases hi : i < (qs.getD j step00).next.length
  · by_cases e : i = t
    · subst e
      rw [List.getElem?_set_self (by rw [partT_len]; exact hi)]
      unfold partT
      rw [List.getElem?_map, List.getElem?_range hi, Option.map_some, if_pos ⟨by omega, hc⟩]
    · rw [List.getElem?_set_ne (Ne.symm e)]
      unfold partT
      rw [List.getElem?_map, List.getElem?_map, List.getElem?_range hi, Option.map_some, Option.map_some]
      congr 1
      by_cases hlt : i < t
      · simp only [hlt, show i < t + 1 by omega, true_and]
      · simp only [hlt, show ¬ i < t + 1 by omega, false_and]
  · rw [List.getElem?_eq_none (by rw [partT_len]; omega), List.getElem?_eq_none (by rw [List.length_set, partT_len]; omega)]

theorem partT_succ_no {qs : List St} {j t : Nat} (hc : condB qs (qs.getD j step00) ((qs.getD j step00).next.getD t 0) = false) : partT qs j (t + 1) = partT qs j t := by
  unfold partT
  apply List.map_congr_left
  intro q hq
  by_cases e : q = t
  · subst e
    rw [if_neg (fun h => by have h9 := h.2; rw [hc] at h9; cases h9), if_neg (by omega)]
  · by_cases hlt : q < t
    · simp only [hlt, show q < t + 1 by omega, true_and]
    · simp only [hlt, show ¬ q < t + 1 by omega, false_and]

theorem condB_six {qs : List St} {s : St} (h : s.kind = 6) (x : Int) : condB qs s x = false := by simp [condB, h]

theorem partT_six {qs : List St} {j : Nat} (h : (qs.getD j step00).kind = 6) (t t' : Nat) : partT qs j t = partT qs j t' := by
  unfold partT
  apply List.map_congr_left
  intro q _
  rw [if_neg (fun g => by have h9 := g.2; rw [condB_six h] at h9; cases h9), if_neg (fun g => by have h9 := g.2; rw [condB_six h] at h9; cases h9)]

theorem skT_six {qs : List St} {k : Nat} (h : (qs.getD k step00).kind = 6) (t : Nat) : skT qs k t = skK qs k := by
  unfold skT
  have : ((qs.getD k step00).next.take t).filter (condB qs (qs.getD k step00)) = [] := by
    rw [List.filter_eq_nil_iff]
    intro x _
    rw [condB_six h]
    exact Bool.false_ne_true
  rw [this, List.append_nil]

/-- On to the next step. -/
theorem partF_next {qs : List St} {i : Nat} (hi : i < qs.length) (j : Nat) : partF qs (i + 1) 0 j = partF qs i (qs.getD i step00).next.length j := by
  have e : qs.getD i step00 = qs[i] := by simp [List.getD, hi]
  unfold partF
  by_cases hj : j < qs.length
  · rw [if_pos hj, if_pos hj]
    by_cases h1 : j < i
    · rw [if_pos h1, if_pos (by omega)]
    · by_cases h2 : j = i
      · subst h2
        rw [if_pos (by omega), if_neg (by omega), if_pos rfl]
      · rw [if_neg (by omega), if_neg h1, if_neg h2]
        by_cases h3 : j = i + 1
        · subst h3
          rw [if_pos rfl, partT_zero]
        · rw [if_neg h3]
  · rw [if_neg hj, if_neg hj, skT_zero, skK_succ hi, e]

theorem partF_start {qs : List St} {j : Nat} (hj : j < qs.length) : partF qs 0 0 j = qs.getD j step00 := by
  unfold partF
  rw [if_pos hj, if_neg (by omega)]
  by_cases h : j = 0
  · rw [if_pos h, partT_zero]
  · rw [if_neg h]

theorem partF_yes {qs : List St} {i t : Nat} (hi : i < qs.length) (ht : t < (qs.getD i step00).next.length) (hc : condB qs (qs.getD i step00) ((qs.getD i step00).next.getD t 0) = true) (j : Nat) :
    partF qs i (t + 1) j = if j = qs.length + (skT qs i t).length then skipSt ((qs.getD i step00).next.getD t 0) else if j = i then { partF qs i t i with next := (partF qs i t i).next.set t ((qs.length + (skT qs i t).length : Nat) : Int) } else partF qs i t j := by
  have e : qs.getD i step00 = qs[i] := by simp [List.getD, hi]
  have hsk : skT qs i (t + 1) = skT qs i t ++ [(qs.getD i step00).next.getD t 0] := by
    rw [e] at ht hc ⊢
    rw [skT_succ hi ht, if_pos hc]
  by_cases hj : j < qs.length
  · rw [if_neg (by omega)]
    by_cases h2 : j = i
    · subst h2
      rw [if_pos rfl]
      unfold partF
      rw [if_pos hj, if_pos hj, if_neg (by omega), if_pos rfl, if_neg (by omega), if_pos rfl, partT_succ_yes ht hc]
    · rw [if_neg h2]
      unfold partF
      rw [if_pos hj, if_pos hj]
      by_cases h1 : j < i
      · rw [if_pos h1, if_pos h1]
      · rw [if_neg h1, if_neg h1, if_neg h2, if_neg h2]
  · by_cases hN : j = qs.length + (skT qs i t).length
    · rw [if_pos hN]
      unfold partF
      rw [if_neg hj, hsk]
      congr 1
      subst hN
      simp [List.getD]
    · rw [if_neg hN, if_neg (by omega)]
      unfold partF
      rw [if_neg hj, if_neg hj, hsk]
      congr 1
      by_cases hlt : j - qs.length < (skT qs i t).length
      · simp [List.getD, List.getElem?_append_left hlt]
      · simp only [List.getD]
        rw [List.getElem?_eq_none (by simp; omega), List.getElem?_eq_none (by omega)]

theorem partF_no {qs : List St} {i t : Nat} (hi : i < qs.length) (ht : t < (qs.getD i step00).next.length) (hc : condB qs (qs.getD i step00) ((qs.getD i step00).next.getD t 0) = false) (j : Nat) : partF qs i (t + 1) j = partF qs i t j ∧ skT qs i (t + 1) = skT qs i t := by
  have e : qs.getD i step00 = qs[i] := by simp [List.getD, hi]
  have hsk : skT qs i (t + 1) = skT qs i t := by
    rw [e] at ht hc
    rw [skT_succ hi ht, if_neg (by rw [hc]; exact Bool.false_ne_true), List.append_nil]
  refine ⟨?_, hsk⟩
  unfold partF
  rw [hsk]
  by_cases h2 : j = i
  · subst h2
    rw [partT_succ_no hc]
  · rw [if_neg h2, if_neg h2]
end Go.Proofs.YtljlgffkhocgkaaDoor
namespace Go.Proofs.YtljlgffkhocgkaaDoor

/-- Ways lead to steps; no step has more than two. -/
def FitN (qs : List St) : Prop := (∀ s ∈ qs, s.next.length ≤ 2) ∧ ∀ s ∈ qs, ∀ x ∈ s.next, 0 ≤ x ∧ x < (qs.length : Int)

theorem ok_fitN {ss : List St} (h : okB ss = true) : FitN ss := by
  refine ⟨(ok_fit h).two, fun s hs x hx => ?_⟩
  obtain ⟨i, hi, rfl⟩ := List.mem_iff_getElem.1 hs
  obtain ⟨t, ht, e⟩ := mem_getD' hx
  obtain ⟨m, hm, hmn, _⟩ := ok_next h (List.getElem?_eq_getElem hi) ht
  rw [hm] at e
  omega

theorem placeN_mono {rs : List Bool} {i j : Nat} (hij : i ≤ j) (hj : j ≤ rs.length) : placeN rs i ≤ placeN rs j := by
  induction j with
  | zero => have : i = 0 := by omega
            subst this; exact Nat.le_refl _
  | succ j ih =>
    by_cases e : i = j + 1
    · subst e; exact Nat.le_refl _
    · have := ih (by omega) (by omega)
      rw [placeN_succ (by omega)]
      omega

theorem pruneK_mem {ss : List St} {rs : List Bool} {k : Nat} (hk : k ≤ ss.length) (hr : rs.length = ss.length) {s : St} (h : s ∈ pruneK ss rs k) : ∃ (i : Nat) (hi : i < ss.length), i < k ∧ rs[i]? = some true ∧ s = mapNext (placeI rs) ss[i] := by
  unfold pruneK at h
  simp only [List.mem_map, List.mem_filter, List.mem_range] at h
  obtain ⟨i, ⟨h1, h2⟩, h3⟩ := h
  have hi : i < ss.length := by omega
  refine ⟨i, hi, h1, ?_, ?_⟩
  · have e : rs.getD i false = rs[i] := by simp [List.getD, show i < rs.length by omega]
    rw [e] at h2
    rw [List.getElem?_eq_getElem (by omega), h2]
  · have e : ss.getD i step00 = ss[i] := by simp [List.getD, hi]
    rw [← h3, e]

theorem prune_fit {ss : List St} {rs : List Bool} (hok : okB ss = true) (hr : IsReach ss rs) : FitN (pruneK ss rs ss.length) ∧ 0 < (pruneK ss rs ss.length).length ∧ (pruneK ss rs ss.length).length ≤ 60 := by
  have hl := hr.1
  obtain ⟨n1, n2⟩ := ok_len hok
  have hlen := pruneK_len hl (Nat.le_refl ss.length)
  refine ⟨⟨fun s hs => ?_, fun s hs x hx => ?_⟩, ?_, ?_⟩
  · obtain ⟨i, hi, _, _, rfl⟩ := pruneK_mem (Nat.le_refl _) hl hs
    have := (ok_fit hok).two _ (List.getElem_mem hi)
    simpa [mapNext] using this
  · obtain ⟨i, hi, _, hri, rfl⟩ := pruneK_mem (Nat.le_refl _) hl hs
    simp only [mapNext, List.mem_map] at hx
    obtain ⟨y, hy, rfl⟩ := hx
    obtain ⟨t, ht, e⟩ := mem_getD' hy
    obtain ⟨m, hm, hmn, hmm⟩ := ok_next hok (List.getElem?_eq_getElem hi) ht
    rw [hm] at e
    subst e
    have hre : Reaches ss m := Reaches.on ((hr.2 i hi).1 hri) (List.getElem?_eq_getElem hi) hmm
    have hrm := (hr.2 m hmn).2 hre
    have hmr : m < rs.length := by omega
    rw [List.getElem?_eq_getElem hmr] at hrm
    have hs1 := placeN_succ hmr
    have : rs[m] = true := by simpa using hrm
    rw [if_pos this] at hs1
    have hs2 := placeN_mono (rs := rs) (i := m + 1) (j := ss.length) (by omega) (by omega)
    rw [hlen]
    unfold placeI
    simp only [Int.toNat_natCast]
    omega
  · rw [hlen]
    have hr0 := (hr.2 0 (by omega)).2 (Reaches.first ss)
    have h0 : 0 < rs.length := by omega
    rw [List.getElem?_eq_getElem h0] at hr0
    have : rs[0] = true := by simpa using hr0
    have hs1 := placeN_succ h0
    rw [if_pos this] at hs1
    have hs2 := placeN_mono (rs := rs) (i := 0 + 1) (j := ss.length) (by omega) (by omega)
    omega
  · rw [hlen]
    have := placeN_le rs ss.length
    omega

theorem first_fit {qs : List St} (h : FitN qs) (h0 : 0 < qs.length) : FitN (firstL qs) ∧ 0 < (firstL qs).length ∧ (firstL qs).length ≤ qs.length + 1 := by
  unfold firstL
  by_cases hw : ways qs 0 = 0
  · rw [if_pos hw]
    exact ⟨h, h0, by omega⟩
  · rw [if_neg hw]
    have hmem : ∀ s, s ∈ (List.range (qs.length + 1)).map (firstF qs (qs.length + 1)) → s = skipSt (qs.length : Int) ∨ ∃ q ∈ qs, s = mapNext (endI qs.length) q := by
      intro s hs
      simp only [List.mem_map, List.mem_range] at hs
      obtain ⟨j, hj, rfl⟩ := hs
      unfold firstF
      by_cases e : j = 0
      · left
        rw [if_neg (by omega)]
        unfold rotF
        rw [if_pos e]
      · right
        rw [if_pos (by omega)]
        unfold rotF
        rw [if_neg e]
        have hlt : (if j = qs.length then 0 else j) < qs.length := by split <;> omega
        have e2 : qs.getD (if j = qs.length then 0 else j) step00 = qs[if j = qs.length then 0 else j] := by simp [List.getD, hlt]
        rw [e2]
        exact ⟨_, List.getElem_mem hlt, rfl⟩
    refine ⟨⟨fun s hs => ?_, fun s hs x hx => ?_⟩, by simp, by simp⟩
    · rcases hmem s hs with rfl | ⟨q, hq, rfl⟩
      · simp [skipSt]
      · have := h.1 q hq
        simpa [mapNext] using this
    · rcases hmem s hs with rfl | ⟨q, hq, rfl⟩
      · simp [skipSt] at hx
        subst hx
        simp
        omega
      · simp only [mapNext, List.mem_map] at hx
        obtain ⟨y, hy, rfl⟩ := hx
        have := h.2 q hq y hy
        unfold endI
        simp only [List.length_map, List.length_range]
        split <;> omega

theorem partF_self {qs : List St} {k t : Nat} (hk : k < qs.length) : partF qs k t k = { qs[k] with next := partT qs k t } := by
  have e : qs.getD k step00 = qs[k] := by simp [List.getD, hk]
  unfold partF
  rw [if_pos hk, if_neg (by omega), if_pos rfl, e]

theorem part_six {qs : List St} {k : Nat} (hk : k < qs.length) (h : qs[k].kind = 6) (t : Nat) : (∀ j, partF qs (k + 1) 0 j = partF qs k t j) ∧ skK qs (k + 1) = skT qs k t := by
  have e : qs.getD k step00 = qs[k] := by simp [List.getD, hk]
  have h' : (qs.getD k step00).kind = 6 := by rw [e]; exact h
  refine ⟨fun j => ?_, ?_⟩
  · rw [partF_next hk]
    unfold partF
    rw [skT_six h', skT_six h']
    by_cases h2 : j = k
    · subst h2
      rw [partT_six h' (qs.getD j step00).next.length t]
    · rw [if_neg h2, if_neg h2]
  · rw [skK_succ hk, skT_six h', skT_six h']

theorem part_two {qs : List St} (h : ∀ s ∈ qs, s.next.length ≤ 2) : ∀ s ∈ partL qs, s.next.length ≤ 2 := by
  intro s hs
  unfold partL at hs
  simp only [List.mem_map, List.mem_range] at hs
  obtain ⟨j, _, rfl⟩ := hs
  unfold partF
  by_cases hj : j < qs.length
  · have e : qs.getD j step00 = qs[j] := by simp [List.getD, hj]
    have h1 := h _ (List.getElem_mem hj)
    rw [if_pos hj, if_pos hj]
    simp only [partT_len, e]
    exact h1
  · rw [if_neg hj]
    simp [skipSt]
end Go.Proofs.YtljlgffkhocgkaaDoor
namespace Go.Proofs.YtljlgffkhocgkaaDoor

/-- As many ways as a step of its kind has, and of the rest what it may have. -/
def ShapeL (qs : List St) : Prop := ∀ s ∈ qs, restB s = true ∧ (s.next.length : Int) = many s.kind

theorem fitN_ok {qs : List St} (h : ShapeL qs) (f : FitN qs) (h1 : 1 ≤ qs.length) (h2 : qs.length ≤ 60) : okB qs = true := by
  unfold okB
  simp only [Bool.and_eq_true, decide_eq_true_eq, List.all_eq_true]
  refine ⟨⟨h1, h2⟩, fun s hs => ?_⟩
  unfold stepB
  simp only [Bool.and_eq_true, decide_eq_true_eq, List.all_eq_true]
  refine ⟨⟨(h s hs).2, fun x hx => ?_⟩, (h s hs).1⟩
  have := f.2 s hs x hx
  simp [inB]
  omega

theorem ok_shape {ss : List St} (h : okB ss = true) : ShapeL ss := by
  intro s hs
  unfold okB at h
  simp only [Bool.and_eq_true, decide_eq_true_eq, List.all_eq_true] at h
  have := h.2 s hs
  unfold stepB at this
  simp only [Bool.and_eq_true, decide_eq_true_eq] at this
  exact ⟨this.2, this.1.1⟩

theorem shape_next {s : St} {zs : List Int} (hl : zs.length = s.next.length) (h : restB s = true ∧ (s.next.length : Int) = many s.kind) : restB { s with next := zs } = true ∧ (({ s with next := zs } : St).next.length : Int) = many ({ s with next := zs } : St).kind := by
  refine ⟨h.1, ?_⟩
  show (zs.length : Int) = many s.kind
  rw [hl]
  exact h.2

theorem shape_skip (x : Int) : restB (skipSt x) = true ∧ ((skipSt x).next.length : Int) = many (skipSt x).kind := ⟨rfl, rfl⟩

theorem prune_shape {ss : List St} {rs : List Bool} (h : ShapeL ss) (hl : rs.length = ss.length) : ShapeL (pruneK ss rs ss.length) := by
  intro s hs
  obtain ⟨i, hi, _, _, rfl⟩ := pruneK_mem (Nat.le_refl _) hl hs
  exact shape_next (by simp) (h _ (List.getElem_mem hi))

theorem first_shape {qs : List St} (h : ShapeL qs) (h0 : 0 < qs.length) : ShapeL (firstL qs) := by
  unfold firstL
  by_cases hw : ways qs 0 = 0
  · rw [if_pos hw]
    exact h
  · rw [if_neg hw]
    intro s hs
    simp only [List.mem_map, List.mem_range] at hs
    obtain ⟨j, hj, rfl⟩ := hs
    unfold firstF
    by_cases e : j = 0
    · rw [if_neg (by omega)]
      unfold rotF
      rw [if_pos e]
      exact shape_skip _
    · rw [if_pos (by omega)]
      unfold rotF
      rw [if_neg e]
      have hlt : (if j = qs.length then 0 else j) < qs.length := by split <;> omega
      have e2 : qs.getD (if j = qs.length then 0 else j) step00 = qs[if j = qs.length then 0 else j] := by simp [List.getD, hlt]
      rw [e2]
      exact shape_next (by simp) (h _ (List.getElem_mem hlt))

theorem part_shape {qs : List St} (h : ShapeL qs) : ShapeL (partL qs) := by
  intro s hs
  unfold partL at hs
  simp only [List.mem_map, List.mem_range] at hs
  obtain ⟨j, _, rfl⟩ := hs
  unfold partF
  by_cases hj : j < qs.length
  · have e : qs.getD j step00 = qs[j] := by simp [List.getD, hj]
    rw [if_pos hj, if_pos hj]
    exact shape_next (by rw [partT_len]) (by rw [e]; exact h _ (List.getElem_mem hj))
  · rw [if_neg hj]
    exact shape_skip _

theorem skK_mono {qs : List St} {i j : Nat} (hij : i ≤ j) (hj : j ≤ qs.length) : (skK qs i).length ≤ (skK qs j).length := by
  induction j with
  | zero => have : i = 0 := by omega
            subst this; exact Nat.le_refl _
  | succ j ih =>
    by_cases e : i = j + 1
    · subst e; exact Nat.le_refl _
    · have := ih (by omega) (by omega)
      rw [skK_succ (by omega)]
      unfold skT
      rw [List.length_append]
      omega

theorem skT_mono {qs : List St} {k : Nat} (hk : k < qs.length) {t u : Nat} (htu : t ≤ u) (hu : u ≤ qs[k].next.length) : (skT qs k t).length ≤ (skT qs k u).length := by
  induction u with
  | zero => have : t = 0 := by omega
            subst this; exact Nat.le_refl _
  | succ u ih =>
    by_cases e : t = u + 1
    · subst e; exact Nat.le_refl _
    · have := ih (by omega) (by omega)
      rw [skT_succ hk (by omega), List.length_append]
      omega

theorem skK_mem {qs : List St} {k : Nat} {x : Int} (h : x ∈ skK qs k) : ∃ s ∈ qs, x ∈ s.next := by
  unfold skK at h
  simp only [List.mem_flatten, List.mem_map] at h
  obtain ⟨l, ⟨s, hs, rfl⟩, hx⟩ := h
  exact ⟨s, List.mem_of_mem_take hs, (List.mem_filter.1 hx).1⟩

theorem partL_len (qs : List St) : (partL qs).length = qs.length + (skK qs qs.length).length := by simp [partL]

theorem part_fit {qs : List St} (h : FitN qs) (_h0 : 0 < qs.length) : FitN (partL qs) := by
  refine ⟨part_two h.1, fun s hs x hx => ?_⟩
  rw [partL_len]
  unfold partL at hs
  simp only [List.mem_map, List.mem_range] at hs
  obtain ⟨j, hjt, rfl⟩ := hs
  unfold partF at hx
  by_cases hj : j < qs.length
  · have e : qs.getD j step00 = qs[j] := by simp [List.getD, hj]
    rw [if_pos hj, if_pos hj] at hx
    simp only [partT, List.mem_map, List.mem_range] at hx
    obtain ⟨q, hq, rfl⟩ := hx
    rw [e] at hq ⊢
    have hin := h.2 _ (List.getElem_mem hj) (qs[j].next.getD q 0) (by simp [List.getD, hq])
    split
    · rename_i hc
      have h1 := skT_succ hj hq
      rw [if_pos hc.2] at h1
      have h2 := skT_mono hj (t := q + 1) (u := qs[j].next.length) (by omega) (Nat.le_refl _)
      rw [← skK_succ hj, h1, List.length_append, List.length_singleton] at h2
      have h3 := skK_mono (qs := qs) (i := j + 1) (j := qs.length) (by omega) (Nat.le_refl _)
      omega
    · omega
  · rw [if_neg hj] at hx
    simp only [skipSt, List.mem_singleton] at hx
    have hx2 : x ∈ skK qs qs.length := by
      rw [hx, skT_zero]
      have hl : j - qs.length < (skK qs qs.length).length := by omega
      simp [List.getD, hl]
    obtain ⟨s, hs, hxs⟩ := skK_mem hx2
    have := h.2 s hs x hxs
    omega

def tidyQ (ss : List St) (rs : List Bool) : List St := partL (firstL (pruneK ss rs ss.length))

theorem tidy_ok {ss : List St} {rs : List Bool} (hok : okB ss = true) (hr : IsReach ss rs) (hl : (tidyQ ss rs).length ≤ 60) : okB (tidyQ ss rs) = true := by
  obtain ⟨f1, l1, _⟩ := prune_fit hok hr
  obtain ⟨f2, l2, _⟩ := first_fit f1 l1
  refine fitN_ok (part_shape (first_shape (prune_shape (ok_shape hok) hr.1) l1)) (part_fit f2 l2) ?_ hl
  unfold tidyQ
  rw [partL_len]
  omega

theorem tidy_len {ss : List St} {rs : List Bool} (hok : okB ss = true) (hr : IsReach ss rs) : (tidyQ ss rs).length ≤ 3 * ss.length + 3 := by
  obtain ⟨f1, l1, _⟩ := prune_fit hok hr
  obtain ⟨f2, l2, l3⟩ := first_fit f1 l1
  have h1 := pruneK_len hr.1 (Nat.le_refl ss.length)
  have h2 := placeN_le rs ss.length
  have h3 := skK_len f2.1 (firstL (pruneK ss rs ss.length)).length
  unfold tidyQ
  rw [partL_len]
  omega
end Go.Proofs.YtljlgffkhocgkaaDoor
