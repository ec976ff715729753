/- How a program is made tidy, plainly: what cannot be come to left out; the first step freed; ways parted. How the first step is freed, plainly. -/
import Derived.Test.YtnlcdecokpdkpaaDoorProgO
namespace Go.Proofs.YtnlcdecokpdkpaaDoor

/-- How many of the first i can be come to. -/
def placeN (rs : List Bool) (i : Nat) : Nat := (rs.take i).count true

theorem placeN_zero (rs : List Bool) : placeN rs 0 = 0 := by simp [placeN]

theorem placeN_succ {rs : List Bool} {i : Nat} (hi : i < rs.length) : placeN rs (i + 1) = placeN rs i + if rs[i] = true then 1 else 0 := by
  unfold placeN
  rw [List.take_succ_eq_append_getElem hi, List.count_append, List.count_singleton]
  cases rs[i] <;> simp

theorem placeN_le (rs : List Bool) (i : Nat) : placeN rs i ≤ i := by
  unfold placeN
  have h1 : (rs.take i).count true ≤ (rs.take i).length := List.count_le_length
  have h2 : (rs.take i).length ≤ i := List.length_take_le _ _
  omega

def mapNext (f : Int → Int) (s : St) : St := { s with next := s.next.map f }

def placeI (rs : List Bool) (x : Int) : Int := (placeN rs x.toNat : Int)

def step00 : St := ⟨0, 0, 0, 0, 0, 0, 0, []⟩

/-- Of the first k steps those that can be come to. -/
def pruneK (ss : List St) (rs : List Bool) (k : Nat) : List St := ((List.range k).filter (fun i => rs.getD i false)).map (fun i => mapNext (placeI rs) (ss.getD i step00))

theorem pruneK_zero (ss : List St) (rs : List Bool) : pruneK ss rs 0 = [] := by simp [pruneK]

theorem pruneK_succ {ss : List St} {rs : List Bool} {k : Nat} (hk : k < ss.length) (hr : k < rs.length) : pruneK ss rs (k + 1) = pruneK ss rs k ++ if rs[k] = true then [mapNext (placeI rs) ss[k]] else [] := by
  unfold pruneK
  rw [List.range_succ, List.filter_append, List.map_append]
  congr 1
  have e : rs.getD k false = rs[k] := by simp [List.getD, hr]
  have e2 : ss.getD k step00 = ss[k] := by simp [List.getD, hk]
  cases h : rs[k]
  · simp only [List.filter_cons, e, h, List.filter_nil]
    rfl
  · simp only [List.filter_cons, e, h, List.filter_nil, if_true, List.map_cons, List.map_nil, e2]

theorem pruneK_len {ss : List St} {rs : List Bool} (hl : rs.length = ss.length) {k : Nat} (hk : k ≤ ss.length) : (pruneK ss rs k).length = placeN rs k := by
  induction k with
  | zero => simp [pruneK, placeN]
  | succ k ih =>
    rw [pruneK_succ (by omega) (by omega), placeN_succ (by omega), List.length_append, ih (by omega)]
    cases rs[k] <;> simp

theorem take_map_succ {zs : List Int} {t : Nat} (ht : t < zs.length) (f : Int → Int) : (zs.take (t + 1)).map f = (zs.take t).map f ++ [f (zs.getD t 0)] := by
  rw [List.take_succ_eq_append_getElem ht, List.map_append]
  have e : zs.getD t 0 = zs[t] := by simp [List.getD, ht]
  rw [e]; rfl
end Go.Proofs.YtnlcdecokpdkpaaDoor
namespace Go.Proofs.YtnlcdecokpdkpaaDoor

def skipSt (x : Int) : St := ⟨6, 0, 0, 0, 0, 0, 0, [x]⟩

/-- The first step at the end, a skip in its place. -/
def rotF (qs : List St) (j : Nat) : St := if j = 0 then skipSt (qs.length : Int) else qs.getD (if j = qs.length then 0 else j) step00

/-- What led to the first step leads to the end. -/
def endI (n : Nat) (x : Int) : Int := if x = 0 then (n : Int) else x

def firstF (qs : List St) (i j : Nat) : St := if 1 ≤ j ∧ j < i then mapNext (endI qs.length) (rotF qs j) else rotF qs j

def firstL (qs : List St) : List St := if ways qs 0 = 0 then qs else (List.range (qs.length + 1)).map (firstF qs (qs.length + 1))

theorem firstF_one {qs : List St} {s0 : St} (h : s0 = qs.getD 0 step00) (j : Nat) : firstF qs 1 j = if j = 0 then skipSt (qs.length : Int) else if j = qs.length then s0 else qs.getD j step00 := by
  unfold firstF rotF
  rw [if_neg (by omega)]
  by_cases e0 : j = 0
  · rw [if_pos e0, if_pos e0]
  · rw [if_neg e0, if_neg e0]
    by_cases e1 : j = qs.length
    · rw [if_pos e1, if_pos e1, h]
    · rw [if_neg e1, if_neg e1]

/-- The first t ways are turned. -/
def turnT (n : Nat) (zs : List Int) (t : Nat) : List Int := (zs.take t).map (endI n) ++ zs.drop t

theorem turnT_zero (n : Nat) (zs : List Int) : turnT n zs 0 = zs := by simp [turnT]
theorem turnT_all (n : Nat) (zs : List Int) : turnT n zs zs.length = zs.map (endI n) := by simp [turnT]
theorem turnT_len (n : Nat) (zs : List Int) (t : Nat) : (turnT n zs t).length = zs.length := by simp [turnT]; omega

theorem turnT_get {n : Nat} {zs : List Int} {t : Nat} (ht : t < zs.length) : (turnT n zs t)[t]? = some (zs.getD t 0) := by
  unfold turnT
  rw [List.getElem?_append_right (by simp; omega)]
  simp [List.getD, show min t zs.length = t by omega, ht]

theorem turnT_succ {n : Nat} {zs : List Int} {t : Nat} (ht : t < zs.length) : turnT n zs (t + 1) = (turnT n zs t).set t (endI n (zs.getD t 0)) := by
  unfold turnT
  have hl : ((zs.take t).map (endI n)).length = t := by simp; omega
  rw [List.set_append_right _ _ (by omega), hl, Nat.sub_self, take_map_succ ht, List.drop_eq_getElem_cons ht, List.set_cons_zero, List.append_assoc]
  rfl

theorem turnT_same {n : Nat} {zs : List Int} {t : Nat} (ht : t < zs.length) (h : zs.getD t 0 ≠ 0) : turnT n zs (t + 1) = turnT n zs t := by
  rw [turnT_succ ht]
  apply List.ext_getElem?
  intro i
  by_cases e : i = t
  · subst e
    rw [List.getElem?_set_self (by rw [turnT_len]; exact ht), turnT_get ht]
    simp only [endI, if_neg h]
  · rw [List.getElem?_set_ne (Ne.symm e)]
end Go.Proofs.YtnlcdecokpdkpaaDoor
