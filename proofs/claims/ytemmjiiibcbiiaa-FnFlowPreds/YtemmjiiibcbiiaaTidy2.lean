/- How a program is made tidy, plainly: what cannot be come to left out; the first step freed; ways parted. -/
import Derived.Test.YtemmjiiibcbiiaaProgO
namespace Go.Proofs.Ytemmjiiibcbiiaa

/-- How many of the first i can be come to. -/
def placeN (rs : List Bool) (i : Nat) : Nat := (rs.take i).count true

theorem placeN_zero (rs : List Bool) : placeN rs 0 = 0 := by simp [placeN]

theorem placeN_succ {rs : List Bool} {i : Nat} (hi : i < rs.length) : placeN rs (i + 1) = placeN rs i + if rs[i] = true then 1 else 0 := by
  unfold placeN
  rw [List.take_succ_eq_append_getElem hi, List.count_append, List.count_singleton]
  cases rs[i] <;> simp

theorem placeN_le (rs : List Bool) (i : Nat) : placeN rs i ≤ i := by
  unfold placeN
  have h1 : (rs.take i).count true ≤ (rs.take i).length := List.count_le_length
  have h2 : (rs.take i).length ≤ i := List.length_take_le _ _
  omega

def mapNext (f : Int → Int) (s : St) : St := { s with next := s.next.map f }

def placeI (rs : List Bool) (x : Int) : Int := (placeN rs x.toNat : Int)

def step00 : St := ⟨0, 0, 0, 0, 0, 0, 0, []⟩

/-- Of the first k steps those that can be come to. -/
def pruneK (ss : List St) (rs : List Bool) (k : Nat) : List St := ((List.range k).filter (fun i => rs.getD i false)).map (fun i => mapNext (placeI rs) (ss.getD i step00))

theorem pruneK_zero (ss : List St) (rs : List Bool) : pruneK ss rs 0 = [] := by simp [pruneK]

theorem pruneK_succ {ss : List St} {rs : List Bool} {k : Nat} (hk : k < ss.length) (hr : k < rs.length) : pruneK ss rs (k + 1) = pruneK ss rs k ++ if rs[k] = true then [mapNext (placeI rs) ss[k]] else [] := by
  unfold pruneK
  rw [List.range_succ, List.filter_append, List.map_append]
  congr 1
  have e : rs.getD k false = rs[k] := by simp [List.getD, hr]
  have e2 : ss.getD k step00 = ss[k] := by simp [List.getD, hk]
  cases h : rs[k]
  · simp only [List.filter_cons, e, h, List.filter_nil]
    rfl
  · simp only [List.filter_cons, e, h, List.filter_nil, if_true, List.map_cons, List.map_nil, e2]

theorem pruneK_len {ss : List St} {rs : List Bool} (hl : rs.length = ss.length) {k : Nat} (hk : k ≤ ss.length) : (pruneK ss rs k).length = placeN rs k := by
  induction k with
  | zero => simp [pruneK, placeN]
  | succ k ih =>
    rw [pruneK_succ (by omega) (by omega), placeN_succ (by omega), List.length_append, ih (by omega)]
    cases rs[k] <;> simp

theorem take_map_succ {zs : List Int} {t : Nat} (ht : t < zs.length) (f : Int → Int) : (zs.take (t + 1)).map f = (zs.take t).map f ++ [f (zs.getD t 0)] := by
  rw [List.take_succ_eq_append_getElem ht, List.map_append]
  have e : zs.getD t 0 = zs[t] := by simp [List.getD, ht]
  rw [e]; rfl
end Go.Proofs.Ytemmjiiibcbiiaa
