/- From which steps a way leads to a step, plainly; rows of rows that grow. -/
import Derived.Test.YtljlgffkhocgkaaDoorTidy
import Derived.Test.YtljlgffkhocgkaaDoorOwnK
import Derived.Test.YtljlgffkhocgkaaDoorRowsO
namespace Go.Proofs.YtljlgffkhocgkaaDoor

def nextOf (ss : List St) (k : Nat) : List Int := ((ss[k]?).map St.next).getD []

theorem nextOf_get {ss : List St} {k : Nat} (hk : k < ss.length) : nextOf ss k = ss[k].next := by simp [nextOf, hk]

/-- Of the first k steps those that can be come to from which a way leads to j. -/
def predsK (ss : List St) (rs : List Bool) (j k : Nat) : List Int := ((List.range k).filter (fun a => rs.getD a false && decide ((j : Int) ∈ nextOf ss a))).map (fun a : Nat => (a : Int))

theorem predsK_zero (ss : List St) (rs : List Bool) (j : Nat) : predsK ss rs j 0 = [] := by simp [predsK]

theorem predsK_succ (ss : List St) (rs : List Bool) (j k : Nat) : predsK ss rs j (k + 1) = predsK ss rs j k ++ if rs.getD k false = true ∧ (j : Int) ∈ nextOf ss k then [(k : Int)] else [] := by
  unfold predsK
  rw [List.range_succ, List.filter_append, List.map_append]
  congr 1
  by_cases h : rs.getD k false = true ∧ (j : Int) ∈ nextOf ss k
  · rw [if_pos h]; simp only [List.filter_cons, h.1, h.2, decide_true, Bool.and_self, if_true, List.filter_nil, List.map_cons, List.map_nil]
  · rw [if_neg h]
    have : (rs.getD k false && decide ((j : Int) ∈ nextOf ss k)) = false := by
      cases h1 : rs.getD k false
      · rfl
      · simp only [Bool.true_and, decide_eq_false_iff_not]
        exact fun h2 => h ⟨h1, h2⟩
    simp only [List.filter_cons, this, List.filter_nil]
    rfl

theorem predsK_mem {ss : List St} {rs : List Bool} {j k : Nat} {x : Int} (h : x ∈ predsK ss rs j k) : x < k := by
  unfold predsK at h
  simp only [List.mem_map, List.mem_filter, List.mem_range] at h
  obtain ⟨a, ⟨h1, _⟩, h2⟩ := h
  omega

theorem predsK_len (ss : List St) (rs : List Bool) (j k : Nat) : (predsK ss rs j k).length ≤ k := by
  unfold predsK
  rw [List.length_map]
  have := List.length_filter_le (fun a => rs.getD a false && decide ((j : Int) ∈ nextOf ss a)) (List.range k)
  simpa using this

def predsL (ss : List St) (rs : List Bool) : List (List Int) := (List.range ss.length).map (fun j => predsK ss rs j ss.length)

/-- What is told of which steps each may come behind, of any program. -/
def PredsOr (ss : List St) (zss : List (List Int)) : Prop := (okB ss = true ∧ ∃ rs, IsReach ss rs ∧ zss = predsL ss rs) ∨ (okB ss = false ∧ zss = [])

theorem PredsOr.unique {ss : List St} {a b : List (List Int)} (ha : PredsOr ss a) (hb : PredsOr ss b) : a = b := by
  rcases ha with ⟨h1, r1, h2, h3⟩ | ⟨h1, h2⟩ <;> rcases hb with ⟨h4, r2, h5, h6⟩ | ⟨h4, h5⟩
  · rw [h3, h6, h2.unique h5]
  · rw [h1] at h4; cases h4
  · rw [h1] at h4; cases h4
  · rw [h2, h5]

theorem PredsOr.bound {ss : List St} {a : List (List Int)} (ha : PredsOr ss a) : a.length ≤ 1000 ∧ ∀ zs ∈ a, zs.length ≤ 1000 := by
  rcases ha with ⟨h1, r, _, rfl⟩ | ⟨_, rfl⟩
  · have := ok_len h1
    refine ⟨by simp [predsL]; omega, fun zs hz => ?_⟩
    simp only [predsL, List.mem_map, List.mem_range] at hz
    obtain ⟨j, _, rfl⟩ := hz
    have := predsK_len ss r j ss.length
    omega
  · simp

/-- One row more at the end. -/
theorem RowsI.snoc {lo hi s : Nat} {W w' : World} {v v' x : Value} {zss : List (List Int)} {zs : List Int} {vs : List Value} (h1 : vs.length = zss.length) (h2 : W.ownsRow lo 55 1 v zss.length vs)
    (h4 : ∀ (i : Nat) (y : Value) (zs : List Int), vs[i]? = some y → zss[i]? = some zs → IntsO lo hi W y zs) (h5 : ∀ (i j : Nat) (a b : Value) (k : Nat), vs[i]? = some a → vs[j]? = some b → i ≠ j → a.ownBlock = some k → b.ownBlock ≠ some k)
    (hx : W.ownsRow s 3 1 x zs.length (zs.map (Value.int .i64))) (hs : hi ≤ s) (hlo : lo ≤ s) (hg : W.grownBy w' v.ownBlock) (hown : w'.ownsRow lo 55 1 v' (zss.length + 1) (vs ++ [x])) : RowsI lo w'.heap.size w' v' (zss ++ [zs]) := by
  have kept : ∀ {b : Nat} {y : Value} {n : Nat} {ys : List Value}, W.ownsRow b 3 1 y n ys → w'.ownsRow b 3 1 y n ys := by
    intro b y n ys hy
    refine hy.kept hg ?_
    rcases own_diff hy h2 (by decide) with e | e
    · exact Or.inl e
    · exact Or.inr e
  have hxx := own_lower (kept hx) hlo
  refine ⟨vs ++ [x], by simp [h1], by simpa using hown, fun k hk => (hown.lt k hk).2, fun i y zs' hy hz => ?_, fun i j a b k ha hb hij hak => ?_⟩
  · by_cases hi : i < vs.length
    · rw [List.getElem?_append_left hi] at hy
      rw [List.getElem?_append_left (by omega)] at hz
      have ho := h4 i y zs' hy hz
      exact ⟨kept ho.1, fun k hk => ((kept ho.1).lt k hk).2⟩
    · have l := (List.getElem?_eq_some_iff.1 hy).1
      simp at l
      have e : i = vs.length := by omega
      subst e
      simp at hy
      rw [h1] at hz
      simp at hz
      subst hy
      subst hz
      exact ⟨hxx, fun k hk => (hxx.lt k hk).2⟩
  · by_cases hi : i < vs.length <;> by_cases hj : j < vs.length
    · rw [List.getElem?_append_left hi] at ha
      rw [List.getElem?_append_left hj] at hb
      exact h5 i j a b k ha hb hij hak
    · rw [List.getElem?_append_left hi] at ha
      have l := (List.getElem?_eq_some_iff.1 hb).1
      simp at l
      have e : j = vs.length := by omega
      subst e
      simp at hb
      subst hb
      intro hbk
      have o1 := h4 i a zss[i] ha (List.getElem?_eq_getElem (by omega))
      have o2 := o1.2 k hak
      have o3 := (hx.lt k hbk).1
      omega
    · rw [List.getElem?_append_left hj] at hb
      have l := (List.getElem?_eq_some_iff.1 ha).1
      simp at l
      have e : i = vs.length := by omega
      subst e
      simp at ha
      subst ha
      intro hbk
      have o1 := h4 j b zss[j] hb (List.getElem?_eq_getElem (by omega))
      have o2 := o1.2 k hbk
      have o3 := (hx.lt k hak).1
      omega
    · have l1 := (List.getElem?_eq_some_iff.1 ha).1
      have l2 := (List.getElem?_eq_some_iff.1 hb).1
      simp at l1 l2
      omega
end Go.Proofs.YtljlgffkhocgkaaDoor
