/- Reckonings, plainly: what a step reckons, all that a program's steps reckon, which steps reckon one, and which keep it. -/
import Derived.Test.YtljlgffkhocgkaaDoorPure
namespace Go.Proofs.YtljlgffkhocgkaaDoor

/-- A reckoning as plain data. -/
structure E5 where
  op : Int
  av : Int
  an : Int
  bv : Int
  bn : Int
  deriving DecidableEq

def exV (e : E5) : Value := .agg #[.int .i64 e.op, .int .i64 e.av, .int .i64 e.an, .int .i64 e.bv, .int .i64 e.bn]

def exprB (e : E5) : Bool := inB e.op 1 4 && opndB e.av e.an && opndB e.bv e.bn

def eOf (s : St) : E5 := ⟨s.op, s.av, s.an, s.bv, s.bn⟩

def exStep (acc : List E5) (s : St) : List E5 := if s.kind = 1 then (if eOf s ∈ acc then acc else acc ++ [eOf s]) else acc

def exprsOf (ss : List St) : List E5 := ss.foldl exStep []

def compB (e : E5) (s : St) : Bool := decide (s.kind = 1) && decide (eOf s = e)

/-- The variable that a step changes, -1 if none. -/
def setsI (s : St) : Int := if s.kind = 1 ∨ s.kind = 2 ∨ s.kind = 3 then s.dst else -1

def keepB (e : E5) (s : St) : Bool := decide (setsI s < 0) || (decide (setsI s ≠ e.av) && decide (setsI s ≠ e.bv))

/-- A row of bools of a program and a reckoning that are ok; else nothing. -/
def RowOr (f : E5 → St → Bool) (ss : List St) (e : E5) (rs : List Bool) : Prop := rs = if okB ss && exprB e then ss.map (f e) else []

theorem RowOr.unique {f : E5 → St → Bool} {ss : List St} {e : E5} {rs rs' : List Bool} (h : RowOr f ss e rs) (h' : RowOr f ss e rs') : rs = rs' := h.trans h'.symm

theorem RowOr.bound {f : E5 → St → Bool} {ss : List St} {e : E5} {rs : List Bool} (h : RowOr f ss e rs) (hn : ss.length ≤ 1048576) : rs.length ≤ 1048576 := by
  rw [h]
  split
  · simpa using hn
  · simp

def ExprsOr (ss : List St) (es : List E5) : Prop := es = if okB ss then exprsOf ss else []

theorem exStep_len (acc : List E5) (s : St) : acc.length ≤ (exStep acc s).length ∧ (exStep acc s).length ≤ acc.length + 1 := by
  unfold exStep
  split
  · split <;> simp
  · simp

theorem foldl_len : ∀ (ss : List St) (acc : List E5), (ss.foldl exStep acc).length ≤ acc.length + ss.length
  | [], acc => by simp
  | s :: r, acc => by
    have h1 := foldl_len r (exStep acc s)
    have h2 := (exStep_len acc s).2
    simp only [List.foldl_cons, List.length_cons]
    omega

theorem exprsOf_len (ss : List St) : (exprsOf ss).length ≤ ss.length := by
  have := foldl_len ss []
  simp at this
  exact this

theorem ExprsOr.unique {ss : List St} {es es' : List E5} (h : ExprsOr ss es) (h' : ExprsOr ss es') : es = es' := h.trans h'.symm

theorem ExprsOr.bound {ss : List St} {es : List E5} (h : ExprsOr ss es) (hn : ss.length ≤ 1048576) : es.length ≤ 1048576 := by
  rw [h]
  split
  · exact Nat.le_trans (exprsOf_len ss) hn
  · simp

/-- The first k steps' reckonings. -/
def exTo (ss : List St) (k : Nat) : List E5 := (ss.take k).foldl exStep []

theorem exTo_zero (ss : List St) : exTo ss 0 = [] := rfl

theorem exTo_succ {ss : List St} {k : Nat} {s : St} (h : ss[k]? = some s) : exTo ss (k + 1) = exStep (exTo ss k) s := by
  unfold exTo
  rw [List.take_add_one, h]
  simp [List.foldl_append]

theorem exTo_all (ss : List St) : exTo ss ss.length = exprsOf ss := by
  unfold exTo
  rw [List.take_length]
  rfl

theorem exTo_len (ss : List St) (k : Nat) : (exTo ss k).length ≤ k := by
  refine Nat.le_trans (foldl_len _ _) ?_
  simp
  omega

/-- What a reckoning that is listed is: one that some step reckons. -/
theorem mem_exTo {ss : List St} {k : Nat} {e : E5} : e ∈ exTo ss k ↔ ∃ j s, j < k ∧ ss[j]? = some s ∧ s.kind = 1 ∧ eOf s = e := by
  induction k with
  | zero => simp [exTo_zero]
  | succ k ih =>
    cases h : ss[k]? with
    | none =>
      have e1 : exTo ss (k + 1) = exTo ss k := by
        unfold exTo
        rw [List.take_add_one, h]
        simp
      rw [e1, ih]
      constructor
      · rintro ⟨j, s, h1, h2, h3⟩
        exact ⟨j, s, by omega, h2, h3⟩
      · rintro ⟨j, s, h1, h2, h3⟩
        have : j ≠ k := fun e => by subst e; rw [h] at h2; cases h2
        exact ⟨j, s, by omega, h2, h3⟩
    | some t =>
      rw [exTo_succ h]
      have key : e ∈ exStep (exTo ss k) t ↔ e ∈ exTo ss k ∨ (t.kind = 1 ∧ eOf t = e) := by
        unfold exStep
        split
        · rename_i hk
          split
          · rename_i hm
            constructor
            · exact fun h => Or.inl h
            · rintro (h | ⟨_, rfl⟩)
              · exact h
              · exact hm
          · simp only [List.mem_append, List.mem_singleton]
            constructor
            · rintro (h | rfl)
              · exact Or.inl h
              · exact Or.inr ⟨hk, rfl⟩
            · rintro (h | ⟨_, rfl⟩)
              · exact Or.inl h
              · exact Or.inr rfl
        · rename_i hk
          constructor
          · exact fun h => Or.inl h
          · rintro (h | ⟨h, _⟩)
            · exact h
            · exact absurd h hk
      rw [key, ih]
      constructor
      · rintro (⟨j, s, h1, h2, h3⟩ | ⟨h1, h2⟩)
        · exact ⟨j, s, by omega, h2, h3⟩
        · exact ⟨k, t, by omega, h, h1, h2⟩
      · rintro ⟨j, s, h1, h2, h3⟩
        by_cases e1 : j = k
        · subst e1
          rw [h] at h2
          cases h2
          exact Or.inr h3
        · exact Or.inl ⟨j, s, by omega, h2, h3⟩

theorem exTo_nodup (ss : List St) (k : Nat) : (exTo ss k).Nodup := by
  have : ∀ (l : List St) (acc : List E5), acc.Nodup → (l.foldl exStep acc).Nodup := by
    intro l
    induction l with
    | nil => exact fun _ h => h
    | cons s r ih =>
      intro acc h
      refine ih _ ?_
      unfold exStep
      split
      · split
        · exact h
        · rename_i hm
          rw [List.nodup_append]
          refine ⟨h, by simp, ?_⟩
          rintro a ha b hb rfl
          simp only [List.mem_singleton] at hb
          exact hm (hb ▸ ha)
      · exact h
  exact this _ [] List.nodup_nil

theorem ok_stepE {ss : List St} (h : okB ss = true) {s : St} (hs : s ∈ ss) : stepB s ss.length = true := by
  unfold okB at h
  simp only [Bool.and_eq_true, List.all_eq_true] at h
  exact h.2 s hs

/-- Of a program that is ok, what a step reckons is ok. -/
theorem ok_expr {ss : List St} (h : okB ss = true) {s : St} (hs : s ∈ ss) (hk : s.kind = 1) : exprB (eOf s) = true := by
  have h1 := ok_stepE h hs
  unfold stepB restB at h1
  simp only [hk, if_true, Bool.and_eq_true] at h1
  unfold exprB eOf
  simp only [Bool.and_eq_true]
  exact h1.2.2

/-- Of a program that is ok, what a step changes is a variable. -/
theorem ok_dst {ss : List St} (h : okB ss = true) {s : St} (hs : s ∈ ss) (hk : s.kind = 1 ∨ s.kind = 2 ∨ s.kind = 3) : 0 ≤ s.dst ∧ s.dst < 12 := by
  have h1 := ok_stepE h hs
  unfold stepB restB at h1
  simp only [Bool.and_eq_true] at h1
  have h2 := h1.2
  rcases hk with hk | hk | hk
  · simp only [hk, if_true, Bool.and_eq_true] at h2
    have := h2.1
    simp [inB] at this
    omega
  · rw [hk] at h2
    simp only [show ¬ ((2 : Int) = 1) by omega, if_false, if_true, Bool.and_eq_true] at h2
    have := h2.1
    simp [inB] at this
    omega
  · rw [hk] at h2
    simp only [show ¬ ((3 : Int) = 1) by omega, show ¬ ((3 : Int) = 2) by omega, if_false, if_true, Bool.and_eq_true] at h2
    have := h2.1
    simp [inB] at this
    omega

theorem opndB_small {v n : Int} (h : opndB v n = true) : -1 ≤ v ∧ v ≤ 11 ∧ 0 ≤ n ∧ n ≤ 65535 := by
  unfold opndB at h
  split at h
  · simp [inB] at h
    omega
  · simp [inB] at h
    omega

/-- Numbers of a reckoning that is ok are small. -/
theorem exprB_small {e : E5} (h : exprB e = true) : (1 ≤ e.op ∧ e.op ≤ 4) ∧ (-1 ≤ e.av ∧ e.av ≤ 11 ∧ 0 ≤ e.an ∧ e.an ≤ 65535) ∧ (-1 ≤ e.bv ∧ e.bv ≤ 11 ∧ 0 ≤ e.bn ∧ e.bn ≤ 65535) := by
  unfold exprB at h
  simp only [Bool.and_eq_true] at h
  refine ⟨?_, opndB_small h.1.2, opndB_small h.2⟩
  have := h.1.1
  simp [inB] at this
  exact this
end Go.Proofs.YtljlgffkhocgkaaDoor
