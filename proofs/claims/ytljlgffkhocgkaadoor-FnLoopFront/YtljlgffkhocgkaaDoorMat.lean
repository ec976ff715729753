/- A square of bools in memory: rows that the call has made, behind a row of rows that grows. -/
import Derived.Test.YtljlgffkhocgkaaDoorRowsO
import Derived.Test.YtljlgffkhocgkaaDoorOwnK
import Derived.Test.YtljlgffkhocgkaaDoorDomP
import Derived.Test.YtljlgffkhocgkaaDoorPreds
namespace Go.Proofs.YtljlgffkhocgkaaDoor
open Go.RowKit

def rowVs (gs : Nat → Nat) (n k : Nat) : List Value := (List.range k).map fun i => .slice (some ⟨gs i, 0, none⟩) n n

theorem rowVs_get {gs : Nat → Nat} {n k i : Nat} (hi : i < k) : (rowVs gs n k)[i]? = some (.slice (some ⟨gs i, 0, none⟩) n n) := by simp [rowVs, hi]

theorem rowVs_succ (gs : Nat → Nat) (n k : Nat) : rowVs gs n (k + 1) = rowVs gs n k ++ [.slice (some ⟨gs k, 0, none⟩) n n] := by simp [rowVs, List.range_succ]

theorem rowVs_same {gs gs' : Nat → Nat} {n k : Nat} (h : ∀ i, i < k → gs' i = gs i) : rowVs gs' n k = rowVs gs n k := by
  unfold rowVs
  apply List.map_congr_left
  intro i hi
  rw [h i (by simpa using hi)]

structure Mat (lo lo2 : Nat) (w : World) (v : Value) (n k : Nat) (gs : Nat → Nat) (m : Nat → Nat → Bool) : Prop where
  own : w.ownsRow lo 30 1 v k (rowVs gs n k)
  row : ∀ i, i < k → w.rowIs (gs i) 4 n (fun j => .bool (m i j))
  low : ∀ i, i < k → lo2 ≤ gs i
  inj : ∀ i j, i < k → j < k → gs i = gs j → i = j

theorem Mat.keep {lo lo2 : Nat} {w w' : World} {v : Value} {n k : Nat} {gs : Nat → Nat} {m : Nat → Nat → Bool} (h : Mat lo lo2 w v n k gs m) (hb : Below w.heap.size w w') : Mat lo lo2 w' v n k gs m :=
  ⟨ownsRow_out h.own (Out.of_below (lo := 0) (hi := 0) hb) (fun _ _ => Or.inr (Nat.zero_le _)), fun i hi => rowIs_keep (h.row i hi) hb, h.low, h.inj⟩

theorem Mat.ne {lo lo2 : Nat} {w : World} {v : Value} {n k : Nat} {gs : Nat → Nat} {m : Nat → Nat → Bool} (h : Mat lo lo2 w v n k gs m) {i : Nat} (hi : i < k) : v.ownBlock ≠ some (gs i) := by
  intro e
  rcases h.own.2 with ⟨rfl, _⟩ | ⟨g, cap, cur, rfl, _, hg, _⟩
  · simp [Value.ownBlock] at e
  · simp [Value.ownBlock] at e
    subst e
    obtain ⟨c, hc, _⟩ := h.row i hi
    rw [hg] at hc
    simp at hc

/-- One row more. -/
theorem Mat.snoc {lo lo2 : Nat} {W w' : World} {v v' : Value} {n k b : Nat} {gs : Nat → Nat} {m : Nat → Nat → Bool} {f : Nat → Bool} (h : Mat lo lo2 W v n k gs m) (hr : W.rowIs b 4 n (fun j => .bool (f j))) (hb : lo2 ≤ b) (hne : ∀ i, i < k → gs i ≠ b) (hv : v.ownBlock ≠ some b)
    (hg : W.grownBy w' v.ownBlock) (hown : w'.ownsRow lo 30 1 v' (k + 1) (rowVs gs n k ++ [.slice (some ⟨b, 0, none⟩) n n])) :
    Mat lo lo2 w' v' n (k + 1) (fun i => if i = k then b else gs i) (fun i => if i = k then f else m i) := by
  have e1 : ∀ i, i < k → (if i = k then b else gs i) = gs i := fun i hi => if_neg (by omega)
  refine ⟨?_, fun i hi => ?_, fun i hi => ?_, fun i j hi hj e => ?_⟩
  · rw [rowVs_succ, rowVs_same (gs := gs) e1]
    simpa using hown
  · by_cases e : i = k
    · subst e
      simp only [if_true]
      exact hr.of_block (hg.block _ hr.lt fun e => hv e.symm)
    · have hik : i < k := by omega
      simp only [if_neg e]
      exact (h.row i hik).of_block (hg.block _ (h.row i hik).lt fun e => h.ne hik e.symm)
  · by_cases e : i = k
    · simp only [if_pos e]; exact hb
    · simp only [if_neg e]; exact h.low i (by omega)
  · by_cases e1 : i = k <;> by_cases e2 : j = k
    · omega
    · rw [if_pos e1, if_neg e2] at e
      exact absurd e.symm (hne j (by omega))
    · rw [if_neg e1, if_pos e2] at e
      exact absurd e (hne i (by omega))
    · rw [if_neg e1, if_neg e2] at e
      exact h.inj i j (by omega) (by omega) e

def setM (m : Nat → Nat → Bool) (i j : Nat) (x : Bool) : Nat → Nat → Bool := fun a b => if a = i ∧ b = j then x else m a b

theorem Mat.set {lo lo2 : Nat} {w : World} {v : Value} {n k : Nat} {gs : Nat → Nat} {m : Nat → Nat → Bool} (h : Mat lo lo2 w v n k gs m) {i : Nat} (hi : i < k) (j : Nat) (x : Bool) : Mat lo lo2 (w.setCell ⟨gs i, j, none⟩ (.bool x)) v n k gs (setM m i j x) := by
  refine ⟨?_, fun a ha => ?_, h.low, h.inj⟩
  · refine ownsRow_out h.own (Out.setCell (lo := gs i) (hi := gs i + 1) (Out.refl _ _ _) (p := ⟨gs i, j, none⟩) (Nat.le_refl _) (Nat.lt_succ_self _) _) (fun q hq => ?_)
    have := h.ne hi
    rw [hq] at this
    have : q ≠ gs i := fun e => this (by rw [e])
    omega
  · by_cases e : a = i
    · subst e
      refine ((h.row a ha).set j _).congr fun b hb => ?_
      by_cases eb : b = j <;> simp [setM, eb]
    · refine ((h.row a ha).setOther (fun e2 => e (h.inj a i ha hi e2)) _).congr fun b hb => ?_
      simp [setM, e]

theorem Mat.slice {lo lo2 : Nat} {w : World} {v : Value} {n k : Nat} {gs : Nat → Nat} {m : Nat → Nat → Bool} (h : Mat lo lo2 w v n k gs m) (hk : 0 < k) : ∃ g cap, v = .slice (some ⟨g, 0, none⟩) k cap ∧ lo ≤ g ∧ ∀ i, i < k → w.cell? ⟨g, i, none⟩ = some (.slice (some ⟨gs i, 0, none⟩) n n) := by
  rcases h.own.2 with ⟨_, h0⟩ | ⟨g, cap, cur, rfl, hg, _⟩
  · omega
  · exact ⟨g, cap, rfl, hg, fun i hi => by rw [h.own.cellAt i (by omega), rowVs_get hi]⟩

def matL (n : Nat) (m : Nat → Nat → Bool) : List (List Bool) := (List.range n).map fun i => (List.range n).map (m i)

theorem matL_len (n : Nat) (m : Nat → Nat → Bool) : (matL n m).length = n := by simp [matL]

theorem matL_get {n i : Nat} {m : Nat → Nat → Bool} (hi : i < n) : (matL n m)[i]? = some ((List.range n).map (m i)) := by simp [matL, hi]

theorem matL_same {n : Nat} {m m' : Nat → Nat → Bool} (h : ∀ i j, i < n → j < n → m' i j = m i j) : matL n m' = matL n m := by
  unfold matL
  apply List.map_congr_left
  intro i hi
  apply List.map_congr_left
  intro j hj
  exact h i j (by simpa using hi) (by simpa using hj)

theorem Mat.rows {lo lo2 : Nat} {w : World} {v : Value} {n : Nat} {gs : Nat → Nat} {m : Nat → Nat → Bool} (h : Mat lo lo2 w v n n gs m) (hl : lo ≤ lo2) (hn : n ≤ 1000) : RowsB lo w.heap.size w v (matL n m) := by
  refine ⟨rowVs gs n n, by simp [rowVs, matL], by rw [matL_len]; exact h.own, fun k hk => (h.own.lt k hk).2, fun i x zs hx hz => ?_, fun i j a b k ha hb hij hk => ?_⟩
  · have l := (List.getElem?_eq_some_iff.1 hx).1
    simp [rowVs] at l
    rw [rowVs_get l] at hx
    rw [matL_get l] at hz
    cases hx
    cases hz
    have hlow := h.low i l
    refine ⟨?_, fun k hk => ?_⟩
    · rw [map_boolV]
      simp only [List.length_map, List.length_range]
      exact rowIs_own (h.row i l) (by omega) (by omega)
    · simp [Value.ownBlock] at hk
      subst hk
      exact (h.row i l).lt
  · have l := (List.getElem?_eq_some_iff.1 ha).1
    have l2 := (List.getElem?_eq_some_iff.1 hb).1
    simp [rowVs] at l l2
    rw [rowVs_get l] at ha
    rw [rowVs_get l2] at hb
    cases ha
    cases hb
    simp only [Value.ownBlock]
    intro e
    apply hij
    simp [Value.ownBlock] at hk e
    exact h.inj i j l l2 (by omega)

/-- How many of a square are so. -/
def cnt2 (m : Nat → Nat → Bool) (n : Nat) : Nat := tot (fun i => cnt (m i) n) n

theorem cnt2_same {m m' : Nat → Nat → Bool} {n : Nat} (h : ∀ i j, i < n → j < n → m' i j = m i j) : cnt2 m' n = cnt2 m n := tot_same fun i hi => cnt_same fun j hj => h i j hi hj

theorem cnt2_set {m : Nat → Nat → Bool} {n i j : Nat} (hi : i < n) (hj : j < n) (hm : m i j = true) : cnt2 (setM m i j false) n + 1 = cnt2 m n := by
  have e1 : cnt (m i) n = cnt (setM m i j false i) n + 1 := by
    have h := cnt_set (m := setM m i j false i) (i := j) hj (by simp [setM])
    rw [← h]
    apply cnt_same
    intro a _
    by_cases e : a = j
    · simp [e, hm]
    · simp [setM, e]
  have h2 := tot_set (f := fun a => cnt (setM m i j false a) n) (i := i) (n := n) (v := cnt (m i) n) hi
  have e3 : tot (fun a => if a = i then cnt (m i) n else cnt (setM m i j false a) n) n = cnt2 m n := by
    apply tot_same
    intro a _
    by_cases e : a = i
    · simp [e]
    · simp only [if_neg e]
      apply cnt_same
      intro b _
      simp [setM, e]
  unfold cnt2 at *
  omega

/-- The square in memory. -/
def boolM (w : World) (gs : Nat → Nat) : Nat → Nat → Bool := fun i j => trueAt w (gs i) j

theorem boolM_mat {lo lo2 : Nat} {w : World} {v : Value} {n : Nat} {gs : Nat → Nat} {m : Nat → Nat → Bool} (h : Mat lo lo2 w v n n gs m) : cnt2 (boolM w gs) n = cnt2 m n := cnt2_same fun i _ hi hj => trueAt_row (h.row i hi) hj

/-- What stands on each way, told of each step. -/
def DomsM (ss : List St) (m : Nat → Nat → Bool) : Prop := ∀ i k, i < ss.length → k < ss.length → (m i k = true ↔ Dom ss k i)

theorem DomsM.unique {ss : List St} {m m' : Nat → Nat → Bool} (h : DomsM ss m) (h' : DomsM ss m') : matL ss.length m = matL ss.length m' := by
  apply matL_same
  intro i j hi hj
  have h1 := h i j hi hj
  have h2 := h' i j hi hj
  cases e1 : m i j <;> cases e2 : m' i j <;> simp_all

def DomsOr (ss : List St) (zss : List (List Bool)) : Prop := (okB ss = true ∧ ∃ m, DomsM ss m ∧ zss = matL ss.length m) ∨ (okB ss = false ∧ zss = [])

theorem DomsOr.unique {ss : List St} {a b : List (List Bool)} (ha : DomsOr ss a) (hb : DomsOr ss b) : a = b := by
  rcases ha with ⟨h1, m1, h2, h3⟩ | ⟨h1, h2⟩ <;> rcases hb with ⟨h4, m2, h5, h6⟩ | ⟨h4, h5⟩
  · rw [h3, h6, h2.unique h5]
  · rw [h1] at h4; cases h4
  · rw [h1] at h4; cases h4
  · rw [h2, h5]

theorem DomsOr.bound {ss : List St} {a : List (List Bool)} (ha : DomsOr ss a) : a.length ≤ 1000 ∧ ∀ zs ∈ a, zs.length ≤ 1000 := by
  rcases ha with ⟨h1, m, _, rfl⟩ | ⟨_, rfl⟩
  · have := ok_len h1
    refine ⟨by rw [matL_len]; omega, fun zs hz => ?_⟩
    simp only [matL, List.mem_map, List.mem_range] at hz
    obtain ⟨j, _, rfl⟩ := hz
    simp; omega
  · simp

/-- Ahead of the rounds of the model. -/
def dom0 (rs : List Bool) : Nat → Nat → Bool := fun i k => rs.getD i false && (rs.getD k false && (decide (0 < i) || decide (k = 0)))

theorem getD_reach {ss : List St} {rs : List Bool} (h : IsReach ss rs) {i : Nat} (hi : i < ss.length) : rs.getD i false = true ↔ Reaches ss i := by
  have h1 := h.1
  rw [← h.2 i hi]
  have hr : i < rs.length := by omega
  simp [List.getD, hr]

/-- What the rounds of the model keep: all that stands on each way is told; what is told can be come to. -/
structure DomI (ss : List St) (m : Nat → Nat → Bool) : Prop where
  all : ∀ i k, i < ss.length → k < ss.length → Dom ss k i → m i k = true
  reach : ∀ i k, i < ss.length → k < ss.length → m i k = true → Reaches ss i
  zero : ∀ k, k < ss.length → m 0 k = true → k = 0

theorem DomI.start {ss : List St} {rs : List Bool} (h : IsReach ss rs) : DomI ss (dom0 rs) := by
  refine ⟨fun i k hi hk hd => ?_, fun i k hi hk hm => ?_, fun k hk hm => ?_⟩
  · have h1 := (getD_reach h hi).2 hd.1
    have h2 := (getD_reach h hk).2 hd.reach
    unfold dom0
    rw [h1, h2]
    by_cases e : 0 < i
    · simp [e]
    · have : i = 0 := by omega
      subst this
      simp [hd.zero]
  · unfold dom0 at hm
    rw [Bool.and_eq_true] at hm
    exact (getD_reach h hi).1 hm.1
  · unfold dom0 at hm
    simp only [Bool.and_eq_true, Bool.or_eq_true, decide_eq_true_eq] at hm
    omega

theorem mem_predsK {ss : List St} {rs : List Bool} (h : IsReach ss rs) {j p : Nat} : ((p : Int) ∈ predsK ss rs j ss.length) ↔ (p < ss.length ∧ Reaches ss p ∧ Edge ss p j) := by
  unfold predsK
  simp only [List.mem_map, List.mem_filter, List.mem_range, Bool.and_eq_true, decide_eq_true_eq]
  constructor
  · rintro ⟨a, ⟨h1, h2, h3⟩, h4⟩
    have : a = p := by omega
    subst this
    rw [nextOf_get h1] at h3
    exact ⟨h1, (getD_reach h h1).1 h2, ss[a], List.getElem?_eq_getElem h1, h3⟩
  · rintro ⟨h1, h2, s, h3, h4⟩
    refine ⟨p, ⟨h1, (getD_reach h h1).2 h2, ?_⟩, rfl⟩
    rw [nextOf, h3]
    exact h4

/-- Taken away where some step ahead does not have it. -/
theorem DomI.drop {ss : List St} {rs : List Bool} (hrs : IsReach ss rs) {m : Nat → Nat → Bool} (h : DomI ss m) {i k : Nat} (hi : i < ss.length) (hk : k < ss.length) (hki : k ≠ i) {p : Nat} (hp : (p : Int) ∈ predsK ss rs i ss.length) (hmp : m p k = false) : DomI ss (setM m i k false) := by
  obtain ⟨p1, p2, p3⟩ := (mem_predsK hrs).1 hp
  have hnd : ¬ Dom ss k i := fun hd => by
    have := h.all p k p1 hk (hd.pred hki p2 p3)
    rw [hmp] at this
    cases this
  refine ⟨fun a b ha hb hd => ?_, fun a b ha hb hm => ?_, fun b hb hm => ?_⟩
  · unfold setM
    by_cases e : a = i ∧ b = k
    · obtain ⟨rfl, rfl⟩ := e
      exact absurd hd hnd
    · rw [if_neg e]; exact h.all a b ha hb hd
  · unfold setM at hm
    by_cases e : a = i ∧ b = k
    · rw [if_pos e] at hm; cases hm
    · rw [if_neg e] at hm; exact h.reach a b ha hb hm
  · unfold setM at hm
    by_cases e : 0 = i ∧ b = k
    · rw [if_pos e] at hm; cases hm
    · rw [if_neg e] at hm; exact h.zero b hb hm

/-- Nothing is left to be taken away, of the first a rows, and of row a at the first b places. -/
def DomC (ss : List St) (rs : List Bool) (m : Nat → Nat → Bool) (a b : Nat) : Prop := ∀ i k, i < ss.length → k < ss.length → 1 ≤ i → (i < a ∨ (i = a ∧ k < b)) → m i k = true → k ≠ i → ∀ p : Nat, (p : Int) ∈ predsK ss rs i ss.length → m p k = true

theorem DomI.fin {ss : List St} (hok : okB ss = true) {rs : List Bool} (hrs : IsReach ss rs) {m : Nat → Nat → Bool} (h : DomI ss m) (hc : DomC ss rs m ss.length 0) : DomsM ss m := by
  intro i k hi hk
  refine ⟨fun hm => ⟨h.reach i k hi hk hm, fun ha => ?_⟩, h.all i k hi hk⟩
  have key : Reaches ss i ∧ ¬ m i k = true := ha (fun i => Reaches ss i ∧ ¬ m i k = true) (fun h0 => ⟨Reaches.first ss, fun hm0 => h0 (h.zero k hk hm0).symm⟩) (fun a b hab he hb => ⟨hab.1.edge he, fun hmb => ?_⟩)
  · exact key.2 hm
  · have hbl := reach_lt hok (hab.1.edge he)
    have hal := reach_lt hok hab.1
    by_cases e0 : b = 0
    · subst e0
      exact hb (h.zero k hk hmb).symm
    · exact hab.2 (hc b k hbl hk (by omega) (Or.inl hbl) hmb (Ne.symm hb) a ((mem_predsK hrs).2 ⟨hal, hab.1, he⟩))
end Go.Proofs.YtljlgffkhocgkaaDoor
