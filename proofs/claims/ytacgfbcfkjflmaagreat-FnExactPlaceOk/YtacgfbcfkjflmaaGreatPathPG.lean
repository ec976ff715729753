/- Paths, plainly: when a row of numbers is one. How often a reckoning is reckoned on a path, plainly. -/
import Derived.Test.YtacgfbcfkjflmaaGreatBaseG
import Derived.Test.YtacgfbcfkjflmaaGreatTo
import Derived.Test.YtacgfbcfkjflmaaGreatAnsBeG
namespace Go.Proofs.YtacgfbcfkjflmaaGreat
open Go.RowKit

/-- A slice of numbers, and that it has room for them. -/
def IntsC (w : World) (v : Value) (zs : List Int) : Prop :=
  ∃ ao b o cap, v = .slice ao zs.length cap ∧ zs.length ≤ cap ∧ (0 < zs.length → ao = some ⟨b, o, none⟩) ∧ ∀ i, i < zs.length → w.cell? ⟨b, o + i, none⟩ = some (.int .i64 (zs.getD i 0))

theorem IntsC.at {w : World} {v : Value} {zs : List Int} (h : IntsC w v zs) : IntsAt w v zs := by
  obtain ⟨ao, b, o, cap, e, _, h1, h2⟩ := h
  exact ⟨ao, b, o, cap, e, h1, h2⟩

theorem IntsC.keep {w w' : World} {v : Value} {zs : List Int} (h : IntsC w v zs) (hb : Below w.heap.size w w') : IntsC w' v zs := by
  obtain ⟨ao, b, o, cap, e, h0, h1, h2⟩ := h
  exact ⟨ao, b, o, cap, e, h0, h1, fun i hi => cell_keep hb (h2 i hi)⟩

theorem IntsOwn.c {lo : Nat} {w : World} {v : Value} {zs : List Int} (h : IntsOwn lo w v zs) : IntsC w v zs := by
  obtain ⟨b, hv, _, hr⟩ := h
  exact ⟨_, b, 0, _, hv, Nat.le_refl _, fun _ => rfl, fun i hi => by rw [Nat.zero_add, hr.cell hi]⟩

/-- A step's kind, by its place. -/
def kindAt (ss : List St) (k : Nat) : Int := ((ss[k]?).map St.kind).getD 0
theorem kindAt_get {ss : List St} {k : Nat} (hk : k < ss.length) : kindAt ss k = ss[k].kind := by simp [kindAt, hk]

/-- Where one stands when one has come past k of the numbers behind the first step. -/
def atP (r : List Int) (k : Nat) : Int := (0 :: r).getD k 0
theorem atP_zero (r : List Int) : atP r 0 = 0 := rfl
theorem atP_succ (r : List Int) (k : Nat) : atP r (k + 1) = r.getD k 0 := by simp [atP]

/-- The first k steps behind the first are come to, one behind the other. -/
def Walks (ss : List St) (r : List Int) (k : Nat) : Prop := ∀ j, j < k → r.getD j 0 ∈ nextOf ss (atP r j).toNat

/-- A path: from the first step on, each behind the one ahead, the last an end. -/
def IsPath (ss : List St) (zs : List Int) : Prop :=
  ∃ r, zs = 0 :: r ∧ r.length < 200 ∧ Walks ss r r.length ∧ kindAt ss (atP r r.length).toNat = 7

theorem IsPath.nil {ss : List St} : ¬ IsPath ss [] := fun ⟨_, h, _⟩ => by cases h

theorem IsPath.cons_iff {ss : List St} {z : Int} {r : List Int} : IsPath ss (z :: r) ↔ z = 0 ∧ r.length < 200 ∧ Walks ss r r.length ∧ kindAt ss (atP r r.length).toNat = 7 := by
  constructor
  · rintro ⟨r', h, h1, h2, h3⟩
    cases h
    exact ⟨rfl, h1, h2, h3⟩
  · rintro ⟨rfl, h1, h2, h3⟩
    exact ⟨r, rfl, h1, h2, h3⟩

/-- Whoever walks stands at a place. -/
theorem Walks.place {ss : List St} (hok : okB ss = true) {r : List Int} {k : Nat} (h : Walks ss r k) : ∃ m : Nat, atP r k = (m : Int) ∧ m < ss.length := by
  have key : ∀ j, j ≤ k → ∃ m : Nat, atP r j = (m : Int) ∧ m < ss.length := by
    intro j
    induction j with
    | zero => exact fun _ => ⟨0, rfl, (ok_len hok).1⟩
    | succ j ih =>
      intro hj
      obtain ⟨m, h1, h2⟩ := ih (by omega)
      have h3 := h j (by omega)
      rw [h1, Int.toNat_natCast] at h3
      have h4 := low_next hok m h2 _ h3
      rw [atP_succ]
      exact ⟨(r.getD j 0).toNat, by omega, by omega⟩
  exact key k (Nat.le_refl _)

theorem Walks.succ {ss : List St} {r : List Int} {k : Nat} (h : Walks ss r k) (hx : r.getD k 0 ∈ nextOf ss (atP r k).toNat) : Walks ss r (k + 1) := by
  intro j hj
  by_cases e : j = k
  · subst e; exact hx
  · exact h j (by omega)

theorem Walks.le {ss : List St} {r : List Int} {k j : Nat} (h : Walks ss r k) (hj : j ≤ k) : Walks ss r j := fun i hi => h i (by omega)
theorem Walks.zero (ss : List St) (r : List Int) : Walks ss r 0 := fun _ h => absurd h (by omega)
end Go.Proofs.YtacgfbcfkjflmaaGreat
namespace Go.Proofs.YtacgfbcfkjflmaaGreat
open Go.RowKit

/-- Of a row of places, how many are so, and how many are so the other way, together. -/
def cntP (f g : Nat → Bool) (zs : List Int) : Nat := (zs.map (fun z => (if f z.toNat then 1 else 0) + (if g z.toNat then 1 else 0))).sum

theorem cntP_le (f g : Nat → Bool) (zs : List Int) : cntP f g zs ≤ 2 * zs.length := by
  induction zs with
  | nil => simp [cntP]
  | cons z zs ih =>
    unfold cntP at *
    simp only [List.map_cons, List.sum_cons, List.length_cons]
    have h1 : (if f z.toNat then 1 else 0) ≤ 1 := by split <;> omega
    have h2 : (if g z.toNat then 1 else 0) ≤ 1 := by split <;> omega
    omega

theorem cntP_take (f g : Nat → Bool) {zs : List Int} {k : Nat} (h : k < zs.length) : cntP f g (zs.take (k + 1)) = cntP f g (zs.take k) + ((if f (zs.getD k 0).toNat then 1 else 0) + (if g (zs.getD k 0).toNat then 1 else 0)) := by
  have e : zs.getD k 0 = zs[k] := by rw [List.getD_eq_getElem?_getD, List.getElem?_eq_getElem h]; rfl
  unfold cntP
  rw [List.take_add_one, List.getElem?_eq_getElem h, e, List.map_append, List.sum_append]
  simp only [Option.toList_some, List.map_cons, List.map_nil, List.sum_cons, List.sum_nil, Nat.add_zero]

theorem cntP_at (f g : Nat → Bool) {zs : List Int} {k m : Nat} (h : k < zs.length) (hm : zs.getD k 0 = (m : Int)) : cntP f g (zs.take (k + 1)) = cntP f g (zs.take k) + ((if f m then 1 else 0) + (if g m then 1 else 0)) := by
  have h1 := cntP_take f g h
  rw [hm] at h1
  exact h1

/-- What is told of a path: its count, if the way has the form and it is a path; else -1. -/
def CountOr (ss : List St) (e : E5) (ps ts : List Bool) (zs : List Int) (n : Int) : Prop :=
  (FormP ss e ps ts ∧ IsPath ss zs ∧ n = (cntP (fun j => ps.getD j false) (fun j => cF e ss j && !ts.getD j false) zs : Int)) ∨ (¬ (FormP ss e ps ts ∧ IsPath ss zs) ∧ n = -1)

theorem CountOr.unique {ss : List St} {e : E5} {ps ts : List Bool} {zs : List Int} {n m : Int} (h : CountOr ss e ps ts zs n) (h' : CountOr ss e ps ts zs m) : n = m := by
  rcases h with ⟨h1, h2, rfl⟩ | ⟨h1, rfl⟩
  · rcases h' with ⟨_, _, rfl⟩ | ⟨k1, rfl⟩
    · rfl
    · exact absurd ⟨h1, h2⟩ k1
  · rcases h' with ⟨k1, k2, rfl⟩ | ⟨_, rfl⟩
    · exact absurd ⟨k1, k2⟩ h1
    · rfl

theorem IsPath.places {ss : List St} (hok : okB ss = true) {zs : List Int} (h : IsPath ss zs) : ∀ z ∈ zs, 0 ≤ z ∧ z.toNat < ss.length := by
  obtain ⟨r, rfl, _, h2, _⟩ := h
  intro z hz
  rcases List.mem_cons.1 hz with rfl | h3
  · exact ⟨Int.le_refl _, (ok_len hok).1⟩
  · obtain ⟨j, hj, rfl⟩ := List.mem_iff_getElem.1 h3
    obtain ⟨m, h4, h5⟩ := (h2.le (j := j + 1) (by omega)).place hok
    rw [atP_succ, List.getD_eq_getElem?_getD, List.getElem?_eq_getElem hj] at h4
    simp only [Option.getD_some] at h4
    omega

theorem IsPath.len {ss : List St} {zs : List Int} (h : IsPath ss zs) : zs.length ≤ 200 := by
  obtain ⟨r, rfl, h1, _, _⟩ := h
  simp only [List.length_cons]
  omega
end Go.Proofs.YtacgfbcfkjflmaaGreat
