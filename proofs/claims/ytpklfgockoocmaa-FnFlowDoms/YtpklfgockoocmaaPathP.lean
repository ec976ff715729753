/- Paths, plainly: when a row of numbers is one. -/
import Derived.Test.YtpklfgockoocmaaBaseG
import Derived.Test.YtpklfgockoocmaaTo
namespace Go.Proofs.Ytpklfgockoocmaa
open Go.RowKit

/-- A slice of numbers, and that it has room for them. -/
def IntsC (w : World) (v : Value) (zs : List Int) : Prop :=
  ∃ ao b o cap, v = .slice ao zs.length cap ∧ zs.length ≤ cap ∧ (0 < zs.length → ao = some ⟨b, o, none⟩) ∧ ∀ i, i < zs.length → w.cell? ⟨b, o + i, none⟩ = some (.int .i64 (zs.getD i 0))

theorem IntsC.at {w : World} {v : Value} {zs : List Int} (h : IntsC w v zs) : IntsAt w v zs := by
  obtain ⟨ao, b, o, cap, e, _, h1, h2⟩ := h
  exact ⟨ao, b, o, cap, e, h1, h2⟩

theorem IntsC.keep {w w' : World} {v : Value} {zs : List Int} (h : IntsC w v zs) (hb : Below w.heap.size w w') : IntsC w' v zs := by
  obtain ⟨ao, b, o, cap, e, h0, h1, h2⟩ := h
  exact ⟨ao, b, o, cap, e, h0, h1, fun i hi => cell_keep hb (h2 i hi)⟩

theorem IntsOwn.c {lo : Nat} {w : World} {v : Value} {zs : List Int} (h : IntsOwn lo w v zs) : IntsC w v zs := by
  obtain ⟨b, hv, _, hr⟩ := h
  exact ⟨_, b, 0, _, hv, Nat.le_refl _, fun _ => rfl, fun i hi => by rw [Nat.zero_add, hr.cell hi]⟩

/-- A step's kind, by its place. -/
def kindAt (ss : List St) (k : Nat) : Int := ((ss[k]?).map St.kind).getD 0
theorem kindAt_get {ss : List St} {k : Nat} (hk : k < ss.length) : kindAt ss k = ss[k].kind := by simp [kindAt, hk]

/-- Where one stands when one has come past k of the numbers behind the first step. -/
def atP (r : List Int) (k : Nat) : Int := (0 :: r).getD k 0
theorem atP_zero (r : List Int) : atP r 0 = 0 := rfl
theorem atP_succ (r : List Int) (k : Nat) : atP r (k + 1) = r.getD k 0 := by simp [atP]

/-- The first k steps behind the first are come to, one behind the other. -/
def Walks (ss : List St) (r : List Int) (k : Nat) : Prop := ∀ j, j < k → r.getD j 0 ∈ nextOf ss (atP r j).toNat

/-- A path: from the first step on, each behind the one ahead, the last an end. -/
def IsPath (ss : List St) (zs : List Int) : Prop :=
  ∃ r, zs = 0 :: r ∧ r.length < 200 ∧ Walks ss r r.length ∧ kindAt ss (atP r r.length).toNat = 7

theorem IsPath.nil {ss : List St} : ¬ IsPath ss [] := fun ⟨_, h, _⟩ => by cases h

theorem IsPath.cons_iff {ss : List St} {z : Int} {r : List Int} : IsPath ss (z :: r) ↔ z = 0 ∧ r.length < 200 ∧ Walks ss r r.length ∧ kindAt ss (atP r r.length).toNat = 7 := by
  constructor
  · rintro ⟨r', h, h1, h2, h3⟩
    cases h
    exact ⟨rfl, h1, h2, h3⟩
  · rintro ⟨rfl, h1, h2, h3⟩
    exact ⟨r, rfl, h1, h2, h3⟩

/-- Whoever walks stands at a place. -/
theorem Walks.place {ss : List St} (hok : okB ss = true) {r : List Int} {k : Nat} (h : Walks ss r k) : ∃ m : Nat, atP r k = (m : Int) ∧ m < ss.length := by
  have key : ∀ j, j ≤ k → ∃ m : Nat, atP r j = (m : Int) ∧ m < ss.length := by
    intro j
    induction j with
    | zero => exact fun _ => ⟨0, rfl, (ok_len hok).1⟩
    | succ j ih =>
      intro hj
      obtain ⟨m, h1, h2⟩ := ih (by omega)
      have h3 := h j (by omega)
      rw [h1, Int.toNat_natCast] at h3
      have h4 := low_next hok m h2 _ h3
      rw [atP_succ]
      exact ⟨(r.getD j 0).toNat, by omega, by omega⟩
  exact key k (Nat.le_refl _)

theorem Walks.succ {ss : List St} {r : List Int} {k : Nat} (h : Walks ss r k) (hx : r.getD k 0 ∈ nextOf ss (atP r k).toNat) : Walks ss r (k + 1) := by
  intro j hj
  by_cases e : j = k
  · subst e; exact hx
  · exact h j (by omega)

theorem Walks.le {ss : List St} {r : List Int} {k j : Nat} (h : Walks ss r k) (hj : j ≤ k) : Walks ss r j := fun i hi => h i (by omega)
theorem Walks.zero (ss : List St) (r : List Int) : Walks ss r 0 := fun _ h => absurd h (by omega)
end Go.Proofs.Ytpklfgockoocmaa
