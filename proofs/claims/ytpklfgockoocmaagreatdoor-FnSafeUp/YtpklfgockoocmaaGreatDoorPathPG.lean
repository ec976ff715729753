/- Paths, plainly: when a row of numbers is one. On a path: where it will be reckoned it is, before an operand changes; where it was reckoned it was, and no operand changed since. -/
import Derived.Test.YtpklfgockoocmaaGreatDoorBaseG
import Derived.Test.YtpklfgockoocmaaGreatDoorTo
namespace Go.Proofs.YtpklfgockoocmaaGreatDoor
open Go.RowKit

/-- A slice of numbers, and that it has room for them. -/
def IntsC (w : World) (v : Value) (zs : List Int) : Prop :=
  ∃ ao b o cap, v = .slice ao zs.length cap ∧ zs.length ≤ cap ∧ (0 < zs.length → ao = some ⟨b, o, none⟩) ∧ ∀ i, i < zs.length → w.cell? ⟨b, o + i, none⟩ = some (.int .i64 (zs.getD i 0))

theorem IntsC.at {w : World} {v : Value} {zs : List Int} (h : IntsC w v zs) : IntsAt w v zs := by
  obtain ⟨ao, b, o, cap, e, _, h1, h2⟩ := h
  exact ⟨ao, b, o, cap, e, h1, h2⟩

theorem IntsC.keep {w w' : World} {v : Value} {zs : List Int} (h : IntsC w v zs) (hb : Below w.heap.size w w') : IntsC w' v zs := by
  obtain ⟨ao, b, o, cap, e, h0, h1, h2⟩ := h
  exact ⟨ao, b, o, cap, e, h0, h1, fun i hi => cell_keep hb (h2 i hi)⟩

theorem IntsOwn.c {lo : Nat} {w : World} {v : Value} {zs : List Int} (h : IntsOwn lo w v zs) : IntsC w v zs := by
  obtain ⟨b, hv, _, hr⟩ := h
  exact ⟨_, b, 0, _, hv, Nat.le_refl _, fun _ => rfl, fun i hi => by rw [Nat.zero_add, hr.cell hi]⟩

/-- A step's kind, by its place. -/
def kindAt (ss : List St) (k : Nat) : Int := ((ss[k]?).map St.kind).getD 0
theorem kindAt_get {ss : List St} {k : Nat} (hk : k < ss.length) : kindAt ss k = ss[k].kind := by simp [kindAt, hk]

/-- Where one stands when one has come past k of the numbers behind the first step. -/
def atP (r : List Int) (k : Nat) : Int := (0 :: r).getD k 0
theorem atP_zero (r : List Int) : atP r 0 = 0 := rfl
theorem atP_succ (r : List Int) (k : Nat) : atP r (k + 1) = r.getD k 0 := by simp [atP]

/-- The first k steps behind the first are come to, one behind the other. -/
def Walks (ss : List St) (r : List Int) (k : Nat) : Prop := ∀ j, j < k → r.getD j 0 ∈ nextOf ss (atP r j).toNat

/-- A path: from the first step on, each behind the one ahead, the last an end. -/
def IsPath (ss : List St) (zs : List Int) : Prop :=
  ∃ r, zs = 0 :: r ∧ r.length < 200 ∧ Walks ss r r.length ∧ kindAt ss (atP r r.length).toNat = 7

theorem IsPath.nil {ss : List St} : ¬ IsPath ss [] := fun ⟨_, h, _⟩ => by cases h

theorem IsPath.cons_iff {ss : List St} {z : Int} {r : List Int} : IsPath ss (z :: r) ↔ z = 0 ∧ r.length < 200 ∧ Walks ss r r.length ∧ kindAt ss (atP r r.length).toNat = 7 := by
  constructor
  · rintro ⟨r', h, h1, h2, h3⟩
    cases h
    exact ⟨rfl, h1, h2, h3⟩
  · rintro ⟨rfl, h1, h2, h3⟩
    exact ⟨r, rfl, h1, h2, h3⟩

/-- Whoever walks stands at a place. -/
theorem Walks.place {ss : List St} (hok : okB ss = true) {r : List Int} {k : Nat} (h : Walks ss r k) : ∃ m : Nat, atP r k = (m : Int) ∧ m < ss.length := by
  have key : ∀ j, j ≤ k → ∃ m : Nat, atP r j = (m : Int) ∧ m < ss.length := by
    intro j
    induction j with
    | zero => exact fun _ => ⟨0, rfl, (ok_len hok).1⟩
    | succ j ih =>
      intro hj
      obtain ⟨m, h1, h2⟩ := ih (by omega)
      have h3 := h j (by omega)
      rw [h1, Int.toNat_natCast] at h3
      have h4 := low_next hok m h2 _ h3
      rw [atP_succ]
      exact ⟨(r.getD j 0).toNat, by omega, by omega⟩
  exact key k (Nat.le_refl _)

theorem Walks.succ {ss : List St} {r : List Int} {k : Nat} (h : Walks ss r k) (hx : r.getD k 0 ∈ nextOf ss (atP r k).toNat) : Walks ss r (k + 1) := by
  intro j hj
  by_cases e : j = k
  · subst e; exact hx
  · exact h j (by omega)

theorem Walks.le {ss : List St} {r : List Int} {k j : Nat} (h : Walks ss r k) (hj : j ≤ k) : Walks ss r j := fun i hi => h i (by omega)
theorem Walks.zero (ss : List St) (r : List Int) : Walks ss r 0 := fun _ h => absurd h (by omega)
end Go.Proofs.YtpklfgockoocmaaGreatDoor
namespace Go.Proofs.YtpklfgockoocmaaGreatDoor
open Go.RowKit

/-- The place on a path, as a number. -/
def onP (zs : List Int) (k : Nat) : Nat := (zs.getD k 0).toNat

theorem IsPath.at {ss : List St} {zs : List Int} (hok : okB ss = true) (h : IsPath ss zs) {k : Nat} (hk : k < zs.length) : zs.getD k 0 = (onP zs k : Int) ∧ onP zs k < ss.length := by
  obtain ⟨r, rfl, _, h2, _⟩ := h
  rw [List.length_cons] at hk
  obtain ⟨m, h3, h4⟩ := Walks.place hok (h2.le (show k ≤ r.length by omega))
  have e : (0 :: r).getD k 0 = (m : Int) := h3
  unfold onP
  rw [e, Int.toNat_natCast]
  exact ⟨rfl, h4⟩

theorem IsPath.first {ss : List St} {zs : List Int} (h : IsPath ss zs) : 0 < zs.length ∧ onP zs 0 = 0 := by
  obtain ⟨r, rfl, _, _, _⟩ := h
  exact ⟨by simp, rfl⟩

theorem IsPath.step {ss : List St} {zs : List Int} (hok : okB ss = true) (h : IsPath ss zs) {k : Nat} (hk : k + 1 < zs.length) : (onP zs (k + 1) : Int) ∈ nextOf ss (onP zs k) := by
  have e := (h.at hok hk).1
  obtain ⟨r, rfl, _, h2, _⟩ := h
  rw [List.length_cons] at hk
  rw [← e]
  exact h2 k (by omega)

theorem IsPath.last {ss : List St} {zs : List Int} (hok : okB ss = true) (h : IsPath ss zs) {k : Nat} (hk : k + 1 = zs.length) : nextOf ss (onP zs k) = [] := by
  have h4 := (h.at hok (show k < zs.length by omega)).2
  obtain ⟨r, rfl, _, _, h3⟩ := h
  rw [List.length_cons] at hk
  obtain rfl : k = r.length := by omega
  have e : onP (0 :: r) r.length = (atP r r.length).toNat := rfl
  rw [e] at h4 ⊢
  rw [kindAt_get h4] at h3
  rw [nextOf_get h4]
  have h5 := ok_step hok (List.getElem?_eq_getElem h4)
  unfold stepB at h5
  simp only [Bool.and_eq_true, decide_eq_true_eq] at h5
  have h6 := h5.1.1
  rw [h3] at h6
  have h7 : many 7 = 0 := by decide
  rw [h7] at h6
  exact List.eq_nil_of_length_eq_zero (by omega)

theorem IsPath.reach {ss : List St} {zs : List Int} {rs : List Bool} (hok : okB ss = true) (hr : IsReach ss rs) (h : IsPath ss zs) : ∀ {k : Nat}, k < zs.length → Reaches ss (onP zs k)
  | 0, _ => by rw [h.first.2]; exact Reaches.first ss
  | k + 1, hk => by
    have h1 := IsPath.reach hok hr h (show k < zs.length by omega)
    have h2 := (h.at hok (show k < zs.length by omega)).2
    have h3 := h.step hok hk
    rw [nextOf_get h2] at h3
    exact h1.on (List.getElem?_eq_getElem h2) h3

/-- Where it will be reckoned, and is not, it is kept, and will be reckoned behind. -/
theorem IsDown.on {ss : List St} {e : E5} {rs : List Bool} {d : Nat → Bool} (hok : okB ss = true) (h : IsDown ss e rs d) {zs : List Int} (hp : IsPath ss zs) {k : Nat} (hk : k < zs.length) (hd : d (onP zs k) = true) (hc : cF e ss (onP zs k) = false) :
    kF e ss (onP zs k) = true ∧ k + 1 < zs.length ∧ d (onP zs (k + 1)) = true := by
  have h1 := (h.fit _ (hp.at hok hk).2 hd).2
  unfold downF at h1
  rw [hc, Bool.false_or] at h1
  simp only [Bool.and_eq_true, decide_eq_true_eq] at h1
  obtain ⟨h2, h3, h4⟩ := h1
  have h5 : k + 1 < zs.length := by
    refine Classical.byContradiction fun hn => ?_
    rw [hp.last hok (show k + 1 = zs.length by omega)] at h3
    simp at h3
  refine ⟨h2, h5, ?_⟩
  unfold allI at h4
  rw [List.all_eq_true] at h4
  have h6 := h4 _ (hp.step hok h5)
  rwa [Int.toNat_natCast] at h6

/-- Where it was reckoned is not the first step, and the one ahead keeps it, and reckons it, or it was reckoned there. -/
theorem IsUp.on {ss : List St} {e : E5} {rs : List Bool} {u : Nat → Bool} (hok : okB ss = true) (hr : IsReach ss rs) (h : IsUp ss e rs u) {zs : List Int} (hp : IsPath ss zs) {k : Nat} (hk : k < zs.length) (hd : u (onP zs k) = true) :
    ∃ m, k = m + 1 ∧ kF e ss (onP zs m) = true ∧ (cF e ss (onP zs m) = true ∨ u (onP zs m) = true) := by
  have h1 := (h.fit _ (hp.at hok hk).2 hd).2
  unfold upF at h1
  simp only [Bool.and_eq_true, decide_eq_true_eq] at h1
  cases k with
  | zero => exact absurd hp.first.2 h1.1
  | succ m =>
    refine ⟨m, rfl, ?_⟩
    have hm : m < zs.length := by omega
    have h2 : (onP zs m : Int) ∈ pF ss rs (onP zs (m + 1)) := by
      refine mem_preds.2 ⟨(hp.at hok hm).2, ?_, hp.step hok hk⟩
      have h3 := (hr.2 _ (hp.at hok hm).2).2 (hp.reach hok hr hm)
      unfold rF
      rw [List.getD_eq_getElem?_getD, h3]
      rfl
    have h4 := h1.2
    unfold allI at h4
    rw [List.all_eq_true] at h4
    have h5 := h4 _ h2
    rw [Int.toNat_natCast] at h5
    simp only [Bool.or_eq_true, Bool.and_eq_true] at h5
    exact h5
end Go.Proofs.YtpklfgockoocmaaGreatDoor
