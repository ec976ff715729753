/- Who stands nearest over a step, plainly. -/
import Derived.Test.YtblagfndeffilaaMat
import Derived.Test.YtblagfndeffilaaTreeM
namespace Go.Proofs.Ytblagfndeffilaa

/-- Of two that stand over a third one stands over the other. -/
theorem Dom.chain {ss : List St} {x a b : Nat} (ha : Dom ss a x) (hb : Dom ss b x) : Dom ss a b ∨ Dom ss b a := by
  apply Classical.byContradiction
  intro hn
  have h1 : Av ss a b := Classical.byContradiction fun h => hn (Or.inl ⟨hb.reach, h⟩)
  have h2 : Av ss b a := Classical.byContradiction fun h => hn (Or.inr ⟨ha.reach, h⟩)
  have key : Av ss a x ∨ Av ss b x := ha.1 (fun y => Av ss a y ∨ Av ss b y) (by
    by_cases e : 0 = a
    · by_cases e2 : 0 = b
      · exact absurd (Or.inl (by rw [← e, ← e2]; exact Dom.refl (Reaches.first ss))) hn
      · exact Or.inr (Av.first ss e2)
    · exact Or.inl (Av.first ss e)) (fun y j s hy hs hj => by
    rcases hy with hy | hy
    · by_cases e : j = a
      · exact Or.inr (e ▸ h2)
      · exact Or.inl (hy.on ⟨s, hs, hj⟩ e)
    · by_cases e : j = b
      · exact Or.inl (e ▸ h1)
      · exact Or.inr (hy.on ⟨s, hs, hj⟩ e))
  rcases key with k | k
  · exact ha.2 k
  · exact hb.2 k

theorem Dom.same {ss : List St} {a b : Nat} (h : Dom ss a b) (k : Dom ss b a) : a = b := by
  apply Classical.byContradiction
  intro hne
  have key : ∀ y, Reaches ss y → Av ss a y ∧ Av ss b y := by
    intro y hy
    refine hy (fun y => Av ss a y ∧ Av ss b y) ⟨Av.first ss fun e => ?_, Av.first ss fun e => ?_⟩ ?_
    · rw [← e] at k
      exact hne (e.symm.trans k.zero.symm)
    · rw [← e] at h
      exact hne (h.zero.trans e)
    · intro x j s hx hs hj
      have he : Edge ss x j := ⟨s, hs, hj⟩
      refine ⟨hx.1.on he fun e => ?_, hx.2.on he fun e => ?_⟩
      · subst e
        exact k.2 (hx.2.on he hne)
      · subst e
        exact h.2 (hx.1.on he (Ne.symm hne))
  exact (key a h.reach).1.ne rfl

/-- The nearest other one that stands on each way to a step, if there is one. -/
def IsNear (ss : List St) (i : Nat) : Option Nat → Prop
  | none => ∀ d, d ≠ i → ¬ Dom ss d i
  | some b => b ≠ i ∧ Dom ss b i ∧ ∀ d, d ≠ i → Dom ss d i → Dom ss d b

theorem IsNear.unique {ss : List St} {i : Nat} {a b : Option Nat} (ha : IsNear ss i a) (hb : IsNear ss i b) : a = b := by
  cases a with
  | none =>
    cases b with
    | none => rfl
    | some y => exact absurd hb.2.1 (ha y hb.1)
  | some x =>
    cases b with
    | none => exact absurd ha.2.1 (hb x ha.1)
    | some y => rw [Dom.same (hb.2.2 x ha.1 ha.2.1) (ha.2.2 y hb.1 hb.2.1)]

theorem OverF.isNear {ss : List St} {ov : Nat → Option Nat} (h : OverF ss ov) (i : Nat) : IsNear ss i (if i = 0 then none else ov i) := by
  by_cases e : i = 0
  · subst e
    exact fun d hd hdom => hd hdom.zero
  · rw [if_neg e]
    cases ho : ov i with
    | none =>
      intro d _ hdom
      obtain ⟨y, hy⟩ := (h.reach i).1 hdom.1
      rw [ho] at hy
      cases hy
    | some y => exact h.near i y ho e

/-- What is told of each step, of any program: the nearest one over it, -1 if there is none. -/
def OverOr (ss : List St) (zs : List Int) : Prop := (okB ss = true ∧ ∃ f : Nat → Option Nat, (∀ i, i < ss.length → IsNear ss i (f i)) ∧ zs = (List.range ss.length).map (fun i => ovI (f i))) ∨ (okB ss = false ∧ zs = [])

theorem OverOr.unique {ss : List St} {a b : List Int} (ha : OverOr ss a) (hb : OverOr ss b) : a = b := by
  rcases ha with ⟨h1, f, h2, h3⟩ | ⟨h1, h2⟩ <;> rcases hb with ⟨h4, g, h5, h6⟩ | ⟨h4, h5⟩
  · rw [h3, h6]
    apply List.map_congr_left
    intro i hi
    rw [(h2 i (by simpa using hi)).unique (h5 i (by simpa using hi))]
  · rw [h1] at h4; cases h4
  · rw [h1] at h4; cases h4
  · rw [h2, h5]

theorem OverOr.bound {ss : List St} {a : List Int} (ha : OverOr ss a) (hn : ss.length ≤ 1048576) : a.length ≤ 1048576 := by
  rcases ha with ⟨_, f, _, h2⟩ | ⟨_, h2⟩
  · rw [h2]; simpa using hn
  · rw [h2]; simp

/-- The best of the first k. -/
def NearK (ss : List St) (i k : Nat) : Option Nat → Prop
  | none => ∀ d, d < k → d ≠ i → ¬ Dom ss d i
  | some b => b ≠ i ∧ Dom ss b i ∧ ∀ d, d < k → d ≠ i → Dom ss d i → Dom ss d b

theorem NearK.skip {ss : List St} {i k : Nat} {o : Option Nat} (h : NearK ss i k o) (hk : k = i ∨ ¬ Dom ss k i) : NearK ss i (k + 1) o := by
  cases o with
  | none =>
    intro d hd hdi hdom
    by_cases e : d = k
    · subst e
      rcases hk with e | e
      · exact hdi e
      · exact e hdom
    · exact h d (by omega) hdi hdom
  | some b =>
    refine ⟨h.1, h.2.1, fun d hd hdi hdom => ?_⟩
    by_cases e : d = k
    · subst e
      rcases hk with e | e
      · exact absurd e hdi
      · exact absurd hdom e
    · exact h.2.2 d (by omega) hdi hdom

theorem NearK.first {ss : List St} {i k : Nat} (h : NearK ss i k none) (hk : k ≠ i) (hd : Dom ss k i) : NearK ss i (k + 1) (some k) := by
  refine ⟨hk, hd, fun d hdk hdi hdom => ?_⟩
  by_cases e : d = k
  · subst e
    exact Dom.refl hdom.reach
  · exact absurd hdom (h d (by omega) hdi)

theorem NearK.take {ss : List St} {i k b : Nat} (h : NearK ss i k (some b)) (hk : k ≠ i) (hd : Dom ss k i) (hbk : Dom ss b k) : NearK ss i (k + 1) (some k) := by
  refine ⟨hk, hd, fun d hdk hdi hdom => ?_⟩
  by_cases e : d = k
  · subst e
    exact Dom.refl hdom.reach
  · exact hbk.trans (h.2.2 d (by omega) hdi hdom)

theorem NearK.leave {ss : List St} {i k b : Nat} (h : NearK ss i k (some b)) (hd : Dom ss k i) (hbk : ¬ Dom ss b k) : NearK ss i (k + 1) (some b) := by
  refine ⟨h.1, h.2.1, fun d hdk hdi hdom => ?_⟩
  by_cases e : d = k
  · subst e
    rcases hd.chain h.2.1 with c | c
    · exact c
    · exact absurd c hbk
  · exact h.2.2 d (by omega) hdi hdom

theorem NearK.fin {ss : List St} (hok : okB ss = true) {i : Nat} {o : Option Nat} (h : NearK ss i ss.length o) : IsNear ss i o := by
  cases o with
  | none => exact fun d hdi hdom => h d (reach_lt hok hdom.reach) hdi hdom
  | some b => exact ⟨h.1, h.2.1, fun d hdi hdom => h.2.2 d (reach_lt hok hdom.reach) hdi hdom⟩
end Go.Proofs.Ytblagfndeffilaa
