/- Which steps stand on each way to a step, plainly; and the tree of nearest ones, as it is made pass by pass. -/
import Derived.Test.YtljlgffkhocgkaaDoorLeave
namespace Go.Proofs.YtljlgffkhocgkaaDoor

def Edge (ss : List St) (a j : Nat) : Prop := ∃ s, ss[a]? = some s ∧ (j : Int) ∈ s.next

theorem Reaches.edge {ss : List St} {a j : Nat} (h : Reaches ss a) (e : Edge ss a j) : Reaches ss j := by
  obtain ⟨s, h1, h2⟩ := e
  exact h.on h1 h2

theorem reach_lt {ss : List St} (hok : okB ss = true) {x : Nat} (h : Reaches ss x) : x < ss.length := by
  refine h (fun j => j < ss.length) (by have := ok_len hok; omega) ?_
  intro a j s _ hs hj
  obtain ⟨t, ht, e⟩ := mem_getD hj
  obtain ⟨y, hy, hyn, _⟩ := ok_next hok hs ht
  have : y = j := by rw [e] at hy; omega
  omega

/-- A way leads from the first step to x past d. -/
def Av (ss : List St) (d x : Nat) : Prop := ∀ S : Nat → Prop, (0 ≠ d → S 0) → (∀ a j, S a → Edge ss a j → j ≠ d → S j) → S x

theorem Av.first (ss : List St) {d : Nat} (h : 0 ≠ d) : Av ss d 0 := fun _ h0 _ => h0 h

theorem Av.on {ss : List St} {d a j : Nat} (h : Av ss d a) (e : Edge ss a j) (hj : j ≠ d) : Av ss d j := fun S h0 h1 => h1 a j (h S h0 h1) e hj

theorem Av.reach {ss : List St} {d x : Nat} (h : Av ss d x) : Reaches ss x := h (Reaches ss) (fun _ => Reaches.first ss) (fun _ _ h1 h2 _ => h1.edge h2)

theorem Av.ne {ss : List St} {d x : Nat} (h : Av ss d x) : x ≠ d := h (fun x => x ≠ d) (fun h => h) (fun _ _ _ _ h => h)

/-- d stands on each way to x. -/
def Dom (ss : List St) (d x : Nat) : Prop := Reaches ss x ∧ ¬ Av ss d x

theorem Dom.refl {ss : List St} {x : Nat} (h : Reaches ss x) : Dom ss x x := ⟨h, fun k => k.ne rfl⟩

theorem Dom.pred {ss : List St} {d x p : Nat} (h : Dom ss d x) (hd : d ≠ x) (hp : Reaches ss p) (e : Edge ss p x) : Dom ss d p :=
  ⟨hp, fun k => h.2 (k.on e (Ne.symm hd))⟩

theorem Dom.zero {ss : List St} {d : Nat} (h : Dom ss d 0) : d = 0 := by
  by_cases e : d = 0
  · exact e
  · exact absurd (Av.first ss (Ne.symm e)) h.2

theorem Dom.first {ss : List St} {x : Nat} (h : Reaches ss x) : Dom ss 0 x := by
  refine ⟨h, fun k => ?_⟩
  exact k (fun _ => False) (fun h => h rfl) (fun _ _ h _ _ => h)

/-- What stands on each way can be come to. -/
theorem Dom.reach {ss : List St} {d x : Nat} (h : Dom ss d x) : Reaches ss d := by
  apply Classical.byContradiction
  intro hd
  refine h.2 ?_
  have : Reaches ss x ∧ Av ss d x := h.1 (fun x => Reaches ss x ∧ Av ss d x) ⟨Reaches.first ss, Av.first ss fun e => hd (e ▸ Reaches.first ss)⟩ (fun a j s ha hs hj => by
    have r := ha.1.on hs hj
    exact ⟨r, ha.2.on ⟨s, hs, hj⟩ fun e => hd (e ▸ r)⟩)
  exact this.2

theorem Av.split {ss : List St} {d x : Nat} (h : Av ss d x) (y : Nat) : Av ss y x ∨ Av ss d y := by
  have : Av ss d x ∧ (Av ss y x ∨ Av ss d y) := h (fun x => Av ss d x ∧ (Av ss y x ∨ Av ss d y)) (fun h0 => ⟨Av.first ss h0, ?_⟩) (fun a j ha he hj => ⟨ha.1.on he hj, ?_⟩)
  · exact this.2
  · by_cases e : 0 = y
    · exact Or.inr (e ▸ Av.first ss h0)
    · exact Or.inl (Av.first ss e)
  · rcases ha.2 with k | k
    · by_cases e : j = y
      · subst e
        exact Or.inr (ha.1.on he hj)
      · exact Or.inl (k.on he e)
    · exact Or.inr k

theorem Dom.trans {ss : List St} {d y x : Nat} (h : Dom ss y x) (k : Dom ss d y) : Dom ss d x := by
  refine ⟨h.1, fun a => ?_⟩
  rcases a.split y with b | b
  · exact h.2 b
  · exact k.2 b

/-- A way to x past d, with c edges that do not lead down by rank. -/
def WA (ss : List St) (rk : Nat → Nat) (d c x : Nat) : Prop := ∀ S : Nat → Nat → Prop, (0 ≠ d → S 0 0) → (∀ c a j, S c a → Edge ss a j → j ≠ d → S (if rk j < rk a then c else c + 1) j) → S c x

theorem WA.first (ss : List St) (rk : Nat → Nat) {d : Nat} (h : 0 ≠ d) : WA ss rk d 0 0 := fun _ h0 _ => h0 h

theorem WA.on {ss : List St} {rk : Nat → Nat} {d c a j : Nat} (h : WA ss rk d c a) (e : Edge ss a j) (hj : j ≠ d) : WA ss rk d (if rk j < rk a then c else c + 1) j := fun S h0 h1 => h1 c a j (h S h0 h1) e hj

theorem WA.av {ss : List St} {rk : Nat → Nat} {d c x : Nat} (h : WA ss rk d c x) : Av ss d x := h (fun _ x => Av ss d x) (fun h0 => Av.first ss h0) (fun _ _ _ ha he hj => ha.on he hj)

theorem WA.split {ss : List St} {rk : Nat → Nat} {d c x : Nat} (h : WA ss rk d c x) (y : Nat) : WA ss rk y c x ∨ ∃ c', c' ≤ c ∧ WA ss rk d c' y := by
  have : WA ss rk d c x ∧ (WA ss rk y c x ∨ ∃ c', c' ≤ c ∧ WA ss rk d c' y) := h (fun c x => WA ss rk d c x ∧ (WA ss rk y c x ∨ ∃ c', c' ≤ c ∧ WA ss rk d c' y)) (fun h0 => ⟨WA.first ss rk h0, ?_⟩) (fun c a j ha he hj => ⟨ha.1.on he hj, ?_⟩)
  · exact this.2
  · by_cases e : 0 = y
    · exact Or.inr ⟨0, Nat.le_refl _, e ▸ WA.first ss rk h0⟩
    · exact Or.inl (WA.first ss rk e)
  · rcases ha.2 with k | ⟨c', k1, k2⟩
    · by_cases e : j = y
      · subst e
        exact Or.inr ⟨_, Nat.le_refl _, ha.1.on he hj⟩
      · exact Or.inl (k.on he e)
    · exact Or.inr ⟨c', by split <;> omega, k2⟩

/-- How such a way ends. -/
theorem WA.last {ss : List St} {rk : Nat → Nat} {d c x : Nat} (h : WA ss rk d c x) : x = 0 ∨ ∃ a c', WA ss rk d c' a ∧ Edge ss a x ∧ x ≠ d ∧ c = if rk x < rk a then c' else c' + 1 := by
  have : WA ss rk d c x ∧ (x = 0 ∨ ∃ a c', WA ss rk d c' a ∧ Edge ss a x ∧ x ≠ d ∧ c = if rk x < rk a then c' else c' + 1) := h (fun c x => WA ss rk d c x ∧ (x = 0 ∨ ∃ a c', WA ss rk d c' a ∧ Edge ss a x ∧ x ≠ d ∧ c = if rk x < rk a then c' else c' + 1)) (fun h0 => ⟨WA.first ss rk h0, Or.inl rfl⟩) (fun c a j ha he hj => ⟨ha.1.on he hj, Or.inr ⟨a, c, ha.1, he, hj, rfl⟩⟩)
  exact this.2

/-- d stands on each way to x that has fewer than j such edges. -/
def Dj (ss : List St) (rk : Nat → Nat) (j d x : Nat) : Prop := ∀ c, c < j → ¬ WA ss rk d c x

theorem Dj.mono {ss : List St} {rk : Nat → Nat} {j i d x : Nat} (h : Dj ss rk j d x) (hi : i ≤ j) : Dj ss rk i d x := fun c hc => h c (by omega)

theorem Dj.refl (ss : List St) (rk : Nat → Nat) (j x : Nat) : Dj ss rk j x x := fun _ _ h => h.av.ne rfl

theorem Dj.trans {ss : List St} {rk : Nat → Nat} {j d y x : Nat} (h : Dj ss rk j y x) (k : Dj ss rk j d y) : Dj ss rk j d x := by
  intro c hc w
  rcases w.split y with b | ⟨c', b1, b2⟩
  · exact h c hc b
  · exact k c' (by omega) b2

theorem cnt_more {m m' : Nat → Bool} {n z : Nat} (h : ∀ j, j < n → m j = true → m' j = true) : cnt m n ≤ cnt m' n ∧ (z < n → m z = false → m' z = true → cnt m n < cnt m' n) := by
  induction n with
  | zero => exact ⟨Nat.le_refl _, fun h => by omega⟩
  | succ n ih =>
    have ih' := ih fun j hj => h j (by omega)
    have hn := h n (by omega)
    unfold cnt
    refine ⟨?_, fun h1 h2 h3 => ?_⟩
    · have := ih'.1
      cases e : m n
      · simp; omega
      · rw [hn e]; simp; omega
    · by_cases e : z = n
      · subst e
        rw [h2, h3]
        have := ih'.1
        simp; omega
      · have := ih'.2 (by omega) h2 h3
        cases e : m n
        · simp; omega
        · rw [hn e]; simp; omega

/-- Past d one comes with at most as many such edges as there are steps, if at all. -/
theorem Av.few {ss : List St} (hok : okB ss = true) (rk : Nat → Nat) {d x : Nat} (h : Av ss d x) : ∃ c, c ≤ ss.length ∧ WA ss rk d c x := by
  have dec : ∀ p : Prop, ∃ b : Bool, (b = true ↔ p) := fun p => by
    by_cases hp : p
    · exact ⟨true, by simp [hp]⟩
    · exact ⟨false, by simp [hp]⟩
  have main : ∀ k, (∀ y, Av ss d y → ∃ c, c ≤ k ∧ WA ss rk d c y) ∨ ∃ m : Nat → Bool, (∀ y, m y = true ↔ ∃ c, c ≤ k ∧ WA ss rk d c y) ∧ k ≤ cnt m ss.length := by
    intro k
    induction k with
    | zero =>
      refine Or.inr ⟨fun y => Classical.choose (dec (∃ c, c ≤ 0 ∧ WA ss rk d c y)), fun y => Classical.choose_spec (dec _), Nat.zero_le _⟩
    | succ k ih =>
      rcases ih with ih | ⟨m, hm, hk⟩
      · left
        intro y hy
        obtain ⟨c, h1, h2⟩ := ih y hy
        exact ⟨c, by omega, h2⟩
      · by_cases hall : ∀ y, (∃ c, c ≤ k + 1 ∧ WA ss rk d c y) → ∃ c, c ≤ k ∧ WA ss rk d c y
        · left
          intro y hy
          have : ∃ c, c ≤ k ∧ WA ss rk d c y := hy (fun y => ∃ c, c ≤ k ∧ WA ss rk d c y) (fun h0 => ⟨0, Nat.zero_le _, WA.first ss rk h0⟩) (fun a j ha he hj => by
            obtain ⟨c, h1, h2⟩ := ha
            exact hall j ⟨_, by split <;> omega, h2.on he hj⟩)
          obtain ⟨c, h1, h2⟩ := this
          exact ⟨c, by omega, h2⟩
        · right
          simp only [Classical.not_forall] at hall
          obtain ⟨z, hz, hn⟩ := hall
          refine ⟨fun y => Classical.choose (dec (∃ c, c ≤ k + 1 ∧ WA ss rk d c y)), fun y => Classical.choose_spec (dec _), ?_⟩
          have hzl : z < ss.length := by
            obtain ⟨c, _, h2⟩ := hz
            exact reach_lt hok h2.av.reach
          have hmf : m z = false := by
            cases e : m z
            · rfl
            · exact absurd ((hm z).1 e) hn
          have := (cnt_more (m := m) (m' := fun y => Classical.choose (dec (∃ c, c ≤ k + 1 ∧ WA ss rk d c y))) (n := ss.length) (z := z) (fun j _ hj => by
            obtain ⟨c, h1, h2⟩ := (hm j).1 hj
            exact (Classical.choose_spec (dec (∃ c, c ≤ k + 1 ∧ WA ss rk d c j))).2 ⟨c, by omega, h2⟩)).2 hzl hmf ((Classical.choose_spec (dec (∃ c, c ≤ k + 1 ∧ WA ss rk d c z))).2 hz)
          omega
  rcases main (ss.length + 1) with h1 | ⟨m, hm, hk⟩
  · rcases main ss.length with h2 | ⟨m, hm, hk⟩
    · exact h2 x h
    · have hle := cnt_le m ss.length
      have hfull : ∀ n, n ≤ cnt m n → ∀ j, j < n → m j = true := by
        intro n
        induction n with
        | zero => intro _ j hj; omega
        | succ n ih =>
          intro hn j hj
          unfold cnt at hn
          have := cnt_le m n
          cases e : m n
          · rw [e] at hn; simp at hn; omega
          · rw [e] at hn
            simp at hn
            by_cases ej : j = n
            · subst ej; exact e
            · exact ih hn j (by omega)
      exact (hm x).1 (hfull _ hk x (reach_lt hok h.reach))
  · have := cnt_le m ss.length
    omega

theorem Dj.dom {ss : List St} (hok : okB ss = true) {rk : Nat → Nat} {j d x : Nat} (h : Dj ss rk j d x) (hj : ss.length < j) (hx : Reaches ss x) : Dom ss d x := by
  refine ⟨hx, fun a => ?_⟩
  obtain ⟨c, h1, h2⟩ := a.few hok rk
  exact h c (by omega) h2

/-- What is so of the places in the order. -/
structure Rk (ss : List St) (rk : Nat → Nat) : Prop where
  inj : ∀ x y, Reaches ss x → Reaches ss y → rk x = rk y → x = y
  top : ∀ x, Reaches ss x → rk x ≤ rk 0
  fwd : ∀ x, Reaches ss x → x ≠ 0 → ∃ p, Reaches ss p ∧ Edge ss p x ∧ rk x < rk p

theorem Dom.rk {ss : List St} {rk : Nat → Nat} (hr : Rk ss rk) {d x : Nat} (h : Dom ss d x) : rk x ≤ rk d := by
  have main : ∀ n x, rk 0 - rk x ≤ n → Reaches ss x → rk d < rk x → Av ss d x := by
    intro n
    induction n with
    | zero =>
      intro x h1 hx h2
      have := hr.top x hx
      have e := hr.inj x 0 hx (Reaches.first ss) (by omega)
      subst e
      exact Av.first ss fun e => by rw [← e] at h2; omega
    | succ n ih =>
      intro x h1 hx h2
      by_cases e : x = 0
      · subst e
        exact Av.first ss fun e => by rw [← e] at h2; omega
      · obtain ⟨p, p1, p2, p3⟩ := hr.fwd x hx e
        have := hr.top p p1
        exact (ih p (by omega) p1 (by omega)).on p2 fun e => by rw [e] at h2; omega
  apply Classical.byContradiction
  intro hn
  exact h.2 (main _ x (Nat.le_refl _) h.1 (by omega))

theorem Dom.anti {ss : List St} {rk : Nat → Nat} (hr : Rk ss rk) {a b : Nat} (h : Dom ss a b) (k : Dom ss b a) : a = b :=
  hr.inj a b h.reach k.reach (Nat.le_antisymm (k.rk hr) (h.rk hr))

/-- From over to over. -/
def Up (ov : Nat → Option Nat) (x k : Nat) : Prop := ∀ S : Nat → Prop, S x → (∀ y z, S y → ov y = some z → S z) → S k

theorem Up.refl (ov : Nat → Option Nat) (x : Nat) : Up ov x x := fun _ h _ => h

theorem Up.snoc {ov : Nat → Option Nat} {x y z : Nat} (h : Up ov x y) (e : ov y = some z) : Up ov x z := fun S h0 h1 => h1 y z (h S h0 h1) e

theorem Up.trans {ov : Nat → Option Nat} {x y z : Nat} (h : Up ov x y) (k : Up ov y z) : Up ov x z := k (fun z => Up ov x z) h (fun _ _ h e => h.snoc e)

theorem Up.cons {ov : Nat → Option Nat} {x y z : Nat} (e : ov x = some y) (k : Up ov y z) : Up ov x z := ((Up.refl ov x).snoc e).trans k

theorem Up.cases {ov : Nat → Option Nat} {x k : Nat} (h : Up ov x k) : k = x ∨ ∃ y, ov x = some y ∧ Up ov y k := by
  refine h (fun k => k = x ∨ ∃ y, ov x = some y ∧ Up ov y k) (Or.inl rfl) ?_
  rintro y z (rfl | ⟨u, h1, h2⟩) e
  · exact Or.inr ⟨z, e, Up.refl _ _⟩
  · exact Or.inr ⟨u, h1, h2.snoc e⟩

/-- What stands above one and the same stands in a row. -/
theorem Up.chain {ov : Nat → Option Nat} {x a b : Nat} (h : Up ov x a) (k : Up ov x b) : Up ov a b ∨ Up ov b a := by
  refine h (fun a => Up ov a b ∨ Up ov b a) (Or.inl k) ?_
  rintro y z (h1 | h1) e
  · rcases h1.cases with rfl | ⟨u, h2, h3⟩
    · exact Or.inr ((Up.refl _ _).snoc e)
    · rw [e] at h2
      cases h2
      exact Or.inl h3
  · exact Or.inr (h1.snoc e)

/-- The tree, while it is made. -/
structure Tr (ss : List St) (rk : Nat → Nat) (ov : Nat → Option Nat) : Prop where
  zero : ov 0 = some 0
  reach : ∀ x y, ov x = some y → Reaches ss x ∧ Reaches ss y
  up : ∀ x y, ov x = some y → x ≠ 0 → rk x < rk y
  on : ∀ x y, ov x = some y → ∃ z, ov y = some z
  low : ∀ x y d, ov x = some y → x ≠ 0 → d ≠ x → Dom ss d x → Dom ss d y

theorem Tr.upRk {ss : List St} {rk : Nat → Nat} {ov : Nat → Option Nat} (h : Tr ss rk ov) {x k : Nat} (hu : Up ov x k) : rk x ≤ rk k := by
  refine hu (fun k => rk x ≤ rk k) (Nat.le_refl _) ?_
  intro y z h1 e
  by_cases e0 : y = 0
  · subst e0
    rw [h.zero] at e
    cases e
    exact h1
  · have := h.up y z e e0
    omega

theorem Tr.upOn {ss : List St} {rk : Nat → Nat} {ov : Nat → Option Nat} (h : Tr ss rk ov) {x k : Nat} (hu : Up ov x k) (hx : ∃ z, ov x = some z) : ∃ z, ov k = some z :=
  hu (fun k => ∃ z, ov k = some z) hx (fun y z _ e => h.on y z e)

theorem Tr.upZero {ss : List St} {rk : Nat → Nat} {ov : Nat → Option Nat} (h : Tr ss rk ov) {k : Nat} (hu : Up ov 0 k) : k = 0 :=
  hu (fun k => k = 0) rfl (fun y z hy e => by subst hy; rw [h.zero] at e; cases e; rfl)

/-- What two places that are looked for a meeting have, round by round. -/
structure Mt (ss : List St) (ov : Nat → Option Nat) (a0 b0 a b : Nat) : Prop where
  ua : Up ov a0 a
  ub : Up ov b0 b
  ona : ∃ z, ov a = some z
  onb : ∃ z, ov b = some z
  low : ∀ d, Dom ss d a0 → Dom ss d b0 → Dom ss d a ∧ Dom ss d b

theorem Mt.start {ss : List St} {ov : Nat → Option Nat} {a b : Nat} (ha : ∃ z, ov a = some z) (hb : ∃ z, ov b = some z) : Mt ss ov a b a b :=
  ⟨Up.refl _ _, Up.refl _ _, ha, hb, fun _ h1 h2 => ⟨h1, h2⟩⟩

theorem Mt.left {ss : List St} {rk : Nat → Nat} (hr : Rk ss rk) {ov : Nat → Option Nat} (ht : Tr ss rk ov) {a0 b0 a b z : Nat} (h : Mt ss ov a0 b0 a b) (hlt : rk a < rk b) (e : ov a = some z) : Mt ss ov a0 b0 z b ∧ rk a < rk z ∧ rk z ≤ rk 0 := by
  have hra := (ht.reach a z e).1
  obtain ⟨y, hy⟩ := h.onb
  have hrb := (ht.reach b y hy).1
  have hne : a ≠ 0 := fun e0 => by subst e0; have := hr.top b hrb; omega
  refine ⟨⟨h.ua.snoc e, h.ub, ht.on a z e, h.onb, fun d h1 h2 => ?_⟩, ht.up a z e hne, hr.top z (ht.reach a z e).2⟩
  obtain ⟨k1, k2⟩ := h.low d h1 h2
  have := k2.rk hr
  exact ⟨ht.low a z d e hne (fun e => by subst e; omega) k1, k2⟩

theorem Mt.right {ss : List St} {rk : Nat → Nat} (hr : Rk ss rk) {ov : Nat → Option Nat} (ht : Tr ss rk ov) {a0 b0 a b z : Nat} (h : Mt ss ov a0 b0 a b) (hne' : a ≠ b) (hlt : ¬ rk a < rk b) (e : ov b = some z) : Mt ss ov a0 b0 a z ∧ rk b < rk z ∧ rk z ≤ rk 0 := by
  have hrb := (ht.reach b z e).1
  obtain ⟨y, hy⟩ := h.ona
  have hra := (ht.reach a y hy).1
  have hlt2 : rk b < rk a := by
    rcases Nat.lt_or_ge (rk b) (rk a) with h | h
    · exact h
    · exact absurd (hr.inj a b hra hrb (by omega)) hne'
  have hne : b ≠ 0 := fun e0 => by subst e0; have := hr.top a hra; omega
  refine ⟨⟨h.ua, h.ub.snoc e, h.ona, ht.on b z e, fun d h1 h2 => ?_⟩, ht.up b z e hne, hr.top z (ht.reach b z e).2⟩
  obtain ⟨k1, k2⟩ := h.low d h1 h2
  have := k1.rk hr
  exact ⟨k1, ht.low b z d e hne (fun e => by subst e; omega) k2⟩

/-- What is told of a list of steps: the nearest over all of them that have a place. -/
structure MA (ss : List St) (ov : Nat → Option Nat) (ps : List Nat) (m : Nat) : Prop where
  on : ∃ z, ov m = some z
  up : ∀ p ∈ ps, (∃ z, ov p = some z) → Up ov p m
  some : ∃ p ∈ ps, ∃ z, ov p = some z
  low : ∀ d, (∀ p ∈ ps, Dom ss d p) → Dom ss d m

def MAO (ss : List St) (ov : Nat → Option Nat) (ps : List Nat) : Option Nat → Prop
  | none => ∀ p ∈ ps, ov p = none
  | some m => MA ss ov ps m

theorem MAO.nil (ss : List St) (ov : Nat → Option Nat) : MAO ss ov [] none := fun p hp => by simp at hp

theorem MAO.skip {ss : List St} {ov : Nat → Option Nat} {ps : List Nat} {o : Option Nat} (h : MAO ss ov ps o) {p : Nat} (hp : ov p = none) : MAO ss ov (ps ++ [p]) o := by
  cases o with
  | none =>
    intro q hq
    simp only [List.mem_append, List.mem_singleton] at hq
    rcases hq with hq | rfl
    · exact h q hq
    · exact hp
  | some m =>
    refine ⟨MA.on h, fun q hq hz => ?_, ?_, fun d hd => MA.low h d fun q hq => hd q (List.mem_append_left _ hq)⟩
    · simp only [List.mem_append, List.mem_singleton] at hq
      rcases hq with hq | rfl
      · exact MA.up h q hq hz
      · obtain ⟨z, hz⟩ := hz
        rw [hp] at hz
        cases hz
    · obtain ⟨q, hq, hz⟩ := MA.some h
      exact ⟨q, List.mem_append_left _ hq, hz⟩

theorem MAO.take {ss : List St} {ov : Nat → Option Nat} {ps : List Nat} (h : MAO ss ov ps none) {p z : Nat} (hp : ov p = some z) : MAO ss ov (ps ++ [p]) (some p) := by
  refine ⟨⟨z, hp⟩, fun q hq hz => ?_, ⟨p, by simp, z, hp⟩, fun d hd => hd p (by simp)⟩
  simp only [List.mem_append, List.mem_singleton] at hq
  rcases hq with hq | rfl
  · obtain ⟨y, hy⟩ := hz
    rw [h q hq] at hy
    cases hy
  · exact Up.refl _ _

theorem MAO.meet {ss : List St} {ov : Nat → Option Nat} {ps : List Nat} {a m : Nat} (h : MAO ss ov ps (some a)) {p z : Nat} (hp : ov p = some z) (hm : Mt ss ov a p m m) : MAO ss ov (ps ++ [p]) (some m) := by
  refine ⟨hm.ona, fun q hq hz => ?_, ⟨p, by simp, z, hp⟩, fun d hd => (hm.low d (MA.low h d fun q hq => hd q (List.mem_append_left _ hq)) (hd p (by simp))).1⟩
  simp only [List.mem_append, List.mem_singleton] at hq
  rcases hq with hq | rfl
  · exact (MA.up h q hq hz).trans hm.ua
  · exact hm.ub

def setO (ov : Nat → Option Nat) (x m : Nat) : Nat → Option Nat := fun j => if j = x then some m else ov j

/-- One pass: those of rank i and above are done. -/
structure PassI (ss : List St) (rk : Nat → Nat) (ov : Nat → Option Nat) (j i : Nat) (ch : Bool) : Prop where
  tr : Tr ss rk ov
  one : 1 ≤ j
  full : ∀ x, Reaches ss x → (1 < j ∨ i ≤ rk x) → ∃ z, ov x = some z
  now : ∀ x y, ov x = some y → x ≠ 0 → i ≤ rk x → Dj ss rk j y x
  old : ∀ x y, ov x = some y → x ≠ 0 → Dj ss rk (j - 1) y x
  fix : ch = false → ∀ x y, ov x = some y → x ≠ 0 → i ≤ rk x → ∀ p, Reaches ss p → Edge ss p x → (∃ z, ov p = some z) → Up ov p y
  quiet : ss.length + 2 ≤ j → ch = false

theorem PassI.start {ss : List St} {rk : Nat → Nat} (hr : Rk ss rk) : PassI ss rk (fun x => if x = 0 then some 0 else none) 1 (rk 0) false := by
  have only : ∀ x y, (if x = 0 then some 0 else none : Option Nat) = some y → x = 0 ∧ y = 0 := by
    intro x y h
    by_cases e : x = 0
    · rw [if_pos e] at h; cases h; exact ⟨e, rfl⟩
    · rw [if_neg e] at h; cases h
  refine ⟨⟨by simp, fun x y h => ?_, fun x y h hx => absurd (only x y h).1 hx, fun x y h => ?_, fun x y d h hx => absurd (only x y h).1 hx⟩, Nat.le_refl _, fun x hx h => ?_, fun x y h hx => absurd (only x y h).1 hx, fun x y h hx => absurd (only x y h).1 hx, fun _ x y h hx => absurd (only x y h).1 hx, fun h => rfl⟩
  · obtain ⟨rfl, rfl⟩ := only x y h
    exact ⟨Reaches.first ss, Reaches.first ss⟩
  · obtain ⟨rfl, rfl⟩ := only x y h
    exact ⟨0, by simp⟩
  · have h2 : rk 0 ≤ rk x := by omega
    have := hr.top x hx
    have e := hr.inj x 0 hx (Reaches.first ss) (by omega)
    exact ⟨0, by simp [e]⟩

theorem PassI.again {ss : List St} {rk : Nat → Nat} (hr : Rk ss rk) {ov : Nat → Option Nat} {j : Nat} {ch : Bool} (h : PassI ss rk ov j 0 ch) : PassI ss rk ov (j + 1) (rk 0) false := by
  have only : ∀ x y, ov x = some y → x ≠ 0 → ¬ rk 0 ≤ rk x := by
    intro x y e h0 hle
    have hx := (h.tr.reach x y e).1
    have := hr.top x hx
    exact h0 (hr.inj x 0 hx (Reaches.first ss) (by omega))
  exact ⟨h.tr, by omega, fun x hx _ => h.full x hx (Or.inr (Nat.zero_le _)), fun x y e h0 hle => absurd hle (only x y e h0), fun x y e h0 => h.now x y e h0 (Nat.zero_le _), fun _ x y e h0 hle => absurd hle (only x y e h0), fun _ => rfl⟩

/-- All that stand above such of which so many edges are told. -/
theorem PassI.upNow {ss : List St} {rk : Nat → Nat} {ov : Nat → Option Nat} {j i : Nat} {ch : Bool} (h : PassI ss rk ov j i ch) {x k : Nat} (hx : i ≤ rk x) (hu : Up ov x k) : Dj ss rk j k x := by
  have : Dj ss rk j k x ∧ i ≤ rk k := hu (fun k => Dj ss rk j k x ∧ i ≤ rk k) ⟨Dj.refl ss rk j x, hx⟩ (fun y z hy e => by
    by_cases e0 : y = 0
    · subst e0
      rw [h.tr.zero] at e
      cases e
      exact hy
    · have := h.tr.up y z e e0
      exact ⟨hy.1.trans (h.now y z e e0 hy.2), by omega⟩)
  exact this.1

theorem PassI.upOld {ss : List St} {rk : Nat → Nat} {ov : Nat → Option Nat} {j i : Nat} {ch : Bool} (h : PassI ss rk ov j i ch) {x k : Nat} (hu : Up ov x k) : Dj ss rk (j - 1) k x :=
  hu (fun k => Dj ss rk (j - 1) k x) (Dj.refl ss rk (j - 1) x) (fun y z hy e => by
    by_cases e0 : y = 0
    · subst e0
      rw [h.tr.zero] at e
      cases e
      exact hy
    · exact hy.trans (h.old y z e e0))

/-- What a step does in a pass. -/
theorem PassI.found {ss : List St} {rk : Nat → Nat} (hr : Rk ss rk) {ov : Nat → Option Nat} {j i : Nat} {ch : Bool} (h : PassI ss rk ov j (i + 1) ch) {x : Nat} (hx : Reaches ss x) (hx0 : x ≠ 0) (hi : rk x = i) {ps : List Nat} (hps : ∀ p, p ∈ ps ↔ (Reaches ss p ∧ Edge ss p x)) {o : Option Nat} (hm : MAO ss ov ps o) :
    ∃ m, o = some m ∧ MA ss ov ps m ∧ rk x < rk m ∧ Dj ss rk j m x ∧ ∀ d, d ≠ x → Dom ss d x → Dom ss d m := by
  obtain ⟨p, p1, p2, p3⟩ := hr.fwd x hx hx0
  obtain ⟨z, hz⟩ := h.full p p1 (Or.inr (by omega))
  have hpm := (hps p).2 ⟨p1, p2⟩
  cases o with
  | none =>
    have := hm p hpm
    rw [hz] at this
    cases this
  | some m =>
    have hma : MA ss ov ps m := hm
    have hup := hma.up p hpm ⟨z, hz⟩
    have hrk := h.tr.upRk hup
    refine ⟨m, rfl, hma, by omega, fun c hc w => ?_, fun d hd hdom => hma.low d fun q hq => ?_⟩
    · rcases w.last with e | ⟨a, c', w1, w2, w3, w4⟩
      · exact hx0 e
      · have ha := w1.av.reach
        by_cases hf : rk x < rk a
        · rw [if_pos hf] at w4
          have hu := hma.up a ((hps a).2 ⟨ha, w2⟩) (h.full a ha (Or.inr (by omega)))
          exact h.upNow (by omega) hu c' (by omega) w1
        · rw [if_neg hf] at w4
          have hj := h.one
          have hu := hma.up a ((hps a).2 ⟨ha, w2⟩) (h.full a ha (Or.inl (by omega)))
          exact h.upOld hu c' (by omega) w1
    · obtain ⟨q1, q2⟩ := (hps q).1 hq
      exact hdom.pred hd q1 q2

theorem PassI.same {ss : List St} {rk : Nat → Nat} (hr : Rk ss rk) {ov : Nat → Option Nat} {j i : Nat} {ch : Bool} (h : PassI ss rk ov j (i + 1) ch) {x m : Nat} (hx : Reaches ss x) (hx0 : x ≠ 0) (hi : rk x = i) {ps : List Nat} (hps : ∀ p, p ∈ ps ↔ (Reaches ss p ∧ Edge ss p x)) (hm : MA ss ov ps m) (hd : Dj ss rk j m x) (e : ov x = some m) : PassI ss rk ov j i ch := by
  have only : ∀ y, Reaches ss y → i ≤ rk y → y = x ∨ i + 1 ≤ rk y := by
    intro y hy hle
    by_cases e : rk y = i
    · exact Or.inl (hr.inj y x hy hx (by omega))
    · exact Or.inr (by omega)
  refine ⟨h.tr, h.one, fun y hy hle => ?_, fun y z ey h0 hle => ?_, h.old, fun hc y z ey h0 hle p hp he hz => ?_, h.quiet⟩
  · rcases hle with hle | hle
    · exact h.full y hy (Or.inl hle)
    · rcases only y hy hle with rfl | hle
      · exact ⟨m, e⟩
      · exact h.full y hy (Or.inr hle)
  · rcases only y (h.tr.reach y z ey).1 hle with rfl | hle
    · rw [e] at ey
      cases ey
      exact hd
    · exact h.now y z ey h0 hle
  · rcases only y (h.tr.reach y z ey).1 hle with rfl | hle
    · rw [e] at ey
      cases ey
      exact hm.up p ((hps p).2 ⟨hp, he⟩) hz
    · exact h.fix hc y z ey h0 hle p hp he hz

theorem setO_same (ov : Nat → Option Nat) (x m : Nat) : setO ov x m x = some m := by simp [setO]

theorem setO_other (ov : Nat → Option Nat) {x m y : Nat} (h : y ≠ x) : setO ov x m y = ov y := by simp [setO, h]

theorem PassI.change {ss : List St} (hok : okB ss = true) {rk : Nat → Nat} (hr : Rk ss rk) {ov : Nat → Option Nat} {j i : Nat} {ch : Bool} (h : PassI ss rk ov j (i + 1) ch) {x m : Nat} (hx : Reaches ss x) (hx0 : x ≠ 0) (hi : rk x = i) {ps : List Nat} (hm : MA ss ov ps m) (hlt : rk x < rk m) (hd : Dj ss rk j m x) (hlow : ∀ d, d ≠ x → Dom ss d x → Dom ss d m) (e : ov x ≠ some m) : PassI ss rk (setO ov x m) j i true := by
  have only : ∀ y, Reaches ss y → i ≤ rk y → y = x ∨ i + 1 ≤ rk y := by
    intro y hy hle
    by_cases e : rk y = i
    · exact Or.inl (hr.inj y x hy hx (by omega))
    · exact Or.inr (by omega)
  have hmx : m ≠ x := fun e => by subst e; omega
  obtain ⟨u, hu⟩ := hm.on
  have hmr := (h.tr.reach m u hu).1
  have hj := h.one
  refine ⟨⟨?_, fun y z ey => ?_, fun y z ey h0 => ?_, fun y z ey => ?_, fun y z d ey h0 hdy hdom => ?_⟩, h.one, fun y hy hle => ?_, fun y z ey h0 hle => ?_, fun y z ey h0 => ?_, fun hc => (by cases hc), fun hq => ?_⟩
  · rw [setO_other ov (Ne.symm hx0)]; exact h.tr.zero
  · by_cases ex : y = x
    · subst ex
      rw [setO_same] at ey
      cases ey
      exact ⟨hx, hmr⟩
    · rw [setO_other ov ex] at ey
      exact h.tr.reach y z ey
  · by_cases ex : y = x
    · subst ex
      rw [setO_same] at ey
      cases ey
      exact hlt
    · rw [setO_other ov ex] at ey
      exact h.tr.up y z ey h0
  · by_cases ez : z = x
    · subst ez
      exact ⟨m, setO_same ov z m⟩
    · rw [setO_other ov ez]
      by_cases ex : y = x
      · subst ex
        rw [setO_same] at ey
        cases ey
        exact ⟨u, hu⟩
      · rw [setO_other ov ex] at ey
        exact h.tr.on y z ey
  · by_cases ex : y = x
    · subst ex
      rw [setO_same] at ey
      cases ey
      exact hlow d hdy hdom
    · rw [setO_other ov ex] at ey
      exact h.tr.low y z d ey h0 hdy hdom
  · by_cases ex : y = x
    · subst ex
      exact ⟨m, setO_same ov y m⟩
    · rw [setO_other ov ex]
      rcases hle with hle | hle
      · exact h.full y hy (Or.inl hle)
      · rcases only y hy hle with e2 | hle
        · exact absurd e2 ex
        · exact h.full y hy (Or.inr hle)
  · by_cases ex : y = x
    · subst ex
      rw [setO_same] at ey
      cases ey
      exact hd
    · rw [setO_other ov ex] at ey
      rcases only y (h.tr.reach y z ey).1 hle with e2 | hle
      · exact absurd e2 ex
      · exact h.now y z ey h0 hle
  · by_cases ex : y = x
    · subst ex
      rw [setO_same] at ey
      cases ey
      exact hd.mono (by omega)
    · rw [setO_other ov ex] at ey
      exact h.old y z ey h0
  · exfalso
    have hl := ok_len hok
    obtain ⟨y, hy⟩ := h.full x hx (Or.inl (by omega))
    have hyx := h.tr.up x y hy hx0
    have d1 := (h.old x y hy hx0).dom hok (by omega) hx
    have d2 := hd.dom hok (by omega) hx
    have d3 := h.tr.low x y m hy hx0 hmx d2
    have d4 := hlow y (fun e => by subst e; omega) d1
    exact e (by rw [hy, Dom.anti hr d3 d4])

/-- The tree of nearest ones. -/
structure OverF (ss : List St) (ov : Nat → Option Nat) : Prop where
  zero : ov 0 = some 0
  reach : ∀ x, Reaches ss x ↔ ∃ y, ov x = some y
  near : ∀ x y, ov x = some y → x ≠ 0 → y ≠ x ∧ Dom ss y x ∧ ∀ d, d ≠ x → Dom ss d x → Dom ss d y
  rk : ∃ rk : Nat → Nat, (∀ x, Reaches ss x → rk x ≤ rk 0) ∧ rk 0 < ss.length ∧ ∀ x y, ov x = some y → x ≠ 0 → rk x < rk y

theorem PassI.fin {ss : List St} {rk : Nat → Nat} (hr : Rk ss rk) (hlt : rk 0 < ss.length) {ov : Nat → Option Nat} {j : Nat} (h : PassI ss rk ov j 0 false) : OverF ss ov := by
  have key : ∀ x k, Av ss k x → ¬ Up ov x k := by
    intro x k ha
    have : Reaches ss x ∧ ¬ Up ov x k := ha (fun x => Reaches ss x ∧ ¬ Up ov x k) (fun h0 => ⟨Reaches.first ss, fun hu => h0 (h.tr.upZero hu).symm⟩) (fun a b hab he hb => ⟨hab.1.edge he, fun hu => ?_⟩)
    · exact this.2
    · rcases hu.cases with e | ⟨y, e, hu2⟩
      · exact hb e.symm
      · by_cases b0 : b = 0
        · subst b0
          exact hb (h.tr.upZero hu).symm
        · exact hab.2 ((h.fix rfl b y e b0 (Nat.zero_le _) a hab.1 he (h.full a hab.1 (Or.inr (Nat.zero_le _)))).trans hu2)
  refine ⟨h.tr.zero, fun x => ⟨fun hx => h.full x hx (Or.inr (Nat.zero_le _)), fun ⟨y, hy⟩ => (h.tr.reach x y hy).1⟩, fun x y e h0 => ?_, rk, hr.top, hlt, h.tr.up⟩
  have hup := h.tr.up x y e h0
  exact ⟨fun e => by subst e; omega, ⟨(h.tr.reach x y e).1, fun a => key x y a ((Up.refl _ _).snoc e)⟩, fun d hd hdom => h.tr.low x y d e h0 hd hdom⟩

theorem OverF.dom {ss : List St} {ov : Nat → Option Nat} (h : OverF ss ov) {x k : Nat} (hx : Reaches ss x) : Up ov x k ↔ Dom ss k x := by
  obtain ⟨rk, h1, _, h2⟩ := h.rk
  constructor
  · intro hu
    have : Reaches ss k ∧ Dom ss k x := hu (fun k => Reaches ss k ∧ Dom ss k x) ⟨hx, Dom.refl hx⟩ (fun y z hy e => by
      by_cases e0 : y = 0
      · subst e0
        rw [h.zero] at e
        cases e
        exact hy
      · have hd := (h.near y z e e0).2.1
        exact ⟨hd.reach, hy.2.trans hd⟩)
    exact this.2
  · have main : ∀ n x, rk 0 - rk x ≤ n → Reaches ss x → Dom ss k x → Up ov x k := by
      intro n
      induction n with
      | zero =>
        intro x hn hx hd
        obtain ⟨y, hy⟩ := (h.reach x).1 hx
        by_cases e0 : x = 0
        · subst e0
          rw [hd.zero]
          exact Up.refl _ _
        · have := h2 x y hy e0
          have := h1 y (h.near x y hy e0).2.1.reach
          omega
      | succ n ih =>
        intro x hn hx hd
        obtain ⟨y, hy⟩ := (h.reach x).1 hx
        by_cases e0 : x = 0
        · subst e0
          rw [hd.zero]
          exact Up.refl _ _
        · by_cases ek : k = x
          · subst ek
            exact Up.refl _ _
          · have := h2 x y hy e0
            have hr := (h.near x y hy e0).2.1.reach
            have := h1 y hr
            exact Up.cons hy (ih y (by omega) hr ((h.near x y hy e0).2.2 k ek hd))
    exact main _ x (Nat.le_refl _) hx

/-- Of two that stand over a third one stands over the other. -/
theorem OverF.chain {ss : List St} {ov : Nat → Option Nat} (h : OverF ss ov) {x a b : Nat} (ha : Dom ss a x) (hb : Dom ss b x) : Dom ss a b ∨ Dom ss b a := by
  rcases ((h.dom ha.1).2 ha).chain ((h.dom hb.1).2 hb) with k | k
  · exact Or.inr ((h.dom ha.reach).1 k)
  · exact Or.inl ((h.dom hb.reach).1 k)

/-- The places in an order. -/
theorem IsOrder.rk {ss : List St} {ord : List Nat} (h : IsOrder ss ord) (hok : okB ss = true) {rk : Nat → Nat} (hrk : ∀ i x, ord[i]? = some x → rk x = i) : Rk ss rk ∧ rk 0 + 1 = ord.length := by
  have idx : ∀ x, Reaches ss x → ord[rk x]? = some x := by
    intro x hx
    obtain ⟨i, hi, e⟩ := List.mem_iff_getElem.1 ((h.mem x).2 ⟨reach_lt hok hx, hx⟩)
    have e2 : ord[i]? = some x := by rw [List.getElem?_eq_getElem hi, e]
    rw [hrk i x e2]; exact e2
  have h0 : rk 0 + 1 = ord.length := by
    obtain ⟨r, hr⟩ := h.last
    have := hrk r.length 0 (by rw [hr]; simp)
    rw [this, hr]; simp
  refine ⟨⟨fun x y hx hy e => ?_, fun x hx => ?_, fun x hx hx0 => ?_⟩, h0⟩
  · have h1 := idx x hx
    have h2 := idx y hy
    rw [e, h2] at h1
    cases h1
    rfl
  · have := (List.getElem?_eq_some_iff.1 (idx x hx)).1
    omega
  · rcases h.over (rk x) x (idx x hx) with e | ⟨p, s, h1, h2, k, h3, h4⟩
    · exact absurd e hx0
    · refine ⟨p, ((h.mem p).1 (List.mem_of_getElem? h4)).2, ⟨s, h1, h2⟩, ?_⟩
      rw [hrk k p h4]; exact h3
end Go.Proofs.YtljlgffkhocgkaaDoor
