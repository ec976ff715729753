/- What a step reckons, keeps, and whether it can be come to, by its place; ways that lead on and back. -/
import Derived.Test.YtljlgffkhocgkaaSafeP
namespace Go.Proofs.Ytljlgffkhocgkaa

/-- What a step reckons, keeps, and whether it can be come to, by its place. -/
def cF (e : E5) (ss : List St) (i : Nat) : Bool := ((ss[i]?).map (compB e)).getD false
def kF (e : E5) (ss : List St) (i : Nat) : Bool := ((ss[i]?).map (keepB e)).getD false
def rF (rs : List Bool) (i : Nat) : Bool := rs.getD i false
def pF (ss : List St) (rs : List Bool) (i : Nat) : List Int := predsK ss rs i ss.length

theorem cF_get {e : E5} {ss : List St} {i : Nat} (h : i < ss.length) : cF e ss i = compB e ss[i] := by simp [cF, h]
theorem kF_get {e : E5} {ss : List St} {i : Nat} (h : i < ss.length) : kF e ss i = keepB e ss[i] := by simp [kF, h]

theorem low_next {ss : List St} (hok : okB ss = true) : Low ss.length (nextOf ss) := by
  intro i hi x hx
  rw [nextOf_get hi] at hx
  have h1 := ok_stepE hok (List.getElem_mem hi)
  unfold stepB at h1
  simp only [Bool.and_eq_true, List.all_eq_true] at h1
  have h2 := h1.1.2 x hx
  simp [inB] at h2
  omega

theorem low_preds (ss : List St) (rs : List Bool) : Low ss.length (pF ss rs) := by
  intro i hi x hx
  have h1 := predsK_mem hx
  unfold pF predsK at hx
  simp only [List.mem_map] at hx
  obtain ⟨a, _, rfl⟩ := hx
  omega

theorem mem_preds {ss : List St} {rs : List Bool} {x i : Nat} : (i : Int) ∈ pF ss rs x ↔ i < ss.length ∧ rF rs i = true ∧ (x : Int) ∈ nextOf ss i := by
  unfold pF predsK rF
  simp only [List.mem_map, List.mem_filter, List.mem_range, Bool.and_eq_true, decide_eq_true_eq]
  constructor
  · rintro ⟨a, ⟨h1, h2, h3⟩, h4⟩
    obtain rfl : a = i := by omega
    exact ⟨h1, h2, h3⟩
  · rintro ⟨h1, h2, h3⟩
    exact ⟨i, ⟨h1, h2, h3⟩, rfl⟩

theorem next_len {ss : List St} (hok : okB ss = true) {i : Nat} (hi : i < ss.length) : (nextOf ss i).length ≤ 2 := by
  rw [nextOf_get hi]
  exact step_many (ok_stepE hok (List.getElem_mem hi))

/-- A step behind one that can be come to can be, too. -/
theorem next_reach {ss : List St} {rs : List Bool} (hok : okB ss = true) (hr : IsReach ss rs) {x : Nat} (hx : x < ss.length) (hrx : rF rs x = true) {y : Int} (hy : y ∈ nextOf ss x) : 0 ≤ y ∧ y.toNat < ss.length ∧ rF rs y.toNat = true := by
  have h1 := low_next hok x hx y hy
  refine ⟨h1.1, by omega, ?_⟩
  have key : ∀ i, i < ss.length → (rF rs i = true ↔ Reaches ss i) := fun i hi => by
    rw [← hr.2 i hi]
    unfold rF
    rw [List.getD_eq_getElem?_getD]
    have : i < rs.length := by rw [hr.1]; exact hi
    simp [this]
  rw [key _ (by omega)]
  rw [nextOf_get hx] at hy
  refine Reaches.on ((key x hx).1 hrx) (List.getElem?_eq_getElem hx) ?_
  rwa [show ((y.toNat : Nat) : Int) = y by omega]

/-- Where it will be reckoned. -/
def IsDown (ss : List St) (e : E5) (rs : List Bool) (f : Nat → Bool) : Prop := Gr ss.length (rF rs) (downF (cF e ss) (kF e ss) (nextOf ss)) f

/-- A row of yes and no of a program and a reckoning that are ok; else nothing. -/
def SafeOr (P : List St → E5 → List Bool → (Nat → Bool) → Prop) (ss : List St) (e : E5) (bs : List Bool) : Prop :=
  (okB ss = true ∧ exprB e = true ∧ ∃ rs f, IsReach ss rs ∧ P ss e rs f ∧ bs = (List.range ss.length).map f) ∨ (¬ (okB ss = true ∧ exprB e = true) ∧ bs = [])

theorem SafeOr.unique {P : List St → E5 → List Bool → (Nat → Bool) → Prop} (hu : ∀ ss e rs f f', P ss e rs f → P ss e rs f' → ∀ i, i < ss.length → f i = f' i) {ss : List St} {e : E5} {a b : List Bool} (ha : SafeOr P ss e a) (hb : SafeOr P ss e b) : a = b := by
  rcases ha with ⟨h1, h2, rs, f, h3, h4, rfl⟩ | ⟨h1, rfl⟩
  · rcases hb with ⟨_, _, rs', f', k3, k4, rfl⟩ | ⟨k1, rfl⟩
    · obtain rfl := h3.unique k3
      exact List.map_congr_left fun i hi => hu ss e rs f f' h4 k4 i (by simpa using hi)
    · exact absurd ⟨h1, h2⟩ k1
  · rcases hb with ⟨k1, k2, _⟩ | ⟨_, rfl⟩
    · exact absurd ⟨k1, k2⟩ h1
    · rfl

theorem SafeOr.bound {P : List St → E5 → List Bool → (Nat → Bool) → Prop} {ss : List St} {e : E5} {a : List Bool} (ha : SafeOr P ss e a) (hl : ss.length ≤ 1048576) : a.length ≤ 1048576 := by
  rcases ha with ⟨_, _, rs, f, _, _, rfl⟩ | ⟨_, rfl⟩
  · simpa using hl
  · simp

/-- Where it was reckoned. -/
def IsUp (ss : List St) (e : E5) (rs : List Bool) (f : Nat → Bool) : Prop := Gr ss.length (rF rs) (upF (cF e ss) (kF e ss) (pF ss rs)) f

theorem IsUp.unique (ss : List St) (e : E5) (rs : List Bool) (f f' : Nat → Bool) (h : IsUp ss e rs f) (h' : IsUp ss e rs f') : ∀ i, i < ss.length → f i = f' i := Gr.unique h h'

theorem IsDown.unique (ss : List St) (e : E5) (rs : List Bool) (f f' : Nat → Bool) (h : IsDown ss e rs f) (h' : IsDown ss e rs f') : ∀ i, i < ss.length → f i = f' i := Gr.unique h h'

/-- Where it is reckoned at the earliest. -/
def IsEarly (ss : List St) (e : E5) (rs : List Bool) (f : Nat → Bool) : Prop := ∃ d u, IsDown ss e rs d ∧ IsUp ss e rs u ∧ ∀ i, i < ss.length → f i = earlyB (kF e ss) d u (pF ss rs) i

theorem allI_low {n : Nat} {l : List Int} {g h : Nat → Bool} (hl : ∀ x ∈ l, 0 ≤ x ∧ x < (n : Int)) (e : ∀ i, i < n → g i = h i) : allI l g = allI l h := allI_congr fun x hx => e _ (by have := hl x hx; omega)

theorem IsEarly.unique (ss : List St) (e : E5) (rs : List Bool) (f f' : Nat → Bool) (h : IsEarly ss e rs f) (h' : IsEarly ss e rs f') : ∀ i, i < ss.length → f i = f' i := by
  obtain ⟨d, u, h1, h2, h3⟩ := h
  obtain ⟨d', u', k1, k2, k3⟩ := h'
  intro i hi
  rw [h3 i hi, k3 i hi]
  unfold earlyB
  rw [IsDown.unique ss e rs d d' h1 k1 i hi, allI_low (low_preds ss rs i hi) fun m hm => by rw [IsDown.unique ss e rs d d' h1 k1 m hm, IsUp.unique ss e rs u u' h2 k2 m hm]]

theorem Gr.turn {n : Nat} {r : Nat → Bool} {F F' : (Nat → Bool) → Nat → Bool} {g : Nat → Bool} (h : Gr n r F g) (e : ∀ g i, i < n → F g i = F' g i) : Gr n r F' g :=
  ⟨fun i hi h1 => by rw [← e g i hi]; exact h.fit i hi h1, fun k hk => h.top k fun i hi h1 => by rw [e k i hi]; exact hk i hi h1⟩

/-- Where it can still be put off to. -/
def IsDelay (ss : List St) (e : E5) (rs : List Bool) (f : Nat → Bool) : Prop := ∃ ea, IsEarly ss e rs ea ∧ Gr ss.length (rF rs) (delayF (cF e ss) ea (pF ss rs)) f

theorem IsDelay.unique (ss : List St) (e : E5) (rs : List Bool) (f f' : Nat → Bool) (h : IsDelay ss e rs f) (h' : IsDelay ss e rs f') : ∀ i, i < ss.length → f i = f' i := by
  obtain ⟨ea, h1, h2⟩ := h
  obtain ⟨ea', k1, k2⟩ := h'
  exact Gr.unique h2 (k2.turn fun g i hi => by unfold delayF; rw [IsEarly.unique ss e rs ea ea' h1 k1 i hi])

/-- Where it cannot be put off any more. -/
def IsLate (ss : List St) (e : E5) (rs : List Bool) (f : Nat → Bool) : Prop := ∃ l, IsDelay ss e rs l ∧ ∀ i, i < ss.length → f i = lateB (cF e ss) l (nextOf ss) i

theorem IsLate.unique (ss : List St) (hok : okB ss = true) (e : E5) (rs : List Bool) (f f' : Nat → Bool) (h : IsLate ss e rs f) (h' : IsLate ss e rs f') : ∀ i, i < ss.length → f i = f' i := by
  obtain ⟨l, h1, h2⟩ := h
  obtain ⟨l', k1, k2⟩ := h'
  intro i hi
  rw [h2 i hi, k2 i hi]
  unfold lateB
  rw [IsDelay.unique ss e rs l l' h1 k1 i hi, allI_low (low_next hok i hi) fun m hm => IsDelay.unique ss e rs l l' h1 k1 m hm]

/-- Where it would serve that step alone. -/
def IsAlone (ss : List St) (e : E5) (rs : List Bool) (f : Nat → Bool) : Prop := ∃ t, IsLate ss e rs t ∧ Gr ss.length (rF rs) (aloneF (cF e ss) t (nextOf ss)) f

theorem IsAlone.unique (ss : List St) (hok : okB ss = true) (e : E5) (rs : List Bool) (f f' : Nat → Bool) (h : IsAlone ss e rs f) (h' : IsAlone ss e rs f') : ∀ i, i < ss.length → f i = f' i := by
  obtain ⟨t, h1, h2⟩ := h
  obtain ⟨t', k1, k2⟩ := h'
  exact Gr.unique h2 (k2.turn fun g i hi => by
    unfold aloneF
    exact allI_low (low_next hok i hi) fun m hm => by rw [IsLate.unique ss hok e rs t t' h1 k1 m hm])
end Go.Proofs.Ytljlgffkhocgkaa
