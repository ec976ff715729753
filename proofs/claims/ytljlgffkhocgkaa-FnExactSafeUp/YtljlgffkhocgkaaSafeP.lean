/- Where a reckoning is safe, plainly: the greatest that fits, a solver's state, and what is asked of a step. -/
import Derived.Test.YtljlgffkhocgkaaExprP
import Derived.Test.YtljlgffkhocgkaaPreds
import Derived.Test.YtljlgffkhocgkaaReach
namespace Go.Proofs.Ytljlgffkhocgkaa

/-- A test of places, false at one. -/
def offB (g : Nat → Bool) (x : Nat) : Nat → Bool := fun j => if j = x then false else g j

/-- The greatest that fits, of places below n of which r is so. -/
structure Gr (n : Nat) (r : Nat → Bool) (F : (Nat → Bool) → Nat → Bool) (g : Nat → Bool) : Prop where
  fit : ∀ i, i < n → g i = true → r i = true ∧ F g i = true
  top : ∀ h : Nat → Bool, (∀ i, i < n → h i = true → r i = true ∧ F h i = true) → ∀ i, i < n → h i = true → g i = true

theorem Gr.unique {n : Nat} {r : Nat → Bool} {F : (Nat → Bool) → Nat → Bool} {g g' : Nat → Bool} (h : Gr n r F g) (h' : Gr n r F g') : ∀ i, i < n → g i = g' i := by
  intro i hi
  have a := h.top g' h'.fit i hi
  have b := h'.top g h.fit i hi
  cases h1 : g i <;> cases h2 : g' i <;> simp_all

/-- What is asked of a step hangs on that of others, and grows with it. -/
def Mono (n : Nat) (F : (Nat → Bool) → Nat → Bool) : Prop := ∀ g h : Nat → Bool, (∀ i, i < n → g i = true → h i = true) → ∀ i, i < n → F g i = true → F h i = true

/-- One more that waits, if it does not wait. -/
def putQ (q : List Nat) (y : Nat) : List Nat := if y ∈ q then q else q ++ [y]

theorem putQ_mem {q : List Nat} {y x : Nat} : x ∈ putQ q y ↔ x ∈ q ∨ x = y := by
  unfold putQ
  split
  · constructor
    · exact Or.inl
    · rintro (h | rfl)
      · exact h
      · assumption
  · simp

theorem putQ_nodup {q : List Nat} {y : Nat} (h : q.Nodup) : (putQ q y).Nodup := by
  unfold putQ
  split
  · exact h
  · rename_i hn
    rw [List.nodup_append]
    refine ⟨h, by simp, ?_⟩
    rintro a ha b hb rfl
    simp only [List.mem_singleton] at hb
    exact hn (hb ▸ ha)

theorem putsQ_mem {x : Nat} : ∀ {l q : List Nat}, x ∈ l.foldl putQ q ↔ x ∈ q ∨ x ∈ l
  | [], q => by simp
  | y :: l, q => by
    rw [List.foldl_cons, putsQ_mem, putQ_mem]
    simp only [List.mem_cons]
    grind

theorem putsQ_nodup : ∀ {l q : List Nat}, q.Nodup → (l.foldl putQ q).Nodup
  | [], _, h => h
  | _ :: l, _, h => putsQ_nodup (l := l) (putQ_nodup h)

theorem nodup_len : ∀ {n : Nat} {q : List Nat}, q.Nodup → (∀ i ∈ q, i < n) → q.length ≤ n
  | 0, q, _, hq => by
    cases q with
    | nil => simp
    | cons a l => exact absurd (hq a List.mem_cons_self) (by omega)
  | n + 1, q, h, hq => by
    have h1 : (q.erase n).length ≤ n := nodup_len (h.erase n) fun i hi => by
      have h2 := (h.mem_erase_iff).1 hi
      have h3 := hq i h2.2
      have := h2.1
      omega
    rw [List.length_erase] at h1
    split at h1 <;> omega

/-- The solver's state: what is supposed, and who waits. -/
structure WL (n : Nat) (r : Nat → Bool) (F : (Nat → Bool) → Nat → Bool) (so : Nat → Bool) (q : List Nat) : Prop where
  sub : ∀ i, i < n → so i = true → r i = true
  top : ∀ h : Nat → Bool, (∀ i, i < n → h i = true → r i = true ∧ F h i = true) → ∀ i, i < n → h i = true → so i = true
  fit : ∀ i, i < n → so i = true → F so i = true ∨ i ∈ q
  non : ∀ i, i < n → r i = true → so i = false → F so i = false
  qr : ∀ i ∈ q, i < n ∧ r i = true
  nd : q.Nodup

theorem WL.start {n : Nat} {r : Nat → Bool} {F : (Nat → Bool) → Nat → Bool} {q : List Nat} (hq : ∀ i, i ∈ q ↔ i < n ∧ r i = true) (hn : q.Nodup) : WL n r F r q where
  sub := fun _ _ h => h
  top := fun _ hh i hi h1 => (hh i hi h1).1
  fit := fun i hi h1 => Or.inr ((hq i).2 ⟨hi, h1⟩)
  non := fun i _ h1 h2 => by rw [h1] at h2; cases h2
  qr := fun i hi => (hq i).1 hi
  nd := hn

theorem WL.same {n : Nat} {r : Nat → Bool} {F : (Nat → Bool) → Nat → Bool} {so : Nat → Bool} {x : Nat} {q : List Nat} (h : WL n r F so (x :: q)) (hx : F so x = so x) : WL n r F so q where
  sub := h.sub
  top := h.top
  fit := fun i hi h1 => by
    rcases h.fit i hi h1 with h2 | h2
    · exact Or.inl h2
    · rcases List.mem_cons.1 h2 with rfl | h3
      · exact Or.inl (hx.trans h1)
      · exact Or.inr h3
  non := h.non
  qr := fun i hi => h.qr i (List.mem_cons_of_mem _ hi)
  nd := (List.nodup_cons.1 h.nd).2

theorem WL.turned {n : Nat} {r : Nat → Bool} {F : (Nat → Bool) → Nat → Bool} {so : Nat → Bool} {x : Nat} {q : List Nat} (h : WL n r F so (x :: q)) (hx : F so x ≠ so x) : so x = true ∧ F so x = false := by
  obtain ⟨h1, h2⟩ := h.qr x (List.mem_cons_self)
  cases h3 : so x
  · have := h.non x h1 h2 h3
    rw [this, h3] at hx
    exact absurd rfl hx
  · refine ⟨rfl, ?_⟩
    rw [h3] at hx
    simpa using hx

theorem WL.turn {n : Nat} {r : Nat → Bool} {F : (Nat → Bool) → Nat → Bool} {so : Nat → Bool} {x : Nat} {q l : List Nat} (h : WL n r F so (x :: q)) (hm : Mono n F) (hx : F so x ≠ so x)
    (hd : ∀ i, i < n → r i = true → i ∉ l → F (offB so x) i = F so i) (hl : ∀ y ∈ l, y < n ∧ r y = true) : WL n r F (offB so x) (l.foldl putQ q) := by
  obtain ⟨h1, h2⟩ := h.turned hx
  have hle : ∀ i, i < n → offB so x i = true → so i = true := by
    intro i _ h3
    unfold offB at h3
    split at h3
    · cases h3
    · exact h3
  exact {
    sub := fun i hi h3 => h.sub i hi (hle i hi h3)
    top := fun g hg i hi h3 => by
      unfold offB
      split
      · rename_i e
        subst e
        have := hm g so (fun j hj hgj => h.top g hg j hj hgj) i hi (hg i hi h3).2
        rw [h2] at this
        cases this
      · exact h.top g hg i hi h3
    fit := fun i hi h3 => by
      by_cases hil : i ∈ l
      · exact Or.inr (putsQ_mem.2 (Or.inr hil))
      · rw [hd i hi (h.sub i hi (hle i hi h3)) hil]
        rcases h.fit i hi (hle i hi h3) with h4 | h4
        · exact Or.inl h4
        · rcases List.mem_cons.1 h4 with rfl | h5
          · simp [offB] at h3
          · exact Or.inr (putsQ_mem.2 (Or.inl h5))
    non := fun i hi hr h3 => by
      cases hc : F (offB so x) i
      · rfl
      · have hs := hm _ so hle i hi hc
        unfold offB at h3
        split at h3
        · rename_i e
          subst e
          rw [h2] at hs
          cases hs
        · have := h.non i hi hr h3
          rw [this] at hs
          cases hs
    qr := fun i hi => by
      rcases putsQ_mem.1 hi with h3 | h3
      · exact h.qr i (List.mem_cons_of_mem _ h3)
      · exact hl i h3
    nd := putsQ_nodup (List.nodup_cons.1 h.nd).2 }

theorem WL.done {n : Nat} {r : Nat → Bool} {F : (Nat → Bool) → Nat → Bool} {so : Nat → Bool} (h : WL n r F so []) : Gr n r F so where
  fit := fun i hi h1 => ⟨h.sub i hi h1, by
    rcases h.fit i hi h1 with h2 | h2
    · exact h2
    · cases h2⟩
  top := h.top

theorem WL.len {n : Nat} {r : Nat → Bool} {F : (Nat → Bool) → Nat → Bool} {so : Nat → Bool} {q : List Nat} (h : WL n r F so q) : q.length ≤ n := nodup_len h.nd fun i hi => (h.qr i hi).1

/-- The model's passes: what is still supposed. -/
structure GI (n : Nat) (r : Nat → Bool) (F : (Nat → Bool) → Nat → Bool) (g : Nat → Bool) : Prop where
  sub : ∀ i, i < n → g i = true → r i = true
  top : ∀ h : Nat → Bool, (∀ i, i < n → h i = true → r i = true ∧ F h i = true) → ∀ i, i < n → h i = true → g i = true

theorem GI.start (n : Nat) (r : Nat → Bool) (F : (Nat → Bool) → Nat → Bool) : GI n r F r := ⟨fun _ _ h => h, fun _ hh i hi h1 => (hh i hi h1).1⟩

theorem GI.off {n : Nat} {r : Nat → Bool} {F : (Nat → Bool) → Nat → Bool} {g : Nat → Bool} {x : Nat} (h : GI n r F g) (hm : Mono n F) (hx : F g x = false) : GI n r F (offB g x) where
  sub := fun i hi h1 => by
    unfold offB at h1
    split at h1
    · cases h1
    · exact h.sub i hi h1
  top := fun k hk i hi h1 => by
    unfold offB
    split
    · rename_i e
      subst e
      have := hm k g (fun j hj hgj => h.top k hk j hj hgj) i hi (hk i hi h1).2
      rw [hx] at this
      cases this
    · exact h.top k hk i hi h1

theorem GI.done {n : Nat} {r : Nat → Bool} {F : (Nat → Bool) → Nat → Bool} {g : Nat → Bool} (h : GI n r F g) (hf : ∀ i, i < n → g i = true → F g i = true) : Gr n r F g := ⟨fun i hi h1 => ⟨h.sub i hi h1, hf i hi h1⟩, h.top⟩

/-- Of each of a list's places it is so. -/
def allI (l : List Int) (g : Nat → Bool) : Bool := l.all (fun x => g x.toNat)

theorem allI_mono {l : List Int} {g h : Nat → Bool} {n : Nat} (hl : ∀ x ∈ l, 0 ≤ x ∧ x < (n : Int)) (hg : ∀ i, i < n → g i = true → h i = true) (ha : allI l g = true) : allI l h = true := by
  unfold allI at *
  rw [List.all_eq_true] at *
  exact fun x hx => hg _ (by have := hl x hx; omega) (ha x hx)

theorem allI_congr {l : List Int} {g h : Nat → Bool} (hg : ∀ x ∈ l, g x.toNat = h x.toNat) : allI l g = allI l h := by
  unfold allI
  rw [Bool.eq_iff_iff, List.all_eq_true, List.all_eq_true]
  constructor
  · intro h1 x hx
    rw [← hg x hx]
    exact h1 x hx
  · intro h1 x hx
    rw [hg x hx]
    exact h1 x hx

def downF (c k : Nat → Bool) (nx : Nat → List Int) : (Nat → Bool) → Nat → Bool := fun g i => c i || (k i && (decide (0 < (nx i).length) && allI (nx i) g))
def upF (c k : Nat → Bool) (P : Nat → List Int) : (Nat → Bool) → Nat → Bool := fun g i => decide (i ≠ 0) && allI (P i) (fun m => k m && (c m || g m))
def earlyB (k d u : Nat → Bool) (P : Nat → List Int) : Nat → Bool := fun i => d i && (decide (i = 0) || !allI (P i) (fun m => k m && (d m || u m)))
def delayF (c e : Nat → Bool) (P : Nat → List Int) : (Nat → Bool) → Nat → Bool := fun g i => e i || (decide (i ≠ 0) && allI (P i) (fun m => g m && !c m))
def lateB (c l : Nat → Bool) (nx : Nat → List Int) : Nat → Bool := fun i => l i && (c i || !allI (nx i) l)
def aloneF (c t : Nat → Bool) (nx : Nat → List Int) : (Nat → Bool) → Nat → Bool := fun g i => allI (nx i) (fun m => t m || (!c m && g m))

/-- Lists of places below n. -/
def Low (n : Nat) (L : Nat → List Int) : Prop := ∀ i, i < n → ∀ x ∈ L i, 0 ≤ x ∧ x < (n : Int)

theorem downF_mono {n : Nat} {c k : Nat → Bool} {nx : Nat → List Int} (hl : Low n nx) : Mono n (downF c k nx) := by
  intro g h hgh i hi h1
  unfold downF at *
  simp only [Bool.or_eq_true, Bool.and_eq_true] at *
  rcases h1 with h1 | ⟨h1, h2, h3⟩
  · exact Or.inl h1
  · exact Or.inr ⟨h1, h2, allI_mono (hl i hi) hgh h3⟩

theorem upF_mono {n : Nat} {c k : Nat → Bool} {P : Nat → List Int} (hl : Low n P) : Mono n (upF c k P) := by
  intro g h hgh i hi h1
  unfold upF at *
  simp only [Bool.and_eq_true] at *
  refine ⟨h1.1, allI_mono (hl i hi) ?_ h1.2⟩
  intro j hj h2
  simp only [Bool.or_eq_true, Bool.and_eq_true] at *
  rcases h2 with ⟨h2, h3 | h3⟩
  · exact ⟨h2, Or.inl h3⟩
  · exact ⟨h2, Or.inr (hgh j hj h3)⟩

theorem delayF_mono {n : Nat} {c e : Nat → Bool} {P : Nat → List Int} (hl : Low n P) : Mono n (delayF c e P) := by
  intro g h hgh i hi h1
  unfold delayF at *
  simp only [Bool.or_eq_true, Bool.and_eq_true] at *
  rcases h1 with h1 | ⟨h1, h2⟩
  · exact Or.inl h1
  · refine Or.inr ⟨h1, allI_mono (hl i hi) ?_ h2⟩
    intro j hj h3
    simp only [Bool.and_eq_true] at *
    exact ⟨hgh j hj h3.1, h3.2⟩

theorem aloneF_mono {n : Nat} {c t : Nat → Bool} {nx : Nat → List Int} (hl : Low n nx) : Mono n (aloneF c t nx) := by
  intro g h hgh i hi h1
  unfold aloneF at *
  refine allI_mono (hl i hi) ?_ h1
  intro j hj h3
  simp only [Bool.or_eq_true, Bool.and_eq_true] at *
  rcases h3 with h3 | h3
  · exact Or.inl h3
  · exact Or.inr ⟨h3.1, hgh j hj h3.2⟩

theorem allI_off {l : List Int} {g : Nat → Bool} {x : Nat} {f : Bool → Nat → Bool} (hl : ∀ y ∈ l, 0 ≤ y) (hx : (x : Int) ∉ l) : allI l (fun m => f (offB g x m) m) = allI l (fun m => f (g m) m) := by
  refine allI_congr fun y hy => ?_
  have : y.toNat ≠ x := fun e => hx (by have := hl y hy; rwa [show (x : Int) = y by omega])
  simp [offB, this]

theorem downF_off {n : Nat} {c k g : Nat → Bool} {nx : Nat → List Int} (hl : Low n nx) {x i : Nat} (hi : i < n) (hx : (x : Int) ∉ nx i) : downF c k nx (offB g x) i = downF c k nx g i := by
  unfold downF
  rw [show allI (nx i) (offB g x) = allI (nx i) g from allI_off (f := fun b _ => b) (fun y hy => (hl i hi y hy).1) hx]
theorem upF_off {n : Nat} {c k g : Nat → Bool} {P : Nat → List Int} (hl : Low n P) {x i : Nat} (hi : i < n) (hx : (x : Int) ∉ P i) : upF c k P (offB g x) i = upF c k P g i := by
  unfold upF
  rw [allI_off (f := fun b m => k m && (c m || b)) (fun y hy => (hl i hi y hy).1) hx]
theorem delayF_off {n : Nat} {c e g : Nat → Bool} {P : Nat → List Int} (hl : Low n P) {x i : Nat} (hi : i < n) (hx : (x : Int) ∉ P i) : delayF c e P (offB g x) i = delayF c e P g i := by
  unfold delayF
  rw [allI_off (f := fun b m => b && !c m) (fun y hy => (hl i hi y hy).1) hx]
theorem aloneF_off {n : Nat} {c t g : Nat → Bool} {nx : Nat → List Int} (hl : Low n nx) {x i : Nat} (hi : i < n) (hx : (x : Int) ∉ nx i) : aloneF c t nx (offB g x) i = aloneF c t nx g i := by
  unfold aloneF
  rw [allI_off (f := fun b m => t m || (!c m && b)) (fun y hy => (hl i hi y hy).1) hx]
end Go.Proofs.Ytljlgffkhocgkaa
