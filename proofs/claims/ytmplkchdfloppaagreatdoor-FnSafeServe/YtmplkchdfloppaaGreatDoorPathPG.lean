/- Paths, plainly: when a row of numbers is one. On a path: where it will be reckoned it is, before an operand changes; where it was reckoned it was, and no operand changed since. On a path: what chapter 12 says of earliest places, and of places that serve a step alone. On a path of a tidy program: the step ahead of an earliest place. -/
import Derived.Test.YtmplkchdfloppaaGreatDoorBaseG
import Derived.Test.YtmplkchdfloppaaGreatDoorTo
namespace Go.Proofs.YtmplkchdfloppaaGreatDoor
open Go.RowKit

/-- A slice of numbers, and that it has room for them. -/
def IntsC (w : World) (v : Value) (zs : List Int) : Prop :=
  ∃ ao b o cap, v = .slice ao zs.length cap ∧ zs.length ≤ cap ∧ (0 < zs.length → ao = some ⟨b, o, none⟩) ∧ ∀ i, i < zs.length → w.cell? ⟨b, o + i, none⟩ = some (.int .i64 (zs.getD i 0))

theorem IntsC.at {w : World} {v : Value} {zs : List Int} (h : IntsC w v zs) : IntsAt w v zs := by
  obtain ⟨ao, b, o, cap, e, _, h1, h2⟩ := h
  exact ⟨ao, b, o, cap, e, h1, h2⟩

theorem IntsC.keep {w w' : World} {v : Value} {zs : List Int} (h : IntsC w v zs) (hb : Below w.heap.size w w') : IntsC w' v zs := by
  obtain ⟨ao, b, o, cap, e, h0, h1, h2⟩ := h
  exact ⟨ao, b, o, cap, e, h0, h1, fun i hi => cell_keep hb (h2 i hi)⟩

theorem IntsOwn.c {lo : Nat} {w : World} {v : Value} {zs : List Int} (h : IntsOwn lo w v zs) : IntsC w v zs := by
  obtain ⟨b, hv, _, hr⟩ := h
  exact ⟨_, b, 0, _, hv, Nat.le_refl _, fun _ => rfl, fun i hi => by rw [Nat.zero_add, hr.cell hi]⟩

/-- A step's kind, by its place. -/
def kindAt (ss : List St) (k : Nat) : Int := ((ss[k]?).map St.kind).getD 0
theorem kindAt_get {ss : List St} {k : Nat} (hk : k < ss.length) : kindAt ss k = ss[k].kind := by simp [kindAt, hk]

/-- Where one stands when one has come past k of the numbers behind the first step. -/
def atP (r : List Int) (k : Nat) : Int := (0 :: r).getD k 0
theorem atP_zero (r : List Int) : atP r 0 = 0 := rfl
theorem atP_succ (r : List Int) (k : Nat) : atP r (k + 1) = r.getD k 0 := by simp [atP]

/-- The first k steps behind the first are come to, one behind the other. -/
def Walks (ss : List St) (r : List Int) (k : Nat) : Prop := ∀ j, j < k → r.getD j 0 ∈ nextOf ss (atP r j).toNat

/-- A path: from the first step on, each behind the one ahead, the last an end. -/
def IsPath (ss : List St) (zs : List Int) : Prop :=
  ∃ r, zs = 0 :: r ∧ r.length < 200 ∧ Walks ss r r.length ∧ kindAt ss (atP r r.length).toNat = 7

theorem IsPath.nil {ss : List St} : ¬ IsPath ss [] := fun ⟨_, h, _⟩ => by cases h

theorem IsPath.cons_iff {ss : List St} {z : Int} {r : List Int} : IsPath ss (z :: r) ↔ z = 0 ∧ r.length < 200 ∧ Walks ss r r.length ∧ kindAt ss (atP r r.length).toNat = 7 := by
  constructor
  · rintro ⟨r', h, h1, h2, h3⟩
    cases h
    exact ⟨rfl, h1, h2, h3⟩
  · rintro ⟨rfl, h1, h2, h3⟩
    exact ⟨r, rfl, h1, h2, h3⟩

/-- Whoever walks stands at a place. -/
theorem Walks.place {ss : List St} (hok : okB ss = true) {r : List Int} {k : Nat} (h : Walks ss r k) : ∃ m : Nat, atP r k = (m : Int) ∧ m < ss.length := by
  have key : ∀ j, j ≤ k → ∃ m : Nat, atP r j = (m : Int) ∧ m < ss.length := by
    intro j
    induction j with
    | zero => exact fun _ => ⟨0, rfl, (ok_len hok).1⟩
    | succ j ih =>
      intro hj
      obtain ⟨m, h1, h2⟩ := ih (by omega)
      have h3 := h j (by omega)
      rw [h1, Int.toNat_natCast] at h3
      have h4 := low_next hok m h2 _ h3
      rw [atP_succ]
      exact ⟨(r.getD j 0).toNat, by omega, by omega⟩
  exact key k (Nat.le_refl _)

theorem Walks.succ {ss : List St} {r : List Int} {k : Nat} (h : Walks ss r k) (hx : r.getD k 0 ∈ nextOf ss (atP r k).toNat) : Walks ss r (k + 1) := by
  intro j hj
  by_cases e : j = k
  · subst e; exact hx
  · exact h j (by omega)

theorem Walks.le {ss : List St} {r : List Int} {k j : Nat} (h : Walks ss r k) (hj : j ≤ k) : Walks ss r j := fun i hi => h i (by omega)
theorem Walks.zero (ss : List St) (r : List Int) : Walks ss r 0 := fun _ h => absurd h (by omega)
end Go.Proofs.YtmplkchdfloppaaGreatDoor
namespace Go.Proofs.YtmplkchdfloppaaGreatDoor
open Go.RowKit

/-- The place on a path, as a number. -/
def onP (zs : List Int) (k : Nat) : Nat := (zs.getD k 0).toNat

theorem IsPath.at {ss : List St} {zs : List Int} (hok : okB ss = true) (h : IsPath ss zs) {k : Nat} (hk : k < zs.length) : zs.getD k 0 = (onP zs k : Int) ∧ onP zs k < ss.length := by
  obtain ⟨r, rfl, _, h2, _⟩ := h
  rw [List.length_cons] at hk
  obtain ⟨m, h3, h4⟩ := Walks.place hok (h2.le (show k ≤ r.length by omega))
  have e : (0 :: r).getD k 0 = (m : Int) := h3
  unfold onP
  rw [e, Int.toNat_natCast]
  exact ⟨rfl, h4⟩

theorem IsPath.first {ss : List St} {zs : List Int} (h : IsPath ss zs) : 0 < zs.length ∧ onP zs 0 = 0 := by
  obtain ⟨r, rfl, _, _, _⟩ := h
  exact ⟨by simp, rfl⟩

theorem IsPath.step {ss : List St} {zs : List Int} (hok : okB ss = true) (h : IsPath ss zs) {k : Nat} (hk : k + 1 < zs.length) : (onP zs (k + 1) : Int) ∈ nextOf ss (onP zs k) := by
  have e := (h.at hok hk).1
  obtain ⟨r, rfl, _, h2, _⟩ := h
  rw [List.length_cons] at hk
  rw [← e]
  exact h2 k (by omega)

theorem IsPath.last {ss : List St} {zs : List Int} (hok : okB ss = true) (h : IsPath ss zs) {k : Nat} (hk : k + 1 = zs.length) : nextOf ss (onP zs k) = [] := by
  have h4 := (h.at hok (show k < zs.length by omega)).2
  obtain ⟨r, rfl, _, _, h3⟩ := h
  rw [List.length_cons] at hk
  obtain rfl : k = r.length := by omega
  have e : onP (0 :: r) r.length = (atP r r.length).toNat := rfl
  rw [e] at h4 ⊢
  rw [kindAt_get h4] at h3
  rw [nextOf_get h4]
  have h5 := ok_step hok (List.getElem?_eq_getElem h4)
  unfold stepB at h5
  simp only [Bool.and_eq_true, decide_eq_true_eq] at h5
  have h6 := h5.1.1
  rw [h3] at h6
  have h7 : many 7 = 0 := by decide
  rw [h7] at h6
  exact List.eq_nil_of_length_eq_zero (by omega)

theorem IsPath.reach {ss : List St} {zs : List Int} {rs : List Bool} (hok : okB ss = true) (hr : IsReach ss rs) (h : IsPath ss zs) : ∀ {k : Nat}, k < zs.length → Reaches ss (onP zs k)
  | 0, _ => by rw [h.first.2]; exact Reaches.first ss
  | k + 1, hk => by
    have h1 := IsPath.reach hok hr h (show k < zs.length by omega)
    have h2 := (h.at hok (show k < zs.length by omega)).2
    have h3 := h.step hok hk
    rw [nextOf_get h2] at h3
    exact h1.on (List.getElem?_eq_getElem h2) h3

/-- Where it will be reckoned, and is not, it is kept, and will be reckoned behind. -/
theorem IsDown.on {ss : List St} {e : E5} {rs : List Bool} {d : Nat → Bool} (hok : okB ss = true) (h : IsDown ss e rs d) {zs : List Int} (hp : IsPath ss zs) {k : Nat} (hk : k < zs.length) (hd : d (onP zs k) = true) (hc : cF e ss (onP zs k) = false) :
    kF e ss (onP zs k) = true ∧ k + 1 < zs.length ∧ d (onP zs (k + 1)) = true := by
  have h1 := (h.fit _ (hp.at hok hk).2 hd).2
  unfold downF at h1
  rw [hc, Bool.false_or] at h1
  simp only [Bool.and_eq_true, decide_eq_true_eq] at h1
  obtain ⟨h2, h3, h4⟩ := h1
  have h5 : k + 1 < zs.length := by
    refine Classical.byContradiction fun hn => ?_
    rw [hp.last hok (show k + 1 = zs.length by omega)] at h3
    simp at h3
  refine ⟨h2, h5, ?_⟩
  unfold allI at h4
  rw [List.all_eq_true] at h4
  have h6 := h4 _ (hp.step hok h5)
  rwa [Int.toNat_natCast] at h6

/-- Where it was reckoned is not the first step, and the one ahead keeps it, and reckons it, or it was reckoned there. -/
theorem IsUp.on {ss : List St} {e : E5} {rs : List Bool} {u : Nat → Bool} (hok : okB ss = true) (hr : IsReach ss rs) (h : IsUp ss e rs u) {zs : List Int} (hp : IsPath ss zs) {k : Nat} (hk : k < zs.length) (hd : u (onP zs k) = true) :
    ∃ m, k = m + 1 ∧ kF e ss (onP zs m) = true ∧ (cF e ss (onP zs m) = true ∨ u (onP zs m) = true) := by
  have h1 := (h.fit _ (hp.at hok hk).2 hd).2
  unfold upF at h1
  simp only [Bool.and_eq_true, decide_eq_true_eq] at h1
  cases k with
  | zero => exact absurd hp.first.2 h1.1
  | succ m =>
    refine ⟨m, rfl, ?_⟩
    have hm : m < zs.length := by omega
    have h2 : (onP zs m : Int) ∈ pF ss rs (onP zs (m + 1)) := by
      refine mem_preds.2 ⟨(hp.at hok hm).2, ?_, hp.step hok hk⟩
      have h3 := (hr.2 _ (hp.at hok hm).2).2 (hp.reach hok hr hm)
      unfold rF
      rw [List.getD_eq_getElem?_getD, h3]
      rfl
    have h4 := h1.2
    unfold allI at h4
    rw [List.all_eq_true] at h4
    have h5 := h4 _ h2
    rw [Int.toNat_natCast] at h5
    simp only [Bool.or_eq_true, Bool.and_eq_true] at h5
    exact h5
end Go.Proofs.YtmplkchdfloppaaGreatDoor
namespace Go.Proofs.YtmplkchdfloppaaGreatDoor
open Go.RowKit

theorem IsDown.of_comp {ss : List St} {e : E5} {rs : List Bool} {d : Nat → Bool} (hok : okB ss = true) (hr : IsReach ss rs) (h : IsDown ss e rs d) {zs : List Int} (hp : IsPath ss zs) {k : Nat} (hk : k < zs.length) (hc : cF e ss (onP zs k) = true) : d (onP zs k) = true := by
  have hl := (hp.at hok hk).2
  have hr3 : rF rs (onP zs k) = true := by
    have h3 := (hr.2 _ hl).2 (hp.reach hok hr hk)
    unfold rF
    rw [List.getD_eq_getElem?_getD, h3]
    rfl
  refine h.top (fun j => d j || decide (j = onP zs k)) (fun j hj hh => ?_) _ hl (by simp)
  simp only [Bool.or_eq_true, decide_eq_true_eq] at hh
  have hle : ∀ i, i < ss.length → d i = true → (d i || decide (i = onP zs k)) = true := fun i _ hi => by rw [hi]; rfl
  rcases hh with hh | rfl
  · exact ⟨(h.fit j hj hh).1, downF_mono (low_next hok) d _ hle j hj (h.fit j hj hh).2⟩
  · refine ⟨hr3, ?_⟩
    unfold downF
    rw [hc]
    rfl

/-- The step ahead on a path is one of those ahead. -/
theorem IsPath.ahead {ss : List St} {zs : List Int} {rs : List Bool} (hok : okB ss = true) (hr : IsReach ss rs) (hp : IsPath ss zs) {m : Nat} (hk : m + 1 < zs.length) : (onP zs m : Int) ∈ pF ss rs (onP zs (m + 1)) := by
  have hm : m < zs.length := by omega
  refine mem_preds.2 ⟨(hp.at hok hm).2, ?_, hp.step hok hk⟩
  have h3 := (hr.2 _ (hp.at hok hm).2).2 (hp.reach hok hr hm)
  unfold rF
  rw [List.getD_eq_getElem?_getD, h3]
  rfl

/-- Where it will be reckoned, or was, and it is no earliest place, the step ahead keeps it, and there it will be reckoned, or was. -/
theorem IsEarly.on {ss : List St} {e : E5} {rs : List Bool} {a d u : Nat → Bool} (hok : okB ss = true) (hr : IsReach ss rs) (hd : IsDown ss e rs d) (hu : IsUp ss e rs u) (ha : ∀ i, i < ss.length → a i = earlyB (kF e ss) d u (pF ss rs) i)
    {zs : List Int} (hp : IsPath ss zs) {k : Nat} (hk : k < zs.length) (hdu : d (onP zs k) = true ∨ u (onP zs k) = true) (hn : a (onP zs k) = false) : ∃ m, k = m + 1 ∧ kF e ss (onP zs m) = true ∧ (d (onP zs m) = true ∨ u (onP zs m) = true) := by
  rcases hdu with h | h
  · rw [ha _ (hp.at hok hk).2] at hn
    unfold earlyB at hn
    rw [h, Bool.true_and, Bool.or_eq_false_iff] at hn
    obtain ⟨h1, h2⟩ := hn
    cases k with
    | zero => simp [hp.first.2] at h1
    | succ m =>
      refine ⟨m, rfl, ?_⟩
      have h3 : allI (pF ss rs (onP zs (m + 1))) (fun m => kF e ss m && (d m || u m)) = true := by simpa using h2
      unfold allI at h3
      rw [List.all_eq_true] at h3
      have h5 := h3 _ (hp.ahead hok hr hk)
      rw [Int.toNat_natCast] at h5
      simp only [Bool.or_eq_true, Bool.and_eq_true] at h5
      exact h5
  · obtain ⟨m, rfl, h1, h2⟩ := IsUp.on hok hr hu hp hk h
    refine ⟨m, rfl, h1, ?_⟩
    rcases h2 with h2 | h2
    · exact Or.inl (IsDown.of_comp hok hr hd hp (by omega) h2)
    · exact Or.inr h2

/-- Behind a place that would serve a step alone is a latest place, or one that does not reckon it, and would serve a step alone. -/
theorem IsAlone.on {ss : List St} {e : E5} {rs : List Bool} {f l : Nat → Bool} (hok : okB ss = true) (h : IsAlone ss e rs f) (hl : IsLate ss e rs l) {zs : List Int} (hp : IsPath ss zs) {k : Nat} (hk : k + 1 < zs.length) (hf : f (onP zs k) = true) (hn : l (onP zs (k + 1)) = false) :
    cF e ss (onP zs (k + 1)) = false ∧ f (onP zs (k + 1)) = true := by
  obtain ⟨t, h1, h2⟩ := h
  have h3 := (h2.fit _ (hp.at hok (show k < zs.length by omega)).2 hf).2
  unfold aloneF allI at h3
  rw [List.all_eq_true] at h3
  have h4' := h3 _ (hp.step hok hk)
  rw [Int.toNat_natCast] at h4'
  have h4 : (t (onP zs (k + 1)) || !cF e ss (onP zs (k + 1)) && f (onP zs (k + 1))) = true := h4'
  have h5 := IsLate.unique ss hok e rs t l h1 hl _ (hp.at hok hk).2
  rw [h5, hn] at h4
  simpa using h4
end Go.Proofs.YtmplkchdfloppaaGreatDoor
namespace Go.Proofs.YtmplkchdfloppaaGreatDoor
open Go.RowKit

theorem waysK_mono {ss : List St} {a b : Nat} (j : Int) (h : a ≤ b) (hb : b ≤ ss.length) : waysK ss a j ≤ waysK ss b j := by
  induction b with
  | zero => have : a = 0 := by omega
            subst this; exact Nat.le_refl _
  | succ b ih =>
    by_cases e : a = b + 1
    · subst e; exact Nat.le_refl _
    · have := ih (by omega) (by omega)
      rw [waysK_succ (by omega)]
      omega

theorem ways_one {ss : List St} {i : Nat} {x : Int} (hi : i < ss.length) (hx : x ∈ ss[i].next) : 1 ≤ waysK ss (i + 1) x := by
  rw [waysK_succ hi]
  have := List.count_pos_iff.2 hx
  omega

theorem ways_pos {ss : List St} {i : Nat} {x : Int} (hi : i < ss.length) (hx : x ∈ ss[i].next) : 1 ≤ ways ss x := by
  rw [← waysK_all]
  have h1 := ways_one hi hx
  have h2 := waysK_mono (ss := ss) x (show i + 1 ≤ ss.length by omega) (Nat.le_refl _)
  omega

theorem ways_two {ss : List St} {i j : Nat} {x : Int} (hij : i < j) (hj : j < ss.length) (hi : x ∈ (ss[i]'(by omega)).next) (hx : x ∈ ss[j].next) : 2 ≤ ways ss x := by
  rw [← waysK_all]
  have h1 := ways_one (show i < ss.length by omega) hi
  have h2 := waysK_mono (ss := ss) x (show i + 1 ≤ j by omega) (show j ≤ ss.length by omega)
  have h3 := waysK_mono (ss := ss) x (show j + 1 ≤ ss.length by omega) (Nat.le_refl _)
  rw [waysK_succ hj] at h3
  have h4 := List.count_pos_iff.2 hx
  omega

/-- A StepSkip leads to one step alone, and keeps all. -/
theorem skip_next {s : St} {n : Nat} (h : stepB s n = true) (h6 : s.kind = 6) {x : Int} (hx : x ∈ s.next) : s.next = [x] := by
  unfold stepB at h
  simp only [Bool.and_eq_true, decide_eq_true_eq] at h
  have h1 := h.1.1
  rw [h6] at h1
  have h2 : many 6 = 1 := by decide
  rw [h2] at h1
  obtain ⟨y, hy⟩ := List.length_eq_one_iff.1 (show s.next.length = 1 by omega)
  rw [hy] at hx ⊢
  rw [List.mem_singleton.1 hx]

theorem skip_keeps {s : St} (h6 : s.kind = 6) (e : E5) : keepB e s = true := by
  unfold keepB setsI
  rw [if_neg (by omega)]
  simp

/-- The step ahead of an earliest place of a path of a tidy program changes an operand, or neither SafeDown nor SafeUp is so of it. -/
theorem IsEarly.once {ss : List St} {e : E5} {rs : List Bool} {a d u : Nat → Bool} (hok : okB ss = true) (ht : Tidy ss) (hd : IsDown ss e rs d) (ha : ∀ i, i < ss.length → a i = earlyB (kF e ss) d u (pF ss rs) i)
    {zs : List Int} (hp : IsPath ss zs) {y : Nat} (hy : y + 1 < zs.length) (he : a (onP zs (y + 1)) = true) (hk : kF e ss (onP zs y) = true) : d (onP zs y) = false ∧ u (onP zs y) = false := by
  have hx := (hp.at hok hy).2
  have hm := (hp.at hok (show y < zs.length by omega)).2
  have hs := hp.step hok hy
  refine Classical.byContradiction fun hn => ?_
  have hdu : (d (onP zs y) || u (onP zs y)) = true := by
    cases h1 : d (onP zs y) <;> cases h2 : u (onP zs y) <;> simp_all
  clear hn
  rw [ha _ hx] at he
  unfold earlyB at he
  simp only [Bool.and_eq_true, Bool.or_eq_true, decide_eq_true_eq, Bool.not_eq_true'] at he
  obtain ⟨hdx, he⟩ := he
  generalize onP zs (y + 1) = x at *
  generalize onP zs y = m at *
  rw [nextOf_get hm] at hs
  rcases he with rfl | he
  · have := ways_pos hm hs
    rw [show ((0 : Nat) : Int) = 0 from rfl, ht.1] at this
    omega
  · refine absurd he ?_
    rw [Bool.not_eq_false]
    unfold allI
    rw [List.all_eq_true]
    intro q hq
    have hq0 := low_preds ss rs x hx q hq
    obtain ⟨p, rfl⟩ := Int.eq_ofNat_of_zero_le hq0.1
    have hpn : p < ss.length := by omega
    rw [Int.toNat_natCast]
    show (kF e ss p && (d p || u p)) = true
    by_cases epm : p = m
    · subst epm
      rw [hk, hdu]
      rfl
    · have hpx := (mem_preds.1 hq).2.2
      rw [nextOf_get hpn] at hpx
      have h2 : 2 ≤ ways ss (x : Int) := by
        rcases Nat.lt_or_gt_of_ne epm with h | h
        · exact ways_two h hm hpx hs
        · exact ways_two h hpn hs hpx
      have h6 : ss[p].kind = 6 := Classical.byContradiction fun hk6 => by
        have := ht.2.2 ss[p] (List.getElem_mem hpn) hk6 (x : Int) hpx
        omega
      have hnx := skip_next (ok_step hok (List.getElem?_eq_getElem hpn)) h6 hpx
      have hkp : kF e ss p = true := by rw [kF_get hpn]; exact skip_keeps h6 e
      have hdp : d p = true := by
        refine hd.top (fun j => d j || decide (j = p)) (fun j hj hh => ?_) _ hpn (by simp)
        simp only [Bool.or_eq_true, decide_eq_true_eq] at hh
        have hle : ∀ i, i < ss.length → d i = true → (d i || decide (i = p)) = true := fun i _ hi => by rw [hi]; rfl
        rcases hh with hh | rfl
        · exact ⟨(hd.fit j hj hh).1, downF_mono (low_next hok) d _ hle j hj (hd.fit j hj hh).2⟩
        · refine ⟨(mem_preds.1 hq).2.1, ?_⟩
          unfold downF allI
          rw [hkp, nextOf_get hpn, hnx]
          simp [hdx]
      rw [hkp, hdp]
      rfl
end Go.Proofs.YtmplkchdfloppaaGreatDoor
