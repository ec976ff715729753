/- A way of moving in its box; rows of moves. Ways of moving, plainly: to move nothing, as early as can be, as late as can be. Answers that are ways of moving: held against each other, marked, and found as they were marked. -/
import Derived.Test.YtpgnlbkldjdjlaaGreatAnsB
import Derived.Test.YtpgnlbkldjdjlaaGreatOwnK
import Derived.Test.YtpgnlbkldjdjlaaGreatSafeF
import Derived.Test.YtpgnlbkldjdjlaaGreatSpecSS
namespace Go.Proofs.YtpgnlbkldjdjlaaGreat
open Go.RowKit

/-- A way of moving, both its rows in blocks from lo on, below hi, apart from each other. -/
def PlaceO (lo hi : Nat) (w : World) (v : Value) (ps ts : List Bool) : Prop :=
  ∃ pv tv, v = .agg #[pv, tv] ∧ BoolsOwn lo hi w pv ps ∧ BoolsOwn lo hi w tv ts ∧ ∀ k, pv.ownBlock = some k → tv.ownBlock ≠ some k

theorem PlaceO.keep {lo hi : Nat} {w w' : World} {v : Value} {ps ts : List Bool} (h : PlaceO lo hi w v ps ts) (hb : Below w.heap.size w w') : PlaceO lo hi w' v ps ts := by
  obtain ⟨ov, pv, e, h1, h2, h3⟩ := h
  exact ⟨ov, pv, e, h1.keep hb, h2.keep hb, h3⟩

theorem PlaceO.out {lo hi lo' hi' : Nat} {w w' : World} {v : Value} {ps ts : List Bool} (h : PlaceO lo hi w v ps ts) (ho : Out lo' hi' w w') (hr : hi ≤ lo' ∨ hi' ≤ lo) : PlaceO lo hi w' v ps ts := by
  obtain ⟨ov, pv, e, h1, h2, h3⟩ := h
  exact ⟨ov, pv, e, h1.out ho hr, h2.out ho hr, h3⟩

theorem PlaceO.form {lo hi : Nat} {w : World} {v : Value} {ps ts : List Bool} (h : PlaceO lo hi w v ps ts) : ∃ A c A' c', v = .agg #[.slice A ps.length c, .slice A' ts.length c'] := by
  obtain ⟨ov, pv, e, h1, h2, _⟩ := h
  obtain ⟨A, c, rfl⟩ := h1.slice
  obtain ⟨A', c', rfl⟩ := h2.slice
  exact ⟨A, c, A', c', e⟩

theorem BoolsOwn.lower {lo lo' hi : Nat} {w : World} {v : Value} {bs : List Bool} (h : BoolsOwn lo hi w v bs) (hl : lo' ≤ lo) : BoolsOwn lo' hi w v bs := ⟨own_lower h.1 hl, h.2⟩

theorem PlaceO.lower {lo lo' hi : Nat} {w : World} {v : Value} {ps ts : List Bool} (h : PlaceO lo hi w v ps ts) (hl : lo' ≤ lo) : PlaceO lo' hi w v ps ts := by
  obtain ⟨ov, pv, e, h1, h2, h3⟩ := h
  exact ⟨ov, pv, e, h1.lower hl, h2.lower hl, h3⟩

set_option maxHeartbeats 1000000 in
theorem eqPlace_any {Q : Ending → World → Prop} (u v : Value) (ps ts : List Bool) (lo hi lo' hi' : Nat) (w : World) (hu : PlaceO lo hi w u ps ts) (hv : PlaceO lo' hi' w v ps ts) (h1 : ps.length ≤ 1048576) (h2 : ts.length ≤ 1048576)
    (hQ : ∀ w', Below w.heap.size w w' → Q (.returned (.bool true)) w') :
    Calls Tryz.prog 33 #[u, v] w Q := by
  have HQ : Hid _ := hQ
  clear hQ
  obtain ⟨ov, pv, rfl, i1, i2, _⟩ := hu
  obtain ⟨ov', pv', rfl, i3, i4, _⟩ := hv
  have I1 : Hid (BoolsOwn lo hi w ov ps) := i1
  have I2 : Hid (BoolsOwn lo hi w pv ts) := i2
  have I3 : Hid (BoolsOwn lo' hi' w ov' ps) := i3
  have I4 : Hid (BoolsOwn lo' hi' w pv' ts) := i4
  obtain ⟨A, c, rfl⟩ := i1.slice
  obtain ⟨A2, c2, rfl⟩ := i2.slice
  obtain ⟨A3, c3, rfl⟩ := i3.slice
  obtain ⟨A4, c4, rfl⟩ := i4.slice
  clear i1 i2 i3 i4
  have HB0 : Hid (∀ O O', Below w.heap.size w ((w.alloc O).alloc O')) := fun O O' => ((Below.refl _ _).alloc (Nat.le_refl _) O).alloc (by simp) O'
  go_enter Tryz.func33, Tryz.ntmps33
  go_wp2_with fail
  refine eqBoolS_any _ _ ps _ _ _ _ _ (I1.out.keep (HB0.out _ _)) (I3.out.keep (HB0.out _ _)) h1 fun w1 hb1 => ?_
  have HB1 : Hid (Below w.heap.size w w1) := (HB0.out _ _).trans (hb1.mono (by simp; omega))
  have q2 : w1.cell? ⟨w.heap.size, 1, none⟩ = some (.slice A2 ts.length c2) := cell_keep hb1 (by simp [go_sem])
  have q3 : w1.cell? ⟨w.heap.size + 1, 1, none⟩ = some (.slice A4 ts.length c4) := cell_keep hb1 (by simp [go_sem])
  clear hb1
  go_wp2_with fail
  refine eqBoolS_any _ _ ts _ _ _ _ _ (I2.out.keep HB1.out) (I4.out.keep HB1.out) h2 fun w2 hb2 => ?_
  have HB2 : Hid (Below w.heap.size w w2) := HB1.out.trans (hb2.mono HB1.out.size)
  clear hb2
  go_wp2
  exact HQ.out _ HB2.out

set_option maxHeartbeats 1000000 in
theorem markPlace_any {Q : Ending → World → Prop} (v : Value) (ps ts : List Bool) (k lo hi : Nat) (w : World) (h : PlaceO lo hi w v ps ts) (hk : k ≤ 1099511627776) (hh : hi ≤ w.heap.size) (h1 : ps.length ≤ 1048576) (h2 : ts.length ≤ 1048576)
    (hQ : ∀ w', Out lo hi w w' → PlaceO lo hi w' v (markB k ps.length) (markB (k + ps.length) ts.length) → Q (.returned (.int .i64 ((k + ps.length + ts.length : Nat) : Int))) w') :
    Calls Tryz.prog 34 #[v, .int .i64 (k : Int)] w Q := by
  have HQ : Hid _ := hQ
  clear hQ
  obtain ⟨ov, pv, rfl, i1, i2, ap⟩ := h
  have I1 : Hid (BoolsOwn lo hi w ov ps) := i1
  have I2 : Hid (BoolsOwn lo hi w pv ts) := i2
  have AP : Hid (∀ k, ov.ownBlock = some k → pv.ownBlock ≠ some k) := ap
  obtain ⟨A, c, rfl⟩ := i1.slice
  obtain ⟨A2, c2, rfl⟩ := i2.slice
  clear i1 i2 ap
  have hb0 : ∀ O, Below w.heap.size w (w.alloc O) := fun O => (Below.refl _ _).alloc (Nat.le_refl _) O
  have HB0 : Hid (∀ O, Below w.heap.size w (w.alloc O)) := hb0
  go_enter Tryz.func34, Tryz.ntmps34
  go_wp2_with fail
  refine markBoolS_own _ ps k lo hi _ (I1.out.keep (hb0 _)) (by omega) h1 fun w1 ho1 hm1 hg1 => ?_
  have q2 : w1.cell? ⟨w.heap.size, 1, none⟩ = some (.slice A2 ts.length c2) := ho1.cell (by simp [go_sem]) (Or.inr hh)
  have HO1 : Hid (Out lo hi w w1) := (Out.of_below (HB0.out _)).trans ho1
  have HM1 : Hid (BoolsOwn lo hi w1 (.slice A ps.length c) (markB k ps.length)) := hm1
  have HP1 : Hid (BoolsOwn lo hi w1 (.slice A2 ts.length c2) ts) := by
    refine ⟨(I2.out.keep (HB0.out _)).1.kept hg1 ?_, I2.out.2⟩
    cases hb : (Value.slice A2 ts.length c2).ownBlock with
    | none => exact Or.inl rfl
    | some q => exact Or.inr fun e2 => AP.out q e2.symm hb
  clear ho1 hm1 hg1 hb0
  go_wp2_with fail
  refine markBoolS_own _ ts (k + ps.length) lo hi _ HP1.out (by omega) h2 fun w2 ho2 hm2 hg2 => ?_
  have HO2 : Hid (Out lo hi w w2) := HO1.out.trans ho2
  have HM2 : Hid (BoolsOwn lo hi w2 (.slice A ps.length c) (markB k ps.length)) := by
    refine ⟨HM1.out.1.kept hg2 ?_, HM1.out.2⟩
    cases hb : (Value.slice A ps.length c).ownBlock with
    | none => exact Or.inl rfl
    | some q => exact Or.inr fun e2 => AP.out q hb e2.symm
  have HN2 : Hid (BoolsOwn lo hi w2 (.slice A2 ts.length c2) (markB (k + ps.length) ts.length)) := hm2
  clear ho2 hm2 hg2
  go_wp2
  exact HQ.out _ HO2.out ⟨_, _, rfl, HM2.out, HN2.out, AP.out⟩

set_option maxHeartbeats 1000000 in
theorem heldPlace_any {Q : Ending → World → Prop} (v : Value) (k n m lo hi : Nat) (w : World) (h : PlaceO lo hi w v (markB k n) (markB (k + n) m)) (hk : k ≤ 1099511627776) (h1 : n ≤ 1048576) (h2 : m ≤ 1048576)
    (hQ : ∀ w', Below w.heap.size w w' → Q (.returned (.int .i64 ((k + n + m : Nat) : Int))) w') :
    Calls Tryz.prog 35 #[v, .int .i64 (k : Int)] w Q := by
  have HQ : Hid _ := hQ
  clear hQ
  obtain ⟨ov, pv, rfl, i1, i2, ap⟩ := h
  have I1 : Hid (BoolsOwn lo hi w ov (markB k n)) := i1
  have I2 : Hid (BoolsOwn lo hi w pv (markB (k + n) m)) := i2
  obtain ⟨A, c, hov⟩ := i1.slice
  obtain ⟨A2, c2, hpv⟩ := i2.slice
  have hov' : ov = .slice A n c := by rw [hov]; simp [length_markB]
  have hpv' : pv = .slice A2 m c2 := by rw [hpv]; simp [length_markB]
  clear hov hpv
  subst hov' hpv'
  clear i1 i2 ap
  have hb0 : ∀ O, Below w.heap.size w (w.alloc O) := fun O => (Below.refl _ _).alloc (Nat.le_refl _) O
  go_enter Tryz.func35, Tryz.ntmps35
  go_wp2_with fail
  refine heldBoolS_any _ k n lo hi _ (I1.out.keep (hb0 _)) (by omega) h1 fun w1 hb1 => ?_
  have HB1 : Hid (Below w.heap.size w w1) := (hb0 _).trans (hb1.mono (by simp))
  have q2 : w1.cell? ⟨w.heap.size, 1, none⟩ = some (.slice A2 m c2) := cell_keep hb1 (by simp [go_sem])
  have hn1 : ¬ (((k + n : Nat) : Int) < 0) := by omega
  clear hb1 hb0
  go_wp2_with fail
  refine heldBoolS_any _ (k + n) m lo hi _ (I2.out.keep HB1.out) (by omega) h2 fun w2 hb2 => ?_
  have HB2 : Hid (Below w.heap.size w w2) := HB1.out.trans (hb2.mono HB1.out.size)
  have hn2 : ¬ (((k + n + m : Nat) : Int) < 0) := by omega
  clear hb2
  go_wp2
  exact HQ.out _ HB2.out
end Go.Proofs.YtpgnlbkldjdjlaaGreat
namespace Go.Proofs.YtpgnlbkldjdjlaaGreat

/-- A way of moving of a program and a reckoning that are ok; else nothing. -/
def PlOr (P : List St → E5 → List Bool → (Nat → Bool) → (Nat → Bool) → Prop) (ss : List St) (e : E5) (ps ts : List Bool) : Prop :=
  (okB ss = true ∧ exprB e = true ∧ ∃ rs f g, IsReach ss rs ∧ P ss e rs f g ∧ ps = (List.range ss.length).map f ∧ ts = (List.range ss.length).map g) ∨ (¬ (okB ss = true ∧ exprB e = true) ∧ ps = [] ∧ ts = [])

theorem PlOr.unique {P : List St → E5 → List Bool → (Nat → Bool) → (Nat → Bool) → Prop} (hu : ∀ ss, okB ss = true → ∀ e rs f g f' g', P ss e rs f g → P ss e rs f' g' → ∀ i, i < ss.length → f i = f' i ∧ g i = g' i) {ss : List St} {e : E5} {a b a' b' : List Bool} (ha : PlOr P ss e a b) (hb : PlOr P ss e a' b') : a = a' ∧ b = b' := by
  rcases ha with ⟨h1, h2, rs, f, g, h3, h4, rfl, rfl⟩ | ⟨h1, rfl, rfl⟩
  · rcases hb with ⟨_, _, rs', f', g', k3, k4, rfl, rfl⟩ | ⟨k1, rfl, rfl⟩
    · obtain rfl := h3.unique k3
      exact ⟨List.map_congr_left fun i hi => (hu ss h1 e rs f g f' g' h4 k4 i (by simpa using hi)).1, List.map_congr_left fun i hi => (hu ss h1 e rs f g f' g' h4 k4 i (by simpa using hi)).2⟩
    · exact absurd ⟨h1, h2⟩ k1
  · rcases hb with ⟨k1, k2, _⟩ | ⟨_, rfl, rfl⟩
    · exact absurd ⟨k1, k2⟩ h1
    · exact ⟨rfl, rfl⟩

theorem PlOr.bound {P : List St → E5 → List Bool → (Nat → Bool) → (Nat → Bool) → Prop} {ss : List St} {e : E5} {a b : List Bool} (ha : PlOr P ss e a b) (hl : ss.length ≤ 1048576) : a.length ≤ 1048576 ∧ b.length ≤ 1048576 := by
  rcases ha with ⟨_, _, rs, f, g, _, _, rfl, rfl⟩ | ⟨_, rfl, rfl⟩
  · simpa using hl
  · simp

theorem PlOr.len {P : List St → E5 → List Bool → (Nat → Bool) → (Nat → Bool) → Prop} {ss : List St} {e : E5} {a b : List Bool} (ha : PlOr P ss e a b) : a.length = b.length := by
  rcases ha with ⟨_, _, rs, f, g, _, _, rfl, rfl⟩ | ⟨_, rfl, rfl⟩
  · simp
  · rfl

def IsNone (_ : List St) (_ : E5) (_ : List Bool) (f g : Nat → Bool) : Prop := ∀ i, f i = false ∧ g i = false
def IsBusy (ss : List St) (e : E5) (rs : List Bool) (f g : Nat → Bool) : Prop := IsEarly ss e rs f ∧ ∀ i, i < ss.length → g i = (cF e ss i && rF rs i)
def IsLazy (ss : List St) (e : E5) (rs : List Bool) (f g : Nat → Bool) : Prop := ∃ l a, IsLate ss e rs l ∧ IsAlone ss e rs a ∧ ∀ i, i < ss.length → f i = (l i && !a i) ∧ g i = (cF e ss i && rF rs i && !(l i && a i))

theorem IsNone.unique (ss : List St) (_ : okB ss = true) (e : E5) (rs : List Bool) (f g f' g' : Nat → Bool) (h : IsNone ss e rs f g) (h' : IsNone ss e rs f' g') : ∀ i, i < ss.length → f i = f' i ∧ g i = g' i := fun i _ => ⟨(h i).1.trans (h' i).1.symm, (h i).2.trans (h' i).2.symm⟩

theorem IsBusy.unique (ss : List St) (_ : okB ss = true) (e : E5) (rs : List Bool) (f g f' g' : Nat → Bool) (h : IsBusy ss e rs f g) (h' : IsBusy ss e rs f' g') : ∀ i, i < ss.length → f i = f' i ∧ g i = g' i :=
  fun i hi => ⟨IsEarly.unique ss e rs f f' h.1 h'.1 i hi, (h.2 i hi).trans (h'.2 i hi).symm⟩

theorem IsLazy.unique (ss : List St) (hok : okB ss = true) (e : E5) (rs : List Bool) (f g f' g' : Nat → Bool) (h : IsLazy ss e rs f g) (h' : IsLazy ss e rs f' g') : ∀ i, i < ss.length → f i = f' i ∧ g i = g' i := by
  obtain ⟨l, a, h1, h2, h3⟩ := h
  obtain ⟨l', a', k1, k2, k3⟩ := h'
  intro i hi
  obtain ⟨e1, e2⟩ := h3 i hi
  obtain ⟨e3, e4⟩ := k3 i hi
  rw [e1, e2, e3, e4, IsLate.unique ss hok e rs l l' h1 k1 i hi, IsAlone.unique ss hok e rs a a' h2 k2 i hi]
  exact ⟨rfl, rfl⟩

theorem IsDown.reach {ss : List St} {e : E5} {rs : List Bool} {f : Nat → Bool} (h : IsDown ss e rs f) {i : Nat} (hi : i < ss.length) (hf : f i = true) : rF rs i = true := (h.fit i hi hf).1
theorem IsEarly.reach {ss : List St} {e : E5} {rs : List Bool} {f : Nat → Bool} (h : IsEarly ss e rs f) {i : Nat} (hi : i < ss.length) (hf : f i = true) : rF rs i = true := by
  obtain ⟨d, u, h1, _, h3⟩ := h
  rw [h3 i hi] at hf
  unfold earlyB at hf
  simp only [Bool.and_eq_true] at hf
  exact h1.reach hi hf.1
theorem IsLate.reach {ss : List St} {e : E5} {rs : List Bool} {f : Nat → Bool} (h : IsLate ss e rs f) {i : Nat} (hi : i < ss.length) (hf : f i = true) : rF rs i = true := by
  obtain ⟨l, ⟨ea, _, h2⟩, h3⟩ := h
  rw [h3 i hi] at hf
  unfold lateB at hf
  simp only [Bool.and_eq_true] at hf
  exact (h2.fit i hi hf.1).1
end Go.Proofs.YtpgnlbkldjdjlaaGreat
namespace Go.Proofs.YtpgnlbkldjdjlaaGreat
open Go.RowKit

/-- A box of two cells, that may be written. -/
structure BoxP (W : World) (B : Nat) (a b : Value) : Prop where
  c0 : W.cell? ⟨B, 0, none⟩ = some a
  c1 : W.cell? ⟨B, 1, none⟩ = some b
  f0 : W.frozen? ⟨B, 0, none⟩ = false
  f1 : W.frozen? ⟨B, 1, none⟩ = false

theorem BoxP.new (w : World) (a b : Value) (t : TypeId) : BoxP (w.alloc (.cells #[a, b] t)) w.heap.size a b := ⟨by simp [go_sem], by simp [go_sem], by simp [go_sem], by simp [go_sem]⟩

theorem BoxP.keep {W W' : World} {B : Nat} {a b : Value} (h : BoxP W B a b) (hb : Below W.heap.size W W') : BoxP W' B a b :=
  ⟨cell_keep hb h.c0, cell_keep hb h.c1, (hb.frozen (cell_lt h.c0)).trans h.f0, (hb.frozen (cell_lt h.c1)).trans h.f1⟩

theorem BoxP.lt {W : World} {B : Nat} {a b : Value} (h : BoxP W B a b) : B < W.heap.size := cell_lt h.c0

theorem PlaceO.nil (lo hi : Nat) (w : World) : PlaceO lo hi w (.agg #[.slice none 0 0, .slice none 0 0]) [] [] :=
  ⟨_, _, rfl, ⟨World.ownsRow_nil _ _ _ _, fun k hk => by simp [Value.ownBlock] at hk⟩, ⟨World.ownsRow_nil _ _ _ _, fun k hk => by simp [Value.ownBlock] at hk⟩, fun k hk => by simp [Value.ownBlock] at hk⟩

/-- A row of moves: of each place whether it is put there, and whether it is taken. -/
def MRow (w : World) (b t n : Nat) (f g : Nat → Bool) : Prop := w.rowIs b t (2 * n) (fun j => .bool (if j % 2 = 0 then f (j / 2) else g (j / 2)))

theorem MRow.put {w : World} {b t n : Nat} {f g : Nat → Bool} (h : MRow w b t n f g) {j : Nat} (hj : j < n) : w.cell? ⟨b, j * 2, none⟩ = some (.bool (f j)) := by
  have h1 := World.rowIs.cell h (i := j * 2) (by omega)
  rw [h1, if_pos (by omega), show j * 2 / 2 = j by omega]

theorem MRow.take {w : World} {b t n : Nat} {f g : Nat → Bool} (h : MRow w b t n f g) {j : Nat} (hj : j < n) : w.cell? ⟨b, j * 2 + 1, none⟩ = some (.bool (g j)) := by
  have h1 := World.rowIs.cell h (i := j * 2 + 1) (by omega)
  rw [h1, if_neg (by omega), show (j * 2 + 1) / 2 = j by omega]

theorem MRow.keep {w w' : World} {b t n : Nat} {f g : Nat → Bool} (h : MRow w b t n f g) (hb : Below w.heap.size w w') : MRow w' b t n f g := rowIs_keep h hb

theorem MRow.frozen {w : World} {b t n : Nat} {f g : Nat → Bool} (h : MRow w b t n f g) (j : Nat) : w.frozen? ⟨b, j, none⟩ = false := World.rowIs.frozen h j

theorem MRow.congr {w : World} {b t n : Nat} {f g f' g' : Nat → Bool} (h : MRow w b t n f g) (e : ∀ j, j < n → f j = f' j ∧ g j = g' j) : MRow w b t n f' g' :=
  World.rowIs.congr h fun j hj => by
    obtain ⟨e1, e2⟩ := e (j / 2) (by omega)
    rw [e1, e2]

/-- A move more. -/
theorem MRow.set {w : World} {b t n : Nat} {f g : Nat → Bool} (h : MRow w b t n f g) (x : Nat) (p q : Bool) : MRow ((w.setCell ⟨b, x * 2, none⟩ (.bool p)).setCell ⟨b, x * 2 + 1, none⟩ (.bool q)) b t n (fun j => if j = x then p else f j) (fun j => if j = x then q else g j) := by
  have h1 := World.rowIs.set (World.rowIs.set h (x * 2) (.bool p)) (x * 2 + 1) (.bool q)
  refine World.rowIs.congr h1 fun j hj => ?_
  by_cases e1 : j = x * 2
  · subst e1
    simp
  · by_cases e2 : j = x * 2 + 1
    · subst e2
      have e3 : (x * 2 + 1) / 2 = x := by omega
      simp [e3]
    · have e3 : ¬ j / 2 = x := by omega
      simp [e1, e2, e3]

/-- What make lays, of moves. -/
theorem wpList_make_moves {P : Program} (w : World) {ops : Array Oper} {rest : List Oper} {o : Oper} {a : Act} {Q : Exit → Act → World → Prop}
    (hg : o.guard = none) (l c : Operand) (t : TypeId) (hop : o.op = Op.makeSlice t l c)
    (e : TypeId) (bytes : Nat) (ht : P.underlying t = some (.slice e)) (hinfo : (P.info? e).map (fun i => (i.zero, i.size, i.bytes)) = some (some (.agg #[.bool false, .bool false]), 2, bytes))
    (kl kc : IntKind) (n : Nat) (hl : a.eval l = .int kl (n : Int)) (hc : a.eval c = .int kc (n : Int)) (hbytes : bytes * n ≤ 281474976710656) (h63 : n ≤ 9223372036854775807)
    (hK : ∀ w', MRow w' w.heap.size e n (fun _ => false) (fun _ => false) → Below w.heap.size w w' → w'.heap.size = w.heap.size + 1 → wpList P ops Q rest (a.put o.dst (.slice (some ⟨w.heap.size, 0, none⟩) n n)) w') :
    wpList P ops Q (o :: rest) a w := by
  obtain ⟨i, hi, hz, hs, hb⟩ := info_parts hinfo
  refine wpList_plain hg fun K hK' => ?_
  have hb' : (i.bytes : Int) * (n : Int) ≤ 281474976710656 := by
    rw [hb]
    have h : ((bytes * n : Nat) : Int) ≤ 281474976710656 := by omega
    rwa [Int.natCast_mul] at h
  have hr := run_make (P := P) w t e i _ ht hi hz kl kc (n : Int) (n : Int) (by omega) (Int.le_refl _) hb' (by omega)
  simp only [Int.toNat_natCast, hs] at hr
  unfold Oper.wp
  simp [execOp, hop, hl, hc, hr, Result.andThen]
  have hz2 : (Value.agg #[.bool false, .bool false]).cells = #[.bool false, .bool false] := by simp [go_sem]
  have hrow : (w.alloc (.cells (madeCells (Value.agg #[.bool false, .bool false]).cells (n * 2)) e)).rowIs w.heap.size e (2 * n) (fun j => .bool (if j % 2 = 0 then false else false)) := by
    have h := World.rowIs_alloc w (madeCells (Value.agg #[.bool false, .bool false]).cells (n * 2)) e (fun j => .bool (if j % 2 = 0 then false else false)) (fun j hj => by
      rw [size_madeCells] at hj
      rw [hz2]
      have e1 : (madeCells #[Value.bool false, .bool false] (n * 2))[j]? = some (#[Value.bool false, .bool false][j % 2]!) := by
        simp [madeCells, hj]
      rw [e1]
      rcases Nat.mod_two_eq_zero_or_one j with h | h <;> rw [h] <;> rfl)
    rw [size_madeCells, Nat.mul_comm] at h
    rwa [Nat.mul_comm n 2]
  exact hK' _ _ (hK _ hrow ((Below.refl _ _).alloc (Nat.le_refl _) _) (by simp))
end Go.Proofs.YtpgnlbkldjdjlaaGreat
