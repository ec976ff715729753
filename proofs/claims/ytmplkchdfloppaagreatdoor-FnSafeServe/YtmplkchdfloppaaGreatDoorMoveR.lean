/- A box of two cells; rows of moves; a slice of yes and no that came in. -/
import Derived.Test.YtmplkchdfloppaaGreatDoorBaseG
namespace Go.Proofs.YtmplkchdfloppaaGreatDoor
open Go.RowKit

/-- A box of two cells, that may be written. -/
structure BoxP (W : World) (B : Nat) (a b : Value) : Prop where
  c0 : W.cell? ⟨B, 0, none⟩ = some a
  c1 : W.cell? ⟨B, 1, none⟩ = some b
  f0 : W.frozen? ⟨B, 0, none⟩ = false
  f1 : W.frozen? ⟨B, 1, none⟩ = false

theorem BoxP.new (w : World) (a b : Value) (t : TypeId) : BoxP (w.alloc (.cells #[a, b] t)) w.heap.size a b := ⟨by simp [go_sem], by simp [go_sem], by simp [go_sem], by simp [go_sem]⟩

theorem BoxP.keep {W W' : World} {B : Nat} {a b : Value} (h : BoxP W B a b) (hb : Below W.heap.size W W') : BoxP W' B a b :=
  ⟨cell_keep hb h.c0, cell_keep hb h.c1, (hb.frozen (cell_lt h.c0)).trans h.f0, (hb.frozen (cell_lt h.c1)).trans h.f1⟩

theorem BoxP.lt {W : World} {B : Nat} {a b : Value} (h : BoxP W B a b) : B < W.heap.size := cell_lt h.c0

/-- A row of moves: of each place whether it is put there, and whether it is taken. -/
def MRow (w : World) (b t n : Nat) (f g : Nat → Bool) : Prop := w.rowIs b t (2 * n) (fun j => .bool (if j % 2 = 0 then f (j / 2) else g (j / 2)))

theorem MRow.put {w : World} {b t n : Nat} {f g : Nat → Bool} (h : MRow w b t n f g) {j : Nat} (hj : j < n) : w.cell? ⟨b, j * 2, none⟩ = some (.bool (f j)) := by
  have h1 := World.rowIs.cell h (i := j * 2) (by omega)
  rw [h1, if_pos (by omega), show j * 2 / 2 = j by omega]

theorem MRow.take {w : World} {b t n : Nat} {f g : Nat → Bool} (h : MRow w b t n f g) {j : Nat} (hj : j < n) : w.cell? ⟨b, j * 2 + 1, none⟩ = some (.bool (g j)) := by
  have h1 := World.rowIs.cell h (i := j * 2 + 1) (by omega)
  rw [h1, if_neg (by omega), show (j * 2 + 1) / 2 = j by omega]

theorem MRow.keep {w w' : World} {b t n : Nat} {f g : Nat → Bool} (h : MRow w b t n f g) (hb : Below w.heap.size w w') : MRow w' b t n f g := rowIs_keep h hb

theorem MRow.frozen {w : World} {b t n : Nat} {f g : Nat → Bool} (h : MRow w b t n f g) (j : Nat) : w.frozen? ⟨b, j, none⟩ = false := World.rowIs.frozen h j

theorem MRow.congr {w : World} {b t n : Nat} {f g f' g' : Nat → Bool} (h : MRow w b t n f g) (e : ∀ j, j < n → f j = f' j ∧ g j = g' j) : MRow w b t n f' g' :=
  World.rowIs.congr h fun j hj => by
    obtain ⟨e1, e2⟩ := e (j / 2) (by omega)
    rw [e1, e2]

/-- A move more. -/
theorem MRow.set {w : World} {b t n : Nat} {f g : Nat → Bool} (h : MRow w b t n f g) (x : Nat) (p q : Bool) : MRow ((w.setCell ⟨b, x * 2, none⟩ (.bool p)).setCell ⟨b, x * 2 + 1, none⟩ (.bool q)) b t n (fun j => if j = x then p else f j) (fun j => if j = x then q else g j) := by
  have h1 := World.rowIs.set (World.rowIs.set h (x * 2) (.bool p)) (x * 2 + 1) (.bool q)
  refine World.rowIs.congr h1 fun j hj => ?_
  by_cases e1 : j = x * 2
  · subst e1
    simp
  · by_cases e2 : j = x * 2 + 1
    · subst e2
      have e3 : (x * 2 + 1) / 2 = x := by omega
      simp [e3]
    · have e3 : ¬ j / 2 = x := by omega
      simp [e1, e2, e3]

/-- What make lays, of moves. -/
theorem wpList_make_moves {P : Program} (w : World) {ops : Array Oper} {rest : List Oper} {o : Oper} {a : Act} {Q : Exit → Act → World → Prop}
    (hg : o.guard = none) (l c : Operand) (t : TypeId) (hop : o.op = Op.makeSlice t l c)
    (e : TypeId) (bytes : Nat) (ht : P.underlying t = some (.slice e)) (hinfo : (P.info? e).map (fun i => (i.zero, i.size, i.bytes)) = some (some (.agg #[.bool false, .bool false]), 2, bytes))
    (kl kc : IntKind) (n : Nat) (hl : a.eval l = .int kl (n : Int)) (hc : a.eval c = .int kc (n : Int)) (hbytes : bytes * n ≤ 281474976710656) (h63 : n ≤ 9223372036854775807)
    (hK : ∀ w', MRow w' w.heap.size e n (fun _ => false) (fun _ => false) → Below w.heap.size w w' → w'.heap.size = w.heap.size + 1 → wpList P ops Q rest (a.put o.dst (.slice (some ⟨w.heap.size, 0, none⟩) n n)) w') :
    wpList P ops Q (o :: rest) a w := by
  obtain ⟨i, hi, hz, hs, hb⟩ := info_parts hinfo
  refine wpList_plain hg fun K hK' => ?_
  have hb' : (i.bytes : Int) * (n : Int) ≤ 281474976710656 := by
    rw [hb]
    have h : ((bytes * n : Nat) : Int) ≤ 281474976710656 := by omega
    rwa [Int.natCast_mul] at h
  have hr := run_make (P := P) w t e i _ ht hi hz kl kc (n : Int) (n : Int) (by omega) (Int.le_refl _) hb' (by omega)
  simp only [Int.toNat_natCast, hs] at hr
  unfold Oper.wp
  simp [execOp, hop, hl, hc, hr, Result.andThen]
  have hz2 : (Value.agg #[.bool false, .bool false]).cells = #[.bool false, .bool false] := by simp [go_sem]
  have hrow : (w.alloc (.cells (madeCells (Value.agg #[.bool false, .bool false]).cells (n * 2)) e)).rowIs w.heap.size e (2 * n) (fun j => .bool (if j % 2 = 0 then false else false)) := by
    have h := World.rowIs_alloc w (madeCells (Value.agg #[.bool false, .bool false]).cells (n * 2)) e (fun j => .bool (if j % 2 = 0 then false else false)) (fun j hj => by
      rw [size_madeCells] at hj
      rw [hz2]
      have e1 : (madeCells #[Value.bool false, .bool false] (n * 2))[j]? = some (#[Value.bool false, .bool false][j % 2]!) := by
        simp [madeCells, hj]
      rw [e1]
      rcases Nat.mod_two_eq_zero_or_one j with h | h <;> rw [h] <;> rfl)
    rw [size_madeCells, Nat.mul_comm] at h
    rwa [Nat.mul_comm n 2]
  exact hK' _ _ (hK _ hrow ((Below.refl _ _).alloc (Nat.le_refl _) _) (by simp))
/-- A slice value whose elements are these yes and no. -/
def BoolsAt (w : World) (v : Value) (bs : List Bool) : Prop :=
  ∃ ao b o cap, v = .slice ao bs.length cap ∧ (0 < bs.length → ao = some ⟨b, o, none⟩) ∧ ∀ i, i < bs.length → w.cell? ⟨b, o + i, none⟩ = some (.bool (bs.getD i false))

theorem BoolsAt.keep {w w' : World} {v : Value} {bs : List Bool} (h : BoolsAt w v bs) (hb : Below w.heap.size w w') : BoolsAt w' v bs := by
  obtain ⟨ao, b, o, cap, hv, ha, hc⟩ := h
  exact ⟨ao, b, o, cap, hv, ha, fun i hi => cell_keep hb (hc i hi)⟩

theorem BoolsOwn.at {lo hi : Nat} {w : World} {v : Value} {bs : List Bool} (h : BoolsOwn lo hi w v bs) : BoolsAt w v bs := by
  obtain ⟨ao, g, cap, hv, hr⟩ := h.read
  by_cases hl : 0 < bs.length
  · have h1 := hr 0 hl
    exact ⟨ao, g, 0, cap, hv, fun _ => h1.1, fun i hi => by rw [Nat.zero_add, (hr i hi).2.1]⟩
  · exact ⟨ao, g, 0, cap, hv, fun h => absurd h hl, fun i hi => absurd hi (by omega)⟩

/-- A way of moving that came in has the form. -/
def FormP (ss : List St) (e : E5) (ps ts : List Bool) : Prop := okB ss = true ∧ exprB e = true ∧ ps.length = ss.length ∧ ts.length = ss.length
end Go.Proofs.YtmplkchdfloppaaGreatDoor
