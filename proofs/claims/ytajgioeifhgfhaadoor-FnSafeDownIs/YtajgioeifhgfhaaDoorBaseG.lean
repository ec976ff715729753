/- What a program in memory is: a slice of ints, a slice of steps, told by plain lists; and what keeps them so. When a step, and a program, is ok: plain functions on lists and numbers. Reckonings, plainly: what a step reckons, all that a program's steps reckon, which steps reckon one, and which keep it. Laws on rows of the call's own, in the form that the walks here take; no text of the program. Rows that a call owns, and rows of such: of numbers, of bools. Ways through a program, plainly: which steps can be come to; counting of what is so. How many ways lead to a step, and when a program is tidy, plainly. Rows that the call owns: lower, and apart by their types; no walk. From which steps a way leads to a step, plainly; rows of rows that grow. Where a reckoning is safe, plainly: the greatest that fits, a solver's state, and what is asked of a step. What a step reckons, keeps, and whether it can be come to, by its place; ways that lead on and back. -/
import Derived.Test.YtajgioeifhgfhaaDoorChecked
import Derived.WalkKit
import Derived.Deep.OwnRows
import Derived.WalkSmall
import Derived.OwnWalk
namespace Go.Proofs.YtajgioeifhgfhaaDoor
open Go.RowKit

structure St where
  kind : Int
  dst : Int
  op : Int
  av : Int
  an : Int
  bv : Int
  bn : Int
  next : List Int

/-- A slice value whose elements are these numbers. -/
def IntsAt (w : World) (v : Value) (zs : List Int) : Prop :=
  ∃ ao b o cap, v = .slice ao zs.length cap ∧ (0 < zs.length → ao = some ⟨b, o, none⟩) ∧ ∀ i, i < zs.length → w.cell? ⟨b, o + i, none⟩ = some (.int .i64 (zs.getD i 0))

/-- A step as a value, its Next being the slice nv. -/
def stepV (s : St) (nv : Value) : Value := .agg #[.int .i64 s.kind, .int .i64 s.dst, .int .i64 s.op, .int .i64 s.av, .int .i64 s.an, .int .i64 s.bv, .int .i64 s.bn, nv]

/-- The eight cells of a step at a place. -/
structure StepCells (w : World) (b o : Nat) (s : St) (nv : Value) : Prop where
  c0 : w.cell? ⟨b, o, none⟩ = some (.int .i64 s.kind)
  c1 : w.cell? ⟨b, o + 1, none⟩ = some (.int .i64 s.dst)
  c2 : w.cell? ⟨b, o + 2, none⟩ = some (.int .i64 s.op)
  c3 : w.cell? ⟨b, o + 3, none⟩ = some (.int .i64 s.av)
  c4 : w.cell? ⟨b, o + 4, none⟩ = some (.int .i64 s.an)
  c5 : w.cell? ⟨b, o + 5, none⟩ = some (.int .i64 s.bv)
  c6 : w.cell? ⟨b, o + 6, none⟩ = some (.int .i64 s.bn)
  c7 : w.cell? ⟨b, o + 7, none⟩ = some nv

def StepsAt (w : World) (v : Value) (ss : List St) : Prop :=
  ∃ ao b o cap, v = .slice ao ss.length cap ∧ (0 < ss.length → ao = some ⟨b, o, none⟩) ∧
    ∀ i s, ss[i]? = some s → ∃ nv, StepCells w b (o + i * 8) s nv ∧ IntsAt w nv s.next

theorem cell_lt {w : World} {p : Addr} {v : Value} (h : w.cell? p = some v) : p.block < w.heap.size := by
  unfold World.cell? at h
  by_cases hlt : p.block < w.heap.size
  · exact hlt
  · rw [Array.getElem?_eq_none (by omega)] at h; simp at h

theorem cell_keep {w w' : World} (hb : Below w.heap.size w w') {p : Addr} {v : Value} (h : w.cell? p = some v) : w'.cell? p = some v :=
  (hb.cell (cell_lt h)).trans h

theorem IntsAt.keep {w w' : World} {v : Value} {zs : List Int} (h : IntsAt w v zs) (hb : Below w.heap.size w w') : IntsAt w' v zs := by
  obtain ⟨ao, b, o, cap, hv, ha, hc⟩ := h
  exact ⟨ao, b, o, cap, hv, ha, fun i hi => cell_keep hb (hc i hi)⟩

theorem StepCells.keep {w w' : World} {b o : Nat} {s : St} {nv : Value} (h : StepCells w b o s nv) (hb : Below w.heap.size w w') : StepCells w' b o s nv :=
  ⟨cell_keep hb h.c0, cell_keep hb h.c1, cell_keep hb h.c2, cell_keep hb h.c3, cell_keep hb h.c4, cell_keep hb h.c5, cell_keep hb h.c6, cell_keep hb h.c7⟩

theorem StepsAt.keep {w w' : World} {v : Value} {ss : List St} (h : StepsAt w v ss) (hb : Below w.heap.size w w') : StepsAt w' v ss := by
  obtain ⟨ao, b, o, cap, hv, ha, hc⟩ := h
  refine ⟨ao, b, o, cap, hv, ha, fun i s hs => ?_⟩
  obtain ⟨nv, h1, h2⟩ := hc i s hs
  exact ⟨nv, h1.keep hb, h2.keep hb⟩

/-- All old cells and marks read as before: two rules for the walk. -/
theorem bcell {W w1 : World} (hb : Below W.heap.size W w1) : (∀ b o, b < W.heap.size → w1.cell? ⟨b, o, none⟩ = W.cell? ⟨b, o, none⟩) ∧ (∀ b o, b < W.heap.size → w1.frozen? ⟨b, o, none⟩ = W.frozen? ⟨b, o, none⟩) :=
  ⟨fun b o h => hb.cell (p := ⟨b, o, none⟩) h, fun b o h => hb.frozen (p := ⟨b, o, none⟩) h⟩

/-- The same, in blocks from lo on. -/
def IntsFrom (lo : Nat) (w : World) (v : Value) (zs : List Int) : Prop :=
  ∃ ao b o cap, v = .slice ao zs.length cap ∧ (0 < zs.length → ao = some ⟨b, o, none⟩) ∧ lo ≤ b ∧ ∀ i, i < zs.length → w.cell? ⟨b, o + i, none⟩ = some (.int .i64 (zs.getD i 0))

theorem IntsFrom.at {lo : Nat} {w : World} {v : Value} {zs : List Int} (h : IntsFrom lo w v zs) : IntsAt w v zs := by
  obtain ⟨ao, b, o, cap, hv, ha, _, hc⟩ := h
  exact ⟨ao, b, o, cap, hv, ha, hc⟩

theorem IntsFrom.keep {lo : Nat} {w w' : World} {v : Value} {zs : List Int} (h : IntsFrom lo w v zs) (hb : Below w.heap.size w w') : IntsFrom lo w' v zs := by
  obtain ⟨ao, b, o, cap, hv, ha, hlo, hc⟩ := h
  exact ⟨ao, b, o, cap, hv, ha, hlo, fun i hi => cell_keep hb (hc i hi)⟩

theorem IntsFrom.mono {lo lo' : Nat} {w : World} {v : Value} {zs : List Int} (h : IntsFrom lo w v zs) (hl : lo' ≤ lo) : IntsFrom lo' w v zs := by
  obtain ⟨ao, b, o, cap, hv, ha, hlo, hc⟩ := h
  exact ⟨ao, b, o, cap, hv, ha, by omega, hc⟩

theorem cell_setOther (w : World) (a p : Addr) (u : Value) (h : p.block ≠ a.block) : (w.setCell a u).cell? p = w.cell? p :=
  World.cell?_of_block (w := w) (Below.heap_setCell w a u p.block h)

theorem IntsFrom.setCell {lo : Nat} {w : World} {v : Value} {zs : List Int} (h : IntsFrom lo w v zs) {a : Addr} (ha : a.block < lo) (u : Value) : IntsFrom lo (w.setCell a u) v zs := by
  obtain ⟨ao, b, o, cap, hv, hao, hlo, hc⟩ := h
  exact ⟨ao, b, o, cap, hv, hao, hlo, fun i hi => by rw [cell_setOther _ _ _ _ (by show b ≠ a.block; omega)]; exact hc i hi⟩

theorem StepCells.setOther {w : World} {b o : Nat} {s : St} {nv : Value} (h : StepCells w b o s nv) {a : Addr} (hb : b ≠ a.block) (u : Value) : StepCells (w.setCell a u) b o s nv :=
  ⟨by rw [cell_setOther _ _ _ _ hb]; exact h.c0, by rw [cell_setOther _ _ _ _ hb]; exact h.c1, by rw [cell_setOther _ _ _ _ hb]; exact h.c2, by rw [cell_setOther _ _ _ _ hb]; exact h.c3, by rw [cell_setOther _ _ _ _ hb]; exact h.c4, by rw [cell_setOther _ _ _ _ hb]; exact h.c5, by rw [cell_setOther _ _ _ _ hb]; exact h.c6, by rw [cell_setOther _ _ _ _ hb]; exact h.c7⟩

/-- A slice of steps, all its memory in blocks from lo on. -/
def StepsFrom (lo : Nat) (w : World) (v : Value) (ss : List St) : Prop :=
  ∃ ao b o cap, v = .slice ao ss.length cap ∧ (0 < ss.length → ao = some ⟨b, o, none⟩) ∧ lo ≤ b ∧
    ∀ i s, ss[i]? = some s → ∃ nv, StepCells w b (o + i * 8) s nv ∧ IntsFrom lo w nv s.next

theorem StepsFrom.at {lo : Nat} {w : World} {v : Value} {ss : List St} (h : StepsFrom lo w v ss) : StepsAt w v ss := by
  obtain ⟨ao, b, o, cap, hv, ha, _, hc⟩ := h
  refine ⟨ao, b, o, cap, hv, ha, fun i s hs => ?_⟩
  obtain ⟨nv, h1, h2⟩ := hc i s hs
  exact ⟨nv, h1, h2.at⟩

theorem StepsFrom.setCell {lo : Nat} {w : World} {v : Value} {ss : List St} (h : StepsFrom lo w v ss) {a : Addr} (ha : a.block < lo) (u : Value) : StepsFrom lo (w.setCell a u) v ss := by
  obtain ⟨ao, b, o, cap, hv, hao, hlo, hc⟩ := h
  refine ⟨ao, b, o, cap, hv, hao, hlo, fun i s hs => ?_⟩
  obtain ⟨nv, h1, h2⟩ := hc i s hs
  exact ⟨nv, h1.setOther (by omega) u, h2.setCell ha u⟩

theorem StepsFrom.mono {lo lo' : Nat} {w : World} {v : Value} {ss : List St} (h : StepsFrom lo w v ss) (hl : lo' ≤ lo) : StepsFrom lo' w v ss := by
  obtain ⟨ao, b, o, cap, hv, hao, hlo, hc⟩ := h
  refine ⟨ao, b, o, cap, hv, hao, by omega, fun i s hs => ?_⟩
  obtain ⟨nv, h1, h2⟩ := hc i s hs
  exact ⟨nv, h1, h2.mono hl⟩

/-- Eight cells stored into a row. -/
theorem rowIs_set8 {w : World} {b : Nat} {t : TypeId} {n : Nat} {f : Nat → Value} (h : w.rowIs b t n f) (i : Nat) (v0 v1 v2 v3 v4 v5 v6 v7 : Value) :
    ∃ g : Nat → Value, ((((((((w.setCell ⟨b, i, none⟩ v0).setCell ⟨b, i + 1, none⟩ v1).setCell ⟨b, i + 2, none⟩ v2).setCell ⟨b, i + 3, none⟩ v3).setCell ⟨b, i + 4, none⟩ v4).setCell ⟨b, i + 5, none⟩ v5).setCell ⟨b, i + 6, none⟩ v6).setCell ⟨b, i + 7, none⟩ v7).rowIs b t n g ∧
      g i = v0 ∧ g (i + 1) = v1 ∧ g (i + 2) = v2 ∧ g (i + 3) = v3 ∧ g (i + 4) = v4 ∧ g (i + 5) = v5 ∧ g (i + 6) = v6 ∧ g (i + 7) = v7 ∧ ∀ j, j < i ∨ i + 8 ≤ j → g j = f j := by
  refine ⟨_, (((((((h.set i v0).set (i + 1) v1).set (i + 2) v2).set (i + 3) v3).set (i + 4) v4).set (i + 5) v5).set (i + 6) v6).set (i + 7) v7, ?_⟩
  refine ⟨by simp, by simp, by simp, by simp, by simp, by simp, by simp, by simp, fun j hj => ?_⟩
  simp only [show ¬ j = i by omega, show ¬ j = i + 1 by omega, show ¬ j = i + 2 by omega, show ¬ j = i + 3 by omega, show ¬ j = i + 4 by omega, show ¬ j = i + 5 by omega, show ¬ j = i + 6 by omega, show ¬ j = i + 7 by omega, if_false]

/-- A step's eight values in a row, from an offset on. -/
def StepF (f : Nat → Value) (o : Nat) (s : St) (nv : Value) : Prop :=
  f o = .int .i64 s.kind ∧ f (o + 1) = .int .i64 s.dst ∧ f (o + 2) = .int .i64 s.op ∧ f (o + 3) = .int .i64 s.av ∧ f (o + 4) = .int .i64 s.an ∧ f (o + 5) = .int .i64 s.bv ∧ f (o + 6) = .int .i64 s.bn ∧ f (o + 7) = nv

theorem StepF.cells {w : World} {b : Nat} {t : TypeId} {n : Nat} {f : Nat → Value} (h : w.rowIs b t n f) {o : Nat} {s : St} {nv : Value} (hs : StepF f o s nv) (ho : o + 8 ≤ n) : StepCells w b o s nv := by
  obtain ⟨h0, h1, h2, h3, h4, h5, h6, h7⟩ := hs
  exact ⟨by rw [h.cell (by omega), h0], by rw [h.cell (by omega), h1], by rw [h.cell (by omega), h2], by rw [h.cell (by omega), h3], by rw [h.cell (by omega), h4], by rw [h.cell (by omega), h5], by rw [h.cell (by omega), h6], by rw [h.cell (by omega), h7]⟩

theorem StepF.congr {f g : Nat → Value} {o : Nat} {s : St} {nv : Value} (hs : StepF f o s nv) (h : ∀ j, o ≤ j → j < o + 8 → g j = f j) : StepF g o s nv := by
  obtain ⟨h0, h1, h2, h3, h4, h5, h6, h7⟩ := hs
  exact ⟨(h _ (by omega) (by omega)).trans h0, (h _ (by omega) (by omega)).trans h1, (h _ (by omega) (by omega)).trans h2, (h _ (by omega) (by omega)).trans h3, (h _ (by omega) (by omega)).trans h4, (h _ (by omega) (by omega)).trans h5, (h _ (by omega) (by omega)).trans h6, (h _ (by omega) (by omega)).trans h7⟩
end Go.Proofs.YtajgioeifhgfhaaDoor
namespace Go.Proofs.YtajgioeifhgfhaaDoor

def inB (n lo hi : Int) : Bool := decide (lo ≤ n) && decide (n ≤ hi)

def opndB (v n : Int) : Bool := if v = -1 then inB n 0 65535 else inB v 0 11 && decide (n = 0)

def many (k : Int) : Int := if k = 5 then 2 else if k = 7 then 0 else if k = 1 ∨ k = 2 ∨ k = 3 ∨ k = 4 ∨ k = 6 then 1 else -1

def noneB (v n : Int) : Bool := decide (v = 0) && decide (n = 0)

def restB (s : St) : Bool :=
  if s.kind = 1 then inB s.dst 0 11 && (inB s.op 1 4 && opndB s.av s.an && opndB s.bv s.bn)
  else if s.kind = 2 then inB s.dst 0 11 && (decide (s.op = 0) && opndB s.av s.an && noneB s.bv s.bn)
  else if s.kind = 3 then inB s.dst 0 11 && (decide (s.op = 0) && noneB s.av s.an && noneB s.bv s.bn)
  else if s.kind = 4 ∨ s.kind = 5 then decide (s.dst = 0) && (decide (s.op = 0) && opndB s.av s.an && noneB s.bv s.bn)
  else decide (s.dst = 0) && (decide (s.op = 0) && noneB s.av s.an && noneB s.bv s.bn)

def stepB (s : St) (n : Int) : Bool := decide ((s.next.length : Int) = many s.kind) && s.next.all (fun x => inB x 0 (n - 1)) && restB s

def okB (ss : List St) : Bool := decide (1 ≤ ss.length) && decide (ss.length ≤ 60) && ss.all (fun s => stepB s ss.length)

theorem many_cases {k : Int} (h : many k ≠ -1) : k = 1 ∨ k = 2 ∨ k = 3 ∨ k = 4 ∨ k = 5 ∨ k = 6 ∨ k = 7 := by
  unfold many at h
  split at h
  · omega
  · split at h
    · omega
    · split at h
      · omega
      · exact absurd rfl h
end Go.Proofs.YtajgioeifhgfhaaDoor
namespace Go.Proofs.YtajgioeifhgfhaaDoor

/-- A reckoning as plain data. -/
structure E5 where
  op : Int
  av : Int
  an : Int
  bv : Int
  bn : Int
  deriving DecidableEq

def exV (e : E5) : Value := .agg #[.int .i64 e.op, .int .i64 e.av, .int .i64 e.an, .int .i64 e.bv, .int .i64 e.bn]

def exprB (e : E5) : Bool := inB e.op 1 4 && opndB e.av e.an && opndB e.bv e.bn

def eOf (s : St) : E5 := ⟨s.op, s.av, s.an, s.bv, s.bn⟩

def exStep (acc : List E5) (s : St) : List E5 := if s.kind = 1 then (if eOf s ∈ acc then acc else acc ++ [eOf s]) else acc

def exprsOf (ss : List St) : List E5 := ss.foldl exStep []

def compB (e : E5) (s : St) : Bool := decide (s.kind = 1) && decide (eOf s = e)

/-- The variable that a step changes, -1 if none. -/
def setsI (s : St) : Int := if s.kind = 1 ∨ s.kind = 2 ∨ s.kind = 3 then s.dst else -1

def keepB (e : E5) (s : St) : Bool := decide (setsI s < 0) || (decide (setsI s ≠ e.av) && decide (setsI s ≠ e.bv))

/-- A row of bools of a program and a reckoning that are ok; else nothing. -/
def RowOr (f : E5 → St → Bool) (ss : List St) (e : E5) (rs : List Bool) : Prop := rs = if okB ss && exprB e then ss.map (f e) else []

theorem RowOr.unique {f : E5 → St → Bool} {ss : List St} {e : E5} {rs rs' : List Bool} (h : RowOr f ss e rs) (h' : RowOr f ss e rs') : rs = rs' := h.trans h'.symm

theorem RowOr.bound {f : E5 → St → Bool} {ss : List St} {e : E5} {rs : List Bool} (h : RowOr f ss e rs) (hn : ss.length ≤ 1048576) : rs.length ≤ 1048576 := by
  rw [h]
  split
  · simpa using hn
  · simp

def ExprsOr (ss : List St) (es : List E5) : Prop := es = if okB ss then exprsOf ss else []

theorem exStep_len (acc : List E5) (s : St) : acc.length ≤ (exStep acc s).length ∧ (exStep acc s).length ≤ acc.length + 1 := by
  unfold exStep
  split
  · split <;> simp
  · simp

theorem foldl_len : ∀ (ss : List St) (acc : List E5), (ss.foldl exStep acc).length ≤ acc.length + ss.length
  | [], acc => by simp
  | s :: r, acc => by
    have h1 := foldl_len r (exStep acc s)
    have h2 := (exStep_len acc s).2
    simp only [List.foldl_cons, List.length_cons]
    omega

theorem exprsOf_len (ss : List St) : (exprsOf ss).length ≤ ss.length := by
  have := foldl_len ss []
  simp at this
  exact this

theorem ExprsOr.unique {ss : List St} {es es' : List E5} (h : ExprsOr ss es) (h' : ExprsOr ss es') : es = es' := h.trans h'.symm

theorem ExprsOr.bound {ss : List St} {es : List E5} (h : ExprsOr ss es) (hn : ss.length ≤ 1048576) : es.length ≤ 1048576 := by
  rw [h]
  split
  · exact Nat.le_trans (exprsOf_len ss) hn
  · simp

/-- The first k steps' reckonings. -/
def exTo (ss : List St) (k : Nat) : List E5 := (ss.take k).foldl exStep []

theorem exTo_zero (ss : List St) : exTo ss 0 = [] := rfl

theorem exTo_succ {ss : List St} {k : Nat} {s : St} (h : ss[k]? = some s) : exTo ss (k + 1) = exStep (exTo ss k) s := by
  unfold exTo
  rw [List.take_add_one, h]
  simp [List.foldl_append]

theorem exTo_all (ss : List St) : exTo ss ss.length = exprsOf ss := by
  unfold exTo
  rw [List.take_length]
  rfl

theorem exTo_len (ss : List St) (k : Nat) : (exTo ss k).length ≤ k := by
  refine Nat.le_trans (foldl_len _ _) ?_
  simp
  omega

/-- What a reckoning that is listed is: one that some step reckons. -/
theorem mem_exTo {ss : List St} {k : Nat} {e : E5} : e ∈ exTo ss k ↔ ∃ j s, j < k ∧ ss[j]? = some s ∧ s.kind = 1 ∧ eOf s = e := by
  induction k with
  | zero => simp [exTo_zero]
  | succ k ih =>
    cases h : ss[k]? with
    | none =>
      have e1 : exTo ss (k + 1) = exTo ss k := by
        unfold exTo
        rw [List.take_add_one, h]
        simp
      rw [e1, ih]
      constructor
      · rintro ⟨j, s, h1, h2, h3⟩
        exact ⟨j, s, by omega, h2, h3⟩
      · rintro ⟨j, s, h1, h2, h3⟩
        have : j ≠ k := fun e => by subst e; rw [h] at h2; cases h2
        exact ⟨j, s, by omega, h2, h3⟩
    | some t =>
      rw [exTo_succ h]
      have key : e ∈ exStep (exTo ss k) t ↔ e ∈ exTo ss k ∨ (t.kind = 1 ∧ eOf t = e) := by
        unfold exStep
        split
        · rename_i hk
          split
          · rename_i hm
            constructor
            · exact fun h => Or.inl h
            · rintro (h | ⟨_, rfl⟩)
              · exact h
              · exact hm
          · simp only [List.mem_append, List.mem_singleton]
            constructor
            · rintro (h | rfl)
              · exact Or.inl h
              · exact Or.inr ⟨hk, rfl⟩
            · rintro (h | ⟨_, rfl⟩)
              · exact Or.inl h
              · exact Or.inr rfl
        · rename_i hk
          constructor
          · exact fun h => Or.inl h
          · rintro (h | ⟨h, _⟩)
            · exact h
            · exact absurd h hk
      rw [key, ih]
      constructor
      · rintro (⟨j, s, h1, h2, h3⟩ | ⟨h1, h2⟩)
        · exact ⟨j, s, by omega, h2, h3⟩
        · exact ⟨k, t, by omega, h, h1, h2⟩
      · rintro ⟨j, s, h1, h2, h3⟩
        by_cases e1 : j = k
        · subst e1
          rw [h] at h2
          cases h2
          exact Or.inr h3
        · exact Or.inl ⟨j, s, by omega, h2, h3⟩

theorem exTo_nodup (ss : List St) (k : Nat) : (exTo ss k).Nodup := by
  have : ∀ (l : List St) (acc : List E5), acc.Nodup → (l.foldl exStep acc).Nodup := by
    intro l
    induction l with
    | nil => exact fun _ h => h
    | cons s r ih =>
      intro acc h
      refine ih _ ?_
      unfold exStep
      split
      · split
        · exact h
        · rename_i hm
          rw [List.nodup_append]
          refine ⟨h, by simp, ?_⟩
          rintro a ha b hb rfl
          simp only [List.mem_singleton] at hb
          exact hm (hb ▸ ha)
      · exact h
  exact this _ [] List.nodup_nil

theorem ok_stepE {ss : List St} (h : okB ss = true) {s : St} (hs : s ∈ ss) : stepB s ss.length = true := by
  unfold okB at h
  simp only [Bool.and_eq_true, List.all_eq_true] at h
  exact h.2 s hs

/-- Of a program that is ok, what a step reckons is ok. -/
theorem ok_expr {ss : List St} (h : okB ss = true) {s : St} (hs : s ∈ ss) (hk : s.kind = 1) : exprB (eOf s) = true := by
  have h1 := ok_stepE h hs
  unfold stepB restB at h1
  simp only [hk, if_true, Bool.and_eq_true] at h1
  unfold exprB eOf
  simp only [Bool.and_eq_true]
  exact h1.2.2

/-- Of a program that is ok, what a step changes is a variable. -/
theorem ok_dst {ss : List St} (h : okB ss = true) {s : St} (hs : s ∈ ss) (hk : s.kind = 1 ∨ s.kind = 2 ∨ s.kind = 3) : 0 ≤ s.dst ∧ s.dst < 12 := by
  have h1 := ok_stepE h hs
  unfold stepB restB at h1
  simp only [Bool.and_eq_true] at h1
  have h2 := h1.2
  rcases hk with hk | hk | hk
  · simp only [hk, if_true, Bool.and_eq_true] at h2
    have := h2.1
    simp [inB] at this
    omega
  · rw [hk] at h2
    simp only [show ¬ ((2 : Int) = 1) by omega, if_false, if_true, Bool.and_eq_true] at h2
    have := h2.1
    simp [inB] at this
    omega
  · rw [hk] at h2
    simp only [show ¬ ((3 : Int) = 1) by omega, show ¬ ((3 : Int) = 2) by omega, if_false, if_true, Bool.and_eq_true] at h2
    have := h2.1
    simp [inB] at this
    omega

theorem opndB_small {v n : Int} (h : opndB v n = true) : -1 ≤ v ∧ v ≤ 11 ∧ 0 ≤ n ∧ n ≤ 65535 := by
  unfold opndB at h
  split at h
  · simp [inB] at h
    omega
  · simp [inB] at h
    omega

/-- Numbers of a reckoning that is ok are small. -/
theorem exprB_small {e : E5} (h : exprB e = true) : (1 ≤ e.op ∧ e.op ≤ 4) ∧ (-1 ≤ e.av ∧ e.av ≤ 11 ∧ 0 ≤ e.an ∧ e.an ≤ 65535) ∧ (-1 ≤ e.bv ∧ e.bv ≤ 11 ∧ 0 ≤ e.bn ∧ e.bn ≤ 65535) := by
  unfold exprB at h
  simp only [Bool.and_eq_true] at h
  refine ⟨?_, opndB_small h.1.2, opndB_small h.2⟩
  have := h.1.1
  simp [inB] at this
  exact this
end Go.Proofs.YtajgioeifhgfhaaDoor
namespace Go.Proofs.YtajgioeifhgfhaaDoor
open Go.RowKit

/-- 'make([]T, n)', elements of one cell: the world behind stays a letter. -/
theorem wpList_make_is {P : Program} (w : World) {ops : Array Oper} {rest : List Oper} {o : Oper} {a : Act} {Q : Exit → Act → World → Prop}
    (hg : o.guard = none) (l c : Operand) (t : TypeId) (hop : o.op = Op.makeSlice t l c)
    (e : TypeId) (z : Value) (bytes : Nat) (ht : P.underlying t = some (.slice e)) (hinfo : (P.info? e).map (fun i => (i.zero, i.size, i.bytes)) = some (some z, 1, bytes)) (hz1 : z.cells = #[z])
    (kl kc : IntKind) (n : Nat) (hl : a.eval l = .int kl (n : Int)) (hc : a.eval c = .int kc (n : Int)) (hbytes : bytes * n ≤ 281474976710656) (h63 : n ≤ 9223372036854775807)
    (hK : ∀ w', w'.rowIs w.heap.size e n (fun _ => z) → Below w.heap.size w w' → w'.heap.size = w.heap.size + 1 → wpList P ops Q rest (a.put o.dst (.slice (some ⟨w.heap.size, 0, none⟩) n n)) w') :
    wpList P ops Q (o :: rest) a w := by
  obtain ⟨i, hi, hzz⟩ := Option.map_eq_some_iff.1 hinfo
  simp only [Prod.mk.injEq] at hzz
  obtain ⟨hz, hs, hb⟩ := hzz
  exact wpList_make_row w hg l c t hop e i z ht hi hz hs hz1 kl kc n hl hc (by rw [hb]; exact hbytes) h63 (hK _ (World.rowIs_made _ _ _ _) ((Below.refl _ _).alloc (Nat.le_refl _) _) (by simp))

theorem rowIs_own {w : World} {b n base : Nat} {t : TypeId} {f : Nat → Value} (h : w.rowIs b t n f) (hb : base ≤ b) (hn : n ≤ 1048576) : w.ownsRow base t 1 (.slice (some ⟨b, 0, none⟩) n n) n ((List.range n).map f) := by
  obtain ⟨c, hb', hn', hc⟩ := h
  refine ⟨by simp, .inr ⟨b, n, c, rfl, hb, hb', Nat.le_refl _, by unfold maxLen; omega, by omega, ?_⟩⟩
  apply List.ext_getElem?
  intro i
  by_cases hi : i < n
  · have := hc i hi
    simp [hi, this]
  · simp [List.getElem?_take, hi]

theorem rowIs_keep {w w' : World} {b n : Nat} {t : TypeId} {f : Nat → Value} (h : w.rowIs b t n f) (hb : Below w.heap.size w w') : w'.rowIs b t n f := h.of_block (hb.block _ h.lt)

/-- The bool in a cell. -/
def trueAt (w : World) (b j : Nat) : Bool := match w.cell? ⟨b, j, none⟩ with | some (.bool x) => x | _ => false

theorem trueAt_row {w : World} {b n : Nat} {t : TypeId} {m : Nat → Bool} (h : w.rowIs b t n (fun j => .bool (m j))) {j : Nat} (hj : j < n) : trueAt w b j = m j := by
  unfold trueAt; rw [h.cell hj]

/-- All blocks but those from lo on, below hi, are as they were. -/
structure Out (lo hi : Nat) (w w' : World) : Prop where
  os : w'.os = w.os
  tape : w'.tape = w.tape
  output : w'.output = w.output
  size : w.heap.size ≤ w'.heap.size
  block : ∀ k, k < w.heap.size → (k < lo ∨ hi ≤ k) → w'.heap[k]? = w.heap[k]?

theorem Out.refl (lo hi : Nat) (w : World) : Out lo hi w w := ⟨rfl, rfl, rfl, Nat.le_refl _, fun _ _ _ => rfl⟩

theorem Out.trans {lo hi : Nat} {a b c : World} (h : Out lo hi a b) (k : Out lo hi b c) : Out lo hi a c :=
  ⟨k.os.trans h.os, k.tape.trans h.tape, k.output.trans h.output, Nat.le_trans h.size k.size, fun i hi hr => (k.block i (Nat.lt_of_lt_of_le hi h.size) hr).trans (h.block i hi hr)⟩

theorem Out.of_below {lo hi : Nat} {w w' : World} (h : Below w.heap.size w w') : Out lo hi w w' := ⟨h.os, h.tape, h.output, h.size, fun k hk _ => h.block k hk⟩

theorem Out.below {lo hi : Nat} {w w' : World} (h : Out lo hi w w') {B : Nat} (hB : B ≤ lo) (hs : B ≤ w.heap.size) : Below B w w' := ⟨h.os, h.tape, h.output, h.size, fun k hk => h.block k (by omega) (by omega)⟩

theorem Out.setCell {lo hi : Nat} {a w : World} (h : Out lo hi a w) {p : Addr} (h1 : lo ≤ p.block) (h2 : p.block < hi) (u : Value) : Out lo hi a (w.setCell p u) :=
  ⟨h.os, h.tape, h.output, by simpa [World.setCell] using h.size, fun k hk hr => (Below.heap_setCell w p u k (by omega)).trans (h.block k hk hr)⟩

theorem Out.mono {lo hi lo' hi' : Nat} {w w' : World} (h : Out lo hi w w') (h1 : lo' ≤ lo) (h2 : hi ≤ hi') : Out lo' hi' w w' := ⟨h.os, h.tape, h.output, h.size, fun k hk hr => h.block k hk (by omega)⟩

theorem Out.cell {lo hi : Nat} {w w' : World} (h : Out lo hi w w') {p : Addr} {v : Value} (hc : w.cell? p = some v) (hr : p.block < lo ∨ hi ≤ p.block) : w'.cell? p = some v :=
  (World.cell?_of_block (w := w) (h.block p.block (cell_lt hc) hr)).trans hc

theorem Out.frozen {lo hi : Nat} {w w' : World} (h : Out lo hi w w') {p : Addr} (hp : p.block < w.heap.size) (hr : p.block < lo ∨ hi ≤ p.block) : w'.frozen? p = w.frozen? p :=
  World.frozen?_of_block (w := w) (h.block p.block hp hr)

theorem Out.grown {lo hi : Nat} {w w' : World} {row : Option Nat} (h : w.grownBy w' row) (hr : ∀ k, row = some k → lo ≤ k ∧ k < hi) : Out lo hi w w' :=
  ⟨h.os, h.tape, h.output, h.size, fun k hk ho => h.block k hk fun e => by have := hr k e.symm; omega⟩

theorem ownsRow_out {lo hi : Nat} {w w' : World} {base : Nat} {e : TypeId} {size : Nat} {v : Value} {n : Nat} {xs : List Value} (h : w.ownsRow base e size v n xs) (ho : Out lo hi w w') (hr : ∀ k, v.ownBlock = some k → k < lo ∨ hi ≤ k) : w'.ownsRow base e size v n xs := by
  obtain ⟨h1, h2⟩ := h
  refine ⟨h1, ?_⟩
  rcases h2 with h2 | ⟨g, cap, cur, hv, hg, hh, r⟩
  · exact Or.inl h2
  · obtain ⟨hlt, _⟩ := Array.getElem?_eq_some_iff.1 hh
    subst hv
    exact Or.inr ⟨g, cap, cur, rfl, hg, (ho.block g hlt (hr g rfl)).trans hh, r⟩

theorem cell_one_new (W : World) (u : Value) (t : TypeId) : ∀ j x, [u][j]? = some x → (W.alloc (.cells #[u] t)).cell? ((⟨W.heap.size, 0, none⟩ : Addr).add j) = some x := by
  intro j x hj
  match j, hj with
  | 0, hj => simp at hj; subst hj; simp [Addr.add]
  | j + 1, hj => simp at hj

theorem cell_one_at (W : World) (u : Value) (t : TypeId) {k : Nat} (hk : k = W.heap.size) : ∀ j x, [u][j]? = some x → (W.alloc (.cells #[u] t)).cell? ((⟨k, 0, none⟩ : Addr).add j) = some x := by
  subst hk; exact cell_one_new W u t

theorem int_oneCell (k : IntKind) (z : Int) : ∀ u ∈ [Value.int k z], u.oneCell' = true := by
  intro u hu; simp at hu; subst hu; rfl
end Go.Proofs.YtajgioeifhgfhaaDoor
namespace Go.Proofs.YtajgioeifhgfhaaDoor
open Go.RowKit

/-- An answer of numbers, its row in a block from lo on, below hi. -/
def IntsO (lo hi : Nat) (w : World) (v : Value) (bs : List Int) : Prop :=
  w.ownsRow lo 3 1 v bs.length (bs.map (Value.int .i64)) ∧ ∀ k, v.ownBlock = some k → k < hi

theorem IntsO.of {lo : Nat} {w : World} {v : Value} {bs : List Int} (h : w.ownsRow lo 3 1 v bs.length (bs.map (Value.int .i64))) : IntsO lo w.heap.size w v bs := ⟨h, fun k hk => (h.lt k hk).2⟩

theorem IntsO.keep {lo hi : Nat} {w w' : World} {v : Value} {bs : List Int} (h : IntsO lo hi w v bs) (hb : Below w.heap.size w w') : IntsO lo hi w' v bs :=
  ⟨ownsRow_out h.1 (Out.of_below (lo := 0) (hi := 0) hb) (fun _ _ => Or.inr (Nat.zero_le _)), h.2⟩

theorem IntsO.out {lo hi lo' hi' : Nat} {w w' : World} {v : Value} {bs : List Int} (h : IntsO lo hi w v bs) (ho : Out lo' hi' w w') (hr : hi ≤ lo' ∨ hi' ≤ lo) : IntsO lo hi w' v bs :=
  ⟨ownsRow_out h.1 ho (fun k hk => by have := h.2 k hk; have := (h.1.lt k hk).1; omega), h.2⟩

theorem IntsO.slice {lo hi : Nat} {w : World} {v : Value} {bs : List Int} (h : IntsO lo hi w v bs) : ∃ A c, v = .slice A bs.length c := by
  rcases h.1.2 with ⟨e, e2⟩ | ⟨g', c, _, e, _⟩
  · exact ⟨none, 0, by rw [e2]; exact e⟩
  · exact ⟨_, _, e⟩

/-- What the walk reads. -/
theorem IntsO.read {lo hi : Nat} {w : World} {v : Value} {bs : List Int} (h : IntsO lo hi w v bs) : ∃ ao g cap, v = .slice ao bs.length cap ∧ ∀ i, i < bs.length → ao = some ⟨g, 0, none⟩ ∧ w.cell? ⟨g, i, none⟩ = some (.int .i64 (bs.getD i 0)) ∧ w.frozen? ⟨g, i, none⟩ = false ∧ lo ≤ g ∧ g < hi := by
  rcases id h.1.2 with ⟨e, e2⟩ | ⟨g, cap, cur, e, _⟩
  · exact ⟨none, 0, 0, by rw [e2]; exact e, fun i hi => by omega⟩
  · refine ⟨some ⟨g, 0, none⟩, g, cap, e, fun i hi => ⟨rfl, ?_, ?_, ?_, ?_⟩⟩
    · have h1 := h.1
      rw [e] at h1
      rw [h1.cellAt i (by omega)]
      simp [hi]
    · have h1 := h.1
      rw [e] at h1
      exact h1.frozenAt i
    · exact (h.1.lt g (by rw [e]; rfl)).1
    · exact h.2 g (by rw [e]; rfl)

theorem IntsO.at {lo hi : Nat} {w : World} {v : Value} {zs : List Int} (h : IntsO lo hi w v zs) : IntsAt w v zs := by
  obtain ⟨ao, g, cap, hv, hc⟩ := h.read
  exact ⟨ao, g, 0, cap, hv, fun hp => (hc 0 hp).1, fun i hi => by rw [Nat.zero_add]; exact (hc i hi).2.1⟩

/-- An answer of bools, its row in a block from lo on, below hi. -/
def BoolsOwn (lo hi : Nat) (w : World) (v : Value) (bs : List Bool) : Prop :=
  w.ownsRow lo 4 1 v bs.length (bs.map Value.bool) ∧ ∀ k, v.ownBlock = some k → k < hi

theorem BoolsOwn.of {lo : Nat} {w : World} {v : Value} {bs : List Bool} (h : w.ownsRow lo 4 1 v bs.length (bs.map Value.bool)) : BoolsOwn lo w.heap.size w v bs := ⟨h, fun k hk => (h.lt k hk).2⟩

theorem BoolsOwn.keep {lo hi : Nat} {w w' : World} {v : Value} {bs : List Bool} (h : BoolsOwn lo hi w v bs) (hb : Below w.heap.size w w') : BoolsOwn lo hi w' v bs :=
  ⟨ownsRow_out h.1 (Out.of_below (lo := 0) (hi := 0) hb) (fun _ _ => Or.inr (Nat.zero_le _)), h.2⟩

theorem BoolsOwn.out {lo hi lo' hi' : Nat} {w w' : World} {v : Value} {bs : List Bool} (h : BoolsOwn lo hi w v bs) (ho : Out lo' hi' w w') (hr : hi ≤ lo' ∨ hi' ≤ lo) : BoolsOwn lo hi w' v bs :=
  ⟨ownsRow_out h.1 ho (fun k hk => by have := h.2 k hk; have := (h.1.lt k hk).1; omega), h.2⟩

theorem BoolsOwn.slice {lo hi : Nat} {w : World} {v : Value} {bs : List Bool} (h : BoolsOwn lo hi w v bs) : ∃ A c, v = .slice A bs.length c := by
  rcases h.1.2 with ⟨e, e2⟩ | ⟨g', c, _, e, _⟩
  · exact ⟨none, 0, by rw [e2]; exact e⟩
  · exact ⟨_, _, e⟩

/-- What the walk reads. -/
theorem BoolsOwn.read {lo hi : Nat} {w : World} {v : Value} {bs : List Bool} (h : BoolsOwn lo hi w v bs) : ∃ ao g cap, v = .slice ao bs.length cap ∧ ∀ i, i < bs.length → ao = some ⟨g, 0, none⟩ ∧ w.cell? ⟨g, i, none⟩ = some (.bool (bs.getD i false)) ∧ w.frozen? ⟨g, i, none⟩ = false ∧ lo ≤ g ∧ g < hi := by
  rcases id h.1.2 with ⟨e, e2⟩ | ⟨g, cap, cur, e, _⟩
  · exact ⟨none, 0, 0, by rw [e2]; exact e, fun i hi => by omega⟩
  · refine ⟨some ⟨g, 0, none⟩, g, cap, e, fun i hi => ⟨rfl, ?_, ?_, ?_, ?_⟩⟩
    · have h1 := h.1
      rw [e] at h1
      rw [h1.cellAt i (by omega)]
      simp [hi]
    · have h1 := h.1
      rw [e] at h1
      exact h1.frozenAt i
    · exact (h.1.lt g (by rw [e]; rfl)).1
    · exact h.2 g (by rw [e]; rfl)

/-- An answer of rows, all in blocks from lo on, below hi, no two in one. -/
def RowsI (lo hi : Nat) (w : World) (v : Value) (zss : List (List Int)) : Prop :=
  ∃ vs : List Value, vs.length = zss.length ∧ w.ownsRow lo 36 1 v zss.length vs ∧ (∀ k, v.ownBlock = some k → k < hi) ∧ (∀ (i : Nat) (x : Value) (zs : List Int), vs[i]? = some x → zss[i]? = some zs → IntsO lo hi w x zs) ∧
    (∀ (i j : Nat) (a b : Value) (k : Nat), vs[i]? = some a → vs[j]? = some b → i ≠ j → a.ownBlock = some k → b.ownBlock ≠ some k)

theorem RowsI.keep {lo hi : Nat} {w w' : World} {v : Value} {zss : List (List Int)} (h : RowsI lo hi w v zss) (hb : Below w.heap.size w w') : RowsI lo hi w' v zss := by
  obtain ⟨vs, h1, h2, h3, h4, h5⟩ := h
  exact ⟨vs, h1, ownsRow_out h2 (Out.of_below (lo := 0) (hi := 0) hb) (fun _ _ => Or.inr (Nat.zero_le _)), h3, fun i x zs a b => (h4 i x zs a b).keep hb, h5⟩

theorem RowsI.out {lo hi lo' hi' : Nat} {w w' : World} {v : Value} {zss : List (List Int)} (h : RowsI lo hi w v zss) (ho : Out lo' hi' w w') (hr : hi ≤ lo' ∨ hi' ≤ lo) : RowsI lo hi w' v zss := by
  obtain ⟨vs, h1, h2, h3, h4, h5⟩ := h
  exact ⟨vs, h1, ownsRow_out h2 ho (fun k hk => by have := h3 k hk; have := (h2.lt k hk).1; omega), h3, fun i x zs a b => (h4 i x zs a b).out ho hr, h5⟩

theorem RowsI.slice {lo hi : Nat} {w : World} {v : Value} {zss : List (List Int)} (h : RowsI lo hi w v zss) : ∃ A c, v = .slice A zss.length c := by
  obtain ⟨vs, h1, h2, _⟩ := h
  rcases h2.2 with ⟨e, e2⟩ | ⟨g', c, _, e, _⟩
  · exact ⟨none, 0, by rw [e2]; exact e⟩
  · exact ⟨_, _, e⟩

theorem RowsI.lower {lo lo' hi : Nat} {w : World} {v : Value} {zss : List (List Int)} (h : RowsI lo hi w v zss) (hl : lo' ≤ lo) : RowsI lo' hi w v zss := by
  obtain ⟨vs, h1, h2, h3, h4, h5⟩ := h
  have low : ∀ {e : TypeId} {x : Value} {n : Nat} {xs : List Value}, w.ownsRow lo e 1 x n xs → w.ownsRow lo' e 1 x n xs := by
    intro e x n xs hx
    obtain ⟨a, b⟩ := hx
    refine ⟨a, ?_⟩
    rcases b with b | ⟨g, cap, cur, hv, hg, r⟩
    · exact Or.inl b
    · exact Or.inr ⟨g, cap, cur, hv, by omega, r⟩
  exact ⟨vs, h1, low h2, h3, fun i x zs a b => ⟨low (h4 i x zs a b).1, (h4 i x zs a b).2⟩, h5⟩

theorem RowsI.nil {lo hi : Nat} {w : World} {v : Value} (h : w.ownsRow lo 36 1 v 0 []) (hh : ∀ k, v.ownBlock = some k → k < hi) : RowsI lo hi w v [] :=
  ⟨[], rfl, h, hh, by simp, by simp⟩

/-- What the walk reads. -/
theorem RowsI.read {lo hi : Nat} {w : World} {v : Value} {zss : List (List Int)} (h : RowsI lo hi w v zss) : ∃ ao g cap, v = .slice ao zss.length cap ∧ ∀ (i : Nat) (zs : List Int), zss[i]? = some zs → ∃ x A c, ao = some ⟨g, 0, none⟩ ∧ w.cell? ⟨g, i, none⟩ = some x ∧ x = .slice A zs.length c ∧ IntsO lo hi w x zs := by
  obtain ⟨vs, h1, h2, h3, h4, h5⟩ := h
  rcases id h2.2 with ⟨e, e2⟩ | ⟨g, cap, cur, e, _⟩
  · refine ⟨none, 0, 0, by rw [e2]; exact e, fun i zs hz => ?_⟩
    have := (List.getElem?_eq_some_iff.1 hz).1
    omega
  · refine ⟨some ⟨g, 0, none⟩, g, cap, e, fun i zs hz => ?_⟩
    have hi := (List.getElem?_eq_some_iff.1 hz).1
    have hx : vs[i]? = some vs[i] := List.getElem?_eq_getElem (by omega)
    have ho := h4 i _ zs hx hz
    obtain ⟨A, c, hs⟩ := ho.slice
    subst e
    exact ⟨vs[i], A, c, rfl, by rw [h2.cellAt i (by omega)]; exact hx, hs, ho⟩

/-- An answer of rows, all in blocks from lo on, below hi, no two in one. -/
def RowsB (lo hi : Nat) (w : World) (v : Value) (zss : List (List Bool)) : Prop :=
  ∃ vs : List Value, vs.length = zss.length ∧ w.ownsRow lo 32 1 v zss.length vs ∧ (∀ k, v.ownBlock = some k → k < hi) ∧ (∀ (i : Nat) (x : Value) (zs : List Bool), vs[i]? = some x → zss[i]? = some zs → BoolsOwn lo hi w x zs) ∧
    (∀ (i j : Nat) (a b : Value) (k : Nat), vs[i]? = some a → vs[j]? = some b → i ≠ j → a.ownBlock = some k → b.ownBlock ≠ some k)

theorem RowsB.keep {lo hi : Nat} {w w' : World} {v : Value} {zss : List (List Bool)} (h : RowsB lo hi w v zss) (hb : Below w.heap.size w w') : RowsB lo hi w' v zss := by
  obtain ⟨vs, h1, h2, h3, h4, h5⟩ := h
  exact ⟨vs, h1, ownsRow_out h2 (Out.of_below (lo := 0) (hi := 0) hb) (fun _ _ => Or.inr (Nat.zero_le _)), h3, fun i x zs a b => (h4 i x zs a b).keep hb, h5⟩

theorem RowsB.out {lo hi lo' hi' : Nat} {w w' : World} {v : Value} {zss : List (List Bool)} (h : RowsB lo hi w v zss) (ho : Out lo' hi' w w') (hr : hi ≤ lo' ∨ hi' ≤ lo) : RowsB lo hi w' v zss := by
  obtain ⟨vs, h1, h2, h3, h4, h5⟩ := h
  exact ⟨vs, h1, ownsRow_out h2 ho (fun k hk => by have := h3 k hk; have := (h2.lt k hk).1; omega), h3, fun i x zs a b => (h4 i x zs a b).out ho hr, h5⟩

theorem RowsB.slice {lo hi : Nat} {w : World} {v : Value} {zss : List (List Bool)} (h : RowsB lo hi w v zss) : ∃ A c, v = .slice A zss.length c := by
  obtain ⟨vs, h1, h2, _⟩ := h
  rcases h2.2 with ⟨e, e2⟩ | ⟨g', c, _, e, _⟩
  · exact ⟨none, 0, by rw [e2]; exact e⟩
  · exact ⟨_, _, e⟩

theorem RowsB.lower {lo lo' hi : Nat} {w : World} {v : Value} {zss : List (List Bool)} (h : RowsB lo hi w v zss) (hl : lo' ≤ lo) : RowsB lo' hi w v zss := by
  obtain ⟨vs, h1, h2, h3, h4, h5⟩ := h
  have low : ∀ {e : TypeId} {x : Value} {n : Nat} {xs : List Value}, w.ownsRow lo e 1 x n xs → w.ownsRow lo' e 1 x n xs := by
    intro e x n xs hx
    obtain ⟨a, b⟩ := hx
    refine ⟨a, ?_⟩
    rcases b with b | ⟨g, cap, cur, hv, hg, r⟩
    · exact Or.inl b
    · exact Or.inr ⟨g, cap, cur, hv, by omega, r⟩
  exact ⟨vs, h1, low h2, h3, fun i x zs a b => ⟨low (h4 i x zs a b).1, (h4 i x zs a b).2⟩, h5⟩

theorem RowsB.nil {lo hi : Nat} {w : World} {v : Value} (h : w.ownsRow lo 32 1 v 0 []) (hh : ∀ k, v.ownBlock = some k → k < hi) : RowsB lo hi w v [] :=
  ⟨[], rfl, h, hh, by simp, by simp⟩

/-- What the walk reads. -/
theorem RowsB.read {lo hi : Nat} {w : World} {v : Value} {zss : List (List Bool)} (h : RowsB lo hi w v zss) : ∃ ao g cap, v = .slice ao zss.length cap ∧ ∀ (i : Nat) (zs : List Bool), zss[i]? = some zs → ∃ x A c, ao = some ⟨g, 0, none⟩ ∧ w.cell? ⟨g, i, none⟩ = some x ∧ x = .slice A zs.length c ∧ BoolsOwn lo hi w x zs := by
  obtain ⟨vs, h1, h2, h3, h4, h5⟩ := h
  rcases id h2.2 with ⟨e, e2⟩ | ⟨g, cap, cur, e, _⟩
  · refine ⟨none, 0, 0, by rw [e2]; exact e, fun i zs hz => ?_⟩
    have := (List.getElem?_eq_some_iff.1 hz).1
    omega
  · refine ⟨some ⟨g, 0, none⟩, g, cap, e, fun i zs hz => ?_⟩
    have hi := (List.getElem?_eq_some_iff.1 hz).1
    have hx : vs[i]? = some vs[i] := List.getElem?_eq_getElem (by omega)
    have ho := h4 i _ zs hx hz
    obtain ⟨A, c, hs⟩ := ho.slice
    subst e
    exact ⟨vs[i], A, c, rfl, by rw [h2.cellAt i (by omega)]; exact hx, hs, ho⟩
end Go.Proofs.YtajgioeifhgfhaaDoor
namespace Go.Proofs.YtajgioeifhgfhaaDoor

/-- A step can be come to: it is in every set that has the first one, and all to which a way leads from such. -/
def Reaches (ss : List St) (i : Nat) : Prop :=
  ∀ S : Nat → Prop, S 0 → (∀ (a j : Nat) (s : St), S a → ss[a]? = some s → (j : Int) ∈ s.next → S j) → S i

theorem Reaches.first (ss : List St) : Reaches ss 0 := fun _ h _ => h

theorem Reaches.on {ss : List St} {a j : Nat} {s : St} (h : Reaches ss a) (hs : ss[a]? = some s) (hj : (j : Int) ∈ s.next) : Reaches ss j := fun S h0 h1 => h1 a j s (h S h0 h1) hs hj

def IsReach (ss : List St) (rs : List Bool) : Prop := rs.length = ss.length ∧ ∀ i, i < ss.length → (rs[i]? = some true ↔ Reaches ss i)

theorem bools_eq {a b : List Bool} (hl : a.length = b.length) (h : ∀ i, i < a.length → (a[i]? = some true ↔ b[i]? = some true)) : a = b := by
  apply List.ext_getElem hl
  intro i h1 h2
  have := h i h1
  rw [List.getElem?_eq_getElem h1, List.getElem?_eq_getElem h2] at this
  cases ha : a[i] <;> cases hb : b[i] <;> simp_all

theorem IsReach.unique {ss : List St} {a b : List Bool} (ha : IsReach ss a) (hb : IsReach ss b) : a = b :=
  bools_eq (ha.1.trans hb.1.symm) fun i hi => (ha.2 i (by have := ha.1; omega)).trans (hb.2 i (by have := ha.1; omega)).symm

theorem ok_step {ss : List St} (h : okB ss = true) {i : Nat} {s : St} (hs : ss[i]? = some s) : stepB s ss.length = true := by
  unfold okB at h
  simp only [Bool.and_eq_true, List.all_eq_true] at h
  exact h.2 s (List.mem_of_getElem? hs)

theorem ok_len {ss : List St} (h : okB ss = true) : 1 ≤ ss.length ∧ ss.length ≤ 60 := by
  unfold okB at h
  simp only [Bool.and_eq_true, decide_eq_true_eq] at h
  exact h.1

theorem many_le (k : Int) : many k ≤ 2 := by
  unfold many
  repeat' split
  all_goals omega

theorem step_next {s : St} {n : Nat} (h : stepB s n = true) {t : Nat} (ht : t < s.next.length) : ∃ m : Nat, s.next.getD t 0 = (m : Int) ∧ m < n ∧ (m : Int) ∈ s.next := by
  unfold stepB at h
  simp only [Bool.and_eq_true, List.all_eq_true, decide_eq_true_eq] at h
  have hm : s.next[t] ∈ s.next := List.getElem_mem ht
  have := h.1.2 _ hm
  unfold inB at this
  simp only [Bool.and_eq_true, decide_eq_true_eq] at this
  have e : s.next.getD t 0 = s.next[t] := by simp [List.getD, ht]
  refine ⟨s.next[t].toNat, ?_, by omega, ?_⟩
  · rw [e]; omega
  · rw [Int.toNat_of_nonneg this.1]; exact hm

theorem step_many {s : St} {n : Nat} (h : stepB s n = true) : s.next.length ≤ 2 := by
  unfold stepB at h
  simp only [Bool.and_eq_true, decide_eq_true_eq] at h
  have := many_le s.kind
  omega

theorem ok_next {ss : List St} (h : okB ss = true) {i : Nat} {s : St} (hs : ss[i]? = some s) {t : Nat} (ht : t < s.next.length) : ∃ m : Nat, s.next.getD t 0 = (m : Int) ∧ m < ss.length ∧ (m : Int) ∈ s.next :=
  step_next (ok_step h hs) ht

theorem mem_getD {s : St} {j : Nat} (h : (j : Int) ∈ s.next) : ∃ t, t < s.next.length ∧ s.next.getD t 0 = (j : Int) := by
  obtain ⟨t, ht, e⟩ := List.mem_iff_getElem.1 h
  exact ⟨t, ht, by simp [List.getD, ht, e]⟩

/-- How many of the first n are so. -/
def cnt (m : Nat → Bool) : Nat → Nat
  | 0 => 0
  | n + 1 => cnt m n + (if m n then 1 else 0)

theorem cnt_le (m : Nat → Bool) (n : Nat) : cnt m n ≤ n := by
  induction n with
  | zero => simp [cnt]
  | succ n ih => unfold cnt; split <;> omega

theorem cnt_same {m m' : Nat → Bool} {n : Nat} (h : ∀ j, j < n → m' j = m j) : cnt m' n = cnt m n := by
  induction n with
  | zero => rfl
  | succ n ih => unfold cnt; rw [ih fun j hj => h j (by omega), h n (by omega)]

theorem cnt_set {m : Nat → Bool} {i n : Nat} (hi : i < n) (hm : m i = false) : cnt (fun j => if j = i then true else m j) n = cnt m n + 1 := by
  induction n with
  | zero => omega
  | succ n ih =>
    unfold cnt
    by_cases e : n = i
    · subst e
      rw [cnt_same (m := m) fun j hj => by rw [if_neg (by omega)]]
      simp [hm]
    · rw [ih (by omega), if_neg e]; omega

/-- The sum of the first n. -/
def tot (f : Nat → Nat) : Nat → Nat
  | 0 => 0
  | n + 1 => tot f n + f n

theorem tot_same {f g : Nat → Nat} {n : Nat} (h : ∀ j, j < n → g j = f j) : tot g n = tot f n := by
  induction n with
  | zero => rfl
  | succ n ih => unfold tot; rw [ih fun j hj => h j (by omega), h n (by omega)]

theorem tot_le {f g : Nat → Nat} {n : Nat} (h : ∀ j, j < n → g j ≤ f j) : tot g n ≤ tot f n := by
  induction n with
  | zero => exact Nat.le_refl _
  | succ n ih => unfold tot; have := ih fun j hj => h j (by omega); have := h n (by omega); omega

theorem tot_set {f : Nat → Nat} {i n v : Nat} (hi : i < n) : tot (fun j => if j = i then v else f j) n + f i = tot f n + v := by
  induction n with
  | zero => omega
  | succ n ih =>
    unfold tot
    by_cases e : n = i
    · subst e
      rw [tot_same (f := f) fun j hj => by rw [if_neg (by omega)]]
      simp; omega
    · have := ih (by omega)
      rw [if_neg e]; omega

/-- A row of bools, by a function on places. -/
def boolV (m : Nat → Bool) : Nat → Value := fun j => .bool (m j)

theorem reach_of {ss : List St} {m : Nat → Bool} (h0 : m 0 = true) (hr : ∀ j, m j = true → Reaches ss j)
    (hc : ∀ (a j : Nat) (s : St), m a = true → ss[a]? = some s → (j : Int) ∈ s.next → m j = true) : IsReach ss ((List.range ss.length).map m) := by
  refine ⟨by simp, fun i hi => ?_⟩
  simp only [List.getElem?_map, List.getElem?_range hi, Option.map_some, Option.some.injEq]
  exact ⟨hr i, fun h => h (fun j => m j = true) h0 hc⟩

theorem map_boolV (m : Nat → Bool) (n : Nat) : ((List.range n).map m).map Value.bool = (List.range n).map (boolV m) := by
  rw [List.map_map]; rfl
end Go.Proofs.YtajgioeifhgfhaaDoor
namespace Go.Proofs.YtajgioeifhgfhaaDoor

/-- How many ways of the first k steps lead to a place. -/
def waysK (ss : List St) (k : Nat) (j : Int) : Nat := ((ss.take k).map (fun s => s.next.count j)).sum

def ways (ss : List St) (j : Int) : Nat := (ss.map (fun s => s.next.count j)).sum

theorem waysK_all (ss : List St) (j : Int) : waysK ss ss.length j = ways ss j := by simp [waysK, ways]

theorem waysK_zero (ss : List St) (j : Int) : waysK ss 0 j = 0 := by simp [waysK]

theorem waysK_succ {ss : List St} {k : Nat} (hk : k < ss.length) (j : Int) : waysK ss (k + 1) j = waysK ss k j + ss[k].next.count j := by
  unfold waysK
  rw [List.take_succ_eq_append_getElem hk, List.map_append, List.sum_append]
  simp only [List.map_cons, List.map_nil, List.sum_cons, List.sum_nil, Nat.add_zero]

theorem waysK_le {ss : List St} (h : ∀ s ∈ ss, s.next.length ≤ 2) (k : Nat) (j : Int) : waysK ss k j ≤ 2 * k := by
  induction k with
  | zero => simp [waysK]
  | succ k ih =>
    by_cases hk : k < ss.length
    · rw [waysK_succ hk]
      have h1 := h _ (List.getElem_mem hk)
      have h2 : ss[k].next.count j ≤ ss[k].next.length := List.count_le_length
      omega
    · have e : waysK ss (k + 1) j = waysK ss k j := by
        unfold waysK
        rw [List.take_of_length_le (by omega), List.take_of_length_le (by omega)]
      omega

theorem count_take {zs : List Int} {t : Nat} (ht : t < zs.length) (j : Int) : (zs.take (t + 1)).count j = (zs.take t).count j + if zs.getD t 0 = j then 1 else 0 := by
  rw [List.take_succ_eq_append_getElem ht, List.count_append, List.count_singleton]
  have e : zs.getD t 0 = zs[t] := by simp [List.getD, ht]
  rw [e]
  by_cases h : zs[t] = j <;> simp [h]

theorem count_take_le (zs : List Int) (t : Nat) (j : Int) : (zs.take t).count j ≤ zs.length := by
  have h1 : (zs.take t).count j ≤ (zs.take t).length := List.count_le_length
  have h2 : (zs.take t).length ≤ zs.length := List.length_take_le' _ _
  omega

/-- Every way leads to a step; no step has more than two. -/
def Fit (ss : List St) : Prop := ss.length ≤ 200 ∧ ∀ (i : Nat) (s : St), ss[i]? = some s → s.next.length ≤ 2 ∧ ∀ t, t < s.next.length → ∃ m : Nat, s.next.getD t 0 = (m : Int) ∧ m < ss.length ∧ (m : Int) ∈ s.next

theorem ok_fit {ss : List St} (h : okB ss = true) : Fit ss :=
  ⟨by have := ok_len h; omega, fun i s hs => ⟨step_many (ok_step h hs), fun t ht => ok_next h hs ht⟩⟩

theorem Fit.two {ss : List St} (h : Fit ss) : ∀ s ∈ ss, s.next.length ≤ 2 := by
  intro s hs
  obtain ⟨i, hi, rfl⟩ := List.mem_iff_getElem.1 hs
  exact (h.2 i _ (List.getElem?_eq_getElem hi)).1

/-- All can be come to, no way leads to the first, and ways that meet come from skips. -/
def Tidy (ss : List St) : Prop := ways ss 0 = 0 ∧ (∀ i, i < ss.length → Reaches ss i) ∧ ∀ s ∈ ss, s.kind ≠ 6 → ∀ x ∈ s.next, ways ss x ≤ 1

theorem mem_of_getD {zs : List Int} {t : Nat} (ht : t < zs.length) : zs.getD t 0 ∈ zs := by
  have e : zs.getD t 0 = zs[t] := by simp [List.getD, ht]
  rw [e]; exact List.getElem_mem ht

theorem mem_getD' {zs : List Int} {x : Int} (h : x ∈ zs) : ∃ t, t < zs.length ∧ zs.getD t 0 = x := by
  obtain ⟨t, ht, e⟩ := List.mem_iff_getElem.1 h
  exact ⟨t, ht, by simp [List.getD, ht, e]⟩
end Go.Proofs.YtajgioeifhgfhaaDoor
namespace Go.Proofs.YtajgioeifhgfhaaDoor
open Go.RowKit

/-- Rows of two types lie in two blocks. -/
theorem own_diff {w : World} {b1 b2 s1 s2 n m : Nat} {e1 e2 : TypeId} {v x : Value} {xs ys : List Value} (h1 : w.ownsRow b1 e1 s1 v n xs) (h2 : w.ownsRow b2 e2 s2 x m ys) (he : e1 ≠ e2) : v.ownBlock = none ∨ v.ownBlock ≠ x.ownBlock := by
  rcases h1.2 with ⟨rfl, _⟩ | ⟨g1, cap1, cur1, rfl, _, hg1, _⟩
  · exact Or.inl rfl
  · rcases h2.2 with ⟨rfl, _⟩ | ⟨g2, cap2, cur2, rfl, _, hg2, _⟩
    · exact Or.inr (by simp [Value.ownBlock])
    · refine Or.inr fun e => ?_
      simp [Value.ownBlock] at e
      subst e
      rw [hg1] at hg2
      simp at hg2
      exact he hg2.2

theorem own_lower {w : World} {base base' : Nat} {e : TypeId} {size : Nat} {v : Value} {n : Nat} {xs : List Value} (h : w.ownsRow base e size v n xs) (hb : base' ≤ base) : w.ownsRow base' e size v n xs := by
  obtain ⟨h1, h2⟩ := h
  refine ⟨h1, ?_⟩
  rcases h2 with h2 | ⟨g, cap, cur, hv, hg, r⟩
  · exact Or.inl h2
  · exact Or.inr ⟨g, cap, cur, hv, by omega, r⟩

theorem infoInt2 : (Tryd.prog.info? 3).map (fun i => (i.zero, i.size, i.bytes)) = some (some (.int .i64 0), 1, 8) := by kernel_rfl
end Go.Proofs.YtajgioeifhgfhaaDoor
namespace Go.Proofs.YtajgioeifhgfhaaDoor

def nextOf (ss : List St) (k : Nat) : List Int := ((ss[k]?).map St.next).getD []

theorem nextOf_get {ss : List St} {k : Nat} (hk : k < ss.length) : nextOf ss k = ss[k].next := by simp [nextOf, hk]

/-- Of the first k steps those that can be come to from which a way leads to j. -/
def predsK (ss : List St) (rs : List Bool) (j k : Nat) : List Int := ((List.range k).filter (fun a => rs.getD a false && decide ((j : Int) ∈ nextOf ss a))).map (fun a : Nat => (a : Int))

theorem predsK_zero (ss : List St) (rs : List Bool) (j : Nat) : predsK ss rs j 0 = [] := by simp [predsK]

theorem predsK_succ (ss : List St) (rs : List Bool) (j k : Nat) : predsK ss rs j (k + 1) = predsK ss rs j k ++ if rs.getD k false = true ∧ (j : Int) ∈ nextOf ss k then [(k : Int)] else [] := by
  unfold predsK
  rw [List.range_succ, List.filter_append, List.map_append]
  congr 1
  by_cases h : rs.getD k false = true ∧ (j : Int) ∈ nextOf ss k
  · rw [if_pos h]; simp only [List.filter_cons, h.1, h.2, decide_true, Bool.and_self, if_true, List.filter_nil, List.map_cons, List.map_nil]
  · rw [if_neg h]
    have : (rs.getD k false && decide ((j : Int) ∈ nextOf ss k)) = false := by
      cases h1 : rs.getD k false
      · rfl
      · simp only [Bool.true_and, decide_eq_false_iff_not]
        exact fun h2 => h ⟨h1, h2⟩
    simp only [List.filter_cons, this, List.filter_nil]
    rfl

theorem predsK_mem {ss : List St} {rs : List Bool} {j k : Nat} {x : Int} (h : x ∈ predsK ss rs j k) : x < k := by
  unfold predsK at h
  simp only [List.mem_map, List.mem_filter, List.mem_range] at h
  obtain ⟨a, ⟨h1, _⟩, h2⟩ := h
  omega

theorem predsK_len (ss : List St) (rs : List Bool) (j k : Nat) : (predsK ss rs j k).length ≤ k := by
  unfold predsK
  rw [List.length_map]
  have := List.length_filter_le (fun a => rs.getD a false && decide ((j : Int) ∈ nextOf ss a)) (List.range k)
  simpa using this

def predsL (ss : List St) (rs : List Bool) : List (List Int) := (List.range ss.length).map (fun j => predsK ss rs j ss.length)

/-- What is told of which steps each may come behind, of any program. -/
def PredsOr (ss : List St) (zss : List (List Int)) : Prop := (okB ss = true ∧ ∃ rs, IsReach ss rs ∧ zss = predsL ss rs) ∨ (okB ss = false ∧ zss = [])

theorem PredsOr.unique {ss : List St} {a b : List (List Int)} (ha : PredsOr ss a) (hb : PredsOr ss b) : a = b := by
  rcases ha with ⟨h1, r1, h2, h3⟩ | ⟨h1, h2⟩ <;> rcases hb with ⟨h4, r2, h5, h6⟩ | ⟨h4, h5⟩
  · rw [h3, h6, h2.unique h5]
  · rw [h1] at h4; cases h4
  · rw [h1] at h4; cases h4
  · rw [h2, h5]

theorem PredsOr.bound {ss : List St} {a : List (List Int)} (ha : PredsOr ss a) : a.length ≤ 1000 ∧ ∀ zs ∈ a, zs.length ≤ 1000 := by
  rcases ha with ⟨h1, r, _, rfl⟩ | ⟨_, rfl⟩
  · have := ok_len h1
    refine ⟨by simp [predsL]; omega, fun zs hz => ?_⟩
    simp only [predsL, List.mem_map, List.mem_range] at hz
    obtain ⟨j, _, rfl⟩ := hz
    have := predsK_len ss r j ss.length
    omega
  · simp

/-- One row more at the end. -/
theorem RowsI.snoc {lo hi s : Nat} {W w' : World} {v v' x : Value} {zss : List (List Int)} {zs : List Int} {vs : List Value} (h1 : vs.length = zss.length) (h2 : W.ownsRow lo 36 1 v zss.length vs)
    (h4 : ∀ (i : Nat) (y : Value) (zs : List Int), vs[i]? = some y → zss[i]? = some zs → IntsO lo hi W y zs) (h5 : ∀ (i j : Nat) (a b : Value) (k : Nat), vs[i]? = some a → vs[j]? = some b → i ≠ j → a.ownBlock = some k → b.ownBlock ≠ some k)
    (hx : W.ownsRow s 3 1 x zs.length (zs.map (Value.int .i64))) (hs : hi ≤ s) (hlo : lo ≤ s) (hg : W.grownBy w' v.ownBlock) (hown : w'.ownsRow lo 36 1 v' (zss.length + 1) (vs ++ [x])) : RowsI lo w'.heap.size w' v' (zss ++ [zs]) := by
  have kept : ∀ {b : Nat} {y : Value} {n : Nat} {ys : List Value}, W.ownsRow b 3 1 y n ys → w'.ownsRow b 3 1 y n ys := by
    intro b y n ys hy
    refine hy.kept hg ?_
    rcases own_diff hy h2 (by decide) with e | e
    · exact Or.inl e
    · exact Or.inr e
  have hxx := own_lower (kept hx) hlo
  refine ⟨vs ++ [x], by simp [h1], by simpa using hown, fun k hk => (hown.lt k hk).2, fun i y zs' hy hz => ?_, fun i j a b k ha hb hij hak => ?_⟩
  · by_cases hi : i < vs.length
    · rw [List.getElem?_append_left hi] at hy
      rw [List.getElem?_append_left (by omega)] at hz
      have ho := h4 i y zs' hy hz
      exact ⟨kept ho.1, fun k hk => ((kept ho.1).lt k hk).2⟩
    · have l := (List.getElem?_eq_some_iff.1 hy).1
      simp at l
      have e : i = vs.length := by omega
      subst e
      simp at hy
      rw [h1] at hz
      simp at hz
      subst hy
      subst hz
      exact ⟨hxx, fun k hk => (hxx.lt k hk).2⟩
  · by_cases hi : i < vs.length <;> by_cases hj : j < vs.length
    · rw [List.getElem?_append_left hi] at ha
      rw [List.getElem?_append_left hj] at hb
      exact h5 i j a b k ha hb hij hak
    · rw [List.getElem?_append_left hi] at ha
      have l := (List.getElem?_eq_some_iff.1 hb).1
      simp at l
      have e : j = vs.length := by omega
      subst e
      simp at hb
      subst hb
      intro hbk
      have o1 := h4 i a zss[i] ha (List.getElem?_eq_getElem (by omega))
      have o2 := o1.2 k hak
      have o3 := (hx.lt k hbk).1
      omega
    · rw [List.getElem?_append_left hj] at hb
      have l := (List.getElem?_eq_some_iff.1 ha).1
      simp at l
      have e : i = vs.length := by omega
      subst e
      simp at ha
      subst ha
      intro hbk
      have o1 := h4 j b zss[j] hb (List.getElem?_eq_getElem (by omega))
      have o2 := o1.2 k hbk
      have o3 := (hx.lt k hak).1
      omega
    · have l1 := (List.getElem?_eq_some_iff.1 ha).1
      have l2 := (List.getElem?_eq_some_iff.1 hb).1
      simp at l1 l2
      omega
end Go.Proofs.YtajgioeifhgfhaaDoor
namespace Go.Proofs.YtajgioeifhgfhaaDoor

/-- A test of places, false at one. -/
def offB (g : Nat → Bool) (x : Nat) : Nat → Bool := fun j => if j = x then false else g j

/-- The greatest that fits, of places below n of which r is so. -/
structure Gr (n : Nat) (r : Nat → Bool) (F : (Nat → Bool) → Nat → Bool) (g : Nat → Bool) : Prop where
  fit : ∀ i, i < n → g i = true → r i = true ∧ F g i = true
  top : ∀ h : Nat → Bool, (∀ i, i < n → h i = true → r i = true ∧ F h i = true) → ∀ i, i < n → h i = true → g i = true

theorem Gr.unique {n : Nat} {r : Nat → Bool} {F : (Nat → Bool) → Nat → Bool} {g g' : Nat → Bool} (h : Gr n r F g) (h' : Gr n r F g') : ∀ i, i < n → g i = g' i := by
  intro i hi
  have a := h.top g' h'.fit i hi
  have b := h'.top g h.fit i hi
  cases h1 : g i <;> cases h2 : g' i <;> simp_all

/-- What is asked of a step hangs on that of others, and grows with it. -/
def Mono (n : Nat) (F : (Nat → Bool) → Nat → Bool) : Prop := ∀ g h : Nat → Bool, (∀ i, i < n → g i = true → h i = true) → ∀ i, i < n → F g i = true → F h i = true

/-- One more that waits, if it does not wait. -/
def putQ (q : List Nat) (y : Nat) : List Nat := if y ∈ q then q else q ++ [y]

theorem putQ_mem {q : List Nat} {y x : Nat} : x ∈ putQ q y ↔ x ∈ q ∨ x = y := by
  unfold putQ
  split
  · constructor
    · exact Or.inl
    · rintro (h | rfl)
      · exact h
      · assumption
  · simp

theorem putQ_nodup {q : List Nat} {y : Nat} (h : q.Nodup) : (putQ q y).Nodup := by
  unfold putQ
  split
  · exact h
  · rename_i hn
    rw [List.nodup_append]
    refine ⟨h, by simp, ?_⟩
    rintro a ha b hb rfl
    simp only [List.mem_singleton] at hb
    exact hn (hb ▸ ha)

theorem putsQ_mem {x : Nat} : ∀ {l q : List Nat}, x ∈ l.foldl putQ q ↔ x ∈ q ∨ x ∈ l
  | [], q => by simp
  | y :: l, q => by
    rw [List.foldl_cons, putsQ_mem, putQ_mem]
    simp only [List.mem_cons]
    grind

theorem putsQ_nodup : ∀ {l q : List Nat}, q.Nodup → (l.foldl putQ q).Nodup
  | [], _, h => h
  | _ :: l, _, h => putsQ_nodup (l := l) (putQ_nodup h)

theorem nodup_len : ∀ {n : Nat} {q : List Nat}, q.Nodup → (∀ i ∈ q, i < n) → q.length ≤ n
  | 0, q, _, hq => by
    cases q with
    | nil => simp
    | cons a l => exact absurd (hq a List.mem_cons_self) (by omega)
  | n + 1, q, h, hq => by
    have h1 : (q.erase n).length ≤ n := nodup_len (h.erase n) fun i hi => by
      have h2 := (h.mem_erase_iff).1 hi
      have h3 := hq i h2.2
      have := h2.1
      omega
    rw [List.length_erase] at h1
    split at h1 <;> omega

/-- The solver's state: what is supposed, and who waits. -/
structure WL (n : Nat) (r : Nat → Bool) (F : (Nat → Bool) → Nat → Bool) (so : Nat → Bool) (q : List Nat) : Prop where
  sub : ∀ i, i < n → so i = true → r i = true
  top : ∀ h : Nat → Bool, (∀ i, i < n → h i = true → r i = true ∧ F h i = true) → ∀ i, i < n → h i = true → so i = true
  fit : ∀ i, i < n → so i = true → F so i = true ∨ i ∈ q
  non : ∀ i, i < n → r i = true → so i = false → F so i = false
  qr : ∀ i ∈ q, i < n ∧ r i = true
  nd : q.Nodup

theorem WL.start {n : Nat} {r : Nat → Bool} {F : (Nat → Bool) → Nat → Bool} {q : List Nat} (hq : ∀ i, i ∈ q ↔ i < n ∧ r i = true) (hn : q.Nodup) : WL n r F r q where
  sub := fun _ _ h => h
  top := fun _ hh i hi h1 => (hh i hi h1).1
  fit := fun i hi h1 => Or.inr ((hq i).2 ⟨hi, h1⟩)
  non := fun i _ h1 h2 => by rw [h1] at h2; cases h2
  qr := fun i hi => (hq i).1 hi
  nd := hn

theorem WL.same {n : Nat} {r : Nat → Bool} {F : (Nat → Bool) → Nat → Bool} {so : Nat → Bool} {x : Nat} {q : List Nat} (h : WL n r F so (x :: q)) (hx : F so x = so x) : WL n r F so q where
  sub := h.sub
  top := h.top
  fit := fun i hi h1 => by
    rcases h.fit i hi h1 with h2 | h2
    · exact Or.inl h2
    · rcases List.mem_cons.1 h2 with rfl | h3
      · exact Or.inl (hx.trans h1)
      · exact Or.inr h3
  non := h.non
  qr := fun i hi => h.qr i (List.mem_cons_of_mem _ hi)
  nd := (List.nodup_cons.1 h.nd).2

theorem WL.turned {n : Nat} {r : Nat → Bool} {F : (Nat → Bool) → Nat → Bool} {so : Nat → Bool} {x : Nat} {q : List Nat} (h : WL n r F so (x :: q)) (hx : F so x ≠ so x) : so x = true ∧ F so x = false := by
  obtain ⟨h1, h2⟩ := h.qr x (List.mem_cons_self)
  cases h3 : so x
  · have := h.non x h1 h2 h3
    rw [this, h3] at hx
    exact absurd rfl hx
  · refine ⟨rfl, ?_⟩
    rw [h3] at hx
    simpa using hx

theorem WL.turn {n : Nat} {r : Nat → Bool} {F : (Nat → Bool) → Nat → Bool} {so : Nat → Bool} {x : Nat} {q l : List Nat} (h : WL n r F so (x :: q)) (hm : Mono n F) (hx : F so x ≠ so x)
    (hd : ∀ i, i < n → r i = true → i ∉ l → F (offB so x) i = F so i) (hl : ∀ y ∈ l, y < n ∧ r y = true) : WL n r F (offB so x) (l.foldl putQ q) := by
  obtain ⟨h1, h2⟩ := h.turned hx
  have hle : ∀ i, i < n → offB so x i = true → so i = true := by
    intro i _ h3
    unfold offB at h3
    split at h3
    · cases h3
    · exact h3
  exact {
    sub := fun i hi h3 => h.sub i hi (hle i hi h3)
    top := fun g hg i hi h3 => by
      unfold offB
      split
      · rename_i e
        subst e
        have := hm g so (fun j hj hgj => h.top g hg j hj hgj) i hi (hg i hi h3).2
        rw [h2] at this
        cases this
      · exact h.top g hg i hi h3
    fit := fun i hi h3 => by
      by_cases hil : i ∈ l
      · exact Or.inr (putsQ_mem.2 (Or.inr hil))
      · rw [hd i hi (h.sub i hi (hle i hi h3)) hil]
        rcases h.fit i hi (hle i hi h3) with h4 | h4
        · exact Or.inl h4
        · rcases List.mem_cons.1 h4 with rfl | h5
          · simp [offB] at h3
          · exact Or.inr (putsQ_mem.2 (Or.inl h5))
    non := fun i hi hr h3 => by
      cases hc : F (offB so x) i
      · rfl
      · have hs := hm _ so hle i hi hc
        unfold offB at h3
        split at h3
        · rename_i e
          subst e
          rw [h2] at hs
          cases hs
        · have := h.non i hi hr h3
          rw [this] at hs
          cases hs
    qr := fun i hi => by
      rcases putsQ_mem.1 hi with h3 | h3
      · exact h.qr i (List.mem_cons_of_mem _ h3)
      · exact hl i h3
    nd := putsQ_nodup (List.nodup_cons.1 h.nd).2 }

theorem WL.done {n : Nat} {r : Nat → Bool} {F : (Nat → Bool) → Nat → Bool} {so : Nat → Bool} (h : WL n r F so []) : Gr n r F so where
  fit := fun i hi h1 => ⟨h.sub i hi h1, by
    rcases h.fit i hi h1 with h2 | h2
    · exact h2
    · cases h2⟩
  top := h.top

theorem WL.len {n : Nat} {r : Nat → Bool} {F : (Nat → Bool) → Nat → Bool} {so : Nat → Bool} {q : List Nat} (h : WL n r F so q) : q.length ≤ n := nodup_len h.nd fun i hi => (h.qr i hi).1

/-- The model's passes: what is still supposed. -/
structure GI (n : Nat) (r : Nat → Bool) (F : (Nat → Bool) → Nat → Bool) (g : Nat → Bool) : Prop where
  sub : ∀ i, i < n → g i = true → r i = true
  top : ∀ h : Nat → Bool, (∀ i, i < n → h i = true → r i = true ∧ F h i = true) → ∀ i, i < n → h i = true → g i = true

theorem GI.start (n : Nat) (r : Nat → Bool) (F : (Nat → Bool) → Nat → Bool) : GI n r F r := ⟨fun _ _ h => h, fun _ hh i hi h1 => (hh i hi h1).1⟩

theorem GI.off {n : Nat} {r : Nat → Bool} {F : (Nat → Bool) → Nat → Bool} {g : Nat → Bool} {x : Nat} (h : GI n r F g) (hm : Mono n F) (hx : F g x = false) : GI n r F (offB g x) where
  sub := fun i hi h1 => by
    unfold offB at h1
    split at h1
    · cases h1
    · exact h.sub i hi h1
  top := fun k hk i hi h1 => by
    unfold offB
    split
    · rename_i e
      subst e
      have := hm k g (fun j hj hgj => h.top k hk j hj hgj) i hi (hk i hi h1).2
      rw [hx] at this
      cases this
    · exact h.top k hk i hi h1

theorem GI.done {n : Nat} {r : Nat → Bool} {F : (Nat → Bool) → Nat → Bool} {g : Nat → Bool} (h : GI n r F g) (hf : ∀ i, i < n → g i = true → F g i = true) : Gr n r F g := ⟨fun i hi h1 => ⟨h.sub i hi h1, hf i hi h1⟩, h.top⟩

/-- Of each of a list's places it is so. -/
def allI (l : List Int) (g : Nat → Bool) : Bool := l.all (fun x => g x.toNat)

theorem allI_mono {l : List Int} {g h : Nat → Bool} {n : Nat} (hl : ∀ x ∈ l, 0 ≤ x ∧ x < (n : Int)) (hg : ∀ i, i < n → g i = true → h i = true) (ha : allI l g = true) : allI l h = true := by
  unfold allI at *
  rw [List.all_eq_true] at *
  exact fun x hx => hg _ (by have := hl x hx; omega) (ha x hx)

theorem allI_congr {l : List Int} {g h : Nat → Bool} (hg : ∀ x ∈ l, g x.toNat = h x.toNat) : allI l g = allI l h := by
  unfold allI
  rw [Bool.eq_iff_iff, List.all_eq_true, List.all_eq_true]
  constructor
  · intro h1 x hx
    rw [← hg x hx]
    exact h1 x hx
  · intro h1 x hx
    rw [hg x hx]
    exact h1 x hx

def downF (c k : Nat → Bool) (nx : Nat → List Int) : (Nat → Bool) → Nat → Bool := fun g i => c i || (k i && (decide (0 < (nx i).length) && allI (nx i) g))
def upF (c k : Nat → Bool) (P : Nat → List Int) : (Nat → Bool) → Nat → Bool := fun g i => decide (i ≠ 0) && allI (P i) (fun m => k m && (c m || g m))
def earlyB (k d u : Nat → Bool) (P : Nat → List Int) : Nat → Bool := fun i => d i && (decide (i = 0) || !allI (P i) (fun m => k m && (d m || u m)))
def delayF (c e : Nat → Bool) (P : Nat → List Int) : (Nat → Bool) → Nat → Bool := fun g i => e i || (decide (i ≠ 0) && allI (P i) (fun m => g m && !c m))
def lateB (c l : Nat → Bool) (nx : Nat → List Int) : Nat → Bool := fun i => l i && (c i || !allI (nx i) l)
def aloneF (c t : Nat → Bool) (nx : Nat → List Int) : (Nat → Bool) → Nat → Bool := fun g i => allI (nx i) (fun m => t m || (!c m && g m))

/-- Lists of places below n. -/
def Low (n : Nat) (L : Nat → List Int) : Prop := ∀ i, i < n → ∀ x ∈ L i, 0 ≤ x ∧ x < (n : Int)

theorem downF_mono {n : Nat} {c k : Nat → Bool} {nx : Nat → List Int} (hl : Low n nx) : Mono n (downF c k nx) := by
  intro g h hgh i hi h1
  unfold downF at *
  simp only [Bool.or_eq_true, Bool.and_eq_true] at *
  rcases h1 with h1 | ⟨h1, h2, h3⟩
  · exact Or.inl h1
  · exact Or.inr ⟨h1, h2, allI_mono (hl i hi) hgh h3⟩

theorem upF_mono {n : Nat} {c k : Nat → Bool} {P : Nat → List Int} (hl : Low n P) : Mono n (upF c k P) := by
  intro g h hgh i hi h1
  unfold upF at *
  simp only [Bool.and_eq_true] at *
  refine ⟨h1.1, allI_mono (hl i hi) ?_ h1.2⟩
  intro j hj h2
  simp only [Bool.or_eq_true, Bool.and_eq_true] at *
  rcases h2 with ⟨h2, h3 | h3⟩
  · exact ⟨h2, Or.inl h3⟩
  · exact ⟨h2, Or.inr (hgh j hj h3)⟩

theorem delayF_mono {n : Nat} {c e : Nat → Bool} {P : Nat → List Int} (hl : Low n P) : Mono n (delayF c e P) := by
  intro g h hgh i hi h1
  unfold delayF at *
  simp only [Bool.or_eq_true, Bool.and_eq_true] at *
  rcases h1 with h1 | ⟨h1, h2⟩
  · exact Or.inl h1
  · refine Or.inr ⟨h1, allI_mono (hl i hi) ?_ h2⟩
    intro j hj h3
    simp only [Bool.and_eq_true] at *
    exact ⟨hgh j hj h3.1, h3.2⟩

theorem aloneF_mono {n : Nat} {c t : Nat → Bool} {nx : Nat → List Int} (hl : Low n nx) : Mono n (aloneF c t nx) := by
  intro g h hgh i hi h1
  unfold aloneF at *
  refine allI_mono (hl i hi) ?_ h1
  intro j hj h3
  simp only [Bool.or_eq_true, Bool.and_eq_true] at *
  rcases h3 with h3 | h3
  · exact Or.inl h3
  · exact Or.inr ⟨h3.1, hgh j hj h3.2⟩

theorem allI_off {l : List Int} {g : Nat → Bool} {x : Nat} {f : Bool → Nat → Bool} (hl : ∀ y ∈ l, 0 ≤ y) (hx : (x : Int) ∉ l) : allI l (fun m => f (offB g x m) m) = allI l (fun m => f (g m) m) := by
  refine allI_congr fun y hy => ?_
  have : y.toNat ≠ x := fun e => hx (by have := hl y hy; rwa [show (x : Int) = y by omega])
  simp [offB, this]

theorem downF_off {n : Nat} {c k g : Nat → Bool} {nx : Nat → List Int} (hl : Low n nx) {x i : Nat} (hi : i < n) (hx : (x : Int) ∉ nx i) : downF c k nx (offB g x) i = downF c k nx g i := by
  unfold downF
  rw [show allI (nx i) (offB g x) = allI (nx i) g from allI_off (f := fun b _ => b) (fun y hy => (hl i hi y hy).1) hx]
theorem upF_off {n : Nat} {c k g : Nat → Bool} {P : Nat → List Int} (hl : Low n P) {x i : Nat} (hi : i < n) (hx : (x : Int) ∉ P i) : upF c k P (offB g x) i = upF c k P g i := by
  unfold upF
  rw [allI_off (f := fun b m => k m && (c m || b)) (fun y hy => (hl i hi y hy).1) hx]
theorem delayF_off {n : Nat} {c e g : Nat → Bool} {P : Nat → List Int} (hl : Low n P) {x i : Nat} (hi : i < n) (hx : (x : Int) ∉ P i) : delayF c e P (offB g x) i = delayF c e P g i := by
  unfold delayF
  rw [allI_off (f := fun b m => b && !c m) (fun y hy => (hl i hi y hy).1) hx]
theorem aloneF_off {n : Nat} {c t g : Nat → Bool} {nx : Nat → List Int} (hl : Low n nx) {x i : Nat} (hi : i < n) (hx : (x : Int) ∉ nx i) : aloneF c t nx (offB g x) i = aloneF c t nx g i := by
  unfold aloneF
  rw [allI_off (f := fun b m => t m || (!c m && b)) (fun y hy => (hl i hi y hy).1) hx]
end Go.Proofs.YtajgioeifhgfhaaDoor
namespace Go.Proofs.YtajgioeifhgfhaaDoor

/-- What a step reckons, keeps, and whether it can be come to, by its place. -/
def cF (e : E5) (ss : List St) (i : Nat) : Bool := ((ss[i]?).map (compB e)).getD false
def kF (e : E5) (ss : List St) (i : Nat) : Bool := ((ss[i]?).map (keepB e)).getD false
def rF (rs : List Bool) (i : Nat) : Bool := rs.getD i false
def pF (ss : List St) (rs : List Bool) (i : Nat) : List Int := predsK ss rs i ss.length

theorem cF_get {e : E5} {ss : List St} {i : Nat} (h : i < ss.length) : cF e ss i = compB e ss[i] := by simp [cF, h]
theorem kF_get {e : E5} {ss : List St} {i : Nat} (h : i < ss.length) : kF e ss i = keepB e ss[i] := by simp [kF, h]

theorem low_next {ss : List St} (hok : okB ss = true) : Low ss.length (nextOf ss) := by
  intro i hi x hx
  rw [nextOf_get hi] at hx
  have h1 := ok_stepE hok (List.getElem_mem hi)
  unfold stepB at h1
  simp only [Bool.and_eq_true, List.all_eq_true] at h1
  have h2 := h1.1.2 x hx
  simp [inB] at h2
  omega

theorem low_preds (ss : List St) (rs : List Bool) : Low ss.length (pF ss rs) := by
  intro i hi x hx
  have h1 := predsK_mem hx
  unfold pF predsK at hx
  simp only [List.mem_map] at hx
  obtain ⟨a, _, rfl⟩ := hx
  omega

theorem mem_preds {ss : List St} {rs : List Bool} {x i : Nat} : (i : Int) ∈ pF ss rs x ↔ i < ss.length ∧ rF rs i = true ∧ (x : Int) ∈ nextOf ss i := by
  unfold pF predsK rF
  simp only [List.mem_map, List.mem_filter, List.mem_range, Bool.and_eq_true, decide_eq_true_eq]
  constructor
  · rintro ⟨a, ⟨h1, h2, h3⟩, h4⟩
    obtain rfl : a = i := by omega
    exact ⟨h1, h2, h3⟩
  · rintro ⟨h1, h2, h3⟩
    exact ⟨i, ⟨h1, h2, h3⟩, rfl⟩

theorem next_len {ss : List St} (hok : okB ss = true) {i : Nat} (hi : i < ss.length) : (nextOf ss i).length ≤ 2 := by
  rw [nextOf_get hi]
  exact step_many (ok_stepE hok (List.getElem_mem hi))

/-- A step behind one that can be come to can be, too. -/
theorem next_reach {ss : List St} {rs : List Bool} (hok : okB ss = true) (hr : IsReach ss rs) {x : Nat} (hx : x < ss.length) (hrx : rF rs x = true) {y : Int} (hy : y ∈ nextOf ss x) : 0 ≤ y ∧ y.toNat < ss.length ∧ rF rs y.toNat = true := by
  have h1 := low_next hok x hx y hy
  refine ⟨h1.1, by omega, ?_⟩
  have key : ∀ i, i < ss.length → (rF rs i = true ↔ Reaches ss i) := fun i hi => by
    rw [← hr.2 i hi]
    unfold rF
    rw [List.getD_eq_getElem?_getD]
    have : i < rs.length := by rw [hr.1]; exact hi
    simp [this]
  rw [key _ (by omega)]
  rw [nextOf_get hx] at hy
  refine Reaches.on ((key x hx).1 hrx) (List.getElem?_eq_getElem hx) ?_
  rwa [show ((y.toNat : Nat) : Int) = y by omega]

/-- Where it will be reckoned. -/
def IsDown (ss : List St) (e : E5) (rs : List Bool) (f : Nat → Bool) : Prop := Gr ss.length (rF rs) (downF (cF e ss) (kF e ss) (nextOf ss)) f

/-- A row of yes and no of a program and a reckoning that are ok; else nothing. -/
def SafeOr (P : List St → E5 → List Bool → (Nat → Bool) → Prop) (ss : List St) (e : E5) (bs : List Bool) : Prop :=
  (okB ss = true ∧ exprB e = true ∧ ∃ rs f, IsReach ss rs ∧ P ss e rs f ∧ bs = (List.range ss.length).map f) ∨ (¬ (okB ss = true ∧ exprB e = true) ∧ bs = [])

theorem SafeOr.unique {P : List St → E5 → List Bool → (Nat → Bool) → Prop} (hu : ∀ ss e rs f f', P ss e rs f → P ss e rs f' → ∀ i, i < ss.length → f i = f' i) {ss : List St} {e : E5} {a b : List Bool} (ha : SafeOr P ss e a) (hb : SafeOr P ss e b) : a = b := by
  rcases ha with ⟨h1, h2, rs, f, h3, h4, rfl⟩ | ⟨h1, rfl⟩
  · rcases hb with ⟨_, _, rs', f', k3, k4, rfl⟩ | ⟨k1, rfl⟩
    · obtain rfl := h3.unique k3
      exact List.map_congr_left fun i hi => hu ss e rs f f' h4 k4 i (by simpa using hi)
    · exact absurd ⟨h1, h2⟩ k1
  · rcases hb with ⟨k1, k2, _⟩ | ⟨_, rfl⟩
    · exact absurd ⟨k1, k2⟩ h1
    · rfl

theorem SafeOr.bound {P : List St → E5 → List Bool → (Nat → Bool) → Prop} {ss : List St} {e : E5} {a : List Bool} (ha : SafeOr P ss e a) (hl : ss.length ≤ 1048576) : a.length ≤ 1048576 := by
  rcases ha with ⟨_, _, rs, f, _, _, rfl⟩ | ⟨_, rfl⟩
  · simpa using hl
  · simp

/-- Where it was reckoned. -/
def IsUp (ss : List St) (e : E5) (rs : List Bool) (f : Nat → Bool) : Prop := Gr ss.length (rF rs) (upF (cF e ss) (kF e ss) (pF ss rs)) f

theorem IsUp.unique (ss : List St) (e : E5) (rs : List Bool) (f f' : Nat → Bool) (h : IsUp ss e rs f) (h' : IsUp ss e rs f') : ∀ i, i < ss.length → f i = f' i := Gr.unique h h'

theorem IsDown.unique (ss : List St) (e : E5) (rs : List Bool) (f f' : Nat → Bool) (h : IsDown ss e rs f) (h' : IsDown ss e rs f') : ∀ i, i < ss.length → f i = f' i := Gr.unique h h'

/-- Where it is reckoned at the earliest. -/
def IsEarly (ss : List St) (e : E5) (rs : List Bool) (f : Nat → Bool) : Prop := ∃ d u, IsDown ss e rs d ∧ IsUp ss e rs u ∧ ∀ i, i < ss.length → f i = earlyB (kF e ss) d u (pF ss rs) i

theorem allI_low {n : Nat} {l : List Int} {g h : Nat → Bool} (hl : ∀ x ∈ l, 0 ≤ x ∧ x < (n : Int)) (e : ∀ i, i < n → g i = h i) : allI l g = allI l h := allI_congr fun x hx => e _ (by have := hl x hx; omega)

theorem IsEarly.unique (ss : List St) (e : E5) (rs : List Bool) (f f' : Nat → Bool) (h : IsEarly ss e rs f) (h' : IsEarly ss e rs f') : ∀ i, i < ss.length → f i = f' i := by
  obtain ⟨d, u, h1, h2, h3⟩ := h
  obtain ⟨d', u', k1, k2, k3⟩ := h'
  intro i hi
  rw [h3 i hi, k3 i hi]
  unfold earlyB
  rw [IsDown.unique ss e rs d d' h1 k1 i hi, allI_low (low_preds ss rs i hi) fun m hm => by rw [IsDown.unique ss e rs d d' h1 k1 m hm, IsUp.unique ss e rs u u' h2 k2 m hm]]

theorem Gr.turn {n : Nat} {r : Nat → Bool} {F F' : (Nat → Bool) → Nat → Bool} {g : Nat → Bool} (h : Gr n r F g) (e : ∀ g i, i < n → F g i = F' g i) : Gr n r F' g :=
  ⟨fun i hi h1 => by rw [← e g i hi]; exact h.fit i hi h1, fun k hk => h.top k fun i hi h1 => by rw [e k i hi]; exact hk i hi h1⟩

/-- Where it can still be put off to. -/
def IsDelay (ss : List St) (e : E5) (rs : List Bool) (f : Nat → Bool) : Prop := ∃ ea, IsEarly ss e rs ea ∧ Gr ss.length (rF rs) (delayF (cF e ss) ea (pF ss rs)) f

theorem IsDelay.unique (ss : List St) (e : E5) (rs : List Bool) (f f' : Nat → Bool) (h : IsDelay ss e rs f) (h' : IsDelay ss e rs f') : ∀ i, i < ss.length → f i = f' i := by
  obtain ⟨ea, h1, h2⟩ := h
  obtain ⟨ea', k1, k2⟩ := h'
  exact Gr.unique h2 (k2.turn fun g i hi => by unfold delayF; rw [IsEarly.unique ss e rs ea ea' h1 k1 i hi])

/-- Where it cannot be put off any more. -/
def IsLate (ss : List St) (e : E5) (rs : List Bool) (f : Nat → Bool) : Prop := ∃ l, IsDelay ss e rs l ∧ ∀ i, i < ss.length → f i = lateB (cF e ss) l (nextOf ss) i

theorem IsLate.unique (ss : List St) (hok : okB ss = true) (e : E5) (rs : List Bool) (f f' : Nat → Bool) (h : IsLate ss e rs f) (h' : IsLate ss e rs f') : ∀ i, i < ss.length → f i = f' i := by
  obtain ⟨l, h1, h2⟩ := h
  obtain ⟨l', k1, k2⟩ := h'
  intro i hi
  rw [h2 i hi, k2 i hi]
  unfold lateB
  rw [IsDelay.unique ss e rs l l' h1 k1 i hi, allI_low (low_next hok i hi) fun m hm => IsDelay.unique ss e rs l l' h1 k1 m hm]

/-- Where it would serve that step alone. -/
def IsAlone (ss : List St) (e : E5) (rs : List Bool) (f : Nat → Bool) : Prop := ∃ t, IsLate ss e rs t ∧ Gr ss.length (rF rs) (aloneF (cF e ss) t (nextOf ss)) f

theorem IsAlone.unique (ss : List St) (hok : okB ss = true) (e : E5) (rs : List Bool) (f f' : Nat → Bool) (h : IsAlone ss e rs f) (h' : IsAlone ss e rs f') : ∀ i, i < ss.length → f i = f' i := by
  obtain ⟨t, h1, h2⟩ := h
  obtain ⟨t', k1, k2⟩ := h'
  exact Gr.unique h2 (k2.turn fun g i hi => by
    unfold aloneF
    exact allI_low (low_next hok i hi) fun m hm => by rw [IsLate.unique ss hok e rs t t' h1 k1 m hm])
end Go.Proofs.YtajgioeifhgfhaaDoor
