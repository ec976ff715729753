/- What a program in memory is: a slice of ints, a slice of steps, told by plain lists; and what keeps them so. -/
import Derived.WalkKit
import Derived.Deep.OwnRows
import Derived.WalkSmall
namespace Go.Proofs.YtljlgffkhocgkaaDoor
open Go.RowKit

structure St where
  kind : Int
  dst : Int
  op : Int
  av : Int
  an : Int
  bv : Int
  bn : Int
  next : List Int

/-- A slice value whose elements are these numbers. -/
def IntsAt (w : World) (v : Value) (zs : List Int) : Prop :=
  ∃ ao b o cap, v = .slice ao zs.length cap ∧ (0 < zs.length → ao = some ⟨b, o, none⟩) ∧ ∀ i, i < zs.length → w.cell? ⟨b, o + i, none⟩ = some (.int .i64 (zs.getD i 0))

/-- A step as a value, its Next being the slice nv. -/
def stepV (s : St) (nv : Value) : Value := .agg #[.int .i64 s.kind, .int .i64 s.dst, .int .i64 s.op, .int .i64 s.av, .int .i64 s.an, .int .i64 s.bv, .int .i64 s.bn, nv]

/-- The eight cells of a step at a place. -/
structure StepCells (w : World) (b o : Nat) (s : St) (nv : Value) : Prop where
  c0 : w.cell? ⟨b, o, none⟩ = some (.int .i64 s.kind)
  c1 : w.cell? ⟨b, o + 1, none⟩ = some (.int .i64 s.dst)
  c2 : w.cell? ⟨b, o + 2, none⟩ = some (.int .i64 s.op)
  c3 : w.cell? ⟨b, o + 3, none⟩ = some (.int .i64 s.av)
  c4 : w.cell? ⟨b, o + 4, none⟩ = some (.int .i64 s.an)
  c5 : w.cell? ⟨b, o + 5, none⟩ = some (.int .i64 s.bv)
  c6 : w.cell? ⟨b, o + 6, none⟩ = some (.int .i64 s.bn)
  c7 : w.cell? ⟨b, o + 7, none⟩ = some nv

def StepsAt (w : World) (v : Value) (ss : List St) : Prop :=
  ∃ ao b o cap, v = .slice ao ss.length cap ∧ (0 < ss.length → ao = some ⟨b, o, none⟩) ∧
    ∀ i s, ss[i]? = some s → ∃ nv, StepCells w b (o + i * 8) s nv ∧ IntsAt w nv s.next

theorem cell_lt {w : World} {p : Addr} {v : Value} (h : w.cell? p = some v) : p.block < w.heap.size := by
  unfold World.cell? at h
  by_cases hlt : p.block < w.heap.size
  · exact hlt
  · rw [Array.getElem?_eq_none (by omega)] at h; simp at h

theorem cell_keep {w w' : World} (hb : Below w.heap.size w w') {p : Addr} {v : Value} (h : w.cell? p = some v) : w'.cell? p = some v :=
  (hb.cell (cell_lt h)).trans h

theorem IntsAt.keep {w w' : World} {v : Value} {zs : List Int} (h : IntsAt w v zs) (hb : Below w.heap.size w w') : IntsAt w' v zs := by
  obtain ⟨ao, b, o, cap, hv, ha, hc⟩ := h
  exact ⟨ao, b, o, cap, hv, ha, fun i hi => cell_keep hb (hc i hi)⟩

theorem StepCells.keep {w w' : World} {b o : Nat} {s : St} {nv : Value} (h : StepCells w b o s nv) (hb : Below w.heap.size w w') : StepCells w' b o s nv :=
  ⟨cell_keep hb h.c0, cell_keep hb h.c1, cell_keep hb h.c2, cell_keep hb h.c3, cell_keep hb h.c4, cell_keep hb h.c5, cell_keep hb h.c6, cell_keep hb h.c7⟩

theorem StepsAt.keep {w w' : World} {v : Value} {ss : List St} (h : StepsAt w v ss) (hb : Below w.heap.size w w') : StepsAt w' v ss := by
  obtain ⟨ao, b, o, cap, hv, ha, hc⟩ := h
  refine ⟨ao, b, o, cap, hv, ha, fun i s hs => ?_⟩
  obtain ⟨nv, h1, h2⟩ := hc i s hs
  exact ⟨nv, h1.keep hb, h2.keep hb⟩

/-- All old cells and marks read as before: two rules for the walk. -/
theorem bcell {W w1 : World} (hb : Below W.heap.size W w1) : (∀ b o, b < W.heap.size → w1.cell? ⟨b, o, none⟩ = W.cell? ⟨b, o, none⟩) ∧ (∀ b o, b < W.heap.size → w1.frozen? ⟨b, o, none⟩ = W.frozen? ⟨b, o, none⟩) :=
  ⟨fun b o h => hb.cell (p := ⟨b, o, none⟩) h, fun b o h => hb.frozen (p := ⟨b, o, none⟩) h⟩

/-- The same, in blocks from lo on. -/
def IntsFrom (lo : Nat) (w : World) (v : Value) (zs : List Int) : Prop :=
  ∃ ao b o cap, v = .slice ao zs.length cap ∧ (0 < zs.length → ao = some ⟨b, o, none⟩) ∧ lo ≤ b ∧ ∀ i, i < zs.length → w.cell? ⟨b, o + i, none⟩ = some (.int .i64 (zs.getD i 0))

theorem IntsFrom.at {lo : Nat} {w : World} {v : Value} {zs : List Int} (h : IntsFrom lo w v zs) : IntsAt w v zs := by
  obtain ⟨ao, b, o, cap, hv, ha, _, hc⟩ := h
  exact ⟨ao, b, o, cap, hv, ha, hc⟩

theorem IntsFrom.keep {lo : Nat} {w w' : World} {v : Value} {zs : List Int} (h : IntsFrom lo w v zs) (hb : Below w.heap.size w w') : IntsFrom lo w' v zs := by
  obtain ⟨ao, b, o, cap, hv, ha, hlo, hc⟩ := h
  exact ⟨ao, b, o, cap, hv, ha, hlo, fun i hi => cell_keep hb (hc i hi)⟩

theorem IntsFrom.mono {lo lo' : Nat} {w : World} {v : Value} {zs : List Int} (h : IntsFrom lo w v zs) (hl : lo' ≤ lo) : IntsFrom lo' w v zs := by
  obtain ⟨ao, b, o, cap, hv, ha, hlo, hc⟩ := h
  exact ⟨ao, b, o, cap, hv, ha, by omega, hc⟩

theorem cell_setOther (w : World) (a p : Addr) (u : Value) (h : p.block ≠ a.block) : (w.setCell a u).cell? p = w.cell? p :=
  World.cell?_of_block (w := w) (Below.heap_setCell w a u p.block h)

theorem IntsFrom.setCell {lo : Nat} {w : World} {v : Value} {zs : List Int} (h : IntsFrom lo w v zs) {a : Addr} (ha : a.block < lo) (u : Value) : IntsFrom lo (w.setCell a u) v zs := by
  obtain ⟨ao, b, o, cap, hv, hao, hlo, hc⟩ := h
  exact ⟨ao, b, o, cap, hv, hao, hlo, fun i hi => by rw [cell_setOther _ _ _ _ (by show b ≠ a.block; omega)]; exact hc i hi⟩

theorem StepCells.setOther {w : World} {b o : Nat} {s : St} {nv : Value} (h : StepCells w b o s nv) {a : Addr} (hb : b ≠ a.block) (u : Value) : StepCells (w.setCell a u) b o s nv :=
  ⟨by rw [cell_setOther _ _ _ _ hb]; exact h.c0, by rw [cell_setOther _ _ _ _ hb]; exact h.c1, by rw [cell_setOther _ _ _ _ hb]; exact h.c2, by rw [cell_setOther _ _ _ _ hb]; exact h.c3, by rw [cell_setOther _ _ _ _ hb]; exact h.c4, by rw [cell_setOther _ _ _ _ hb]; exact h.c5, by rw [cell_setOther _ _ _ _ hb]; exact h.c6, by rw [cell_setOther _ _ _ _ hb]; exact h.c7⟩

/-- A slice of steps, all its memory in blocks from lo on. -/
def StepsFrom (lo : Nat) (w : World) (v : Value) (ss : List St) : Prop :=
  ∃ ao b o cap, v = .slice ao ss.length cap ∧ (0 < ss.length → ao = some ⟨b, o, none⟩) ∧ lo ≤ b ∧
    ∀ i s, ss[i]? = some s → ∃ nv, StepCells w b (o + i * 8) s nv ∧ IntsFrom lo w nv s.next

theorem StepsFrom.at {lo : Nat} {w : World} {v : Value} {ss : List St} (h : StepsFrom lo w v ss) : StepsAt w v ss := by
  obtain ⟨ao, b, o, cap, hv, ha, _, hc⟩ := h
  refine ⟨ao, b, o, cap, hv, ha, fun i s hs => ?_⟩
  obtain ⟨nv, h1, h2⟩ := hc i s hs
  exact ⟨nv, h1, h2.at⟩

theorem StepsFrom.setCell {lo : Nat} {w : World} {v : Value} {ss : List St} (h : StepsFrom lo w v ss) {a : Addr} (ha : a.block < lo) (u : Value) : StepsFrom lo (w.setCell a u) v ss := by
  obtain ⟨ao, b, o, cap, hv, hao, hlo, hc⟩ := h
  refine ⟨ao, b, o, cap, hv, hao, hlo, fun i s hs => ?_⟩
  obtain ⟨nv, h1, h2⟩ := hc i s hs
  exact ⟨nv, h1.setOther (by omega) u, h2.setCell ha u⟩

theorem StepsFrom.mono {lo lo' : Nat} {w : World} {v : Value} {ss : List St} (h : StepsFrom lo w v ss) (hl : lo' ≤ lo) : StepsFrom lo' w v ss := by
  obtain ⟨ao, b, o, cap, hv, hao, hlo, hc⟩ := h
  refine ⟨ao, b, o, cap, hv, hao, by omega, fun i s hs => ?_⟩
  obtain ⟨nv, h1, h2⟩ := hc i s hs
  exact ⟨nv, h1, h2.mono hl⟩

/-- Eight cells stored into a row. -/
theorem rowIs_set8 {w : World} {b : Nat} {t : TypeId} {n : Nat} {f : Nat → Value} (h : w.rowIs b t n f) (i : Nat) (v0 v1 v2 v3 v4 v5 v6 v7 : Value) :
    ∃ g : Nat → Value, ((((((((w.setCell ⟨b, i, none⟩ v0).setCell ⟨b, i + 1, none⟩ v1).setCell ⟨b, i + 2, none⟩ v2).setCell ⟨b, i + 3, none⟩ v3).setCell ⟨b, i + 4, none⟩ v4).setCell ⟨b, i + 5, none⟩ v5).setCell ⟨b, i + 6, none⟩ v6).setCell ⟨b, i + 7, none⟩ v7).rowIs b t n g ∧
      g i = v0 ∧ g (i + 1) = v1 ∧ g (i + 2) = v2 ∧ g (i + 3) = v3 ∧ g (i + 4) = v4 ∧ g (i + 5) = v5 ∧ g (i + 6) = v6 ∧ g (i + 7) = v7 ∧ ∀ j, j < i ∨ i + 8 ≤ j → g j = f j := by
  refine ⟨_, (((((((h.set i v0).set (i + 1) v1).set (i + 2) v2).set (i + 3) v3).set (i + 4) v4).set (i + 5) v5).set (i + 6) v6).set (i + 7) v7, ?_⟩
  refine ⟨by simp, by simp, by simp, by simp, by simp, by simp, by simp, by simp, fun j hj => ?_⟩
  simp only [show ¬ j = i by omega, show ¬ j = i + 1 by omega, show ¬ j = i + 2 by omega, show ¬ j = i + 3 by omega, show ¬ j = i + 4 by omega, show ¬ j = i + 5 by omega, show ¬ j = i + 6 by omega, show ¬ j = i + 7 by omega, if_false]

/-- A step's eight values in a row, from an offset on. -/
def StepF (f : Nat → Value) (o : Nat) (s : St) (nv : Value) : Prop :=
  f o = .int .i64 s.kind ∧ f (o + 1) = .int .i64 s.dst ∧ f (o + 2) = .int .i64 s.op ∧ f (o + 3) = .int .i64 s.av ∧ f (o + 4) = .int .i64 s.an ∧ f (o + 5) = .int .i64 s.bv ∧ f (o + 6) = .int .i64 s.bn ∧ f (o + 7) = nv

theorem StepF.cells {w : World} {b : Nat} {t : TypeId} {n : Nat} {f : Nat → Value} (h : w.rowIs b t n f) {o : Nat} {s : St} {nv : Value} (hs : StepF f o s nv) (ho : o + 8 ≤ n) : StepCells w b o s nv := by
  obtain ⟨h0, h1, h2, h3, h4, h5, h6, h7⟩ := hs
  exact ⟨by rw [h.cell (by omega), h0], by rw [h.cell (by omega), h1], by rw [h.cell (by omega), h2], by rw [h.cell (by omega), h3], by rw [h.cell (by omega), h4], by rw [h.cell (by omega), h5], by rw [h.cell (by omega), h6], by rw [h.cell (by omega), h7]⟩

theorem StepF.congr {f g : Nat → Value} {o : Nat} {s : St} {nv : Value} (hs : StepF f o s nv) (h : ∀ j, o ≤ j → j < o + 8 → g j = f j) : StepF g o s nv := by
  obtain ⟨h0, h1, h2, h3, h4, h5, h6, h7⟩ := hs
  exact ⟨(h _ (by omega) (by omega)).trans h0, (h _ (by omega) (by omega)).trans h1, (h _ (by omega) (by omega)).trans h2, (h _ (by omega) (by omega)).trans h3, (h _ (by omega) (by omega)).trans h4, (h _ (by omega) (by omega)).trans h5, (h _ (by omega) (by omega)).trans h6, (h _ (by omega) (by omega)).trans h7⟩
end Go.Proofs.YtljlgffkhocgkaaDoor
