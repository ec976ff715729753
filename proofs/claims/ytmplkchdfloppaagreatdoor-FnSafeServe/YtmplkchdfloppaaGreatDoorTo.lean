/- What toProg gives: the same program, in new memory. -/
import Derived.Test.YtmplkchdfloppaaGreatDoorBaseG
import Derived.Test.YtmplkchdfloppaaGreatDoorChecked
import Derived.Deep.LoopGhost
namespace Go.Proofs.YtmplkchdfloppaaGreatDoor
open Go.RowKit

/-- A slice of numbers that is a whole row of its own, from block lo on. -/
def IntsOwn (lo : Nat) (w : World) (v : Value) (zs : List Int) : Prop :=
  ∃ b, v = .slice (some ⟨b, 0, none⟩) zs.length zs.length ∧ lo ≤ b ∧ w.rowIs b 3 zs.length (fun j => .int .i64 (zs.getD j 0))

theorem IntsOwn.from {lo : Nat} {w : World} {v : Value} {zs : List Int} (h : IntsOwn lo w v zs) : IntsFrom lo w v zs := by
  obtain ⟨b, hv, hlo, hr⟩ := h
  exact ⟨_, b, 0, _, hv, fun _ => rfl, hlo, fun i hi => by rw [Nat.zero_add, hr.cell hi]⟩

theorem IntsOwn.setCell {lo : Nat} {w : World} {v : Value} {zs : List Int} (h : IntsOwn lo w v zs) {a : Addr} (ha : a.block < lo) (u : Value) : IntsOwn lo (w.setCell a u) v zs := by
  obtain ⟨b, hv, hlo, hr⟩ := h
  exact ⟨b, hv, hlo, hr.setOther (by omega) u⟩

theorem IntsOwn.mono {lo lo' : Nat} {w : World} {v : Value} {zs : List Int} (h : IntsOwn lo w v zs) (hl : lo' ≤ lo) : IntsOwn lo' w v zs := by
  obtain ⟨b, hv, hlo, hr⟩ := h
  exact ⟨b, hv, by omega, hr⟩

theorem IntsOwn.keep {lo : Nat} {w w' : World} {v : Value} {zs : List Int} (h : IntsOwn lo w v zs) (hb : Below w.heap.size w w') : IntsOwn lo w' v zs := by
  obtain ⟨b, hv, hlo, hr⟩ := h
  exact ⟨b, hv, hlo, hr.of_block (hb.block _ hr.lt)⟩

/-- A program that is rows of its own, from block lo on, the lists behind its steps in others than the steps. -/
def StepsOwn (lo : Nat) (w : World) (v : Value) (ss : List St) : Prop :=
  ∃ b f, v = .slice (some ⟨b, 0, none⟩) ss.length ss.length ∧ lo ≤ b ∧ w.rowIs b 54 (ss.length * 8) f ∧ ∀ i s, ss[i]? = some s → ∃ nv, StepF f (i * 8) s nv ∧ IntsOwn (b + 1) w nv s.next

theorem StepsOwn.from {lo : Nat} {w : World} {v : Value} {ss : List St} (h : StepsOwn lo w v ss) : StepsFrom lo w v ss := by
  obtain ⟨b, f, hv, hlo, hr, hall⟩ := h
  refine ⟨_, b, 0, _, hv, fun _ => rfl, hlo, fun i s hs => ?_⟩
  obtain ⟨hlt, _⟩ := List.getElem?_eq_some_iff.1 hs
  obtain ⟨nv, hf, hi⟩ := hall i s hs
  have hsc := hf.cells hr (by omega)
  exact ⟨nv, by simpa using hsc, hi.from.mono (by omega)⟩

theorem StepsOwn.at {lo : Nat} {w : World} {v : Value} {ss : List St} (h : StepsOwn lo w v ss) : StepsAt w v ss := h.from.at

theorem StepsOwn.setCell {lo : Nat} {w : World} {v : Value} {ss : List St} (h : StepsOwn lo w v ss) {a : Addr} (ha : a.block < lo) (u : Value) : StepsOwn lo (w.setCell a u) v ss := by
  obtain ⟨b, f, hv, hlo, hr, hall⟩ := h
  refine ⟨b, f, hv, hlo, hr.setOther (by omega) u, fun i s hs => ?_⟩
  obtain ⟨nv, hf, hi⟩ := hall i s hs
  exact ⟨nv, hf, hi.setCell (by omega) u⟩

theorem StepsOwn.mono {lo lo' : Nat} {w : World} {v : Value} {ss : List St} (h : StepsOwn lo w v ss) (hl : lo' ≤ lo) : StepsOwn lo' w v ss := by
  obtain ⟨b, f, hv, hlo, hr, hall⟩ := h
  exact ⟨b, f, hv, by omega, hr, hall⟩

theorem StepsOwn.keep {lo : Nat} {w w' : World} {v : Value} {ss : List St} (h : StepsOwn lo w v ss) (hb : Below w.heap.size w w') : StepsOwn lo w' v ss := by
  obtain ⟨b, f, hv, hlo, hr, hall⟩ := h
  refine ⟨b, f, hv, hlo, hr.of_block (hb.block _ hr.lt), fun i s hs => ?_⟩
  obtain ⟨nv, hf, hi⟩ := hall i s hs
  exact ⟨nv, hf, hi.keep hb⟩

theorem infoInt : (Tryz.prog.info? 3).map (fun i => (i.zero, i.size, i.bytes)) = some (some (.int .i64 0), 1, 8) := by kernel_rfl

theorem infoStep : (Tryz.prog.info? 54).map (fun i => (i.zero, i.size, i.bytes)) = some (some (.agg #[.int .i64 0, .int .i64 0, .int .i64 0, .int .i64 0, .int .i64 0, .int .i64 0, .int .i64 0, .slice none 0 0]), 8, 80) := by kernel_rfl

theorem makeSteps (n : Nat) (hn : n ≤ 1048576) (w : World) :
    ∃ O f, (Instr.makeSlice 23 (.int .i64 (n : Int)) (.int .i64 (n : Int))).run Tryz.prog w = .ok (.slice (some ⟨w.heap.size, 0, none⟩) n n) (w.alloc O) ∧ (w.alloc O).rowIs w.heap.size 54 (n * 8) f := by
  obtain ⟨i, hi, hz⟩ := Option.map_eq_some_iff.1 infoStep
  simp only [Prod.mk.injEq] at hz
  obtain ⟨hz, hs, hb⟩ := hz
  have hr := run_make (P := Tryz.prog) w 23 54 i _ Tryz.underlying23 hi hz .i64 .i64 n n (by omega) (Int.le_refl _) (by rw [hb]; omega) (by omega)
  rw [Int.toNat_natCast, hs] at hr
  have hrow := World.rowIs_alloc w (madeCells (Value.cells (.agg #[.int .i64 0, .int .i64 0, .int .i64 0, .int .i64 0, .int .i64 0, .int .i64 0, .int .i64 0, .slice none 0 0])) (n * 8)) 54 (fun j => (madeCells (Value.cells (.agg #[.int .i64 0, .int .i64 0, .int .i64 0, .int .i64 0, .int .i64 0, .int .i64 0, .int .i64 0, .slice none 0 0])) (n * 8)).getD j (.int .i64 0)) (fun j hj => by simp [Array.getD, hj])
  rw [size_madeCells] at hrow
  exact ⟨_, _, hr, hrow⟩

end Go.Proofs.YtmplkchdfloppaaGreatDoor
