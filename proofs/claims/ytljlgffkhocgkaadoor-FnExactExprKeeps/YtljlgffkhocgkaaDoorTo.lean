/- What toProg gives: the same program, in new memory. -/
import Derived.Test.YtljlgffkhocgkaaDoorBase
import Derived.Test.YtljlgffkhocgkaaDoorChecked
import Derived.Deep.LoopGhost
namespace Go.Proofs.YtljlgffkhocgkaaDoor
open Go.RowKit

/-- A slice of numbers that is a whole row of its own, from block lo on. -/
def IntsOwn (lo : Nat) (w : World) (v : Value) (zs : List Int) : Prop :=
  ∃ b, v = .slice (some ⟨b, 0, none⟩) zs.length zs.length ∧ lo ≤ b ∧ w.rowIs b 3 zs.length (fun j => .int .i64 (zs.getD j 0))

theorem IntsOwn.from {lo : Nat} {w : World} {v : Value} {zs : List Int} (h : IntsOwn lo w v zs) : IntsFrom lo w v zs := by
  obtain ⟨b, hv, hlo, hr⟩ := h
  exact ⟨_, b, 0, _, hv, fun _ => rfl, hlo, fun i hi => by rw [Nat.zero_add, hr.cell hi]⟩

theorem IntsOwn.setCell {lo : Nat} {w : World} {v : Value} {zs : List Int} (h : IntsOwn lo w v zs) {a : Addr} (ha : a.block < lo) (u : Value) : IntsOwn lo (w.setCell a u) v zs := by
  obtain ⟨b, hv, hlo, hr⟩ := h
  exact ⟨b, hv, hlo, hr.setOther (by omega) u⟩

theorem IntsOwn.mono {lo lo' : Nat} {w : World} {v : Value} {zs : List Int} (h : IntsOwn lo w v zs) (hl : lo' ≤ lo) : IntsOwn lo' w v zs := by
  obtain ⟨b, hv, hlo, hr⟩ := h
  exact ⟨b, hv, by omega, hr⟩

theorem IntsOwn.keep {lo : Nat} {w w' : World} {v : Value} {zs : List Int} (h : IntsOwn lo w v zs) (hb : Below w.heap.size w w') : IntsOwn lo w' v zs := by
  obtain ⟨b, hv, hlo, hr⟩ := h
  exact ⟨b, hv, hlo, hr.of_block (hb.block _ hr.lt)⟩

/-- A program that is rows of its own, from block lo on, the lists behind its steps in others than the steps. -/
def StepsOwn (lo : Nat) (w : World) (v : Value) (ss : List St) : Prop :=
  ∃ b f, v = .slice (some ⟨b, 0, none⟩) ss.length ss.length ∧ lo ≤ b ∧ w.rowIs b 62 (ss.length * 8) f ∧ ∀ i s, ss[i]? = some s → ∃ nv, StepF f (i * 8) s nv ∧ IntsOwn (b + 1) w nv s.next

theorem StepsOwn.from {lo : Nat} {w : World} {v : Value} {ss : List St} (h : StepsOwn lo w v ss) : StepsFrom lo w v ss := by
  obtain ⟨b, f, hv, hlo, hr, hall⟩ := h
  refine ⟨_, b, 0, _, hv, fun _ => rfl, hlo, fun i s hs => ?_⟩
  obtain ⟨hlt, _⟩ := List.getElem?_eq_some_iff.1 hs
  obtain ⟨nv, hf, hi⟩ := hall i s hs
  have hsc := hf.cells hr (by omega)
  exact ⟨nv, by simpa using hsc, hi.from.mono (by omega)⟩

theorem StepsOwn.at {lo : Nat} {w : World} {v : Value} {ss : List St} (h : StepsOwn lo w v ss) : StepsAt w v ss := h.from.at

theorem StepsOwn.setCell {lo : Nat} {w : World} {v : Value} {ss : List St} (h : StepsOwn lo w v ss) {a : Addr} (ha : a.block < lo) (u : Value) : StepsOwn lo (w.setCell a u) v ss := by
  obtain ⟨b, f, hv, hlo, hr, hall⟩ := h
  refine ⟨b, f, hv, hlo, hr.setOther (by omega) u, fun i s hs => ?_⟩
  obtain ⟨nv, hf, hi⟩ := hall i s hs
  exact ⟨nv, hf, hi.setCell (by omega) u⟩

theorem StepsOwn.mono {lo lo' : Nat} {w : World} {v : Value} {ss : List St} (h : StepsOwn lo w v ss) (hl : lo' ≤ lo) : StepsOwn lo' w v ss := by
  obtain ⟨b, f, hv, hlo, hr, hall⟩ := h
  exact ⟨b, f, hv, by omega, hr, hall⟩

theorem StepsOwn.keep {lo : Nat} {w w' : World} {v : Value} {ss : List St} (h : StepsOwn lo w v ss) (hb : Below w.heap.size w w') : StepsOwn lo w' v ss := by
  obtain ⟨b, f, hv, hlo, hr, hall⟩ := h
  refine ⟨b, f, hv, hlo, hr.of_block (hb.block _ hr.lt), fun i s hs => ?_⟩
  obtain ⟨nv, hf, hi⟩ := hall i s hs
  exact ⟨nv, hf, hi.keep hb⟩

theorem infoInt : (Tryd.prog.info? 3).map (fun i => (i.zero, i.size, i.bytes)) = some (some (.int .i64 0), 1, 8) := by kernel_rfl

set_option maxHeartbeats 1000000 in
theorem toIntS_any {Q : Ending → World → Prop} (v : Value) (zs : List Int) (w : World) (h : IntsAt w v zs) (hl : zs.length ≤ 1048576)
    (hQ : ∀ v' w', IntsOwn w.heap.size w' v' zs → Below w.heap.size w w' → Q (.returned v') w') :
    Calls Tryd.prog 81 #[v] w Q := by
  have HQ : Hid _ := hQ
  clear hQ
  obtain ⟨ao, b, o, cap, rfl, ha, hc⟩ := id h
  have HA : Hid _ := ha
  have HC : Hid _ := hc
  clear ha hc h
  have hmk := run_make_row' (P := Tryd.prog) 55 3 (.int .i64 0) 8 Tryd.underlying55 infoInt rfl .i64 .i64 zs.length (by omega) (by omega)
  go_enter Tryd.func81, Tryd.ntmps81
  go_wp2
  go_loopw [4] (fun i wr => ∃ k : Nat, k ≤ zs.length ∧ i = .int .i64 k ∧ Below w.heap.size w wr ∧ w.heap.size < wr.heap.size ∧ wr.rowIs w.heap.size 3 zs.length (fun j => if j < k then .int .i64 (zs.getD j 0) else .int .i64 0)) (fun i _ => zs.length - (intOf i).toNat)
  case atStart => exact ⟨0, Nat.zero_le _, rfl, (Below.refl _ _).alloc (Nat.le_refl _) _, by simp, World.rowIs_made _ _ _ _⟩
  case round =>
    obtain ⟨k, hk, rfl, hb, hsz, hrow⟩ := hrel
    by_cases hkl : k < zs.length
    · obtain rfl := HA.out (by omega)
      have hcell := cell_keep hb (HC.out k hkl)
      have hfz := hrow.frozen k
      have hold := hrow.cell hkl
      have HB : Hid (Below w.heap.size w wr) := hb
      have HR : Hid (wr.rowIs w.heap.size 3 zs.length (fun j => if j < k then .int .i64 (zs.getD j 0) else .int .i64 0)) := hrow
      clear hb hrow
      go_wp2
      go_roundw
      case rel =>
        refine ⟨k + 1, by omega, by go_num, HB.out.setCell (Nat.le_refl _) _, by simpa [World.setCell] using hsz, (HR.out.set k _).congr fun i hi => ?_⟩
        by_cases h1 : i = k
        · subst h1; simp [hkl]
        · by_cases h2 : i < k
          · simp [h1, h2, show i < k + 1 by omega]
          · simp [h1, h2, show ¬ i < k + 1 by omega]
      case measure => simp [intOf]; omega
    · go_wp2
      obtain rfl : k = zs.length := by omega
      exact HQ.out _ _ ⟨w.heap.size, rfl, Nat.le_refl _, hrow.congr fun i hi => by rw [if_pos hi]⟩ hb

set_option maxHeartbeats 1000000 in
theorem toOpnd_any {Q : Ending → World → Prop} (a n : Int) (w : World)
    (hQ : Q (.returned (.agg #[.int .i64 a, .int .i64 n])) (((w.alloc (.cells #[.int .i64 a, .int .i64 n] 26)).alloc (.cells #[.int .i64 a, .int .i64 n] 36)).alloc (.cells #[.int .i64 a, .int .i64 n] 36))) :
    Calls Tryd.prog 30 #[.agg #[.int .i64 a, .int .i64 n]] w Q := by
  have HQ : Hid _ := hQ
  clear hQ
  go_enter Tryd.func30, Tryd.ntmps30
  go_wp2
  exact bodyPost_ret (v := .agg #[.int .i64 a, .int .i64 n]) (by simp [results, Tryd.results30, go_sem]) rfl HQ.out

set_option maxHeartbeats 1000000 in
theorem toStep_any {Q : Ending → World → Prop} (nv : Value) (s : St) (w : World) (h : IntsAt w nv s.next) (hl : s.next.length ≤ 1048576)
    (hQ : ∀ nv' w', IntsOwn w.heap.size w' nv' s.next → Below w.heap.size w w' → Q (.returned (stepV s nv')) w') :
    Calls Tryd.prog 55 #[stepV s nv] w Q := by
  have HQ : Hid _ := hQ
  clear hQ
  obtain ⟨ao, b, o, cap, rfl, ha, hc⟩ := id h
  clear ha hc
  unfold stepV at HQ ⊢
  go_enter Tryd.func55, Tryd.ntmps55
  go_wp2_with fail
  refine toOpnd_any _ _ _ ?_
  go_wp2_with fail
  refine toOpnd_any _ _ _ ?_
  go_wp2_with fail
  have hb0 : ∀ O0 O1 O2 O3 O4 O5 O6 O7 O8, Below w.heap.size w (((((((((w.alloc O0).alloc O1).alloc O2).alloc O3).alloc O4).alloc O5).alloc O6).alloc O7).alloc O8) := by
    intro O0 O1 O2 O3 O4 O5 O6 O7 O8
    repeat (first | exact Below.refl _ _ | refine Below.alloc ?_ (by simp <;> omega) _)
  refine toIntS_any _ s.next _ (h.keep (hb0 _ _ _ _ _ _ _ _ _)) hl fun v' w1 hi hb1 => ?_
  obtain ⟨b', hv', hlo', hc'⟩ := id hi
  subst hv'
  have d0 : w1.cell? ⟨w.heap.size + 1 + 1, 0, none⟩ = some (.int .i64 s.kind) := cell_keep hb1 (by simp [go_sem])
  have d1 : w1.cell? ⟨w.heap.size + 1 + 1, 1, none⟩ = some (.int .i64 s.dst) := cell_keep hb1 (by simp [go_sem])
  have d2 : w1.cell? ⟨w.heap.size + 1 + 1, 2, none⟩ = some (.int .i64 s.op) := cell_keep hb1 (by simp [go_sem])
  have d3 : w1.cell? ⟨w.heap.size + 1 + 1, 3, none⟩ = some (.int .i64 s.av) := cell_keep hb1 (by simp [go_sem])
  have d4 : w1.cell? ⟨w.heap.size + 1 + 1, 4, none⟩ = some (.int .i64 s.an) := cell_keep hb1 (by simp [go_sem])
  have d5 : w1.cell? ⟨w.heap.size + 1 + 1, 5, none⟩ = some (.int .i64 s.bv) := cell_keep hb1 (by simp [go_sem])
  have d6 : w1.cell? ⟨w.heap.size + 1 + 1, 6, none⟩ = some (.int .i64 s.bn) := cell_keep hb1 (by simp [go_sem])
  have d7 : w1.cell? ⟨w.heap.size + 1 + 1, 7, none⟩ = some (.slice none 0 0) := cell_keep hb1 (by simp [go_sem])
  have e0 : w1.cell? ⟨w.heap.size + 1, 0, none⟩ = some (.int .i64 0) := cell_keep hb1 (by simp [go_sem])
  have e1 : w1.cell? ⟨w.heap.size + 1, 1, none⟩ = some (.int .i64 0) := cell_keep hb1 (by simp [go_sem])
  have e2 : w1.cell? ⟨w.heap.size + 1, 2, none⟩ = some (.int .i64 0) := cell_keep hb1 (by simp [go_sem])
  have e3 : w1.cell? ⟨w.heap.size + 1, 3, none⟩ = some (.int .i64 0) := cell_keep hb1 (by simp [go_sem])
  have e4 : w1.cell? ⟨w.heap.size + 1, 4, none⟩ = some (.int .i64 0) := cell_keep hb1 (by simp [go_sem])
  have e5 : w1.cell? ⟨w.heap.size + 1, 5, none⟩ = some (.int .i64 0) := cell_keep hb1 (by simp [go_sem])
  have e6 : w1.cell? ⟨w.heap.size + 1, 6, none⟩ = some (.int .i64 0) := cell_keep hb1 (by simp [go_sem])
  have e7 : w1.cell? ⟨w.heap.size + 1, 7, none⟩ = some (.slice none 0 0) := cell_keep hb1 (by simp [go_sem])
  have f2 : ∀ j, w1.frozen? ⟨w.heap.size + 1 + 1, j, none⟩ = false := fun j => (hb1.frozen (by simp)).trans (by simp [go_sem])
  have f1 : ∀ j, w1.frozen? ⟨w.heap.size + 1, j, none⟩ = false := fun j => (hb1.frozen (by simp)).trans (by simp [go_sem])
  have hbw : Below w.heap.size w w1 := (hb0 _ _ _ _ _ _ _ _ _).trans (hb1.mono (by simp; omega))
  have hi' : IntsOwn (w.heap.size + 9) w1 (.slice (some ⟨b', 0, none⟩) s.next.length s.next.length) s.next := hi.mono (by simp)
  have HI : Hid _ := hi'
  clear hi hi' hb1 hb0 hlo' hc' h
  go_wp2
  refine bodyPost_ret (v := .agg #[.int .i64 s.kind, .int .i64 s.dst, .int .i64 s.op, .int .i64 s.av, .int .i64 s.an, .int .i64 s.bv, .int .i64 s.bn, .slice (some ⟨b', 0, none⟩) s.next.length s.next.length]) (by simp [results, Tryd.results55, go_sem, e0, e1, e2, e3, e4, e5, e6, e7]) rfl ?_
  refine HQ.out _ _ ?_ ?_
  · refine IntsOwn.mono (lo := w.heap.size + 9) ?_ (by omega)
    iterate 9 refine IntsOwn.setCell ?_ (by simp) _
    exact HI.out
  · iterate 9 refine Below.setCell ?_ (by simp <;> omega) _
    exact hbw

theorem infoStep : (Tryd.prog.info? 62).map (fun i => (i.zero, i.size, i.bytes)) = some (some (.agg #[.int .i64 0, .int .i64 0, .int .i64 0, .int .i64 0, .int .i64 0, .int .i64 0, .int .i64 0, .slice none 0 0]), 8, 80) := by kernel_rfl

theorem makeSteps (n : Nat) (hn : n ≤ 1048576) (w : World) :
    ∃ O f, (Instr.makeSlice 32 (.int .i64 (n : Int)) (.int .i64 (n : Int))).run Tryd.prog w = .ok (.slice (some ⟨w.heap.size, 0, none⟩) n n) (w.alloc O) ∧ (w.alloc O).rowIs w.heap.size 62 (n * 8) f := by
  obtain ⟨i, hi, hz⟩ := Option.map_eq_some_iff.1 infoStep
  simp only [Prod.mk.injEq] at hz
  obtain ⟨hz, hs, hb⟩ := hz
  have hr := run_make (P := Tryd.prog) w 32 62 i _ Tryd.underlying32 hi hz .i64 .i64 n n (by omega) (Int.le_refl _) (by rw [hb]; omega) (by omega)
  rw [Int.toNat_natCast, hs] at hr
  have hrow := World.rowIs_alloc w (madeCells (Value.cells (.agg #[.int .i64 0, .int .i64 0, .int .i64 0, .int .i64 0, .int .i64 0, .int .i64 0, .int .i64 0, .slice none 0 0])) (n * 8)) 62 (fun j => (madeCells (Value.cells (.agg #[.int .i64 0, .int .i64 0, .int .i64 0, .int .i64 0, .int .i64 0, .int .i64 0, .int .i64 0, .slice none 0 0])) (n * 8)).getD j (.int .i64 0)) (fun j hj => by simp [Array.getD, hj])
  rw [size_madeCells] at hrow
  exact ⟨_, _, hr, hrow⟩

set_option maxHeartbeats 1000000 in
theorem toStepS_any {Q : Ending → World → Prop} (v : Value) (ss : List St) (w : World) (h : StepsAt w v ss) (hl : ss.length ≤ 1048576) (hls : ∀ s ∈ ss, s.next.length ≤ 1048576)
    (hQ : ∀ v' w', StepsOwn w.heap.size w' v' ss → Below w.heap.size w w' → Q (.returned v') w') :
    Calls Tryd.prog 29 #[v] w Q := by
  have HQ : Hid _ := hQ
  clear hQ
  obtain ⟨ao, b, o, cap, rfl, ha, hc⟩ := id h
  have HA : Hid _ := ha
  have HC : Hid _ := hc
  have HL : Hid _ := hls
  clear ha hc h hls
  obtain ⟨O, f0, hmk, hrow0⟩ := makeSteps ss.length hl w
  have HR0 : Hid (World.rowIs (w.alloc O) w.heap.size 62 (ss.length * 8) f0) := hrow0
  clear hrow0
  go_enter Tryd.func29, Tryd.ntmps29
  go_wp2
  go_loopw [4] (fun i wr => ∃ (k : Nat) (f : Nat → Value), k ≤ ss.length ∧ i = .int .i64 k ∧ Below w.heap.size w wr ∧ w.heap.size < wr.heap.size ∧ wr.rowIs w.heap.size 62 (ss.length * 8) f ∧ ∀ j s, j < k → ss[j]? = some s → ∃ nv, StepF f (j * 8) s nv ∧ IntsOwn (w.heap.size + 1) wr nv s.next) (fun i _ => ss.length - (intOf i).toNat)
  case atStart => exact ⟨0, f0, Nat.zero_le _, rfl, (Below.refl _ _).alloc (Nat.le_refl _) _, by simp, HR0.out, by omega⟩
  case round =>
    obtain ⟨k, f, hk, rfl, hb, hsz, hrow, hall⟩ := hrel
    have HALL : Hid _ := hall
    clear hall
    by_cases hkl : k < ss.length
    · obtain rfl := HA.out (by omega)
      obtain ⟨nv, hcells, hints⟩ := HC.out k ss[k] (by simp [hkl])
      obtain ⟨c0, c1, c2, c3, c4, c5, c6, c7⟩ := hcells.keep hb
      have HB : Hid (Below w.heap.size w wr) := hb
      have HR : Hid (wr.rowIs w.heap.size 62 (ss.length * 8) f) := hrow
      clear hrow
      go_wp2_with fail
      have hm : ss[k] ∈ ss := List.getElem_mem hkl
      refine toStep_any nv ss[k] _ (hints.keep hb) (HL.out _ hm) fun nv' w1 hi1 hb1 => ?_
      clear hb c0 c1 c2 c3 c4 c5 c6 c7 hints hcells hm
      obtain ⟨b', hv', hlo', hc'⟩ := id hi1
      clear hlo' hc'
      subst hv'
      have hrow1 : w1.rowIs w.heap.size 62 (ss.length * 8) f := HR.out.of_block (hb1.block _ hsz)
      have hfz := hrow1.frozen
      have e0 := hrow1.cell (i := k * 8) (by omega)
      have e1 := hrow1.cell (i := k * 8 + 1) (by omega)
      have e2 := hrow1.cell (i := k * 8 + 2) (by omega)
      have e3 := hrow1.cell (i := k * 8 + 3) (by omega)
      have e4 := hrow1.cell (i := k * 8 + 4) (by omega)
      have e5 := hrow1.cell (i := k * 8 + 5) (by omega)
      have e6 := hrow1.cell (i := k * 8 + 6) (by omega)
      have e7 := hrow1.cell (i := k * 8 + 7) (by omega)
      have HR1 : Hid (w1.rowIs w.heap.size 62 (ss.length * 8) f) := hrow1
      have HI1 : Hid (IntsOwn wr.heap.size w1 (.slice (some ⟨b', 0, none⟩) ss[k].next.length ss[k].next.length) ss[k].next) := hi1
      have HB1 : Hid (Below wr.heap.size wr w1) := hb1
      clear hrow1 hi1 hb1
      unfold stepV
      go_wp2
      go_roundw
      case rel =>
        obtain ⟨g, hg, g0, g1, g2, g3, g4, g5, g6, g7, gs⟩ := rowIs_set8 HR1.out (k * 8) (.int .i64 ss[k].kind) (.int .i64 ss[k].dst) (.int .i64 ss[k].op) (.int .i64 ss[k].av) (.int .i64 ss[k].an) (.int .i64 ss[k].bv) (.int .i64 ss[k].bn) (.slice (some ⟨b', 0, none⟩) ss[k].next.length ss[k].next.length)
        have hbw : Below w.heap.size w w1 := HB.out.trans (HB1.out.mono (by omega))
        have hs1 := HB1.out.size
        refine ⟨k + 1, g, by omega, by go_num, ?_, ?_, hg, ?_⟩
        · iterate 8 refine Below.setCell ?_ (by simp) _
          exact hbw
        · simp only [World.setCell, Array.size_modify]
          omega
        · intro j s hj hs
          by_cases hjk : j = k
          · subst hjk
            rw [List.getElem?_eq_getElem hkl] at hs
            cases hs
            refine ⟨_, ⟨g0, g1, g2, g3, g4, g5, g6, g7⟩, ?_⟩
            iterate 8 refine IntsOwn.setCell ?_ (by simp) _
            exact HI1.out.mono (by omega)
          · obtain ⟨nv2, hf2, hi2⟩ := HALL.out j s (by omega) hs
            refine ⟨nv2, hf2.congr fun i h1 h2 => gs i (by omega), ?_⟩
            iterate 8 refine IntsOwn.setCell ?_ (by simp) _
            exact hi2.keep HB1.out
      case measure => simp [intOf]; omega
    · go_wp2
      obtain rfl : k = ss.length := by omega
      refine HQ.out _ _ ⟨w.heap.size, f, rfl, Nat.le_refl _, hrow, fun i s hs => ?_⟩ hb
      obtain ⟨hlt, _⟩ := List.getElem?_eq_some_iff.1 hs
      exact HALL.out i s hlt hs

set_option maxHeartbeats 1000000 in
theorem toProg_own {Q : Ending → World → Prop} (v : Value) (ss : List St) (w : World) (h : StepsAt w v ss) (hl : ss.length ≤ 1048576) (hls : ∀ s ∈ ss, s.next.length ≤ 1048576)
    (hQ : ∀ v' w', StepsOwn w.heap.size w' v' ss → Below w.heap.size w w' → Q (.returned (.agg #[v'])) w') :
    Calls Tryd.prog 8 #[.agg #[v]] w Q := by
  have HQ : Hid _ := hQ
  clear hQ
  obtain ⟨ao, b, o, cap, rfl, ha, hc⟩ := id h
  clear ha hc
  have HL : Hid _ := hls
  clear hls
  go_enter Tryd.func8, Tryd.ntmps8
  go_wp2_with fail
  have hb0 : ∀ O0 O1 O2, Below w.heap.size w (((w.alloc O0).alloc O1).alloc O2) := by
    intro O0 O1 O2
    repeat (first | exact Below.refl _ _ | refine Below.alloc ?_ (by simp <;> omega) _)
  refine toStepS_any _ ss _ (h.keep (hb0 _ _ _)) hl HL.out fun v' w1 hs1 hb1 => ?_
  obtain ⟨b', f', hv', hlo', hc'⟩ := id hs1
  clear hlo' hc'
  subst hv'
  have d2 : w1.cell? ⟨w.heap.size + 1 + 1, 0, none⟩ = some (.slice none 0 0) := cell_keep hb1 (by simp [go_sem])
  have d1 : w1.cell? ⟨w.heap.size + 1, 0, none⟩ = some (.slice none 0 0) := cell_keep hb1 (by simp [go_sem])
  have f2 : w1.frozen? ⟨w.heap.size + 1 + 1, 0, none⟩ = false := (hb1.frozen (by simp)).trans (by simp [go_sem])
  have f1 : w1.frozen? ⟨w.heap.size + 1, 0, none⟩ = false := (hb1.frozen (by simp)).trans (by simp [go_sem])
  have hbw : Below w.heap.size w w1 := (hb0 _ _ _).trans (hb1.mono (by simp; omega))
  have HS : Hid (StepsOwn (w.heap.size + 3) w1 (.slice (some ⟨b', 0, none⟩) ss.length ss.length) ss) := hs1.mono (by simp)
  clear hs1 hb1 hb0
  go_wp2
  refine bodyPost_ret (v := .agg #[.slice (some ⟨b', 0, none⟩) ss.length ss.length]) (by simp [results, Tryd.results8, go_sem, d1]) rfl ?_
  refine HQ.out _ _ ?_ ?_
  · refine StepsOwn.mono (lo := w.heap.size + 3) ?_ (by omega)
    iterate 2 refine StepsOwn.setCell ?_ (by simp) _
    exact HS.out
  · iterate 2 refine Below.setCell ?_ (by simp <;> omega) _
    exact hbw

theorem toProg_any {Q : Ending → World → Prop} (v : Value) (ss : List St) (w : World) (h : StepsAt w v ss) (hl : ss.length ≤ 1048576) (hls : ∀ s ∈ ss, s.next.length ≤ 1048576)
    (hQ : ∀ v' w', StepsFrom w.heap.size w' v' ss → Below w.heap.size w w' → Q (.returned (.agg #[v'])) w') :
    Calls Tryd.prog 8 #[.agg #[v]] w Q :=
  toProg_own v ss w h hl hls fun v' w' h1 h2 => hQ v' w' h1.from h2
end Go.Proofs.YtljlgffkhocgkaaDoor
