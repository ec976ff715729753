/- The program's machine: its cells, and what its methods do. The program's machine: what a step does, a step, a run. The program's machine: a step, a run, RunOf. The program's run, canRun and RunOf. The program's RunOf. -/
import Derived.Test.YtnlcdecokpdkpaaDoorRunA
import Derived.Test.YtnlcdecokpdkpaaDoorKit
import Derived.Test.YtnlcdecokpdkpaaDoorImplOk
import Derived.Test.YtnlcdecokpdkpaaDoorAnsI
import Derived.OwnWalk
import Derived.Deep.AppendLies
import Derived.Deep.RegionHeld3
import Derived.Deep.RegionLawGrows
namespace Go.Proofs.YtnlcdecokpdkpaaDoor
open Go.RowKit

/-- The machine's eighteen cells. -/
def mcell (sv iv : Value) (most i : Int) (vs : List Int) (ov pv : Value) (j : Nat) : Value :=
  if j = 0 then sv else if j = 1 then iv else if j = 2 then .int .i64 most else if j = 3 then .int .i64 i else if j < 16 then .int .i64 (vs.getD (j - 4) 0) else if j = 16 then ov else pv

theorem mcell_var (sv iv : Value) (most i : Int) (vs : List Int) (ov pv : Value) {j : Nat} (hj : j < 12) : mcell sv iv most i vs ov pv (4 + j) = .int .i64 (vs.getD j 0) := by
  unfold mcell
  rw [if_neg (by omega), if_neg (by omega), if_neg (by omega), if_neg (by omega), if_pos (by omega), show 4 + j - 4 = j by omega]

/-- A slice value whose elements are these numbers, of a capacity that is no less. -/
def IntsL (w : World) (v : Value) (zs : List Int) : Prop :=
  ∃ ao b o cap, v = .slice ao zs.length cap ∧ zs.length ≤ cap ∧ (0 < zs.length → ao = some ⟨b, o, none⟩) ∧ ∀ i, i < zs.length → w.cell? ⟨b, o + i, none⟩ = some (.int .i64 (zs.getD i 0))

theorem IntsL.at {w : World} {v : Value} {zs : List Int} (h : IntsL w v zs) : IntsAt w v zs := by
  obtain ⟨ao, b, o, cap, e, _, h1, h2⟩ := h
  exact ⟨ao, b, o, cap, e, h1, h2⟩

theorem IntsL.keep {w w' : World} {v : Value} {zs : List Int} (h : IntsL w v zs) (hb : Below w.heap.size w w') : IntsL w' v zs := by
  obtain ⟨ao, b, o, cap, e, h0, h1, h2⟩ := h
  exact ⟨ao, b, o, cap, e, h0, h1, fun i hi => cell_keep hb (h2 i hi)⟩

/-- A run as far as it has come: W0 is the world in which the machine was laid. -/
structure MS (W0 w : World) (sv iv : Value) (most i : Int) (vs inp outs path : List Int) (ov pv : Value) : Prop where
  below : Below W0.heap.size W0 w
  row : w.rowIs W0.heap.size 67 18 (mcell sv iv most i vs ov pv)
  vl : vs.length = 12
  inn : IntsL W0 iv inp
  outs : w.ownsRow (W0.heap.size + 1) 3 1 ov outs.length (outs.map (Value.int .i64))
  path : w.ownsRow (W0.heap.size + 1) 3 1 pv path.length (path.map (Value.int .i64))
  apart : ∀ k, ov.ownBlock = some k → pv.ownBlock ≠ some k

theorem MS.keep {W0 w w' : World} {sv iv : Value} {most i : Int} {vs inp outs path : List Int} {ov pv : Value} (h : MS W0 w sv iv most i vs inp outs path ov pv) (hb : Below w.heap.size w w') : MS W0 w' sv iv most i vs inp outs path ov pv :=
  ⟨h.below.trans (hb.mono h.below.size), rowIs_keep h.row hb, h.vl, h.inn, ownsRow_out h.outs (Out.of_below (lo := 0) (hi := 0) hb) (fun _ _ => Or.inr (Nat.zero_le _)), ownsRow_out h.path (Out.of_below (lo := 0) (hi := 0) hb) (fun _ _ => Or.inr (Nat.zero_le _)), h.apart⟩

set_option maxHeartbeats 1000000 in
theorem value_any {Q : Ending → World → Prop} (mb : Nat) (vs : List Int) (v n : Int) (w : World) (hc : w.cell? ⟨mb, 4 + v.toNat, none⟩ = some (.int .i64 (vs.getD v.toNat 0))) (hv : -1 ≤ v ∧ v ≤ 11)
    (hQ : ∀ w', Below w.heap.size w w' → Q (.returned (.int .i64 (valR vs v n))) w') :
    Calls Tryd.prog 102 #[.pointer (some ⟨mb, 0, none⟩), .agg #[.int .i64 v, .int .i64 n]] w Q := by
  have HQ : Hid _ := hQ
  clear hQ
  have hb0 : ∀ O, Below w.heap.size w (w.alloc O) := fun O => (Below.refl _ _).alloc (Nat.le_refl _) O
  have HB0 : Hid (∀ O, Below w.heap.size w (w.alloc O)) := hb0
  by_cases h1 : v = -1
  · subst h1
    rw [show valR vs (-1) n = n by simp [valR]] at HQ
    clear hc hb0
    go_enter Tryd.func102, Tryd.ntmps102
    go_wp2
    exact HQ.out _ (HB0.out _)
  · rw [show valR vs v n = vs.getD v.toNat 0 by simp [valR, h1]] at HQ
    obtain ⟨k, rfl⟩ : ∃ k : Nat, v = (k : Int) := ⟨v.toNat, by omega⟩
    simp only [Int.toNat_natCast] at hc HQ
    generalize vs.getD k 0 = x at *
    have hk : k < 12 := by omega
    have hki : (k : Int) < 12 := by omega
    have hv1 : ((k : Int) == -1) = false := by simp
    have hc' := cell_keep (hb0 (.cells #[.int .i64 (k : Int), .int .i64 n] 48)) hc
    clear hb0 hc
    go_enter Tryd.func102, Tryd.ntmps102
    go_wp2_with fail
    go_quiet (fail)
    go_wp2
    exact HQ.out _ (below_drewN (HB0.out _) _)
/-- All blocks but mb, and but the row of ov, are as they were. -/
structure Fr (mb : Nat) (ov : Value) (w w' : World) : Prop where
  size : w.heap.size ≤ w'.heap.size
  block : ∀ k, k < w.heap.size → k ≠ mb → ov.ownBlock ≠ some k → w'.heap[k]? = w.heap[k]?

theorem Fr.refl (mb : Nat) (ov : Value) (w : World) : Fr mb ov w w := ⟨Nat.le_refl _, fun _ _ _ _ => rfl⟩
theorem Fr.below {mb : Nat} {ov : Value} {w w' w'' : World} (h : Fr mb ov w w') (hb : Below w'.heap.size w' w'') : Fr mb ov w w'' :=
  ⟨Nat.le_trans h.size hb.size, fun k hk h1 h2 => (hb.block k (Nat.lt_of_lt_of_le hk h.size)).trans (h.block k hk h1 h2)⟩
theorem Fr.setCell {mb : Nat} {ov : Value} {w w' : World} (h : Fr mb ov w w') (o : Nat) (u : Value) : Fr mb ov w (w'.setCell ⟨mb, o, none⟩ u) :=
  ⟨by simpa [World.setCell] using h.size, fun k hk h1 h2 => (Below.heap_setCell w' ⟨mb, o, none⟩ u k h1).trans (h.block k hk h1 h2)⟩
theorem Fr.grown {mb : Nat} {ov : Value} {w w' w'' : World} (h : Fr mb ov w w') (hg : w'.grownBy w'' ov.ownBlock) : Fr mb ov w w'' :=
  ⟨Nat.le_trans h.size hg.size, fun k hk h1 h2 => (hg.block k (Nat.lt_of_lt_of_le hk h.size) (fun e => h2 e.symm)).trans (h.block k hk h1 h2)⟩

theorem infoIntR : (Tryd.prog.info? 3).map (fun i => (i.zero, i.size, i.bytes)) = some (some (.int .i64 0), 1, 8) := by kernel_rfl

theorem MS.var {W0 w : World} {sv iv : Value} {most i : Int} {vs inp outs path : List Int} {ov pv : Value} (h : MS W0 w sv iv most i vs inp outs path ov pv) {j : Nat} (hj : j < 12) (x : Int) :
    MS W0 (w.setCell ⟨W0.heap.size, 4 + j, none⟩ (.int .i64 x)) sv iv most i (vs.set j x) inp outs path ov pv := by
  refine ⟨h.below.setCell (Nat.le_refl _) _, (h.row.set (4 + j) _).congr fun k hk => ?_, by simp [h.vl], h.inn, ownsRow_setCell_below h.outs (Nat.lt_succ_self _) _, ownsRow_setCell_below h.path (Nat.lt_succ_self _) _, h.apart⟩
  by_cases e : k = 4 + j
  · subst e
    rw [if_pos rfl, mcell_var _ _ _ _ _ _ _ hj]
    simp [List.getD, h.vl, hj]
  · rw [if_neg e]
    unfold mcell
    by_cases h4 : 4 ≤ k ∧ k < 16
    · have e2 : (vs.set j x).getD (k - 4) 0 = vs.getD (k - 4) 0 := by
        simp only [List.getD, List.getElem?_set]
        rw [if_neg (by omega)]
      rw [e2]
    · rcases (by omega : k < 4 ∨ 16 ≤ k) with h5 | h5
      · rcases (by omega : k = 0 ∨ k = 1 ∨ k = 2 ∨ k = 3) with rfl | rfl | rfl | rfl <;> simp
      · rcases (by omega : k = 16 ∨ k = 17) with rfl | rfl <;> simp

theorem MS.setIn {W0 w : World} {sv iv iv' : Value} {most i : Int} {vs inp inp' outs path : List Int} {ov pv : Value} (h : MS W0 w sv iv most i vs inp outs path ov pv) (hi : IntsL W0 iv' inp') :
    MS W0 (w.setCell ⟨W0.heap.size, 1, none⟩ iv') sv iv' most i vs inp' outs path ov pv := by
  refine ⟨h.below.setCell (Nat.le_refl _) _, (h.row.set 1 _).congr fun k hk => ?_, h.vl, hi, ownsRow_setCell_below h.outs (Nat.lt_succ_self _) _, ownsRow_setCell_below h.path (Nat.lt_succ_self _) _, h.apart⟩
  by_cases e : k = 1
  · subst e; simp [mcell]
  · simp [mcell, e]

theorem MS.setAt {W0 w : World} {sv iv : Value} {most i : Int} {vs inp outs path : List Int} {ov pv : Value} (h : MS W0 w sv iv most i vs inp outs path ov pv) (x : Int) :
    MS W0 (w.setCell ⟨W0.heap.size, 3, none⟩ (.int .i64 x)) sv iv most x vs inp outs path ov pv := by
  refine ⟨h.below.setCell (Nat.le_refl _) _, (h.row.set 3 _).congr fun k hk => ?_, h.vl, h.inn, ownsRow_setCell_below h.outs (Nat.lt_succ_self _) _, ownsRow_setCell_below h.path (Nat.lt_succ_self _) _, h.apart⟩
  by_cases e : k = 3
  · subst e; simp [mcell]
  · simp [mcell, e]

theorem ints_tail {w : World} {zs : List Int} {b o cap : Nat} (hl : 0 < zs.length) (hcap : zs.length ≤ cap) (hc : ∀ i, i < zs.length → w.cell? ⟨b, o + i, none⟩ = some (.int .i64 (zs.getD i 0))) : IntsL w (.slice (if cap = 1 then some ⟨b, o, none⟩ else some ⟨b, o + 1, none⟩) (zs.length - 1) (cap - 1)) zs.tail := by
  refine ⟨_, b, o + 1, cap - 1, by rw [List.length_tail], by simp; omega, fun h => ?_, fun i hi => ?_⟩
  · simp at h
    rw [if_neg (by omega)]
  · simp at hi
    have := hc (i + 1) (by omega)
    rw [show o + 1 + i = o + (i + 1) by omega, this]
    cases zs with
    | nil => simp at hl
    | cons a l => simp

set_option maxHeartbeats 2000000 in
theorem take_any {Q : Ending → World → Prop} (W0 w : World) (sv iv : Value) (most i : Int) (vs inp outs path : List Int) (ov pv : Value) (a0 a1 a2 : Addr) (d : Int) (hd : 0 ≤ d ∧ d ≤ 11) (hil : inp.length ≤ 1048576) (h : MS W0 w sv iv most i vs inp outs path ov pv) (hs : Sen w a0 a1 a2)
    (hQ0 : inp.length = 0 → Q (.returned (errV a2)) w)
    (hQ1 : ∀ iv' w', 0 < inp.length → MS W0 w' sv iv' most i (vs.set d.toNat (inp.headD 0)) inp.tail outs path ov pv → Fr W0.heap.size ov w w' → Q (.returned .nilIface) w') :
    Calls Tryd.prog 103 #[.pointer (some ⟨W0.heap.size, 0, none⟩), .int .i64 d] w Q := by
  have HQ0 : Hid _ := hQ0
  have HQ1 : Hid _ := hQ1
  have HM : Hid _ := h
  have g2 := hs.c2
  obtain ⟨ao, b, o, cap, rfl, hcap, ha, hc⟩ := h.inn
  have HA : Hid (0 < inp.length → ao = some ⟨b, o, none⟩) := ha
  have HC : Hid (∀ i, i < inp.length → W0.cell? ⟨b, o + i, none⟩ = some (.int .i64 (inp.getD i 0))) := hc
  have c1 := h.row.cell (i := 1) (by decide)
  simp only [mcell, show ¬ ((1 : Nat) = 0) by decide, if_false, if_true] at c1
  clear hQ0 hQ1 ha hc hs
  by_cases he : inp.length = 0
  · have hn : inp = [] := List.length_eq_zero_iff.1 he
    subst hn
    clear h HA HC
    go_enter Tryd.func103, Tryd.ntmps103
    go_wp2
    exact HQ0.out rfl
  · obtain ⟨k, rfl⟩ : ∃ k : Nat, d = (k : Int) := ⟨d.toNat, by omega⟩
    simp only [Int.toNat_natCast] at HQ1
    obtain rfl := HA.out (by omega)
    have hk : k < 12 := by omega
    have hki : (k : Int) < 12 := by omega
    have hne : ((inp.length : Int) == 0) = false := by simp; exact fun e => he (by simp [e])
    have cx := cell_keep h.below (HC.out 0 (by omega))
    simp only [Nat.add_zero] at cx
    have cv := h.row.cell (i := 4 + k) (by omega)
    have fv := h.row.frozen (4 + k)
    have f1 := h.row.frozen 1
    have hlt := h.row.lt
    rw [mcell_var _ _ _ _ _ _ _ hk] at cv
    have hhd : inp.getD 0 0 = inp.headD 0 := by cases inp <;> rfl
    rw [hhd] at cx
    have hi0 : 0 < inp.length := by omega
    have hi1 : (1 : Int) ≤ (inp.length : Int) := by omega
    have HT : Hid (IntsL W0 (.slice (if cap = 1 then some ⟨b, o, none⟩ else some ⟨b, o + 1, none⟩) (inp.length - 1) (cap - 1)) inp.tail) := ints_tail hi0 hcap HC.out
    have HV : Hid (_ ∧ _) := And.intro (((HM.out.var hk (inp.headD 0)).setIn HT.out).keep ((Below.refl _ _).drew)) ((((Fr.refl W0.heap.size ov w).setCell (4 + k) (.int .i64 (inp.headD 0))).setCell 1 (.slice (if cap = 1 then some ⟨b, o, none⟩ else some ⟨b, o + 1, none⟩) (inp.length - 1) (cap - 1))).below ((Below.refl _ _).drew))
    generalize inp.headD 0 = y at *
    generalize vs.getD k 0 = z at *
    clear h HA HC he hhd
    by_cases hc1 : cap = 1
    · subst hc1
      have hl1 : inp.length = 1 := by omega
      simp only [if_true, hl1, Nat.sub_self] at HV
      go_enter Tryd.func103, Tryd.ntmps103
      go_wp2_with fail
      go_region_law (fail)
      all_goals
        go_wp2
        exact HQ1.out _ _ hi0 HV.out.1 HV.out.2
    · rw [if_neg hc1] at HV
      go_enter Tryd.func103, Tryd.ntmps103
      go_wp2_with fail
      go_region_law (fail)
      all_goals
        go_wp2
        exact HQ1.out _ _ hi0 HV.out.1 HV.out.2
/-- What value reads: the cell of a variable; of a number any cell. -/
theorem MS.val {W0 w : World} {sv iv : Value} {most i : Int} {vs inp outs path : List Int} {ov pv : Value} (h : MS W0 w sv iv most i vs inp outs path ov pv) {v : Int} (hv : v ≤ 11) : w.cell? ⟨W0.heap.size, 4 + v.toNat, none⟩ = some (.int .i64 (vs.getD v.toNat 0)) := by
  rw [h.row.cell (i := 4 + v.toNat) (by omega), mcell_var _ _ _ _ _ _ _ (by omega)]

set_option maxHeartbeats 2000000 in
theorem behind_any {Q : Ending → World → Prop} (W0 w : World) (sv iv : Value) (most i : Int) (vs inp outs path : List Int) (ov pv : Value) (s : St) (nv : Value) (h : MS W0 w sv iv most i vs inp outs path ov pv)
    (hi : IntsAt w nv s.next) (h0 : 0 < s.next.length) (h5 : s.kind = 5 → 1 < s.next.length) (hop : s.kind = 5 → -1 ≤ s.av ∧ s.av ≤ 11) (hnx : ∀ k, k < s.next.length → 0 ≤ s.next.getD k 0)
    (hQ : ∀ w', Below w.heap.size w w' → Q (.returned (.int .i64 (nextR s vs : Int))) w') :
    Calls Tryd.prog 92 #[.pointer (some ⟨W0.heap.size, 0, none⟩), stepV s nv] w Q := by
  have HQ : Hid _ := hQ
  obtain ⟨ao, b, o, cap, rfl, ha, hc⟩ := hi
  obtain rfl := ha h0
  have hb0 : ∀ O, Below w.heap.size w (w.alloc O) := fun O => (Below.refl _ _).alloc (Nat.le_refl _) O
  have HB0 : Hid (∀ O, Below w.heap.size w (w.alloc O)) := hb0
  have HC : Hid _ := hc
  have HM : Hid _ := h
  clear hQ ha hc h
  unfold stepV
  have x0 := hnx 0 h0
  have y0 := HC.out 0 h0
  simp only [Nat.add_zero] at y0
  have HNX : Hid _ := hnx
  clear hnx
  by_cases hk : s.kind = 5
  · obtain ⟨hv1, hv2⟩ := hop hk
    have h1 := h5 hk
    have x1 := HNX.out 1 h1
    have y1 := HC.out 1 h1
    have l1 : (1 : Int) < (s.next.length : Int) := by omega
    have l0 : (0 : Int) < (s.next.length : Int) := by omega
    have HVAL : Hid _ := HM.out.val hv2
    have HN : Hid (nextR s vs = if valR vs s.av s.an = 0 then (s.next.getD 1 0).toNat else (s.next.getD 0 0).toNat) := by
      unfold nextR; simp [hk, Hid]
    clear h5 hop
    generalize s.next.getD 0 0 = z0 at *
    generalize s.next.getD 1 0 = z1 at *
    rw [hk]
    clear hk
    go_enter Tryd.func92, Tryd.ntmps92
    go_wp2_with fail
    refine value_any _ vs s.av s.an _ (cell_keep (hb0 _) HVAL.out) ⟨hv1, hv2⟩ fun w1 hb1 => ?_
    have HB1 : Hid (Below w.heap.size w w1) := (HB0.out _).trans (hb1.mono (by simp))
    have q7 : w1.cell? ⟨w.heap.size, 7, none⟩ = some (.slice (some ⟨b, o, none⟩) s.next.length cap) := cell_keep hb1 (by simp [go_sem])
    have k0 := cell_keep HB1.out y0
    have k1 := cell_keep HB1.out y1
    clear hb1 hb0 y0 y1
    by_cases hz : valR vs s.av s.an = 0
    · have e : nextR s vs = z1.toNat := by rw [HN.out, if_pos hz]
      rw [hz]
      rw [e, show ((z1.toNat : Nat) : Int) = z1 by omega] at HQ
      clear hz e
      go_wp2
      exact HQ.out _ HB1.out
    · have e : nextR s vs = z0.toNat := by rw [HN.out, if_neg hz]
      rw [e, show ((z0.toNat : Nat) : Int) = z0 by omega] at HQ
      generalize valR vs s.av s.an = y at *
      have hzb : (y == 0) = false := by simpa using hz
      clear hz e
      go_wp2
      exact HQ.out _ HB1.out
  · have l0 : (0 : Int) < (s.next.length : Int) := by omega
    have hkb : (s.kind == 5) = false := by simpa using hk
    have e : nextR s vs = (s.next.getD 0 0).toNat := by unfold nextR; simp [hk]
    have k0 := cell_keep (hb0 (.cells #[.int .i64 s.kind, .int .i64 s.dst, .int .i64 s.op, .int .i64 s.av, .int .i64 s.an, .int .i64 s.bv, .int .i64 s.bn, .slice (some ⟨b, o, none⟩) s.next.length cap] 50)) y0
    generalize s.next.getD 0 0 = z0 at *
    rw [e, show ((z0.toNat : Nat) : Int) = z0 by omega] at HQ
    clear hk e h5 hop hb0 y0
    go_enter Tryd.func92, Tryd.ntmps92
    go_wp2
    exact HQ.out _ (HB0.out _)

end Go.Proofs.YtnlcdecokpdkpaaDoor
namespace Go.Proofs.YtnlcdecokpdkpaaDoor
open Go.RowKit

/-- One number more of what was let out. -/
theorem MS.addOut {W0 w w' : World} {sv iv : Value} {most i : Int} {vs inp outs path : List Int} {ov pv : Value} {g cap : Nat} {x : Int} (h : MS W0 w sv iv most i vs inp outs path ov pv)
    (hg : w.grownBy w' ov.ownBlock) (hown : w'.ownsRow (W0.heap.size + 1) 3 1 (.slice (some ⟨g, 0, none⟩) (outs.length + 1) cap) (outs.length + 1) (outs.map (Value.int .i64) ++ [.int .i64 x])) (hat : ov.ownBlock = some g ∨ w.heap.size ≤ g) :
    MS W0 (w'.setCell ⟨W0.heap.size, 16, none⟩ (.slice (some ⟨g, 0, none⟩) (outs.length + 1) cap)) sv iv most i vs inp (outs ++ [x]) path (.slice (some ⟨g, 0, none⟩) (outs.length + 1) cap) pv := by
  have hlo : ∀ k, ov.ownBlock = some k → W0.heap.size + 1 ≤ k := fun k hk => (h.outs.lt k hk).1
  have hrow : w'.rowIs W0.heap.size 67 18 (mcell sv iv most i vs ov pv) := h.row.of_block (hg.block _ h.row.lt fun e => by have := hlo _ e.symm; omega)
  have hbel : Below W0.heap.size W0 w' := h.below.trans ⟨hg.os, hg.tape, hg.output, hg.size, fun k hk => hg.block k (Nat.lt_of_lt_of_le hk h.below.size) fun e => by have := hlo _ e.symm; omega⟩
  have hne : ∀ k, pv.ownBlock = some k → k ≠ g := fun k hk e => by
    rcases hat with a | a
    · exact h.apart g a (by rw [← e]; exact hk)
    · have := (h.path.lt k hk).2
      omega
  have hpath : w'.ownsRow (W0.heap.size + 1) 3 1 pv path.length (path.map (Value.int .i64)) := by
    refine h.path.kept hg ?_
    cases hb : pv.ownBlock with
    | none => exact Or.inl rfl
    | some q => exact Or.inr fun e2 => h.apart q e2.symm hb
  refine ⟨hbel.setCell (Nat.le_refl _) _, (hrow.set 16 _).congr fun k hk => ?_, h.vl, h.inn, ?_, ownsRow_setCell_below hpath (Nat.lt_succ_self _) _, fun k hk => ?_⟩
  · by_cases e : k = 16
    · subst e; simp [mcell]
    · simp [mcell, e]
  · simp only [List.length_append, List.length_singleton, List.map_append, List.map_cons, List.map_nil]
    exact ownsRow_setCell_below hown (Nat.lt_succ_self _) _
  · simp [Value.ownBlock] at hk
    subst hk
    intro e
    exact hne _ e rfl

theorem MS.addPath {W0 w w' : World} {sv iv : Value} {most i : Int} {vs inp outs path : List Int} {ov pv : Value} {g cap : Nat} {x : Int} (h : MS W0 w sv iv most i vs inp outs path ov pv)
    (hg : w.grownBy w' pv.ownBlock) (hown : w'.ownsRow (W0.heap.size + 1) 3 1 (.slice (some ⟨g, 0, none⟩) (path.length + 1) cap) (path.length + 1) (path.map (Value.int .i64) ++ [.int .i64 x])) (hat : pv.ownBlock = some g ∨ w.heap.size ≤ g) :
    MS W0 (w'.setCell ⟨W0.heap.size, 17, none⟩ (.slice (some ⟨g, 0, none⟩) (path.length + 1) cap)) sv iv most i vs inp outs (path ++ [x]) ov (.slice (some ⟨g, 0, none⟩) (path.length + 1) cap) := by
  have hlo : ∀ k, pv.ownBlock = some k → W0.heap.size + 1 ≤ k := fun k hk => (h.path.lt k hk).1
  have hrow : w'.rowIs W0.heap.size 67 18 (mcell sv iv most i vs ov pv) := h.row.of_block (hg.block _ h.row.lt fun e => by have := hlo _ e.symm; omega)
  have hbel : Below W0.heap.size W0 w' := h.below.trans ⟨hg.os, hg.tape, hg.output, hg.size, fun k hk => hg.block k (Nat.lt_of_lt_of_le hk h.below.size) fun e => by have := hlo _ e.symm; omega⟩
  have hne : ∀ k, ov.ownBlock = some k → k ≠ g := fun k hk e => by
    rcases hat with a | a
    · exact h.apart k hk (by rw [e]; exact a)
    · have := (h.outs.lt k hk).2
      omega
  have houts : w'.ownsRow (W0.heap.size + 1) 3 1 ov outs.length (outs.map (Value.int .i64)) := by
    refine h.outs.kept hg ?_
    cases hb : ov.ownBlock with
    | none => exact Or.inl rfl
    | some q => exact Or.inr fun e2 => h.apart q hb e2.symm
  refine ⟨hbel.setCell (Nat.le_refl _) _, (hrow.set 17 _).congr fun k hk => ?_, h.vl, h.inn, ownsRow_setCell_below houts (Nat.lt_succ_self _) _, ?_, fun k hk => ?_⟩
  · by_cases e : k = 17
    · subst e; simp [mcell]
    · unfold mcell
      split
      · next e2 => exact absurd e2 e
      · rcases (by omega : k < 16 ∨ k = 16) with h6 | h6
        · simp [h6]
        · subst h6; simp
  · simp only [List.length_append, List.length_singleton, List.map_append, List.map_cons, List.map_nil]
    exact ownsRow_setCell_below hown (Nat.lt_succ_self _) _
  · intro e
    simp [Value.ownBlock] at e
    exact hne k hk e.symm

/-- The parts of a step that is ok which the machine asks for. -/
theorem step_parts1 {s : St} {n : Int} (h : stepB s n = true) : (s.kind = 1 → 0 ≤ s.dst ∧ s.dst ≤ 11 ∧ -1 ≤ s.av ∧ s.av ≤ 11 ∧ -1 ≤ s.bv ∧ s.bv ≤ 11) ∧ (s.kind = 2 → 0 ≤ s.dst ∧ s.dst ≤ 11 ∧ -1 ≤ s.av ∧ s.av ≤ 11) ∧ (s.kind = 3 → 0 ≤ s.dst ∧ s.dst ≤ 11) ∧ (s.kind = 4 ∨ s.kind = 5 → -1 ≤ s.av ∧ s.av ≤ 11) := by
  have hr : restB s = true := by simp only [stepB, Bool.and_eq_true] at h; exact h.2
  have ho : ∀ v n : Int, opndB v n = true → -1 ≤ v ∧ v ≤ 11 := fun v n hv => by
    unfold opndB at hv
    split at hv
    · omega
    · simp only [Bool.and_eq_true, inB, decide_eq_true_eq] at hv
      omega
  unfold restB at hr
  refine ⟨fun hk => ?_, fun hk => ?_, fun hk => ?_, fun hk => ?_⟩
  · rw [if_pos hk] at hr
    simp only [Bool.and_eq_true, inB, decide_eq_true_eq] at hr
    obtain ⟨⟨h1, h2⟩, ⟨_, h3⟩, h4⟩ := hr
    have := ho _ _ h3
    have := ho _ _ h4
    omega
  · rw [if_neg (by omega), if_pos hk] at hr
    simp only [Bool.and_eq_true, inB, decide_eq_true_eq] at hr
    obtain ⟨⟨h1, h2⟩, ⟨_, h3⟩, _⟩ := hr
    have := ho _ _ h3
    omega
  · rw [if_neg (by omega), if_neg (by omega), if_pos hk] at hr
    simp only [Bool.and_eq_true, inB, decide_eq_true_eq] at hr
    obtain ⟨⟨h1, h2⟩, _⟩ := hr
    omega
  · rw [if_neg (by omega), if_neg (by omega), if_neg (by omega), if_pos hk] at hr
    simp only [Bool.and_eq_true] at hr
    exact ho _ _ hr.2.1.2

set_option maxRecDepth 100000 in
set_option maxHeartbeats 4000000 in
theorem doSet_any {Q : Ending → World → Prop} (W0 w : World) (sv iv : Value) (most i : Int) (vs inp outs path : List Int) (ov pv : Value) (s : St) (nv : Value) (h : MS W0 w sv iv most i vs inp outs path ov pv)
    (hk : s.kind = 1) (hd : 0 ≤ s.dst ∧ s.dst ≤ 11) (hA : -1 ≤ s.av ∧ s.av ≤ 11) (hB : -1 ≤ s.bv ∧ s.bv ≤ 11)
    (hQ : ∀ w', MS W0 w' sv iv most i (vs.set s.dst.toNat (opR s.op (valR vs s.av s.an) (valR vs s.bv s.bn))) inp outs path ov pv → Fr W0.heap.size ov w w' → Q (.returned .nilIface) w') :
    Calls Tryd.prog 91 #[.pointer (some ⟨W0.heap.size, 0, none⟩), stepV s nv] w Q := by
  have HQ : Hid _ := hQ
  have HM : Hid _ := h
  unfold stepV
  rw [hk]
  obtain ⟨k, hkd⟩ : ∃ k : Nat, s.dst = (k : Int) := ⟨s.dst.toNat, by omega⟩
  rw [hkd] at HQ hd ⊢
  simp only [Int.toNat_natCast] at HQ
  have hk12 : k < 12 := by omega
  have hki : (k : Int) < 12 := by omega
  have hlt := h.row.lt
  have hb0 : ∀ O, Below w.heap.size w (w.alloc O) := fun O => (Below.refl _ _).alloc (Nat.le_refl _) O
  have HB0 : Hid (∀ O, Below w.heap.size w (w.alloc O)) := hb0
  have hnb : w.heap.size ≠ W0.heap.size := by omega
  have hnb2 : W0.heap.size ≠ w.heap.size := by omega
  clear hQ h hb0
  go_enter Tryd.func91, Tryd.ntmps91
  go_wp2_with fail
  go_region_held3 (fun wx => wx.cell? ⟨w.heap.size, 1, none⟩ = some (.int .i64 (k : Int)) ∧ wx.cell? ⟨w.heap.size, 2, none⟩ = some (.int .i64 s.op) ∧ wx.cell? ⟨w.heap.size, 3, none⟩ = some (.int .i64 s.av) ∧ wx.cell? ⟨w.heap.size, 4, none⟩ = some (.int .i64 s.an) ∧ wx.cell? ⟨w.heap.size, 5, none⟩ = some (.int .i64 s.bv) ∧ wx.cell? ⟨w.heap.size, 6, none⟩ = some (.int .i64 s.bn)) (go_keep) (first | (go_at_call_of 102 (Value.agg #[.int .i64 s.av, .int .i64 s.an]); refine value_any _ vs s.av s.an _ ((HM.out.keep (((HB0.out _).drew))).val hA.2) hA ?_; intro w1 hb1; have hbw1 : Below w.heap.size w w1 := (((HB0.out _).drew)).trans (hb1.mono (by simp)); obtain ⟨hc1, hf1⟩ := bcell hb1; have hz1 : w.heap.size < w1.heap.size := Nat.lt_of_lt_of_le (by simp) hb1.size) | (go_at_call_of 102 (Value.agg #[.int .i64 s.bv, .int .i64 s.bn]); refine value_any _ vs s.bv s.bn _ ((HM.out.keep hbw1).val hB.2) hB ?_; intro w2 hb2; have hbw2 : Below w.heap.size w w2 := hbw1.trans (hb2.mono hbw1.size); obtain ⟨hc2, hf2⟩ := bcell hb2) | (go_at_call 101; refine implRunOp_any _ _ _ _ ?_; have hv2 := ((HM.out.keep hbw2).row.cell (i := 4 + k) (by omega)).trans (congrArg some (mcell_var _ _ _ _ _ _ _ hk12)); have fv2 := ((HM.out.keep hbw2).row.frozen (4 + k))))
  all_goals
    go_wp2
    exact HQ.out _ ((HM.out.keep hbw2).var hk12 _) (((Fr.refl _ _ _).below hbw2).setCell _ _)
set_option maxRecDepth 100000 in
set_option maxHeartbeats 4000000 in
theorem doCopy_any {Q : Ending → World → Prop} (W0 w : World) (sv iv : Value) (most i : Int) (vs inp outs path : List Int) (ov pv : Value) (s : St) (nv : Value) (h : MS W0 w sv iv most i vs inp outs path ov pv)
    (hk : s.kind = 2) (hd : 0 ≤ s.dst ∧ s.dst ≤ 11) (hA : -1 ≤ s.av ∧ s.av ≤ 11)
    (hQ : ∀ w', MS W0 w' sv iv most i (vs.set s.dst.toNat (valR vs s.av s.an)) inp outs path ov pv → Fr W0.heap.size ov w w' → Q (.returned .nilIface) w') :
    Calls Tryd.prog 91 #[.pointer (some ⟨W0.heap.size, 0, none⟩), stepV s nv] w Q := by
  have HQ : Hid _ := hQ
  have HM : Hid _ := h
  unfold stepV
  rw [hk]
  obtain ⟨k, hkd⟩ : ∃ k : Nat, s.dst = (k : Int) := ⟨s.dst.toNat, by omega⟩
  rw [hkd] at HQ hd ⊢
  simp only [Int.toNat_natCast] at HQ
  have hk12 : k < 12 := by omega
  have hki : (k : Int) < 12 := by omega
  have hlt := h.row.lt
  have hb0 : ∀ O, Below w.heap.size w (w.alloc O) := fun O => (Below.refl _ _).alloc (Nat.le_refl _) O
  have HB0 : Hid (∀ O, Below w.heap.size w (w.alloc O)) := hb0
  have hnb : w.heap.size ≠ W0.heap.size := by omega
  have hnb2 : W0.heap.size ≠ w.heap.size := by omega
  clear hQ h hb0
  go_enter Tryd.func91, Tryd.ntmps91
  go_wp2_with fail
  go_region_law (go_simp; go_wp2_with (go_at_call 102; refine value_any _ vs s.av s.an _ ((HM.out.keep (((HB0.out _).drew))).val hA.2) hA ?_; intro w1 hb1; have hbw1 : Below w.heap.size w w1 := (((HB0.out _).drew)).trans (hb1.mono (by simp)); have b1 : w1.cell? ⟨w.heap.size, 1, none⟩ = some (.int .i64 (k : Int)) := cell_keep hb1 (by simp [go_sem]); have hv2 := ((HM.out.keep hbw1).row.cell (i := 4 + k) (by omega)).trans (congrArg some (mcell_var _ _ _ _ _ _ _ hk12)); have fv2 := ((HM.out.keep hbw1).row.frozen (4 + k))))
  all_goals
    go_wp2
    exact HQ.out _ ((HM.out.keep hbw1).var hk12 _) (((Fr.refl _ _ _).below hbw1).setCell _ _)

set_option maxRecDepth 100000 in
set_option maxHeartbeats 4000000 in
theorem doIn_any {Q : Ending → World → Prop} (W0 w : World) (sv iv : Value) (most i : Int) (vs inp outs path : List Int) (ov pv : Value) (a0 a1 a2 : Addr) (s : St) (nv : Value) (h : MS W0 w sv iv most i vs inp outs path ov pv) (hs : Sen w a0 a1 a2) (hil : inp.length ≤ 1048576)
    (hk : s.kind = 3) (hd : 0 ≤ s.dst ∧ s.dst ≤ 11)
    (hQ0 : inp.length = 0 → ∀ w', MS W0 w' sv iv most i vs inp outs path ov pv → Q (.returned (errV a2)) w')
    (hQ1 : ∀ iv' w', 0 < inp.length → MS W0 w' sv iv' most i (vs.set s.dst.toNat (inp.headD 0)) inp.tail outs path ov pv → Fr W0.heap.size ov w w' → Q (.returned .nilIface) w') :
    Calls Tryd.prog 91 #[.pointer (some ⟨W0.heap.size, 0, none⟩), stepV s nv] w Q := by
  have HQ0 : Hid _ := hQ0
  have HQ1 : Hid _ := hQ1
  have HM : Hid _ := h
  have HS : Hid _ := hs
  unfold stepV
  rw [hk]
  have hb0 : ∀ O, Below w.heap.size w (w.alloc O) := fun O => (Below.refl _ _).alloc (Nat.le_refl _) O
  have HB0 : Hid (∀ O, Below w.heap.size w (w.alloc O)) := hb0
  clear hQ0 hQ1 h hb0 hs
  go_enter Tryd.func91, Tryd.ntmps91
  go_wp2_with fail
  refine take_any W0 _ sv iv most i vs inp outs path ov pv a0 a1 a2 s.dst hd hil (HM.out.keep (HB0.out _)) (HS.out.keep (HB0.out _)) (fun he => ?_) fun iv' w' hp hM hF => ?_
  · have HM0 : Hid _ := HM.out.keep (HB0.out (.cells #[.int .i64 3, .int .i64 s.dst, .int .i64 s.op, .int .i64 s.av, .int .i64 s.an, .int .i64 s.bv, .int .i64 s.bn, nv] 50))
    have HE : Hid (inp.length = 0) := he
    clear he
    go_wp2
    exact HQ0.out HE.out _ HM0.out
  · have HM1 : Hid _ := hM
    have HF1 : Hid (Fr W0.heap.size ov w w') := ⟨Nat.le_trans (by simp) hF.size, fun k hk h1 h2 => (hF.block k (by simp; omega) h1 h2).trans ((HB0.out _).block k hk)⟩
    clear hM hF
    go_wp2
    exact HQ1.out _ _ hp HM1.out HF1.out

set_option maxRecDepth 100000 in
set_option maxHeartbeats 4000000 in
theorem doOut_any {Q : Ending → World → Prop} (W0 w : World) (sv iv : Value) (most i : Int) (vs inp outs path : List Int) (ov pv : Value) (s : St) (nv : Value) (h : MS W0 w sv iv most i vs inp outs path ov pv)
    (hk : s.kind = 4) (hol : outs.length ≤ 1048576) (hA : -1 ≤ s.av ∧ s.av ≤ 11)
    (hQ : ∀ ov' w', MS W0 w' sv iv most i vs inp (outs ++ [valR vs s.av s.an]) path ov' pv → Fr W0.heap.size ov w w' → Q (.returned .nilIface) w') :
    Calls Tryd.prog 91 #[.pointer (some ⟨W0.heap.size, 0, none⟩), stepV s nv] w Q := by
  have HQ : Hid _ := hQ
  have HM : Hid (MS W0 w sv iv most i vs inp outs path ov pv) := h
  unfold stepV
  rw [hk]
  have hlt := h.row.lt
  have hb0 : ∀ O, Below w.heap.size w (w.alloc O) := fun O => (Below.refl _ _).alloc (Nat.le_refl _) O
  have HB0 : Hid (∀ O, Below w.heap.size w (w.alloc O)) := hb0
  have hnb : w.heap.size ≠ W0.heap.size := by omega
  have hnb2 : W0.heap.size ≠ w.heap.size := by omega
  obtain ⟨A, c, hov⟩ : ∃ A c, ov = .slice A outs.length c := by
    rcases h.outs.2 with ⟨e, e2⟩ | ⟨g', c, _, e, _⟩
    · exact ⟨none, 0, by rw [e2]; exact e⟩
    · exact ⟨_, _, e⟩
  subst hov
  have HNR : Hid (some W0.heap.size ≠ (Value.slice A outs.length c).ownBlock) := fun e => by have h9 := (h.outs.lt _ e.symm).1; omega
  obtain ⟨i0, hi, hi0, hi1, hi2⟩ := info_parts infoIntR
  have bq := h.row.cell (i := 16) (by decide)
  have bf := h.row.frozen 16
  simp only [mcell, show ¬ ((16 : Nat) = 0) by decide, show ¬ ((16 : Nat) = 1) by decide, show ¬ ((16 : Nat) = 2) by decide, show ¬ ((16 : Nat) = 3) by decide, show ¬ ((16 : Nat) < 16) by decide, if_false, if_true] at bq
  clear hQ h hb0
  go_enter Tryd.func91, Tryd.ntmps91
  go_wp2_with fail
  go_region_law (first | (refine step_append_lies _ rfl (.tmp 50) (.tmp 55) 25 rfl (W0.heap.size + 1) 3 i0 (.int .i64 0) 1 8 Tryd.underlying25 hi hi0 hi1 hi2 rfl (by decide) (.slice A outs.length c) outs.length (outs.map (Value.int .i64)) (by simp [Act.eval]) ((HM1.out.outs).alloc _) ⟨w1.heap.size, 0, none⟩ 1 1 [.int .i64 (valR vs s.av s.an)] (by simp [Act.eval]) rfl (cell_one_new w1 _ _) (int_oneCell _ _) (by decide) (by unfold maxLen; omega) (by omega) (by simp; omega) (w1.heap.size + 1) (by simp) ?_; intro g8 cap8 w8 hown8 hgrow8 hat8 hlt8; have bq8 := (hgrow8.cell_far ⟨W0.heap.size, 16, none⟩ (HS1.out _) HNR.out).trans (HA1.out _); have bf8 := (hgrow8.frozen_far ⟨W0.heap.size, 16, none⟩ (HS1.out _) HNR.out).trans (HF1.out _)) | (go_simp; go_wp2_with (go_at_call 102; refine value_any _ vs s.av s.an _ ((HM.out.keep (((HB0.out _).drew))).val hA.2) hA ?_; intro w1 hb1; have hbw1 : Below w.heap.size w w1 := (((HB0.out _).drew)).trans (hb1.mono (by simp)); have HM1 : Hid (MS W0 w1 sv iv most i vs inp outs path (.slice A outs.length c) pv) := HM.out.keep hbw1; have bq1 := cell_keep hbw1 bq; have bf1 := (hbw1.frozen (p := ⟨W0.heap.size, 16, none⟩) hlt).trans bf; have HA1 : Hid (∀ O, (w1.alloc O).cell? ⟨W0.heap.size, 16, none⟩ = some (.slice A outs.length c)) := fun O => cell_keep ((Below.refl _ _).alloc (Nat.le_refl _) O) bq1; have HF1 : Hid (∀ O, (w1.alloc O).frozen? ⟨W0.heap.size, 16, none⟩ = false) := fun O => (((Below.refl _ _).alloc (Nat.le_refl _) O).frozen (cell_lt bq1)).trans bf1; have HS1 : Hid (∀ O, W0.heap.size < (w1.alloc O).heap.size) := fun O => Nat.lt_of_lt_of_le (cell_lt bq1) (by simp); have l1 : W0.heap.size < w1.heap.size := cell_lt bq1)))
  all_goals
    have HN : Hid _ := MS.addOut (HM1.out.keep ((Below.refl _ _).alloc (Nat.le_refl _) _)) hgrow8 hown8 (by rcases hat8 with a | a; exact Or.inl a; exact Or.inr (by simp [a]))
    have HFN : Hid _ := ((((Fr.refl W0.heap.size (.slice A outs.length c) w).below hbw1).below ((Below.refl _ _).alloc (Nat.le_refl _) _)).grown hgrow8).setCell 16 (.slice (some ⟨g8, 0, none⟩) (outs.length + 1) cap8)
    clear hown8 hgrow8 hat8 bq8 bf8
    go_wp2
    exact HQ.out _ _ HN.out HFN.out

set_option maxRecDepth 100000 in
set_option maxHeartbeats 4000000 in
theorem doElse_any {Q : Ending → World → Prop} (W0 w : World) (sv iv : Value) (most i : Int) (vs inp outs path : List Int) (ov pv : Value) (s : St) (nv : Value) (h : MS W0 w sv iv most i vs inp outs path ov pv)
    (hk : s.kind = 5 ∨ s.kind = 6)
    (hQ : ∀ w', MS W0 w' sv iv most i vs inp outs path ov pv → Fr W0.heap.size ov w w' → Q (.returned .nilIface) w') :
    Calls Tryd.prog 91 #[.pointer (some ⟨W0.heap.size, 0, none⟩), stepV s nv] w Q := by
  have HQ : Hid _ := hQ
  have HM : Hid (MS W0 w sv iv most i vs inp outs path ov pv) := h
  have HB0 : Hid (∀ O, Below w.heap.size w (w.alloc O)) := fun O => (Below.refl _ _).alloc (Nat.le_refl _) O
  unfold stepV
  clear hQ h
  rcases hk with hk | hk
  all_goals
    rw [hk]
    clear hk
    go_enter Tryd.func91, Tryd.ntmps91
    go_wp2
    exact HQ.out _ (HM.out.keep (HB0.out _)) ((Fr.refl _ _ _).below (HB0.out _))

set_option maxRecDepth 100000 in
set_option maxHeartbeats 4000000 in
theorem doEnd_any {Q : Ending → World → Prop} (W0 w : World) (sv iv : Value) (most i : Int) (vs inp outs path : List Int) (ov pv : Value) (a0 a1 a2 : Addr) (s : St) (nv : Value) (h : MS W0 w sv iv most i vs inp outs path ov pv) (hs : Sen w a0 a1 a2)
    (hk : s.kind = 7)
    (hQ : ∀ w', MS W0 w' sv iv most i vs inp outs path ov pv → Q (.returned (errV a0)) w') :
    Calls Tryd.prog 91 #[.pointer (some ⟨W0.heap.size, 0, none⟩), stepV s nv] w Q := by
  have HQ : Hid _ := hQ
  have HM : Hid (MS W0 w sv iv most i vs inp outs path ov pv) := h
  have HB0 : Hid (∀ O, Below w.heap.size w (w.alloc O)) := fun O => (Below.refl _ _).alloc (Nat.le_refl _) O
  unfold stepV
  rw [hk]
  have g0 := (hs.keep (HB0.out (.cells #[.int .i64 7, .int .i64 s.dst, .int .i64 s.op, .int .i64 s.av, .int .i64 s.an, .int .i64 s.bv, .int .i64 s.bn, nv] 50))).c0
  clear hQ h hk hs
  go_enter Tryd.func91, Tryd.ntmps91
  go_wp2
  exact HQ.out _ (HM.out.keep (HB0.out _))

/-- What a step does: the machine stops, or goes on. -/
theorem do_any {Q : Ending → World → Prop} (W0 w : World) (sv iv : Value) (most i : Int) (vs inp outs path : List Int) (ov pv : Value) (a0 a1 a2 : Addr) (s : St) (nv : Value) (n : Int) (h : MS W0 w sv iv most i vs inp outs path ov pv) (hs : Sen w a0 a1 a2)
    (hst : stepB s n = true) (hil : inp.length ≤ 1048576) (hol : outs.length ≤ 1048576)
    (hQ0 : ∀ c w', c < 3 → stopR s inp = some c → MS W0 w' sv iv most i vs inp outs path ov pv → Q (.returned (errV (errAt a0 a1 a2 c))) w')
    (hQ1 : ∀ iv' ov' w', stopR s inp = none → MS W0 w' sv iv' most i (varsR s vs inp) (inR s inp) (outsR s vs outs) path ov' pv → Fr W0.heap.size ov w w' → Q (.returned .nilIface) w') :
    Calls Tryd.prog 91 #[.pointer (some ⟨W0.heap.size, 0, none⟩), stepV s nv] w Q := by
  obtain ⟨p1, p2, p3, p4⟩ := step_parts1 hst
  have hk : s.kind = 1 ∨ s.kind = 2 ∨ s.kind = 3 ∨ s.kind = 4 ∨ s.kind = 5 ∨ s.kind = 6 ∨ s.kind = 7 := by
    simp only [stepB, Bool.and_eq_true, decide_eq_true_eq] at hst
    exact many_cases (k := s.kind) (by omega)
  rcases hk with hk | hk | hk | hk | hk | hk | hk
  · obtain ⟨h1, h2, h3, h4, h5, h6⟩ := p1 hk
    refine doSet_any W0 w sv iv most i vs inp outs path ov pv s nv h hk ⟨h1, h2⟩ ⟨h3, h4⟩ ⟨h5, h6⟩ fun w' hM hF => hQ1 iv ov w' (by simp [stopR, hk]) ?_ hF
    simpa [varsR, inR, outsR, hk] using hM
  · obtain ⟨h1, h2, h3, h4⟩ := p2 hk
    refine doCopy_any W0 w sv iv most i vs inp outs path ov pv s nv h hk ⟨h1, h2⟩ ⟨h3, h4⟩ fun w' hM hF => hQ1 iv ov w' (by simp [stopR, hk]) ?_ hF
    simpa [varsR, inR, outsR, hk] using hM
  · refine doIn_any W0 w sv iv most i vs inp outs path ov pv a0 a1 a2 s nv h hs hil hk (p3 hk) (fun he w' hM => ?_) fun iv' w' hp hM hF => ?_
    · have hn : inp = [] := List.length_eq_zero_iff.1 he
      have := hQ0 2 w' (by decide) (by simp [stopR, hk, hn]) hM
      simpa [errAt] using this
    · have hn : inp ≠ [] := fun e => by simp [e] at hp
      refine hQ1 iv' ov w' (by simp [stopR, hk, hn]) ?_ hF
      simpa [varsR, inR, outsR, hk] using hM
  · refine doOut_any W0 w sv iv most i vs inp outs path ov pv s nv h hk hol (p4 (Or.inl hk)) fun ov' w' hM hF => hQ1 iv ov' w' (by simp [stopR, hk]) ?_ hF
    simpa [varsR, inR, outsR, hk] using hM
  · refine doElse_any W0 w sv iv most i vs inp outs path ov pv s nv h (Or.inl hk) fun w' hM hF => hQ1 iv ov w' (by simp [stopR, hk]) ?_ hF
    simpa [varsR, inR, outsR, hk] using hM
  · refine doElse_any W0 w sv iv most i vs inp outs path ov pv s nv h (Or.inr hk) fun w' hM hF => hQ1 iv ov w' (by simp [stopR, hk]) ?_ hF
    simpa [varsR, inR, outsR, hk] using hM
  · refine doEnd_any W0 w sv iv most i vs inp outs path ov pv a0 a1 a2 s nv h hs hk fun w' hM => ?_
    have := hQ0 0 w' (by decide) (by simp [stopR, hk]) hM
    simpa [errAt] using this

end Go.Proofs.YtnlcdecokpdkpaaDoor
namespace Go.Proofs.YtnlcdecokpdkpaaDoor
open Go.RowKit

theorem MS.c0 {W0 w : World} {sv iv : Value} {most i : Int} {vs inp outs path : List Int} {ov pv : Value} (h : MS W0 w sv iv most i vs inp outs path ov pv) : w.cell? ⟨W0.heap.size, 0, none⟩ = some sv := h.row.cell (i := 0) (by decide)
theorem MS.c2 {W0 w : World} {sv iv : Value} {most i : Int} {vs inp outs path : List Int} {ov pv : Value} (h : MS W0 w sv iv most i vs inp outs path ov pv) : w.cell? ⟨W0.heap.size, 2, none⟩ = some (.int .i64 most) := h.row.cell (i := 2) (by decide)
theorem MS.c3 {W0 w : World} {sv iv : Value} {most i : Int} {vs inp outs path : List Int} {ov pv : Value} (h : MS W0 w sv iv most i vs inp outs path ov pv) : w.cell? ⟨W0.heap.size, 3, none⟩ = some (.int .i64 i) := h.row.cell (i := 3) (by decide)
theorem MS.c16 {W0 w : World} {sv iv : Value} {most i : Int} {vs inp outs path : List Int} {ov pv : Value} (h : MS W0 w sv iv most i vs inp outs path ov pv) : w.cell? ⟨W0.heap.size, 16, none⟩ = some ov := h.row.cell (i := 16) (by decide)
theorem MS.c17 {W0 w : World} {sv iv : Value} {most i : Int} {vs inp outs path : List Int} {ov pv : Value} (h : MS W0 w sv iv most i vs inp outs path ov pv) : w.cell? ⟨W0.heap.size, 17, none⟩ = some pv := h.row.cell (i := 17) (by decide)

theorem nextR_vars (s : St) (vs inp : List Int) : nextR s (varsR s vs inp) = nextR s vs := by
  unfold nextR
  by_cases hk : s.kind = 5
  · simp [varsR, hk]
  · simp [hk]

theorem errV_iface (a : Addr) : errV a = .iface 152 (.pointer (some a)) := rfl

set_option maxRecDepth 100000 in
set_option maxHeartbeats 8000000 in
theorem mstep_any {Q : Ending → World → Prop} (W0 w : World) (ss : List St) (sv iv : Value) (most : Int) (i : Nat) (vs inp outs path : List Int) (ov pv : Value) (a0 a1 a2 : Addr) (h : MS W0 w sv iv most i vs inp outs path ov pv) (hs : Sen W0 a0 a1 a2)
    (hss : StepsAt W0 sv ss) (hok : okB ss = true) (hi : i < ss.length) (hil : inp.length ≤ 1048576) (hol : outs.length ≤ 1000000) (hpl : path.length ≤ 1000000)
    (hQL : ∀ w', (path.length : Int) = most → MS W0 w' sv iv most i vs inp outs path ov pv → Q (.returned (errV a1)) w')
    (hQ0 : ∀ c pv' w', c < 3 → (path.length : Int) ≠ most → stopR (ss.getD i st0) inp = some c → MS W0 w' sv iv most i vs inp outs (path ++ [(i : Int)]) ov pv' → Q (.returned (errV (errAt a0 a1 a2 c))) w')
    (hQ1 : ∀ iv' ov' pv' w', (path.length : Int) ≠ most → stopR (ss.getD i st0) inp = none → MS W0 w' sv iv' most (nextR (ss.getD i st0) vs : Nat) (varsR (ss.getD i st0) vs inp) (inR (ss.getD i st0) inp) (outsR (ss.getD i st0) vs outs) (path ++ [(i : Int)]) ov' pv' → Q (.returned .nilIface) w') :
    Calls Tryd.prog 74 #[.pointer (some ⟨W0.heap.size, 0, none⟩)] w Q := by
  have HQL : Hid (∀ w', (path.length : Int) = most → MS W0 w' sv iv most i vs inp outs path ov pv → Q (.returned (errV a1)) w') := hQL
  have HQ0 : Hid (∀ c pv' w', c < 3 → (path.length : Int) ≠ most → stopR (ss.getD i st0) inp = some c → MS W0 w' sv iv most i vs inp outs (path ++ [(i : Int)]) ov pv' → Q (.returned (errV (errAt a0 a1 a2 c))) w') := hQ0
  have HQ1 : Hid (∀ iv' ov' pv' w', (path.length : Int) ≠ most → stopR (ss.getD i st0) inp = none → MS W0 w' sv iv' most (nextR (ss.getD i st0) vs : Nat) (varsR (ss.getD i st0) vs inp) (inR (ss.getD i st0) inp) (outsR (ss.getD i st0) vs outs) (path ++ [(i : Int)]) ov' pv' → Q (.returned .nilIface) w') := hQ1
  have HM : Hid (MS W0 w sv iv most i vs inp outs path ov pv) := h
  have HS : Hid (Sen W0 a0 a1 a2) := hs
  have HSS : Hid (StepsAt W0 sv ss) := hss
  have hgd : ss.getD i st0 = ss[i] := by simp [List.getD, hi]
  rw [hgd] at HQ0 HQ1
  have HST : Hid (stepB ss[i] ss.length = true) := by have := ok_at hok hi; rwa [hgd] at this
  obtain ⟨A, c, hpv⟩ : ∃ A c, pv = .slice A path.length c := by
    rcases h.path.2 with ⟨e, e2⟩ | ⟨g', c, _, e, _⟩
    · exact ⟨none, 0, by rw [e2]; exact e⟩
    · exact ⟨_, _, e⟩
  subst hpv
  have c2 := h.c2
  have c17 := h.c17
  have g1 := (hs.keep h.below).c1
  clear hQL hQ0 hQ1 h hs hss hok
  by_cases hm : (path.length : Int) = most
  · subst hm
    go_enter Tryd.func74, Tryd.ntmps74
    go_wp2_with fail
    go_quiet (fail)
    go_wp2
    exact HQL.out _ trivial (HM.out.keep (below_drewN (Below.refl _ _) _))
  have hmb : ((path.length : Int) == most) = false := by simpa using hm
  have HNM : Hid ((path.length : Int) ≠ most) := hm
  go_enter Tryd.func74, Tryd.ntmps74
  go_wp2_with fail
  go_quiet (fail)
  have HM1 : Hid (MS W0 (w.drewN nq) sv iv most i vs inp outs path ov (.slice A path.length c)) := HM.out.keep (below_drewN (Below.refl _ _) _)
  clear c2 c17 g1 HM hm
  generalize w.drewN nq = w1 at HM1 ⊢
  have c3 := HM1.out.c3
  have c17 := HM1.out.c17
  have f17 := HM1.out.row.frozen 17
  have hlt := HM1.out.row.lt
  obtain ⟨i0, hi', hi0, hi1, hi2⟩ := info_parts infoIntR
  have HMD : Hid (MS W0 w1.drew sv iv most i vs inp outs path ov (.slice A path.length c)) := HM1.out.keep ((Below.refl _ _).drew)
  have HNR : Hid (some W0.heap.size ≠ (Value.slice A path.length c).ownBlock) := fun e => by have h9 := (HM1.out.path.lt _ e.symm).1; omega
  have HA1 : Hid (∀ O, (w1.drew.alloc O).cell? ⟨W0.heap.size, 17, none⟩ = some (.slice A path.length c)) := fun O => cell_keep ((Below.refl _ _).alloc (Nat.le_refl _) O) (by simpa using c17)
  have HF1 : Hid (∀ O, (w1.drew.alloc O).frozen? ⟨W0.heap.size, 17, none⟩ = false) := fun O => (((Below.refl _ _).alloc (Nat.le_refl _) O).frozen (by simpa using hlt)).trans (by simpa using f17)
  have HS1 : Hid (∀ O, W0.heap.size < (w1.drew.alloc O).heap.size) := fun O => Nat.lt_of_lt_of_le hlt (by simp)
  go_wp2_with fail
  go_region_law (refine step_append_lies _ rfl (.tmp 20) (.tmp 25) 25 rfl (W0.heap.size + 1) 3 i0 (.int .i64 0) 1 8 Tryd.underlying25 hi' hi0 hi1 hi2 rfl (by decide) (.slice A path.length c) path.length (path.map (Value.int .i64)) (by simp [Act.eval]) ((HMD.out.path).alloc _) ⟨w1.heap.size, 0, none⟩ 1 1 [.int .i64 (i : Int)] (by simp [Act.eval]) rfl (cell_one_new w1.drew _ _) (int_oneCell _ _) (by decide) (by unfold maxLen; omega) (by omega) (by simp; omega) (w1.heap.size + 1) (by simp) ?_; intro g8 cap8 w8 hown8 hgrow8 hat8 hlt8; have bq8 := (hgrow8.cell_far ⟨W0.heap.size, 17, none⟩ (HS1.out _) HNR.out).trans (HA1.out _); have bf8 := (hgrow8.frozen_far ⟨W0.heap.size, 17, none⟩ (HS1.out _) HNR.out).trans (HF1.out _))
  all_goals
    have HN : Hid (MS W0 (w8.setCell ⟨W0.heap.size, 17, none⟩ (.slice (some ⟨g8, 0, none⟩) (path.length + 1) cap8)) sv iv most i vs inp outs (path ++ [(i : Int)]) ov (.slice (some ⟨g8, 0, none⟩) (path.length + 1) cap8)) := MS.addPath (HMD.out.keep ((Below.refl _ _).alloc (Nat.le_refl _) _)) hgrow8 hown8 (by rcases hat8 with a | a; exact Or.inl a; exact Or.inr (by simp [a]))
    clear hown8 hgrow8 hat8 bq8 bf8 hlt8 HA1 HF1 HS1 HNR HMD c3 c17 f17 hlt HM1
    go_wp2_with fail
    generalize (w8.setCell ⟨W0.heap.size, 17, none⟩ (.slice (some ⟨g8, 0, none⟩) (path.length + 1) cap8)) = w9 at HN ⊢
    generalize (Value.slice (some ⟨g8, 0, none⟩) (path.length + 1) cap8) = pv9 at HN ⊢
    have c0 := HN.out.c0
    have c3 := HN.out.c3
    obtain ⟨ao, b, o, cap, rfl, ha, hc⟩ := id HSS.out
    obtain rfl := ha (by omega)
    have hssi : ss[i]? = some ss[i] := by simp [hi]
    obtain ⟨nv, cs, hnv⟩ := hc i ss[i] hssi
    obtain ⟨x0, x1, x2, x3, x4, x5, x6, x7⟩ := cs.keep HN.out.below
    have hii : (i : Int) < (ss.length : Int) := by omega
    have hbl : b < w9.heap.size := cell_lt x0
    have hwl : W0.heap.size < w9.heap.size := HN.out.row.lt
    have hbl2 : b ≠ w9.heap.size := by omega
    have hwl2 : W0.heap.size ≠ w9.heap.size := by omega
    obtain ⟨nao, nb, no, ncap, rfl, hna, hnc⟩ := id hnv
    have HNV : Hid (IntsAt W0 (.slice nao ss[i].next.length ncap) ss[i].next) := hnv
    clear ha hc hnv hna hnc cs hssi hgd
    have HB9 : Hid (∀ O, Below w9.heap.size w9 (w9.alloc O).drew) := fun O => ((Below.refl _ _).alloc (Nat.le_refl _) O).drew
    go_region_held3 (fun wx => wx.cell? ⟨W0.heap.size, 0, none⟩ = some (.slice (some ⟨b, o, none⟩) ss.length cap) ∧ wx.cell? ⟨W0.heap.size, 3, none⟩ = some (.int .i64 (i : Int)) ∧ wx.cell? ⟨b, o + i * 8, none⟩ = some (.int .i64 ss[i].kind) ∧ wx.cell? ⟨b, o + i * 8 + 1, none⟩ = some (.int .i64 ss[i].dst) ∧ wx.cell? ⟨b, o + i * 8 + 2, none⟩ = some (.int .i64 ss[i].op) ∧ wx.cell? ⟨b, o + i * 8 + 3, none⟩ = some (.int .i64 ss[i].av) ∧ wx.cell? ⟨b, o + i * 8 + 4, none⟩ = some (.int .i64 ss[i].an) ∧ wx.cell? ⟨b, o + i * 8 + 5, none⟩ = some (.int .i64 ss[i].bv) ∧ wx.cell? ⟨b, o + i * 8 + 6, none⟩ = some (.int .i64 ss[i].bn) ∧ wx.cell? ⟨b, o + i * 8 + 7, none⟩ = some (.slice nao ss[i].next.length ncap)) (go_keep) (fail)
    all_goals
      go_wp2_with fail
      clear c0 c3 x0 x1 x2 x3 x4 x5 x6 x7
      have HOV : Hid (ov.ownBlock ≠ some w9.heap.size) := fun e => by have := (HN.out.outs.lt _ e).2; omega
      refine do_any W0 _ (.slice (some ⟨b, o, none⟩) ss.length cap) iv most i vs inp outs (path ++ [(i : Int)]) ov pv9 a0 a1 a2 ss[i] (.slice nao ss[i].next.length ncap) (ss.length : Int) (HN.out.keep (HB9.out _)) ((HS.out.keep HN.out.below).keep (HB9.out _)) HST.out hil (by omega) (fun cd w11 hcd hstop hM => ?_) (fun iv' ov' w11 hgo hM hF => ?_)
      · have HM1 : Hid _ := hM
        have HSTOP : Hid _ := hstop
        clear hM hstop
        rw [errV_iface]
        go_wp2
        exact HQ0.out cd _ _ hcd HNM.out HSTOP.out HM1.out
      · have HM1 : Hid _ := hM
        have HGO : Hid (stopR ss[i] inp = none) := hgo
        have hblk := hF.block w9.heap.size (by simp) (Ne.symm hwl2) HOV.out
        have y0 : w11.cell? ⟨w9.heap.size, 0, none⟩ = some (.int .i64 ss[i].kind) := (World.cell?_of_block (a := ⟨w9.heap.size, 0, none⟩) hblk).trans (by simp [go_sem])
        have y1 : w11.cell? ⟨w9.heap.size, 1, none⟩ = some (.int .i64 ss[i].dst) := (World.cell?_of_block (a := ⟨w9.heap.size, 1, none⟩) hblk).trans (by simp [go_sem])
        have y2 : w11.cell? ⟨w9.heap.size, 2, none⟩ = some (.int .i64 ss[i].op) := (World.cell?_of_block (a := ⟨w9.heap.size, 2, none⟩) hblk).trans (by simp [go_sem])
        have y3 : w11.cell? ⟨w9.heap.size, 3, none⟩ = some (.int .i64 ss[i].av) := (World.cell?_of_block (a := ⟨w9.heap.size, 3, none⟩) hblk).trans (by simp [go_sem])
        have y4 : w11.cell? ⟨w9.heap.size, 4, none⟩ = some (.int .i64 ss[i].an) := (World.cell?_of_block (a := ⟨w9.heap.size, 4, none⟩) hblk).trans (by simp [go_sem])
        have y5 : w11.cell? ⟨w9.heap.size, 5, none⟩ = some (.int .i64 ss[i].bv) := (World.cell?_of_block (a := ⟨w9.heap.size, 5, none⟩) hblk).trans (by simp [go_sem])
        have y6 : w11.cell? ⟨w9.heap.size, 6, none⟩ = some (.int .i64 ss[i].bn) := (World.cell?_of_block (a := ⟨w9.heap.size, 6, none⟩) hblk).trans (by simp [go_sem])
        have y7 : w11.cell? ⟨w9.heap.size, 7, none⟩ = some (.slice nao ss[i].next.length ncap) := (World.cell?_of_block (a := ⟨w9.heap.size, 7, none⟩) hblk).trans (by simp [go_sem])
        have h7 := stop_none hgo
        obtain ⟨n0, n5, nx⟩ := run_next HST.out h7
        have HNX : Hid _ := nx
        have HN5 : Hid _ := n5
        have HP4 : Hid (ss[i].kind = 5 → -1 ≤ ss[i].av ∧ ss[i].av ≤ 11) := fun h5 => (step_parts1 HST.out).2.2.2 (Or.inr h5)
        clear hM hF hgo hblk h7 nx n5
        go_wp2_with fail
        refine behind_any W0 w11 _ _ _ _ _ _ _ _ _ _ ss[i] (.slice nao ss[i].next.length ncap) HM1.out (HNV.out.keep HM1.out.below) n0 HN5.out HP4.out (fun k hk => (HNX.out k hk).1) fun w12 hb12 => ?_
        rw [nextR_vars]
        have HM2 : Hid _ := HM1.out.keep hb12
        have z3 := HM2.out.c3
        have f3 := HM2.out.row.frozen 3
        clear hb12 HM1 y0 y1 y2 y3 y4 y5 y6 y7
        go_wp2
        exact HQ1.out _ _ _ _ HNM.out HGO.out (HM2.out.setAt _)
end Go.Proofs.YtnlcdecokpdkpaaDoor
namespace Go.Proofs.YtnlcdecokpdkpaaDoor
open Go.RowKit

def lenC (w : World) (b o : Nat) : Nat := match w.cell? ⟨b, o, none⟩ with | some (.slice _ n _) => n | _ => 0

theorem MS.len {W0 w : World} {sv iv : Value} {most i : Int} {vs inp outs path : List Int} {ov pv : Value} (h : MS W0 w sv iv most i vs inp outs path ov pv) : lenC w W0.heap.size 17 = path.length := by
  unfold lenC
  rw [h.c17]
  rcases h.path.2 with ⟨e, e2⟩ | ⟨g', c, _, e, _⟩
  · rw [e, e2]
  · rw [e]

theorem outsR_len (s : St) (vs outs : List Int) : (outsR s vs outs).length ≤ outs.length + 1 := by unfold outsR; split <;> simp
theorem inR_len (s : St) (inp : List Int) : (inR s inp).length ≤ inp.length := by unfold inR; split <;> simp

/-- What a run keeps: where it goes on to is R. -/
def RI (W0 : World) (ss : List St) (sv : Value) (m : Nat) (R : Res) (wr : World) : Prop :=
  ∃ (i : Nat) (vs inp outs path : List Int) (iv ov pv : Value), MS W0 wr sv iv m i vs inp outs path ov pv ∧ i < ss.length ∧ path.length ≤ m ∧ inp.length ≤ 1048576 ∧ outs.length ≤ path.length ∧ runR ss (m - path.length) i vs inp outs path = R

set_option maxRecDepth 100000 in
set_option maxHeartbeats 4000000 in
theorem mrun_any {Q : Ending → World → Prop} (W0 w : World) (ss : List St) (sv : Value) (m : Nat) (R : Res) (a0 a1 a2 : Addr) (h : RI W0 ss sv m R w) (hs : Sen W0 a0 a1 a2)
    (hss : StepsAt W0 sv ss) (hok : okB ss = true) (hm : m ≤ 600)
    (hQ : ∀ i vs inp iv ov pv w', R.code < 3 → MS W0 w' sv iv m i vs inp R.outs R.path ov pv → Q (.returned (errV (errAt a0 a1 a2 R.code))) w') :
    Calls Tryd.prog 45 #[.pointer (some ⟨W0.heap.size, 0, none⟩)] w Q := by
  have HQ : Hid (∀ i vs inp iv ov pv w', R.code < 3 → MS W0 w' sv iv m i vs inp R.outs R.path ov pv → Q (.returned (errV (errAt a0 a1 a2 R.code))) w') := hQ
  have HS : Hid (Sen W0 a0 a1 a2) := hs
  have HSS : Hid (StepsAt W0 sv ss) := hss
  have HOK : Hid (okB ss = true) := hok
  have HI : Hid (RI W0 ss sv m R w) := h
  clear hQ hs hss hok h
  go_enter Tryd.func45, Tryd.ntmps45
  go_wp2
  go_loopw [] (fun wr => RI W0 ss sv m R wr) (fun wr => m - lenC wr W0.heap.size 17)
  case atStart => exact HI.out
  case round =>
    have HR : Hid (RI W0 ss sv m R wr) := hrel
    clear hrel
    obtain ⟨i, vs, inp, outs, path, iv, ov, pv, hM, hi, hpl, hil, hol, hR⟩ := HR.out
    have HL : Hid (lenC wr W0.heap.size 17 = path.length) := hM.len
    have HRR : Hid (runR ss (m - path.length) i vs inp outs path = R) := hR
    have HM : Hid (MS W0 wr sv iv m i vs inp outs path ov pv) := hM
    clear hM hR HR
    go_wp2_with fail
    refine mstep_any W0 wr ss sv iv m i vs inp outs path ov pv a0 a1 a2 HM.out HS.out HSS.out HOK.out hi hil (by omega) (by omega) (fun w' hlen hM => ?_) (fun c pv' w' hc hne hstop hM => ?_) (fun iv' ov' pv' w' hne hgo hM => ?_)
    · have e : R = ⟨1, outs, path⟩ := by rw [← HRR.out, show m - path.length = 0 by omega]; rfl
      subst e
      have HM1 : Hid _ := hM
      clear hM
      rw [errV_iface]
      go_wp2
      exact HQ.out _ _ _ _ _ _ _ (by decide) HM1.out
    · have e : R = ⟨c, outs, path ++ [(i : Int)]⟩ := by
        rw [← HRR.out, show m - path.length = (m - path.length - 1) + 1 by omega, runR_stop hstop]
      subst e
      have HM1 : Hid _ := hM
      clear hM hstop hne
      rw [errV_iface]
      go_wp2
      exact HQ.out _ _ _ _ _ _ _ hc HM1.out
    · have HN : Hid (RI W0 ss sv m R w') := by
        refine ⟨_, _, _, _, _, _, _, _, hM, next_lt HOK.out hi (stop_none hgo) vs, by simp; omega, Nat.le_trans (inR_len _ _) hil, ?_, ?_⟩
        · have := outsR_len (ss.getD i st0) vs outs
          simp only [List.length_append, List.length_cons, List.length_nil]
          omega
        · rw [← HRR.out, show m - path.length = (m - path.length - 1) + 1 by omega, runR_go hgo]
          simp only [List.length_append, List.length_cons, List.length_nil]
          rw [show m - path.length - 1 = m - (path.length + (0 + 1)) by omega]
      have HL2 : Hid (lenC w' W0.heap.size 17 = path.length + 1) := by rw [Hid, hM.len]; simp
      clear hM hgo
      go_wp2
      go_roundw
      case rel => exact HN.out
      case measure =>
        rw [HL.out, HL2.out]
        omega

set_option maxHeartbeats 1000000 in
theorem isNoNum_any {Q : Ending → World → Prop} (n : Int) (w : World) (hQ : Q (.returned (.bool (!inB n 0 65535))) w) :
    Calls Tryd.prog 73 #[.int .i64 n] w Q := by
  have HQ : Hid _ := hQ
  clear hQ
  go_enter Tryd.func73, Tryd.ntmps73
  go_wp2_with fail
  refine isNum_any _ _ ?_
  generalize inB n 0 65535 = x at *
  cases x
  all_goals
    go_wp2
    exact HQ.out

set_option maxHeartbeats 1000000 in
theorem indexFunc_any {Q : Ending → World → Prop} (v : Value) (zs : List Int) (w : World) (h : IntsAt w v zs) (hl : zs.length ≤ 1048576)
    (hQ : ∀ z : Int, (0 ≤ z ↔ inAll zs = false) → z ≤ 1048576 → Q (.returned (.int .i64 z)) w) :
    Calls Tryd.prog 89 #[v, .func (.func 73) #[] #[]] w Q := by
  have HQ : Hid _ := hQ
  clear hQ
  obtain ⟨ao, b, o, cap, rfl, ha, hc⟩ := h
  have HA : Hid _ := ha
  have HC : Hid _ := hc
  clear ha hc
  go_enter Tryd.func89, Tryd.ntmps89
  go_wp2
  go_loop [8] (fun i => ∃ k : Nat, k ≤ zs.length ∧ i = .int .i64 k ∧ ∀ j, j < k → inB (zs.getD j 0) 0 65535 = true) (fun i => zs.length - (intOf i).toNat)
  case atStart => exact ⟨0, Nat.zero_le _, rfl, by omega⟩
  case round =>
    obtain ⟨k, hk, rfl, hall⟩ := hrel
    have HALL : Hid _ := hall
    clear hall
    by_cases hkl : k < zs.length
    · have hki : (k : Int) < (zs.length : Int) := by omega
      obtain rfl := HA.out (by omega)
      have c1 := HC.out k hkl
      have HM : Hid (inB (zs.getD k 0) 0 65535 = false → inAll zs = false) := fun hf => by
        unfold inAll
        rw [List.all_eq_false]
        exact ⟨zs[k], List.getElem_mem hkl, by simpa [List.getD, hkl] using hf⟩
      have HNE : Hid (inB (zs.getD k 0) 0 65535 = true → ∀ j, j < k + 1 → inB (zs.getD j 0) 0 65535 = true) := by
        intro h1 j hj
        by_cases e : j = k
        · subst e; exact h1
        · exact HALL.out j (by omega)
      generalize zs.getD k 0 = y at *
      go_wp2_with fail
      refine isNoNum_any _ _ ?_
      cases hy : inB y 0 65535
      · have HH := HM.out hy
        clear hy HNE HM
        go_wp2
        exact HQ.out _ ⟨fun _ => HH, fun _ => by omega⟩ (by omega)
      · have HH := HNE.out hy
        clear hy HNE HM
        go_wp2
        go_round
        case rel => exact ⟨k + 1, by omega, by go_num, HH⟩
        case measure => simp [intOf]; omega
    · have hki : ¬ (k : Int) < (zs.length : Int) := by omega
      go_wp2
      refine HQ.out _ ⟨by omega, fun hm => ?_⟩ (by omega)
      unfold inAll at hm
      rw [List.all_eq_false] at hm
      obtain ⟨x, hx, hx2⟩ := hm
      obtain ⟨t, ht, e⟩ := List.mem_iff_getElem.1 hx
      have := HALL.out t (by omega)
      simp only [List.getD, List.getElem?_eq_getElem ht, Option.getD_some, e] at this
      exact absurd this hx2

set_option maxHeartbeats 1000000 in
theorem containsFunc_any {Q : Ending → World → Prop} (v : Value) (zs : List Int) (w : World) (h : IntsAt w v zs) (hl : zs.length ≤ 1048576)
    (hQ : Q (.returned (.bool (!inAll zs))) w) :
    Calls Tryd.prog 72 #[v, .func (.func 73) #[] #[]] w Q := by
  have HQ : Hid _ := hQ
  clear hQ
  have HH : Hid _ := h
  clear h
  go_enter Tryd.func72, Tryd.ntmps72
  go_wp2_with fail
  refine indexFunc_any v zs _ HH.out hl fun z hz hz1 => ?_
  cases hm : inAll zs
  · have h1 := hz.2 hm
    rw [hm] at HQ
    clear hz hm
    go_wp2
    exact HQ.out
  · have h1 : ¬ 0 ≤ z := fun h => by have := hz.1 h; rw [hm] at this; cases this
    have h1b : decide (0 ≤ z) = false := by simpa using h1
    rw [hm] at HQ
    clear hz hm
    go_wp2
    exact HQ.out

set_option maxHeartbeats 2000000 in
theorem canRun_any {Q : Ending → World → Prop} (sv iv : Value) (ss : List St) (inp : List Int) (most : Int) (w : World) (h : StepsAt w sv ss) (hi : IntsAt w iv inp) (hl : ss.length ≤ 1048576) (hls : ∀ s ∈ ss, s.next.length ≤ 1048576) (hil : inp.length ≤ 1048576)
    (hQ : ∀ w', Below w.heap.size w w' → Q (.returned (.bool (canB ss inp most))) w') :
    Calls Tryd.prog 44 #[.agg #[sv], iv, .int .i64 most] w Q := by
  have HQ : Hid _ := hQ
  clear hQ
  have HH : Hid (StepsAt w sv ss) := h
  have HI : Hid (IntsAt w iv inp) := hi
  have HL : Hid _ := hls
  obtain ⟨ao, b, o, cap, rfl, ha, hc⟩ := h
  obtain ⟨ao', b', o', cap', rfl, ha', hc'⟩ := hi
  clear ha hc ha' hc' hls
  have hb0 : ∀ O, Below w.heap.size w (w.alloc O) := fun O => (Below.refl _ _).alloc (Nat.le_refl _) O
  go_enter Tryd.func44, Tryd.ntmps44
  go_wp2_with fail
  refine implOk_any _ ss _ (HH.out.keep (hb0 _)) hl HL.out fun w1 hb1 => ?_
  have HB1 : Hid (Below w.heap.size w w1) := (hb0 _).trans (hb1.mono (by simp))
  clear hb1 hb0
  cases hok : okB ss
  · rw [show canB ss inp most = false by simp [canB, hok]] at HQ
    clear hok
    go_wp2
    exact HQ.out _ HB1.out
  by_cases h1 : 0 ≤ most
  · by_cases h2 : most ≤ 600
    · rw [show canB ss inp most = inAll inp by simp [canB, hok, inB, h1, h2]] at HQ
      clear hok
      go_wp2_with fail
      refine containsFunc_any _ inp _ (HI.out.keep HB1.out) hil ?_
      generalize inAll inp = x at *
      cases x
      all_goals
        go_wp2
        exact HQ.out _ HB1.out
    · rw [show canB ss inp most = false by simp [canB, inB, h2]] at HQ
      have h2b : decide (most ≤ 600) = false := by simpa using h2
      clear hok
      go_wp2
      exact HQ.out _ HB1.out
  · rw [show canB ss inp most = false by simp [canB, inB, h1]] at HQ
    have h1b : decide (0 ≤ most) = false := by simpa using h1
    clear hok
    go_wp2
    exact HQ.out _ HB1.out

/-- An answer of a run: the rows in blocks from lo on, below hi. -/
def ResO (lo hi : Nat) (w : World) (v : Value) (R : Res) : Prop :=
  ∃ ov pv, v = .agg #[.int .i64 (R.code : Int), ov, pv] ∧ IntsO lo hi w ov R.outs ∧ IntsO lo hi w pv R.path ∧ ∀ k, ov.ownBlock = some k → pv.ownBlock ≠ some k

end Go.Proofs.YtnlcdecokpdkpaaDoor
namespace Go.Proofs.YtnlcdecokpdkpaaDoor
open Go.RowKit

theorem ResO.bad (lo hi : Nat) (w : World) : ResO lo hi w (.agg #[.int .i64 9, .slice none 0 0, .slice none 0 0]) ⟨9, [], []⟩ :=
  ⟨_, _, rfl, ⟨World.ownsRow_nil _ _ _ _, by simp [Value.ownBlock]⟩, ⟨World.ownsRow_nil _ _ _ _, by simp [Value.ownBlock]⟩, by simp [Value.ownBlock]⟩

theorem own_low {w : World} {base base' : Nat} {e : TypeId} {size : Nat} {v : Value} {n : Nat} {xs : List Value} (h : w.ownsRow base e size v n xs) (hb : base' ≤ base) : w.ownsRow base' e size v n xs := by
  obtain ⟨h1, h2⟩ := h
  refine ⟨h1, ?_⟩
  rcases h2 with h2 | ⟨g, cap, cur, hv, hg, r⟩
  · exact Or.inl h2
  · exact Or.inr ⟨g, cap, cur, hv, by omega, r⟩

theorem MS.start (w : World) (sv iv : Value) (most : Int) (inp : List Int) (hi : IntsL w iv inp) :
    MS w (w.alloc (.cells #[sv, iv, .int .i64 most, .int .i64 0, .int .i64 0, .int .i64 0, .int .i64 0, .int .i64 0, .int .i64 0, .int .i64 0, .int .i64 0, .int .i64 0, .int .i64 0, .int .i64 0, .int .i64 0, .int .i64 0, .slice none 0 0, .slice none 0 0] 67)) sv iv most 0 vars0 inp [] [] (.slice none 0 0) (.slice none 0 0) := by
  refine ⟨(Below.refl _ _).alloc (Nat.le_refl _) _, World.rowIs_alloc w _ _ _ fun k hk => ?_, rfl, hi, World.ownsRow_nil _ _ _ _, World.ownsRow_nil _ _ _ _, by simp [Value.ownBlock]⟩
  have hk' : k < 18 := hk
  rcases (by omega : k = 0 ∨ k = 1 ∨ k = 2 ∨ k = 3 ∨ k = 4 ∨ k = 5 ∨ k = 6 ∨ k = 7 ∨ k = 8 ∨ k = 9 ∨ k = 10 ∨ k = 11 ∨ k = 12 ∨ k = 13 ∨ k = 14 ∨ k = 15 ∨ k = 16 ∨ k = 17) with rfl | rfl | rfl | rfl | rfl | rfl | rfl | rfl | rfl | rfl | rfl | rfl | rfl | rfl | rfl | rfl | rfl | rfl <;> rfl

set_option maxRecDepth 100000 in
set_option maxHeartbeats 4000000 in
theorem implRun_any {Q : Ending → World → Prop} (sv iv : Value) (ss : List St) (inp : List Int) (most : Int) (a0 a1 a2 : Addr) (w : World) (h : StepsAt w sv ss) (hi : IntsL w iv inp) (hs : Sen w a0 a1 a2) (hl : ss.length ≤ 1048576) (hls : ∀ s ∈ ss, s.next.length ≤ 1048576) (hil : inp.length ≤ 1048576)
    (hQ : ∀ v w', Below w.heap.size w w' → ResO w.heap.size w'.heap.size w' v (runOfR ss inp most) → Q (.returned v) w') :
    Calls Tryd.prog 16 #[.agg #[sv], iv, .int .i64 most] w Q := by
  have HQ : Hid (∀ v w', Below w.heap.size w w' → ResO w.heap.size w'.heap.size w' v (runOfR ss inp most) → Q (.returned v) w') := hQ
  clear hQ
  have HH : Hid (StepsAt w sv ss) := h
  have HI : Hid (IntsL w iv inp) := hi
  have HL : Hid _ := hls
  have HS : Hid (Sen w a0 a1 a2) := hs
  obtain ⟨ao, b, o, cap, rfl, ha, hc⟩ := h
  obtain ⟨ao', b', o', cap', rfl, hcap', ha', hc'⟩ := hi
  clear ha hc ha' hc' hls hcap' hs
  have hb0 : ∀ O O', Below w.heap.size w ((w.alloc O).alloc O') := fun O O' => ((Below.refl _ _).alloc (Nat.le_refl _) O).alloc (by simp) O'
  go_enter Tryd.func16, Tryd.ntmps16
  go_wp2_with fail
  refine canRun_any _ _ ss inp most _ (HH.out.keep (hb0 _ _)) ((HI.out.keep (hb0 _ _)).at) hl HL.out hil fun w1 hb1 => ?_
  have HB1 : Hid (Below w.heap.size w w1) := (hb0 _ _).trans (hb1.mono (by simp; omega))
  have q0 : w1.cell? ⟨w.heap.size, 0, none⟩ = some (.slice ao ss.length cap) := cell_keep hb1 (by simp [go_sem])
  have r0 : w1.cell? ⟨w.heap.size + 1, 0, none⟩ = some (.int .i64 0) := cell_keep hb1 (by simp [go_sem])
  have r1 : w1.cell? ⟨w.heap.size + 1, 1, none⟩ = some (.slice none 0 0) := cell_keep hb1 (by simp [go_sem])
  have r2 : w1.cell? ⟨w.heap.size + 1, 2, none⟩ = some (.slice none 0 0) := cell_keep hb1 (by simp [go_sem])
  have f0 : w1.frozen? ⟨w.heap.size + 1, 0, none⟩ = false := (hb1.frozen (p := ⟨w.heap.size + 1, 0, none⟩) (by simp)).trans (by simp [go_sem])
  have f1 : w1.frozen? ⟨w.heap.size + 1, 1, none⟩ = false := (hb1.frozen (p := ⟨w.heap.size + 1, 1, none⟩) (by simp)).trans (by simp [go_sem])
  have f2 : w1.frozen? ⟨w.heap.size + 1, 2, none⟩ = false := (hb1.frozen (p := ⟨w.heap.size + 1, 2, none⟩) (by simp)).trans (by simp [go_sem])
  have hsz : w.heap.size + 2 ≤ w1.heap.size := by have := hb1.size; simp at this; omega
  clear hb1 hb0
  cases hcan : canB ss inp most
  · rw [show runOfR ss inp most = ⟨9, [], []⟩ by simp [runOfR, hcan]] at HQ
    clear hcan
    have HBB : Hid (Below w.heap.size w (((w1.setCell ⟨w.heap.size + 1, 0, none⟩ (.int .i64 9)).setCell ⟨w.heap.size + 1, 1, none⟩ (.slice none 0 0)).setCell ⟨w.heap.size + 1, 2, none⟩ (.slice none 0 0))) := ((HB1.out.setCell (by simp) _).setCell (by simp) _).setCell (by simp) _
    go_wp2
    refine bodyPost_ret (v := .agg #[.int .i64 9, .slice none 0 0, .slice none 0 0]) (by simp [results, Tryd.results16, go_sem, r0, r1, r2]) rfl ?_
    exact HQ.out _ _ HBB.out (ResO.bad _ _ _)
  · rw [show runOfR ss inp most = runR ss most.toNat 0 vars0 inp [] [] by simp [runOfR, hcan]] at HQ
    have hcan' := hcan
    simp only [canB, Bool.and_eq_true, inB, decide_eq_true_eq] at hcan'
    obtain ⟨⟨hok, hm0, hm1⟩, _⟩ := hcan'
    obtain ⟨m, rfl⟩ : ∃ m : Nat, most = (m : Int) := ⟨most.toNat, by omega⟩
    simp only [Int.toNat_natCast] at HQ
    have HOK : Hid (okB ss = true) := hok
    have hn1 : 0 < ss.length := by simp only [okB, Bool.and_eq_true, decide_eq_true_eq] at hok; omega
    clear hcan hok
    go_wp2_with fail
    have HMS := MS.start w1 (.slice ao ss.length cap) (.slice ao' inp.length cap') (m : Int) inp (HI.out.keep HB1.out)
    refine mrun_any w1 _ ss (.slice ao ss.length cap) m (runR ss m 0 vars0 inp [] []) a0 a1 a2 ⟨0, vars0, inp, [], [], _, _, _, HMS, hn1, Nat.zero_le _, hil, Nat.le_refl _, rfl⟩ (HS.out.keep HB1.out) (HH.out.keep HB1.out) HOK.out (by omega) fun i vs inp' iv ov pv w5 hc hM => ?_
    clear HMS
    have HC : Hid _ := hc
    generalize runR ss m 0 vars0 inp [] [] = R at *
    have HM : Hid (MS w1 w5 (.slice ao ss.length cap) iv m i vs inp' R.outs R.path ov pv) := hM
    have c16 := hM.c16
    have c17 := hM.c17
    have t0 := cell_keep hM.below r0
    have t1 := cell_keep hM.below r1
    have t2 := cell_keep hM.below r2
    have u0 := (hM.below.frozen (p := ⟨w.heap.size + 1, 0, none⟩) (by show w.heap.size + 1 < w1.heap.size; omega)).trans f0
    have u1 := (hM.below.frozen (p := ⟨w.heap.size + 1, 1, none⟩) (by show w.heap.size + 1 < w1.heap.size; omega)).trans f1
    have u2 := (hM.below.frozen (p := ⟨w.heap.size + 1, 2, none⟩) (by show w.heap.size + 1 < w1.heap.size; omega)).trans f2
    have hne : w.heap.size + 1 ≠ w1.heap.size := by omega
    have hne2 : w1.heap.size ≠ w.heap.size + 1 := by omega
    obtain ⟨A, c, hov⟩ : ∃ A c, ov = .slice A R.outs.length c := by
      rcases hM.outs.2 with ⟨e, e2⟩ | ⟨g', c, _, e, _⟩
      · exact ⟨none, 0, by rw [e2]; exact e⟩
      · exact ⟨_, _, e⟩
    subst hov
    obtain ⟨A', c', hpv⟩ : ∃ A c, pv = .slice A R.path.length c := by
      rcases hM.path.2 with ⟨e, e2⟩ | ⟨g', c, _, e, _⟩
      · exact ⟨none, 0, by rw [e2]; exact e⟩
      · exact ⟨_, _, e⟩
    subst hpv
    clear hM q0 r0 r1 r2 f0 f1 f2
    have HSW : Hid (Sen w5.drew a0 a1 a2) := ((HS.out.keep HB1.out).keep HM.out.below).keep ((Below.refl _ _).drew)
    go_wp2_with fail
    go_region_held3 (fun wx => wx.cell? ⟨w1.heap.size, 16, none⟩ = some (.slice A R.outs.length c) ∧ wx.cell? ⟨w1.heap.size, 17, none⟩ = some (.slice A' R.path.length c')) (go_keep) (first | (go_at_call 46; refine codeOf_any a0 a1 a2 R.code HC.out _ HSW.out ?_))
    all_goals
      go_wp2
      refine bodyPost_ret (v := .agg #[.int .i64 (R.code : Int), .slice A R.outs.length c, .slice A' R.path.length c']) (by simp [results, Tryd.results16, go_sem, t0, t1, t2]) rfl ?_
      have hbw : Below w.heap.size w w5 := HB1.out.trans (HM.out.below.mono HB1.out.size)
      have own3 : ∀ (x : Value) (zs : List Int) (y0 y1 y2 : Value), w5.ownsRow (w1.heap.size + 1) 3 1 x zs.length (zs.map (Value.int .i64)) → IntsO w.heap.size (((w5.setCell ⟨w.heap.size + 1, 0, none⟩ y0).setCell ⟨w.heap.size + 1, 1, none⟩ y1).setCell ⟨w.heap.size + 1, 2, none⟩ y2).drew.heap.size (((w5.setCell ⟨w.heap.size + 1, 0, none⟩ y0).setCell ⟨w.heap.size + 1, 1, none⟩ y1).setCell ⟨w.heap.size + 1, 2, none⟩ y2).drew x zs := by
        intro x zs y0 y1 y2 hx
        refine IntsO.of (own_low (base := w1.heap.size + 1) ?_ (by omega))
        have e1 := ownsRow_setCell_below (ownsRow_setCell_below (ownsRow_setCell_below hx (a := ⟨w.heap.size + 1, 0, none⟩) (by show w.heap.size + 1 < w1.heap.size + 1; omega) y0) (a := ⟨w.heap.size + 1, 1, none⟩) (by show w.heap.size + 1 < w1.heap.size + 1; omega) y1) (a := ⟨w.heap.size + 1, 2, none⟩) (by show w.heap.size + 1 < w1.heap.size + 1; omega) y2
        exact ownsRow_out e1 (Out.of_below (lo := 0) (hi := 0) ((Below.refl _ _).drew)) (fun _ _ => Or.inr (Nat.zero_le _))
      refine HQ.out _ _ ((((hbw.setCell (by simp) _).setCell (by simp) _).setCell (by simp) _).drew) ⟨_, _, rfl, own3 _ _ _ _ _ HM.out.outs, own3 _ _ _ _ _ HM.out.path, HM.out.apart⟩
end Go.Proofs.YtnlcdecokpdkpaaDoor
