/- What the program's ExprKeeps answers. What the program's keep answers. -/
import Derived.Test.YtljlgffkhocgkaaDoorExprO
import Derived.Test.YtljlgffkhocgkaaDoorOnB
import Derived.Test.YtljlgffkhocgkaaDoorBits
import Derived.Test.YtljlgffkhocgkaaDoorImplOk
import Derived.Test.YtljlgffkhocgkaaDoorReach
import Derived.Deep.RegionHeld3
import Derived.Deep.MidRow
import Derived.Deep.RegionHeld
namespace Go.Proofs.YtljlgffkhocgkaaDoor
open Go.RowKit

theorem rangeAt_keep {w w' : World} {b o : Nat} {cs : List Value} (h : w.rangeAt b o cs) (hb : Below w.heap.size w w') : w'.rangeAt b o cs := fun j v hj => cell_keep hb (h j v hj)

/-- Of each variable, the steps among the first k that change it. -/
def ChF (ss : List St) (k : Nat) (f : Nat → BitVec 64) : Prop := ∀ v, v < 12 → ∀ j, j < 64 → ((f v).getLsbD j = true ↔ j < k ∧ ∃ s, ss[j]? = some s ∧ setsI s = (v : Int))

theorem ChF.zero (ss : List St) : ChF ss 0 (fun _ => 0#64) := fun v hv j hj => by simp

theorem ChF.skip {ss : List St} {k : Nat} {f : Nat → BitVec 64} {s : St} (h : ChF ss k f) (hs : ss[k]? = some s) (hn : setsI s = -1) : ChF ss (k + 1) f := fun v hv j hj => by
  rw [h v hv j hj]
  constructor
  · rintro ⟨h1, h2⟩
    exact ⟨by omega, h2⟩
  · rintro ⟨h1, t, h2, h3⟩
    have : j ≠ k := fun e => by
      subst e
      rw [hs] at h2
      cases h2
      omega
    exact ⟨by omega, t, h2, h3⟩

theorem ChF.add {ss : List St} {k d : Nat} {f : Nat → BitVec 64} {s : St} (h : ChF ss k f) (hk : k < 64) (hs : ss[k]? = some s) (hn : setsI s = (d : Int)) : ChF ss (k + 1) (fun v => if v = d then addB (f d) k else f v) := fun v hv j hj => by
  have h0 := h v hv j hj
  by_cases e : v = d
  · subst e
    simp only [if_true]
    rw [addB_get hk hj]
    simp only [Bool.or_eq_true, decide_eq_true_eq]
    rw [h0]
    constructor
    · rintro (⟨h1, h2⟩ | rfl)
      · exact ⟨by omega, h2⟩
      · exact ⟨by omega, s, hs, hn⟩
    · rintro ⟨h1, h2⟩
      by_cases e : j = k
      · exact Or.inr e
      · exact Or.inl ⟨by omega, h2⟩
  · simp only [if_neg e]
    rw [h0]
    constructor
    · rintro ⟨h1, h2⟩
      exact ⟨by omega, h2⟩
    · rintro ⟨h1, t, h2, h3⟩
      have : j ≠ k := fun e1 => by
        subst e1
        rw [hs] at h2
        cases h2
        rw [hn] at h3
        omega
      exact ⟨by omega, t, h2, h3⟩

def chV (f : Nat → BitVec 64) : Value := .agg #[bsV (f 0), bsV (f 1), bsV (f 2), bsV (f 3), bsV (f 4), bsV (f 5), bsV (f 6), bsV (f 7), bsV (f 8), bsV (f 9), bsV (f 10), bsV (f 11)]

/-- The steps that change an operand. -/
def stB (f : Nat → BitVec 64) (v : Int) : BitVec 64 := if inB v 0 11 = true then f v.toNat else 0#64

/-- As many bits. -/
def fullB (n : Nat) : BitVec 64 := BitVec.ofNat 64 (2 ^ n - 1)

theorem fullB_get {n j : Nat} (hj : j < 64) : (fullB n).getLsbD j = decide (j < n) := by
  unfold fullB
  rw [BitVec.getLsbD_ofNat, Nat.testBit_two_pow_sub_one]
  simp [hj]

def kpB (f : Nat → BitVec 64) (e : E5) (n : Nat) : BitVec 64 := fullB n &&& ~~~(stB f e.av ||| stB f e.bv)

theorem stB_get {ss : List St} {f : Nat → BitVec 64} (h : ChF ss ss.length f) {v n : Int} (ho : opndB v n = true) {j : Nat} (hj : j < 64) (hl : j < ss.length) : (stB f v).getLsbD j = (decide (0 ≤ setsI ss[j]) && decide (setsI ss[j] = v)) := by
  unfold stB
  by_cases hi : inB v 0 11 = true
  · rw [if_pos hi]
    have h1 : 0 ≤ v ∧ v ≤ 11 := by simpa [inB] using hi
    obtain ⟨d, rfl⟩ : ∃ d : Nat, v = (d : Int) := ⟨v.toNat, by omega⟩
    have h2 := h d (by omega) j hj
    rw [Int.toNat_natCast]
    have key : (f d).getLsbD j = true ↔ setsI ss[j] = (d : Int) := by
      rw [h2]
      constructor
      · rintro ⟨_, s, hs, e⟩
        rw [List.getElem?_eq_getElem hl] at hs
        cases hs
        exact e
      · intro e
        exact ⟨hl, ss[j], List.getElem?_eq_getElem hl, e⟩
    cases e : (f d).getLsbD j with
    | true =>
      have := key.1 e
      rw [this]
      simp
    | false =>
      have : ¬ setsI ss[j] = (d : Int) := fun e2 => by rw [key.2 e2] at e; cases e
      simp [this]
  · rw [if_neg hi]
    have h1 : v = -1 := by
      have := opndB_small ho
      simp [inB] at hi
      omega
    subst h1
    have : ¬ (0 ≤ setsI ss[j] ∧ setsI ss[j] = -1) := by omega
    simp
    omega

theorem kpB_get {ss : List St} {f : Nat → BitVec 64} {e : E5} (hok : okB ss = true) (hex : exprB e = true) (h : ChF ss ss.length f) {j : Nat} (hl : j < ss.length) : (kpB f e ss.length).getLsbD j = keepB e ss[j] := by
  have hn := (ok_len hok).2
  have hj : j < 64 := by omega
  unfold exprB at hex
  simp only [Bool.and_eq_true] at hex
  unfold kpB
  rw [BitVec.getLsbD_and, BitVec.getLsbD_not, BitVec.getLsbD_or, fullB_get hj, stB_get h hex.1.2 hj hl, stB_get h hex.2 hj hl]
  have h1 := exprB_small (e := e) (by unfold exprB; simp only [Bool.and_eq_true]; exact hex)
  unfold keepB
  have hs : 0 ≤ setsI ss[j] ∨ setsI ss[j] = -1 := by
    unfold setsI
    split
    · rename_i hk
      exact Or.inl (ok_dst hok (List.getElem_mem hl) hk).1
    · exact Or.inr rfl
  rcases hs with hs | hs
  · simp [hl, hj, hs]
    by_cases e1 : setsI ss[j] = e.av <;> by_cases e2 : setsI ss[j] = e.bv <;> simp [e1, e2] <;> omega
  · rw [hs]
    simp [hl, hj]

theorem kpB_lt {f : Nat → BitVec 64} {e : E5} {n j : Nat} (hj : j < 64) (h : (kpB f e n).getLsbD j = true) : j < n := by
  unfold kpB at h
  rw [BitVec.getLsbD_and, fullB_get hj] at h
  simp at h
  exact h.1

set_option maxHeartbeats 1000000 in
theorem firstSteps_any {Q : Ending → World → Prop} (n : Nat) (w : World) (hn : n ≤ 60) (hQ : Q (.returned (bsV (fullB n))) w) :
    Calls Tryd.prog 61 #[.int .i64 (n : Int)] w Q := by
  have HQ : Hid _ := hQ
  clear hQ
  have hn0 : ¬ (n : Int) < 0 := by omega
  have HE : Hid (IntKind.u64.wrap (IntKind.u64.wrap (2 ^ n) - 1) = ((fullB n).toNat : Int)) := by
    have h1 : 2 ^ n < 2 ^ 64 := Nat.pow_lt_pow_right (by omega) (by omega)
    have h2 : 0 < 2 ^ n := Nat.two_pow_pos n
    rw [Hid, wrap_two (by omega), IntKind.wrap_u64, BitVec.toNat_twoPow]
    unfold fullB
    rw [BitVec.toNat_ofNat, Nat.mod_eq_of_lt h1]
    generalize 2 ^ n = z at *
    have : (z - 1) % 2 ^ 64 = z - 1 := Nat.mod_eq_of_lt (by omega)
    rw [this]
    omega
  unfold bsV at HQ
  go_enter Tryd.func61, Tryd.ntmps61
  go_wp2
  rw [HE.out]
  exact HQ.out

set_option maxRecDepth 100000 in
set_option maxHeartbeats 1000000 in
theorem changedSteps_any {Q : Ending → World → Prop} (f : Nat → BitVec 64) (v n : Int) (w : World)
    (hQ : ∀ w', Below w.heap.size w w' → Q (.returned (bsV (stB f v))) w') :
    Calls Tryd.prog 62 #[chV f, .agg #[.int .i64 v, .int .i64 n]] w Q := by
  have HQ : Hid _ := hQ
  clear hQ
  have hb0 : ∀ O O', Below w.heap.size w ((w.alloc O).alloc O') := fun O O' => ((Below.refl _ _).alloc (Nat.le_refl _) O).alloc (by simp) O'
  have e0 : stB f v = if inB v 0 11 = true then f v.toNat else 0#64 := rfl
  rw [e0] at HQ
  unfold chV
  cases hv : inB v 0 11
  · rw [if_neg (by simp [hv])] at HQ
    go_enter Tryd.func62, Tryd.ntmps62
    go_wp2_with fail
    refine isVar_any _ _ ?_
    rw [hv]
    clear hv
    go_wp2
    exact HQ.out _ (hb0 _ _)
  · rw [if_pos hv] at HQ
    have h1 : 0 ≤ v ∧ v ≤ 11 := by simpa [inB] using hv
    obtain ⟨d, rfl⟩ : ∃ d : Nat, v = (d : Int) := ⟨v.toNat, by omega⟩
    have hd : d < 12 := by omega
    have hdi : (d : Int) < 12 := by omega
    rw [Int.toNat_natCast] at HQ
    have hc : ((w.alloc (.cells #[bsV (f 0), bsV (f 1), bsV (f 2), bsV (f 3), bsV (f 4), bsV (f 5), bsV (f 6), bsV (f 7), bsV (f 8), bsV (f 9), bsV (f 10), bsV (f 11)] 68)).alloc (.cells #[.int .i64 (d : Int), .int .i64 n] 36)).cell? ⟨w.heap.size, d, none⟩ = some (bsV (f d)) := by
      have hr := (World.rowIs_alloc w #[bsV (f 0), bsV (f 1), bsV (f 2), bsV (f 3), bsV (f 4), bsV (f 5), bsV (f 6), bsV (f 7), bsV (f 8), bsV (f 9), bsV (f 10), bsV (f 11)] 68 (fun j => bsV (f j)) (fun i hi => by
        simp at hi
        match i, hi with
        | 0, _ => rfl
        | 1, _ => rfl
        | 2, _ => rfl
        | 3, _ => rfl
        | 4, _ => rfl
        | 5, _ => rfl
        | 6, _ => rfl
        | 7, _ => rfl
        | 8, _ => rfl
        | 9, _ => rfl
        | 10, _ => rfl
        | 11, _ => rfl
        | n + 12, h => omega)).alloc (.cells #[.int .i64 (d : Int), .int .i64 n] 36)
      exact hr.cell (by simpa using hd)
    generalize hbv : bsV (f d) = bv at *
    go_enter Tryd.func62, Tryd.ntmps62
    go_wp2_with fail
    refine isVar_any _ _ ?_
    rw [hv]
    clear hv
    go_wp2
    exact HQ.out _ (hb0 _ _)

set_option maxHeartbeats 1000000 in
theorem changes_any {Q : Ending → World → Prop} (k dst op av an bv bn : Int) (A : Option Addr) (n c : Nat) (w : World)
    (hQ : ∀ w', Below w.heap.size w w' → Q (.returned (.bool (decide (k = 1 ∨ k = 2 ∨ k = 3)))) w') :
    Calls Tryd.prog 59 #[.agg #[.int .i64 k, .int .i64 dst, .int .i64 op, .int .i64 av, .int .i64 an, .int .i64 bv, .int .i64 bn, .slice A n c]] w Q := by
  have HQ : Hid _ := hQ
  clear hQ
  have hb0 : ∀ O, Below w.heap.size w (w.alloc O) := fun O => (Below.refl _ _).alloc (Nat.le_refl _) O
  have HB0 : Hid _ := hb0
  clear hb0
  by_cases h : k = 1 ∨ k = 2 ∨ k = 3
  · rw [decide_eq_true h] at HQ
    rcases h with h | h | h
    all_goals
      rw [h]
      clear h
      go_enter Tryd.func59, Tryd.ntmps59
      go_wp2
      exact HQ.out _ (HB0.out _)
  · rw [decide_eq_false h] at HQ
    have n1 : ¬ k = 1 := fun e => h (Or.inl e)
    have n2 : ¬ k = 2 := fun e => h (Or.inr (Or.inl e))
    have n3 : ¬ k = 3 := fun e => h (Or.inr (Or.inr e))
    clear h
    go_enter Tryd.func59, Tryd.ntmps59
    go_wp2
    exact HQ.out _ (HB0.out _)

set_option maxRecDepth 100000 in
set_option maxHeartbeats 4000000 in
theorem changedBy_any {Q : Ending → World → Prop} (v : Value) (ss : List St) (w : World) (h : StepsAt w v ss) (hok : okB ss = true)
    (hQ : ∀ (f : Nat → BitVec 64) w', Below w.heap.size w w' → ChF ss ss.length f → Q (.returned (chV f)) w') :
    Calls Tryd.prog 33 #[v] w Q := by
  have HQ : Hid _ := hQ
  clear hQ
  obtain ⟨ao, b, o, cap, rfl, ha, hc⟩ := id h
  have HA : Hid (0 < ss.length → ao = some ⟨b, o, none⟩) := ha
  have HC : Hid (∀ i s, ss[i]? = some s → ∃ nv, StepCells w b (o + i * 8) s nv ∧ IntsAt w nv s.next) := hc
  have HOK : Hid (okB ss = true) := hok
  have hn2 := (ok_len hok).2
  clear ha hc h hok
  go_enter Tryd.func33, Tryd.ntmps33
  go_wp2
  have r0 : ((w.alloc (.cells #[.int .u64 0, .int .u64 0, .int .u64 0, .int .u64 0, .int .u64 0, .int .u64 0, .int .u64 0, .int .u64 0, .int .u64 0, .int .u64 0, .int .u64 0, .int .u64 0] 68)).alloc (.cells #[.int .u64 0, .int .u64 0, .int .u64 0, .int .u64 0, .int .u64 0, .int .u64 0, .int .u64 0, .int .u64 0, .int .u64 0, .int .u64 0, .int .u64 0, .int .u64 0] 68)).rowIs (w.heap.size + 1) 68 12 (fun _ => bsV 0#64) := by
    have := World.rowIs_alloc (w.alloc (.cells #[.int .u64 0, .int .u64 0, .int .u64 0, .int .u64 0, .int .u64 0, .int .u64 0, .int .u64 0, .int .u64 0, .int .u64 0, .int .u64 0, .int .u64 0, .int .u64 0] 68)) #[.int .u64 0, .int .u64 0, .int .u64 0, .int .u64 0, .int .u64 0, .int .u64 0, .int .u64 0, .int .u64 0, .int .u64 0, .int .u64 0, .int .u64 0, .int .u64 0] 68 (fun _ => bsV 0#64) (fun i hi => by
        simp at hi
        match i, hi with
        | 0, _ => rfl
        | 1, _ => rfl
        | 2, _ => rfl
        | 3, _ => rfl
        | 4, _ => rfl
        | 5, _ => rfl
        | 6, _ => rfl
        | 7, _ => rfl
        | 8, _ => rfl
        | 9, _ => rfl
        | 10, _ => rfl
        | 11, _ => rfl
        | n + 12, h => omega)
    rw [World.size_alloc] at this
    exact this
  have r1 : ((w.alloc (.cells #[.int .u64 0, .int .u64 0, .int .u64 0, .int .u64 0, .int .u64 0, .int .u64 0, .int .u64 0, .int .u64 0, .int .u64 0, .int .u64 0, .int .u64 0, .int .u64 0] 68)).alloc (.cells #[.int .u64 0, .int .u64 0, .int .u64 0, .int .u64 0, .int .u64 0, .int .u64 0, .int .u64 0, .int .u64 0, .int .u64 0, .int .u64 0, .int .u64 0, .int .u64 0] 68)).rowIs w.heap.size 68 12 (fun _ => bsV 0#64) := (World.rowIs_alloc w #[.int .u64 0, .int .u64 0, .int .u64 0, .int .u64 0, .int .u64 0, .int .u64 0, .int .u64 0, .int .u64 0, .int .u64 0, .int .u64 0, .int .u64 0, .int .u64 0] 68 (fun _ => bsV 0#64) (fun i hi => by
        simp at hi
        match i, hi with
        | 0, _ => rfl
        | 1, _ => rfl
        | 2, _ => rfl
        | 3, _ => rfl
        | 4, _ => rfl
        | 5, _ => rfl
        | 6, _ => rfl
        | 7, _ => rfl
        | 8, _ => rfl
        | 9, _ => rfl
        | 10, _ => rfl
        | 11, _ => rfl
        | n + 12, h => omega)).alloc _
  have hb1 : Below w.heap.size w ((w.alloc (.cells #[.int .u64 0, .int .u64 0, .int .u64 0, .int .u64 0, .int .u64 0, .int .u64 0, .int .u64 0, .int .u64 0, .int .u64 0, .int .u64 0, .int .u64 0, .int .u64 0] 68)).alloc (.cells #[.int .u64 0, .int .u64 0, .int .u64 0, .int .u64 0, .int .u64 0, .int .u64 0, .int .u64 0, .int .u64 0, .int .u64 0, .int .u64 0, .int .u64 0, .int .u64 0] 68)) := ((Below.refl _ _).alloc (Nat.le_refl _) _).alloc (by simp) _
  go_loopw [8] (fun i wr => ∃ (k : Nat) (f : Nat → BitVec 64), k ≤ ss.length ∧ i = .int .i64 k ∧ ChF ss k f ∧ Below w.heap.size w wr ∧ wr.rowIs (w.heap.size + 1) 68 12 (fun j => bsV (f j)) ∧ wr.rowIs w.heap.size 68 12 (fun _ => bsV 0#64)) (fun i _ => ss.length - (intOf i).toNat)
  case atStart => exact ⟨0, fun _ => 0#64, Nat.zero_le _, rfl, ChF.zero ss, hb1, r0, r1⟩
  case round =>
    obtain ⟨k, f, hk, rfl, hf, hB, hrow, hres⟩ := hrel
    have HF : Hid (ChF ss k f) := hf
    have HB : Hid (Below w.heap.size w wr) := hB
    have HROW : Hid (wr.rowIs (w.heap.size + 1) 68 12 (fun j => bsV (f j))) := hrow
    have HRES : Hid (wr.rowIs w.heap.size 68 12 (fun _ => bsV 0#64)) := hres
    have hlt : w.heap.size + 1 < wr.heap.size := hrow.lt
    clear r0 r1 hb1 hf
    by_cases hkn : k < ss.length
    · have hki : (k : Int) < (ss.length : Int) := by omega
      obtain rfl := HA.out (by omega)
      obtain ⟨nu, cu, iu⟩ := HC.out k ss[k] (by simp [hkn])
      obtain ⟨nao, nb, no, ncap, rfl, _, _⟩ := id iu
      have cw := cu.keep hB
      have d0 := cw.c0
      have d1 := cw.c1
      have d2 := cw.c2
      have d3 := cw.c3
      have d4 := cw.c4
      have d5 := cw.c5
      have d6 := cw.c6
      have d7 := cw.c7
      have HD : Hid ((ss[k].kind = 1 ∨ ss[k].kind = 2 ∨ ss[k].kind = 3) → 0 ≤ ss[k].dst ∧ ss[k].dst < 12) := fun h => ok_dst HOK.out (List.getElem_mem hkn) h
      have HS : Hid (ss[k]? = some ss[k]) := List.getElem?_eq_getElem hkn
      have HST : Hid (setsI ss[k] = if ss[k].kind = 1 ∨ ss[k].kind = 2 ∨ ss[k].kind = 3 then ss[k].dst else -1) := rfl
      clear cu iu cw hrow hB hres
      generalize ss[k] = s at *
      by_cases hkd : s.kind = 1 ∨ s.kind = 2 ∨ s.kind = 3
      · obtain ⟨g1, g2⟩ := HD.out hkd
        obtain ⟨d, hd⟩ : ∃ d : Nat, s.dst = (d : Int) := ⟨s.dst.toNat, by omega⟩
        have HSD : Hid (setsI s = (d : Int)) := by rw [Hid, HST.out, if_pos hkd, hd]
        rw [hd] at d1 g1 g2
        have hdn : d < 12 := by omega
        have HKD : Hid (decide (s.kind = 1 ∨ s.kind = 2 ∨ s.kind = 3) = true) := decide_eq_true hkd
        clear hd HD HST hkd
        go_wp2_with fail
        refine changes_any s.kind _ _ _ _ _ _ _ _ _ _ fun wc hbc => ?_
        rw [HKD.out]
        have hb2 : Below wr.heap.size wr wc := ((Below.refl _ _).alloc (Nat.le_refl _) _ : Below wr.heap.size wr (wr.alloc _)).trans (hbc.mono (by simp))
        have x1 : wc.cell? ⟨wr.heap.size, 1, none⟩ = some (.int .i64 (d : Int)) := cell_keep hbc (by simp [go_sem])
        have HBC : Hid (Below w.heap.size w wc) := HB.out.trans (hb2.mono (by omega))
        have HROWC : Hid (wc.rowIs (w.heap.size + 1) 68 12 (fun j => bsV (f j))) := rowIs_keep HROW.out hb2
        have HRESC : Hid (wc.rowIs w.heap.size 68 12 (fun _ => bsV 0#64)) := rowIs_keep HRES.out hb2
        have CD : Hid (wc.cell? ⟨w.heap.size + 1, d, none⟩ = some (bsV (f d))) := HROWC.out.cell hdn
        have FD : Hid (wc.frozen? ⟨w.heap.size + 1, d, none⟩ = false) := HROWC.out.frozen d
        have hlc : w.heap.size + 1 < wc.heap.size := HROWC.out.lt
        clear hbc hb2 d0 d1 d2 d3 d4 d5 d6 d7
        go_wp2_with fail
        refine add_any (w.heap.size + 1) d (f d) k _ (by omega) ?_ ?_ fun vv => ?_
        · exact CD.out
        · exact FD.out
        go_wp2
        go_roundw
        case rel =>
          refine ⟨k + 1, fun v => if v = d then addB (f d) k else f v, by omega, by go_num, HF.out.add (by omega) HS.out HSD.out, ?_, ?_, ?_⟩
          · exact (HBC.out.setCell (p := ⟨w.heap.size + 1, d, none⟩) (by show w.heap.size ≤ w.heap.size + 1; omega) _).drew
          · exact rowIs_keep ((HROWC.out.set d _).congr (fun j hj => by by_cases e : j = d <;> simp [e])) ((Below.refl _ _).drew)
          · exact rowIs_keep (HRESC.out.setOther (by show w.heap.size ≠ w.heap.size + 1; omega) _) ((Below.refl _ _).drew)
        case measure => simp [intOf]; omega
      · have HSD : Hid (setsI s = -1) := by rw [Hid, HST.out, if_neg hkd]
        have n1 : ¬ s.kind = 1 := fun e => hkd (Or.inl e)
        have n2 : ¬ s.kind = 2 := fun e => hkd (Or.inr (Or.inl e))
        have n3 : ¬ s.kind = 3 := fun e => hkd (Or.inr (Or.inr e))
        have HKD : Hid (decide (s.kind = 1 ∨ s.kind = 2 ∨ s.kind = 3) = false) := decide_eq_false hkd
        clear HD HST hkd n1 n2 n3
        go_wp2_with fail
        refine changes_any s.kind _ _ _ _ _ _ _ _ _ _ fun wc hbc => ?_
        rw [HKD.out]
        have hb2 : Below wr.heap.size wr wc := ((Below.refl _ _).alloc (Nat.le_refl _) _ : Below wr.heap.size wr (wr.alloc _)).trans (hbc.mono (by simp))
        have HB2 : Hid (Below wr.heap.size wr wc) := hb2
        clear hbc hb2
        go_wp2
        go_roundw
        case rel => exact ⟨k + 1, f, by omega, by go_num, HF.out.skip HS.out HSD.out, HB.out.trans (HB2.out.mono (by omega)), rowIs_keep HROW.out HB2.out, rowIs_keep HRES.out HB2.out⟩
        case measure => simp [intOf]; omega
    · have hki : ¬ (k : Int) < (ss.length : Int) := by omega
      obtain rfl : k = ss.length := by omega
      have c0 := hrow.cell (i := 0) (by omega)
      have x0 := hres.cell (i := 0) (by omega)
      have y0 := hres.frozen 0
      have c1 := hrow.cell (i := 1) (by omega)
      have x1 := hres.cell (i := 1) (by omega)
      have y1 := hres.frozen 1
      have c2 := hrow.cell (i := 2) (by omega)
      have x2 := hres.cell (i := 2) (by omega)
      have y2 := hres.frozen 2
      have c3 := hrow.cell (i := 3) (by omega)
      have x3 := hres.cell (i := 3) (by omega)
      have y3 := hres.frozen 3
      have c4 := hrow.cell (i := 4) (by omega)
      have x4 := hres.cell (i := 4) (by omega)
      have y4 := hres.frozen 4
      have c5 := hrow.cell (i := 5) (by omega)
      have x5 := hres.cell (i := 5) (by omega)
      have y5 := hres.frozen 5
      have c6 := hrow.cell (i := 6) (by omega)
      have x6 := hres.cell (i := 6) (by omega)
      have y6 := hres.frozen 6
      have c7 := hrow.cell (i := 7) (by omega)
      have x7 := hres.cell (i := 7) (by omega)
      have y7 := hres.frozen 7
      have c8 := hrow.cell (i := 8) (by omega)
      have x8 := hres.cell (i := 8) (by omega)
      have y8 := hres.frozen 8
      have c9 := hrow.cell (i := 9) (by omega)
      have x9 := hres.cell (i := 9) (by omega)
      have y9 := hres.frozen 9
      have c10 := hrow.cell (i := 10) (by omega)
      have x10 := hres.cell (i := 10) (by omega)
      have y10 := hres.frozen 10
      have c11 := hrow.cell (i := 11) (by omega)
      have x11 := hres.cell (i := 11) (by omega)
      have y11 := hres.frozen 11
      clear hrow hB hres
      unfold bsV at c0 c1 c2 c3 c4 c5 c6 c7 c8 c9 c10 c11 x0 x1 x2 x3 x4 x5 x6 x7 x8 x9 x10 x11
      go_wp2
      have hfin := (((((((((((HRES.out.set 0 (Value.int .u64 ((f 0).toNat : Int))).set 1 (Value.int .u64 ((f 1).toNat : Int))).set 2 (Value.int .u64 ((f 2).toNat : Int))).set 3 (Value.int .u64 ((f 3).toNat : Int))).set 4 (Value.int .u64 ((f 4).toNat : Int))).set 5 (Value.int .u64 ((f 5).toNat : Int))).set 6 (Value.int .u64 ((f 6).toNat : Int))).set 7 (Value.int .u64 ((f 7).toNat : Int))).set 8 (Value.int .u64 ((f 8).toNat : Int))).set 9 (Value.int .u64 ((f 9).toNat : Int))).set 10 (Value.int .u64 ((f 10).toNat : Int))).set 11 (Value.int .u64 ((f 11).toNat : Int))
      have z0 := hfin.cell (i := 0) (by omega)
      have z1 := hfin.cell (i := 1) (by omega)
      have z2 := hfin.cell (i := 2) (by omega)
      have z3 := hfin.cell (i := 3) (by omega)
      have z4 := hfin.cell (i := 4) (by omega)
      have z5 := hfin.cell (i := 5) (by omega)
      have z6 := hfin.cell (i := 6) (by omega)
      have z7 := hfin.cell (i := 7) (by omega)
      have z8 := hfin.cell (i := 8) (by omega)
      have z9 := hfin.cell (i := 9) (by omega)
      have z10 := hfin.cell (i := 10) (by omega)
      have z11 := hfin.cell (i := 11) (by omega)
      simp at z0 z1 z2 z3 z4 z5 z6 z7 z8 z9 z10 z11
      clear hfin
      refine bodyPost_ret (v := chV f) (by simp [results, Tryd.results33, go_sem, chV, bsV, z0, z1, z2, z3, z4, z5, z6, z7, z8, z9, z10, z11]) rfl ?_
      refine HQ.out f _ ?_ HF.out
      iterate 12 refine Below.setCell ?_ (by exact Nat.le_refl w.heap.size) _
      exact HB.out

end Go.Proofs.YtljlgffkhocgkaaDoor
namespace Go.Proofs.YtljlgffkhocgkaaDoor
open Go.RowKit

theorem changedSteps_cs {Q : Ending → World → Prop} (f : Nat → BitVec 64) (cs : List Value) (hcs : chV f = .agg cs.toArray) (v n : Int) (w : World)
    (hQ : ∀ w', Below w.heap.size w w' → Q (.returned (.int .u64 ((stB f v).toNat : Int))) w') :
    Calls Tryd.prog 62 #[.agg cs.toArray, .agg #[.int .i64 v, .int .i64 n]] w Q := by
  rw [← hcs]
  exact changedSteps_any f v n w hQ

theorem firstSteps_u {Q : Ending → World → Prop} (n : Nat) (w : World) (hn : n ≤ 60) (hQ : Q (.returned (.int .u64 ((fullB n).toNat : Int))) w) :
    Calls Tryd.prog 61 #[.int .i64 (n : Int)] w Q := firstSteps_any n w hn hQ

theorem chV_range (f : Nat → BitVec 64) (w : World) : ∃ cs : List Value, chV f = .agg cs.toArray ∧ cs.length = 12 ∧ ∀ O, ((w.alloc (.cells cs.toArray 68)).alloc O).rangeAt w.heap.size 0 cs :=
  ⟨[bsV (f 0), bsV (f 1), bsV (f 2), bsV (f 3), bsV (f 4), bsV (f 5), bsV (f 6), bsV (f 7), bsV (f 8), bsV (f 9), bsV (f 10), bsV (f 11)], rfl, rfl, fun O j v hj => by
    have hr := (World.rowIs_alloc w #[bsV (f 0), bsV (f 1), bsV (f 2), bsV (f 3), bsV (f 4), bsV (f 5), bsV (f 6), bsV (f 7), bsV (f 8), bsV (f 9), bsV (f 10), bsV (f 11)] 68 (fun j => bsV (f j)) (fun i hi => by
        simp at hi
        match i, hi with
        | 0, _ => rfl
        | 1, _ => rfl
        | 2, _ => rfl
        | 3, _ => rfl
        | 4, _ => rfl
        | 5, _ => rfl
        | 6, _ => rfl
        | 7, _ => rfl
        | 8, _ => rfl
        | 9, _ => rfl
        | 10, _ => rfl
        | 11, _ => rfl
        | n + 12, h => omega)).alloc O
    have hl : j < 12 := (List.getElem?_eq_some_iff.1 hj).1
    have hc := hr.cell (i := j) (by simpa using hl)
    rw [Nat.zero_add, hc, ← hj]
    match j, hl with
    | 0, _ => rfl
    | 1, _ => rfl
    | 2, _ => rfl
    | 3, _ => rfl
    | 4, _ => rfl
    | 5, _ => rfl
    | 6, _ => rfl
    | 7, _ => rfl
    | 8, _ => rfl
    | 9, _ => rfl
    | 10, _ => rfl
    | 11, _ => rfl
    | n + 12, h => omega⟩

set_option maxRecDepth 100000 in
set_option maxHeartbeats 2000000 in
theorem keep_any {Q : Ending → World → Prop} (f : Nat → BitVec 64) (e : E5) (n : Nat) (w : World) (hn : n ≤ 60)
    (hQ : ∀ w', Below w.heap.size w w' → Q (.returned (bsV (kpB f e n))) w') :
    Calls Tryd.prog 34 #[chV f, exV e, .int .i64 (n : Int)] w Q := by
  have HQ : Hid _ := hQ
  clear hQ
  have hb0 : ∀ O O', Below w.heap.size w ((w.alloc O).alloc O') := fun O O' => ((Below.refl _ _).alloc (Nat.le_refl _) O).alloc (by simp) O'
  obtain ⟨bo, hbo⟩ : ∃ bo, stB f e.av ||| stB f e.bv = bo := ⟨_, rfl⟩
  have HOR : Hid (bits BinOp.or IntKind.u64 ((stB f e.av).toNat : Int) ((stB f e.bv).toNat : Int) = (bo.toNat : Int)) := hbo ▸ bits_or _ _
  have HAN : Hid (bits BinOp.andNot IntKind.u64 ((fullB n).toNat : Int) (bo.toNat : Int) = ((kpB f e n).toNat : Int)) := by
    rw [Hid, bits_andNot]
    unfold kpB
    rw [hbo]
  clear hbo
  obtain ⟨cs, hcs, hcl, hrg⟩ := chV_range f w
  have hex : exV e = .agg #[.int .i64 e.op, .int .i64 e.av, .int .i64 e.an, .int .i64 e.bv, .int .i64 e.bn] := rfl
  have hu : Tryd.prog.underlying 68 = some (.array 12 66) := Tryd.underlying68
  have hi : (Tryd.prog.info? 68).map (·.size) = some cs.length := by rw [hcl]; kernel_rfl
  have HCS : Hid (chV f = .agg cs.toArray) := hcs
  rw [hcs, hex]
  clear hcs hex hcl
  go_enter Tryd.func34, Tryd.ntmps34
  go_wp2_with fail
  have r0 : ((w.alloc (.cells cs.toArray 68)).alloc (.cells #[.int .i64 e.op, .int .i64 e.av, .int .i64 e.an, .int .i64 e.bv, .int .i64 e.bn] 38)).rangeAt w.heap.size 0 cs := hrg _
  have z0 : ((w.alloc (.cells cs.toArray 68)).alloc (.cells #[.int .i64 e.op, .int .i64 e.av, .int .i64 e.an, .int .i64 e.bv, .int .i64 e.bn] 38)).cell? ⟨w.heap.size + 1, 0, none⟩ = some (.int .i64 e.op) := by simp [go_sem]
  have z1 : ((w.alloc (.cells cs.toArray 68)).alloc (.cells #[.int .i64 e.op, .int .i64 e.av, .int .i64 e.an, .int .i64 e.bv, .int .i64 e.bn] 38)).cell? ⟨w.heap.size + 1, 1, none⟩ = some (.int .i64 e.av) := by simp [go_sem]
  have z2 : ((w.alloc (.cells cs.toArray 68)).alloc (.cells #[.int .i64 e.op, .int .i64 e.av, .int .i64 e.an, .int .i64 e.bv, .int .i64 e.bn] 38)).cell? ⟨w.heap.size + 1, 2, none⟩ = some (.int .i64 e.an) := by simp [go_sem]
  have z3 : ((w.alloc (.cells cs.toArray 68)).alloc (.cells #[.int .i64 e.op, .int .i64 e.av, .int .i64 e.an, .int .i64 e.bv, .int .i64 e.bn] 38)).cell? ⟨w.heap.size + 1, 3, none⟩ = some (.int .i64 e.bv) := by simp [go_sem]
  have z4 : ((w.alloc (.cells cs.toArray 68)).alloc (.cells #[.int .i64 e.op, .int .i64 e.av, .int .i64 e.an, .int .i64 e.bv, .int .i64 e.bn] 38)).cell? ⟨w.heap.size + 1, 4, none⟩ = some (.int .i64 e.bn) := by simp [go_sem]
  have HB : Hid (Below w.heap.size w ((w.alloc (.cells cs.toArray 68)).alloc (.cells #[.int .i64 e.op, .int .i64 e.av, .int .i64 e.an, .int .i64 e.bv, .int .i64 e.bn] 38))) := hb0 _ _
  generalize ((w.alloc (.cells cs.toArray 68)).alloc (.cells #[.int .i64 e.op, .int .i64 e.av, .int .i64 e.an, .int .i64 e.bv, .int .i64 e.bn] 38)) = W0 at *
  clear hb0 hrg
  refine wp_region_held_drew (S := (fun wx => wx.rangeAt w.heap.size 0 cs ∧ wx.cell? ⟨w.heap.size + 1, 0, none⟩ = some (.int .i64 e.op) ∧ wx.cell? ⟨w.heap.size + 1, 1, none⟩ = some (.int .i64 e.av) ∧ wx.cell? ⟨w.heap.size + 1, 2, none⟩ = some (.int .i64 e.an) ∧ wx.cell? ⟨w.heap.size + 1, 3, none⟩ = some (.int .i64 e.bv) ∧ wx.cell? ⟨w.heap.size + 1, 4, none⟩ = some (.int .i64 e.bn))) (by kernel_rfl) ⟨r0, z0, z1, z2, z3, z4⟩ (fun hHeld => ?_)
  refine wpAnyH_take (i := 0) (v := .int .i64 (n : Int)) rfl (by kernel_rfl) (by kernel_rfl) (by kernel_rfl) (fun _ _ _ h => h) (Or.inl ⟨by rfl, fun wx hS => by obtain ⟨_, h0, h1, h2, h3, h4⟩ := hS; go_simp⟩) hHeld ?_
  simp only [Act.put, List.setIfInBounds_toArray]
  refine wpAnyH_take (i := 2) (v := .agg cs.toArray) rfl (by kernel_rfl) (by kernel_rfl) (by kernel_rfl) (fun _ _ _ h => h) (yieldsIf_load_mid (by rfl) _ _ rfl w.heap.size 0 rfl cs _ (fun wx hS => hS.1) hu rfl hi) hHeld ?_
  simp only [Act.put]
  refine wpAnyH_take (i := 3) (v := .pointer (some ⟨w.heap.size + 1, 1, none⟩)) rfl (by kernel_rfl) (by kernel_rfl) (by kernel_rfl) (fun _ _ _ h => h) (Or.inl ⟨by rfl, fun wx hS => by obtain ⟨_, h0, h1, h2, h3, h4⟩ := hS; go_simp⟩) hHeld ?_
  simp only [Act.put]
  refine wpAnyH_take (i := 4) (v := .agg #[.int .i64 e.av, .int .i64 e.an]) rfl (by kernel_rfl) (by kernel_rfl) (by kernel_rfl) (fun _ _ _ h => h) (Or.inl ⟨by rfl, fun wx hS => by obtain ⟨_, h0, h1, h2, h3, h4⟩ := hS; go_simp⟩) hHeld ?_
  simp only [Act.put]
  refine wpAnyH_take (i := 6) (v := .agg cs.toArray) rfl (by kernel_rfl) (by kernel_rfl) (by kernel_rfl) (fun _ _ _ h => h) (yieldsIf_load_mid (by rfl) _ _ rfl w.heap.size 0 rfl cs _ (fun wx hS => hS.1) hu rfl hi) hHeld ?_
  simp only [Act.put]
  refine wpAnyH_take (i := 7) (v := .pointer (some ⟨w.heap.size + 1, 3, none⟩)) rfl (by kernel_rfl) (by kernel_rfl) (by kernel_rfl) (fun _ _ _ h => h) (Or.inl ⟨by rfl, fun wx hS => by obtain ⟨_, h0, h1, h2, h3, h4⟩ := hS; go_simp⟩) hHeld ?_
  simp only [Act.put]
  refine wpAnyH_take (i := 8) (v := .agg #[.int .i64 e.bv, .int .i64 e.bn]) rfl (by kernel_rfl) (by kernel_rfl) (by kernel_rfl) (fun _ _ _ h => h) (Or.inl ⟨by rfl, fun wx hS => by obtain ⟨_, h0, h1, h2, h3, h4⟩ := hS; go_simp⟩) hHeld ?_
  simp only [Act.put]
  refine wpAnyH_ready (rs := [1]) (by kernel_rfl) (by simp) ?_
  refine AllReadyH.cons rfl (fun K hK => ?_) AllReadyH.nil
  go_simp
  refine firstSteps_u n _ hn ?_
  go_wp2_with fail
  refine hK.out _ _ hHeld (fun hHeld => ?_)
  clear hK K
  try simp only [Act.put, List.setIfInBounds_toArray, List.set_cons_zero, List.set_cons_succ]
  refine wpAnyH_ready (rs := [5]) (by kernel_rfl) (by simp) ?_
  refine AllReadyH.cons rfl (fun K hK => ?_) AllReadyH.nil
  go_simp
  refine changedSteps_cs f cs HCS.out e.av e.an _ fun w1 hb1 => ?_
  go_wp2_with fail
  refine hK.out _ _ ⟨rangeAt_keep hHeld.1 hb1, cell_keep hb1 hHeld.2.1, cell_keep hb1 hHeld.2.2.1, cell_keep hb1 hHeld.2.2.2.1, cell_keep hb1 hHeld.2.2.2.2.1, cell_keep hb1 hHeld.2.2.2.2.2⟩ (fun hHeld2 => ?_)
  clear hK K
  try simp only [Act.put, List.setIfInBounds_toArray, List.set_cons_zero, List.set_cons_succ]
  refine wpAnyH_ready (rs := [9]) (by kernel_rfl) (by simp) ?_
  refine AllReadyH.cons rfl (fun K hK => ?_) AllReadyH.nil
  go_simp
  refine changedSteps_cs f cs HCS.out e.bv e.bn _ fun w2 hb2 => ?_
  go_wp2_with fail
  refine hK.out _ _ ⟨rangeAt_keep hHeld2.1 hb2, cell_keep hb2 hHeld2.2.1, cell_keep hb2 hHeld2.2.2.1, cell_keep hb2 hHeld2.2.2.2.1, cell_keep hb2 hHeld2.2.2.2.2.1, cell_keep hb2 hHeld2.2.2.2.2.2⟩ (fun hHeld3 => ?_)
  clear hK K
  try simp only [Act.put, List.setIfInBounds_toArray, List.set_cons_zero, List.set_cons_succ]
  have HB1 : Below w.heap.size w w1 := HB.out.drew.trans (hb1.mono HB.out.size)
  have HB2 : Hid (Below w.heap.size w w2) := HB1.trans (hb2.mono HB1.size)
  clear hb1 hb2 HB1 hHeld hHeld2
  refine wpAnyH_ready (rs := [10]) (by kernel_rfl) (by simp) ?_
  refine AllReadyH.cons rfl (fun K hK => ?_) AllReadyH.nil
  go_simp
  rw [HOR.out]
  refine hK.out _ _ hHeld3 (fun _ => ?_)
  clear hK K
  try simp only [Act.put, List.setIfInBounds_toArray, List.set_cons_zero, List.set_cons_succ]
  refine wpAnyH_ready (rs := [11]) (by kernel_rfl) (by simp) ?_
  refine AllReadyH.cons rfl (fun K hK => ?_) AllReadyH.nil
  go_simp
  rw [HAN.out]
  refine hK.out _ _ hHeld3 (fun _ => ?_)
  clear hK K
  try simp only [Act.put, List.setIfInBounds_toArray, List.set_cons_zero, List.set_cons_succ]
  refine wpAnyH_ready (rs := [12]) (by kernel_rfl) (by simp) ?_
  refine AllReadyH.cons rfl (fun K hK => ?_) AllReadyH.nil
  go_simp
  refine hK.out _ _ hHeld3 (fun _ => ?_)
  clear hK K
  try simp only [Act.put, List.setIfInBounds_toArray, List.set_cons_zero, List.set_cons_succ]
  refine wpAnyH_done (by kernel_rfl) ?_ _
  go_wp2
  exact HQ.out _ HB2.out
end Go.Proofs.YtljlgffkhocgkaaDoor
