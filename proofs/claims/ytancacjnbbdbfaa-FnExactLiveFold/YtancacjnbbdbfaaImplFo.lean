/- What the program's folded answers. -/
import Derived.Test.YtancacjnbbdbfaaStepO
import Derived.Test.YtancacjnbbdbfaaFoldP
import Derived.Deep.RegionWith
namespace Go.Proofs.Ytancacjnbbdbfaa
open Go.RowKit

set_option maxHeartbeats 1000000 in
theorem value0_any {Q : Ending → World → Prop} (mb : Nat) (n : Int) (w : World)
    (hQ : ∀ w', Below w.heap.size w w' → Q (.returned (.int .i64 n)) w') :
    Calls Try.prog 85 #[.pointer (some ⟨mb, 0, none⟩), .agg #[.int .i64 (-1), .int .i64 n]] w Q := by
  have HQ : Hid _ := hQ
  clear hQ
  have HB0 : Hid (∀ O, Below w.heap.size w (w.alloc O)) := fun O => (Below.refl _ _).alloc (Nat.le_refl _) O
  go_enter Try.func85, Try.ntmps85
  go_wp2
  exact HQ.out _ (HB0.out _)

set_option maxHeartbeats 1000000 in
theorem behind0_any {Q : Ending → World → Prop} (mb : Nat) (s : St) (nv : Value) (w : World) (hi : IntsAt w nv s.next) (hl : s.next.length = 2)
    (hQ : ∀ w', Below w.heap.size w w' → Q (.returned (.int .i64 (if s.an = 0 then s.next.getD 1 0 else s.next.getD 0 0))) w') :
    Calls Try.prog 65 #[.pointer (some ⟨mb, 0, none⟩), .agg #[.int .i64 5, .int .i64 s.dst, .int .i64 s.op, .int .i64 (-1), .int .i64 s.an, .int .i64 s.bv, .int .i64 s.bn, nv]] w Q := by
  have HQ : Hid _ := hQ
  obtain ⟨ao, b, o, cap, rfl, ha, hc⟩ := hi
  obtain rfl := ha (by omega)
  rw [hl] at hc ⊢
  have hb0 : ∀ O, Below w.heap.size w (w.alloc O) := fun O => (Below.refl _ _).alloc (Nat.le_refl _) O
  have HB0 : Hid (∀ O, Below w.heap.size w (w.alloc O)) := hb0
  have y0 := hc 0 (by omega)
  have y1 := hc 1 (by omega)
  simp only [Nat.add_zero] at y0
  clear hQ ha hc hl
  generalize s.next.getD 0 0 = z0 at *
  generalize s.next.getD 1 0 = z1 at *
  go_enter Try.func65, Try.ntmps65
  go_wp2_with fail
  refine value0_any _ s.an _ fun w1 hb1 => ?_
  have HB1 : Hid (Below w.heap.size w w1) := (HB0.out _).trans (hb1.mono (by simp))
  have q7 : w1.cell? ⟨w.heap.size, 7, none⟩ = some (.slice (some ⟨b, o, none⟩) 2 cap) := cell_keep hb1 (by simp [go_sem])
  have k0 := cell_keep HB1.out y0
  have k1 := cell_keep HB1.out y1
  clear hb1 hb0 y0 y1
  by_cases hz : s.an = 0
  · rw [if_pos hz] at HQ
    rw [hz]
    clear hz
    go_wp2
    exact HQ.out _ HB1.out
  · rw [if_neg hz] at HQ
    generalize s.an = y at *
    have hzb : (y == 0) = false := by simpa using hz
    clear hz
    go_wp2
    exact HQ.out _ HB1.out

theorem own_res {w1 : World} {b base g : Nat} {z : Int} (h : w1.ownsRow base 3 1 (.slice (some ⟨g, 0, none⟩) 1 1) 1 [.int .i64 z]) (hb : b < base) (v0 v1 v2 v3 v4 v5 v6 v7 : Value) :
    ((((((((w1.setCell ⟨b, 0, none⟩ v0).setCell ⟨b, 1, none⟩ v1).setCell ⟨b, 2, none⟩ v2).setCell ⟨b, 3, none⟩ v3).setCell ⟨b, 4, none⟩ v4).setCell ⟨b, 5, none⟩ v5).setCell ⟨b, 6, none⟩ v6).setCell ⟨b, 7, none⟩ v7).ownsRow base 3 1 (.slice (some ⟨g, 0, none⟩) 1 1) 1 [.int .i64 z] :=
  ownsRow_setCell_below (ownsRow_setCell_below (ownsRow_setCell_below (ownsRow_setCell_below (ownsRow_setCell_below (ownsRow_setCell_below (ownsRow_setCell_below (ownsRow_setCell_below h hb _) hb _) hb _) hb _) hb _) hb _) hb _) hb _

theorem below_res {w w1 : World} (h : Below w.heap.size w w1) (v0 v1 v2 v3 v4 v5 v6 v7 : Value) :
    Below w.heap.size w ((((((((w1.setCell ⟨w.heap.size + 1, 0, none⟩ v0).setCell ⟨w.heap.size + 1, 1, none⟩ v1).setCell ⟨w.heap.size + 1, 2, none⟩ v2).setCell ⟨w.heap.size + 1, 3, none⟩ v3).setCell ⟨w.heap.size + 1, 4, none⟩ v4).setCell ⟨w.heap.size + 1, 5, none⟩ v5).setCell ⟨w.heap.size + 1, 6, none⟩ v6).setCell ⟨w.heap.size + 1, 7, none⟩ v7) :=
  (((((((h.setCell (Nat.le_succ _) _).setCell (Nat.le_succ _) _).setCell (Nat.le_succ _) _).setCell (Nat.le_succ _) _).setCell (Nat.le_succ _) _).setCell (Nat.le_succ _) _).setCell (Nat.le_succ _) _).setCell (Nat.le_succ _) _

/-- The step that comes back: its list is the one that came in, or new. -/
def FoldRes (w w' : World) (nv nv' : Value) (s : St) : Prop := (nv' = nv ∧ (foldS s).next = s.next) ∨ ∃ g, w.heap.size ≤ g ∧ nv' = .slice (some ⟨g, 0, none⟩) 1 1 ∧ (foldS s).next.length = 1 ∧ w'.ownsRow w.heap.size 3 1 nv' (foldS s).next.length ((foldS s).next.map (Value.int .i64))

set_option maxRecDepth 100000 in
set_option maxHeartbeats 2000000 in
theorem folded_b {Q : Ending → World → Prop} (s : St) (nv : Value) (n : Int) (w : World) (hs : stepB s n = true) (hi : IntsAt w nv s.next) (hk : s.kind = 1) (hv : s.av ≠ -1)
    (hQ : ∀ nv' w', Below w.heap.size w w' → FoldRes w w' nv nv' s → Q (.returned (stepV (foldS s) nv')) w') :
    Calls Try.prog 33 #[stepV s nv] w Q := by
  have hb0 : ∀ O O', Below w.heap.size w ((w.alloc O).alloc O') := fun O O' => ((Below.refl _ _).alloc (Nat.le_refl _) O).alloc (by simp) O'
  have HB0 : Hid _ := hb0
  have HSB : Hid (stepB s n = true) := hs
  clear hb0
  have hf : foldS s = s := by unfold foldS; rw [if_neg (by rintro ⟨h, h2, h3⟩; omega), if_neg (by rintro ⟨h, h2⟩; omega)]
  rw [hf] at hQ
  have HQ : Hid _ := hQ
  have HI : Hid (∀ w', FoldRes w w' nv nv s) := fun _ => Or.inl ⟨rfl, by rw [hf]⟩
  obtain ⟨ao, b, o, cap, rfl, hao, hcc⟩ := id hi
  clear hQ hi hf hs hao hcc
  unfold stepV at HQ ⊢
  have h1 := (set_opnds HSB.out hk).1
  have E1 : Hid (inB s.av 0 11 = true) := by simp only [Hid, inB, Bool.and_eq_true, decide_eq_true_eq]; omega
  have E2 : Hid (inB s.av 0 11 = true) := E1
  rw [hk] at HQ ⊢
  clear hk h1 hv
  go_enter Try.func33, Try.ntmps33
  go_wp2_with (go_at_call 62; refine isVar_any _ _ ?_; first | rw [E1.out] | rw [E2.out])
  refine bodyPost_ret (v := .agg #[.int .i64 1, .int .i64 s.dst, .int .i64 s.op, .int .i64 s.av, .int .i64 s.an, .int .i64 s.bv, .int .i64 s.bn, .slice ao s.next.length cap]) (by simp [results, Try.results33, go_sem]) rfl ?_
  exact HQ.out _ _ (HB0.out _ _) (HI.out _)

set_option maxRecDepth 100000 in
set_option maxHeartbeats 2000000 in
theorem folded_c {Q : Ending → World → Prop} (s : St) (nv : Value) (n : Int) (w : World) (hs : stepB s n = true) (hi : IntsAt w nv s.next) (hk : s.kind = 1) (ha : s.av = -1) (hv : s.bv ≠ -1)
    (hQ : ∀ nv' w', Below w.heap.size w w' → FoldRes w w' nv nv' s → Q (.returned (stepV (foldS s) nv')) w') :
    Calls Try.prog 33 #[stepV s nv] w Q := by
  have hb0 : ∀ O O', Below w.heap.size w ((w.alloc O).alloc O') := fun O O' => ((Below.refl _ _).alloc (Nat.le_refl _) O).alloc (by simp) O'
  have HB0 : Hid _ := hb0
  have HSB : Hid (stepB s n = true) := hs
  clear hb0
  have hf : foldS s = s := by unfold foldS; rw [if_neg (by rintro ⟨h, h2, h3⟩; omega), if_neg (by rintro ⟨h, h2⟩; omega)]
  rw [hf] at hQ
  have HQ : Hid _ := hQ
  have HI : Hid (∀ w', FoldRes w w' nv nv s) := fun _ => Or.inl ⟨rfl, by rw [hf]⟩
  obtain ⟨ao, b, o, cap, rfl, hao, hcc⟩ := id hi
  clear hQ hi hf hs hao hcc
  unfold stepV at HQ ⊢
  have h1 := (set_opnds HSB.out hk).2.1
  have E1 : Hid (inB (-1) 0 11 = false) := (by decide : inB (-1) 0 11 = false)
  have E2 : Hid (inB s.bv 0 11 = true) := by simp only [Hid, inB, Bool.and_eq_true, decide_eq_true_eq]; omega
  rw [hk, ha] at HQ ⊢
  clear hk ha h1 hv
  go_enter Try.func33, Try.ntmps33
  go_wp2_with (go_at_call 62; refine isVar_any _ _ ?_; first | rw [E1.out] | rw [E2.out])
  refine bodyPost_ret (v := .agg #[.int .i64 1, .int .i64 s.dst, .int .i64 s.op, .int .i64 (-1), .int .i64 s.an, .int .i64 s.bv, .int .i64 s.bn, .slice ao s.next.length cap]) (by simp [results, Try.results33, go_sem]) rfl ?_
  exact HQ.out _ _ (HB0.out _ _) (HI.out _)

set_option maxRecDepth 100000 in
set_option maxHeartbeats 2000000 in
theorem folded_e {Q : Ending → World → Prop} (s : St) (nv : Value) (n : Int) (w : World) (hs : stepB s n = true) (hi : IntsAt w nv s.next) (hk : s.kind = 5) (hv : s.av ≠ -1)
    (hQ : ∀ nv' w', Below w.heap.size w w' → FoldRes w w' nv nv' s → Q (.returned (stepV (foldS s) nv')) w') :
    Calls Try.prog 33 #[stepV s nv] w Q := by
  have hb0 : ∀ O O', Below w.heap.size w ((w.alloc O).alloc O') := fun O O' => ((Below.refl _ _).alloc (Nat.le_refl _) O).alloc (by simp) O'
  have HB0 : Hid _ := hb0
  have HSB : Hid (stepB s n = true) := hs
  clear hb0
  have hf : foldS s = s := by unfold foldS; rw [if_neg (by rintro ⟨h, h2, h3⟩; omega), if_neg (by rintro ⟨h, h2⟩; omega)]
  rw [hf] at hQ
  have HQ : Hid _ := hQ
  have HI : Hid (∀ w', FoldRes w w' nv nv s) := fun _ => Or.inl ⟨rfl, by rw [hf]⟩
  obtain ⟨ao, b, o, cap, rfl, hao, hcc⟩ := id hi
  clear hQ hi hf hs hao hcc
  unfold stepV at HQ ⊢
  have h1 := (test_opnd HSB.out hk).1
  have E1 : Hid (inB s.av 0 11 = true) := by simp only [Hid, inB, Bool.and_eq_true, decide_eq_true_eq]; omega
  have E2 : Hid (inB s.av 0 11 = true) := E1
  rw [hk] at HQ ⊢
  clear hk h1 hv
  go_enter Try.func33, Try.ntmps33
  go_wp2_with (go_at_call 62; refine isVar_any _ _ ?_; first | rw [E1.out] | rw [E2.out])
  refine bodyPost_ret (v := .agg #[.int .i64 5, .int .i64 s.dst, .int .i64 s.op, .int .i64 s.av, .int .i64 s.an, .int .i64 s.bv, .int .i64 s.bn, .slice ao s.next.length cap]) (by simp [results, Try.results33, go_sem]) rfl ?_
  exact HQ.out _ _ (HB0.out _ _) (HI.out _)

set_option maxRecDepth 100000 in
set_option maxHeartbeats 2000000 in
theorem folded_f {Q : Ending → World → Prop} (s : St) (nv : Value) (n : Int) (w : World) (hs : stepB s n = true) (hi : IntsAt w nv s.next) (hk1 : s.kind ≠ 1) (hk5 : s.kind ≠ 5)
    (hQ : ∀ nv' w', Below w.heap.size w w' → FoldRes w w' nv nv' s → Q (.returned (stepV (foldS s) nv')) w') :
    Calls Try.prog 33 #[stepV s nv] w Q := by
  have hb0 : ∀ O O', Below w.heap.size w ((w.alloc O).alloc O') := fun O O' => ((Below.refl _ _).alloc (Nat.le_refl _) O).alloc (by simp) O'
  have HB0 : Hid _ := hb0
  have HSB : Hid (stepB s n = true) := hs
  clear hb0
  have hf : foldS s = s := by unfold foldS; rw [if_neg (by rintro ⟨h, h2, h3⟩; omega), if_neg (by rintro ⟨h, h2⟩; omega)]
  rw [hf] at hQ
  have HQ : Hid _ := hQ
  have HI : Hid (∀ w', FoldRes w w' nv nv s) := fun _ => Or.inl ⟨rfl, by rw [hf]⟩
  obtain ⟨ao, b, o, cap, rfl, hao, hcc⟩ := id hi
  clear hQ hi hf hs hao hcc
  unfold stepV at HQ ⊢
  have E1 : Hid (True = True) := rfl
  have E2 : Hid (True = True) := rfl
  have hb1 : (s.kind == 1) = false := by simpa using hk1
  have hb5 : (s.kind == 5) = false := by simpa using hk5
  clear hk1 hk5
  go_enter Try.func33, Try.ntmps33
  go_wp2_with (go_at_call 62; refine isVar_any _ _ ?_; first | rw [E1.out] | rw [E2.out])
  refine bodyPost_ret (v := .agg #[.int .i64 s.kind, .int .i64 s.dst, .int .i64 s.op, .int .i64 s.av, .int .i64 s.an, .int .i64 s.bv, .int .i64 s.bn, .slice ao s.next.length cap]) (by simp [results, Try.results33, go_sem]) rfl ?_
  exact HQ.out _ _ (HB0.out _ _) (HI.out _)

set_option maxRecDepth 100000 in
set_option maxHeartbeats 2000000 in
theorem folded_a {Q : Ending → World → Prop} (s : St) (nv : Value) (n : Int) (w : World) (hs : stepB s n = true) (hi : IntsAt w nv s.next) (hk : s.kind = 1) (ha : s.av = -1) (hv : s.bv = -1)
    (hQ : ∀ nv' w', Below w.heap.size w w' → FoldRes w w' nv nv' s → Q (.returned (stepV (foldS s) nv')) w') :
    Calls Try.prog 33 #[stepV s nv] w Q := by
  have hb0 : ∀ O O', Below w.heap.size w ((w.alloc O).alloc O') := fun O O' => ((Below.refl _ _).alloc (Nat.le_refl _) O).alloc (by simp) O'
  have HB0 : Hid _ := hb0
  have HSB : Hid (stepB s n = true) := hs
  clear hb0
  have hf : foldS s = ⟨2, s.dst, 0, -1, opR s.op s.an s.bn, 0, 0, s.next⟩ := by unfold foldS; rw [if_pos ⟨hk, ha, hv⟩]
  rw [hf] at hQ
  have HQ : Hid _ := hQ
  have HF : Hid (foldS s = ⟨2, s.dst, 0, -1, opR s.op s.an s.bn, 0, 0, s.next⟩) := hf
  have hl := (set_opnds hs hk).2.2
  have HL : Hid (s.next.length = 1) := hl
  obtain ⟨ao, b, o, cap, rfl, hao, hc⟩ := id hi
  obtain rfl := hao (by omega)
  have y0 := hc 0 (by omega)
  simp only [Nat.add_zero] at y0
  have hbl : b < w.heap.size := cell_lt y0
  have hbn : b ≠ w.heap.size := by omega
  have E1 : Hid (inB (-1) 0 11 = false) := (by decide : inB (-1) 0 11 = false)
  clear hQ hi hf hs hao hc
  unfold stepV at HQ ⊢
  rw [hk, ha, hv, hl]
  clear hk ha hv hl
  have HZ : Hid (s.next = [s.next.getD 0 0]) := by
    have h1 := HL.out
    obtain ⟨z, hz⟩ := List.length_eq_one_iff.1 h1
    rw [Hid, hz]
    rfl
  generalize s.next.getD 0 0 = z at *
  go_enter Try.func33, Try.ntmps33
  go_wp2_with (first | (go_at_call 62; refine isVar_any _ _ ?_; rw [E1.out]) | (go_at_call 63; refine implRunOp_any _ _ _ _ ?_))
  generalize opR s.op s.an s.bn = y at *
  have hBW : Below w.heap.size w (((w.alloc (.cells #[.int .i64 1, .int .i64 s.dst, .int .i64 s.op, .int .i64 (-1), .int .i64 s.an, .int .i64 (-1), .int .i64 s.bn, .slice (some ⟨b, o, none⟩) 1 cap] 43)).alloc (.cells #[.int .i64 0, .int .i64 0, .int .i64 0, .int .i64 0, .int .i64 0, .int .i64 0, .int .i64 0, .slice none 0 0] 43)).alloc (.cells #[.int .i64 (-1), .int .i64 y] 40)) := (((Below.refl _ _).alloc (Nat.le_refl _) _).alloc (by simp) _).alloc (by first | (simp; done) | (simp; omega)) _
  have HBW : Hid _ := hBW
  have yz := cell_keep hBW y0
  have x1 : (((w.alloc (.cells #[.int .i64 1, .int .i64 s.dst, .int .i64 s.op, .int .i64 (-1), .int .i64 s.an, .int .i64 (-1), .int .i64 s.bn, .slice (some ⟨b, o, none⟩) 1 cap] 43)).alloc (.cells #[.int .i64 0, .int .i64 0, .int .i64 0, .int .i64 0, .int .i64 0, .int .i64 0, .int .i64 0, .slice none 0 0] 43)).alloc (.cells #[.int .i64 (-1), .int .i64 y] 40)).cell? ⟨w.heap.size, 1, none⟩ = some (.int .i64 s.dst) := by simp [go_sem]
  have x7 : (((w.alloc (.cells #[.int .i64 1, .int .i64 s.dst, .int .i64 s.op, .int .i64 (-1), .int .i64 s.an, .int .i64 (-1), .int .i64 s.bn, .slice (some ⟨b, o, none⟩) 1 cap] 43)).alloc (.cells #[.int .i64 0, .int .i64 0, .int .i64 0, .int .i64 0, .int .i64 0, .int .i64 0, .int .i64 0, .slice none 0 0] 43)).alloc (.cells #[.int .i64 (-1), .int .i64 y] 40)).cell? ⟨w.heap.size, 7, none⟩ = some (.slice (some ⟨b, o, none⟩) 1 cap) := by simp [go_sem]
  have t0 : (((w.alloc (.cells #[.int .i64 1, .int .i64 s.dst, .int .i64 s.op, .int .i64 (-1), .int .i64 s.an, .int .i64 (-1), .int .i64 s.bn, .slice (some ⟨b, o, none⟩) 1 cap] 43)).alloc (.cells #[.int .i64 0, .int .i64 0, .int .i64 0, .int .i64 0, .int .i64 0, .int .i64 0, .int .i64 0, .slice none 0 0] 43)).alloc (.cells #[.int .i64 (-1), .int .i64 y] 40)).cell? ⟨w.heap.size + 1 + 1, 0, none⟩ = some (.int .i64 (-1)) := by simp [go_sem]
  have t1 : (((w.alloc (.cells #[.int .i64 1, .int .i64 s.dst, .int .i64 s.op, .int .i64 (-1), .int .i64 s.an, .int .i64 (-1), .int .i64 s.bn, .slice (some ⟨b, o, none⟩) 1 cap] 43)).alloc (.cells #[.int .i64 0, .int .i64 0, .int .i64 0, .int .i64 0, .int .i64 0, .int .i64 0, .int .i64 0, .slice none 0 0] 43)).alloc (.cells #[.int .i64 (-1), .int .i64 y] 40)).cell? ⟨w.heap.size + 1 + 1, 1, none⟩ = some (.int .i64 y) := by simp [go_sem]
  have z0 : (((w.alloc (.cells #[.int .i64 1, .int .i64 s.dst, .int .i64 s.op, .int .i64 (-1), .int .i64 s.an, .int .i64 (-1), .int .i64 s.bn, .slice (some ⟨b, o, none⟩) 1 cap] 43)).alloc (.cells #[.int .i64 0, .int .i64 0, .int .i64 0, .int .i64 0, .int .i64 0, .int .i64 0, .int .i64 0, .slice none 0 0] 43)).alloc (.cells #[.int .i64 (-1), .int .i64 y] 40)).cell? ⟨w.heap.size + 1, 0, none⟩ = some (.int .i64 0) := by simp [go_sem]
  have z1 : (((w.alloc (.cells #[.int .i64 1, .int .i64 s.dst, .int .i64 s.op, .int .i64 (-1), .int .i64 s.an, .int .i64 (-1), .int .i64 s.bn, .slice (some ⟨b, o, none⟩) 1 cap] 43)).alloc (.cells #[.int .i64 0, .int .i64 0, .int .i64 0, .int .i64 0, .int .i64 0, .int .i64 0, .int .i64 0, .slice none 0 0] 43)).alloc (.cells #[.int .i64 (-1), .int .i64 y] 40)).cell? ⟨w.heap.size + 1, 1, none⟩ = some (.int .i64 0) := by simp [go_sem]
  have z2 : (((w.alloc (.cells #[.int .i64 1, .int .i64 s.dst, .int .i64 s.op, .int .i64 (-1), .int .i64 s.an, .int .i64 (-1), .int .i64 s.bn, .slice (some ⟨b, o, none⟩) 1 cap] 43)).alloc (.cells #[.int .i64 0, .int .i64 0, .int .i64 0, .int .i64 0, .int .i64 0, .int .i64 0, .int .i64 0, .slice none 0 0] 43)).alloc (.cells #[.int .i64 (-1), .int .i64 y] 40)).cell? ⟨w.heap.size + 1, 2, none⟩ = some (.int .i64 0) := by simp [go_sem]
  have z3 : (((w.alloc (.cells #[.int .i64 1, .int .i64 s.dst, .int .i64 s.op, .int .i64 (-1), .int .i64 s.an, .int .i64 (-1), .int .i64 s.bn, .slice (some ⟨b, o, none⟩) 1 cap] 43)).alloc (.cells #[.int .i64 0, .int .i64 0, .int .i64 0, .int .i64 0, .int .i64 0, .int .i64 0, .int .i64 0, .slice none 0 0] 43)).alloc (.cells #[.int .i64 (-1), .int .i64 y] 40)).cell? ⟨w.heap.size + 1, 3, none⟩ = some (.int .i64 0) := by simp [go_sem]
  have z4 : (((w.alloc (.cells #[.int .i64 1, .int .i64 s.dst, .int .i64 s.op, .int .i64 (-1), .int .i64 s.an, .int .i64 (-1), .int .i64 s.bn, .slice (some ⟨b, o, none⟩) 1 cap] 43)).alloc (.cells #[.int .i64 0, .int .i64 0, .int .i64 0, .int .i64 0, .int .i64 0, .int .i64 0, .int .i64 0, .slice none 0 0] 43)).alloc (.cells #[.int .i64 (-1), .int .i64 y] 40)).cell? ⟨w.heap.size + 1, 4, none⟩ = some (.int .i64 0) := by simp [go_sem]
  have z5 : (((w.alloc (.cells #[.int .i64 1, .int .i64 s.dst, .int .i64 s.op, .int .i64 (-1), .int .i64 s.an, .int .i64 (-1), .int .i64 s.bn, .slice (some ⟨b, o, none⟩) 1 cap] 43)).alloc (.cells #[.int .i64 0, .int .i64 0, .int .i64 0, .int .i64 0, .int .i64 0, .int .i64 0, .int .i64 0, .slice none 0 0] 43)).alloc (.cells #[.int .i64 (-1), .int .i64 y] 40)).cell? ⟨w.heap.size + 1, 5, none⟩ = some (.int .i64 0) := by simp [go_sem]
  have z6 : (((w.alloc (.cells #[.int .i64 1, .int .i64 s.dst, .int .i64 s.op, .int .i64 (-1), .int .i64 s.an, .int .i64 (-1), .int .i64 s.bn, .slice (some ⟨b, o, none⟩) 1 cap] 43)).alloc (.cells #[.int .i64 0, .int .i64 0, .int .i64 0, .int .i64 0, .int .i64 0, .int .i64 0, .int .i64 0, .slice none 0 0] 43)).alloc (.cells #[.int .i64 (-1), .int .i64 y] 40)).cell? ⟨w.heap.size + 1, 6, none⟩ = some (.int .i64 0) := by simp [go_sem]
  have z7 : (((w.alloc (.cells #[.int .i64 1, .int .i64 s.dst, .int .i64 s.op, .int .i64 (-1), .int .i64 s.an, .int .i64 (-1), .int .i64 s.bn, .slice (some ⟨b, o, none⟩) 1 cap] 43)).alloc (.cells #[.int .i64 0, .int .i64 0, .int .i64 0, .int .i64 0, .int .i64 0, .int .i64 0, .int .i64 0, .slice none 0 0] 43)).alloc (.cells #[.int .i64 (-1), .int .i64 y] 40)).cell? ⟨w.heap.size + 1, 7, none⟩ = some (.slice none 0 0) := by simp [go_sem]
  have fz0 : ∀ j, (((w.alloc (.cells #[.int .i64 1, .int .i64 s.dst, .int .i64 s.op, .int .i64 (-1), .int .i64 s.an, .int .i64 (-1), .int .i64 s.bn, .slice (some ⟨b, o, none⟩) 1 cap] 43)).alloc (.cells #[.int .i64 0, .int .i64 0, .int .i64 0, .int .i64 0, .int .i64 0, .int .i64 0, .int .i64 0, .slice none 0 0] 43)).alloc (.cells #[.int .i64 (-1), .int .i64 y] 40)).frozen? ⟨w.heap.size + 1, j, none⟩ = false := fun j => by simp [go_sem]
  have sz : (((w.alloc (.cells #[.int .i64 1, .int .i64 s.dst, .int .i64 s.op, .int .i64 (-1), .int .i64 s.an, .int .i64 (-1), .int .i64 s.bn, .slice (some ⟨b, o, none⟩) 1 cap] 43)).alloc (.cells #[.int .i64 0, .int .i64 0, .int .i64 0, .int .i64 0, .int .i64 0, .int .i64 0, .int .i64 0, .slice none 0 0] 43)).alloc (.cells #[.int .i64 (-1), .int .i64 y] 40)).heap.size = w.heap.size + 1 + 1 + 1 := by simp
  have hsz : w.heap.size + 1 < (((w.alloc (.cells #[.int .i64 1, .int .i64 s.dst, .int .i64 s.op, .int .i64 (-1), .int .i64 s.an, .int .i64 (-1), .int .i64 s.bn, .slice (some ⟨b, o, none⟩) 1 cap] 43)).alloc (.cells #[.int .i64 0, .int .i64 0, .int .i64 0, .int .i64 0, .int .i64 0, .int .i64 0, .int .i64 0, .slice none 0 0] 43)).alloc (.cells #[.int .i64 (-1), .int .i64 y] 40)).heap.size := by omega
  clear hBW y0 sz
  generalize (((w.alloc (.cells #[.int .i64 1, .int .i64 s.dst, .int .i64 s.op, .int .i64 (-1), .int .i64 s.an, .int .i64 (-1), .int .i64 s.bn, .slice (some ⟨b, o, none⟩) 1 cap] 43)).alloc (.cells #[.int .i64 0, .int .i64 0, .int .i64 0, .int .i64 0, .int .i64 0, .int .i64 0, .int .i64 0, .slice none 0 0] 43)).alloc (.cells #[.int .i64 (-1), .int .i64 y] 40)) = W at *
  go_region_with (go_at_call 64; refine copyStepN_any s.dst (-1) y z _ ?_; intro g w1 hg hown hb; have hb' : Below W.heap.size W w1 := ⟨hb.os, hb.tape, hb.output, hb.size, hb.block⟩; have e0 := cell_keep hb' z0; have e1 := cell_keep hb' z1; have e2 := cell_keep hb' z2; have e3 := cell_keep hb' z3; have e4 := cell_keep hb' z4; have e5 := cell_keep hb' z5; have e6 := cell_keep hb' z6; have e7 := cell_keep hb' z7; have fz : ∀ j, w1.frozen? ⟨w.heap.size + 1, j, none⟩ = false := fun j => (hb'.frozen (p := ⟨w.heap.size + 1, j, none⟩) hsz).trans (fz0 j))
  all_goals
    have hw1 : Below w.heap.size w w1 := HBW.out.trans (hb'.mono (by omega))
    have hgg : w.heap.size ≤ g := by have : W.heap.size ≤ g := hg; omega
    have HO : Hid (w1.ownsRow W.heap.size 3 1 (.slice (some ⟨g, 0, none⟩) 1 1) 1 [.int .i64 z]) := hown
    have HW1 : Hid (Below w.heap.size w w1) := hw1
    clear hown hb hb' hw1 hg
    go_wp2
    refine bodyPost_ret (v := .agg #[.int .i64 2, .int .i64 s.dst, .int .i64 0, .int .i64 (-1), .int .i64 y, .int .i64 0, .int .i64 0, .slice (some ⟨g, 0, none⟩) 1 1]) (by simp [results, Try.results33, go_sem, e0, e1, e2, e3, e4, e5, e6, e7]) rfl ?_
    refine HQ.out (.slice (some ⟨g, 0, none⟩) 1 1) _ (below_res HW1.out _ _ _ _ _ _ _ _) (Or.inr ⟨g, hgg, rfl, by rw [HF.out]; exact HL.out, ?_⟩)
    rw [HF.out]
    show World.ownsRow _ w.heap.size 3 1 (.slice (some ⟨g, 0, none⟩) 1 1) s.next.length (s.next.map (Value.int .i64))
    rw [HZ.out]
    exact own_lower (own_res HO.out hsz _ _ _ _ _ _ _ _) (by omega)
end Go.Proofs.Ytancacjnbbdbfaa
