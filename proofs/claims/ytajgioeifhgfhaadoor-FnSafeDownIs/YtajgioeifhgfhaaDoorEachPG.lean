/- The bits of a word, from the lowest on, plainly. math/bits.TrailingZeros64: the lowest bit that is set. What a range over a function needs: library texts, and blocks that a round leaves as they are. The bits of a word told by an iterator: each. What stepSet's row answers: of each of so many steps whether the set has it. What the program's ExprComp answers. What the program's ExprKeeps answers. The program's contracts of chapter 11 with the reckoning written out. -/
import Derived.Test.YtajgioeifhgfhaaDoorBitsG
import Derived.Test.YtajgioeifhgfhaaDoorBaseG
import Derived.Test.YtajgioeifhgfhaaDoorImplEC
import Derived.Test.YtajgioeifhgfhaaDoorImplEKA
import Derived.Test.YtajgioeifhgfhaaDoorImplOk
import Derived.Test.YtajgioeifhgfhaaDoorExprO
import Derived.Test.YtajgioeifhgfhaaDoorBoxU
import Derived.Lib.TrailingZeros
import Derived.Shelf.Spec.TrailingZeros
import Derived.RangeFuncNested
import Derived.RangeFuncBound
import Derived.RangeFuncCalls
import Derived.RangeFuncLeaves
import Derived.RangeFuncFrom
import Derived.Shelf.Abstract
import Derived.Shelf.RegionOpen
import Derived.OwnWalkIn
import Derived.TacticsInMore
import Derived.LoopNIn
import Derived.LoopIn
import Derived.Deep.RegionHeld3
namespace Go.Proofs.YtajgioeifhgfhaaDoor

def ctzB (b : BitVec 64) : Nat := Lib.ctz 64 b.toNat

/-- The word without its lowest bit. -/
def clrB (b : BitVec 64) : BitVec 64 := b &&& (b - 1#64)

theorem bs_pos {b : BitVec 64} (h : b ≠ 0#64) : 0 < b.toNat := by
  rcases Nat.eq_zero_or_pos b.toNat with e | e
  · exact absurd (by apply BitVec.eq_of_toNat_eq; simpa using e) h
  · exact e

theorem ctzB_spec {b : BitVec 64} (h : b ≠ 0#64) : ∃ m, b.toNat = 2 ^ ctzB b * (2 * m + 1) ∧ ctzB b < 64 := by
  have hp := bs_pos h
  obtain ⟨m, hm, hk⟩ := Lib.ctzFrom_spec 64 b.toNat hp (bs_lt b)
  refine ⟨m, ?_, ?_⟩
  · unfold ctzB Lib.ctz
    rw [if_neg (by omega)]
    exact hm
  · unfold ctzB Lib.ctz
    rw [if_neg (by omega)]
    exact hk

theorem clrB_get {b : BitVec 64} (h : b ≠ 0#64) (j : Nat) (hj : j < 64) : (clrB b).getLsbD j = (b.getLsbD j && decide (j ≠ ctzB b)) ∧ (j < ctzB b → b.getLsbD j = false) ∧ (j = ctzB b → b.getLsbD j = true) := by
  obtain ⟨m, hm, hk⟩ := ctzB_spec h
  have hp := bs_pos h
  have hsub : (b - 1#64).toNat = b.toNat - 1 := by
    rw [BitVec.toNat_sub]
    have := bs_lt b
    simp
    omega
  have hx1 : b.toNat - 1 = 2 ^ ctzB b * (2 * m) + (2 ^ ctzB b - 1) := by
    rw [hm]
    have h2 : 0 < 2 ^ ctzB b := Nat.two_pow_pos _
    generalize 2 ^ ctzB b = z at *
    rw [Nat.mul_add]
    omega
  have tb : b.getLsbD j = b.toNat.testBit j := rfl
  have tc : (clrB b).getLsbD j = (b.toNat.testBit j && (b.toNat - 1).testBit j) := by
    unfold clrB
    rw [BitVec.getLsbD_and]
    show (b.toNat.testBit j && (b - 1#64).toNat.testBit j) = _
    rw [hsub]
  have e1 : b.toNat.testBit j = (decide (ctzB b ≤ j) && (2 * m + 1).testBit (j - ctzB b)) := by
    rw [hm, Nat.testBit_two_pow_mul]
  have e2 : (b.toNat - 1).testBit j = if j < ctzB b then (2 ^ ctzB b - 1).testBit j else (2 * m).testBit (j - ctzB b) := by
    rw [hx1, Nat.testBit_two_pow_mul_add _ (by have : 0 < 2 ^ ctzB b := Nat.two_pow_pos _; omega)]
  rcases Nat.lt_trichotomy j (ctzB b) with hlt | heq | hgt
  · have : b.toNat.testBit j = false := by rw [e1]; simp; omega
    refine ⟨?_, fun _ => by rw [tb, this], fun e => by omega⟩
    rw [tc, tb, this]; rfl
  · subst heq
    have h1 : b.toNat.testBit (ctzB b) = true := by rw [e1]; simp
    refine ⟨?_, fun h => by omega, fun _ => by rw [tb, h1]⟩
    rw [tc, tb, h1, e2]
    simp
  · have hne : j ≠ ctzB b := by omega
    refine ⟨?_, fun h => by omega, fun e => by omega⟩
    rw [tc, tb, e2, if_neg (by omega)]
    have e3 : b.toNat.testBit j = (2 * m).testBit (j - ctzB b) := by
      rw [e1]
      obtain ⟨i, hi⟩ : ∃ i, j - ctzB b = i + 1 := ⟨j - ctzB b - 1, by omega⟩
      rw [hi, Nat.testBit_succ, Nat.testBit_succ]
      have : (2 * m + 1) / 2 = m := by omega
      have : 2 * m / 2 = m := by omega
      simp [*]
      omega
    rw [← e3]
    simp [hne]

theorem clrB_lt {b : BitVec 64} (h : b ≠ 0#64) : (clrB b).toNat < b.toNat := by
  have h1 : (clrB b).toNat ≤ (b - 1#64).toNat := by
    unfold clrB
    rw [BitVec.toNat_and]
    exact Nat.and_le_right
  have hp := bs_pos h
  have hsub : (b - 1#64).toNat = b.toNat - 1 := by
    rw [BitVec.toNat_sub]
    have := bs_lt b
    simp
    omega
  omega

/-- The bits that are set, from the lowest on. -/
def IsBits (N : Nat) : BitVec 64 → List (Fin N) → Prop
  | b, [] => b = 0#64
  | b, y :: r => b ≠ 0#64 ∧ y.1 = ctzB b ∧ IsBits N (clrB b) r

theorem isBits_some {N : Nat} (hN : N ≤ 64) : ∀ (n : Nat) (b : BitVec 64), b.toNat ≤ n → (∀ j, j < 64 → b.getLsbD j = true → j < N) → ∃ xs : List (Fin N), IsBits N b xs ∧ (∀ y : Fin N, y ∈ xs ↔ b.getLsbD y.1 = true) ∧ xs.Pairwise (fun a b => a.1 < b.1) ∧ xs.length ≤ n := by
  intro n
  induction n with
  | zero =>
    intro b hb _
    have e : b = 0#64 := by apply BitVec.eq_of_toNat_eq; simp; omega
    exact ⟨[], e, fun y => by simp [e], List.Pairwise.nil, by simp⟩
  | succ n ih =>
    intro b hb hset
    by_cases e : b = 0#64
    · exact ⟨[], e, fun y => by simp [e], List.Pairwise.nil, by simp⟩
    · obtain ⟨_, _, hk⟩ := ctzB_spec e
      have hkN := hset (ctzB b) hk ((clrB_get e (ctzB b) hk).2.2 rfl)
      obtain ⟨xs, h1, h2, h3, h4⟩ := ih (clrB b) (by have := clrB_lt e; omega) (fun j hj hb => hset j hj (by
        have h5 := (clrB_get e j hj).1
        rw [h5] at hb
        simp at hb
        exact hb.1))
      refine ⟨⟨ctzB b, hkN⟩ :: xs, ⟨e, rfl, h1⟩, fun y => ?_, ?_, by simp; omega⟩
      · have h6 := (clrB_get e y.1 (by have := y.2; omega))
        rw [List.mem_cons, h2 y, h6.1]
        constructor
        · rintro (rfl | h)
          · exact h6.2.2 rfl
          · simp at h; exact h.1
        · intro h
          by_cases e2 : y.1 = ctzB b
          · exact Or.inl (Fin.ext e2)
          · exact Or.inr (by simp [h, e2])
      · refine List.Pairwise.cons (fun y hy => ?_) h3
        have h6 := (clrB_get e y.1 (by have := y.2; omega))
        have h7 := (h2 y).1 hy
        rw [h6.1] at h7
        simp at h7
        rcases Nat.lt_trichotomy y.1 (ctzB b) with hlt | heq | hgt
        · rw [h6.2.1 hlt] at h7
          exact absurd h7.1 (by simp)
        · exact absurd heq h7.2
        · exact hgt
end Go.Proofs.YtajgioeifhgfhaaDoor
namespace Go.Proofs.YtajgioeifhgfhaaDoor
open Go.RowKit

/-- The library's table lies in its variable. -/
def Tab (w : World) : Prop := TabAt 0 Lib.deBruijn64tab w

theorem Tab.keep {w w' : World} (h : Tab w) (hb : Below w.heap.size w w') : Tab w' := fun j hj => cell_keep hb (h j hj)

theorem tab_len : Lib.deBruijn64tab.length = 64 := by decide

set_option maxHeartbeats 1000000 in
theorem tz_core {Q : Ending → World → Prop} (x k idx : Nat) (w : World) (hx0 : ((x : Int) == 0) = false)
    (key : IntKind.u64.wrap (bits BinOp.and IntKind.u64 (x : Int) (IntKind.u64.wrap (-(x : Int))) * 285870213051353865) / 288230376151711744 = (idx : Int))
    (hi : idx < 64) (hk : k < 64) (hcell : w.cell? ⟨0, idx, none⟩ = some (.int .u8 k)) (hQ : Q (.returned (.int .i64 (k : Int))) w) :
    Calls Tryd.prog 111 #[.int .u64 (x : Int)] w Q := by
  have HQ : Hid _ := hQ
  clear hQ
  go_enter Tryd.func111, Tryd.ntmps111
  go_wp2_with (simp only [key])
  exact HQ.out

theorem tz_any {Q : Ending → World → Prop} (b : BitVec 64) (w : World) (hT : Tab w) (hb : b ≠ 0#64)
    (hQ : Q (.returned (.int .i64 (Lib.ctz 64 b.toNat : Int))) w) :
    Calls Tryd.prog 111 #[bsV b] w Q := by
  have hne : b.toNat ≠ 0 := fun e => hb (by apply BitVec.eq_of_toNat_eq; simpa using e)
  obtain ⟨hlow, hk⟩ := Lib.lowest_bit 64 b.toNat hne (bs_lt b)
  obtain ⟨hi, htab⟩ := Lib.deBruijn64_at _ hk
  have hc := hT _ (Nat.lt_of_lt_of_eq hi tab_len.symm)
  rw [htab] at hc
  exact tz_core b.toNat _ _ w (by rw [beq_eq_false_iff_ne]; omega) (tz64_key b.toNat _ (bs_lt b) hne hlow) hi hk hc hQ
end Go.Proofs.YtajgioeifhgfhaaDoor
namespace Go.Proofs.YtajgioeifhgfhaaDoor
open Go.RowKit Go.Shelf

/-- Blocks that a round leaves as they are. -/
def Kp2 (a b : Nat) (W W' : World) : Prop := W'.heap[a]? = W.heap[a]? ∧ W'.heap[b]? = W.heap[b]?

theorem Kp2.t {a b : Nat} {A B C : World} (h : Kp2 a b A B) (k : Kp2 a b B C) : Kp2 a b A C := ⟨k.1.trans h.1, k.2.trans h.2⟩

theorem Kp2.b {a b : Nat} {w : World} (ha : a < w.heap.size) (hb : b < w.heap.size) (W : World) (l : Nat) (o o' : Obj) (hl : w.heap.size ≤ l) (h : W.heap[l]? = some o) (_ : o.isCells = false) (_ : o.isWalk = false) : Kp2 a b W (W.putObj l o') := by
  have h1 := grownBy_putObj' W l o'
  have hlt := (Array.getElem?_eq_some_iff.1 h).1
  exact ⟨h1.block a (by omega) (fun e => by cases e; omega), h1.block b (by omega) (fun e => by cases e; omega)⟩

theorem Kp2.refl (a b : Nat) (W : World) : Kp2 a b W W := ⟨rfl, rfl⟩

end Go.Proofs.YtajgioeifhgfhaaDoor
namespace Go.Proofs.YtajgioeifhgfhaaDoor
open Go.RowKit Go.Shelf

attribute [local go_sem] Oper.semAt_some

theorem bits_and_clr (b : BitVec 64) (h : b ≠ 0#64) : bits BinOp.and IntKind.u64 (b.toNat : Int) (IntKind.u64.wrap ((b.toNat : Int) - 1)) = ((clrB b).toNat : Int) := by
  have hp := bs_pos h
  have e : IntKind.u64.wrap ((b.toNat : Int) - 1) = ((b - 1#64).toNat : Int) := by
    rw [IntKind.wrap_u64, BitVec.toNat_sub]
    have := bs_lt b
    simp
    omega
  rw [e, bits_and]
  rfl

set_option maxRecDepth 100000 in
set_option maxHeartbeats 1000000 in
theorem each1_in {R : Ending → World → Prop} (n l Bs N : Nat) (b : BitVec 64) (hn : 1 ≤ n) (xs : List (Fin N)) (hI : IsBits N b xs) (J Jx : List (Fin N) → World → Prop)
    (hY : ∀ pre y W, J pre W → pre.length < xs.length → YieldAt Fence.wide (n - 1) Tryd.prog l #[.int .i64 ((y : Fin N).1 : Int)] W fun e W' =>
      (e = .returned (.bool true) ∧ J (pre ++ [y]) W' ∧ Kp2 0 0 W W') ∨ (e = .returned (.bool false) ∧ Jx (pre ++ [y]) W'))
    (W : World) (hBs : W.cell? ⟨Bs, 0, none⟩ = some (bsV b)) (hT : Tab W) (hJ0 : J [] W) (hR1 : ∀ v W', J xs W' → R (.returned v) W') (hR2 : ∀ v pre W', pre <+: xs → Jx pre W' → R (.returned v) W') :
    CallsIn Fence.wide n Tryd.prog 110 #[.func (.yield l) #[] #[], .pointer (some ⟨Bs, 0, none⟩)] W R := by
  have HI : Hid (IsBits N b xs) := hI
  have HY : Hid _ := hY
  have HT : Hid (Tab W) := hT
  have HR1 : Hid _ := hR1
  have HR2 : Hid _ := hR2
  clear hI hY hT hR1 hR2
  unfold bsV at hBs
  refine callsIn_of_wp Tryd.func110 rfl trivial ?_ rfl
  simp only [Tryd.ntmps110, List.size_toArray, List.length_cons, List.length_nil, Nat.reduceAdd, Nat.reduceSub, Array.replicate_succ, Array.replicate_zero, List.push_toArray, List.append_toArray, List.nil_append, List.cons_append]
  gi_wp2
  gi_loopw [3] (fun p wr => ∃ (pre rest : List (Fin N)) (q : BitVec 64), p = .int .u64 (q.toNat : Int) ∧ xs = pre ++ rest ∧ IsBits N q rest ∧ J pre wr ∧ Kp2 0 0 W wr) (fun p _ => (intOf p).toNat)
  case atStart => exact ⟨[], xs, b, rfl, rfl, HI.out, hJ0, Kp2.refl _ _ _⟩
  case round =>
    obtain ⟨pre, rest, q, rfl, hx2, hl, hJs, hK⟩ := hrel
    have HX2 : Hid (xs = pre ++ rest) := hx2
    have HK : Hid (Kp2 0 0 W wr) := hK
    have HL : Hid (IsBits N q rest) := hl
    have HTr : Hid (Tab wr) := fun j hj => (World.cell?_of_block (w := W) (a := ⟨0, j, none⟩) hK.1).trans (HT.out j hj)
    have HJ : Hid (J pre wr) := hJs
    clear hx2 hK hl
    cases rest with
    | nil =>
      have hq : q = 0#64 := HL.out
      have hq0 : (q.toNat : Int) = 0 := bs_zero.2 hq
      clear hJs hq
      generalize (q.toNat : Int) = z at *
      subst hq0
      gi_wp2
      go_end0
      exact HR1.out _ _ (by rw [HX2.out, List.append_nil]; exact HJ.out)
    | cons y rest =>
      have hq : q ≠ 0#64 := HL.out.1
      have HQ0 : Hid (q ≠ 0#64) := hq
      have hq0 : ((q.toNat : Int) == 0) = false := by rw [beq_eq_false_iff_ne]; exact fun e => hq (bs_zero.1 e)
      have hyk : (Lib.ctz 64 q.toNat : Int) = (y.1 : Int) := by have := HL.out.2.1; unfold ctzB at this; omega
      obtain ⟨fn, tmps, assign, body, hy, hR⟩ := HY.out pre y wr hJs (by rw [HX2.out]; simp)
      have HCLR : Hid (bits BinOp.and IntKind.u64 (q.toNat : Int) (IntKind.u64.wrap ((q.toNat : Int) - 1)) = ((clrB q).toNat : Int)) := bits_and_clr q hq
      have HLT : Hid ((clrB q).toNat < q.toNat) := clrB_lt hq
      clear hJs hq
      gi_wp2
      refine ⟨trivial, callsIn_wide.2 ?_⟩
      refine tz_any q _ HTr.out HQ0.out ?_
      rw [hyk]
      gi_wp2
      refine hR.mono ?_
      rintro e W3 (⟨rfl, hJ3, hk3⟩ | ⟨rfl, hJx3⟩)
      · have HK3 : Hid (Kp2 0 0 W W3) := HK.out.t hk3
        have HJ3 : Hid (J (pre ++ [y]) W3) := hJ3
        clear hk3 hJ3
        gi_wp2
        rw [HCLR.out]
        go_roundw
        case rel => exact ⟨pre ++ [y], rest, clrB q, rfl, by rw [HX2.out]; simp, HL.out.2.2, HJ3.out, HK3.out⟩
        case measure =>
          have := HLT.out
          simp [intOf]; omega
      · have HJx : Hid (Jx (pre ++ [y]) W3) := hJx3
        clear hJx3
        gi_wp2
        refine bodyPost_ret (results_none rfl _ _ _) rfl ?_
        exact HR2.out _ (pre ++ [y]) _ ⟨rest, by rw [HX2.out]; simp⟩ HJx.out

theorem each_stops (n Bs N : Nat) (b : BitVec 64) (hn : 1 ≤ n) (xs : List (Fin N)) (hI : IsBits N b xs) (w : World) (hBs : w.cell? ⟨Bs, 0, none⟩ = some (bsV b)) (hT : Tab w) :
    SeqStopsK Fence.wide n Tryd.prog 110 #[.pointer (some ⟨Bs, 0, none⟩)] (fun y : Fin N => #[Value.int .i64 (y.1 : Int)]) (Kp2 0 0) (fun ys => ys = xs) (fun pre => pre <+: xs) xs.length w := fun l J Jx W hW _ _ hY hJ0 =>
  each1_in n l Bs N b hn xs hI J Jx hY W (cell_keep hW hBs) (hT.keep hW) hJ0 (fun v _ h => ⟨⟨v, rfl⟩, .inl ⟨xs, rfl, h⟩⟩) (fun v pre _ h1 h2 => ⟨⟨v, rfl⟩, .inr ⟨pre, h1, h2⟩⟩)

set_option maxHeartbeats 1000000 in
theorem each_in (n : Nat) (b : BitVec 64) (w : World) :
    CallsIn Fence.wide n Tryd.prog 78 #[bsV b] w fun e w' => e = .returned (.func (.func 110) #[] #[.pointer (some ⟨w.heap.size, 0, none⟩)]) ∧ w' = w.alloc (.cells #[bsV b] 73) := by
  unfold bsV
  refine callsIn_of_wp Tryd.func78 rfl trivial ?_ rfl
  simp only [Tryd.ntmps78, List.size_toArray, List.length_cons, List.length_nil, Nat.reduceAdd, Nat.reduceSub, Array.replicate_succ, Array.replicate_zero, List.push_toArray, List.append_toArray, List.nil_append, List.cons_append]
  gi_wp2
  go_ret
  exact ⟨rfl, rfl⟩
end Go.Proofs.YtajgioeifhgfhaaDoor
namespace Go.Proofs.YtajgioeifhgfhaaDoor
open Go.RowKit Go.Shelf

attribute [local go_sem] Oper.semAt_some

theorem rowIs_grownS {W W' : World} {row : Option Nat} {b n B : Nat} {t : TypeId} {f : Nat → Value} (h : W.rowIs b t n f) (hg : W.grownBy W' row) (hr : ∀ r, row = some r → B ≤ r ∧ ∃ o : Obj, W.heap[r]? = some o ∧ o.isCells = false) (hb : b < B) : W'.rowIs b t n f :=
  h.of_block (hg.block b h.lt fun e => by have := (hr b e.symm).1; omega)

theorem cell_grownS {W W' : World} {row : Option Nat} {a : Addr} {v : Value} {B : Nat} (h : W.cell? a = some v) (hg : W.grownBy W' row) (hr : ∀ r, row = some r → B ≤ r ∧ ∃ o : Obj, W.heap[r]? = some o ∧ o.isCells = false) (hb : a.block < B) : W'.cell? a = some v :=
  (World.cell?_of_block (w := W) (a := a) (hg.block a.block (cell_lt h) fun e => by have := (hr a.block e.symm).1; omega)).trans h

theorem infoBoolS : (Tryd.prog.info? 4).map (fun i => (i.zero, i.size, i.bytes)) = some (some (.bool false), 1, 1) := by kernel_rfl

theorem info_partsS {t : TypeId} {z : Value} {n k : Nat} (h : (Tryd.prog.info? t).map (fun i => (i.zero, i.size, i.bytes)) = some (some z, n, k)) : ∃ i, Tryd.prog.info? t = some i ∧ i.zero = some z ∧ i.size = n ∧ i.bytes = k := by
  simp only [Option.map_eq_some_iff, Prod.mk.injEq] at h
  obtain ⟨i, h1, h2, h3, h4⟩ := h
  exact ⟨i, h1, h2, h3, h4⟩

set_option maxRecDepth 100000 in
set_option maxHeartbeats 2000000 in
theorem row_in {R : Ending → World → Prop} (N : Nat) (hN : N ≤ 64) (b : BitVec 64) (xs : List (Fin N)) (hI : IsBits N b xs) (w : World) (hT : Tab w) (hg : 0 < w.heap.size)
    (hR : ∀ w', Below w.heap.size w w' → w'.rowIs w.heap.size 4 N (fun j => .bool (onB xs j)) → R (.returned (.slice (some ⟨w.heap.size, 0, none⟩) N N)) w') :
    CallsIn Fence.wide 10 Tryd.prog 54 #[bsV b, .int .i64 (N : Int)] w R := by
  have HR : Hid _ := hR
  have HT : Hid (Tab w) := hT
  have HI : Hid (IsBits N b xs) := hI
  clear hR hT hI
  obtain ⟨i0, hi, hz0, hz1, hz2⟩ := info_partsS infoBoolS
  have hmk : ∀ w, (Instr.makeSlice 32 (.int .i64 (N : Int)) (.int .i64 (N : Int))).run Tryd.prog w = .ok (.slice (some ⟨w.heap.size, 0, none⟩) N N) (w.alloc (.cells (madeCells #[.bool false] N) 4)) := fun w => run_make_row 32 4 i0 (.bool false) Tryd.underlying32 hi hz0 hz1 rfl .i64 .i64 N (by rw [hz2]; omega) (by omega) w
  unfold bsV
  refine callsIn_of_wp_marks Tryd.func54 rfl trivial ?_ rfl
  simp only [Tryd.ntmps54, List.size_toArray, List.length_cons, List.length_nil, Nat.reduceAdd, Nat.reduceSub, Array.replicate_succ, Array.replicate_zero, List.push_toArray, List.append_toArray, List.nil_append, List.cons_append]
  gi_wp2
  refine ⟨trivial, (each_in 9 b _).mono ?_⟩
  rintro e w' ⟨rfl, rfl⟩
  gi_wp2
  have hb0 : Below w.heap.size w (((w.alloc (.cells (madeCells #[.bool false] N) 4)).alloc (.cells #[.slice (some ⟨w.heap.size, 0, none⟩) N N] 32)).alloc (.cells #[bsV b] 73)) := (((Below.refl _ w).alloc (Nat.le_refl _) _).alloc (by simp) _).alloc (by simp; omega) _
  have hr0 := ((World.rowIs_made w (.bool false) N 4).alloc (.cells #[.slice (some ⟨w.heap.size, 0, none⟩) N N] 32)).alloc (.cells #[bsV b] 73)
  generalize hW : ((w.alloc (.cells (madeCells #[.bool false] N) 4)).alloc (.cells #[.slice (some ⟨w.heap.size, 0, none⟩) N N] 32)).alloc (.cells #[bsV b] 73) = W0 at *
  have hs0 : W0.heap.size = w.heap.size + 3 := by rw [← hW]; simp
  have hc1 : W0.cell? ⟨w.heap.size + 1, 0, none⟩ = some (.slice (some ⟨w.heap.size, 0, none⟩) N N) := by rw [← hW]; simp [go_sem]
  have hc2 : W0.cell? ⟨w.heap.size + 1 + 1, 0, none⟩ = some (bsV b) := by rw [← hW]; simp [go_sem]
  have hTW := HT.out.keep hb0
  clear hW
  refine wpIn_rangeFunc_ownF (N := xs.length) (encs := fun y : Fin N => #[Value.int .i64 (y.1 : Int)]) rfl (by omega) (gf := 110) (lb := #[.pointer (some ⟨w.heap.size + 1 + 1, 0, none⟩)]) rfl trivial (enters_of Tryd.func110 (by kernel_rfl) rfl)
    (each_stops 9 (w.heap.size + 1 + 1) N b (by omega) xs HI.out W0 hc2 hTW) (fun h k => Kp2.t h k) (fun W l o o' h1 h2 h3 h4 => Kp2.b (w := W0) (by omega) (by omega) W l o o' h1 h2 h3 h4) (Below.refl _ _) (fun _ => rfl)
    (fun pre W => (W.rowIs w.heap.size 4 N (fun j => .bool (onB pre j)) ∧ W.cell? ⟨w.heap.size + 1, 0, none⟩ = some (.slice (some ⟨w.heap.size, 0, none⟩) N N)) ∧ Below w.heap.size w W)
    (fun _ _ _ => False)
    (OwnFrom.and (fun s A B row hs hg hr => ⟨rowIs_grownS hs.1 hg hr (by omega), cell_grownS hs.2 hg hr (by show w.heap.size + 1 < W0.heap.size; omega)⟩) (ownFrom_below (Nat.le_refl _) (by omega)))
    (fun _ _ _ _ _ hs _ _ => hs)
    ⟨⟨hr0.congr fun i _ => by simp [onB], hc1⟩, hb0⟩
    (fun y => { tmps := #[.int .u64 (b.toNat : Int), .int .i64 (N : Int), undef, undef, .slice none 0 0, .pointer (some ⟨w.heap.size + 1, 0, none⟩), .int .i64 (y.1 : Int), .int .i64 (N : Int), .slice (some ⟨w.heap.size, 0, none⟩) N N, .int .u64 (b.toNat : Int), .func (.func 110) #[] #[.pointer (some ⟨w.heap.size + 1 + 1, 0, none⟩)], .int .i64 (y.1 : Int), undef, undef, undef, undef], defers := [] }) ?assign ?body ?done ?stop
  case assign =>
    intro l y W K hK
    gi_wp2
    exact hK
  case body =>
    rintro l pre y W ⟨⟨hrow, hc⟩, hB⟩ _
    have hy := y.2
    have hyi : (y.1 : Int) < (N : Int) := by omega
    have cy := hrow.cell hy
    have fy := hrow.frozen y.1
    have HROW : Hid (W.rowIs w.heap.size 4 N (fun j => .bool (onB pre j))) := hrow
    have HB : Hid (Below w.heap.size w W) := hB
    clear hrow hB
    gi_wp2
    have h5 : (W.setCell ⟨w.heap.size, y.1, none⟩ (.bool true)).heap[0]? = W.heap[0]? := Below.heap_setCell W _ _ _ (by show 0 ≠ w.heap.size; omega)
    refine ⟨KeepsOthers.setCell _ _ _, ⟨h5, h5⟩, ⟨(HROW.out.set y.1 _).congr fun i hi => ?_, ?_⟩, HB.out.setCell (p := ⟨w.heap.size, y.1, none⟩) (Nat.le_refl _) _⟩
    · rw [onB_snoc]
      by_cases e : i = y.1 <;> simp [e]
    · rw [cell_setOther _ _ _ _ (by show w.heap.size + 1 ≠ w.heap.size; omega)]; exact hc
  case done =>
    rintro D ys W hD rfl ⟨⟨hrow, hc⟩, hB⟩ hK
    have HROW : Hid (W.rowIs w.heap.size 4 N (fun j => .bool (onB ys j))) := hrow
    have HB : Hid (Below w.heap.size w W) := hB
    clear hrow hB
    gi_wp2
    refine ⟨by simp, .inl ⟨_, _, rfl, run_takeDeferred hK, ?_⟩⟩
    refine ⟨_, results_tmp rfl _ _ _, ?_⟩
    exact HR.out _ (HB.out.trans (belowK_b (w := w) (Nat.le_refl _) W D _ _ (by omega) hK rfl rfl)) (HROW.out.of_block ((grownBy_putObj' W D _).block _ HROW.out.lt fun e => by cases e; omega))
  case stop =>
    rintro D c pre W _ _ h _
    exact h.elim

/-- row: of each of so many steps whether the set has it. -/
theorem row_any {Q : Ending → World → Prop} (N : Nat) (hN : N ≤ 64) (b : BitVec 64) (hb : ∀ j, j < 64 → b.getLsbD j = true → j < N) (w : World) (hT : Tab w) (hg : 0 < w.heap.size)
    (hQ : ∀ w', Below w.heap.size w w' → w'.rowIs w.heap.size 4 N (fun j => .bool (b.getLsbD j)) → Q (.returned (.slice (some ⟨w.heap.size, 0, none⟩) N N)) w') :
    Calls Tryd.prog 54 #[bsV b, .int .i64 (N : Int)] w Q := by
  obtain ⟨xs, h1, h2, h3, _⟩ := isBits_some hN b.toNat b (Nat.le_refl _) hb
  refine (callsIn_wide (n := 10)).1 (row_in N hN b xs h1 w hT hg fun w' hb' hr => hQ w' hb' (hr.congr fun j hj => ?_))
  congr 1
  cases e : b.getLsbD j with
  | true => exact onB_mem.2 ⟨⟨j, hj⟩, (h2 ⟨j, hj⟩).2 e, rfl⟩
  | false =>
    cases e2 : onB xs j with
    | false => rfl
    | true =>
      obtain ⟨k, hk, rfl⟩ := onB_mem.1 e2
      rw [(h2 k).1 hk] at e
      cases e
end Go.Proofs.YtajgioeifhgfhaaDoor
namespace Go.Proofs.YtajgioeifhgfhaaDoor
open Go.RowKit Go.Maps

theorem CompW.row {ss : List St} {e : E5} {b : BitVec 64} (h : CompW ss e b) (hn : ss.length ≤ 60) : (List.range ss.length).map (fun j => Value.bool (b.getLsbD j)) = (ss.map (compB e)).map Value.bool := by
  apply List.ext_getElem
  · simp
  · intro i h1 h2
    simp at h1 h2
    simp only [List.getElem_map, List.getElem_range]
    rw [h.get h1 (by omega)]

set_option maxRecDepth 100000 in
set_option maxHeartbeats 4000000 in
theorem implComp_any {Q : Ending → World → Prop} (v : Value) (ss : List St) (e : E5) (w : World) (h : StepsAt w v ss) (hT : Tab w) (hg : 0 < w.heap.size) (hl : ss.length ≤ 1048576) (hls : ∀ s ∈ ss, s.next.length ≤ 1048576)
    (hQ : ∀ v' rs w', Below w.heap.size w w' → RowOr compB ss e rs → w'.ownsRow w.heap.size 4 1 v' rs.length (rs.map Value.bool) → Q (.returned v') w') :
    Calls Tryd.prog 14 #[.agg #[v], exV e] w Q := by
  have HQ : Hid _ := hQ
  clear hQ
  obtain ⟨ao, b, o, cap, rfl, ha, hc⟩ := id h
  clear ha hc
  have HH : Hid (StepsAt w (.slice ao ss.length cap) ss) := h
  have HL : Hid (∀ s ∈ ss, s.next.length ≤ 1048576) := hls
  have HT : Hid (∀ X, Below w.heap.size w X → Tab X ∧ 0 < X.heap.size) := fun X hX => ⟨hT.keep hX, Nat.lt_of_lt_of_le hg hX.size⟩
  clear hls h hT hg
  have hb0 : ∀ O O', Below w.heap.size w ((w.alloc O).alloc O') := fun O O' => ((Below.refl _ _).alloc (Nat.le_refl _) O).alloc (by simp) O'
  have hexv : exV e = .agg #[.int .i64 e.op, .int .i64 e.av, .int .i64 e.an, .int .i64 e.bv, .int .i64 e.bn] := rfl
  have HXV : Hid (exV e = .agg #[.int .i64 e.op, .int .i64 e.av, .int .i64 e.an, .int .i64 e.bv, .int .i64 e.bn]) := rfl
  rw [hexv]
  clear hexv
  go_enter Tryd.func14, Tryd.ntmps14
  go_wp2_with fail
  refine implOk_any _ ss _ (HH.out.keep (hb0 _ _)) hl HL.out fun w2 hb2 => ?_
  have hbB : Below w.heap.size w w2 := (hb0 _ _).trans (hb2.mono (by simp; omega))
  have q2 : w2.cell? ⟨w.heap.size, 0, none⟩ = some (.slice ao ss.length cap) := cell_keep hb2 (by simp [go_sem])
  have x0 : w2.cell? ⟨w.heap.size + 1, 0, none⟩ = some (.int .i64 e.op) := cell_keep hb2 (by simp [go_sem])
  have x1 : w2.cell? ⟨w.heap.size + 1, 1, none⟩ = some (.int .i64 e.av) := cell_keep hb2 (by simp [go_sem])
  have x2 : w2.cell? ⟨w.heap.size + 1, 2, none⟩ = some (.int .i64 e.an) := cell_keep hb2 (by simp [go_sem])
  have x3 : w2.cell? ⟨w.heap.size + 1, 3, none⟩ = some (.int .i64 e.bv) := cell_keep hb2 (by simp [go_sem])
  have x4 : w2.cell? ⟨w.heap.size + 1, 4, none⟩ = some (.int .i64 e.bn) := cell_keep hb2 (by simp [go_sem])
  have HB2 : Hid (Below w.heap.size w w2) := hbB
  clear hb2 hb0 hbB
  cases hok : okB ss
  · have HR : Hid (RowOr compB ss e []) := by simp [Hid, RowOr, hok]
    clear hok
    go_wp2
    exact HQ.out _ [] _ HB2.out HR.out (World.ownsRow_nil _ _ _ _)
  have HOK : Hid (okB ss = true) := hok
  have hn2 : ss.length ≤ 60 := (ok_len hok).2
  clear hok
  go_wp2_with fail
  rw [← HXV.out]
  refine implExprOk_any e _ fun w3 hb3 => ?_
  rw [HXV.out]
  have q3 := cell_keep hb3 q2
  have y0 := cell_keep hb3 x0
  have y1 := cell_keep hb3 x1
  have y2 := cell_keep hb3 x2
  have y3 := cell_keep hb3 x3
  have y4 := cell_keep hb3 x4
  have HB3 : Hid (Below w.heap.size w w3) := HB2.out.trans (hb3.mono HB2.out.size)
  clear hb3 q2 x0 x1 x2 x3 x4 HB2
  cases hex : exprB e
  · have HR : Hid (RowOr compB ss e []) := by simp [Hid, RowOr, hex]
    clear hex
    go_wp2
    exact HQ.out _ [] _ HB3.out HR.out (World.ownsRow_nil _ _ _ _)
  have HEX : Hid (exprB e = true) := hex
  have HR : Hid (RowOr compB ss e (ss.map (compB e))) := by simp [Hid, RowOr, HOK.out, hex]
  clear hex
  go_wp2_with fail
  go_region_held3 (fun wx => wx.cell? ⟨w.heap.size, 0, none⟩ = some (.slice ao ss.length cap) ∧ wx.cell? ⟨w.heap.size + 1, 0, none⟩ = some (.int .i64 e.op) ∧ wx.cell? ⟨w.heap.size + 1, 1, none⟩ = some (.int .i64 e.av) ∧ wx.cell? ⟨w.heap.size + 1, 2, none⟩ = some (.int .i64 e.an) ∧ wx.cell? ⟨w.heap.size + 1, 3, none⟩ = some (.int .i64 e.bv) ∧ wx.cell? ⟨w.heap.size + 1, 4, none⟩ = some (.int .i64 e.bn)) (go_keep) (first
    | (go_at_call 52; refine reckonedBy_any _ ss _ (HH.out.keep (HB3.out.drew)) HOK.out ?_; intro W4 es bs D lv sv hRS hb4 hs4 hes hcb; subst hes; have q4 := cell_keep hb4 q3; have z0 := cell_keep hb4 y0; have z1 := cell_keep hb4 y1; have z2 := cell_keep hb4 y2; have z3 := cell_keep hb4 y3; have z4 := cell_keep hb4 y4; have HB4 : Hid (Below w.heap.size w W4) := HB3.out.drew.trans (hb4.mono HB3.out.size))
    | (go_at_call 53; rw [← HXV.out]; refine reckonedSteps_any _ _ _ (Nat.lt_succ_self _) W4 ss bs D lv sv hRS hs4 hcb e HEX.out ?_; intro bb W5 hcw hb5; rw [HXV.out]; have q5 := cell_keep hb5 q4; have u0 := cell_keep hb5 z0; have u1 := cell_keep hb5 z1; have u2 := cell_keep hb5 z2; have u3 := cell_keep hb5 z3; have u4 := cell_keep hb5 z4; have HB5 : Hid (Below w.heap.size w W5) := HB4.out.trans (hb5.mono HB4.out.size))
    | (go_at_call 54; refine row_any ss.length (by omega) bb (fun j hj hb => hcw.lt hj hb) _ (HT.out _ HB5.out).1 (HT.out _ HB5.out).2 ?_; intro W6 hb6 hr6; have q6 := cell_keep hb6 q5; have t0 := cell_keep hb6 u0; have t1 := cell_keep hb6 u1; have t2 := cell_keep hb6 u2; have t3 := cell_keep hb6 u3; have t4 := cell_keep hb6 u4))
  all_goals
    have hs5 := HB5.out.size
    have HB6 : Hid (Below w.heap.size w W6) := HB5.out.trans (hb6.mono hs5)
    have HOWN : Hid (W6.ownsRow w.heap.size 4 1 (.slice (some ⟨W5.heap.size, 0, none⟩) ss.length ss.length) (ss.map (compB e)).length ((ss.map (compB e)).map Value.bool)) := by
      rw [Hid, ← hcw.row hn2, List.length_map]
      exact rowIs_own hr6 hs5 (by omega)
    clear hRS hcb hb4 hb5 hb6 hr6 hcw
    go_wp2
    exact HQ.out _ _ _ HB6.out HR.out HOWN.out
end Go.Proofs.YtajgioeifhgfhaaDoor
namespace Go.Proofs.YtajgioeifhgfhaaDoor
open Go.RowKit

theorem keep_row {ss : List St} {f : Nat → BitVec 64} {e : E5} (hok : okB ss = true) (hex : exprB e = true) (h : ChF ss ss.length f) : (List.range ss.length).map (fun j => Value.bool ((kpB f e ss.length).getLsbD j)) = (ss.map (keepB e)).map Value.bool := by
  apply List.ext_getElem
  · simp
  · intro i h1 h2
    simp at h1 h2
    simp only [List.getElem_map, List.getElem_range]
    rw [kpB_get hok hex h h1]

theorem keep_u {Q : Ending → World → Prop} (f : Nat → BitVec 64) (e : E5) (n : Nat) (w : World) (hn : n ≤ 60)
    (hQ : ∀ w', Below w.heap.size w w' → Q (.returned (.int .u64 ((kpB f e n).toNat : Int))) w') :
    Calls Tryd.prog 56 #[chV f, .agg #[.int .i64 e.op, .int .i64 e.av, .int .i64 e.an, .int .i64 e.bv, .int .i64 e.bn], .int .i64 (n : Int)] w Q := keep_any f e n w hn hQ

set_option maxRecDepth 100000 in
set_option maxHeartbeats 4000000 in
theorem implKeeps_any {Q : Ending → World → Prop} (v : Value) (ss : List St) (e : E5) (w : World) (h : StepsAt w v ss) (hT : Tab w) (hg : 0 < w.heap.size) (hl : ss.length ≤ 1048576) (hls : ∀ s ∈ ss, s.next.length ≤ 1048576)
    (hQ : ∀ v' rs w', Below w.heap.size w w' → RowOr keepB ss e rs → w'.ownsRow w.heap.size 4 1 v' rs.length (rs.map Value.bool) → Q (.returned v') w') :
    Calls Tryd.prog 15 #[.agg #[v], exV e] w Q := by
  have HQ : Hid _ := hQ
  clear hQ
  obtain ⟨ao, b, o, cap, rfl, ha, hc⟩ := id h
  clear ha hc
  have HH : Hid (StepsAt w (.slice ao ss.length cap) ss) := h
  have HL : Hid (∀ s ∈ ss, s.next.length ≤ 1048576) := hls
  have HT : Hid (∀ X, Below w.heap.size w X → Tab X ∧ 0 < X.heap.size) := fun X hX => ⟨hT.keep hX, Nat.lt_of_lt_of_le hg hX.size⟩
  clear hls h hT hg
  have hb0 : ∀ O O', Below w.heap.size w ((w.alloc O).alloc O') := fun O O' => ((Below.refl _ _).alloc (Nat.le_refl _) O).alloc (by simp) O'
  have hexv : exV e = .agg #[.int .i64 e.op, .int .i64 e.av, .int .i64 e.an, .int .i64 e.bv, .int .i64 e.bn] := rfl
  have HXV : Hid (exV e = .agg #[.int .i64 e.op, .int .i64 e.av, .int .i64 e.an, .int .i64 e.bv, .int .i64 e.bn]) := rfl
  rw [hexv]
  clear hexv
  go_enter Tryd.func15, Tryd.ntmps15
  go_wp2_with fail
  refine implOk_any _ ss _ (HH.out.keep (hb0 _ _)) hl HL.out fun w2 hb2 => ?_
  have hbB : Below w.heap.size w w2 := (hb0 _ _).trans (hb2.mono (by simp; omega))
  have q2 : w2.cell? ⟨w.heap.size, 0, none⟩ = some (.slice ao ss.length cap) := cell_keep hb2 (by simp [go_sem])
  have x0 : w2.cell? ⟨w.heap.size + 1, 0, none⟩ = some (.int .i64 e.op) := cell_keep hb2 (by simp [go_sem])
  have x1 : w2.cell? ⟨w.heap.size + 1, 1, none⟩ = some (.int .i64 e.av) := cell_keep hb2 (by simp [go_sem])
  have x2 : w2.cell? ⟨w.heap.size + 1, 2, none⟩ = some (.int .i64 e.an) := cell_keep hb2 (by simp [go_sem])
  have x3 : w2.cell? ⟨w.heap.size + 1, 3, none⟩ = some (.int .i64 e.bv) := cell_keep hb2 (by simp [go_sem])
  have x4 : w2.cell? ⟨w.heap.size + 1, 4, none⟩ = some (.int .i64 e.bn) := cell_keep hb2 (by simp [go_sem])
  have HB2 : Hid (Below w.heap.size w w2) := hbB
  clear hb2 hb0 hbB
  cases hok : okB ss
  · have HR : Hid (RowOr keepB ss e []) := by simp [Hid, RowOr, hok]
    clear hok
    go_wp2
    exact HQ.out _ [] _ HB2.out HR.out (World.ownsRow_nil _ _ _ _)
  have HOK : Hid (okB ss = true) := hok
  have hn2 : ss.length ≤ 60 := (ok_len hok).2
  clear hok
  go_wp2_with fail
  rw [← HXV.out]
  refine implExprOk_any e _ fun w3 hb3 => ?_
  rw [HXV.out]
  have q3 := cell_keep hb3 q2
  have y0 := cell_keep hb3 x0
  have y1 := cell_keep hb3 x1
  have y2 := cell_keep hb3 x2
  have y3 := cell_keep hb3 x3
  have y4 := cell_keep hb3 x4
  have HB3 : Hid (Below w.heap.size w w3) := HB2.out.trans (hb3.mono HB2.out.size)
  clear hb3 q2 x0 x1 x2 x3 x4 HB2
  cases hex : exprB e
  · have HR : Hid (RowOr keepB ss e []) := by simp [Hid, RowOr, hex]
    clear hex
    go_wp2
    exact HQ.out _ [] _ HB3.out HR.out (World.ownsRow_nil _ _ _ _)
  have HEX : Hid (exprB e = true) := hex
  have HR : Hid (RowOr keepB ss e (ss.map (keepB e))) := by simp [Hid, RowOr, HOK.out, hex]
  clear hex
  go_wp2_with fail
  go_region_held3 (fun wx => wx.cell? ⟨w.heap.size, 0, none⟩ = some (.slice ao ss.length cap) ∧ wx.cell? ⟨w.heap.size + 1, 0, none⟩ = some (.int .i64 e.op) ∧ wx.cell? ⟨w.heap.size + 1, 1, none⟩ = some (.int .i64 e.av) ∧ wx.cell? ⟨w.heap.size + 1, 2, none⟩ = some (.int .i64 e.an) ∧ wx.cell? ⟨w.heap.size + 1, 3, none⟩ = some (.int .i64 e.bv) ∧ wx.cell? ⟨w.heap.size + 1, 4, none⟩ = some (.int .i64 e.bn)) (go_keep) (first
    | (go_at_call 55; refine changedBy_any _ ss _ (HH.out.keep (HB3.out.drew)) HOK.out ?_; intro f W4 hb4 hcf; have q4 := cell_keep hb4 q3; have z0 := cell_keep hb4 y0; have z1 := cell_keep hb4 y1; have z2 := cell_keep hb4 y2; have z3 := cell_keep hb4 y3; have z4 := cell_keep hb4 y4; have HB4 : Hid (Below w.heap.size w W4) := HB3.out.drew.trans (hb4.mono HB3.out.size))
    | (go_at_call 56; refine keep_u f e ss.length _ hn2 ?_; intro W5 hb5; have q5 := cell_keep hb5 q4; have u0 := cell_keep hb5 z0; have u1 := cell_keep hb5 z1; have u2 := cell_keep hb5 z2; have u3 := cell_keep hb5 z3; have u4 := cell_keep hb5 z4; have HB5 : Hid (Below w.heap.size w W5) := HB4.out.trans (hb5.mono HB4.out.size))
    | (go_at_call 54; refine row_any ss.length (by omega) (kpB f e ss.length) (fun j hj hb => kpB_lt hj hb) _ (HT.out _ HB5.out).1 (HT.out _ HB5.out).2 ?_; intro W6 hb6 hr6; have q6 := cell_keep hb6 q5; have t0 := cell_keep hb6 u0; have t1 := cell_keep hb6 u1; have t2 := cell_keep hb6 u2; have t3 := cell_keep hb6 u3; have t4 := cell_keep hb6 u4))
  all_goals
    have hs5 := HB5.out.size
    have HB6 : Hid (Below w.heap.size w W6) := HB5.out.trans (hb6.mono hs5)
    have HOWN : Hid (W6.ownsRow w.heap.size 4 1 (.slice (some ⟨W5.heap.size, 0, none⟩) ss.length ss.length) (ss.map (keepB e)).length ((ss.map (keepB e)).map Value.bool)) := by
      rw [Hid, ← keep_row HOK.out HEX.out hcf, List.length_map]
      exact rowIs_own hr6 hs5 (by omega)
    clear hcf hb4 hb5 hb6 hr6
    go_wp2
    exact HQ.out _ _ _ HB6.out HR.out HOWN.out
end Go.Proofs.YtajgioeifhgfhaaDoor
namespace Go.Proofs.YtajgioeifhgfhaaDoor
open Go.RowKit

theorem implComp_u {Q : Ending → World → Prop} (v : Value) (ss : List St) (e : E5) (w : World) (h : StepsAt w v ss) (hT : Tab w) (hg : 0 < w.heap.size) (hl : ss.length ≤ 1048576) (hls : ∀ s ∈ ss, s.next.length ≤ 1048576)
    (hQ : ∀ v' rs w', Below w.heap.size w w' → RowOr compB ss e rs → w'.ownsRow w.heap.size 4 1 v' rs.length (rs.map Value.bool) → Q (.returned v') w') :
    Calls Tryd.prog 14 #[.agg #[v], .agg #[.int .i64 e.op, .int .i64 e.av, .int .i64 e.an, .int .i64 e.bv, .int .i64 e.bn]] w Q := implComp_any v ss e w h hT hg hl hls hQ

theorem implKeeps_u {Q : Ending → World → Prop} (v : Value) (ss : List St) (e : E5) (w : World) (h : StepsAt w v ss) (hT : Tab w) (hg : 0 < w.heap.size) (hl : ss.length ≤ 1048576) (hls : ∀ s ∈ ss, s.next.length ≤ 1048576)
    (hQ : ∀ v' rs w', Below w.heap.size w w' → RowOr keepB ss e rs → w'.ownsRow w.heap.size 4 1 v' rs.length (rs.map Value.bool) → Q (.returned v') w') :
    Calls Tryd.prog 15 #[.agg #[v], .agg #[.int .i64 e.op, .int .i64 e.av, .int .i64 e.an, .int .i64 e.bv, .int .i64 e.bn]] w Q := implKeeps_any v ss e w h hT hg hl hls hQ
end Go.Proofs.YtajgioeifhgfhaaDoor
