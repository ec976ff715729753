/- The bits of a word told by an iterator: each. -/
import Derived.Test.YtljlgffkhocgkaaDoorEachP
import Derived.Test.YtljlgffkhocgkaaDoorTz
import Derived.Test.YtljlgffkhocgkaaDoorSeqK
namespace Go.Proofs.YtljlgffkhocgkaaDoor
open Go.RowKit Go.Shelf

attribute [local go_sem] Oper.semAt_some

theorem bits_and_clr (b : BitVec 64) (h : b ≠ 0#64) : bits BinOp.and IntKind.u64 (b.toNat : Int) (IntKind.u64.wrap ((b.toNat : Int) - 1)) = ((clrB b).toNat : Int) := by
  have hp := bs_pos h
  have e : IntKind.u64.wrap ((b.toNat : Int) - 1) = ((b - 1#64).toNat : Int) := by
    rw [IntKind.wrap_u64, BitVec.toNat_sub]
    have := bs_lt b
    simp
    omega
  rw [e, bits_and]
  rfl

set_option maxRecDepth 100000 in
set_option maxHeartbeats 1000000 in
theorem each1_in {R : Ending → World → Prop} (n l Bs N : Nat) (b : BitVec 64) (hn : 1 ≤ n) (xs : List (Fin N)) (hI : IsBits N b xs) (J Jx : List (Fin N) → World → Prop)
    (hY : ∀ pre y W, J pre W → pre.length < xs.length → YieldAt Fence.wide (n - 1) Tryd.prog l #[.int .i64 ((y : Fin N).1 : Int)] W fun e W' =>
      (e = .returned (.bool true) ∧ J (pre ++ [y]) W' ∧ Kp2 0 0 W W') ∨ (e = .returned (.bool false) ∧ Jx (pre ++ [y]) W'))
    (W : World) (hBs : W.cell? ⟨Bs, 0, none⟩ = some (bsV b)) (hT : Tab W) (hJ0 : J [] W) (hR1 : ∀ v W', J xs W' → R (.returned v) W') (hR2 : ∀ v pre W', pre <+: xs → Jx pre W' → R (.returned v) W') :
    CallsIn Fence.wide n Tryd.prog 85 #[.func (.yield l) #[] #[], .pointer (some ⟨Bs, 0, none⟩)] W R := by
  have HI : Hid (IsBits N b xs) := hI
  have HY : Hid _ := hY
  have HT : Hid (Tab W) := hT
  have HR1 : Hid _ := hR1
  have HR2 : Hid _ := hR2
  clear hI hY hT hR1 hR2
  unfold bsV at hBs
  refine callsIn_of_wp Tryd.func85 rfl trivial ?_ rfl
  simp only [Tryd.ntmps85, List.size_toArray, List.length_cons, List.length_nil, Nat.reduceAdd, Nat.reduceSub, Array.replicate_succ, Array.replicate_zero, List.push_toArray, List.append_toArray, List.nil_append, List.cons_append]
  gi_wp2
  gi_loopw [3] (fun p wr => ∃ (pre rest : List (Fin N)) (q : BitVec 64), p = .int .u64 (q.toNat : Int) ∧ xs = pre ++ rest ∧ IsBits N q rest ∧ J pre wr ∧ Kp2 0 0 W wr) (fun p _ => (intOf p).toNat)
  case atStart => exact ⟨[], xs, b, rfl, rfl, HI.out, hJ0, Kp2.refl _ _ _⟩
  case round =>
    obtain ⟨pre, rest, q, rfl, hx2, hl, hJs, hK⟩ := hrel
    have HX2 : Hid (xs = pre ++ rest) := hx2
    have HK : Hid (Kp2 0 0 W wr) := hK
    have HL : Hid (IsBits N q rest) := hl
    have HTr : Hid (Tab wr) := fun j hj => (World.cell?_of_block (w := W) (a := ⟨0, j, none⟩) hK.1).trans (HT.out j hj)
    have HJ : Hid (J pre wr) := hJs
    clear hx2 hK hl
    cases rest with
    | nil =>
      have hq : q = 0#64 := HL.out
      have hq0 : (q.toNat : Int) = 0 := bs_zero.2 hq
      clear hJs hq
      generalize (q.toNat : Int) = z at *
      subst hq0
      gi_wp2
      go_end0
      exact HR1.out _ _ (by rw [HX2.out, List.append_nil]; exact HJ.out)
    | cons y rest =>
      have hq : q ≠ 0#64 := HL.out.1
      have HQ0 : Hid (q ≠ 0#64) := hq
      have hq0 : ((q.toNat : Int) == 0) = false := by rw [beq_eq_false_iff_ne]; exact fun e => hq (bs_zero.1 e)
      have hyk : (Lib.ctz 64 q.toNat : Int) = (y.1 : Int) := by have := HL.out.2.1; unfold ctzB at this; omega
      obtain ⟨fn, tmps, assign, body, hy, hR⟩ := HY.out pre y wr hJs (by rw [HX2.out]; simp)
      have HCLR : Hid (bits BinOp.and IntKind.u64 (q.toNat : Int) (IntKind.u64.wrap ((q.toNat : Int) - 1)) = ((clrB q).toNat : Int)) := bits_and_clr q hq
      have HLT : Hid ((clrB q).toNat < q.toNat) := clrB_lt hq
      clear hJs hq
      gi_wp2
      refine ⟨trivial, callsIn_wide.2 ?_⟩
      refine tz_any q _ HTr.out HQ0.out ?_
      rw [hyk]
      gi_wp2
      refine hR.mono ?_
      rintro e W3 (⟨rfl, hJ3, hk3⟩ | ⟨rfl, hJx3⟩)
      · have HK3 : Hid (Kp2 0 0 W W3) := HK.out.t hk3
        have HJ3 : Hid (J (pre ++ [y]) W3) := hJ3
        clear hk3 hJ3
        gi_wp2
        rw [HCLR.out]
        go_roundw
        case rel => exact ⟨pre ++ [y], rest, clrB q, rfl, by rw [HX2.out]; simp, HL.out.2.2, HJ3.out, HK3.out⟩
        case measure =>
          have := HLT.out
          simp [intOf]; omega
      · have HJx : Hid (Jx (pre ++ [y]) W3) := hJx3
        clear hJx3
        gi_wp2
        refine bodyPost_ret (results_none rfl _ _ _) rfl ?_
        exact HR2.out _ (pre ++ [y]) _ ⟨rest, by rw [HX2.out]; simp⟩ HJx.out

theorem each_stops (n Bs N : Nat) (b : BitVec 64) (hn : 1 ≤ n) (xs : List (Fin N)) (hI : IsBits N b xs) (w : World) (hBs : w.cell? ⟨Bs, 0, none⟩ = some (bsV b)) (hT : Tab w) :
    SeqStopsK Fence.wide n Tryd.prog 85 #[.pointer (some ⟨Bs, 0, none⟩)] (fun y : Fin N => #[Value.int .i64 (y.1 : Int)]) (Kp2 0 0) (fun ys => ys = xs) (fun pre => pre <+: xs) xs.length w := fun l J Jx W hW _ _ hY hJ0 =>
  each1_in n l Bs N b hn xs hI J Jx hY W (cell_keep hW hBs) (hT.keep hW) hJ0 (fun v _ h => ⟨⟨v, rfl⟩, .inl ⟨xs, rfl, h⟩⟩) (fun v pre _ h1 h2 => ⟨⟨v, rfl⟩, .inr ⟨pre, h1, h2⟩⟩)

set_option maxHeartbeats 1000000 in
theorem each_in (n : Nat) (b : BitVec 64) (w : World) :
    CallsIn Fence.wide n Tryd.prog 63 #[bsV b] w fun e w' => e = .returned (.func (.func 85) #[] #[.pointer (some ⟨w.heap.size, 0, none⟩)]) ∧ w' = w.alloc (.cells #[bsV b] 66) := by
  unfold bsV
  refine callsIn_of_wp Tryd.func63 rfl trivial ?_ rfl
  simp only [Tryd.ntmps63, List.size_toArray, List.length_cons, List.length_nil, Nat.reduceAdd, Nat.reduceSub, Array.replicate_succ, Array.replicate_zero, List.push_toArray, List.append_toArray, List.nil_append, List.cons_append]
  gi_wp2
  go_ret
  exact ⟨rfl, rfl⟩
end Go.Proofs.YtljlgffkhocgkaaDoor
