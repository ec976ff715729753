/- Sets of steps as words of bits; what stepSet's add does. -/
import Derived.Test.YtljlgffkhocgkaaDoorKit
import Derived.Test.YtljlgffkhocgkaaDoorChecked
import Derived.Laws.Bits64
import Derived.Deep.RegionLaw
namespace Go.Proofs.YtljlgffkhocgkaaDoor
open Go.RowKit

/-- A word of bits as a value. -/
def bsV (b : BitVec 64) : Value := .int .u64 (b.toNat : Int)

theorem bs_lt (b : BitVec 64) : b.toNat < 18446744073709551616 := b.isLt

theorem bs_wrap (b : BitVec 64) : IntKind.u64.wrap (b.toNat : Int) = (b.toNat : Int) := by
  rw [IntKind.wrap_u64]
  have := bs_lt b
  omega

theorem bs_ofInt (b : BitVec 64) : BitVec.ofInt IntKind.u64.bits (b.toNat : Int) = b := by
  show BitVec.ofInt 64 (b.toNat : Int) = b
  rw [BitVec.ofInt_natCast, BitVec.ofNat_toNat]
  simp

/-- One bit more. -/
def addB (b : BitVec 64) (i : Nat) : BitVec 64 := b ||| BitVec.twoPow 64 i

theorem addB_get {b : BitVec 64} {i j : Nat} (hi : i < 64) (hj : j < 64) : (addB b i).getLsbD j = (b.getLsbD j || decide (j = i)) := by
  unfold addB
  rw [BitVec.getLsbD_or, BitVec.getLsbD_twoPow]
  by_cases e : i = j
  · subst e; simp [hi]
  · have : ¬ j = i := fun h => e h.symm
    simp [e, this]

theorem wrap_two {i : Nat} (hi : i < 64) : IntKind.u64.wrap (2 ^ i) = ((BitVec.twoPow 64 i).toNat : Int) := by
  rw [IntKind.wrap_u64, BitVec.toNat_twoPow]
  have h2 : 2 ^ i < 2 ^ 64 := Nat.pow_lt_pow_right (by omega) hi
  rw [Nat.mod_eq_of_lt h2]
  have h3 : ((2 ^ i : Nat) : Int) = 2 ^ i := by simp
  rw [← h3]
  generalize 2 ^ i = z at *
  omega

theorem bits_or (a b : BitVec 64) : bits BinOp.or IntKind.u64 (a.toNat : Int) (b.toNat : Int) = ((a ||| b).toNat : Int) := by
  unfold bits
  simp only []
  rw [bs_ofInt, bs_ofInt]
  exact bs_wrap _

theorem bits_and (a b : BitVec 64) : bits BinOp.and IntKind.u64 (a.toNat : Int) (b.toNat : Int) = ((a &&& b).toNat : Int) := by
  unfold bits
  simp only []
  rw [bs_ofInt, bs_ofInt]
  exact bs_wrap _

theorem bits_andNot (a b : BitVec 64) : bits BinOp.andNot IntKind.u64 (a.toNat : Int) (b.toNat : Int) = ((a &&& ~~~b).toNat : Int) := by
  unfold bits
  simp only []
  rw [bs_ofInt, bs_ofInt]
  exact bs_wrap _

theorem bs_zero {b : BitVec 64} : ((b.toNat : Int) = 0) ↔ b = 0#64 := by
  constructor
  · intro h
    apply BitVec.eq_of_toNat_eq
    simp; omega
  · intro h
    simp [h]

theorem bs_eq {a b : BitVec 64} (h : ∀ j, j < 64 → a.getLsbD j = b.getLsbD j) : a = b := BitVec.eq_of_getLsbD_eq fun i hi => h i hi

set_option maxHeartbeats 1000000 in
theorem add_any {Q : Ending → World → Prop} (b i : Nat) (s : BitVec 64) (x : Nat) (w : World) (hx : x < 64) (hc : w.cell? ⟨b, i, none⟩ = some (bsV s)) (hf : w.frozen? ⟨b, i, none⟩ = false)
    (hQ : ∀ v, Q (.returned v) (w.setCell ⟨b, i, none⟩ (bsV (addB s x))).drew) :
    Calls Tryd.prog 60 #[.pointer (some ⟨b, i, none⟩), .int .i64 (x : Int)] w Q := by
  have HQ : Hid _ := hQ
  clear hQ
  unfold bsV at hc
  have hx0 : ¬ (x : Int) < 0 := by omega
  have HSH : Hid (IntKind.u64.wrap (2 ^ x) = ((BitVec.twoPow 64 x).toNat : Int)) := wrap_two hx
  have HOR : Hid (bits BinOp.or IntKind.u64 (s.toNat : Int) ((BitVec.twoPow 64 x).toNat : Int) = ((s ||| BitVec.twoPow 64 x).toNat : Int)) := bits_or s (BitVec.twoPow 64 x)
  have HAB : Hid (s ||| BitVec.twoPow 64 x = addB s x) := rfl
  go_enter Tryd.func60, Tryd.ntmps60
  go_wp2_with fail
  go_region_law (fail)
  rw [HSH.out, HOR.out, HAB.out]
  go_end0
  exact HQ.out _
end Go.Proofs.YtljlgffkhocgkaaDoor
