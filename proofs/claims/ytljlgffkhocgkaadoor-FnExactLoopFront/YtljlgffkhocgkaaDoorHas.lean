/- What stepSet's has answers. -/
import Derived.Test.YtljlgffkhocgkaaDoorBits
import Derived.Laws.Bits64b
namespace Go.Proofs.YtljlgffkhocgkaaDoor
open Go.RowKit

set_option maxHeartbeats 1000000 in
theorem has_any {Q : Ending → World → Prop} (b : BitVec 64) (x : Nat) (w : World) (hx : x < 64)
    (hQ : Q (.returned (.bool (b.getLsbD x))) w) :
    Calls Tryd.prog 69 #[bsV b, .int .i64 (x : Int)] w Q := by
  have HQ : Hid _ := hQ
  clear hQ
  unfold bsV
  have hx0 : ¬ (x : Int) < 0 := by omega
  go_enter Tryd.func69, Tryd.ntmps69
  have HE : Hid ((bits BinOp.and IntKind.u64 ((b.toNat : Int) / 2 ^ x) 1 == 1) = b.getLsbD x) := by
    have e1 : (b.toNat : Int) / 2 ^ x = ((b.toNat / 2 ^ x : Nat) : Int) := by simp
    have h1 : b.toNat / 2 ^ x < 18446744073709551616 := Nat.lt_of_le_of_lt (Nat.div_le_self _ _) (bs_lt b)
    have e2 := bits_and_u64_nat (b.toNat / 2 ^ x) 1 h1 (by decide)
    rw [Hid, e1, show (1 : Int) = ((1 : Nat) : Int) from rfl, e2, Nat.and_one_is_mod]
    show _ = b.toNat.testBit x
    rw [Nat.testBit_eq_decide_div_mod_eq]
    have h3 : b.toNat / 2 ^ x % 2 = 0 ∨ b.toNat / 2 ^ x % 2 = 1 := by omega
    rcases h3 with e | e <;> rw [e] <;> rfl
  go_wp2
  rw [HE.out]
  exact HQ.out
end Go.Proofs.YtljlgffkhocgkaaDoor
