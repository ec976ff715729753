/- math/bits.TrailingZeros64: the lowest bit that is set. -/
import Derived.Test.YtljlgffkhocgkaaDoorBits
import Derived.Shelf.Spec.TrailingZeros
namespace Go.Proofs.YtljlgffkhocgkaaDoor
open Go.RowKit

/-- The library's table lies in its variable. -/
def Tab (w : World) : Prop := TabAt 0 Lib.deBruijn64tab w

theorem Tab.keep {w w' : World} (h : Tab w) (hb : Below w.heap.size w w') : Tab w' := fun j hj => cell_keep hb (h j hj)

theorem tab_len : Lib.deBruijn64tab.length = 64 := by decide

set_option maxHeartbeats 1000000 in
theorem tz_core {Q : Ending → World → Prop} (x k idx : Nat) (w : World) (hx0 : ((x : Int) == 0) = false)
    (key : IntKind.u64.wrap (bits BinOp.and IntKind.u64 (x : Int) (IntKind.u64.wrap (-(x : Int))) * 285870213051353865) / 288230376151711744 = (idx : Int))
    (hi : idx < 64) (hk : k < 64) (hcell : w.cell? ⟨0, idx, none⟩ = some (.int .u8 k)) (hQ : Q (.returned (.int .i64 (k : Int))) w) :
    Calls Tryd.prog 86 #[.int .u64 (x : Int)] w Q := by
  have HQ : Hid _ := hQ
  clear hQ
  go_enter Tryd.func86, Tryd.ntmps86
  go_wp2_with (simp only [key])
  exact HQ.out

theorem tz_any {Q : Ending → World → Prop} (b : BitVec 64) (w : World) (hT : Tab w) (hb : b ≠ 0#64)
    (hQ : Q (.returned (.int .i64 (Lib.ctz 64 b.toNat : Int))) w) :
    Calls Tryd.prog 86 #[bsV b] w Q := by
  have hne : b.toNat ≠ 0 := fun e => hb (by apply BitVec.eq_of_toNat_eq; simpa using e)
  obtain ⟨hlow, hk⟩ := Lib.lowest_bit 64 b.toNat hne (bs_lt b)
  obtain ⟨hi, htab⟩ := Lib.deBruijn64_at _ hk
  have hc := hT _ (Nat.lt_of_lt_of_eq hi tab_len.symm)
  rw [htab] at hc
  exact tz_core b.toNat _ _ w (by rw [beq_eq_false_iff_ne]; omega) (tz64_key b.toNat _ (bs_lt b) hne hlow) hi hk hc hQ
end Go.Proofs.YtljlgffkhocgkaaDoor
