/- What the model's l6Dec writes: a number's decimals. -/
import Derived.Test.YtaepeommfdchgaaDoorBase
import Derived.Test.YtaepeommfdchgaaDoorChecked
import Derived.Lib.ItoaMem
import Derived.Deep.RegionWith
import Derived.WalkLawsBesides
namespace Go.Proofs.YtaepeommfdchgaaDoor
open Go.RowKit

/-- One byte of a new slice, as a string. -/
theorem convOne (v : Int) (wx : World) : (convert 46 9 (.slice (some ⟨wx.heap.size, 0, none⟩) 1 1)).run Tryd.prog (wx.alloc (.cells #[.int .u8 v] 5)) = .ok (.string ⟨#[UInt8.ofNat v.toNat]⟩) (wx.alloc (.cells #[.int .u8 v] 5)) := by
  rw [run_convert_bytes_string _ _ _ _ _ _ _ Tryd.underlying46 Tryd.underlying5 Tryd.underlying9]
  rw [run_bytesToString _ _ 1 1 [v] (by simp [loadCells, go_sem])]
  rfl

set_option maxRecDepth 100000 in
set_option maxHeartbeats 1000000 in
theorem l6Dec_small (n : Nat) (hn : n < 10) {Q : Ending → World → Prop} (w : World)
    (hQ : ∀ w', Below w.heap.size w w' → Q (.returned (.string ⟨(Lib.decDigits n).toArray⟩)) w') :
    Calls Tryd.prog 25 #[.int .i64 (n : Int)] w Q := by
  have HQ : Hid (∀ w', Below w.heap.size w w' → Q (.returned (.string ⟨(Lib.decDigits n).toArray⟩)) w') := hQ
  clear hQ
  rw [Lib.decDigits_one hn] at HQ
  have hi : (n : Int) < 10 := by omega
  have h0 : decide ((n : Int) < -9223372036854775807) = false := decide_eq_false (by omega)
  have h1 : decide ((n : Int) < 0) = false := by simp
  have hcv := fun v wx => convOne v wx
  go_enter Tryd.func25, Tryd.ntmps25
  go_wp2
  exact HQ.out _ ((Below.refl _ _).alloc (Nat.le_refl _) _)

theorem convAt (b : Nat) (v : Int) (wx : World) (h : wx.cell? ⟨b, 0, none⟩ = some (.int .u8 v)) : (convert 46 9 (.slice (some ⟨b, 0, none⟩) 1 1)).run Tryd.prog wx = .ok (.string ⟨#[UInt8.ofNat v.toNat]⟩) wx := by
  rw [run_convert_bytes_string _ _ _ _ _ _ _ Tryd.underlying46 Tryd.underlying5 Tryd.underlying9]
  rw [run_bytesToString _ _ 1 1 [v] (by simp [loadCells, go_sem, h])]
  rfl

/-- A slice of one byte as a string, by what its cell holds: one rule for every order of evaluation. -/
def byteText (wx : World) (c : Option Value) (r : Result Value) : Result Value := match c with
  | some (.int .u8 v) => .ok (.string ⟨#[UInt8.ofNat v.toNat]⟩) wx
  | _ => r

theorem byteText_some (wx : World) (v : Int) (r : Result Value) : byteText wx (some (.int .u8 v)) r = .ok (.string ⟨#[UInt8.ofNat v.toNat]⟩) wx := rfl

theorem convRule (b : Nat) : ∃ r : World → Result Value, ∀ wx, (convert 46 9 (.slice (some ⟨b, 0, none⟩) 1 1)).run Tryd.prog wx = byteText wx (wx.cell? ⟨b, 0, none⟩) (r wx) := by
  refine ⟨fun wx => (convert 46 9 (.slice (some ⟨b, 0, none⟩) 1 1)).run Tryd.prog wx, fun wx => ?_⟩
  unfold byteText
  split
  · rename_i v h
    exact convAt b v wx h
  · rfl

/-- Two texts, neither long, one behind the other. -/
theorem addText (x y : List UInt8) (hx : x.length ≤ 1048576) (hy : y.length ≤ 1048576) (wx : World) : (binOp .add 9 (.string ⟨x.toArray⟩) (.string ⟨y.toArray⟩)).run Tryd.prog wx = .ok (.string ⟨(x ++ y).toArray⟩) wx := by
  simp only [binOp]
  exact run_string_add_lists wx x y (by omega) (by omega)

theorem decDigits_len (n : Nat) (hn : n ≤ 9223372036854775807) : (Lib.decDigits n).length ≤ 20 := by
  rw [Lib.decDigits_length]
  by_cases h0 : n = 0
  · subst h0; rw [Lib.nDigits_small (by omega)]; omega
  · rcases Nat.lt_or_ge 20 (Lib.nDigits n) with h | h
    · exfalso
      have key : ∀ k m, k < Lib.nDigits m → 10 ^ k ≤ m ∨ k = 0 := by
        intro k
        induction k with
        | zero => intro m _; exact Or.inr rfl
        | succ k ih =>
          intro m hm
          by_cases hs : m < 10
          · rw [Lib.nDigits_small hs] at hm; omega
          · rw [Lib.nDigits_big hs] at hm
            left
            rcases ih (m / 10) (by omega) with h1 | h1
            · rw [Nat.pow_succ]; omega
            · subst h1; simp; omega
      rcases key 20 n h with h1 | h1
      · have : (10 : Nat) ^ 20 = 100000000000000000000 := by decide
        omega
      · omega
    · exact h

set_option maxRecDepth 100000 in
set_option maxHeartbeats 2000000 in
theorem l6Dec_big (n : Nat) (hn : 10 ≤ n) (hn1 : n ≤ 9223372036854775807) {Q : Ending → World → Prop} (w : World)
    (ih : ∀ {Q : Ending → World → Prop} (w : World), (∀ w', Below w.heap.size w w' → Q (.returned (.string ⟨(Lib.decDigits (n / 10)).toArray⟩)) w') → Calls Tryd.prog 25 #[.int .i64 ((n / 10 : Nat) : Int)] w Q)
    (hQ : ∀ w', Below w.heap.size w w' → Q (.returned (.string ⟨(Lib.decDigits n).toArray⟩)) w') :
    Calls Tryd.prog 25 #[.int .i64 (n : Int)] w Q := by
  have HQ : Hid (∀ w', Below w.heap.size w w' → Q (.returned (.string ⟨(Lib.decDigits n).toArray⟩)) w') := hQ
  clear hQ
  have hlen := decDigits_len (n / 10) (by omega)
  rw [Lib.decDigits, dif_neg (by omega)] at HQ
  have IH : Hid (∀ {Q : Ending → World → Prop} (w : World), (∀ w', Below w.heap.size w w' → Q (.returned (.string ⟨(Lib.decDigits (n / 10)).toArray⟩)) w') → Calls Tryd.prog 25 #[.int .i64 ((n / 10 : Nat) : Int)] w Q) := ih
  clear ih
  generalize Lib.decDigits (n / 10) = l at *
  have hadd := fun c wx => addText l [c] (by omega) (by simp) wx
  have hi : ¬ (n : Int) < 10 := by omega
  have h0 : decide ((n : Int) < -9223372036854775807) = false := decide_eq_false (by omega)
  have h1 : decide ((n : Int) < 0) = false := by simp
  obtain ⟨rr, hcv⟩ : ∃ r : Nat → World → Result Value, ∀ b wx, (convert 46 9 (.slice (some ⟨b, 0, none⟩) 1 1)).run Tryd.prog wx = byteText wx (wx.cell? ⟨b, 0, none⟩) (r b wx) := ⟨fun b => (convRule b).choose, fun b => (convRule b).choose_spec⟩
  have hbt := byteText_some
  have HW : Hid (IntKind.i64.wrap ((n : Int) / 10) = ((n / 10 : Nat) : Int)) := by
    rw [Hid, IntKind.wrap_i64]; omega
  obtain ⟨d, hd, hdv⟩ : ∃ d, IntKind.u8.wrap (IntKind.i64.wrap (48 + (n : Int).tmod 10)) = d ∧ d = ((48 + n % 10 : Nat) : Int) := by
    refine ⟨_, rfl, ?_⟩
    have e1 : (n : Int).tmod 10 = ((n % 10 : Nat) : Int) := by rw [Int.tmod_eq_emod_of_nonneg (by omega)]; omega
    rw [e1, IntKind.wrap_i64]
    have e2 : (48 + ((n % 10 : Nat) : Int)) = ((48 + n % 10 : Nat) : Int) := by omega
    simp [IntKind.wrap, IntKind.signed, IntKind.bits]
    omega
  have HD : Hid (UInt8.ofNat d.toNat = UInt8.ofNat (48 + n % 10)) := by rw [Hid, hdv]; rfl
  clear hdv
  go_enter Tryd.func25, Tryd.ntmps25
  go_wp2_with fail
  go_region_with (go_at_call 25; rw [HW.out]; refine IH.out _ ?_; intro w1 hb1; obtain ⟨hc1, hf1⟩ := bcell hb1)
  all_goals
    have hbw : Below w.heap.size w w1 := by
      first
        | exact ((((Below.refl _ _).alloc (Nat.le_refl _) _).drew).trans (hb1.mono (by simp)))
        | exact ((Below.refl _ _).drew).trans (hb1.mono (by simp))
    have hsz := hbw.size
    have HE : Hid ((⟨l.toArray⟩ ++ ⟨#[UInt8.ofNat d.toNat]⟩ : ByteArray) = ⟨(l ++ [UInt8.ofNat (48 + n % 10)]).toArray⟩) := by
      rw [Hid, ByteArray.mk_append_mk, HD.out]
    rw [← HE.out] at HQ
    clear hb1 hc1 hf1
    go_wp2
    try go_ret
    first
      | exact HQ.out _ hbw
      | exact HQ.out _ (hbw.alloc hsz _)

/-- Of each number that is not below 0: its decimals. -/
theorem l6Dec_any (n : Nat) (hn : n ≤ 9223372036854775807) : ∀ {Q : Ending → World → Prop} (w : World)
    (_ : ∀ w', Below w.heap.size w w' → Q (.returned (.string ⟨(Lib.decDigits n).toArray⟩)) w'),
    Calls Tryd.prog 25 #[.int .i64 (n : Int)] w Q := by
  induction n using Nat.strongRecOn with
  | ind n ih =>
    intro Q w hQ
    by_cases h : n < 10
    · exact l6Dec_small n h w hQ
    · exact l6Dec_big n (by omega) hn w (fun w' hq => ih (n / 10) (by omega) (by omega) w' hq) hQ
end Go.Proofs.YtaepeommfdchgaaDoor
