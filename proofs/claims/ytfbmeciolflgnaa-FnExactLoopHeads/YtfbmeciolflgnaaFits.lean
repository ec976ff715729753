/- fits() of each form. -/
import Derived.Test.YtfbmeciolflgnaaForms
namespace Go.Proofs.Ytfbmeciolflgnaa
open Go.RowKit


set_option maxHeartbeats 1000000 in
theorem setFits_any {Q : Ending → World → Prop} (dst op av an bv bn x : Int) (n : Int) (w : World)
    (hQ : ∀ w', Below w.heap.size w w' → Q (.returned (.bool (inB dst 0 11 && inB op 1 4 && opndB av an && opndB bv bn && inB x 0 (n - 1)))) w') :
    Calls Try.prog 106 #[setV dst op av an bv bn x, .int .i64 n] w Q := by
  have HQ : Hid (∀ w', Below w.heap.size w w' → Q (.returned (.bool (inB dst 0 11 && inB op 1 4 && opndB av an && opndB bv bn && inB x 0 (n - 1)))) w') := hQ
  clear hQ
  unfold setV
  cases e0 : inB dst 0 11
  · rw [show (inB dst 0 11 && inB op 1 4 && opndB av an && opndB bv bn && inB x 0 (n - 1)) = false by simp [e0]] at HQ
    go_enter Try.func106, Try.ntmps106
    go_wp2_with (first | (go_at_call 108; refine isVar_any _ _ ?_) | (go_at_call 109; refine isOp_any _ _ ?_) | (go_at_call 110; refine isOpnd_any _ _ _ ?_) | (go_at_call 111; refine isPlace_any _ _ _ ?_))
    refine HQ.out _ ?_
    repeat (first | refine Below.alloc ?_ (by first | omega | (simp <;> omega)) _ | exact Below.refl _ _)
  · cases e1 : inB op 1 4
    · rw [show (inB dst 0 11 && inB op 1 4 && opndB av an && opndB bv bn && inB x 0 (n - 1)) = false by simp [e0, e1]] at HQ
      go_enter Try.func106, Try.ntmps106
      go_wp2_with (first | (go_at_call 108; refine isVar_any _ _ ?_) | (go_at_call 109; refine isOp_any _ _ ?_) | (go_at_call 110; refine isOpnd_any _ _ _ ?_) | (go_at_call 111; refine isPlace_any _ _ _ ?_))
      refine HQ.out _ ?_
      repeat (first | refine Below.alloc ?_ (by first | omega | (simp <;> omega)) _ | exact Below.refl _ _)
    · cases e2 : opndB av an
      · rw [show (inB dst 0 11 && inB op 1 4 && opndB av an && opndB bv bn && inB x 0 (n - 1)) = false by simp [e0, e1, e2]] at HQ
        go_enter Try.func106, Try.ntmps106
        go_wp2_with (first | (go_at_call 108; refine isVar_any _ _ ?_) | (go_at_call 109; refine isOp_any _ _ ?_) | (go_at_call 110; refine isOpnd_any _ _ _ ?_) | (go_at_call 111; refine isPlace_any _ _ _ ?_))
        refine HQ.out _ ?_
        repeat (first | refine Below.alloc ?_ (by first | omega | (simp <;> omega)) _ | exact Below.refl _ _)
      · cases e3 : opndB bv bn
        · rw [show (inB dst 0 11 && inB op 1 4 && opndB av an && opndB bv bn && inB x 0 (n - 1)) = false by simp [e0, e1, e2, e3]] at HQ
          go_enter Try.func106, Try.ntmps106
          go_wp2_with (first | (go_at_call 108; refine isVar_any _ _ ?_) | (go_at_call 109; refine isOp_any _ _ ?_) | (go_at_call 110; refine isOpnd_any _ _ _ ?_) | (go_at_call 111; refine isPlace_any _ _ _ ?_))
          refine HQ.out _ ?_
          repeat (first | refine Below.alloc ?_ (by first | omega | (simp <;> omega)) _ | exact Below.refl _ _)
        · cases e4 : inB x 0 (n - 1)
          · rw [show (inB dst 0 11 && inB op 1 4 && opndB av an && opndB bv bn && inB x 0 (n - 1)) = false by simp [e0, e1, e2, e3, e4]] at HQ
            go_enter Try.func106, Try.ntmps106
            go_wp2_with (first | (go_at_call 108; refine isVar_any _ _ ?_) | (go_at_call 109; refine isOp_any _ _ ?_) | (go_at_call 110; refine isOpnd_any _ _ _ ?_) | (go_at_call 111; refine isPlace_any _ _ _ ?_))
            refine HQ.out _ ?_
            repeat (first | refine Below.alloc ?_ (by first | omega | (simp <;> omega)) _ | exact Below.refl _ _)
          · rw [show (inB dst 0 11 && inB op 1 4 && opndB av an && opndB bv bn && inB x 0 (n - 1)) = true by simp [e0, e1, e2, e3, e4]] at HQ
            go_enter Try.func106, Try.ntmps106
            go_wp2_with (first | (go_at_call 108; refine isVar_any _ _ ?_) | (go_at_call 109; refine isOp_any _ _ ?_) | (go_at_call 110; refine isOpnd_any _ _ _ ?_) | (go_at_call 111; refine isPlace_any _ _ _ ?_))
            refine HQ.out _ ?_
            repeat (first | refine Below.alloc ?_ (by first | omega | (simp <;> omega)) _ | exact Below.refl _ _)

set_option maxHeartbeats 1000000 in
theorem copyFits_any {Q : Ending → World → Prop} (dst av an x : Int) (n : Int) (w : World)
    (hQ : ∀ w', Below w.heap.size w w' → Q (.returned (.bool (inB dst 0 11 && opndB av an && inB x 0 (n - 1)))) w') :
    Calls Try.prog 113 #[copyV dst av an x, .int .i64 n] w Q := by
  have HQ : Hid (∀ w', Below w.heap.size w w' → Q (.returned (.bool (inB dst 0 11 && opndB av an && inB x 0 (n - 1)))) w') := hQ
  clear hQ
  unfold copyV
  cases e0 : inB dst 0 11
  · rw [show (inB dst 0 11 && opndB av an && inB x 0 (n - 1)) = false by simp [e0]] at HQ
    go_enter Try.func113, Try.ntmps113
    go_wp2_with (first | (go_at_call 108; refine isVar_any _ _ ?_) | (go_at_call 109; refine isOp_any _ _ ?_) | (go_at_call 110; refine isOpnd_any _ _ _ ?_) | (go_at_call 111; refine isPlace_any _ _ _ ?_))
    refine HQ.out _ ?_
    repeat (first | refine Below.alloc ?_ (by first | omega | (simp <;> omega)) _ | exact Below.refl _ _)
  · cases e1 : opndB av an
    · rw [show (inB dst 0 11 && opndB av an && inB x 0 (n - 1)) = false by simp [e0, e1]] at HQ
      go_enter Try.func113, Try.ntmps113
      go_wp2_with (first | (go_at_call 108; refine isVar_any _ _ ?_) | (go_at_call 109; refine isOp_any _ _ ?_) | (go_at_call 110; refine isOpnd_any _ _ _ ?_) | (go_at_call 111; refine isPlace_any _ _ _ ?_))
      refine HQ.out _ ?_
      repeat (first | refine Below.alloc ?_ (by first | omega | (simp <;> omega)) _ | exact Below.refl _ _)
    · cases e2 : inB x 0 (n - 1)
      · rw [show (inB dst 0 11 && opndB av an && inB x 0 (n - 1)) = false by simp [e0, e1, e2]] at HQ
        go_enter Try.func113, Try.ntmps113
        go_wp2_with (first | (go_at_call 108; refine isVar_any _ _ ?_) | (go_at_call 109; refine isOp_any _ _ ?_) | (go_at_call 110; refine isOpnd_any _ _ _ ?_) | (go_at_call 111; refine isPlace_any _ _ _ ?_))
        refine HQ.out _ ?_
        repeat (first | refine Below.alloc ?_ (by first | omega | (simp <;> omega)) _ | exact Below.refl _ _)
      · rw [show (inB dst 0 11 && opndB av an && inB x 0 (n - 1)) = true by simp [e0, e1, e2]] at HQ
        go_enter Try.func113, Try.ntmps113
        go_wp2_with (first | (go_at_call 108; refine isVar_any _ _ ?_) | (go_at_call 109; refine isOp_any _ _ ?_) | (go_at_call 110; refine isOpnd_any _ _ _ ?_) | (go_at_call 111; refine isPlace_any _ _ _ ?_))
        refine HQ.out _ ?_
        repeat (first | refine Below.alloc ?_ (by first | omega | (simp <;> omega)) _ | exact Below.refl _ _)

set_option maxHeartbeats 1000000 in
theorem inFits_any {Q : Ending → World → Prop} (dst x : Int) (n : Int) (w : World)
    (hQ : ∀ w', Below w.heap.size w w' → Q (.returned (.bool (inB dst 0 11 && inB x 0 (n - 1)))) w') :
    Calls Try.prog 115 #[inV dst x, .int .i64 n] w Q := by
  have HQ : Hid (∀ w', Below w.heap.size w w' → Q (.returned (.bool (inB dst 0 11 && inB x 0 (n - 1)))) w') := hQ
  clear hQ
  unfold inV
  cases e0 : inB dst 0 11
  · rw [show (inB dst 0 11 && inB x 0 (n - 1)) = false by simp [e0]] at HQ
    go_enter Try.func115, Try.ntmps115
    go_wp2_with (first | (go_at_call 108; refine isVar_any _ _ ?_) | (go_at_call 109; refine isOp_any _ _ ?_) | (go_at_call 110; refine isOpnd_any _ _ _ ?_) | (go_at_call 111; refine isPlace_any _ _ _ ?_))
    refine HQ.out _ ?_
    repeat (first | refine Below.alloc ?_ (by first | omega | (simp <;> omega)) _ | exact Below.refl _ _)
  · cases e1 : inB x 0 (n - 1)
    · rw [show (inB dst 0 11 && inB x 0 (n - 1)) = false by simp [e0, e1]] at HQ
      go_enter Try.func115, Try.ntmps115
      go_wp2_with (first | (go_at_call 108; refine isVar_any _ _ ?_) | (go_at_call 109; refine isOp_any _ _ ?_) | (go_at_call 110; refine isOpnd_any _ _ _ ?_) | (go_at_call 111; refine isPlace_any _ _ _ ?_))
      refine HQ.out _ ?_
      repeat (first | refine Below.alloc ?_ (by first | omega | (simp <;> omega)) _ | exact Below.refl _ _)
    · rw [show (inB dst 0 11 && inB x 0 (n - 1)) = true by simp [e0, e1]] at HQ
      go_enter Try.func115, Try.ntmps115
      go_wp2_with (first | (go_at_call 108; refine isVar_any _ _ ?_) | (go_at_call 109; refine isOp_any _ _ ?_) | (go_at_call 110; refine isOpnd_any _ _ _ ?_) | (go_at_call 111; refine isPlace_any _ _ _ ?_))
      refine HQ.out _ ?_
      repeat (first | refine Below.alloc ?_ (by first | omega | (simp <;> omega)) _ | exact Below.refl _ _)

set_option maxHeartbeats 1000000 in
theorem outFits_any {Q : Ending → World → Prop} (av an x : Int) (n : Int) (w : World)
    (hQ : ∀ w', Below w.heap.size w w' → Q (.returned (.bool (opndB av an && inB x 0 (n - 1)))) w') :
    Calls Try.prog 117 #[outV av an x, .int .i64 n] w Q := by
  have HQ : Hid (∀ w', Below w.heap.size w w' → Q (.returned (.bool (opndB av an && inB x 0 (n - 1)))) w') := hQ
  clear hQ
  unfold outV
  cases e0 : opndB av an
  · rw [show (opndB av an && inB x 0 (n - 1)) = false by simp [e0]] at HQ
    go_enter Try.func117, Try.ntmps117
    go_wp2_with (first | (go_at_call 108; refine isVar_any _ _ ?_) | (go_at_call 109; refine isOp_any _ _ ?_) | (go_at_call 110; refine isOpnd_any _ _ _ ?_) | (go_at_call 111; refine isPlace_any _ _ _ ?_))
    refine HQ.out _ ?_
    repeat (first | refine Below.alloc ?_ (by first | omega | (simp <;> omega)) _ | exact Below.refl _ _)
  · cases e1 : inB x 0 (n - 1)
    · rw [show (opndB av an && inB x 0 (n - 1)) = false by simp [e0, e1]] at HQ
      go_enter Try.func117, Try.ntmps117
      go_wp2_with (first | (go_at_call 108; refine isVar_any _ _ ?_) | (go_at_call 109; refine isOp_any _ _ ?_) | (go_at_call 110; refine isOpnd_any _ _ _ ?_) | (go_at_call 111; refine isPlace_any _ _ _ ?_))
      refine HQ.out _ ?_
      repeat (first | refine Below.alloc ?_ (by first | omega | (simp <;> omega)) _ | exact Below.refl _ _)
    · rw [show (opndB av an && inB x 0 (n - 1)) = true by simp [e0, e1]] at HQ
      go_enter Try.func117, Try.ntmps117
      go_wp2_with (first | (go_at_call 108; refine isVar_any _ _ ?_) | (go_at_call 109; refine isOp_any _ _ ?_) | (go_at_call 110; refine isOpnd_any _ _ _ ?_) | (go_at_call 111; refine isPlace_any _ _ _ ?_))
      refine HQ.out _ ?_
      repeat (first | refine Below.alloc ?_ (by first | omega | (simp <;> omega)) _ | exact Below.refl _ _)

set_option maxHeartbeats 1000000 in
theorem testFits_any {Q : Ending → World → Prop} (av an x y : Int) (n : Int) (w : World)
    (hQ : ∀ w', Below w.heap.size w w' → Q (.returned (.bool (opndB av an && inB x 0 (n - 1) && inB y 0 (n - 1)))) w') :
    Calls Try.prog 119 #[testV av an x y, .int .i64 n] w Q := by
  have HQ : Hid (∀ w', Below w.heap.size w w' → Q (.returned (.bool (opndB av an && inB x 0 (n - 1) && inB y 0 (n - 1)))) w') := hQ
  clear hQ
  unfold testV
  cases e0 : opndB av an
  · rw [show (opndB av an && inB x 0 (n - 1) && inB y 0 (n - 1)) = false by simp [e0]] at HQ
    go_enter Try.func119, Try.ntmps119
    go_wp2_with (first | (go_at_call 108; refine isVar_any _ _ ?_) | (go_at_call 109; refine isOp_any _ _ ?_) | (go_at_call 110; refine isOpnd_any _ _ _ ?_) | (go_at_call 111; refine isPlace_any _ _ _ ?_))
    refine HQ.out _ ?_
    repeat (first | refine Below.alloc ?_ (by first | omega | (simp <;> omega)) _ | exact Below.refl _ _)
  · cases e1 : inB x 0 (n - 1)
    · rw [show (opndB av an && inB x 0 (n - 1) && inB y 0 (n - 1)) = false by simp [e0, e1]] at HQ
      go_enter Try.func119, Try.ntmps119
      go_wp2_with (first | (go_at_call 108; refine isVar_any _ _ ?_) | (go_at_call 109; refine isOp_any _ _ ?_) | (go_at_call 110; refine isOpnd_any _ _ _ ?_) | (go_at_call 111; refine isPlace_any _ _ _ ?_))
      refine HQ.out _ ?_
      repeat (first | refine Below.alloc ?_ (by first | omega | (simp <;> omega)) _ | exact Below.refl _ _)
    · cases e2 : inB y 0 (n - 1)
      · rw [show (opndB av an && inB x 0 (n - 1) && inB y 0 (n - 1)) = false by simp [e0, e1, e2]] at HQ
        go_enter Try.func119, Try.ntmps119
        go_wp2_with (first | (go_at_call 108; refine isVar_any _ _ ?_) | (go_at_call 109; refine isOp_any _ _ ?_) | (go_at_call 110; refine isOpnd_any _ _ _ ?_) | (go_at_call 111; refine isPlace_any _ _ _ ?_))
        refine HQ.out _ ?_
        repeat (first | refine Below.alloc ?_ (by first | omega | (simp <;> omega)) _ | exact Below.refl _ _)
      · rw [show (opndB av an && inB x 0 (n - 1) && inB y 0 (n - 1)) = true by simp [e0, e1, e2]] at HQ
        go_enter Try.func119, Try.ntmps119
        go_wp2_with (first | (go_at_call 108; refine isVar_any _ _ ?_) | (go_at_call 109; refine isOp_any _ _ ?_) | (go_at_call 110; refine isOpnd_any _ _ _ ?_) | (go_at_call 111; refine isPlace_any _ _ _ ?_))
        refine HQ.out _ ?_
        repeat (first | refine Below.alloc ?_ (by first | omega | (simp <;> omega)) _ | exact Below.refl _ _)

set_option maxHeartbeats 1000000 in
theorem skipFits_any {Q : Ending → World → Prop} (x : Int) (n : Int) (w : World)
    (hQ : ∀ w', Below w.heap.size w w' → Q (.returned (.bool (inB x 0 (n - 1)))) w') :
    Calls Try.prog 121 #[skipV x, .int .i64 n] w Q := by
  have HQ : Hid (∀ w', Below w.heap.size w w' → Q (.returned (.bool (inB x 0 (n - 1)))) w') := hQ
  clear hQ
  unfold skipV
  cases e0 : inB x 0 (n - 1)
  · rw [show (inB x 0 (n - 1)) = false by simp [e0]] at HQ
    go_enter Try.func121, Try.ntmps121
    go_wp2_with (first | (go_at_call 108; refine isVar_any _ _ ?_) | (go_at_call 109; refine isOp_any _ _ ?_) | (go_at_call 110; refine isOpnd_any _ _ _ ?_) | (go_at_call 111; refine isPlace_any _ _ _ ?_))
    refine HQ.out _ ?_
    repeat (first | refine Below.alloc ?_ (by first | omega | (simp <;> omega)) _ | exact Below.refl _ _)
  · rw [show (inB x 0 (n - 1)) = true by simp [e0]] at HQ
    go_enter Try.func121, Try.ntmps121
    go_wp2_with (first | (go_at_call 108; refine isVar_any _ _ ?_) | (go_at_call 109; refine isOp_any _ _ ?_) | (go_at_call 110; refine isOpnd_any _ _ _ ?_) | (go_at_call 111; refine isPlace_any _ _ _ ?_))
    refine HQ.out _ ?_
    repeat (first | refine Below.alloc ?_ (by first | omega | (simp <;> omega)) _ | exact Below.refl _ _)

set_option maxHeartbeats 1000000 in
theorem endFits_any {Q : Ending → World → Prop} (n : Int) (w : World)
    (hQ : ∀ w', Below w.heap.size w w' → Q (.returned (.bool (true))) w') :
    Calls Try.prog 123 #[endV, .int .i64 n] w Q := by
  have HQ : Hid (∀ w', Below w.heap.size w w' → Q (.returned (.bool (true))) w') := hQ
  clear hQ
  unfold endV
  go_enter Try.func123, Try.ntmps123
  go_wp2
  refine HQ.out _ ?_
  repeat (first | refine Below.alloc ?_ (by first | omega | (simp <;> omega)) _ | exact Below.refl _ _)
end Go.Proofs.Ytfbmeciolflgnaa
