/- fits() of each form. -/
import Derived.Test.YtdgghpklhkgknaaForms
namespace Go.Proofs.Ytdgghpklhkgknaa
open Go.RowKit


set_option maxHeartbeats 1000000 in
theorem setFits_any {Q : Ending → World → Prop} (dst op av an bv bn x : Int) (n : Int) (w : World)
    (hQ : ∀ w', Below w.heap.size w w' → Q (.returned (.bool (inB dst 0 11 && inB op 1 4 && opndB av an && opndB bv bn && inB x 0 (n - 1)))) w') :
    Calls Try.prog 67 #[setV dst op av an bv bn x, .int .i64 n] w Q := by
  have HQ : Hid (∀ w', Below w.heap.size w w' → Q (.returned (.bool (inB dst 0 11 && inB op 1 4 && opndB av an && opndB bv bn && inB x 0 (n - 1)))) w') := hQ
  clear hQ
  unfold setV
  cases e0 : inB dst 0 11
  · rw [show (inB dst 0 11 && inB op 1 4 && opndB av an && opndB bv bn && inB x 0 (n - 1)) = false by simp [e0]] at HQ
    go_enter Try.func67, Try.ntmps67
    go_wp2_with (first | (go_at_call 33; refine isVar_any _ _ ?_) | (go_at_call 20; refine isOp_any _ _ ?_) | (go_at_call 21; refine isOpnd_any _ _ _ ?_) | (go_at_call 69; refine isPlace_any _ _ _ ?_))
    refine HQ.out _ ?_
    repeat (first | refine Below.alloc ?_ (by first | omega | (simp <;> omega)) _ | exact Below.refl _ _)
  · cases e1 : inB op 1 4
    · rw [show (inB dst 0 11 && inB op 1 4 && opndB av an && opndB bv bn && inB x 0 (n - 1)) = false by simp [e0, e1]] at HQ
      go_enter Try.func67, Try.ntmps67
      go_wp2_with (first | (go_at_call 33; refine isVar_any _ _ ?_) | (go_at_call 20; refine isOp_any _ _ ?_) | (go_at_call 21; refine isOpnd_any _ _ _ ?_) | (go_at_call 69; refine isPlace_any _ _ _ ?_))
      refine HQ.out _ ?_
      repeat (first | refine Below.alloc ?_ (by first | omega | (simp <;> omega)) _ | exact Below.refl _ _)
    · cases e2 : opndB av an
      · rw [show (inB dst 0 11 && inB op 1 4 && opndB av an && opndB bv bn && inB x 0 (n - 1)) = false by simp [e0, e1, e2]] at HQ
        go_enter Try.func67, Try.ntmps67
        go_wp2_with (first | (go_at_call 33; refine isVar_any _ _ ?_) | (go_at_call 20; refine isOp_any _ _ ?_) | (go_at_call 21; refine isOpnd_any _ _ _ ?_) | (go_at_call 69; refine isPlace_any _ _ _ ?_))
        refine HQ.out _ ?_
        repeat (first | refine Below.alloc ?_ (by first | omega | (simp <;> omega)) _ | exact Below.refl _ _)
      · cases e3 : opndB bv bn
        · rw [show (inB dst 0 11 && inB op 1 4 && opndB av an && opndB bv bn && inB x 0 (n - 1)) = false by simp [e0, e1, e2, e3]] at HQ
          go_enter Try.func67, Try.ntmps67
          go_wp2_with (first | (go_at_call 33; refine isVar_any _ _ ?_) | (go_at_call 20; refine isOp_any _ _ ?_) | (go_at_call 21; refine isOpnd_any _ _ _ ?_) | (go_at_call 69; refine isPlace_any _ _ _ ?_))
          refine HQ.out _ ?_
          repeat (first | refine Below.alloc ?_ (by first | omega | (simp <;> omega)) _ | exact Below.refl _ _)
        · cases e4 : inB x 0 (n - 1)
          · rw [show (inB dst 0 11 && inB op 1 4 && opndB av an && opndB bv bn && inB x 0 (n - 1)) = false by simp [e0, e1, e2, e3, e4]] at HQ
            go_enter Try.func67, Try.ntmps67
            go_wp2_with (first | (go_at_call 33; refine isVar_any _ _ ?_) | (go_at_call 20; refine isOp_any _ _ ?_) | (go_at_call 21; refine isOpnd_any _ _ _ ?_) | (go_at_call 69; refine isPlace_any _ _ _ ?_))
            refine HQ.out _ ?_
            repeat (first | refine Below.alloc ?_ (by first | omega | (simp <;> omega)) _ | exact Below.refl _ _)
          · rw [show (inB dst 0 11 && inB op 1 4 && opndB av an && opndB bv bn && inB x 0 (n - 1)) = true by simp [e0, e1, e2, e3, e4]] at HQ
            go_enter Try.func67, Try.ntmps67
            go_wp2_with (first | (go_at_call 33; refine isVar_any _ _ ?_) | (go_at_call 20; refine isOp_any _ _ ?_) | (go_at_call 21; refine isOpnd_any _ _ _ ?_) | (go_at_call 69; refine isPlace_any _ _ _ ?_))
            refine HQ.out _ ?_
            repeat (first | refine Below.alloc ?_ (by first | omega | (simp <;> omega)) _ | exact Below.refl _ _)

set_option maxHeartbeats 1000000 in
theorem copyFits_any {Q : Ending → World → Prop} (dst av an x : Int) (n : Int) (w : World)
    (hQ : ∀ w', Below w.heap.size w w' → Q (.returned (.bool (inB dst 0 11 && opndB av an && inB x 0 (n - 1)))) w') :
    Calls Try.prog 70 #[copyV dst av an x, .int .i64 n] w Q := by
  have HQ : Hid (∀ w', Below w.heap.size w w' → Q (.returned (.bool (inB dst 0 11 && opndB av an && inB x 0 (n - 1)))) w') := hQ
  clear hQ
  unfold copyV
  cases e0 : inB dst 0 11
  · rw [show (inB dst 0 11 && opndB av an && inB x 0 (n - 1)) = false by simp [e0]] at HQ
    go_enter Try.func70, Try.ntmps70
    go_wp2_with (first | (go_at_call 33; refine isVar_any _ _ ?_) | (go_at_call 20; refine isOp_any _ _ ?_) | (go_at_call 21; refine isOpnd_any _ _ _ ?_) | (go_at_call 69; refine isPlace_any _ _ _ ?_))
    refine HQ.out _ ?_
    repeat (first | refine Below.alloc ?_ (by first | omega | (simp <;> omega)) _ | exact Below.refl _ _)
  · cases e1 : opndB av an
    · rw [show (inB dst 0 11 && opndB av an && inB x 0 (n - 1)) = false by simp [e0, e1]] at HQ
      go_enter Try.func70, Try.ntmps70
      go_wp2_with (first | (go_at_call 33; refine isVar_any _ _ ?_) | (go_at_call 20; refine isOp_any _ _ ?_) | (go_at_call 21; refine isOpnd_any _ _ _ ?_) | (go_at_call 69; refine isPlace_any _ _ _ ?_))
      refine HQ.out _ ?_
      repeat (first | refine Below.alloc ?_ (by first | omega | (simp <;> omega)) _ | exact Below.refl _ _)
    · cases e2 : inB x 0 (n - 1)
      · rw [show (inB dst 0 11 && opndB av an && inB x 0 (n - 1)) = false by simp [e0, e1, e2]] at HQ
        go_enter Try.func70, Try.ntmps70
        go_wp2_with (first | (go_at_call 33; refine isVar_any _ _ ?_) | (go_at_call 20; refine isOp_any _ _ ?_) | (go_at_call 21; refine isOpnd_any _ _ _ ?_) | (go_at_call 69; refine isPlace_any _ _ _ ?_))
        refine HQ.out _ ?_
        repeat (first | refine Below.alloc ?_ (by first | omega | (simp <;> omega)) _ | exact Below.refl _ _)
      · rw [show (inB dst 0 11 && opndB av an && inB x 0 (n - 1)) = true by simp [e0, e1, e2]] at HQ
        go_enter Try.func70, Try.ntmps70
        go_wp2_with (first | (go_at_call 33; refine isVar_any _ _ ?_) | (go_at_call 20; refine isOp_any _ _ ?_) | (go_at_call 21; refine isOpnd_any _ _ _ ?_) | (go_at_call 69; refine isPlace_any _ _ _ ?_))
        refine HQ.out _ ?_
        repeat (first | refine Below.alloc ?_ (by first | omega | (simp <;> omega)) _ | exact Below.refl _ _)

set_option maxHeartbeats 1000000 in
theorem inFits_any {Q : Ending → World → Prop} (dst x : Int) (n : Int) (w : World)
    (hQ : ∀ w', Below w.heap.size w w' → Q (.returned (.bool (inB dst 0 11 && inB x 0 (n - 1)))) w') :
    Calls Try.prog 72 #[inV dst x, .int .i64 n] w Q := by
  have HQ : Hid (∀ w', Below w.heap.size w w' → Q (.returned (.bool (inB dst 0 11 && inB x 0 (n - 1)))) w') := hQ
  clear hQ
  unfold inV
  cases e0 : inB dst 0 11
  · rw [show (inB dst 0 11 && inB x 0 (n - 1)) = false by simp [e0]] at HQ
    go_enter Try.func72, Try.ntmps72
    go_wp2_with (first | (go_at_call 33; refine isVar_any _ _ ?_) | (go_at_call 20; refine isOp_any _ _ ?_) | (go_at_call 21; refine isOpnd_any _ _ _ ?_) | (go_at_call 69; refine isPlace_any _ _ _ ?_))
    refine HQ.out _ ?_
    repeat (first | refine Below.alloc ?_ (by first | omega | (simp <;> omega)) _ | exact Below.refl _ _)
  · cases e1 : inB x 0 (n - 1)
    · rw [show (inB dst 0 11 && inB x 0 (n - 1)) = false by simp [e0, e1]] at HQ
      go_enter Try.func72, Try.ntmps72
      go_wp2_with (first | (go_at_call 33; refine isVar_any _ _ ?_) | (go_at_call 20; refine isOp_any _ _ ?_) | (go_at_call 21; refine isOpnd_any _ _ _ ?_) | (go_at_call 69; refine isPlace_any _ _ _ ?_))
      refine HQ.out _ ?_
      repeat (first | refine Below.alloc ?_ (by first | omega | (simp <;> omega)) _ | exact Below.refl _ _)
    · rw [show (inB dst 0 11 && inB x 0 (n - 1)) = true by simp [e0, e1]] at HQ
      go_enter Try.func72, Try.ntmps72
      go_wp2_with (first | (go_at_call 33; refine isVar_any _ _ ?_) | (go_at_call 20; refine isOp_any _ _ ?_) | (go_at_call 21; refine isOpnd_any _ _ _ ?_) | (go_at_call 69; refine isPlace_any _ _ _ ?_))
      refine HQ.out _ ?_
      repeat (first | refine Below.alloc ?_ (by first | omega | (simp <;> omega)) _ | exact Below.refl _ _)

set_option maxHeartbeats 1000000 in
theorem outFits_any {Q : Ending → World → Prop} (av an x : Int) (n : Int) (w : World)
    (hQ : ∀ w', Below w.heap.size w w' → Q (.returned (.bool (opndB av an && inB x 0 (n - 1)))) w') :
    Calls Try.prog 74 #[outV av an x, .int .i64 n] w Q := by
  have HQ : Hid (∀ w', Below w.heap.size w w' → Q (.returned (.bool (opndB av an && inB x 0 (n - 1)))) w') := hQ
  clear hQ
  unfold outV
  cases e0 : opndB av an
  · rw [show (opndB av an && inB x 0 (n - 1)) = false by simp [e0]] at HQ
    go_enter Try.func74, Try.ntmps74
    go_wp2_with (first | (go_at_call 33; refine isVar_any _ _ ?_) | (go_at_call 20; refine isOp_any _ _ ?_) | (go_at_call 21; refine isOpnd_any _ _ _ ?_) | (go_at_call 69; refine isPlace_any _ _ _ ?_))
    refine HQ.out _ ?_
    repeat (first | refine Below.alloc ?_ (by first | omega | (simp <;> omega)) _ | exact Below.refl _ _)
  · cases e1 : inB x 0 (n - 1)
    · rw [show (opndB av an && inB x 0 (n - 1)) = false by simp [e0, e1]] at HQ
      go_enter Try.func74, Try.ntmps74
      go_wp2_with (first | (go_at_call 33; refine isVar_any _ _ ?_) | (go_at_call 20; refine isOp_any _ _ ?_) | (go_at_call 21; refine isOpnd_any _ _ _ ?_) | (go_at_call 69; refine isPlace_any _ _ _ ?_))
      refine HQ.out _ ?_
      repeat (first | refine Below.alloc ?_ (by first | omega | (simp <;> omega)) _ | exact Below.refl _ _)
    · rw [show (opndB av an && inB x 0 (n - 1)) = true by simp [e0, e1]] at HQ
      go_enter Try.func74, Try.ntmps74
      go_wp2_with (first | (go_at_call 33; refine isVar_any _ _ ?_) | (go_at_call 20; refine isOp_any _ _ ?_) | (go_at_call 21; refine isOpnd_any _ _ _ ?_) | (go_at_call 69; refine isPlace_any _ _ _ ?_))
      refine HQ.out _ ?_
      repeat (first | refine Below.alloc ?_ (by first | omega | (simp <;> omega)) _ | exact Below.refl _ _)

set_option maxHeartbeats 1000000 in
theorem testFits_any {Q : Ending → World → Prop} (av an x y : Int) (n : Int) (w : World)
    (hQ : ∀ w', Below w.heap.size w w' → Q (.returned (.bool (opndB av an && inB x 0 (n - 1) && inB y 0 (n - 1)))) w') :
    Calls Try.prog 76 #[testV av an x y, .int .i64 n] w Q := by
  have HQ : Hid (∀ w', Below w.heap.size w w' → Q (.returned (.bool (opndB av an && inB x 0 (n - 1) && inB y 0 (n - 1)))) w') := hQ
  clear hQ
  unfold testV
  cases e0 : opndB av an
  · rw [show (opndB av an && inB x 0 (n - 1) && inB y 0 (n - 1)) = false by simp [e0]] at HQ
    go_enter Try.func76, Try.ntmps76
    go_wp2_with (first | (go_at_call 33; refine isVar_any _ _ ?_) | (go_at_call 20; refine isOp_any _ _ ?_) | (go_at_call 21; refine isOpnd_any _ _ _ ?_) | (go_at_call 69; refine isPlace_any _ _ _ ?_))
    refine HQ.out _ ?_
    repeat (first | refine Below.alloc ?_ (by first | omega | (simp <;> omega)) _ | exact Below.refl _ _)
  · cases e1 : inB x 0 (n - 1)
    · rw [show (opndB av an && inB x 0 (n - 1) && inB y 0 (n - 1)) = false by simp [e0, e1]] at HQ
      go_enter Try.func76, Try.ntmps76
      go_wp2_with (first | (go_at_call 33; refine isVar_any _ _ ?_) | (go_at_call 20; refine isOp_any _ _ ?_) | (go_at_call 21; refine isOpnd_any _ _ _ ?_) | (go_at_call 69; refine isPlace_any _ _ _ ?_))
      refine HQ.out _ ?_
      repeat (first | refine Below.alloc ?_ (by first | omega | (simp <;> omega)) _ | exact Below.refl _ _)
    · cases e2 : inB y 0 (n - 1)
      · rw [show (opndB av an && inB x 0 (n - 1) && inB y 0 (n - 1)) = false by simp [e0, e1, e2]] at HQ
        go_enter Try.func76, Try.ntmps76
        go_wp2_with (first | (go_at_call 33; refine isVar_any _ _ ?_) | (go_at_call 20; refine isOp_any _ _ ?_) | (go_at_call 21; refine isOpnd_any _ _ _ ?_) | (go_at_call 69; refine isPlace_any _ _ _ ?_))
        refine HQ.out _ ?_
        repeat (first | refine Below.alloc ?_ (by first | omega | (simp <;> omega)) _ | exact Below.refl _ _)
      · rw [show (opndB av an && inB x 0 (n - 1) && inB y 0 (n - 1)) = true by simp [e0, e1, e2]] at HQ
        go_enter Try.func76, Try.ntmps76
        go_wp2_with (first | (go_at_call 33; refine isVar_any _ _ ?_) | (go_at_call 20; refine isOp_any _ _ ?_) | (go_at_call 21; refine isOpnd_any _ _ _ ?_) | (go_at_call 69; refine isPlace_any _ _ _ ?_))
        refine HQ.out _ ?_
        repeat (first | refine Below.alloc ?_ (by first | omega | (simp <;> omega)) _ | exact Below.refl _ _)

set_option maxHeartbeats 1000000 in
theorem skipFits_any {Q : Ending → World → Prop} (x : Int) (n : Int) (w : World)
    (hQ : ∀ w', Below w.heap.size w w' → Q (.returned (.bool (inB x 0 (n - 1)))) w') :
    Calls Try.prog 78 #[skipV x, .int .i64 n] w Q := by
  have HQ : Hid (∀ w', Below w.heap.size w w' → Q (.returned (.bool (inB x 0 (n - 1)))) w') := hQ
  clear hQ
  unfold skipV
  cases e0 : inB x 0 (n - 1)
  · rw [show (inB x 0 (n - 1)) = false by simp [e0]] at HQ
    go_enter Try.func78, Try.ntmps78
    go_wp2_with (first | (go_at_call 33; refine isVar_any _ _ ?_) | (go_at_call 20; refine isOp_any _ _ ?_) | (go_at_call 21; refine isOpnd_any _ _ _ ?_) | (go_at_call 69; refine isPlace_any _ _ _ ?_))
    refine HQ.out _ ?_
    repeat (first | refine Below.alloc ?_ (by first | omega | (simp <;> omega)) _ | exact Below.refl _ _)
  · rw [show (inB x 0 (n - 1)) = true by simp [e0]] at HQ
    go_enter Try.func78, Try.ntmps78
    go_wp2_with (first | (go_at_call 33; refine isVar_any _ _ ?_) | (go_at_call 20; refine isOp_any _ _ ?_) | (go_at_call 21; refine isOpnd_any _ _ _ ?_) | (go_at_call 69; refine isPlace_any _ _ _ ?_))
    refine HQ.out _ ?_
    repeat (first | refine Below.alloc ?_ (by first | omega | (simp <;> omega)) _ | exact Below.refl _ _)

set_option maxHeartbeats 1000000 in
theorem endFits_any {Q : Ending → World → Prop} (n : Int) (w : World)
    (hQ : ∀ w', Below w.heap.size w w' → Q (.returned (.bool (true))) w') :
    Calls Try.prog 80 #[endV, .int .i64 n] w Q := by
  have HQ : Hid (∀ w', Below w.heap.size w w' → Q (.returned (.bool (true))) w') := hQ
  clear hQ
  unfold endV
  go_enter Try.func80, Try.ntmps80
  go_wp2
  refine HQ.out _ ?_
  repeat (first | refine Below.alloc ?_ (by first | omega | (simp <;> omega)) _ | exact Below.refl _ _)
end Go.Proofs.Ytdgghpklhkgknaa
