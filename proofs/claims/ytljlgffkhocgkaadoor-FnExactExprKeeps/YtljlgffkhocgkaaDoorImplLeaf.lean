/- The small functions of the program's chapter 1: isVar, isOp, isOpnd, isPlace, nextCount, slices.Equal, sameStep. -/
import Derived.Test.YtljlgffkhocgkaaDoorPure
import Derived.Test.YtljlgffkhocgkaaDoorChecked
import Derived.Deep.QuietTactic
import Derived.BigQuiet
import Derived.Deep.RegionWith
namespace Go.Proofs.YtljlgffkhocgkaaDoor
open Go.RowKit

set_option maxHeartbeats 400000 in
theorem isVar_any {Q : Ending → World → Prop} (v : Int) (w : World) (hQ : Q (.returned (.bool (inB v 0 11))) w) :
    Calls Tryd.prog 84 #[.int .i64 v] w Q := by
  have HQ : Hid _ := hQ
  clear hQ
  by_cases h1 : 0 ≤ v
  · by_cases h2 : v < 12
    · rw [show inB v 0 11 = true by simp [inB]; omega] at HQ
      go_enter Tryd.func84, Tryd.ntmps84
      go_wp2
      exact HQ.out
    · rw [show inB v 0 11 = false by simp [inB]; omega] at HQ
      go_enter Tryd.func84, Tryd.ntmps84
      go_wp2
      exact HQ.out
  · rw [show inB v 0 11 = false by simp [inB, h1]] at HQ
    go_enter Tryd.func84, Tryd.ntmps84
    go_wp2
    exact HQ.out

set_option maxHeartbeats 400000 in
theorem isOp_any {Q : Ending → World → Prop} (v : Int) (w : World) (hQ : Q (.returned (.bool (inB v 1 4))) w) :
    Calls Tryd.prog 57 #[.int .i64 v] w Q := by
  have HQ : Hid _ := hQ
  clear hQ
  by_cases h1 : 1 ≤ v
  · by_cases h2 : v ≤ 4
    · rw [show inB v 1 4 = true by simp [inB, h1, h2]] at HQ
      go_enter Tryd.func57, Tryd.ntmps57
      go_wp2
      exact HQ.out
    · rw [show inB v 1 4 = false by simp [inB, h1, h2]] at HQ
      go_enter Tryd.func57, Tryd.ntmps57
      go_wp2
      exact HQ.out
  · rw [show inB v 1 4 = false by simp [inB, h1]] at HQ
    go_enter Tryd.func57, Tryd.ntmps57
    go_wp2
    exact HQ.out

set_option maxHeartbeats 400000 in
theorem isPlace_any {Q : Ending → World → Prop} (v n : Int) (w : World) (hQ : Q (.returned (.bool (inB v 0 (n - 1)))) w) :
    Calls Tryd.prog 121 #[.int .i64 v, .int .i64 n] w Q := by
  have HQ : Hid _ := hQ
  clear hQ
  by_cases h1 : 0 ≤ v
  · by_cases h2 : v < n
    · rw [show inB v 0 (n - 1) = true by simp [inB]; omega] at HQ
      go_enter Tryd.func121, Tryd.ntmps121
      go_wp2
      exact HQ.out
    · rw [show inB v 0 (n - 1) = false by simp [inB]; omega] at HQ
      go_enter Tryd.func121, Tryd.ntmps121
      go_wp2
      exact HQ.out
  · rw [show inB v 0 (n - 1) = false by simp [inB, h1]] at HQ
    go_enter Tryd.func121, Tryd.ntmps121
    go_wp2
    exact HQ.out

set_option maxHeartbeats 400000 in
theorem isNum_any {Q : Ending → World → Prop} (n : Int) (w : World) (hQ : Q (.returned (.bool (inB n 0 65535))) w) :
    Calls Tryd.prog 83 #[.int .i64 n] w Q := by
  have HQ : Hid _ := hQ
  clear hQ
  by_cases h1 : 0 ≤ n
  · by_cases h2 : n < 65536
    · rw [show inB n 0 65535 = true by simp [inB]; omega] at HQ
      go_enter Tryd.func83, Tryd.ntmps83
      go_wp2
      exact HQ.out
    · rw [show inB n 0 65535 = false by simp [inB]; omega] at HQ
      go_enter Tryd.func83, Tryd.ntmps83
      go_wp2
      exact HQ.out
  · rw [show inB n 0 65535 = false by simp [inB, h1]] at HQ
    go_enter Tryd.func83, Tryd.ntmps83
    go_wp2
    exact HQ.out

set_option maxHeartbeats 400000 in
theorem isOpnd_any {Q : Ending → World → Prop} (v n : Int) (w : World) (hQ : Q (.returned (.bool (opndB v n))) (w.alloc (.cells #[.int .i64 v, .int .i64 n] 36))) :
    Calls Tryd.prog 58 #[.agg #[.int .i64 v, .int .i64 n]] w Q := by
  have HQ : Hid _ := hQ
  clear hQ
  by_cases h1 : v = -1
  · subst h1
    rw [show opndB (-1) n = inB n 0 65535 by simp [opndB]] at HQ
    go_enter Tryd.func58, Tryd.ntmps58
    go_wp2_with (go_at_call 83; refine isNum_any _ _ ?_)
    exact HQ.out
  · have hb : (v == -1) = false := by simp [h1]
    cases h2 : inB v 0 11
    · rw [show opndB v n = false by simp [opndB, h1, h2]] at HQ
      go_enter Tryd.func58, Tryd.ntmps58
      go_wp2_with (go_at_call 84; refine isVar_any _ _ ?_)
      exact HQ.out
    · by_cases h3 : n = 0
      · rw [show opndB v n = true by simp [opndB, h1, h2, h3]] at HQ
        subst h3
        go_enter Tryd.func58, Tryd.ntmps58
        go_wp2_with (go_at_call 84; refine isVar_any _ _ ?_)
        exact HQ.out
      · rw [show opndB v n = false by simp [opndB, h1, h3]] at HQ
        have hb3 : (n == 0) = false := by simp [h3]
        go_enter Tryd.func58, Tryd.ntmps58
        go_wp2_with (go_at_call 84; refine isVar_any _ _ ?_)
        exact HQ.out

def count (k : Int) : Int := if k = 5 then 2 else if k = 7 then 0 else 1

set_option maxHeartbeats 400000 in
theorem nextCount_any (k : Int) (w : World) :
    Calls Tryd.prog 96 #[.int .i64 k] w fun e w' => e = .returned (.int .i64 (count k)) ∧ w' = w := by
  by_cases h5 : k = 5
  · subst h5
    go_enter Tryd.func96, Tryd.ntmps96
    go_wp2
    go_ret
    exact ⟨rfl, rfl⟩
  · have g5 : (k == 5) = false := by simp [h5]
    by_cases h7 : k = 7
    · subst h7
      go_enter Tryd.func96, Tryd.ntmps96
      go_wp2
      go_ret
      exact ⟨rfl, rfl⟩
    · have g7 : (k == 7) = false := by simp [h7]
      rw [show count k = 1 by simp [count, h5, h7]]
      go_enter Tryd.func96, Tryd.ntmps96
      go_wp2
      go_ret
      exact ⟨rfl, rfl⟩

def sameInts (ys zs : List Int) : Bool := decide (ys = zs)

set_option maxHeartbeats 1000000 in
theorem equal_any {Q : Ending → World → Prop} (u v : Value) (ys zs : List Int) (w : World) (hu : IntsAt w u ys) (hv : IntsAt w v zs) (hl : ys.length ≤ 1048576) (hl' : zs.length ≤ 1048576)
    (hQ : ∀ w', Below w.heap.size w w' → Q (.returned (.bool (sameInts ys zs))) w') :
    Calls Tryd.prog 102 #[u, v] w Q := by
  have HQ : Hid (∀ w', Below w.heap.size w w' → Q (.returned (.bool (sameInts ys zs))) w') := hQ
  clear hQ
  obtain ⟨ao, b, o, cap, rfl, ha, hc⟩ := hu
  obtain ⟨ao', b', o', cap', rfl, ha', hc'⟩ := hv
  have HA : Hid _ := ha
  have HC : Hid _ := hc
  have HA' : Hid _ := ha'
  have HC' : Hid _ := hc'
  clear ha hc ha' hc'
  by_cases hlen : ys.length = zs.length
  · have hne : ((ys.length : Int) != (zs.length : Int)) = false := by simp [hlen]
    have HLEN : Hid (ys.length = zs.length) := hlen
    have hle : ys.length ≤ zs.length := by omega
    have hge : zs.length ≤ ys.length := by omega
    clear hlen
    go_enter Tryd.func102, Tryd.ntmps102
    go_wp2
    go_loopw [13] (fun i wr => ∃ k : Nat, k ≤ ys.length ∧ i = .int .i64 k ∧ Below w.heap.size w wr ∧ ∀ j, j < k → ys.getD j 0 = zs.getD j 0) (fun i _ => ys.length - (intOf i).toNat)
    case atStart => exact ⟨0, Nat.zero_le _, rfl, Below.refl _ _, by omega⟩
    case round =>
      obtain ⟨k, hk, rfl, hb, hall⟩ := hrel
      have HALL : Hid _ := hall
      clear hall
      by_cases hkl : k < ys.length
      · obtain rfl := HA.out (by omega)
        obtain rfl := HA'.out (by omega)
        have hkl' : k < zs.length := by omega
        have c1 := cell_keep hb (HC.out k hkl)
        have c2 := cell_keep hb (HC'.out k hkl')
        have hki : (k : Int) < (ys.length : Int) := by omega
        have hki' : (k : Int) < (zs.length : Int) := by omega
        by_cases he : ys[k] = zs[k]
        · have hbe : (ys[k] != zs[k]) = false := by simp [he]
          have HE : Hid (ys[k] = zs[k]) := he
          clear he
          go_wp2_with fail
          go_quiet (fail)
          go_wp2
          go_roundw
          case rel =>
            refine ⟨k + 1, by omega, by go_num, below_drewN hb _, fun j hj => ?_⟩
            by_cases hjk : j = k
            · subst hjk
              have := HE.out
              simpa [List.getD_eq_getElem?_getD, hkl, hkl'] using this
            · exact HALL.out j (by omega)
          case measure => simp [intOf]; omega
        · have hbe : (ys[k] != zs[k]) = true := by simp [he]
          have HF : Hid (sameInts ys zs = false) := by
            simp only [Hid, sameInts, decide_eq_false_iff_not]
            rintro rfl
            exact he rfl
          clear he
          rw [HF.out] at HQ
          go_wp2_with fail
          go_quiet (fail)
          go_wp2
          exact HQ.out _ (below_drewN hb _)
      · have HT : Hid (sameInts ys zs = true) := by
          simp only [Hid, sameInts, decide_eq_true_eq]
          refine List.ext_getElem HLEN.out fun j h1 h2 => ?_
          have := HALL.out j (by omega)
          simpa [List.getD_eq_getElem?_getD, h1, h2] using this
        rw [HT.out] at HQ
        go_wp2
        exact HQ.out _ hb
  · have hne : ((ys.length : Int) != (zs.length : Int)) = true := by simp; omega
    rw [show sameInts ys zs = false by simp only [sameInts, decide_eq_false_iff_not]; rintro rfl; exact hlen rfl] at HQ
    clear hlen
    go_enter Tryd.func102, Tryd.ntmps102
    go_wp2
    exact HQ.out _ (Below.refl _ _)
end Go.Proofs.YtljlgffkhocgkaaDoor
