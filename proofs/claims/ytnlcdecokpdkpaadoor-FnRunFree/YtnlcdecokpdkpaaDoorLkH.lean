/- Whether a step has to do with a variable; whether two programs say the same: small functions of the laws. -/
import Derived.Test.YtnlcdecokpdkpaaDoorFreeP
import Derived.Test.YtnlcdecokpdkpaaDoorLkG
namespace Go.Proofs.YtnlcdecokpdkpaaDoor
open Go.RowKit

set_option maxHeartbeats 4000000 in
theorem lkHas_any {Q : Ending → World → Prop} (s : St) (nv : Value) (v : Int) (w : World) (h : IntsAt w nv s.next)
    (hQ : ∀ w', Below w.heap.size w w' → Q (.returned (.bool (hasB s v))) w') :
    Calls Tryd.prog 29 #[stepV s nv, .int .i64 v] w Q := by
  have HQ : Hid (∀ w', Below w.heap.size w w' → Q (.returned (.bool (hasB s v))) w') := hQ
  clear hQ
  obtain ⟨ao, b, o, cap, rfl, ha, hc⟩ := h
  have HB : Hid (∀ O, Below w.heap.size w (w.alloc O)) := fun O => (Below.refl _ _).alloc (Nat.le_refl _) O
  clear ha hc
  obtain ⟨kd, ds, op, av, an, bv, bn, nx⟩ := s
  unfold stepV
  dsimp only
  by_cases k1 : kd = 1
  · subst k1
    by_cases hds : ds = v
    · subst hds
      have e : hasB ⟨1, ds, op, av, an, bv, bn, nx⟩ ds = true := by simp [hasB]
      rw [e] at HQ
      clear e
      go_enter Tryd.func29, Tryd.ntmps29
      go_wp2
      exact HQ.out _ (HB.out _)
    · have hdsb : (ds == v) = false := by simpa using hds
      by_cases hav : av = v
      · subst hav
        have e : hasB ⟨1, ds, op, av, an, bv, bn, nx⟩ av = true := by simp [hasB]
        rw [e] at HQ
        clear e
        go_enter Tryd.func29, Tryd.ntmps29
        go_wp2
        exact HQ.out _ (HB.out _)
      · have havb : (av == v) = false := by simpa using hav
        by_cases hbv : bv = v
        · subst hbv
          have e : hasB ⟨1, ds, op, av, an, bv, bn, nx⟩ bv = true := by simp [hasB]
          rw [e] at HQ
          clear e
          go_enter Tryd.func29, Tryd.ntmps29
          go_wp2
          exact HQ.out _ (HB.out _)
        · have hbvb : (bv == v) = false := by simpa using hbv
          have e : hasB ⟨1, ds, op, av, an, bv, bn, nx⟩ v = false := by simp [hasB, hds, hav, hbv]
          rw [e] at HQ
          clear e
          go_enter Tryd.func29, Tryd.ntmps29
          go_wp2
          exact HQ.out _ (HB.out _)
  by_cases k2 : kd = 2
  · subst k2
    by_cases hds : ds = v
    · subst hds
      have e : hasB ⟨2, ds, op, av, an, bv, bn, nx⟩ ds = true := by simp [hasB]
      rw [e] at HQ
      clear e
      go_enter Tryd.func29, Tryd.ntmps29
      go_wp2
      exact HQ.out _ (HB.out _)
    · have hdsb : (ds == v) = false := by simpa using hds
      by_cases hav : av = v
      · subst hav
        have e : hasB ⟨2, ds, op, av, an, bv, bn, nx⟩ av = true := by simp [hasB]
        rw [e] at HQ
        clear e
        go_enter Tryd.func29, Tryd.ntmps29
        go_wp2
        exact HQ.out _ (HB.out _)
      · have havb : (av == v) = false := by simpa using hav
        have e : hasB ⟨2, ds, op, av, an, bv, bn, nx⟩ v = false := by simp [hasB, hds, hav]
        rw [e] at HQ
        clear e
        go_enter Tryd.func29, Tryd.ntmps29
        go_wp2
        exact HQ.out _ (HB.out _)
  by_cases k3 : kd = 3
  · subst k3
    by_cases hds : ds = v
    · subst hds
      have e : hasB ⟨3, ds, op, av, an, bv, bn, nx⟩ ds = true := by simp [hasB]
      rw [e] at HQ
      clear e
      go_enter Tryd.func29, Tryd.ntmps29
      go_wp2
      exact HQ.out _ (HB.out _)
    · have hdsb : (ds == v) = false := by simpa using hds
      have e : hasB ⟨3, ds, op, av, an, bv, bn, nx⟩ v = false := by simp [hasB, hds]
      rw [e] at HQ
      clear e
      go_enter Tryd.func29, Tryd.ntmps29
      go_wp2
      exact HQ.out _ (HB.out _)
  by_cases k4 : kd = 4
  · subst k4
    by_cases hav : av = v
    · subst hav
      have e : hasB ⟨4, ds, op, av, an, bv, bn, nx⟩ av = true := by simp [hasB]
      rw [e] at HQ
      clear e
      go_enter Tryd.func29, Tryd.ntmps29
      go_wp2
      exact HQ.out _ (HB.out _)
    · have havb : (av == v) = false := by simpa using hav
      have e : hasB ⟨4, ds, op, av, an, bv, bn, nx⟩ v = false := by simp [hasB, hav]
      rw [e] at HQ
      clear e
      go_enter Tryd.func29, Tryd.ntmps29
      go_wp2
      exact HQ.out _ (HB.out _)
  by_cases k5 : kd = 5
  · subst k5
    by_cases hav : av = v
    · subst hav
      have e : hasB ⟨5, ds, op, av, an, bv, bn, nx⟩ av = true := by simp [hasB]
      rw [e] at HQ
      clear e
      go_enter Tryd.func29, Tryd.ntmps29
      go_wp2
      exact HQ.out _ (HB.out _)
    · have havb : (av == v) = false := by simpa using hav
      have e : hasB ⟨5, ds, op, av, an, bv, bn, nx⟩ v = false := by simp [hasB, hav]
      rw [e] at HQ
      clear e
      go_enter Tryd.func29, Tryd.ntmps29
      go_wp2
      exact HQ.out _ (HB.out _)
  have e : hasB ⟨kd, ds, op, av, an, bv, bn, nx⟩ v = false := by simp [hasB, k1, k2, k3, k4, k5]
  have b1 : (kd == 1) = false := by simpa using k1
  have b2 : (kd == 2) = false := by simpa using k2
  have b3 : (kd == 3) = false := by simpa using k3
  have b4 : (kd == 4) = false := by simpa using k4
  have b5 : (kd == 5) = false := by simpa using k5
  rw [e] at HQ
  clear e k1 k2 k3 k4 k5
  go_enter Tryd.func29, Tryd.ntmps29
  go_wp2
  exact HQ.out _ (HB.out _)
end Go.Proofs.YtnlcdecokpdkpaaDoor
