/- sameStep of two steps. -/
import Derived.Test.YtdgghpklhkgknaaImplLeaf
namespace Go.Proofs.Ytdgghpklhkgknaa
open Go.RowKit

def sameB (s t : St) : Bool := (s.kind == t.kind) && (s.dst == t.dst) && (s.op == t.op) && (s.av == t.av) && (s.an == t.an) && (s.bv == t.bv) && (s.bn == t.bn) && sameInts s.next t.next

set_option maxHeartbeats 4000000 in
theorem sameStep_any {Q : Ending → World → Prop} (u v : Value) (s t : St) (w : World) (hu : IntsAt w u s.next) (hv : IntsAt w v t.next) (hl : s.next.length ≤ 1048576) (hl' : t.next.length ≤ 1048576)
    (hQ : ∀ w', Below w.heap.size w w' → Q (.returned (.bool (sameB s t))) w') :
    Calls Try.prog 49 #[stepV s u, stepV t v] w Q := by
  have HQ : Hid (∀ w', Below w.heap.size w w' → Q (.returned (.bool (sameB s t))) w') := hQ
  clear hQ
  obtain ⟨ao, b, o, cap, rfl, ha, hc⟩ := id hu
  obtain ⟨ao', b', o', cap', rfl, ha', hc'⟩ := id hv
  clear ha hc ha' hc'
  have hb0 : ∀ O0 O1, Below w.heap.size w ((w.alloc O0).alloc O1) := by
    intro O0 O1
    exact ((Below.refl _ _).alloc (Nat.le_refl _) _).alloc (by simp) _
  unfold stepV
  obtain ⟨kind, dst, op, av, an, bv, bn, next⟩ := s
  obtain ⟨kind', dst', op', av', an', bv', bn', next'⟩ := t
  simp only at hu hv hl hl' HQ

  by_cases hkind : kind = kind'
  · subst hkind
    by_cases hdst : dst = dst'
    · subst hdst
      by_cases hop : op = op'
      · subst hop
        by_cases hav : av = av'
        · subst hav
          by_cases han : an = an'
          · subst han
            by_cases hbv : bv = bv'
            · subst hbv
              by_cases hbn : bn = bn'
              · subst hbn
                rw [show sameB ⟨kind, dst, op, av, an, bv, bn, next⟩ ⟨kind, dst, op, av, an, bv, bn, next'⟩ = sameInts next next' by simp [sameB]] at HQ
                go_enter Try.func49, Try.ntmps49
                go_wp2_with fail
                refine equal_any _ _ next next' _ (hu.keep (hb0 _ _)) (hv.keep (hb0 _ _)) hl hl' fun w1 hb1 => ?_
                have hbA : Below w.heap.size w w1 := (hb0 _ _).trans (hb1.mono (by simp; omega))
                clear hb1 hb0
                go_wp2
                exact HQ.out _ hbA
              · rw [show sameB ⟨kind, dst, op, av, an, bv, bn, next⟩ ⟨kind, dst, op, av, an, bv, bn', next'⟩ = false by simp [sameB, hbn]] at HQ
                have gbn : (bn == bn') = false := by simp [hbn]
                go_enter Try.func49, Try.ntmps49
                go_wp2
                exact HQ.out _ (hb0 _ _)
            · rw [show sameB ⟨kind, dst, op, av, an, bv, bn, next⟩ ⟨kind, dst, op, av, an, bv', bn', next'⟩ = false by simp [sameB, hbv]] at HQ
              have gbv : (bv == bv') = false := by simp [hbv]
              go_enter Try.func49, Try.ntmps49
              go_wp2
              exact HQ.out _ (hb0 _ _)
          · rw [show sameB ⟨kind, dst, op, av, an, bv, bn, next⟩ ⟨kind, dst, op, av, an', bv', bn', next'⟩ = false by simp [sameB, han]] at HQ
            have gan : (an == an') = false := by simp [han]
            go_enter Try.func49, Try.ntmps49
            go_wp2
            exact HQ.out _ (hb0 _ _)
        · rw [show sameB ⟨kind, dst, op, av, an, bv, bn, next⟩ ⟨kind, dst, op, av', an', bv', bn', next'⟩ = false by simp [sameB, hav]] at HQ
          have gav : (av == av') = false := by simp [hav]
          go_enter Try.func49, Try.ntmps49
          go_wp2
          exact HQ.out _ (hb0 _ _)
      · rw [show sameB ⟨kind, dst, op, av, an, bv, bn, next⟩ ⟨kind, dst, op', av', an', bv', bn', next'⟩ = false by simp [sameB, hop]] at HQ
        have gop : (op == op') = false := by simp [hop]
        go_enter Try.func49, Try.ntmps49
        go_wp2
        exact HQ.out _ (hb0 _ _)
    · rw [show sameB ⟨kind, dst, op, av, an, bv, bn, next⟩ ⟨kind, dst', op', av', an', bv', bn', next'⟩ = false by simp [sameB, hdst]] at HQ
      have gdst : (dst == dst') = false := by simp [hdst]
      go_enter Try.func49, Try.ntmps49
      go_wp2
      exact HQ.out _ (hb0 _ _)
  · rw [show sameB ⟨kind, dst, op, av, an, bv, bn, next⟩ ⟨kind', dst', op', av', an', bv', bn', next'⟩ = false by simp [sameB, hkind]] at HQ
    have gkind : (kind == kind') = false := by simp [hkind]
    go_enter Try.func49, Try.ntmps49
    go_wp2
    exact HQ.out _ (hb0 _ _)

end Go.Proofs.Ytdgghpklhkgknaa
