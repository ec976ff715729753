/- sameStep of two steps. step() and fits() of each form. fits() of each form. -/
import Derived.Test.YtljlgffkhocgkaaDoorImplLeaf
namespace Go.Proofs.YtljlgffkhocgkaaDoor
open Go.RowKit

def sameB (s t : St) : Bool := (s.kind == t.kind) && (s.dst == t.dst) && (s.op == t.op) && (s.av == t.av) && (s.an == t.an) && (s.bv == t.bv) && (s.bn == t.bn) && sameInts s.next t.next

set_option maxHeartbeats 4000000 in
theorem sameStep_any {Q : Ending → World → Prop} (u v : Value) (s t : St) (w : World) (hu : IntsAt w u s.next) (hv : IntsAt w v t.next) (hl : s.next.length ≤ 1048576) (hl' : t.next.length ≤ 1048576)
    (hQ : ∀ w', Below w.heap.size w w' → Q (.returned (.bool (sameB s t))) w') :
    Calls Tryd.prog 97 #[stepV s u, stepV t v] w Q := by
  have HQ : Hid (∀ w', Below w.heap.size w w' → Q (.returned (.bool (sameB s t))) w') := hQ
  clear hQ
  obtain ⟨ao, b, o, cap, rfl, ha, hc⟩ := id hu
  obtain ⟨ao', b', o', cap', rfl, ha', hc'⟩ := id hv
  clear ha hc ha' hc'
  have hb0 : ∀ O0 O1, Below w.heap.size w ((w.alloc O0).alloc O1) := by
    intro O0 O1
    exact ((Below.refl _ _).alloc (Nat.le_refl _) _).alloc (by simp) _
  unfold stepV
  obtain ⟨kind, dst, op, av, an, bv, bn, next⟩ := s
  obtain ⟨kind', dst', op', av', an', bv', bn', next'⟩ := t
  simp only at hu hv hl hl' HQ

  by_cases hkind : kind = kind'
  · subst hkind
    by_cases hdst : dst = dst'
    · subst hdst
      by_cases hop : op = op'
      · subst hop
        by_cases hav : av = av'
        · subst hav
          by_cases han : an = an'
          · subst han
            by_cases hbv : bv = bv'
            · subst hbv
              by_cases hbn : bn = bn'
              · subst hbn
                rw [show sameB ⟨kind, dst, op, av, an, bv, bn, next⟩ ⟨kind, dst, op, av, an, bv, bn, next'⟩ = sameInts next next' by simp [sameB]] at HQ
                go_enter Tryd.func97, Tryd.ntmps97
                go_wp2_with fail
                refine equal_any _ _ next next' _ (hu.keep (hb0 _ _)) (hv.keep (hb0 _ _)) hl hl' fun w1 hb1 => ?_
                have hbA : Below w.heap.size w w1 := (hb0 _ _).trans (hb1.mono (by simp; omega))
                clear hb1 hb0
                go_wp2
                exact HQ.out _ hbA
              · rw [show sameB ⟨kind, dst, op, av, an, bv, bn, next⟩ ⟨kind, dst, op, av, an, bv, bn', next'⟩ = false by simp [sameB, hbn]] at HQ
                have gbn : (bn == bn') = false := by simp [hbn]
                go_enter Tryd.func97, Tryd.ntmps97
                go_wp2
                exact HQ.out _ (hb0 _ _)
            · rw [show sameB ⟨kind, dst, op, av, an, bv, bn, next⟩ ⟨kind, dst, op, av, an, bv', bn', next'⟩ = false by simp [sameB, hbv]] at HQ
              have gbv : (bv == bv') = false := by simp [hbv]
              go_enter Tryd.func97, Tryd.ntmps97
              go_wp2
              exact HQ.out _ (hb0 _ _)
          · rw [show sameB ⟨kind, dst, op, av, an, bv, bn, next⟩ ⟨kind, dst, op, av, an', bv', bn', next'⟩ = false by simp [sameB, han]] at HQ
            have gan : (an == an') = false := by simp [han]
            go_enter Tryd.func97, Tryd.ntmps97
            go_wp2
            exact HQ.out _ (hb0 _ _)
        · rw [show sameB ⟨kind, dst, op, av, an, bv, bn, next⟩ ⟨kind, dst, op, av', an', bv', bn', next'⟩ = false by simp [sameB, hav]] at HQ
          have gav : (av == av') = false := by simp [hav]
          go_enter Tryd.func97, Tryd.ntmps97
          go_wp2
          exact HQ.out _ (hb0 _ _)
      · rw [show sameB ⟨kind, dst, op, av, an, bv, bn, next⟩ ⟨kind, dst, op', av', an', bv', bn', next'⟩ = false by simp [sameB, hop]] at HQ
        have gop : (op == op') = false := by simp [hop]
        go_enter Tryd.func97, Tryd.ntmps97
        go_wp2
        exact HQ.out _ (hb0 _ _)
    · rw [show sameB ⟨kind, dst, op, av, an, bv, bn, next⟩ ⟨kind, dst', op', av', an', bv', bn', next'⟩ = false by simp [sameB, hdst]] at HQ
      have gdst : (dst == dst') = false := by simp [hdst]
      go_enter Tryd.func97, Tryd.ntmps97
      go_wp2
      exact HQ.out _ (hb0 _ _)
  · rw [show sameB ⟨kind, dst, op, av, an, bv, bn, next⟩ ⟨kind', dst', op', av', an', bv', bn', next'⟩ = false by simp [sameB, hkind]] at HQ
    have gkind : (kind == kind') = false := by simp [hkind]
    go_enter Tryd.func97, Tryd.ntmps97
    go_wp2
    exact HQ.out _ (hb0 _ _)

end Go.Proofs.YtljlgffkhocgkaaDoor
namespace Go.Proofs.YtljlgffkhocgkaaDoor
open Go.RowKit

/-- The value inside the interface, by the kind. -/
abbrev setV (dst op av an bv bn x : Int) : Value := .agg #[.int .i64 dst, .int .i64 op, .int .i64 av, .int .i64 an, .int .i64 bv, .int .i64 bn, .int .i64 x]
abbrev copyV (dst av an x : Int) : Value := .agg #[.int .i64 dst, .int .i64 av, .int .i64 an, .int .i64 x]
abbrev inV (dst x : Int) : Value := .agg #[.int .i64 dst, .int .i64 x]
abbrev outV (av an x : Int) : Value := .agg #[.int .i64 av, .int .i64 an, .int .i64 x]
abbrev testV (av an x y : Int) : Value := .agg #[.int .i64 av, .int .i64 an, .int .i64 x, .int .i64 y]
abbrev skipV (x : Int) : Value := .agg #[.int .i64 x]
abbrev endV : Value := .agg #[]

set_option maxHeartbeats 1000000 in
theorem setStep_any {Q : Ending → World → Prop} (dst op av an bv bn x : Int) (w : World)
    (hQ : ∀ nv w', IntsAt w' nv [x] → Below w.heap.size w w' → Q (.returned (stepV ⟨1, dst, op, av, an, bv, bn, [x]⟩ nv)) w') :
    Calls Tryd.prog 120 #[setV dst op av an bv bn x] w Q := by
  have HQ : Hid (∀ nv w', IntsAt w' nv [x] → Below w.heap.size w w' → Q (.returned (stepV ⟨1, dst, op, av, an, bv, bn, [x]⟩ nv)) w') := hQ
  clear hQ
  unfold stepV at HQ
  unfold setV
  go_enter Tryd.func120, Tryd.ntmps120
  go_wp2
  refine bodyPost_ret (v := .agg #[.int .i64 1, .int .i64 dst, .int .i64 op, .int .i64 av, .int .i64 an, .int .i64 bv, .int .i64 bn, .slice (some ⟨w.heap.size + 1 + 1, 0, none⟩) 1 1]) (by simp [results, Tryd.results120, go_sem]) rfl ?_
  refine HQ.out (.slice (some ⟨w.heap.size + 1 + 1, 0, none⟩) 1 1) _ ?_ ?_
  · refine ⟨_, w.heap.size + 1 + 1, 0, _, rfl, fun _ => rfl, fun i hi => ?_⟩
    match i, hi with
    | 0, _ => simp [go_sem]
  · repeat (first | refine Below.alloc ?_ (by first | omega | (simp <;> omega)) _ | exact Below.refl _ _)

set_option maxHeartbeats 1000000 in
theorem copyStep_any {Q : Ending → World → Prop} (dst av an x : Int) (w : World)
    (hQ : ∀ nv w', IntsAt w' nv [x] → Below w.heap.size w w' → Q (.returned (stepV ⟨2, dst, 0, av, an, 0, 0, [x]⟩ nv)) w') :
    Calls Tryd.prog 123 #[copyV dst av an x] w Q := by
  have HQ : Hid (∀ nv w', IntsAt w' nv [x] → Below w.heap.size w w' → Q (.returned (stepV ⟨2, dst, 0, av, an, 0, 0, [x]⟩ nv)) w') := hQ
  clear hQ
  unfold stepV at HQ
  unfold copyV
  go_enter Tryd.func123, Tryd.ntmps123
  go_wp2
  refine bodyPost_ret (v := .agg #[.int .i64 2, .int .i64 dst, .int .i64 0, .int .i64 av, .int .i64 an, .int .i64 0, .int .i64 0, .slice (some ⟨w.heap.size + 1 + 1, 0, none⟩) 1 1]) (by simp [results, Tryd.results123, go_sem]) rfl ?_
  refine HQ.out (.slice (some ⟨w.heap.size + 1 + 1, 0, none⟩) 1 1) _ ?_ ?_
  · refine ⟨_, w.heap.size + 1 + 1, 0, _, rfl, fun _ => rfl, fun i hi => ?_⟩
    match i, hi with
    | 0, _ => simp [go_sem]
  · repeat (first | refine Below.alloc ?_ (by first | omega | (simp <;> omega)) _ | exact Below.refl _ _)

set_option maxHeartbeats 1000000 in
theorem inStep_any {Q : Ending → World → Prop} (dst x : Int) (w : World)
    (hQ : ∀ nv w', IntsAt w' nv [x] → Below w.heap.size w w' → Q (.returned (stepV ⟨3, dst, 0, 0, 0, 0, 0, [x]⟩ nv)) w') :
    Calls Tryd.prog 125 #[inV dst x] w Q := by
  have HQ : Hid (∀ nv w', IntsAt w' nv [x] → Below w.heap.size w w' → Q (.returned (stepV ⟨3, dst, 0, 0, 0, 0, 0, [x]⟩ nv)) w') := hQ
  clear hQ
  unfold stepV at HQ
  unfold inV
  go_enter Tryd.func125, Tryd.ntmps125
  go_wp2
  refine bodyPost_ret (v := .agg #[.int .i64 3, .int .i64 dst, .int .i64 0, .int .i64 0, .int .i64 0, .int .i64 0, .int .i64 0, .slice (some ⟨w.heap.size + 1 + 1, 0, none⟩) 1 1]) (by simp [results, Tryd.results125, go_sem]) rfl ?_
  refine HQ.out (.slice (some ⟨w.heap.size + 1 + 1, 0, none⟩) 1 1) _ ?_ ?_
  · refine ⟨_, w.heap.size + 1 + 1, 0, _, rfl, fun _ => rfl, fun i hi => ?_⟩
    match i, hi with
    | 0, _ => simp [go_sem]
  · repeat (first | refine Below.alloc ?_ (by first | omega | (simp <;> omega)) _ | exact Below.refl _ _)

set_option maxHeartbeats 1000000 in
theorem outStep_any {Q : Ending → World → Prop} (av an x : Int) (w : World)
    (hQ : ∀ nv w', IntsAt w' nv [x] → Below w.heap.size w w' → Q (.returned (stepV ⟨4, 0, 0, av, an, 0, 0, [x]⟩ nv)) w') :
    Calls Tryd.prog 127 #[outV av an x] w Q := by
  have HQ : Hid (∀ nv w', IntsAt w' nv [x] → Below w.heap.size w w' → Q (.returned (stepV ⟨4, 0, 0, av, an, 0, 0, [x]⟩ nv)) w') := hQ
  clear hQ
  unfold stepV at HQ
  unfold outV
  go_enter Tryd.func127, Tryd.ntmps127
  go_wp2
  refine bodyPost_ret (v := .agg #[.int .i64 4, .int .i64 0, .int .i64 0, .int .i64 av, .int .i64 an, .int .i64 0, .int .i64 0, .slice (some ⟨w.heap.size + 1 + 1, 0, none⟩) 1 1]) (by simp [results, Tryd.results127, go_sem]) rfl ?_
  refine HQ.out (.slice (some ⟨w.heap.size + 1 + 1, 0, none⟩) 1 1) _ ?_ ?_
  · refine ⟨_, w.heap.size + 1 + 1, 0, _, rfl, fun _ => rfl, fun i hi => ?_⟩
    match i, hi with
    | 0, _ => simp [go_sem]
  · repeat (first | refine Below.alloc ?_ (by first | omega | (simp <;> omega)) _ | exact Below.refl _ _)

set_option maxHeartbeats 1000000 in
theorem testStep_any {Q : Ending → World → Prop} (av an x y : Int) (w : World)
    (hQ : ∀ nv w', IntsAt w' nv [x, y] → Below w.heap.size w w' → Q (.returned (stepV ⟨5, 0, 0, av, an, 0, 0, [x, y]⟩ nv)) w') :
    Calls Tryd.prog 129 #[testV av an x y] w Q := by
  have HQ : Hid (∀ nv w', IntsAt w' nv [x, y] → Below w.heap.size w w' → Q (.returned (stepV ⟨5, 0, 0, av, an, 0, 0, [x, y]⟩ nv)) w') := hQ
  clear hQ
  unfold stepV at HQ
  unfold testV
  go_enter Tryd.func129, Tryd.ntmps129
  go_wp2
  refine bodyPost_ret (v := .agg #[.int .i64 5, .int .i64 0, .int .i64 0, .int .i64 av, .int .i64 an, .int .i64 0, .int .i64 0, .slice (some ⟨w.heap.size + 1 + 1, 0, none⟩) 2 2]) (by simp [results, Tryd.results129, go_sem]) rfl ?_
  refine HQ.out (.slice (some ⟨w.heap.size + 1 + 1, 0, none⟩) 2 2) _ ?_ ?_
  · refine ⟨_, w.heap.size + 1 + 1, 0, _, rfl, fun _ => rfl, fun i hi => ?_⟩
    match i, hi with
    | 0, _ => simp [go_sem]
    | 1, _ => simp [go_sem]
  · repeat (first | refine Below.alloc ?_ (by first | omega | (simp <;> omega)) _ | exact Below.refl _ _)

set_option maxHeartbeats 1000000 in
theorem skipStep_any {Q : Ending → World → Prop} (x : Int) (w : World)
    (hQ : ∀ nv w', IntsAt w' nv [x] → Below w.heap.size w w' → Q (.returned (stepV ⟨6, 0, 0, 0, 0, 0, 0, [x]⟩ nv)) w') :
    Calls Tryd.prog 131 #[skipV x] w Q := by
  have HQ : Hid (∀ nv w', IntsAt w' nv [x] → Below w.heap.size w w' → Q (.returned (stepV ⟨6, 0, 0, 0, 0, 0, 0, [x]⟩ nv)) w') := hQ
  clear hQ
  unfold stepV at HQ
  unfold skipV
  go_enter Tryd.func131, Tryd.ntmps131
  go_wp2
  refine bodyPost_ret (v := .agg #[.int .i64 6, .int .i64 0, .int .i64 0, .int .i64 0, .int .i64 0, .int .i64 0, .int .i64 0, .slice (some ⟨w.heap.size + 1 + 1, 0, none⟩) 1 1]) (by simp [results, Tryd.results131, go_sem]) rfl ?_
  refine HQ.out (.slice (some ⟨w.heap.size + 1 + 1, 0, none⟩) 1 1) _ ?_ ?_
  · refine ⟨_, w.heap.size + 1 + 1, 0, _, rfl, fun _ => rfl, fun i hi => ?_⟩
    match i, hi with
    | 0, _ => simp [go_sem]
  · repeat (first | refine Below.alloc ?_ (by first | omega | (simp <;> omega)) _ | exact Below.refl _ _)

set_option maxHeartbeats 1000000 in
theorem endStep_any {Q : Ending → World → Prop} (w : World)
    (hQ : ∀ nv w', IntsAt w' nv [] → Below w.heap.size w w' → Q (.returned (stepV ⟨7, 0, 0, 0, 0, 0, 0, []⟩ nv)) w') :
    Calls Tryd.prog 133 #[endV] w Q := by
  have HQ : Hid (∀ nv w', IntsAt w' nv [] → Below w.heap.size w w' → Q (.returned (stepV ⟨7, 0, 0, 0, 0, 0, 0, []⟩ nv)) w') := hQ
  clear hQ
  unfold stepV at HQ
  unfold endV
  go_enter Tryd.func133, Tryd.ntmps133
  go_wp2
  refine bodyPost_ret (v := .agg #[.int .i64 7, .int .i64 0, .int .i64 0, .int .i64 0, .int .i64 0, .int .i64 0, .int .i64 0, .slice none 0 0]) (by simp [results, Tryd.results133, go_sem]) rfl ?_
  refine HQ.out (.slice none 0 0) _ ?_ ?_
  · exact ⟨_, 0, 0, _, rfl, fun h => absurd h (by simp), fun i hi => absurd hi (by simp)⟩
  · repeat (first | refine Below.alloc ?_ (by first | omega | (simp <;> omega)) _ | exact Below.refl _ _)
end Go.Proofs.YtljlgffkhocgkaaDoor
namespace Go.Proofs.YtljlgffkhocgkaaDoor
open Go.RowKit


set_option maxHeartbeats 1000000 in
theorem setFits_any {Q : Ending → World → Prop} (dst op av an bv bn x : Int) (n : Int) (w : World)
    (hQ : ∀ w', Below w.heap.size w w' → Q (.returned (.bool (inB dst 0 11 && inB op 1 4 && opndB av an && opndB bv bn && inB x 0 (n - 1)))) w') :
    Calls Tryd.prog 119 #[setV dst op av an bv bn x, .int .i64 n] w Q := by
  have HQ : Hid (∀ w', Below w.heap.size w w' → Q (.returned (.bool (inB dst 0 11 && inB op 1 4 && opndB av an && opndB bv bn && inB x 0 (n - 1)))) w') := hQ
  clear hQ
  unfold setV
  cases e0 : inB dst 0 11
  · rw [show (inB dst 0 11 && inB op 1 4 && opndB av an && opndB bv bn && inB x 0 (n - 1)) = false by simp [e0]] at HQ
    go_enter Tryd.func119, Tryd.ntmps119
    go_wp2_with (first | (go_at_call 84; refine isVar_any _ _ ?_) | (go_at_call 57; refine isOp_any _ _ ?_) | (go_at_call 58; refine isOpnd_any _ _ _ ?_) | (go_at_call 121; refine isPlace_any _ _ _ ?_))
    refine HQ.out _ ?_
    repeat (first | refine Below.alloc ?_ (by first | omega | (simp <;> omega)) _ | exact Below.refl _ _)
  · cases e1 : inB op 1 4
    · rw [show (inB dst 0 11 && inB op 1 4 && opndB av an && opndB bv bn && inB x 0 (n - 1)) = false by simp [e0, e1]] at HQ
      go_enter Tryd.func119, Tryd.ntmps119
      go_wp2_with (first | (go_at_call 84; refine isVar_any _ _ ?_) | (go_at_call 57; refine isOp_any _ _ ?_) | (go_at_call 58; refine isOpnd_any _ _ _ ?_) | (go_at_call 121; refine isPlace_any _ _ _ ?_))
      refine HQ.out _ ?_
      repeat (first | refine Below.alloc ?_ (by first | omega | (simp <;> omega)) _ | exact Below.refl _ _)
    · cases e2 : opndB av an
      · rw [show (inB dst 0 11 && inB op 1 4 && opndB av an && opndB bv bn && inB x 0 (n - 1)) = false by simp [e0, e1, e2]] at HQ
        go_enter Tryd.func119, Tryd.ntmps119
        go_wp2_with (first | (go_at_call 84; refine isVar_any _ _ ?_) | (go_at_call 57; refine isOp_any _ _ ?_) | (go_at_call 58; refine isOpnd_any _ _ _ ?_) | (go_at_call 121; refine isPlace_any _ _ _ ?_))
        refine HQ.out _ ?_
        repeat (first | refine Below.alloc ?_ (by first | omega | (simp <;> omega)) _ | exact Below.refl _ _)
      · cases e3 : opndB bv bn
        · rw [show (inB dst 0 11 && inB op 1 4 && opndB av an && opndB bv bn && inB x 0 (n - 1)) = false by simp [e0, e1, e2, e3]] at HQ
          go_enter Tryd.func119, Tryd.ntmps119
          go_wp2_with (first | (go_at_call 84; refine isVar_any _ _ ?_) | (go_at_call 57; refine isOp_any _ _ ?_) | (go_at_call 58; refine isOpnd_any _ _ _ ?_) | (go_at_call 121; refine isPlace_any _ _ _ ?_))
          refine HQ.out _ ?_
          repeat (first | refine Below.alloc ?_ (by first | omega | (simp <;> omega)) _ | exact Below.refl _ _)
        · cases e4 : inB x 0 (n - 1)
          · rw [show (inB dst 0 11 && inB op 1 4 && opndB av an && opndB bv bn && inB x 0 (n - 1)) = false by simp [e0, e1, e2, e3, e4]] at HQ
            go_enter Tryd.func119, Tryd.ntmps119
            go_wp2_with (first | (go_at_call 84; refine isVar_any _ _ ?_) | (go_at_call 57; refine isOp_any _ _ ?_) | (go_at_call 58; refine isOpnd_any _ _ _ ?_) | (go_at_call 121; refine isPlace_any _ _ _ ?_))
            refine HQ.out _ ?_
            repeat (first | refine Below.alloc ?_ (by first | omega | (simp <;> omega)) _ | exact Below.refl _ _)
          · rw [show (inB dst 0 11 && inB op 1 4 && opndB av an && opndB bv bn && inB x 0 (n - 1)) = true by simp [e0, e1, e2, e3, e4]] at HQ
            go_enter Tryd.func119, Tryd.ntmps119
            go_wp2_with (first | (go_at_call 84; refine isVar_any _ _ ?_) | (go_at_call 57; refine isOp_any _ _ ?_) | (go_at_call 58; refine isOpnd_any _ _ _ ?_) | (go_at_call 121; refine isPlace_any _ _ _ ?_))
            refine HQ.out _ ?_
            repeat (first | refine Below.alloc ?_ (by first | omega | (simp <;> omega)) _ | exact Below.refl _ _)

set_option maxHeartbeats 1000000 in
theorem copyFits_any {Q : Ending → World → Prop} (dst av an x : Int) (n : Int) (w : World)
    (hQ : ∀ w', Below w.heap.size w w' → Q (.returned (.bool (inB dst 0 11 && opndB av an && inB x 0 (n - 1)))) w') :
    Calls Tryd.prog 122 #[copyV dst av an x, .int .i64 n] w Q := by
  have HQ : Hid (∀ w', Below w.heap.size w w' → Q (.returned (.bool (inB dst 0 11 && opndB av an && inB x 0 (n - 1)))) w') := hQ
  clear hQ
  unfold copyV
  cases e0 : inB dst 0 11
  · rw [show (inB dst 0 11 && opndB av an && inB x 0 (n - 1)) = false by simp [e0]] at HQ
    go_enter Tryd.func122, Tryd.ntmps122
    go_wp2_with (first | (go_at_call 84; refine isVar_any _ _ ?_) | (go_at_call 57; refine isOp_any _ _ ?_) | (go_at_call 58; refine isOpnd_any _ _ _ ?_) | (go_at_call 121; refine isPlace_any _ _ _ ?_))
    refine HQ.out _ ?_
    repeat (first | refine Below.alloc ?_ (by first | omega | (simp <;> omega)) _ | exact Below.refl _ _)
  · cases e1 : opndB av an
    · rw [show (inB dst 0 11 && opndB av an && inB x 0 (n - 1)) = false by simp [e0, e1]] at HQ
      go_enter Tryd.func122, Tryd.ntmps122
      go_wp2_with (first | (go_at_call 84; refine isVar_any _ _ ?_) | (go_at_call 57; refine isOp_any _ _ ?_) | (go_at_call 58; refine isOpnd_any _ _ _ ?_) | (go_at_call 121; refine isPlace_any _ _ _ ?_))
      refine HQ.out _ ?_
      repeat (first | refine Below.alloc ?_ (by first | omega | (simp <;> omega)) _ | exact Below.refl _ _)
    · cases e2 : inB x 0 (n - 1)
      · rw [show (inB dst 0 11 && opndB av an && inB x 0 (n - 1)) = false by simp [e0, e1, e2]] at HQ
        go_enter Tryd.func122, Tryd.ntmps122
        go_wp2_with (first | (go_at_call 84; refine isVar_any _ _ ?_) | (go_at_call 57; refine isOp_any _ _ ?_) | (go_at_call 58; refine isOpnd_any _ _ _ ?_) | (go_at_call 121; refine isPlace_any _ _ _ ?_))
        refine HQ.out _ ?_
        repeat (first | refine Below.alloc ?_ (by first | omega | (simp <;> omega)) _ | exact Below.refl _ _)
      · rw [show (inB dst 0 11 && opndB av an && inB x 0 (n - 1)) = true by simp [e0, e1, e2]] at HQ
        go_enter Tryd.func122, Tryd.ntmps122
        go_wp2_with (first | (go_at_call 84; refine isVar_any _ _ ?_) | (go_at_call 57; refine isOp_any _ _ ?_) | (go_at_call 58; refine isOpnd_any _ _ _ ?_) | (go_at_call 121; refine isPlace_any _ _ _ ?_))
        refine HQ.out _ ?_
        repeat (first | refine Below.alloc ?_ (by first | omega | (simp <;> omega)) _ | exact Below.refl _ _)

set_option maxHeartbeats 1000000 in
theorem inFits_any {Q : Ending → World → Prop} (dst x : Int) (n : Int) (w : World)
    (hQ : ∀ w', Below w.heap.size w w' → Q (.returned (.bool (inB dst 0 11 && inB x 0 (n - 1)))) w') :
    Calls Tryd.prog 124 #[inV dst x, .int .i64 n] w Q := by
  have HQ : Hid (∀ w', Below w.heap.size w w' → Q (.returned (.bool (inB dst 0 11 && inB x 0 (n - 1)))) w') := hQ
  clear hQ
  unfold inV
  cases e0 : inB dst 0 11
  · rw [show (inB dst 0 11 && inB x 0 (n - 1)) = false by simp [e0]] at HQ
    go_enter Tryd.func124, Tryd.ntmps124
    go_wp2_with (first | (go_at_call 84; refine isVar_any _ _ ?_) | (go_at_call 57; refine isOp_any _ _ ?_) | (go_at_call 58; refine isOpnd_any _ _ _ ?_) | (go_at_call 121; refine isPlace_any _ _ _ ?_))
    refine HQ.out _ ?_
    repeat (first | refine Below.alloc ?_ (by first | omega | (simp <;> omega)) _ | exact Below.refl _ _)
  · cases e1 : inB x 0 (n - 1)
    · rw [show (inB dst 0 11 && inB x 0 (n - 1)) = false by simp [e0, e1]] at HQ
      go_enter Tryd.func124, Tryd.ntmps124
      go_wp2_with (first | (go_at_call 84; refine isVar_any _ _ ?_) | (go_at_call 57; refine isOp_any _ _ ?_) | (go_at_call 58; refine isOpnd_any _ _ _ ?_) | (go_at_call 121; refine isPlace_any _ _ _ ?_))
      refine HQ.out _ ?_
      repeat (first | refine Below.alloc ?_ (by first | omega | (simp <;> omega)) _ | exact Below.refl _ _)
    · rw [show (inB dst 0 11 && inB x 0 (n - 1)) = true by simp [e0, e1]] at HQ
      go_enter Tryd.func124, Tryd.ntmps124
      go_wp2_with (first | (go_at_call 84; refine isVar_any _ _ ?_) | (go_at_call 57; refine isOp_any _ _ ?_) | (go_at_call 58; refine isOpnd_any _ _ _ ?_) | (go_at_call 121; refine isPlace_any _ _ _ ?_))
      refine HQ.out _ ?_
      repeat (first | refine Below.alloc ?_ (by first | omega | (simp <;> omega)) _ | exact Below.refl _ _)

set_option maxHeartbeats 1000000 in
theorem outFits_any {Q : Ending → World → Prop} (av an x : Int) (n : Int) (w : World)
    (hQ : ∀ w', Below w.heap.size w w' → Q (.returned (.bool (opndB av an && inB x 0 (n - 1)))) w') :
    Calls Tryd.prog 126 #[outV av an x, .int .i64 n] w Q := by
  have HQ : Hid (∀ w', Below w.heap.size w w' → Q (.returned (.bool (opndB av an && inB x 0 (n - 1)))) w') := hQ
  clear hQ
  unfold outV
  cases e0 : opndB av an
  · rw [show (opndB av an && inB x 0 (n - 1)) = false by simp [e0]] at HQ
    go_enter Tryd.func126, Tryd.ntmps126
    go_wp2_with (first | (go_at_call 84; refine isVar_any _ _ ?_) | (go_at_call 57; refine isOp_any _ _ ?_) | (go_at_call 58; refine isOpnd_any _ _ _ ?_) | (go_at_call 121; refine isPlace_any _ _ _ ?_))
    refine HQ.out _ ?_
    repeat (first | refine Below.alloc ?_ (by first | omega | (simp <;> omega)) _ | exact Below.refl _ _)
  · cases e1 : inB x 0 (n - 1)
    · rw [show (opndB av an && inB x 0 (n - 1)) = false by simp [e0, e1]] at HQ
      go_enter Tryd.func126, Tryd.ntmps126
      go_wp2_with (first | (go_at_call 84; refine isVar_any _ _ ?_) | (go_at_call 57; refine isOp_any _ _ ?_) | (go_at_call 58; refine isOpnd_any _ _ _ ?_) | (go_at_call 121; refine isPlace_any _ _ _ ?_))
      refine HQ.out _ ?_
      repeat (first | refine Below.alloc ?_ (by first | omega | (simp <;> omega)) _ | exact Below.refl _ _)
    · rw [show (opndB av an && inB x 0 (n - 1)) = true by simp [e0, e1]] at HQ
      go_enter Tryd.func126, Tryd.ntmps126
      go_wp2_with (first | (go_at_call 84; refine isVar_any _ _ ?_) | (go_at_call 57; refine isOp_any _ _ ?_) | (go_at_call 58; refine isOpnd_any _ _ _ ?_) | (go_at_call 121; refine isPlace_any _ _ _ ?_))
      refine HQ.out _ ?_
      repeat (first | refine Below.alloc ?_ (by first | omega | (simp <;> omega)) _ | exact Below.refl _ _)

set_option maxHeartbeats 1000000 in
theorem testFits_any {Q : Ending → World → Prop} (av an x y : Int) (n : Int) (w : World)
    (hQ : ∀ w', Below w.heap.size w w' → Q (.returned (.bool (opndB av an && inB x 0 (n - 1) && inB y 0 (n - 1)))) w') :
    Calls Tryd.prog 128 #[testV av an x y, .int .i64 n] w Q := by
  have HQ : Hid (∀ w', Below w.heap.size w w' → Q (.returned (.bool (opndB av an && inB x 0 (n - 1) && inB y 0 (n - 1)))) w') := hQ
  clear hQ
  unfold testV
  cases e0 : opndB av an
  · rw [show (opndB av an && inB x 0 (n - 1) && inB y 0 (n - 1)) = false by simp [e0]] at HQ
    go_enter Tryd.func128, Tryd.ntmps128
    go_wp2_with (first | (go_at_call 84; refine isVar_any _ _ ?_) | (go_at_call 57; refine isOp_any _ _ ?_) | (go_at_call 58; refine isOpnd_any _ _ _ ?_) | (go_at_call 121; refine isPlace_any _ _ _ ?_))
    refine HQ.out _ ?_
    repeat (first | refine Below.alloc ?_ (by first | omega | (simp <;> omega)) _ | exact Below.refl _ _)
  · cases e1 : inB x 0 (n - 1)
    · rw [show (opndB av an && inB x 0 (n - 1) && inB y 0 (n - 1)) = false by simp [e0, e1]] at HQ
      go_enter Tryd.func128, Tryd.ntmps128
      go_wp2_with (first | (go_at_call 84; refine isVar_any _ _ ?_) | (go_at_call 57; refine isOp_any _ _ ?_) | (go_at_call 58; refine isOpnd_any _ _ _ ?_) | (go_at_call 121; refine isPlace_any _ _ _ ?_))
      refine HQ.out _ ?_
      repeat (first | refine Below.alloc ?_ (by first | omega | (simp <;> omega)) _ | exact Below.refl _ _)
    · cases e2 : inB y 0 (n - 1)
      · rw [show (opndB av an && inB x 0 (n - 1) && inB y 0 (n - 1)) = false by simp [e0, e1, e2]] at HQ
        go_enter Tryd.func128, Tryd.ntmps128
        go_wp2_with (first | (go_at_call 84; refine isVar_any _ _ ?_) | (go_at_call 57; refine isOp_any _ _ ?_) | (go_at_call 58; refine isOpnd_any _ _ _ ?_) | (go_at_call 121; refine isPlace_any _ _ _ ?_))
        refine HQ.out _ ?_
        repeat (first | refine Below.alloc ?_ (by first | omega | (simp <;> omega)) _ | exact Below.refl _ _)
      · rw [show (opndB av an && inB x 0 (n - 1) && inB y 0 (n - 1)) = true by simp [e0, e1, e2]] at HQ
        go_enter Tryd.func128, Tryd.ntmps128
        go_wp2_with (first | (go_at_call 84; refine isVar_any _ _ ?_) | (go_at_call 57; refine isOp_any _ _ ?_) | (go_at_call 58; refine isOpnd_any _ _ _ ?_) | (go_at_call 121; refine isPlace_any _ _ _ ?_))
        refine HQ.out _ ?_
        repeat (first | refine Below.alloc ?_ (by first | omega | (simp <;> omega)) _ | exact Below.refl _ _)

set_option maxHeartbeats 1000000 in
theorem skipFits_any {Q : Ending → World → Prop} (x : Int) (n : Int) (w : World)
    (hQ : ∀ w', Below w.heap.size w w' → Q (.returned (.bool (inB x 0 (n - 1)))) w') :
    Calls Tryd.prog 130 #[skipV x, .int .i64 n] w Q := by
  have HQ : Hid (∀ w', Below w.heap.size w w' → Q (.returned (.bool (inB x 0 (n - 1)))) w') := hQ
  clear hQ
  unfold skipV
  cases e0 : inB x 0 (n - 1)
  · rw [show (inB x 0 (n - 1)) = false by simp [e0]] at HQ
    go_enter Tryd.func130, Tryd.ntmps130
    go_wp2_with (first | (go_at_call 84; refine isVar_any _ _ ?_) | (go_at_call 57; refine isOp_any _ _ ?_) | (go_at_call 58; refine isOpnd_any _ _ _ ?_) | (go_at_call 121; refine isPlace_any _ _ _ ?_))
    refine HQ.out _ ?_
    repeat (first | refine Below.alloc ?_ (by first | omega | (simp <;> omega)) _ | exact Below.refl _ _)
  · rw [show (inB x 0 (n - 1)) = true by simp [e0]] at HQ
    go_enter Tryd.func130, Tryd.ntmps130
    go_wp2_with (first | (go_at_call 84; refine isVar_any _ _ ?_) | (go_at_call 57; refine isOp_any _ _ ?_) | (go_at_call 58; refine isOpnd_any _ _ _ ?_) | (go_at_call 121; refine isPlace_any _ _ _ ?_))
    refine HQ.out _ ?_
    repeat (first | refine Below.alloc ?_ (by first | omega | (simp <;> omega)) _ | exact Below.refl _ _)

set_option maxHeartbeats 1000000 in
theorem endFits_any {Q : Ending → World → Prop} (n : Int) (w : World)
    (hQ : ∀ w', Below w.heap.size w w' → Q (.returned (.bool (true))) w') :
    Calls Tryd.prog 132 #[endV, .int .i64 n] w Q := by
  have HQ : Hid (∀ w', Below w.heap.size w w' → Q (.returned (.bool (true))) w') := hQ
  clear hQ
  unfold endV
  go_enter Tryd.func132, Tryd.ntmps132
  go_wp2
  refine HQ.out _ ?_
  repeat (first | refine Below.alloc ?_ (by first | omega | (simp <;> omega)) _ | exact Below.refl _ _)
end Go.Proofs.YtljlgffkhocgkaaDoor
