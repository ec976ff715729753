/- step() and fits() of each form. -/
import Derived.Test.YtdgghpklhkgknaaSame
namespace Go.Proofs.Ytdgghpklhkgknaa
open Go.RowKit

/-- The value inside the interface, by the kind. -/
abbrev setV (dst op av an bv bn x : Int) : Value := .agg #[.int .i64 dst, .int .i64 op, .int .i64 av, .int .i64 an, .int .i64 bv, .int .i64 bn, .int .i64 x]
abbrev copyV (dst av an x : Int) : Value := .agg #[.int .i64 dst, .int .i64 av, .int .i64 an, .int .i64 x]
abbrev inV (dst x : Int) : Value := .agg #[.int .i64 dst, .int .i64 x]
abbrev outV (av an x : Int) : Value := .agg #[.int .i64 av, .int .i64 an, .int .i64 x]
abbrev testV (av an x y : Int) : Value := .agg #[.int .i64 av, .int .i64 an, .int .i64 x, .int .i64 y]
abbrev skipV (x : Int) : Value := .agg #[.int .i64 x]
abbrev endV : Value := .agg #[]

set_option maxHeartbeats 1000000 in
theorem setStep_any {Q : Ending → World → Prop} (dst op av an bv bn x : Int) (w : World)
    (hQ : ∀ nv w', IntsAt w' nv [x] → Below w.heap.size w w' → Q (.returned (stepV ⟨1, dst, op, av, an, bv, bn, [x]⟩ nv)) w') :
    Calls Try.prog 68 #[setV dst op av an bv bn x] w Q := by
  have HQ : Hid (∀ nv w', IntsAt w' nv [x] → Below w.heap.size w w' → Q (.returned (stepV ⟨1, dst, op, av, an, bv, bn, [x]⟩ nv)) w') := hQ
  clear hQ
  unfold stepV at HQ
  unfold setV
  go_enter Try.func68, Try.ntmps68
  go_wp2
  refine bodyPost_ret (v := .agg #[.int .i64 1, .int .i64 dst, .int .i64 op, .int .i64 av, .int .i64 an, .int .i64 bv, .int .i64 bn, .slice (some ⟨w.heap.size + 1 + 1, 0, none⟩) 1 1]) (by simp [results, Try.results68, go_sem]) rfl ?_
  refine HQ.out (.slice (some ⟨w.heap.size + 1 + 1, 0, none⟩) 1 1) _ ?_ ?_
  · refine ⟨_, w.heap.size + 1 + 1, 0, _, rfl, fun _ => rfl, fun i hi => ?_⟩
    match i, hi with
    | 0, _ => simp [go_sem]
  · repeat (first | refine Below.alloc ?_ (by first | omega | (simp <;> omega)) _ | exact Below.refl _ _)

set_option maxHeartbeats 1000000 in
theorem copyStep_any {Q : Ending → World → Prop} (dst av an x : Int) (w : World)
    (hQ : ∀ nv w', IntsAt w' nv [x] → Below w.heap.size w w' → Q (.returned (stepV ⟨2, dst, 0, av, an, 0, 0, [x]⟩ nv)) w') :
    Calls Try.prog 71 #[copyV dst av an x] w Q := by
  have HQ : Hid (∀ nv w', IntsAt w' nv [x] → Below w.heap.size w w' → Q (.returned (stepV ⟨2, dst, 0, av, an, 0, 0, [x]⟩ nv)) w') := hQ
  clear hQ
  unfold stepV at HQ
  unfold copyV
  go_enter Try.func71, Try.ntmps71
  go_wp2
  refine bodyPost_ret (v := .agg #[.int .i64 2, .int .i64 dst, .int .i64 0, .int .i64 av, .int .i64 an, .int .i64 0, .int .i64 0, .slice (some ⟨w.heap.size + 1 + 1, 0, none⟩) 1 1]) (by simp [results, Try.results71, go_sem]) rfl ?_
  refine HQ.out (.slice (some ⟨w.heap.size + 1 + 1, 0, none⟩) 1 1) _ ?_ ?_
  · refine ⟨_, w.heap.size + 1 + 1, 0, _, rfl, fun _ => rfl, fun i hi => ?_⟩
    match i, hi with
    | 0, _ => simp [go_sem]
  · repeat (first | refine Below.alloc ?_ (by first | omega | (simp <;> omega)) _ | exact Below.refl _ _)

set_option maxHeartbeats 1000000 in
theorem inStep_any {Q : Ending → World → Prop} (dst x : Int) (w : World)
    (hQ : ∀ nv w', IntsAt w' nv [x] → Below w.heap.size w w' → Q (.returned (stepV ⟨3, dst, 0, 0, 0, 0, 0, [x]⟩ nv)) w') :
    Calls Try.prog 73 #[inV dst x] w Q := by
  have HQ : Hid (∀ nv w', IntsAt w' nv [x] → Below w.heap.size w w' → Q (.returned (stepV ⟨3, dst, 0, 0, 0, 0, 0, [x]⟩ nv)) w') := hQ
  clear hQ
  unfold stepV at HQ
  unfold inV
  go_enter Try.func73, Try.ntmps73
  go_wp2
  refine bodyPost_ret (v := .agg #[.int .i64 3, .int .i64 dst, .int .i64 0, .int .i64 0, .int .i64 0, .int .i64 0, .int .i64 0, .slice (some ⟨w.heap.size + 1 + 1, 0, none⟩) 1 1]) (by simp [results, Try.results73, go_sem]) rfl ?_
  refine HQ.out (.slice (some ⟨w.heap.size + 1 + 1, 0, none⟩) 1 1) _ ?_ ?_
  · refine ⟨_, w.heap.size + 1 + 1, 0, _, rfl, fun _ => rfl, fun i hi => ?_⟩
    match i, hi with
    | 0, _ => simp [go_sem]
  · repeat (first | refine Below.alloc ?_ (by first | omega | (simp <;> omega)) _ | exact Below.refl _ _)

set_option maxHeartbeats 1000000 in
theorem outStep_any {Q : Ending → World → Prop} (av an x : Int) (w : World)
    (hQ : ∀ nv w', IntsAt w' nv [x] → Below w.heap.size w w' → Q (.returned (stepV ⟨4, 0, 0, av, an, 0, 0, [x]⟩ nv)) w') :
    Calls Try.prog 75 #[outV av an x] w Q := by
  have HQ : Hid (∀ nv w', IntsAt w' nv [x] → Below w.heap.size w w' → Q (.returned (stepV ⟨4, 0, 0, av, an, 0, 0, [x]⟩ nv)) w') := hQ
  clear hQ
  unfold stepV at HQ
  unfold outV
  go_enter Try.func75, Try.ntmps75
  go_wp2
  refine bodyPost_ret (v := .agg #[.int .i64 4, .int .i64 0, .int .i64 0, .int .i64 av, .int .i64 an, .int .i64 0, .int .i64 0, .slice (some ⟨w.heap.size + 1 + 1, 0, none⟩) 1 1]) (by simp [results, Try.results75, go_sem]) rfl ?_
  refine HQ.out (.slice (some ⟨w.heap.size + 1 + 1, 0, none⟩) 1 1) _ ?_ ?_
  · refine ⟨_, w.heap.size + 1 + 1, 0, _, rfl, fun _ => rfl, fun i hi => ?_⟩
    match i, hi with
    | 0, _ => simp [go_sem]
  · repeat (first | refine Below.alloc ?_ (by first | omega | (simp <;> omega)) _ | exact Below.refl _ _)

set_option maxHeartbeats 1000000 in
theorem testStep_any {Q : Ending → World → Prop} (av an x y : Int) (w : World)
    (hQ : ∀ nv w', IntsAt w' nv [x, y] → Below w.heap.size w w' → Q (.returned (stepV ⟨5, 0, 0, av, an, 0, 0, [x, y]⟩ nv)) w') :
    Calls Try.prog 77 #[testV av an x y] w Q := by
  have HQ : Hid (∀ nv w', IntsAt w' nv [x, y] → Below w.heap.size w w' → Q (.returned (stepV ⟨5, 0, 0, av, an, 0, 0, [x, y]⟩ nv)) w') := hQ
  clear hQ
  unfold stepV at HQ
  unfold testV
  go_enter Try.func77, Try.ntmps77
  go_wp2
  refine bodyPost_ret (v := .agg #[.int .i64 5, .int .i64 0, .int .i64 0, .int .i64 av, .int .i64 an, .int .i64 0, .int .i64 0, .slice (some ⟨w.heap.size + 1 + 1, 0, none⟩) 2 2]) (by simp [results, Try.results77, go_sem]) rfl ?_
  refine HQ.out (.slice (some ⟨w.heap.size + 1 + 1, 0, none⟩) 2 2) _ ?_ ?_
  · refine ⟨_, w.heap.size + 1 + 1, 0, _, rfl, fun _ => rfl, fun i hi => ?_⟩
    match i, hi with
    | 0, _ => simp [go_sem]
    | 1, _ => simp [go_sem]
  · repeat (first | refine Below.alloc ?_ (by first | omega | (simp <;> omega)) _ | exact Below.refl _ _)

set_option maxHeartbeats 1000000 in
theorem skipStep_any {Q : Ending → World → Prop} (x : Int) (w : World)
    (hQ : ∀ nv w', IntsAt w' nv [x] → Below w.heap.size w w' → Q (.returned (stepV ⟨6, 0, 0, 0, 0, 0, 0, [x]⟩ nv)) w') :
    Calls Try.prog 79 #[skipV x] w Q := by
  have HQ : Hid (∀ nv w', IntsAt w' nv [x] → Below w.heap.size w w' → Q (.returned (stepV ⟨6, 0, 0, 0, 0, 0, 0, [x]⟩ nv)) w') := hQ
  clear hQ
  unfold stepV at HQ
  unfold skipV
  go_enter Try.func79, Try.ntmps79
  go_wp2
  refine bodyPost_ret (v := .agg #[.int .i64 6, .int .i64 0, .int .i64 0, .int .i64 0, .int .i64 0, .int .i64 0, .int .i64 0, .slice (some ⟨w.heap.size + 1 + 1, 0, none⟩) 1 1]) (by simp [results, Try.results79, go_sem]) rfl ?_
  refine HQ.out (.slice (some ⟨w.heap.size + 1 + 1, 0, none⟩) 1 1) _ ?_ ?_
  · refine ⟨_, w.heap.size + 1 + 1, 0, _, rfl, fun _ => rfl, fun i hi => ?_⟩
    match i, hi with
    | 0, _ => simp [go_sem]
  · repeat (first | refine Below.alloc ?_ (by first | omega | (simp <;> omega)) _ | exact Below.refl _ _)

set_option maxHeartbeats 1000000 in
theorem endStep_any {Q : Ending → World → Prop} (w : World)
    (hQ : ∀ nv w', IntsAt w' nv [] → Below w.heap.size w w' → Q (.returned (stepV ⟨7, 0, 0, 0, 0, 0, 0, []⟩ nv)) w') :
    Calls Try.prog 81 #[endV] w Q := by
  have HQ : Hid (∀ nv w', IntsAt w' nv [] → Below w.heap.size w w' → Q (.returned (stepV ⟨7, 0, 0, 0, 0, 0, 0, []⟩ nv)) w') := hQ
  clear hQ
  unfold stepV at HQ
  unfold endV
  go_enter Try.func81, Try.ntmps81
  go_wp2
  refine bodyPost_ret (v := .agg #[.int .i64 7, .int .i64 0, .int .i64 0, .int .i64 0, .int .i64 0, .int .i64 0, .int .i64 0, .slice none 0 0]) (by simp [results, Try.results81, go_sem]) rfl ?_
  refine HQ.out (.slice none 0 0) _ ?_ ?_
  · exact ⟨_, 0, 0, _, rfl, fun h => absurd h (by simp), fun i hi => absurd hi (by simp)⟩
  · repeat (first | refine Below.alloc ?_ (by first | omega | (simp <;> omega)) _ | exact Below.refl _ _)
end Go.Proofs.Ytdgghpklhkgknaa
