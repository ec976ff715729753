/- What szProg tells: a number below 0, or all lists are short. -/
import Derived.Test.YtljlgffkhocgkaaDoorBase
import Derived.Test.YtljlgffkhocgkaaDoorChecked
namespace Go.Proofs.YtljlgffkhocgkaaDoor
open Go.RowKit

set_option maxHeartbeats 400000 in
theorem szIntS_any {Q : Ending → World → Prop} (v : Value) (zs : List Int) (left : Int) (w : World) (h : IntsAt w v zs) (hl : zs.length ≤ 9223372036854775807) (h0 : 0 ≤ left) (h1 : left ≤ 1048576)
    (hQ : ∀ r : Int, r ≤ left → (0 ≤ r → zs.length ≤ left) → Q (.returned (.int .i64 r)) w) :
    Calls Tryd.prog 79 #[v, .int .i64 left] w Q := by
  obtain ⟨ao, b, o, cap, rfl, ha, hc⟩ := h
  clear ha hc
  have HQ : Hid _ := hQ
  clear hQ
  by_cases hlt : left < zs.length
  · have hneg : left - (zs.length : Int) < 0 := by omega
    go_enter Tryd.func79, Tryd.ntmps79
    go_wp2
    exact HQ.out (-1) (by omega) (by omega)
  · go_enter Tryd.func79, Tryd.ntmps79
    go_wp2
    exact HQ.out (left - zs.length) (by omega) (by omega)

set_option maxHeartbeats 400000 in
theorem szStep_any {Q : Ending → World → Prop} (nv : Value) (s : St) (left : Int) (w : World) (h : IntsAt w nv s.next) (hl : s.next.length ≤ 9223372036854775807) (h0 : 0 ≤ left) (h1 : left ≤ 1048576)
    (hQ : ∀ (r : Int) w', r ≤ left → (0 ≤ r → s.next.length ≤ left) → Below w.heap.size w w' → Q (.returned (.int .i64 r)) w') :
    Calls Tryd.prog 51 #[stepV s nv, .int .i64 left] w Q := by
  have HQ : Hid _ := hQ
  clear hQ
  obtain ⟨ao, b, o, cap, rfl, ha, hc⟩ := id h
  clear ha hc
  unfold stepV
  go_enter Tryd.func51, Tryd.ntmps51
  go_wp2_with fail
  have hb : ∀ O, Below w.heap.size w (w.alloc O) := fun O => (Below.refl _ _).alloc (Nat.le_refl _) O
  refine szIntS_any _ s.next left _ (h.keep (hb _)) hl h0 h1 fun r hr hz => ?_
  have HZ : Hid _ := hz
  clear hz
  by_cases hneg : r < 0
  · go_wp2
    exact HQ.out (-1) _ (by omega) (by omega) (hb _)
  · go_wp2
    exact HQ.out r _ hr HZ.out (hb _)

set_option maxHeartbeats 1000000 in
theorem szStepS_any {Q : Ending → World → Prop} (v : Value) (ss : List St) (left : Int) (w : World) (h : StepsAt w v ss) (hl : ss.length ≤ 9223372036854775807) (hls : ∀ s ∈ ss, s.next.length ≤ 9223372036854775807) (h0 : 0 ≤ left) (h1 : left ≤ 1048576)
    (hQ : ∀ (r : Int) w', r ≤ left → (0 ≤ r → ss.length ≤ left ∧ ∀ s ∈ ss, s.next.length ≤ left) → Below w.heap.size w w' → Q (.returned (.int .i64 r)) w') :
    Calls Tryd.prog 25 #[v, .int .i64 left] w Q := by
  have HQ : Hid _ := hQ
  clear hQ
  obtain ⟨ao, b, o, cap, rfl, ha, hc⟩ := id h
  have HA : Hid _ := ha
  have HC : Hid _ := hc
  have HL : Hid _ := hls
  have HH : Hid _ := h
  clear ha hc hls h
  by_cases hlt : left < ss.length
  · have hneg : left - (ss.length : Int) < 0 := by omega
    go_enter Tryd.func25, Tryd.ntmps25
    go_wp2
    exact HQ.out (-1) _ (by omega) (by omega) (Below.refl _ _)
  · go_enter Tryd.func25, Tryd.ntmps25
    go_wp2
    go_loopw [1, 5] (fun l i wr => ∃ (k : Nat) (r : Int), k ≤ ss.length ∧ i = .int .i64 k ∧ l = .int .i64 r ∧ 0 ≤ r ∧ r ≤ left ∧ (∀ j s, j < k → ss[j]? = some s → s.next.length ≤ left) ∧ Below w.heap.size w wr) (fun _ i _ => ss.length - (intOf i).toNat)
    case atStart => exact ⟨0, left - ss.length, by omega, by go_num, by go_num, by omega, by omega, by omega, Below.refl _ _⟩
    case round =>
      obtain ⟨k, r, hk, rfl, rfl, hr0, hr1, hall, hb⟩ := hrel
      have HALL : Hid _ := hall
      clear hall
      by_cases hkl : k < ss.length
      · obtain rfl := HA.out (by omega)
        obtain ⟨nv, hcells, hints⟩ := HC.out k ss[k] (by simp [hkl])
        obtain ⟨c0, c1, c2, c3, c4, c5, c6, c7⟩ := hcells.keep hb
        go_wp2_with fail
        have hm : ss[k] ∈ ss := List.getElem_mem hkl
        refine szStep_any nv ss[k] r _ (hints.keep hb) (HL.out _ hm) hr0 (by omega) fun r' w' hr' hz' hb' => ?_
        have HZ : Hid _ := hz'
        have hb2 := hb.trans (hb'.mono hb.size)
        clear hz' hb' hints hcells c0 c1 c2 c3 c4 c5 c6 c7 hm
        by_cases hneg : r' < 0
        · go_wp2
          exact HQ.out (-1) _ (by omega) (by omega) hb2
        · go_wp2
          go_roundw
          case rel =>
            refine ⟨k + 1, r', by omega, by go_num, by go_num, by omega, by omega, ?_, hb2⟩
            intro j s hj hs
            by_cases hjk : j = k
            · subst hjk
              rw [List.getElem?_eq_getElem hkl] at hs
              cases hs
              have := HZ.out (by omega)
              omega
            · exact HALL.out j s (by omega) hs
          case measure => simp [intOf]; omega
      · go_wp2
        refine HQ.out r _ (by omega) (fun _ => ⟨by omega, fun s hs => ?_⟩) hb
        obtain ⟨j, hj, rfl⟩ := List.mem_iff_getElem.1 hs
        exact HALL.out j _ (by omega) (List.getElem?_eq_getElem hj)

set_option maxHeartbeats 400000 in
theorem szProg_any {Q : Ending → World → Prop} (v : Value) (ss : List St) (left : Int) (w : World) (h : StepsAt w v ss) (hl : ss.length ≤ 9223372036854775807) (hls : ∀ s ∈ ss, s.next.length ≤ 9223372036854775807) (h0 : 0 ≤ left) (h1 : left ≤ 1048576)
    (hQ : ∀ (r : Int) w', r ≤ left → (0 ≤ r → ss.length ≤ left ∧ ∀ s ∈ ss, s.next.length ≤ left) → Below w.heap.size w w' → Q (.returned (.int .i64 r)) w') :
    Calls Tryd.prog 6 #[.agg #[v], .int .i64 left] w Q := by
  have HQ : Hid _ := hQ
  clear hQ
  obtain ⟨ao, b, o, cap, rfl, ha, hc⟩ := id h
  clear ha hc
  have HL : Hid _ := hls
  clear hls
  go_enter Tryd.func6, Tryd.ntmps6
  go_wp2_with fail
  have hb : ∀ O, Below w.heap.size w (w.alloc O) := fun O => (Below.refl _ _).alloc (Nat.le_refl _) O
  refine szStepS_any _ ss left _ (h.keep (hb _)) hl HL.out h0 h1 fun r w1 hr hz hb1 => ?_
  have HZ : Hid _ := hz
  have hb2 : Below w.heap.size w w1 := (hb _).trans (hb1.mono (by simp))
  clear hz hb1
  by_cases hneg : r < 0
  · go_wp2
    exact HQ.out (-1) _ (by omega) (by omega) hb2
  · go_wp2
    exact HQ.out r _ hr HZ.out hb2
end Go.Proofs.YtljlgffkhocgkaaDoor
