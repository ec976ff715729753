/- eqProg says yes of two slices that hold the same steps. -/
import Derived.Test.YtljlgffkhocgkaaDoorBase
import Derived.Test.YtljlgffkhocgkaaDoorChecked
import Derived.Deep.QuietTactic
import Derived.BigQuiet
import Derived.Deep.RegionWith
namespace Go.Proofs.YtljlgffkhocgkaaDoor
open Go.RowKit

set_option maxHeartbeats 1000000 in
theorem eqIntS_any {Q : Ending → World → Prop} (u v : Value) (zs : List Int) (w : World) (hu : IntsAt w u zs) (hv : IntsAt w v zs) (hl : zs.length ≤ 1048576)
    (hQ : ∀ w', Below w.heap.size w w' → Q (.returned (.bool true)) w') :
    Calls Tryd.prog 43 #[u, v] w Q := by
  have HQ : Hid _ := hQ
  clear hQ
  obtain ⟨ao, b, o, cap, rfl, ha, hc⟩ := hu
  obtain ⟨ao', b', o', cap', rfl, ha', hc'⟩ := hv
  have HA : Hid _ := ha
  have HC : Hid _ := hc
  have HA' : Hid _ := ha'
  have HC' : Hid _ := hc'
  clear ha hc ha' hc'
  go_enter Tryd.func43, Tryd.ntmps43
  go_wp2
  go_loopw [5] (fun i wr => ∃ k : Nat, k ≤ zs.length ∧ i = .int .i64 k ∧ Below w.heap.size w wr) (fun i _ => zs.length - (intOf i).toNat)
  case atStart => exact ⟨0, Nat.zero_le _, rfl, Below.refl _ _⟩
  case round =>
    obtain ⟨k, hk, rfl, hb⟩ := hrel
    by_cases hkl : k < zs.length
    · obtain rfl := HA.out (by omega)
      obtain rfl := HA'.out (by omega)
      have c1 := cell_keep hb (HC.out k hkl)
      have c2 := cell_keep hb (HC'.out k hkl)
      have hki : (k : Int) < (zs.length : Int) := by omega
      go_wp2_with fail
      go_quiet (fail)
      go_wp2
      go_roundw
      case rel => exact ⟨k + 1, by omega, by go_num, below_drewN hb _⟩
      case measure => simp [intOf]; omega
    · go_wp2
      exact HQ.out _ hb

set_option maxHeartbeats 1000000 in
theorem eqOpnd_any {Q : Ending → World → Prop} (a n : Int) (w : World)
    (hQ : ∀ w', Below w.heap.size w w' → Q (.returned (.bool true)) w') :
    Calls Tryd.prog 87 #[.agg #[.int .i64 a, .int .i64 n], .agg #[.int .i64 a, .int .i64 n]] w Q := by
  have HQ : Hid _ := hQ
  clear hQ
  have hb0 : ∀ O0 O1, Below w.heap.size w ((w.alloc O0).alloc O1) := by
    intro O0 O1
    exact ((Below.refl _ _).alloc (Nat.le_refl _) _).alloc (by simp) _
  go_enter Tryd.func87, Tryd.ntmps87
  go_wp2
  exact HQ.out _ (hb0 _ _)

set_option maxHeartbeats 1000000 in
theorem eqStep_any {Q : Ending → World → Prop} (u v : Value) (s : St) (w : World) (hu : IntsAt w u s.next) (hv : IntsAt w v s.next) (hl : s.next.length ≤ 1048576)
    (hQ : ∀ w', Below w.heap.size w w' → Q (.returned (.bool true)) w') :
    Calls Tryd.prog 64 #[stepV s u, stepV s v] w Q := by
  have HQ : Hid _ := hQ
  clear hQ
  obtain ⟨ao, b, o, cap, rfl, ha, hc⟩ := id hu
  obtain ⟨ao', b', o', cap', rfl, ha', hc'⟩ := id hv
  clear ha hc ha' hc'
  have hb0 : ∀ O0 O1, Below w.heap.size w ((w.alloc O0).alloc O1) := by
    intro O0 O1
    exact ((Below.refl _ _).alloc (Nat.le_refl _) _).alloc (by simp) _
  unfold stepV
  go_enter Tryd.func64, Tryd.ntmps64
  go_wp2_with fail
  refine eqOpnd_any _ _ _ fun w1 hb1 => ?_
  have d5 : w1.cell? ⟨w.heap.size, 5, none⟩ = some (.int .i64 s.bv) := cell_keep hb1 (by simp [go_sem])
  have d6 : w1.cell? ⟨w.heap.size, 6, none⟩ = some (.int .i64 s.bn) := cell_keep hb1 (by simp [go_sem])
  have d7 : w1.cell? ⟨w.heap.size, 7, none⟩ = some (.slice ao s.next.length cap) := cell_keep hb1 (by simp [go_sem])
  have e5 : w1.cell? ⟨w.heap.size + 1, 5, none⟩ = some (.int .i64 s.bv) := cell_keep hb1 (by simp [go_sem])
  have e6 : w1.cell? ⟨w.heap.size + 1, 6, none⟩ = some (.int .i64 s.bn) := cell_keep hb1 (by simp [go_sem])
  have e7 : w1.cell? ⟨w.heap.size + 1, 7, none⟩ = some (.slice ao' s.next.length cap') := cell_keep hb1 (by simp [go_sem])
  have hbA : Below w.heap.size w w1 := (hb0 _ _).trans (hb1.mono (by simp; omega))
  clear hb1 hb0
  go_wp2_with fail
  refine eqOpnd_any _ _ _ fun w2 hb2 => ?_
  have g7 := cell_keep hb2 d7
  have k7 := cell_keep hb2 e7
  have hbB : Below w.heap.size w w2 := hbA.trans (hb2.mono hbA.size)
  clear hb2 d5 d6 d7 e5 e6 e7 hbA
  go_wp2_with fail
  refine eqIntS_any _ _ s.next _ (hu.keep hbB) (hv.keep hbB) hl fun w3 hb3 => ?_
  have hbC : Below w.heap.size w w3 := hbB.trans (hb3.mono hbB.size)
  clear hb3
  go_wp2
  exact HQ.out _ hbC

set_option maxHeartbeats 1000000 in
theorem eqStepS_any {Q : Ending → World → Prop} (u v : Value) (ss : List St) (w : World) (hu : StepsAt w u ss) (hv : StepsAt w v ss) (hl : ss.length ≤ 1048576) (hls : ∀ s ∈ ss, s.next.length ≤ 1048576)
    (hQ : ∀ w', Below w.heap.size w w' → Q (.returned (.bool true)) w') :
    Calls Tryd.prog 36 #[u, v] w Q := by
  have HQ : Hid _ := hQ
  clear hQ
  obtain ⟨ao, b, o, cap, rfl, ha, hc⟩ := hu
  obtain ⟨ao', b', o', cap', rfl, ha', hc'⟩ := hv
  have HA : Hid _ := ha
  have HC : Hid _ := hc
  have HA' : Hid _ := ha'
  have HC' : Hid _ := hc'
  have HL : Hid _ := hls
  clear ha hc ha' hc' hls
  go_enter Tryd.func36, Tryd.ntmps36
  go_wp2
  go_loopw [5] (fun i wr => ∃ k : Nat, k ≤ ss.length ∧ i = .int .i64 k ∧ Below w.heap.size w wr) (fun i _ => ss.length - (intOf i).toNat)
  case atStart => exact ⟨0, Nat.zero_le _, rfl, Below.refl _ _⟩
  case round =>
    obtain ⟨k, hk, rfl, hb⟩ := hrel
    by_cases hkl : k < ss.length
    · obtain rfl := HA.out (by omega)
      obtain rfl := HA'.out (by omega)
      have hki : (k : Int) < (ss.length : Int) := by omega
      obtain ⟨nu, cu, iu⟩ := HC.out k ss[k] (by simp [hkl])
      obtain ⟨nv, cv, iv⟩ := HC'.out k ss[k] (by simp [hkl])
      obtain ⟨c0, c1, c2, c3, c4, c5, c6, c7⟩ := cu.keep hb
      obtain ⟨d0, d1, d2, d3, d4, d5, d6, d7⟩ := cv.keep hb
      have IU : Hid (IntsAt w nu ss[k].next) := iu
      have IV : Hid (IntsAt w nv ss[k].next) := iv
      have HB : Hid (Below w.heap.size w wr) := hb
      have hm : Hid (ss[k] ∈ ss) := List.getElem_mem hkl
      clear hb cu cv iu iv
      go_wp2_with fail
      go_region_with (go_at_call 64; refine eqStep_any nu nv ss[k] _ (IU.out.keep (HB.out.trans (by exact ⟨rfl, rfl, rfl, Nat.le_refl _, fun _ _ => rfl⟩))) (IV.out.keep (HB.out.trans (by exact ⟨rfl, rfl, rfl, Nat.le_refl _, fun _ _ => rfl⟩))) (HL.out _ hm.out) ?_; intro w1 hb1)
      all_goals
        have hbw : Below w.heap.size w w1 := HB.out.trans ((show Below wr.heap.size wr w1 from ⟨hb1.os, hb1.tape, hb1.output, hb1.size, hb1.block⟩).mono HB.out.size)
        clear hb1
        go_wp2
        go_roundw
        case rel => exact ⟨k + 1, by omega, by go_num, hbw⟩
        case measure => simp [intOf]; omega
    · go_wp2
      exact HQ.out _ hb

set_option maxHeartbeats 1000000 in
theorem eqProg_any {Q : Ending → World → Prop} (u v : Value) (ss : List St) (w : World) (hu : StepsAt w u ss) (hv : StepsAt w v ss) (hl : ss.length ≤ 1048576) (hls : ∀ s ∈ ss, s.next.length ≤ 1048576)
    (hQ : ∀ w', Below w.heap.size w w' → Q (.returned (.bool true)) w') :
    Calls Tryd.prog 12 #[.agg #[u], .agg #[v]] w Q := by
  have HQ : Hid _ := hQ
  clear hQ
  obtain ⟨ao, b, o, cap, rfl, ha, hc⟩ := id hu
  obtain ⟨ao', b', o', cap', rfl, ha', hc'⟩ := id hv
  clear ha hc ha' hc'
  have HL : Hid _ := hls
  clear hls
  have hb0 : ∀ O0 O1, Below w.heap.size w ((w.alloc O0).alloc O1) := by
    intro O0 O1
    exact ((Below.refl _ _).alloc (Nat.le_refl _) _).alloc (by simp) _
  go_enter Tryd.func12, Tryd.ntmps12
  go_wp2_with fail
  refine eqStepS_any _ _ ss _ (hu.keep (hb0 _ _)) (hv.keep (hb0 _ _)) hl HL.out fun w1 hb1 => ?_
  have hbA : Below w.heap.size w w1 := (hb0 _ _).trans (hb1.mono (by simp; omega))
  clear hb1 hb0
  go_wp2
  exact HQ.out _ hbA
end Go.Proofs.YtljlgffkhocgkaaDoor
