/- What the model's l2Ways answers. -/
import Derived.Test.YtljlgffkhocgkaaDoorPredsB
import Derived.Test.YtljlgffkhocgkaaDoorTidy
import Derived.Test.YtljlgffkhocgkaaDoorSpecReach
import Derived.Deep.RegionWith
namespace Go.Proofs.YtljlgffkhocgkaaDoor
open Go.RowKit

set_option maxHeartbeats 2000000 in
theorem l2Ways_any {Q : Ending → World → Prop} (v : Value) (ss : List St) (to : Int) (w : World) (h : StepsAt w v ss) (hl : ss.length ≤ 200) (hls : ∀ s ∈ ss, s.next.length ≤ 2)
    (hQ : ∀ w', Below w.heap.size w w' → Q (.returned (.int .i64 (ways ss to : Int))) w') :
    Calls Tryd.prog 92 #[.agg #[v], .int .i64 to] w Q := by
  have HQ : Hid _ := hQ
  clear hQ
  obtain ⟨ao, b, o, cap, rfl, ha, hc⟩ := h
  have HA : Hid _ := ha
  have HC : Hid _ := hc
  have HL : Hid _ := hls
  clear ha hc hls
  go_enter Tryd.func92, Tryd.ntmps92
  go_wp2
  have hb0 : Below w.heap.size w (w.alloc (.cells #[.slice ao ss.length cap] 34)) := (Below.refl _ _).alloc (Nat.le_refl _) _
  go_loop [5, 6] (fun n i => ∃ k : Nat, k ≤ ss.length ∧ i = .int .i64 k ∧ n = .int .i64 (waysK ss k to : Int)) (fun _ i => ss.length - (intOf i).toNat)
  case atStart => exact ⟨0, Nat.zero_le _, rfl, by rw [waysK_zero]; rfl⟩
  case round =>
    obtain ⟨k, hk, rfl, rfl⟩ := hrel
    have hwk := waysK_le HL.out k to
    by_cases hkl : k < ss.length
    · have hki : (k : Int) < (ss.length : Int) := by omega
      obtain rfl := HA.out (by omega)
      obtain ⟨nu, cu, iu⟩ := HC.out k ss[k] (by simp [hkl])
      obtain ⟨nao, nb, no, ncap, rfl, hna, hnc⟩ := id iu
      have c7 := cell_keep hb0 cu.c7
      have HNA : Hid _ := hna
      have HNC : Hid _ := hnc
      have h2 := HL.out _ (List.getElem_mem hkl)
      have HSUC : Hid _ := waysK_succ hkl to
      clear cu iu hna hnc
      go_wp2
      go_loop [5, 7] (fun n i => ∃ t : Nat, t ≤ ss[k].next.length ∧ i = .int .i64 t ∧ n = .int .i64 ((waysK ss k to + (ss[k].next.take t).count to : Nat) : Int)) (fun _ i => ss[k].next.length - (intOf i).toNat)
      case atStart => exact ⟨0, Nat.zero_le _, rfl, by simp⟩
      case round =>
        obtain ⟨t, ht, rfl, rfl⟩ := hrel
        have hct := count_take_le ss[k].next t to
        by_cases htl : t < ss[k].next.length
        · have hti : (t : Int) < (ss[k].next.length : Int) := by omega
          obtain rfl := HNA.out (by omega)
          have cx := cell_keep hb0 (HNC.out t htl)
          have HE : Hid _ := count_take htl to
          generalize ss[k].next.getD t 0 = x at *
          by_cases hx : x = to
          · subst hx
            go_wp2
            go_round
            case rel =>
              have e := HE.out
              rw [if_pos rfl] at e
              exact ⟨t + 1, by omega, by go_num, by rw [e]; go_num⟩
            case measure => simp [intOf]; omega
          · go_wp2
            go_round
            case rel =>
              have e := HE.out
              rw [if_neg hx] at e
              exact ⟨t + 1, by omega, by go_num, by rw [e]; rfl⟩
            case measure => simp [intOf]; omega
        · have hti : ¬ (t : Int) < (ss[k].next.length : Int) := by omega
          obtain rfl : t = ss[k].next.length := by omega
          go_wp2
          go_round
          case rel =>
            have e := HSUC.out
            exact ⟨k + 1, by omega, by go_num, by rw [e]; simp⟩
          case measure => simp [intOf]; omega
    · have hki : ¬ (k : Int) < (ss.length : Int) := by omega
      obtain rfl : k = ss.length := by omega
      rw [waysK_all] at *
      go_wp2
      exact HQ.out _ hb0

end Go.Proofs.YtljlgffkhocgkaaDoor
