/- The laws' lkEach: of each place that a list names it is so. -/
import Derived.Test.YtajgioeifhgfhaaDoorBaseG
import Derived.Test.YtajgioeifhgfhaaDoorChecked
namespace Go.Proofs.YtajgioeifhgfhaaDoor
open Go.RowKit

set_option maxHeartbeats 1000000 in
theorem lkEach_q {Q : Ending → World → Prop} (g n k : Nat) (f : Nat → Bool) (nv : Value) (zs : List Int) (w : World) (hr : ∀ j, j < n → w.cell? ⟨g, j, none⟩ = some (.bool (f j))) (h : IntsAt w nv zs) (hz : ∀ y ∈ zs, 0 ≤ y ∧ y < (n : Int)) (hl : zs.length ≤ 1000) (hQ : Q (.returned (.bool (allI zs f))) w) :
    Calls Tryd.prog 16 #[.slice (some ⟨g, 0, none⟩) n k, nv] w Q := by
  have HQ : Hid _ := hQ
  clear hQ
  have HR : Hid _ := hr
  have HZ : Hid _ := hz
  obtain ⟨ao, b, o, cap, rfl, ha, hc⟩ := h
  have HA : Hid _ := ha
  have HC : Hid _ := hc
  clear hr hz ha hc
  go_enter Tryd.func16, Tryd.ntmps16
  go_wp2
  go_loop [5] (fun i => ∃ j : Nat, j ≤ zs.length ∧ i = .int .i64 j ∧ ∀ m, m < j → f (zs.getD m 0).toNat = true) (fun i => zs.length - (intOf i).toNat)
  case atStart => exact ⟨0, Nat.zero_le _, rfl, by omega⟩
  case round =>
    obtain ⟨j, hj, rfl, hall⟩ := hrel
    have HALL : Hid _ := hall
    clear hall
    by_cases hjl : j < zs.length
    · have hji : (j : Int) < (zs.length : Int) := by omega
      obtain rfl := HA.out (by omega)
      have c1 := HC.out j hjl
      have hzm : zs.getD j 0 ∈ zs := by
        rw [List.getD_eq_getElem?_getD, List.getElem?_eq_getElem hjl]
        exact List.getElem_mem hjl
      obtain ⟨z0, z1⟩ := HZ.out _ hzm
      have HNX : Hid (f (zs.getD j 0).toNat = true → ∀ m, m < j + 1 → f (zs.getD m 0).toNat = true) := fun h m hm => by
        by_cases e : m = j
        · subst e; exact h
        · exact HALL.out m (by omega)
      have HFF : Hid (f (zs.getD j 0).toNat = false → allI zs f = false) := fun h => by
        unfold allI
        rw [List.all_eq_false]
        exact ⟨_, hzm, fun hh => by rw [h] at hh; cases hh⟩
      clear hzm
      generalize zs.getD j 0 = z at *
      obtain ⟨m, rfl⟩ := Int.eq_ofNat_of_zero_le z0
      have hm : m < n := by omega
      rw [show ((m : Int)).toNat = m from rfl] at HNX HFF
      have c2 := HR.out m hm
      cases hfm : f m
      · rw [hfm] at c2
        have HN : Hid _ := HFF.out hfm
        rw [HN.out] at HQ
        clear hfm HNX HFF
        go_wp2
        exact HQ.out
      · rw [hfm] at c2
        have HN : Hid _ := HNX.out hfm
        clear hfm HNX HFF
        go_wp2
        go_round
        case rel => exact ⟨j + 1, by omega, by go_num, HN.out⟩
        case measure => simp [intOf]; omega
    · have hji : ¬ (j : Int) < (zs.length : Int) := by omega
      have HT : Hid (allI zs f = true) := by
        rw [Hid]
        unfold allI
        rw [List.all_eq_true]
        intro y hy
        obtain ⟨m, hm, e⟩ := List.getElem_of_mem hy
        have := HALL.out m (by omega)
        rw [List.getD_eq_getElem?_getD, List.getElem?_eq_getElem hm] at this
        rw [← e]
        exact this
      rw [HT.out] at HQ
      go_wp2
      exact HQ.out

theorem lkEach_any (g n k : Nat) (f : Nat → Bool) (nv : Value) (zs : List Int) (w : World) (hr : ∀ j, j < n → w.cell? ⟨g, j, none⟩ = some (.bool (f j))) (h : IntsAt w nv zs) (hz : ∀ y ∈ zs, 0 ≤ y ∧ y < (n : Int)) (hl : zs.length ≤ 1000) :
    Calls Tryd.prog 16 #[.slice (some ⟨g, 0, none⟩) n k, nv] w fun e w' => e = .returned (.bool (allI zs f)) ∧ w' = w := lkEach_q g n k f nv zs w hr h hz hl ⟨rfl, rfl⟩
end Go.Proofs.YtajgioeifhgfhaaDoor
