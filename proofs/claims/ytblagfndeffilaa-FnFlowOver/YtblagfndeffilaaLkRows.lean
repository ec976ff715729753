/- Two squares of bools that are the same: the laws' own small function. -/
import Derived.Test.YtblagfndeffilaaLkB
import Derived.Deep.RegionWith
namespace Go.Proofs.Ytblagfndeffilaa
open Go.RowKit

set_option maxHeartbeats 1000000 in
theorem lkRows_any {Q : Ending → World → Prop} (u v : Value) (zss : List (List Bool)) (lo hi lo' hi' : Nat) (w : World) (hu : RowsB lo hi w u zss) (hv : RowsB lo' hi' w v zss) (hl : zss.length ≤ 1000) (hls : ∀ zs ∈ zss, zs.length ≤ 1000)
    (hQ : ∀ w', Below w.heap.size w w' → Q (.returned (.bool true)) w') :
    Calls Try.prog 31 #[u, v] w Q := by
  have HQ : Hid _ := hQ
  clear hQ
  obtain ⟨ao, b, cap, rfl, hc⟩ := hu.read
  obtain ⟨ao', b', cap', rfl, hc'⟩ := hv.read
  have HC : Hid _ := hc
  have HC' : Hid _ := hc'
  have HL : Hid _ := hls
  clear hc hc' hu hv hls
  go_enter Try.func31, Try.ntmps31
  go_wp2
  go_loopw [5] (fun i wr => ∃ k : Nat, k ≤ zss.length ∧ i = .int .i64 k ∧ Below w.heap.size w wr) (fun i _ => zss.length - (intOf i).toNat)
  case atStart => exact ⟨0, Nat.zero_le _, rfl, Below.refl _ _⟩
  case round =>
    obtain ⟨k, hk, rfl, hb⟩ := hrel
    by_cases hkl : k < zss.length
    · obtain ⟨x, A, c, rfl, c1, rfl, ho1⟩ := HC.out k zss[k] (List.getElem?_eq_getElem hkl)
      obtain ⟨y, A', c', rfl, c2, rfl, ho2⟩ := HC'.out k zss[k] (List.getElem?_eq_getElem hkl)
      have d1 := cell_keep hb c1
      have d2 := cell_keep hb c2
      have hki : (k : Int) < (zss.length : Int) := by omega
      have HO1 : Hid (BoolsOwn lo hi w (.slice A zss[k].length c) zss[k]) := ho1
      have HO2 : Hid (BoolsOwn lo' hi' w (.slice A' zss[k].length c') zss[k]) := ho2
      have HB : Hid (Below w.heap.size w wr) := hb
      have hlk := HL.out _ (List.getElem_mem hkl)
      clear c1 c2 ho1 ho2 hb
      go_wp2_with fail
      go_region_with (go_at_call 58; refine lkBools_any _ _ zss[k] lo hi lo' hi' _ (HO1.out.keep (HB.out.trans (by exact ⟨rfl, rfl, rfl, Nat.le_refl _, fun _ _ => rfl⟩))) (HO2.out.keep (HB.out.trans (by exact ⟨rfl, rfl, rfl, Nat.le_refl _, fun _ _ => rfl⟩))) (by omega) ?_; intro w1 hb1)
      all_goals
        have hbw : Below w.heap.size w w1 := HB.out.trans ((show Below wr.heap.size wr w1 from ⟨hb1.os, hb1.tape, hb1.output, hb1.size, hb1.block⟩).mono HB.out.size)
        clear hb1
        go_wp2
        go_roundw
        case rel => exact ⟨k + 1, by omega, by go_num, hbw⟩
        case measure => simp [intOf]; omega
    · go_wp2
      exact HQ.out _ hb
end Go.Proofs.Ytblagfndeffilaa
