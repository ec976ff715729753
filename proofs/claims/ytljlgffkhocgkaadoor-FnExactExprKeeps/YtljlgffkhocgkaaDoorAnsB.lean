/- Answers that are bools: held against each other, marked, and found as they were marked. -/
import Derived.Test.YtljlgffkhocgkaaDoorAnsBe
import Derived.Test.YtljlgffkhocgkaaDoorChecked
import Derived.Deep.QuietTactic
import Derived.BigQuiet
namespace Go.Proofs.YtljlgffkhocgkaaDoor
open Go.RowKit

/-- What marks are laid, from k on. -/
def markB (k n : Nat) : List Bool := (List.range n).map (fun i => decide ((k + i) % 3 = 0))

theorem rem3 (k : Nat) : ((k : Int) % 3 == 0) = decide (k % 3 = 0) := by
  by_cases h : k % 3 = 0
  · simp [h]; omega
  · simp [h]; omega

theorem rem3' (k j : Nat) : (((k : Int) + (j : Int)) % 3 == 0) = decide ((k + j) % 3 = 0) := by
  have := rem3 (k + j)
  rwa [Int.natCast_add] at this

theorem length_markB (k n : Nat) : (markB k n).length = n := by simp [markB]

theorem markB_set (k j : Nat) (bs : List Bool) (hj : j < bs.length) : ((markB k j ++ bs.drop j).map Value.bool).set j (.bool (decide ((k + j) % 3 = 0))) = (markB k (j + 1) ++ bs.drop (j + 1)).map Value.bool := by
  have e1 : markB k (j + 1) = markB k j ++ [decide ((k + j) % 3 = 0)] := by simp [markB, List.range_succ]
  have e2 : bs.drop j = bs[j] :: bs.drop (j + 1) := List.drop_eq_getElem_cons hj
  have e3 : (markB k j ++ bs.drop j).set j (decide ((k + j) % 3 = 0)) = markB k (j + 1) ++ bs.drop (j + 1) := by
    rw [e1, e2, List.set_append_right _ _ (by simp [length_markB])]
    simp only [length_markB, Nat.sub_self, List.set_cons_zero, List.append_assoc, List.singleton_append]
  rw [← List.map_set, e3]

set_option maxHeartbeats 1000000 in
theorem markBoolS_own {Q : Ending → World → Prop} (v : Value) (bs : List Bool) (k lo hi : Nat) (w : World) (h : BoolsOwn lo hi w v bs) (hk : k ≤ 2199023255552) (hl : bs.length ≤ 1048576)
    (hQ : ∀ w', Out lo hi w w' → BoolsOwn lo hi w' v (markB k bs.length) → w.grownBy w' v.ownBlock → Q (.returned (.int .i64 ((k + bs.length : Nat) : Int))) w') :
    Calls Tryd.prog 14 #[v, .int .i64 (k : Int)] w Q := by
  have HQ : Hid _ := hQ
  clear hQ
  have HH : Hid (BoolsOwn lo hi w v bs) := h
  obtain ⟨ao, g, cap, rfl, hc⟩ := h.read
  have HC : Hid _ := hc
  clear hc h
  go_enter Tryd.func14, Tryd.ntmps14
  go_wp2
  go_loopw [1, 5] (fun kk i wr => ∃ j : Nat, j ≤ bs.length ∧ i = .int .i64 j ∧ kk = .int .i64 ((k + j : Nat) : Int) ∧ Out lo hi w wr ∧ w.grownBy wr (Value.ownBlock (.slice ao bs.length cap)) ∧ BoolsOwn lo hi wr (.slice ao bs.length cap) (markB k j ++ bs.drop j)) (fun _ i _ => bs.length - (intOf i).toNat)
  case atStart => exact ⟨0, Nat.zero_le _, rfl, rfl, Out.refl _ _ _, World.grownBy.refl _ _, by simpa [markB] using HH.out⟩
  case round =>
    obtain ⟨j, hj, rfl, rfl, ho, hgr, hw⟩ := hrel
    have HGR : Hid (w.grownBy wr (Value.ownBlock (.slice ao bs.length cap))) := hgr
    have HO : Hid (Out lo hi w wr) := ho
    have HW : Hid (BoolsOwn lo hi wr (.slice ao bs.length cap) (markB k j ++ bs.drop j)) := hw
    by_cases hjl : j < bs.length
    · obtain ⟨rfl, _, _, g1, g2⟩ := HC.out j hjl
      have hji : (j : Int) < (bs.length : Int) := by omega
      have hlen : (markB k j ++ bs.drop j).length = bs.length := by simp [markB]; omega
      have h1 := hw.1
      rw [hlen] at h1
      have c1 := h1.cellAt j (by omega)
      rw [List.getElem?_eq_getElem (by simp [markB]; omega)] at c1
      have f1 := h1.frozenAt j
      have HS : Hid _ := h1.stored j (.bool (decide ((k + j) % 3 = 0)))
      have ER : Hid _ := rem3' k j
      clear ho hw h1 hgr
      go_wp2
      go_roundw
      case rel =>
        have er := ER.out
        obtain ⟨s1, s2⟩ := HS.out
        rw [markB_set k j bs hjl] at s1
        rw [er]
        refine ⟨j + 1, by omega, by go_num, by go_num, HO.out.trans (Out.grown s2 fun m hm => by cases hm; exact ⟨g1, g2⟩), ⟨s2.os.trans HGR.out.os, s2.tape.trans HGR.out.tape, s2.output.trans HGR.out.output, Nat.le_trans HGR.out.size s2.size, fun m hm hne => (s2.block m (Nat.lt_of_lt_of_le hm HGR.out.size) hne).trans (HGR.out.block m hm hne)⟩, ?_, fun m hm => by cases hm; exact g2⟩
        have hlen2 : (markB k (j + 1) ++ bs.drop (j + 1)).length = bs.length := by simp [markB]; omega
        rw [hlen2]
        exact s1
      case measure => simp [intOf]; omega
    · have hji : ¬ (j : Int) < (bs.length : Int) := by omega
      obtain rfl : j = bs.length := by omega
      clear ho hw hgr
      go_wp2
      exact HQ.out _ HO.out (by simpa using HW.out) HGR.out

theorem markBoolS_any {Q : Ending → World → Prop} (v : Value) (bs : List Bool) (k lo hi : Nat) (w : World) (h : BoolsOwn lo hi w v bs) (hk : k ≤ 2199023255552) (hl : bs.length ≤ 1048576)
    (hQ : ∀ w', Out lo hi w w' → BoolsOwn lo hi w' v (markB k bs.length) → Q (.returned (.int .i64 ((k + bs.length : Nat) : Int))) w') :
    Calls Tryd.prog 14 #[v, .int .i64 (k : Int)] w Q := markBoolS_own v bs k lo hi w h hk hl fun w' a b _ => hQ w' a b

set_option maxHeartbeats 1000000 in
theorem heldBoolS_any {Q : Ending → World → Prop} (v : Value) (k n lo hi : Nat) (w : World) (h : BoolsOwn lo hi w v (markB k n)) (hk : k ≤ 2199023255552) (hl : n ≤ 1048576)
    (hQ : ∀ w', Below w.heap.size w w' → Q (.returned (.int .i64 ((k + n : Nat) : Int))) w') :
    Calls Tryd.prog 15 #[v, .int .i64 (k : Int)] w Q := by
  have HQ : Hid _ := hQ
  clear hQ
  obtain ⟨ao, g, cap, rfl, hc⟩ := h.read
  rw [length_markB] at hc ⊢
  have HC : Hid _ := hc
  clear hc h
  go_enter Tryd.func15, Tryd.ntmps15
  go_wp2
  go_loopw [1, 5] (fun kk i wr => ∃ j : Nat, j ≤ n ∧ i = .int .i64 j ∧ kk = .int .i64 ((k + j : Nat) : Int) ∧ Below w.heap.size w wr) (fun _ i _ => n - (intOf i).toNat)
  case atStart => exact ⟨0, Nat.zero_le _, rfl, rfl, Below.refl _ _⟩
  case round =>
    obtain ⟨j, hj, rfl, rfl, hb⟩ := hrel
    by_cases hjl : j < n
    · obtain ⟨rfl, c1, _, _⟩ := HC.out j hjl
      have c2 := cell_keep hb c1
      have e1 : (markB k n).getD j false = decide ((k + j) % 3 = 0) := by simp [markB, hjl]
      rw [e1] at c2
      have hji : (j : Int) < (n : Int) := by omega
      have er := rem3' k j
      clear c1 e1
      cases hd : decide ((k + j) % 3 = 0)
      all_goals
        rw [hd] at c2 er
        go_wp2
        go_roundw
        case rel => exact ⟨j + 1, by omega, by go_num, by go_num, hb⟩
        case measure => simp [intOf]; omega
    · have hji : ¬ (j : Int) < (n : Int) := by omega
      obtain rfl : j = n := by omega
      go_wp2
      exact HQ.out _ hb
end Go.Proofs.YtljlgffkhocgkaaDoor
