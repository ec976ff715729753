/- What the program's FlowDoms answers. -/
import Derived.Test.YtblagfndeffilaaRowUp
import Derived.Test.YtblagfndeffilaaSpecDoms
namespace Go.Proofs.Ytblagfndeffilaa
open Go.RowKit

set_option maxRecDepth 100000 in
set_option maxHeartbeats 4000000 in
theorem implDoms_yes {Q : Ending → World → Prop} (v : Value) (ss : List St) (w : World) (h : StepsAt w v ss) (hok : okB ss = true)
    (hQ : ∀ v' m w', Below w.heap.size w w' → DomsM ss m → (∃ ov, OverF ss ov) → RowsB (w.heap.size + 1) w'.heap.size w' v' (matL ss.length m) → Q (.returned v') w') :
    Calls Try.prog 26 #[.agg #[v]] w Q := by
  have HQ : Hid _ := hQ
  clear hQ
  obtain ⟨hn1, hn2⟩ := ok_len hok
  have HOK : Hid (okB ss = true) := hok
  obtain ⟨ao, b, o, cap, rfl, ha, hc⟩ := id h
  clear ha hc
  have HH : Hid (StepsAt w (.slice ao ss.length cap) ss) := h
  clear h
  have hb0 : ∀ O, Below w.heap.size w (w.alloc O) := fun O => (Below.refl _ _).alloc (Nat.le_refl _) O
  obtain ⟨i1, hj, hy0, hy1, hy2⟩ := info_parts infoBools
  go_enter Try.func26, Try.ntmps26
  go_wp2_with fail
  refine implOk_any _ ss _ (HH.out.keep (hb0 _)) (by omega) (ok_nexts HOK.out) fun w1 hb1 => ?_
  rw [hok]
  have hbA : Below w.heap.size w w1 := (hb0 _).trans (hb1.mono (by simp))
  have q1 : w1.cell? ⟨w.heap.size, 0, none⟩ = some (.slice ao ss.length cap) := cell_keep hb1 (by simp [go_sem])
  have hz1 : w.heap.size < w1.heap.size := cell_lt q1
  clear hb1 hb0 hok
  go_wp2_with fail
  refine nearestOver_any _ ss _ (HH.out.keep hbA) HOK.out fun vg ov w2 hb2 hov hvg hrow2 => ?_
  have HB2 : Hid (Below w.heap.size w w2) := hbA.trans (hb2.mono hbA.size)
  have HOV : Hid (OverF ss ov) := hov
  have HV2 : Hid (w2.rowIs vg 3 ss.length (ovV ov)) := hrow2
  have hvl := hrow2.lt
  have hz2 := hb2.size
  clear hbA q1 hb2 hov hrow2
  go_wp2_with (at_make; refine wpList_make_is _ rfl (.tmp 13) (.tmp 13) 49 rfl 39 (.slice none 0 0) 24 Try.underlying49 infoBools rfl .i64 .i64 ss.length rfl rfl (by omega) (by omega) ?_; intro w3 hrow3 hb3 hs3)
  have HR3 : Hid (w3.rowIs w2.heap.size 39 ss.length (fun _ => .slice none 0 0)) := hrow3
  have HB3 : Hid (Below w2.heap.size w2 w3) := hb3
  clear hrow3 hb3
  go_loopw [17] (fun i wr => ∃ (k : Nat) (gs : Nat → Nat) (m : Nat → Nat → Bool), k ≤ ss.length ∧ i = .int .i64 k ∧ Below w2.heap.size w2 wr ∧ wr.rowIs w2.heap.size 39 ss.length (fun j => if j < k then .slice (some ⟨gs j, 0, none⟩) ss.length ss.length else .slice none 0 0) ∧ (∀ i, i < k → wr.rowIs (gs i) 4 ss.length (fun j => .bool (m i j)) ∧ w2.heap.size < gs i) ∧ (∀ i j, i < k → j < k → gs i = gs j → i = j) ∧ (∀ i j, i < k → j < ss.length → (m i j = true ↔ Dom ss j i))) (fun i _ => ss.length - (intOf i).toNat)
  case atStart => exact ⟨0, fun _ => 0, fun _ _ => false, Nat.zero_le _, rfl, HB3.out, HR3.out.congr fun i _ => by simp, fun i hi => by omega, fun i j hi => by omega, fun i j hi => by omega⟩
  case round =>
    obtain ⟨k, gs, m, hk, rfl, hb, hr, hrs, hinj, hdm⟩ := hrel
    have HB : Hid (Below w2.heap.size w2 wr) := hb
    have HR : Hid (wr.rowIs w2.heap.size 39 ss.length (fun j => if j < k then .slice (some ⟨gs j, 0, none⟩) ss.length ss.length else .slice none 0 0)) := hr
    have HRS : Hid _ := hrs
    have HINJ : Hid _ := hinj
    have HDM : Hid _ := hdm
    have hrl := hr.lt
    clear hrs hinj hdm
    by_cases hkn : k < ss.length
    · have hki : (k : Int) < (ss.length : Int) := by omega
      clear hr hb
      go_wp2_with fail
      refine rowUp_any HOK.out vg k ov HOV.out hkn _ (rowIs_keep HV2.out HB.out) fun mk w5 hb5 hrow5 hmk => ?_
      have HB5 : Hid (Below w2.heap.size w2 w5) := HB.out.trans (hb5.mono HB.out.size)
      have r5 := rowIs_keep HR.out hb5
      have HR5 : Hid (w5.rowIs w2.heap.size 39 ss.length (fun j => if j < k then .slice (some ⟨gs j, 0, none⟩) ss.length ss.length else .slice none 0 0)) := r5
      have c5 := r5.cell hkn
      rw [if_neg (by omega)] at c5
      have f5 := r5.frozen k
      have HN5 : Hid (w5.rowIs wr.heap.size 4 ss.length (fun j => .bool (mk j))) := hrow5
      have HMK : Hid _ := hmk
      have HRS5 : Hid (∀ i, i < k → w5.rowIs (gs i) 4 ss.length (fun j => .bool (m i j)) ∧ w2.heap.size < gs i ∧ gs i ≠ wr.heap.size) := fun i hi => ⟨rowIs_keep (HRS.out i hi).1 hb5, (HRS.out i hi).2, fun e => by have := (HRS.out i hi).1.lt; omega⟩
      have hsz := HB.out.size
      clear hb5 r5 hrow5 hmk
      go_wp2
      go_roundw
      case rel =>
        refine ⟨k + 1, fun i => if i = k then wr.heap.size else gs i, fun i => if i = k then mk else m i, by omega, by go_num, HB5.out.setCell (Nat.le_refl _) _, (HR5.out.set k _).congr fun j hj => ?_, fun i hi => ?_, fun i j hi hj (e : (if i = k then wr.heap.size else gs i) = (if j = k then wr.heap.size else gs j)) => ?_, fun i j hi hj => ?_⟩
        · by_cases e : j = k
          · simp [e]
          · have : (j < k + 1) ↔ j < k := by omega
            simp [e, this]
        · by_cases e : i = k
          · simp only [e, if_true]
            exact ⟨HN5.out.setOther (show wr.heap.size ≠ w2.heap.size by omega) _, hrl⟩
          · simp only [if_neg e]
            have h5 := HRS5.out i (by omega)
            exact ⟨h5.1.setOther (show gs i ≠ w2.heap.size by omega) _, h5.2.1⟩
        · by_cases e1 : i = k <;> by_cases e2 : j = k
          · omega
          · rw [if_pos e1, if_neg e2] at e
            exact absurd e.symm (HRS5.out j (by omega)).2.2
          · rw [if_neg e1, if_pos e2] at e
            exact absurd e (HRS5.out i (by omega)).2.2
          · rw [if_neg e1, if_neg e2] at e
            exact HINJ.out i j (by omega) (by omega) e
        · by_cases e : i = k
          · simp only [e, if_true]
            exact HMK.out j hj
          · simp only [if_neg e]
            exact HDM.out i j (by omega) hj
      case measure => simp [intOf]; omega
    · have hki : ¬ (k : Int) < (ss.length : Int) := by omega
      obtain rfl : k = ss.length := by omega
      have HMAT : Hid (Mat w2.heap.size w2.heap.size wr (.slice (some ⟨w2.heap.size, 0, none⟩) ss.length ss.length) ss.length ss.length gs m) := by
        refine ⟨?_, fun i hi => (HRS.out i hi).1, fun i hi => Nat.le_of_lt (HRS.out i hi).2, HINJ.out⟩
        have h5 := rowIs_own hr (Nat.le_refl w2.heap.size) (by omega)
        have h6 : (List.range ss.length).map (fun j => if j < ss.length then Value.slice (some ⟨gs j, 0, none⟩) ss.length ss.length else .slice none 0 0) = rowVs gs ss.length ss.length := by
          unfold rowVs
          apply List.map_congr_left
          intro i hi
          simp at hi
          simp [hi]
        rw [h6] at h5
        exact h5
      clear hr hb
      go_wp2
      exact HQ.out _ m _ (HB2.out.trans (HB.out.mono HB2.out.size)) (fun i k hi hk => HDM.out i k hi hk) ⟨ov, HOV.out⟩ ((HMAT.out.rows (Nat.le_refl _) (by omega)).lower (by omega))

set_option maxHeartbeats 1000000 in
theorem implDoms_no {Q : Ending → World → Prop} (v : Value) (ss : List St) (w : World) (h : StepsAt w v ss) (hl : ss.length ≤ 1048576) (hls : ∀ s ∈ ss, s.next.length ≤ 1048576) (hok : okB ss = false)
    (hQ : ∀ v' w', Below w.heap.size w w' → RowsB (w.heap.size + 1) w'.heap.size w' v' [] → Q (.returned v') w') :
    Calls Try.prog 26 #[.agg #[v]] w Q := by
  have HQ : Hid _ := hQ
  clear hQ
  obtain ⟨ao, b, o, cap, rfl, ha, hc⟩ := id h
  clear ha hc
  have HH : Hid (StepsAt w (.slice ao ss.length cap) ss) := h
  have HL : Hid _ := hls
  clear hls h
  have hb0 : ∀ O, Below w.heap.size w (w.alloc O) := fun O => (Below.refl _ _).alloc (Nat.le_refl _) O
  go_enter Try.func26, Try.ntmps26
  go_wp2_with fail
  refine implOk_any _ ss _ (HH.out.keep (hb0 _)) hl HL.out fun w1 hb1 => ?_
  rw [hok]
  have hbA : Below w.heap.size w w1 := (hb0 _).trans (hb1.mono (by simp))
  clear hb1 hb0 hok
  go_wp2
  exact HQ.out _ _ hbA (RowsB.nil (World.ownsRow_nil _ _ _ _) (by simp [Value.ownBlock]))

theorem implDoms_any {Q : Ending → World → Prop} (v : Value) (ss : List St) (w : World) (h : StepsAt w v ss) (hl : ss.length ≤ 1048576) (hls : ∀ s ∈ ss, s.next.length ≤ 1048576)
    (hQ : ∀ v' zss w', Below w.heap.size w w' → DomsOr ss zss → RowsB w.heap.size w'.heap.size w' v' zss → Q (.returned v') w') :
    Calls Try.prog 26 #[.agg #[v]] w Q := by
  cases hok : okB ss
  · exact implDoms_no v ss w h hl hls hok fun v' w' h1 h2 => hQ v' [] w' h1 (Or.inr ⟨hok, rfl⟩) (h2.lower (by omega))
  · exact implDoms_yes v ss w h hok fun v' m w' h1 h2 _ h3 => hQ v' (matL ss.length m) w' h1 (Or.inl ⟨hok, m, h2, rfl⟩) (h3.lower (by omega))
end Go.Proofs.Ytblagfndeffilaa
