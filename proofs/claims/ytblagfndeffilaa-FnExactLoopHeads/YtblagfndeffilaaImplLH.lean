/- What the program's backs and LoopHeads answer. -/
import Derived.Test.YtblagfndeffilaaHeadP
import Derived.Test.YtblagfndeffilaaNest
namespace Go.Proofs.Ytblagfndeffilaa
open Go.RowKit

set_option maxHeartbeats 1000000 in
theorem backs_any {Q : Ending → World → Prop} (ag ug n x : Nat) (ah un : Nat → BitVec 64) (w : World) (hx : x < n) (hA : w.rowIs ag 75 n (fun j => bsV (ah j))) (hU : w.rowIs ug 75 n (fun j => bsV (un j)))
    (hQ : ∀ w', Below w.heap.size w w' → Q (.returned (bsV (ah x &&& un x))) w') :
    Calls Try.prog 60 #[.agg #[.slice (some ⟨ag, 0, none⟩) n n, .slice (some ⟨ug, 0, none⟩) n n], .int .i64 (x : Int)] w Q := by
  have HQ : Hid _ := hQ
  clear hQ
  have hxi : (x : Int) < (n : Int) := by omega
  have hb0 : ∀ O, Below w.heap.size w (w.alloc O) := fun O => (Below.refl _ _).alloc (Nat.le_refl _) O
  have ca := hA.cell hx
  have cu := hU.cell hx
  unfold bsV at ca cu
  have HAND : Hid (bits BinOp.and IntKind.u64 ((ah x).toNat : Int) ((un x).toNat : Int) = ((ah x &&& un x).toNat : Int)) := bits_and _ _
  have ca1 := cell_keep (hb0 (.cells #[.slice (some ⟨ag, 0, none⟩) n n, .slice (some ⟨ug, 0, none⟩) n n] 72)) ca
  have cu1 := cell_keep (hb0 (.cells #[.slice (some ⟨ag, 0, none⟩) n n, .slice (some ⟨ug, 0, none⟩) n n] 72)) cu
  have hal := hA.lt
  have hul := hU.lt
  clear hA hU
  go_enter Try.func60, Try.ntmps60
  go_wp2_with fail
  go_quiet (fail)
  rw [HAND.out]
  go_wp2
  exact HQ.out _ (below_drewN (hb0 _) _)

set_option maxRecDepth 100000 in
set_option maxHeartbeats 2000000 in
theorem implLoopHeads_any {Q : Ending → World → Prop} (v : Value) (ss : List St) (w : World) (h : StepsAt w v ss) (hl : ss.length ≤ 1048576) (hls : ∀ s ∈ ss, s.next.length ≤ 1048576)
    (hQ : ∀ v' bs w', Below w.heap.size w w' → HeadsOr ss bs → w'.ownsRow w.heap.size 4 1 v' bs.length (bs.map Value.bool) → Q (.returned v') w') :
    Calls Try.prog 39 #[.agg #[v]] w Q := by
  have HQ : Hid _ := hQ
  clear hQ
  obtain ⟨ao, b, o, cap, rfl, ha, hc⟩ := id h
  clear ha hc
  have HH : Hid (StepsAt w (.slice ao ss.length cap) ss) := h
  have HL : Hid _ := hls
  clear hls h
  have hb0 : ∀ O, Below w.heap.size w (w.alloc O) := fun O => (Below.refl _ _).alloc (Nat.le_refl _) O
  cases hok : okB ss
  · go_enter Try.func39, Try.ntmps39
    go_wp2_with fail
    refine implOk_any _ ss _ (HH.out.keep (hb0 _)) hl HL.out fun w1 hb1 => ?_
    rw [hok]
    have hbA : Below w.heap.size w w1 := (hb0 _).trans (hb1.mono (by simp))
    have HOK : Hid (okB ss = false) := hok
    clear hb1 hb0 hok
    go_wp2
    exact HQ.out _ [] _ hbA (Or.inr ⟨HOK.out, rfl⟩) (World.ownsRow_nil _ _ _ _)
  · obtain ⟨hn1, hn2⟩ := ok_len hok
    go_enter Try.func39, Try.ntmps39
    go_wp2_with fail
    refine implOk_any _ ss _ (HH.out.keep (hb0 _)) hl HL.out fun w1 hb1 => ?_
    rw [hok]
    have hbA : Below w.heap.size w w1 := (hb0 _).trans (hb1.mono (by simp))
    have q1 : w1.cell? ⟨w.heap.size, 0, none⟩ = some (.slice ao ss.length cap) := cell_keep hb1 (by simp [go_sem])
    have HOK : Hid (okB ss = true) := hok
    clear hb1 hb0 hok
    go_wp2_with fail
    refine nestOf_any _ ss _ (HH.out.keep hbA) HOK.out fun ag ug ah un w2 hb2 hA hU hl1 hl2 hah hun => ?_
    have HB2 : Hid (Below w.heap.size w w2) := hbA.trans (hb2.mono hbA.size)
    have HA2 : Hid (w2.rowIs ag 75 ss.length (fun j => bsV (ah j))) := hA
    have HU2 : Hid (w2.rowIs ug 75 ss.length (fun j => bsV (un j))) := hU
    have HHD : Hid (∀ i, i < ss.length → ((ah i &&& un i) ≠ 0#64 ↔ IsHead ss i)) := fun i hi => head_bits HOK.out (fun x hx => hah i x hi hx) (fun x hx => hun i x hi hx)
    have q2 := cell_keep hb2 q1
    have hzlt : w.heap.size < w2.heap.size := cell_lt q2
    have hsz := hbA.size
    have hsz2 := HB2.out.size
    clear hA hU hah hun hb2 hbA q1
    go_wp2_with (at_make; refine wpList_make_is _ rfl (.tmp 14) (.tmp 14) 39 rfl 4 (.bool false) 1 Try.underlying39 infoBool rfl .i64 .i64 ss.length rfl rfl (by omega) (by omega) ?_; intro w3 hrow3 hb3 hs3)
    have hb2' : Below w2.heap.size w2 (w2.alloc (.cells #[.slice (some ⟨ag, 0, none⟩) ss.length ss.length, .slice (some ⟨ug, 0, none⟩) ss.length ss.length] 72)) := (Below.refl _ _).alloc (Nat.le_refl _) _
    have hb23 : Below w2.heap.size w2 w3 := hb2'.trans (hb3.mono (by simp))
    have n3 : w3.cell? ⟨w2.heap.size, 0, none⟩ = some (.slice (some ⟨ag, 0, none⟩) ss.length ss.length) := cell_keep hb3 (by simp [go_sem])
    have n4 : w3.cell? ⟨w2.heap.size, 1, none⟩ = some (.slice (some ⟨ug, 0, none⟩) ss.length ss.length) := cell_keep hb3 (by simp [go_sem])
    rw [World.size_alloc] at hrow3 hs3
    have HR3 : Hid (w3.rowIs (w2.heap.size + 1) 4 ss.length (fun _ => .bool false)) := hrow3
    have HB3 : Hid (Below w2.heap.size w2 w3) := hb23
    clear hrow3 hb3 hb23 hb2' q2
    go_loopw [18] (fun i wr => ∃ (k : Nat) (f : Nat → Bool), k ≤ ss.length ∧ i = .int .i64 k ∧ Out (w2.heap.size + 1) (w2.heap.size + 2) w3 wr ∧ wr.rowIs (w2.heap.size + 1) 4 ss.length (fun j => .bool (f j)) ∧ ∀ j, j < k → (f j = true ↔ IsHead ss j)) (fun i _ => ss.length - (intOf i).toNat)
    case atStart => exact ⟨0, fun _ => false, Nat.zero_le _, rfl, Out.refl _ _ _, HR3.out, fun j hj => by omega⟩
    case round =>
      obtain ⟨k, f, hk, rfl, hO, hrow, hf⟩ := hrel
      have HO : Hid (Out (w2.heap.size + 1) (w2.heap.size + 2) w3 wr) := hO
      have HROW : Hid (wr.rowIs (w2.heap.size + 1) 4 ss.length (fun j => .bool (f j))) := hrow
      have HF : Hid (∀ j, j < k → (f j = true ↔ IsHead ss j)) := hf
      have n5 := hO.cell n3 (Or.inl (by show w2.heap.size < w2.heap.size + 1; omega))
      have n6 := hO.cell n4 (Or.inl (by show w2.heap.size < w2.heap.size + 1; omega))
      have hb2r : Below w2.heap.size w2 wr := HB3.out.trans (hO.below (by omega) (by omega))
      clear hO hrow hf
      by_cases hkn : k < ss.length
      · have hki : (k : Int) < (ss.length : Int) := by omega
        have HAr : Hid (wr.rowIs ag 75 ss.length (fun j => bsV (ah j))) := rowIs_keep HA2.out hb2r
        have HUr : Hid (wr.rowIs ug 75 ss.length (fun j => bsV (un j))) := rowIs_keep HU2.out hb2r
        clear hb2r
        go_wp2_with fail
        refine backs_any ag ug ss.length k ah un _ hkn HAr.out HUr.out fun w5 hb5 => ?_
        have HO5 : Hid (Out (w2.heap.size + 1) (w2.heap.size + 2) w3 w5) := HO.out.trans (Out.of_below hb5)
        have r5 := rowIs_keep HROW.out hb5
        have HR5 : Hid (w5.rowIs (w2.heap.size + 1) 4 ss.length (fun j => .bool (f j))) := r5
        have c5 := r5.cell hkn
        have f5 := r5.frozen k
        have HHK : Hid ((ah k &&& un k) ≠ 0#64 ↔ IsHead ss k) := HHD.out k hkn
        clear r5 hb5 n5 n6
        unfold bsV
        by_cases hz : (ah k &&& un k) = 0#64
        · have hzi : (((ah k &&& un k).toNat : Int) == 0) = true := by rw [beq_iff_eq]; exact bs_zero.2 hz
          have HNH : Hid (¬ IsHead ss k) := fun hh => (HHK.out.2 hh) hz
          clear hz
          generalize ((ah k &&& un k).toNat : Int) = z at *
          have hz0 : z = 0 := by simpa using hzi
          subst hz0
          go_wp2
          go_roundw
          case rel =>
            refine ⟨k + 1, fun j => if j = k then false else f j, by omega, by go_num, HO5.out.setCell (p := ⟨w2.heap.size + 1, k, none⟩) (Nat.le_refl _) (by show w2.heap.size + 1 < w2.heap.size + 2; omega) _, (HR5.out.set k _).congr fun j hj => ?_, fun j hj => ?_⟩
            · by_cases e : j = k <;> simp [e]
            · by_cases e : j = k
              · subst e; simp [HNH.out]
              · simp only [if_neg e]; exact HF.out j (by omega)
          case measure => simp [intOf]; omega
        · have hzi : (((ah k &&& un k).toNat : Int) == 0) = false := by rw [beq_eq_false_iff_ne]; exact fun e => hz (bs_zero.1 e)
          have HNH : Hid (IsHead ss k) := HHK.out.1 hz
          clear hz
          generalize ((ah k &&& un k).toNat : Int) = z at *
          have hz0 : ¬ z = 0 := by simpa using hzi
          go_wp2
          go_roundw
          case rel =>
            refine ⟨k + 1, fun j => if j = k then true else f j, by omega, by go_num, HO5.out.setCell (p := ⟨w2.heap.size + 1, k, none⟩) (Nat.le_refl _) (by show w2.heap.size + 1 < w2.heap.size + 2; omega) _, (HR5.out.set k _).congr fun j hj => ?_, fun j hj => ?_⟩
            · by_cases e : j = k <;> simp [e, hz0]
            · by_cases e : j = k
              · subst e; simp [HNH.out]
              · simp only [if_neg e]; exact HF.out j (by omega)
          case measure => simp [intOf]; omega
      · have hki : ¬ (k : Int) < (ss.length : Int) := by omega
        obtain rfl : k = ss.length := by omega
        have HBF : Hid (Below w.heap.size w wr) := HB2.out.trans (hb2r.mono HB2.out.size)
        clear hb2r
        go_wp2
        refine HQ.out _ ((List.range ss.length).map f) _ HBF.out (Or.inl ⟨HOK.out, f, HF.out, rfl⟩) ?_
        rw [map_boolV]
        simp only [List.length_map, List.length_range]
        exact rowIs_own HROW.out (by omega) (by omega)
end Go.Proofs.Ytblagfndeffilaa
