/- What the program's LoopFront answers. -/
import Derived.Test.YtljlgffkhocgkaaDoorFront
import Derived.Test.YtljlgffkhocgkaaDoorNest
namespace Go.Proofs.YtljlgffkhocgkaaDoor
open Go.RowKit

set_option maxRecDepth 100000 in
set_option maxHeartbeats 4000000 in
theorem implLoopFront_any {Q : Ending → World → Prop} (v : Value) (ss : List St) (w : World) (h : StepsAt w v ss) (hT : Tab w) (hg : 0 < w.heap.size) (hl : ss.length ≤ 1048576) (hls : ∀ s ∈ ss, s.next.length ≤ 1048576)
    (hQ : ∀ v' zss w', Below w.heap.size w w' → FrontOr ss zss → RowsI w.heap.size w'.heap.size w' v' zss → Q (.returned v') w') :
    Calls Tryd.prog 17 #[.agg #[v]] w Q := by
  have HQ : Hid _ := hQ
  have HT : Hid (Tab w) := hT
  clear hQ hT
  obtain ⟨ao, b, o, cap, rfl, ha, hc⟩ := id h
  clear ha hc
  have HH : Hid (StepsAt w (.slice ao ss.length cap) ss) := h
  have HL : Hid _ := hls
  clear hls h
  have hb0 : ∀ O, Below w.heap.size w (w.alloc O) := fun O => (Below.refl _ _).alloc (Nat.le_refl _) O
  cases hok : okB ss
  · go_enter Tryd.func17, Tryd.ntmps17
    go_wp2_with fail
    refine implOk_any _ ss _ (HH.out.keep (hb0 _)) hl HL.out fun w1 hb1 => ?_
    rw [hok]
    have hbA : Below w.heap.size w w1 := (hb0 _).trans (hb1.mono (by simp))
    have HOK : Hid (okB ss = false) := hok
    clear hb1 hb0 hok
    go_wp2
    exact HQ.out _ [] _ hbA (Or.inr ⟨HOK.out, rfl⟩) (RowsI.nil (World.ownsRow_nil _ _ _ _) (by simp [Value.ownBlock]))
  · obtain ⟨hn1, hn2⟩ := ok_len hok
    obtain ⟨fr, hfr⟩ := FrontM.some ss
    have HFR : Hid (∀ i x, (fr i x = true ↔ IsFront ss i x)) := hfr
    clear hfr
    go_enter Tryd.func17, Tryd.ntmps17
    go_wp2_with fail
    refine implOk_any _ ss _ (HH.out.keep (hb0 _)) hl HL.out fun w1 hb1 => ?_
    rw [hok]
    have hbA : Below w.heap.size w w1 := (hb0 _).trans (hb1.mono (by simp))
    have q1 : w1.cell? ⟨w.heap.size, 0, none⟩ = some (.slice ao ss.length cap) := cell_keep hb1 (by simp [go_sem])
    have HOK : Hid (okB ss = true) := hok
    clear hb1 hb0 hok
    go_wp2_with fail
    refine nestOf_any _ ss _ (HH.out.keep hbA) HOK.out fun ag ug ah un w2 hb2 hA hU hl1 hl2 hah hun => ?_
    have HB2 : Hid (Below w.heap.size w w2) := hbA.trans (hb2.mono hbA.size)
    have HA2 : Hid (w2.rowIs ag 66 ss.length (fun j => bsV (ah j))) := hA
    have HU2 : Hid (w2.rowIs ug 66 ss.length (fun j => bsV (un j))) := hU
    have HAH : Hid _ := hah
    have HUN : Hid _ := hun
    have q2 := cell_keep hb2 q1
    have hzlt : w.heap.size < w2.heap.size := cell_lt q2
    have hsz := hbA.size
    clear hA hU hah hun hb2 hbA q1
    go_wp2_with (at_make; refine wpList_make_is _ rfl (.tmp 14) (.tmp 14) 45 rfl 55 (.slice none 0 0) 24 Tryd.underlying45 infoInts2 rfl .i64 .i64 ss.length rfl rfl (by omega) (by omega) ?_; intro w3 hrow3 hb3 hs3)
    have hb2' : Below w2.heap.size w2 (w2.alloc (.cells #[.slice (some ⟨ag, 0, none⟩) ss.length ss.length, .slice (some ⟨ug, 0, none⟩) ss.length ss.length] 76)) := (Below.refl _ _).alloc (Nat.le_refl _) _
    have hb23 : Below w2.heap.size w2 w3 := hb2'.trans (hb3.mono (by simp))
    have n3 : w3.cell? ⟨w2.heap.size, 0, none⟩ = some (.slice (some ⟨ag, 0, none⟩) ss.length ss.length) := cell_keep hb3 (by simp [go_sem])
    have n4 : w3.cell? ⟨w2.heap.size, 1, none⟩ = some (.slice (some ⟨ug, 0, none⟩) ss.length ss.length) := cell_keep hb3 (by simp [go_sem])
    rw [World.size_alloc] at hrow3 hs3
    have HR3 : Hid (w3.rowIs (w2.heap.size + 1) 55 ss.length (fun _ => .slice none 0 0)) := hrow3
    have HB3 : Hid (Below w2.heap.size w2 w3) := hb23
    clear hrow3 hb3 hb23 hb2' q2
    go_loopw [18] (fun i wr => ∃ (k : Nat) (pv : Nat → Value), k ≤ ss.length ∧ i = .int .i64 k ∧ Out (w2.heap.size + 1) (w2.heap.size + 2) w3 wr ∧ wr.rowIs (w2.heap.size + 1) 55 ss.length pv ∧ (∀ j, j < k → wr.ownsRow w3.heap.size 3 1 (pv j) (frK fr j ss.length).length ((frK fr j ss.length).map (Value.int .i64))) ∧ ∀ i j q, i < k → j < k → i ≠ j → (pv i).ownBlock = some q → (pv j).ownBlock ≠ some q) (fun i _ => ss.length - (intOf i).toNat)
    case atStart => exact ⟨0, _, Nat.zero_le _, rfl, Out.refl _ _ _, HR3.out, fun j hj => by omega, fun i j q hi => by omega⟩
    case round =>
      obtain ⟨k, pv, hk, rfl, hO, hrow, hpv, hap⟩ := hrel
      have HO : Hid (Out (w2.heap.size + 1) (w2.heap.size + 2) w3 wr) := hO
      have HROW : Hid (wr.rowIs (w2.heap.size + 1) 55 ss.length pv) := hrow
      have HPV : Hid (∀ j, j < k → wr.ownsRow w3.heap.size 3 1 (pv j) (frK fr j ss.length).length ((frK fr j ss.length).map (Value.int .i64))) := hpv
      have HAP : Hid (∀ i j q, i < k → j < k → i ≠ j → (pv i).ownBlock = some q → (pv j).ownBlock ≠ some q) := hap
      have n5 := hO.cell n3 (Or.inl (by show w2.heap.size < w2.heap.size + 1; omega))
      have n6 := hO.cell n4 (Or.inl (by show w2.heap.size < w2.heap.size + 1; omega))
      have hb2r : Below w2.heap.size w2 wr := HB3.out.trans (hO.below (by omega) (by omega))
      have hszr : w3.heap.size ≤ wr.heap.size := hO.size
      have HBF : Hid (Below w.heap.size w wr) := HB2.out.trans (hb2r.mono HB2.out.size)
      clear hO hrow hpv hap
      by_cases hkn : k < ss.length
      · have hki : (k : Int) < (ss.length : Int) := by omega
        have HAr : Hid (wr.rowIs ag 66 ss.length (fun j => bsV (ah j))) := rowIs_keep HA2.out hb2r
        have HUr : Hid (wr.rowIs ug 66 ss.length (fun j => bsV (un j))) := rowIs_keep HU2.out hb2r
        clear hb2r
        go_wp2_with fail
        refine front_any HOK.out ag ug k ah un _ hkn HAr.out HUr.out HAH.out HUN.out fun F w5 hb5 hF => ?_
        have HF : Hid (∀ x, x < 64 → (F.getLsbD x = true ↔ (x < ss.length ∧ IsFront ss k x))) := hF
        have HB5 : Hid (Below w.heap.size w w5) := HBF.out.trans (hb5.mono HBF.out.size)
        have HR5 : Hid (w5.rowIs (w2.heap.size + 1) 55 ss.length pv) := rowIs_keep HROW.out hb5
        have HO5 : Hid (Out (w2.heap.size + 1) (w2.heap.size + 2) w3 w5) := HO.out.trans (Out.of_below hb5)
        have HPV5 : Hid (∀ j, j < k → w5.ownsRow w3.heap.size 3 1 (pv j) (frK fr j ss.length).length ((frK fr j ss.length).map (Value.int .i64))) := fun j hj => ownsRow_out (HPV.out j hj) (Out.of_below (lo := 0) (hi := 0) hb5) (fun _ _ => Or.inr (Nat.zero_le _))
        have hs5 := hb5.size
        clear hb5 hF n5 n6
        go_wp2_with fail
        refine list_any ss.length (by omega) F (fun j hj h => ((HF.out j hj).1 h).1) _ (HT.out.keep HB5.out) (by have := HB5.out.size; omega) fun v6 w6 hb6 hown6 => ?_
        have hfe : (List.range ss.length).filter (fun j => F.getLsbD j) = (List.range ss.length).filter (fr k) := by
          apply List.filter_congr
          intro x hx
          have hx' : x < ss.length := by simpa using hx
          have e1 := HF.out x (by omega)
          have e2 := HFR.out k x
          cases e3 : F.getLsbD x <;> cases e4 : fr k x <;> simp_all
        rw [hfe] at hown6
        have HOWN6 : Hid (w6.ownsRow w5.heap.size 3 1 v6 (frK fr k ss.length).length ((frK fr k ss.length).map (Value.int .i64))) := by
          unfold frK
          rw [Hid, List.length_map, List.map_map]
          exact hown6
        have HR6 : Hid (w6.rowIs (w2.heap.size + 1) 55 ss.length pv) := rowIs_keep HR5.out hb6
        have HO6 : Hid (Out (w2.heap.size + 1) (w2.heap.size + 2) w3 w6) := HO5.out.trans (Out.of_below hb6)
        have HPV6 : Hid (∀ j, j < k → w6.ownsRow w3.heap.size 3 1 (pv j) (frK fr j ss.length).length ((frK fr j ss.length).map (Value.int .i64)) ∧ ∀ q, (pv j).ownBlock = some q → q < w5.heap.size) := fun j hj => ⟨ownsRow_out (HPV5.out j hj) (Out.of_below (lo := 0) (hi := 0) hb6) (fun _ _ => Or.inr (Nat.zero_le _)), fun q hq => ((HPV5.out j hj).lt q hq).2⟩
        have c6 := HR6.out.cell hkn
        have f6 := HR6.out.frozen k
        obtain ⟨A6, m6, cc6, hv6⟩ : ∃ A n c, v6 = .slice A n c := by
          rcases hown6.2 with ⟨e, _⟩ | ⟨g', c, _, e, _⟩
          · exact ⟨_, _, _, e⟩
          · exact ⟨_, _, _, e⟩
        subst hv6
        clear hown6 hb6 hfe
        go_wp2
        go_roundw
        case rel =>
          have hs6 := HO6.out.size
          refine ⟨k + 1, fun j => if j = k then .slice A6 m6 cc6 else pv j, by omega, by go_num, HO6.out.setCell (p := ⟨w2.heap.size + 1, k, none⟩) (Nat.le_refl _) (by show w2.heap.size + 1 < w2.heap.size + 2; omega) _, (HR6.out.set k _).congr (fun j hj => by by_cases e : j = k <;> simp [e]), fun j hj => ?_, fun i j q hi hj hij => ?_⟩
          · have hlow : ∀ {v : Value} {m : Nat} {xs : List Value}, w6.ownsRow w3.heap.size 3 1 v m xs → (w6.setCell ⟨w2.heap.size + 1, k, none⟩ (.slice A6 m6 cc6)).ownsRow w3.heap.size 3 1 v m xs := fun h => ownsRow_setCell_below h (by show w2.heap.size + 1 < w3.heap.size; omega) _
            by_cases e : j = k
            · subst e
              simp only [if_true]
              exact hlow (own_lower HOWN6.out (by omega))
            · simp only [if_neg e]
              exact hlow (HPV6.out j (by omega)).1
          · by_cases e1 : i = k <;> by_cases e2 : j = k
            · omega
            · simp only [if_pos e1, if_neg e2]
              intro hq hq2
              have h5 := (HOWN6.out.lt q hq).1
              have h6 := (HPV6.out j (by omega)).2 q hq2
              omega
            · simp only [if_neg e1, if_pos e2]
              intro hq hq2
              have h5 := (HOWN6.out.lt q hq2).1
              have h6 := (HPV6.out i (by omega)).2 q hq
              omega
            · simp only [if_neg e1, if_neg e2]
              exact HAP.out i j q (by omega) (by omega) hij
        case measure => simp [intOf]; omega
      · have hki : ¬ (k : Int) < (ss.length : Int) := by omega
        obtain rfl : k = ss.length := by omega
        clear hb2r
        go_wp2
        refine HQ.out _ (frL ss.length fr) _ HBF.out (Or.inl ⟨HOK.out, fr, fun i x _ _ => HFR.out i x, rfl⟩) ⟨(List.range ss.length).map pv, by simp [frL], ?_, fun q hq => ?_, fun i x zs hx hz => ?_, fun i j x y q hx hy hij hq => ?_⟩
        · have := rowIs_own HROW.out (Nat.le_of_lt (Nat.lt_of_lt_of_le hzlt (Nat.le_succ _))) (by omega)
          simpa [frL] using this
        · simp [Value.ownBlock] at hq
          subst hq
          exact HROW.out.lt
        · have l := (List.getElem?_eq_some_iff.1 hx).1
          simp at l
          simp [frL, l] at hx hz
          subst hx
          subst hz
          have := HPV.out i l
          exact ⟨own_lower this (by omega), fun q hq => (this.lt q hq).2⟩
        · have l := (List.getElem?_eq_some_iff.1 hx).1
          have l2 := (List.getElem?_eq_some_iff.1 hy).1
          simp at l l2
          simp [l] at hx
          simp [l2] at hy
          subst hx
          subst hy
          exact HAP.out i j q l l2 hij hq
end Go.Proofs.YtljlgffkhocgkaaDoor
