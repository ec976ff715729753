/- What the program's predsOf answers. -/
import Derived.Test.YtljlgffkhocgkaaDoorPredsB
import Derived.Test.YtljlgffkhocgkaaDoorContI
import Derived.Test.YtljlgffkhocgkaaDoorReachI
namespace Go.Proofs.YtljlgffkhocgkaaDoor
open Go.RowKit

/-- What predsOf has of step j when it has come to step a, and there to way t. -/
def predsT (ss : List St) (rs : List Bool) (j a t : Nat) : List Int := predsK ss rs j a ++ if (j : Int) ∈ (nextOf ss a).take t then [(a : Int)] else []

/-- The row of lists of predsOf. -/
structure PI (ss : List St) (w wr : World) (L : Nat) (pv : Nat → Value) (zf : Nat → List Int) : Prop where
  row : wr.rowIs w.heap.size 55 ss.length pv
  own : ∀ j, j < ss.length → wr.ownsRow L 3 1 (pv j) (zf j).length ((zf j).map (Value.int .i64))
  apart : ∀ i j k, i < ss.length → j < ss.length → i ≠ j → (pv i).ownBlock = some k → (pv j).ownBlock ≠ some k

theorem PI.congr {ss : List St} {w wr : World} {L : Nat} {pv : Nat → Value} {zf zf' : Nat → List Int} (h : PI ss w wr L pv zf) (e : ∀ j, j < ss.length → zf' j = zf j) : PI ss w wr L pv zf' :=
  ⟨h.row, fun j hj => by rw [e j hj]; exact h.own j hj, h.apart⟩

theorem PI.keep {ss : List St} {w wr wr' : World} {L : Nat} {pv : Nat → Value} {zf : Nat → List Int} (h : PI ss w wr L pv zf) (hb : Below wr.heap.size wr wr') : PI ss w wr' L pv zf :=
  ⟨rowIs_keep h.row hb, fun j hj => ownsRow_out (h.own j hj) (Out.of_below (lo := 0) (hi := 0) hb) (fun _ _ => Or.inr (Nat.zero_le _)), h.apart⟩

/-- One number more at the end of one list. -/
theorem PI.put {ss : List St} {w wr w' : World} {L m g cap : Nat} {O : Obj} {pv : Nat → Value} {zf : Nat → List Int} {x : Int} (h : PI ss w wr L pv zf) (hL : w.heap.size < L) (hm : m < ss.length)
    (hg : (wr.alloc O).grownBy w' (pv m).ownBlock) (hown : w'.ownsRow L 3 1 (.slice (some ⟨g, 0, none⟩) ((zf m).length + 1) cap) ((zf m).length + 1) ((zf m).map (Value.int .i64) ++ [.int .i64 x])) (hat : (pv m).ownBlock = some g ∨ g = wr.heap.size + 1) :
    PI ss w (w'.setCell ⟨w.heap.size, m, none⟩ (.slice (some ⟨g, 0, none⟩) ((zf m).length + 1) cap)) L (fun j => if j = m then .slice (some ⟨g, 0, none⟩) ((zf m).length + 1) cap else pv j) (fun j => if j = m then zf m ++ [x] else zf j) := by
  have hgL : L ≤ g := (hown.lt g rfl).1
  have hne : ∀ j k, j < ss.length → (pv j).ownBlock = some k → L ≤ k ∧ k < wr.heap.size := fun j k hj hk => (h.own j hj).lt k hk
  have hrow : w'.rowIs w.heap.size 55 ss.length pv := (h.row.alloc O).of_block (hg.block _ (Nat.lt_of_lt_of_le h.row.lt (by simp)) fun e => by have := (hne m _ hm e.symm).1; omega)
  have hgne : ∀ j, j < ss.length → j ≠ m → (pv j).ownBlock ≠ some g := by
    intro j hj hjm e
    rcases hat with a | a
    · exact h.apart m j g hm hj (Ne.symm hjm) a e
    · have := (hne j g hj e).2
      omega
  refine ⟨hrow.set m _, fun j hj => ?_, fun i j k hi hj hij => ?_⟩
  · by_cases e : j = m
    · subst e
      simp only [if_true, List.length_append, List.length_singleton, List.map_append]
      exact ownsRow_setCell_below hown (by simp; omega) _
    · simp only [if_neg e]
      refine ownsRow_setCell_below ?_ (by simp; omega) _
      refine ((h.own j hj).alloc O).kept hg ?_
      cases hb : (pv j).ownBlock with
      | none => exact Or.inl rfl
      | some q => exact Or.inr fun e2 => h.apart j m q hj hm e hb e2.symm
  · by_cases e1 : i = m <;> by_cases e2 : j = m
    · omega
    · simp only [if_pos e1, if_neg e2]
      intro hk
      simp [Value.ownBlock] at hk
      subst hk
      exact hgne j hj e2
    · simp only [if_neg e1, if_pos e2]
      intro hk hk2
      simp [Value.ownBlock] at hk2
      subst hk2
      exact hgne i hi e1 hk
    · simp only [if_neg e1, if_neg e2]
      exact h.apart i j k hi hj hij

set_option maxRecDepth 100000 in
set_option maxHeartbeats 8000000 in
theorem comeFrom_any {Q : Ending → World → Prop} (v : Value) (ss : List St) (w : World) (h : StepsAt w v ss) (hok : okB ss = true) (g cap2 : Nat) (rs : List Bool) (hrl : rs.length = ss.length) (hG : ∀ i, i < ss.length → w.cell? ⟨g, i, none⟩ = (rs.map Value.bool)[i]?)
    (hQ : ∀ v' w', Below w.heap.size w w' → RowsI w.heap.size w'.heap.size w' v' (predsL ss rs) → Q (.returned v') w') :
    Calls Tryd.prog 77 #[v, .slice (some ⟨g, 0, none⟩) ss.length cap2] w Q := by
  have HQ : Hid _ := hQ
  clear hQ
  obtain ⟨hn1, hn2⟩ := ok_len hok
  have HOK : Hid (okB ss = true) := hok
  obtain ⟨ao, b, o, cap, rfl, ha, hc⟩ := id h
  obtain rfl := ha (by omega)
  have HC : Hid _ := hc
  have HG0 : Hid (∀ i, i < ss.length → w.cell? ⟨g, i, none⟩ = (rs.map Value.bool)[i]?) := hG
  have hwg : g < w.heap.size := by
    have h0 := hG 0 hn1
    rw [List.getElem?_map, List.getElem?_eq_getElem (by omega)] at h0
    exact cell_lt h0
  clear ha hc h hok hG
  obtain ⟨i0, hi, hz0, hz1, hz2⟩ := info_parts infoInt2
  go_enter Tryd.func77, Tryd.ntmps77
  go_wp2_with (at_make; refine wpList_make_is _ rfl (.tmp 11) (.tmp 11) 45 rfl 55 (.slice none 0 0) 24 Tryd.underlying45 infoInts2 rfl .i64 .i64 ss.length rfl rfl (by omega) (by omega) ?_)
  intro w2 hrow1 hb1 hs1
  have HB2 : Hid (Below w.heap.size w w2) := hb1
  have HG : Hid (∀ i, i < ss.length → w2.cell? ⟨g, i, none⟩ = (rs.map Value.bool)[i]?) := fun i hi => by
    have h0 := HG0.out i hi
    rw [List.getElem?_map, List.getElem?_eq_getElem (by omega)] at h0 ⊢
    exact cell_keep hb1 h0
  have HP2 : Hid (PI ss w w2 w2.heap.size (fun _ => .slice none 0 0) (fun _ => [])) := ⟨hrow1, fun j hj => World.ownsRow_nil _ _ _ _, fun i j k _ _ _ hk => by simp [Value.ownBlock] at hk⟩
  have hws : w.heap.size < w2.heap.size := by omega
  clear hb1 hrow1 hs1 HG0
  go_wp2_with fail
  go_loopw [15] (fun i wr => ∃ (a : Nat) (pv : Nat → Value), a ≤ ss.length ∧ i = .int .i64 a ∧ PI ss w wr w2.heap.size pv (fun j => predsK ss rs j a) ∧ Out w.heap.size (w.heap.size + 1) w2 wr) (fun i _ => ss.length - (intOf i).toNat)
  case atStart => exact ⟨0, _, Nat.zero_le _, rfl, HP2.out.congr fun j _ => by rw [predsK_zero], Out.refl _ _ _⟩
  case round =>
    obtain ⟨a, pv, ha, rfl, hP, hO⟩ := hrel
    have HP : Hid (PI ss w wr w2.heap.size pv (fun j => predsK ss rs j a)) := hP
    have HO : Hid (Out w.heap.size (w.heap.size + 1) w2 wr) := hO
    have HB : Hid (Below w.heap.size w wr) := HB2.out.trans (hO.below (Nat.le_refl _) (by omega))
    have hsz : w2.heap.size ≤ wr.heap.size := hO.size
    clear hP
    by_cases hal : a < ss.length
    · have hai : (a : Int) < (ss.length : Int) := by omega
      have har : a < rs.length := by omega
      have cg : wr.cell? ⟨g, a, none⟩ = some (.bool rs[a]) := hO.cell ((HG.out a hal).trans (by rw [List.getElem?_map, List.getElem?_eq_getElem har]; rfl)) (Or.inl hwg)
      have HGD : Hid (rs.getD a false = rs[a]) := by simp [Hid, List.getD, har]
      clear hO
      cases hrv : rs[a]
      · rw [hrv] at cg
        have HEQ : Hid (∀ j, predsK ss rs j (a + 1) = predsK ss rs j a) := by
          intro j
          rw [predsK_succ, if_neg (by rw [HGD.out, hrv]; simp), List.append_nil]
        clear hrv
        go_wp2
        go_roundw
        case rel => exact ⟨a + 1, pv, by omega, by go_num, HP.out.congr fun j _ => HEQ.out j, HO.out⟩
        case measure => simp [intOf]; omega
      · rw [hrv] at cg
        have hss : ss[a]? = some ss[a] := by simp [hal]
        obtain ⟨nu, cu, iu⟩ := HC.out a ss[a] hss
        obtain ⟨nao, nb, no, ncap, rfl, hna, hnc⟩ := id iu
        have c7 := cell_keep HB.out cu.c7
        have HNA : Hid _ := hna
        have HNC : Hid _ := hnc
        obtain ⟨h2, hnx⟩ := (ok_fit HOK.out).2 a ss[a] hss
        have HNX : Hid _ := hnx
        have HNO : Hid (nextOf ss a = ss[a].next) := nextOf_get hal
        have HRV : Hid (rs.getD a false = true) := by rw [Hid, HGD.out, hrv]
        clear cu iu hna hnc hnx hss hrv
        go_wp2_with fail
        generalize wr = W5 at *
        go_loopw [28] (fun i wr2 => ∃ (t : Nat) (pv : Nat → Value), t ≤ ss[a].next.length ∧ i = .int .i64 t ∧ PI ss w wr2 w2.heap.size pv (fun j => predsT ss rs j a t) ∧ Out w.heap.size (w.heap.size + 1) w2 wr2) (fun i _ => ss[a].next.length - (intOf i).toNat)
        case atStart => exact ⟨0, pv, Nat.zero_le _, rfl, HP.out.congr fun j _ => by simp [predsT], HO.out⟩
        case round =>
          obtain ⟨t, pv, ht, rfl, hP, hO⟩ := hrel
          have HP5 : Hid (PI ss w wr w2.heap.size pv (fun j => predsT ss rs j a t)) := hP
          have HO5 : Hid (Out w.heap.size (w.heap.size + 1) w2 wr) := hO
          have HB5 : Hid (Below w.heap.size w wr) := HB2.out.trans (hO.below (Nat.le_refl _) (by omega))
          have hsz5 : w2.heap.size ≤ wr.heap.size := hO.size
          by_cases htl : t < ss[a].next.length
          · have hti : (t : Int) < (ss[a].next.length : Int) := by omega
            obtain rfl := HNA.out (by omega)
            obtain ⟨m, hm, hmn, _⟩ := HNX.out t htl
            have cx := cell_keep HB5.out (HNC.out t htl)
            rw [hm] at cx
            have hmi : (m : Int) < (ss.length : Int) := by omega
            have rm := hP.row.cell hmn
            have fm := hP.row.frozen m
            have hownm := hP.own m hmn
            have HOM : Hid _ := hownm
            obtain ⟨Am, cm, hvm⟩ : ∃ A c, pv m = .slice A (predsT ss rs m a t).length c := by
              rcases hownm.2 with ⟨e, e2⟩ | ⟨g', c, _, e, _⟩
              · exact ⟨none, 0, by rw [e2]; exact e⟩
              · exact ⟨_, _, e⟩
            have HVM : Hid (pv m = .slice Am (predsT ss rs m a t).length cm) := hvm
            rw [hvm] at rm
            have HIA : Hid (IntsAt wr (.slice Am (predsT ss rs m a t).length cm) (predsT ss rs m a t)) := by
              have h1 : IntsO w2.heap.size wr.heap.size wr (pv m) (predsT ss rs m a t) := ⟨hownm, fun k hk => (hownm.lt k hk).2⟩
              rw [hvm] at h1
              exact h1.at
            have hlenT : (predsT ss rs m a t).length ≤ 61 := by
              have := predsK_len ss rs m a
              unfold predsT
              rw [List.length_append]
              split <;> simp <;> omega
            have HTK : Hid (ss[a].next.take (t + 1) = ss[a].next.take t ++ [(m : Int)]) := by
              rw [Hid, List.take_succ_eq_append_getElem htl]
              have e : ss[a].next.getD t 0 = ss[a].next[t] := by simp [List.getD, htl]
              rw [← e, hm]
            have HMEM : Hid ((a : Int) ∈ predsT ss rs m a t ↔ (m : Int) ∈ ss[a].next.take t) := by
              unfold predsT
              rw [Hid, HNO.out, List.mem_append]
              constructor
              · rintro (h | h)
                · have := predsK_mem h
                  omega
                · split at h
                  · assumption
                  · simp at h
              · intro h
                rw [if_pos h]
                exact Or.inr (by simp)
            have HSTEP : Hid (∀ j, predsT ss rs j a (t + 1) = if j = m then (if (m : Int) ∈ ss[a].next.take t then predsT ss rs m a t else predsT ss rs m a t ++ [(a : Int)]) else predsT ss rs j a t) := by
              intro j
              unfold predsT
              rw [HNO.out, HTK.out]
              by_cases ej : j = m
              · subst ej
                rw [if_pos rfl]
                by_cases hin : (j : Int) ∈ ss[a].next.take t
                · rw [if_pos hin, if_pos (List.mem_append_left _ hin), if_pos hin]
                · rw [if_neg hin, if_pos (by simp), if_neg hin, List.append_nil]
              · rw [if_neg ej]
                have : ((j : Int) ∈ ss[a].next.take t ++ [(m : Int)]) ↔ (j : Int) ∈ ss[a].next.take t := by
                  rw [List.mem_append]
                  constructor
                  · rintro (h | h)
                    · exact h
                    · simp at h; omega
                  · exact Or.inl
                simp only [this]
            clear hP hO hm hownm hvm
            go_wp2_with fail
            refine containsInt_any _ (predsT ss rs m a t) (a : Int) _ HIA.out (by omega) ?_
            by_cases hin : (m : Int) ∈ ss[a].next.take t
            · rw [decide_eq_true (HMEM.out.2 hin)]
              have HN : Hid (∀ j, predsT ss rs j a (t + 1) = predsT ss rs j a t) := by
                intro j
                rw [HSTEP.out j, if_pos hin]
                by_cases ej : j = m
                · rw [if_pos ej, ej]
                · rw [if_neg ej]
              clear hin
              go_wp2
              go_roundw
              case rel => exact ⟨t + 1, pv, by omega, by go_num, HP5.out.congr fun j _ => HN.out j, HO5.out⟩
              case measure => simp [intOf]; omega
            · rw [decide_eq_false (fun h => hin (HMEM.out.1 h))]
              have HN : Hid (∀ j, predsT ss rs j a (t + 1) = if j = m then predsT ss rs m a t ++ [(a : Int)] else predsT ss rs j a t) := by
                intro j
                rw [HSTEP.out j, if_neg hin]
              have HOM2 : Hid (wr.ownsRow w2.heap.size 3 1 (.slice Am (predsT ss rs m a t).length cm) (predsT ss rs m a t).length ((predsT ss rs m a t).map (Value.int .i64))) := by
                have := HOM.out
                rwa [HVM.out] at this
              clear hin
              go_wp2_with (at_builtin; refine wpList_append_lies _ rfl _ _ 55 rfl w2.heap.size 3 i0 (.int .i64 0) 1 8 Tryd.underlying55 hi hz0 hz1 hz2 rfl (by decide) (.slice Am (predsT ss rs m a t).length cm) (predsT ss rs m a t).length ((predsT ss rs m a t).map (Value.int .i64)) rfl (HOM2.out.alloc _) ⟨wr.heap.size, 0, none⟩ 1 1 [.int .i64 (a : Int)] rfl rfl (cell_one_new wr _ _) (int_oneCell _ _) (by decide) (by unfold maxLen; omega) (by omega) (by simp; omega) (wr.heap.size + 1) (by simp) ?_; intro g8 cap8 w8 hown8 hgrow8 hat8 hlt8; have hrow8 : w8.rowIs w.heap.size 55 ss.length pv := ((HP5.out.row).alloc _).of_block (hgrow8.block _ (Nat.lt_of_lt_of_le HP5.out.row.lt (by simp)) (fun e => by have h9 := (HOM2.out.lt _ e.symm).1; omega)); have r8 := hrow8.cell hmn; have f8 := hrow8.frozen m)
              rw [← HVM.out] at hgrow8 hat8
              have HPN := HP5.out.put (by omega) hmn hgrow8 hown8 hat8
              have HPH : Hid _ := HPN
              have HON : Hid (Out w.heap.size (w.heap.size + 1) w2 (w8.setCell ⟨w.heap.size, m, none⟩ (.slice (some ⟨g8, 0, none⟩) ((predsT ss rs m a t).length + 1) cap8))) := by
                refine Out.setCell (lo := w.heap.size) (hi := w.heap.size + 1) (p := ⟨w.heap.size, m, none⟩) ?_ (Nat.le_refl _) (Nat.lt_succ_self _) _
                refine ⟨hgrow8.os.trans HO5.out.os, hgrow8.tape.trans HO5.out.tape, hgrow8.output.trans HO5.out.output, Nat.le_trans hsz5 (Nat.le_trans (by simp) hgrow8.size), fun q hq hr => ?_⟩
                have h7 : (wr.alloc (.cells #[.int .i64 (a : Int)] 3)).heap[q]? = wr.heap[q]? := Below.heap_alloc _ _ _ (by omega)
                refine ((hgrow8.block q (by simp; omega) (fun e => ?_)).trans h7).trans (HO5.out.block q hq hr)
                rw [HVM.out] at e
                have := (HOM2.out.lt q e.symm).1
                omega
              clear HPN hown8 hgrow8 hat8 hrow8 r8 f8
              go_wp2
              go_roundw
              case rel => exact ⟨t + 1, _, by omega, by go_num, PI.congr HPH.out fun j _ => HN.out j, HON.out⟩
              case measure => simp [intOf]; omega
          · have hti : ¬ (t : Int) < (ss[a].next.length : Int) := by omega
            obtain rfl : t = ss[a].next.length := by omega
            have HN : Hid (∀ j, predsK ss rs j (a + 1) = predsT ss rs j a ss[a].next.length) := by
              intro j
              rw [predsK_succ]
              unfold predsT
              rw [HNO.out, List.take_of_length_le (Nat.le_refl _)]
              simp only [HRV.out, true_and]
            clear hP hO
            go_wp2
            go_roundw
            case rel => exact ⟨a + 1, pv, by omega, by go_num, HP5.out.congr fun j _ => HN.out j, HO5.out⟩
            case measure => simp [intOf]; omega
    · have hai : ¬ (a : Int) < (ss.length : Int) := by omega
      obtain rfl : a = ss.length := by omega
      clear hO
      go_wp2
      refine HQ.out _ _ HB.out ⟨(List.range ss.length).map pv, by simp [predsL], ?_, fun k hk => ?_, fun i x zs hx hz => ?_, fun i j x y k hx hy hij hk => ?_⟩
      · have := rowIs_own HP.out.row (Nat.le_refl w.heap.size) (by omega)
        simpa [predsL] using this
      · simp [Value.ownBlock] at hk
        subst hk
        exact HP.out.row.lt
      · have l := (List.getElem?_eq_some_iff.1 hx).1
        simp at l
        simp [predsL, l] at hx hz
        subst hx
        subst hz
        have := HP.out.own i l
        exact ⟨own_lower this (by omega), fun k hk => (this.lt k hk).2⟩
      · have l := (List.getElem?_eq_some_iff.1 hx).1
        have l2 := (List.getElem?_eq_some_iff.1 hy).1
        simp at l l2
        simp [l] at hx
        simp [l2] at hy
        subst hx
        subst hy
        exact HP.out.apart i j k l l2 hij hk

set_option maxRecDepth 100000 in
set_option maxHeartbeats 1000000 in
theorem predsOf_any {Q : Ending → World → Prop} (v : Value) (ss : List St) (w : World) (h : StepsAt w v ss) (hok : okB ss = true)
    (hQ : ∀ v' rs w', Below w.heap.size w w' → IsReach ss rs → RowsI w.heap.size w'.heap.size w' v' (predsL ss rs) → Q (.returned v') w') :
    Calls Tryd.prog 50 #[v] w Q := by
  have HQ : Hid _ := hQ
  clear hQ
  obtain ⟨hn1, hn2⟩ := ok_len hok
  have HOK : Hid (okB ss = true) := hok
  have HH : Hid (StepsAt w v ss) := h
  obtain ⟨ao, b, o, cap, rfl, _, _⟩ := id h
  clear h hok
  go_enter Tryd.func50, Tryd.ntmps50
  go_wp2_with fail
  refine reachOf_any _ ss _ HH.out HOK.out fun v2 rs w2 hb2 hrs hown2 => ?_
  have HB2 : Hid (Below w.heap.size w w2) := hb2
  have HRS : Hid (IsReach ss rs) := hrs
  have hrl := hrs.1
  obtain ⟨g, cap2, rfl, hg1, hg2, _, hg3, _⟩ := own_slice1 hown2 (by omega)
  have HG : Hid (∀ i, i < ss.length → w2.cell? ⟨g, i, none⟩ = (rs.map Value.bool)[i]?) := hg3
  clear hb2 hrs hown2 hg3
  go_wp2_with fail
  refine comeFrom_any _ ss _ (HH.out.keep HB2.out) HOK.out g cap2 rs hrl HG.out fun v3 w3 hb3 hrow => ?_
  have HB3 : Hid (Below w.heap.size w w3) := HB2.out.trans (hb3.mono HB2.out.size)
  have HR : Hid (RowsI w.heap.size w3.heap.size w3 v3 (predsL ss rs)) := RowsI.lower hrow HB2.out.size
  clear hb3 hrow
  obtain ⟨A3, c3, rfl⟩ := HR.out.slice
  go_wp2
  exact HQ.out _ rs _ HB3.out HRS.out HR.out
end Go.Proofs.YtljlgffkhocgkaaDoor
