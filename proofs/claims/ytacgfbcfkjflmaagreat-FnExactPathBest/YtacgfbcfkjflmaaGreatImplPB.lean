/- The program's PlaceBusy and PlaceLazy. -/
import Derived.Test.YtacgfbcfkjflmaaGreatImplPN
import Derived.Deep.RegionHeld3
namespace Go.Proofs.YtacgfbcfkjflmaaGreat
open Go.RowKit

set_option maxRecDepth 100000 in
set_option maxHeartbeats 4000000 in
theorem busyMoves_any {Q : Ending → World → Prop} {w : World} {V : Nat} {ss : List St} {e : E5} {ord : List Nat} {rs : List Bool} {A : Option Addr} {c og oc : Nat} {pv : Value} {bc bk : BitVec 64} (h : VS w V ss e ord rs A c og oc pv bc bk) (hok : okB ss = true)
    (hQ : ∀ f t B W', Below w.heap.size w W' → w.heap.size ≤ B → IsBusy ss e rs f t → MRow W' B 103 ss.length f t → Q (.returned (.slice (some ⟨B, 0, none⟩) ss.length ss.length)) W') :
    Calls Tryz.prog 79 #[.pointer (some ⟨V, 0, none⟩)] w Q := by
  have HQ : Hid _ := hQ
  have HV : Hid (VS w V ss e ord rs A c og oc pv bc bk) := h
  have HOK : Hid (okB ss = true) := hok
  obtain ⟨hol, ho1, hom⟩ := order_facts h hok
  have HOM : Hid (∀ i, i ∈ ord ↔ i < ss.length ∧ rF rs i = true) := hom
  have hn := (ok_len hok).2
  clear hQ h hok hom
  go_enter Tryz.func79, Tryz.ntmps79
  go_wp2_with fail
  refine early_any HV.out HOK.out fun E B w2 hb2 hB hE hr => ?_
  have HB2 : Hid (Below w.heap.size w w2) := hb2
  have HE : Hid (IsEarly ss e rs E) := hE
  have HR2 : Hid (w2.rowIs B 4 ss.length (fun j => .bool (E j))) := hr
  clear hb2 hB hE hr
  go_wp2_with fail
  refine noMoves_any (HV.out.keep HB2.out) HOK.out fun w3 hb3 hsz hmr => ?_
  have HB3 : Hid (Below w.heap.size w w3) := HB2.out.trans (hb3.mono HB2.out.size)
  have HV3 : Hid (VS w3 V ss e ord rs A c og oc pv bc bk) := HV.out.keep HB3.out
  have HR3 : Hid (w3.rowIs B 4 ss.length (fun j => .bool (E j))) := rowIs_keep HR2.out hb3
  have HM3 : Hid (MRow w3 w2.heap.size 103 ss.length (fun _ => false) (fun _ => false)) := hmr
  have hBM : B < w2.heap.size := HR2.out.lt
  have hVM : V < w2.heap.size := Nat.lt_of_lt_of_le (cell_lt HV.out.c3) HB2.out.size
  have hgM : og < w2.heap.size := by
    have := cell_lt (HV.out.od 0 ho1)
    have h2 := HB2.out.size
    simp only at this
    omega
  have hwM : w.heap.size ≤ w2.heap.size := HB2.out.size
  have c1 := HV3.out.c1
  clear hb3 hmr hsz
  generalize w2.heap.size = M at *
  have nb1 : ¬ B = M := by omega
  have nv1 : ¬ V = M := by omega
  go_wp2_with fail
  go_loopw [6, 16] (fun _ i wr => ∃ k : Nat, k ≤ ord.length ∧ i = .int .i64 k ∧ MRow wr M 103 ss.length (fun j => decide (j ∈ ord.take k) && E j) (fun j => decide (j ∈ ord.take k) && cF e ss j) ∧ Out M (M + 1) w3 wr) (fun _ i _ => ord.length - (intOf i).toNat)
  case atStart => exact ⟨0, Nat.zero_le _, rfl, HM3.out.congr fun j _ => by simp, Out.refl _ _ _⟩
  case round =>
    clear HM3
    obtain ⟨k, hk, rfl, hmr, ho⟩ := hrel
    have HM : Hid (MRow wr M 103 ss.length (fun j => decide (j ∈ ord.take k) && E j) (fun j => decide (j ∈ ord.take k) && cF e ss j)) := hmr
    have HO : Hid (Out M (M + 1) w3 wr) := ho
    clear hmr ho
    by_cases hkn : k < ord.length
    · have hki : (k : Int) < (ord.length : Int) := by omega
      obtain ⟨x, hx⟩ : ∃ x, ord[k]? = some x := ⟨_, List.getElem?_eq_getElem hkn⟩
      have hxm : x ∈ ord := List.mem_of_getElem? hx
      obtain ⟨hxn, hxr⟩ := (HOM.out x).1 hxm
      have hc := HO.out.cell (HV3.out.od k hkn) (Or.inl hgM)
      rw [List.getD_eq_getElem?_getD, hx] at hc
      simp only [Option.getD_some, intV] at hc
      have hxi : (x : Int) < (ss.length : Int) := by omega
      have ce := HO.out.cell (HR3.out.cell hxn) (Or.inl hBM)
      have cb := HO.out.cell HV3.out.c3 (Or.inl hVM)
      have m0 := HM.out.put hxn
      have m1 := HM.out.take hxn
      have mf := HM.out.frozen (x * 2)
      have mg := HM.out.frozen (x * 2 + 1)
      have HTK : Hid (ord.take (k + 1) = ord.take k ++ [x]) := by
        rw [Hid, List.take_add_one, hx]
        rfl
      have HN : Hid (MRow ((wr.setCell ⟨M, x * 2, none⟩ (.bool (E x))).setCell ⟨M, x * 2 + 1, none⟩ (.bool (cF e ss x))) M 103 ss.length (fun j => decide (j ∈ ord.take (k + 1)) && E j) (fun j => decide (j ∈ ord.take (k + 1)) && cF e ss j)) := (HM.out.set x (E x) (cF e ss x)).congr fun j _ => by
        rw [HTK.out]
        by_cases e1 : j = x
        · subst e1; simp
        · simp [e1]
      have HNO : Hid (Out M (M + 1) w3 ((wr.setCell ⟨M, x * 2, none⟩ (.bool (E x))).setCell ⟨M, x * 2 + 1, none⟩ (.bool (cF e ss x)))) := (HO.out.setCell (p := ⟨M, x * 2, none⟩) (Nat.le_refl _) (Nat.lt_succ_self _) _).setCell (p := ⟨M, x * 2 + 1, none⟩) (Nat.le_refl _) (Nat.lt_succ_self _) _
      clear hx hxm HTK HM HO
      generalize E x = ex at *
      go_wp2_with fail
      go_region_held3 (fun wx => wx.cell? ⟨B, x, none⟩ = some (.bool ex) ∧ wx.cell? ⟨V, 3, none⟩ = some (bsV bc)) (refine ⟨?_, ?_⟩ <;> (repeat (first | assumption | refine kp_drew ?_ | refine kp_alloc ?_ | refine kp_set ?_ (by first | (simp; done) | (simp; omega) | omega)))) (first
        | (go_at_call 95; refine has_c HV.out.cw HOK.out x hxn _ ?_))
      all_goals
        go_wp2
        go_roundw
        case rel => exact ⟨k + 1, by omega, by go_num, HN.out, ⟨HNO.out.os, HNO.out.tape, HNO.out.output, HNO.out.size, HNO.out.block⟩⟩
        case measure => simp [intOf]; omega
    · have hki : ¬ (k : Int) < (ord.length : Int) := by omega
      obtain rfl : k = ord.length := by omega
      have HF : Hid (MRow wr M 103 ss.length E (fun j => cF e ss j && rF rs j)) := HM.out.congr fun j hj => by
        rw [List.take_length]
        have hm := HOM.out j
        by_cases hmem : j ∈ ord
        · have hr := (hm.1 hmem).2
          simp [hmem, hr]
        · have hr : rF rs j = false := by
            cases hr : rF rs j
            · rfl
            · exact absurd (hm.2 ⟨hj, hr⟩) hmem
          have he : E j = false := by
            cases he : E j
            · rfl
            · have := HE.out.reach hj he
              rw [hr] at this
              cases this
          simp [hmem, hr, he]
      have HBW : Hid (Below w.heap.size w wr) := HB3.out.trans (HO.out.below hwM HB3.out.size)
      have HIS : Hid (IsBusy ss e rs E (fun j => cF e ss j && rF rs j)) := ⟨HE.out, fun i _ => rfl⟩
      go_wp2
      exact HQ.out _ _ M _ HBW.out hwM HIS.out HF.out

theorem busy_tells {ss : List St} {e : E5} (hok : okB ss = true) : TellsM ss e 79 (IsBusy ss e) := fun _ _ _ _ _ _ _ _ _ _ _ h _ hQ => busyMoves_any h hok hQ

set_option maxRecDepth 100000 in
set_option maxHeartbeats 2000000 in
theorem implPlaceBusy_any {Q : Ending → World → Prop} (v : Value) (ss : List St) (e : E5) (w : World) (h : StepsAt w v ss) (hl : ss.length ≤ 1048576) (hls : ∀ s ∈ ss, s.next.length ≤ 1048576)
    (hQ : ∀ v' ps ts w', Below w.heap.size w w' → PlOr IsBusy ss e ps ts → PlaceO w.heap.size w'.heap.size w' v' ps ts → Q (.returned v') w') :
    Calls Tryz.prog 40 #[.agg #[v], .agg #[.int .i64 e.op, .int .i64 e.av, .int .i64 e.an, .int .i64 e.bv, .int .i64 e.bn]] w Q := by
  have HQ : Hid _ := hQ
  clear hQ
  obtain ⟨ao, b, o, cap, rfl, ha, hc⟩ := id h
  have HH : Hid (StepsAt w (.slice ao ss.length cap) ss) := h
  have HL : Hid (∀ s ∈ ss, s.next.length ≤ 1048576) := hls
  clear ha hc h hls
  go_enter Tryz.func40, Tryz.ntmps40
  go_wp2_with fail
  have hb0 : Below w.heap.size w (((w.alloc (.cells #[.slice ao ss.length cap] 34)).alloc (.cells #[.int .i64 e.op, .int .i64 e.av, .int .i64 e.an, .int .i64 e.bv, .int .i64 e.bn] 38)).alloc (.cells #[.slice none 0 0, .slice none 0 0] 49)) := (((Below.refl _ _).alloc (Nat.le_refl _) _).alloc (by simp) _).alloc (by simp; omega) _
  have hbp := BoxP.new ((w.alloc (.cells #[.slice ao ss.length cap] 34)).alloc (.cells #[.int .i64 e.op, .int .i64 e.av, .int .i64 e.an, .int .i64 e.bv, .int .i64 e.bn] 38)) (.slice none 0 0) (.slice none 0 0) 49
  rw [show ((w.alloc (.cells #[.slice ao ss.length cap] 34)).alloc (.cells #[.int .i64 e.op, .int .i64 e.av, .int .i64 e.an, .int .i64 e.bv, .int .i64 e.bn] 38)).heap.size = w.heap.size + 1 + 1 by simp] at hbp
  generalize ((w.alloc (.cells #[.slice ao ss.length cap] 34)).alloc (.cells #[.int .i64 e.op, .int .i64 e.av, .int .i64 e.an, .int .i64 e.bv, .int .i64 e.bn] 38)).alloc (.cells #[.slice none 0 0, .slice none 0 0] 49) = W0 at *
  refine seenM_any IsBusy 79 (enters_of Tryz.func79 (by kernel_rfl) rfl) _ ss e _ (HH.out.keep hb0) hl HL.out (fun hok _ => busy_tells hok) fun v1 w1 hb1 hm1 => ?_
  have HB1 : Hid (Below w.heap.size w w1) := hb0.trans (hb1.mono hb0.size)
  have HP1 : Hid (BoxP w1 (w.heap.size + 1 + 1) (.slice none 0 0) (.slice none 0 0)) := hbp.keep hb1
  clear hb0 hbp hb1
  have key : ∀ (v2 : Value) (ps ts : List Bool) (w2 : World), Below w1.heap.size w1 w2 → PlOr IsBusy ss e ps ts → PlaceO w1.heap.size w2.heap.size w2 v2 ps ts → ∃ A1 a1 A2 a2, v2 = .agg #[.slice A1 ps.length a1, .slice A2 ts.length a2] ∧ w2.cell? ⟨w.heap.size + 1 + 1, 0, none⟩ = some (.slice none 0 0) ∧ w2.cell? ⟨w.heap.size + 1 + 1, 1, none⟩ = some (.slice none 0 0) ∧ w2.frozen? ⟨w.heap.size + 1 + 1, 0, none⟩ = false ∧ w2.frozen? ⟨w.heap.size + 1 + 1, 1, none⟩ = false ∧
      Hid (∀ u u', Q (.returned (.agg #[.slice A1 ps.length a1, .slice A2 ts.length a2])) ((w2.setCell ⟨w.heap.size + 1 + 1, 0, none⟩ u).setCell ⟨w.heap.size + 1 + 1, 1, none⟩ u')) := fun v2 ps ts w2 hb2 hpl hpo => by
    obtain ⟨A1, a1, A2, a2, e1⟩ := hpo.form
    subst e1
    have hp2 := HP1.out.keep hb2
    have hlt := HP1.out.lt
    refine ⟨A1, a1, A2, a2, rfl, hp2.c0, hp2.c1, hp2.f0, hp2.f1, fun u u' => ?_⟩
    have hbw : Below w.heap.size w w2 := HB1.out.trans (hb2.mono HB1.out.size)
    have hou : Out (w.heap.size + 1 + 1) (w.heap.size + 1 + 1 + 1) w2 ((w2.setCell ⟨w.heap.size + 1 + 1, 0, none⟩ u).setCell ⟨w.heap.size + 1 + 1, 1, none⟩ u') := ((Out.refl _ _ _).setCell (p := ⟨w.heap.size + 1 + 1, 0, none⟩) (Nat.le_refl _) (Nat.lt_succ_self _) _).setCell (p := ⟨w.heap.size + 1 + 1, 1, none⟩) (Nat.le_refl _) (Nat.lt_succ_self _) _
    exact HQ.out _ ps ts _ (hbw.trans (hou.below (by omega) hbw.size)) hpl (((hpo.out hou (Or.inr (by omega))).lower (by omega)).high hou.size)
  rcases hm1 with ⟨hok, hex, rs, f, t, B, hre, hp, rfl, hB, hr⟩ | ⟨hno, rfl⟩
  · have hn := (ok_len hok).2
    have HPL : Hid (PlOr IsBusy ss e ((List.range ss.length).map f) ((List.range ss.length).map t)) := Or.inl ⟨hok, hex, rs, f, t, hre, hp, rfl, rfl⟩
    have HR : Hid _ := hr
    clear hok hex hre hp hr
    go_wp2_with fail
    refine placeOf_any _ B ss.length f t HR.out hn fun v2 w2 hb2 hpo => ?_
    obtain ⟨A1, a1, A2, a2, e1, c0, c1, f0, f1, HF⟩ := key v2 _ _ w2 hb2 HPL.out hpo
    subst e1
    clear key hpo hb2
    go_wp2
    refine bodyPost_ret (v := .agg #[.slice A1 ((List.range ss.length).map f).length a1, .slice A2 ((List.range ss.length).map t).length a2]) (by simp [results, Tryz.results40, go_sem, c0, c1]) rfl ?_
    exact HF.out _ _
  · have HPL : Hid (PlOr IsBusy ss e [] []) := Or.inr ⟨hno, rfl, rfl⟩
    clear hno
    go_wp2_with fail
    refine placeOf_nil _ fun v2 w2 hb2 hpo => ?_
    obtain ⟨A1, a1, A2, a2, e1, c0, c1, f0, f1, HF⟩ := key v2 _ _ w2 hb2 HPL.out hpo
    subst e1
    clear key hpo hb2
    go_wp2
    refine bodyPost_ret (v := .agg #[.slice A1 0 a1, .slice A2 0 a2]) (by simp [results, Tryz.results40, go_sem, c0, c1]) rfl ?_
    exact HF.out _ _
end Go.Proofs.YtacgfbcfkjflmaaGreat
