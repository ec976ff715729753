/- A code of bytes that comes in: opened, kept, and handed to the model's reader. The model's DrawLoopFront: some program. Two rows of numbers that are the same: the laws' own small function. What the program's rowUp answers. What the program's FlowDoms answers. What the program's FlowPreds answers. For every code of bytes, of the program that is drawn from it, LoopFront tells of a step just where what it stands over ends, by what FlowDoms and FlowPreds tell, ascending; and it is as the model tells it: the law FnLoopFront answers true. The row lists one table of the library (laid), and the card ties it to the program's text: no other condition. What the model's LoopFront answers. What the program's LoopFront answers. -/
import Derived.Test.YtljlgffkhocgkaaDoorFront
import Derived.Test.YtljlgffkhocgkaaDoorNest
import Derived.Test.YtljlgffkhocgkaaDoorFrontP
import Derived.Test.YtljlgffkhocgkaaDoorSpecDoms
import Derived.Test.YtljlgffkhocgkaaDoorMatR
import Derived.Test.YtljlgffkhocgkaaDoorDrawA
import Derived.Test.YtljlgffkhocgkaaDoorDraw8
import Derived.Test.YtljlgffkhocgkaaDoorBase
import Derived.Test.YtljlgffkhocgkaaDoorChecked
import Derived.Test.YtljlgffkhocgkaaDoorWayUp
import Derived.Test.YtljlgffkhocgkaaDoorOnB
import Derived.Test.YtljlgffkhocgkaaDoorPredsOf
import Derived.Test.YtljlgffkhocgkaaDoorCards
import Derived.Test.YtljlgffkhocgkaaDoorTie
import Derived.ProofKit
import Derived.Deep.Slices
import Derived.Lib.SmallJoins
import Derived.Deep.QuietTactic
import Derived.BigQuiet
import Derived.OpenShut
import Derived.ShutString
import Derived.ChangeOld
import Derived.Below
import Derived.Deep.DeepHandedRow
import Derived.Lib.LaidTab
namespace Go.Proofs.YtljlgffkhocgkaaDoor
open Go.RowKit

set_option maxRecDepth 100000 in
set_option maxHeartbeats 4000000 in
theorem implLoopFront_any {Q : Ending → World → Prop} (v : Value) (ss : List St) (w : World) (h : StepsAt w v ss) (hT : Tab w) (hg : 0 < w.heap.size) (hl : ss.length ≤ 1048576) (hls : ∀ s ∈ ss, s.next.length ≤ 1048576)
    (hQ : ∀ v' zss w', Below w.heap.size w w' → FrontOr ss zss → RowsI w.heap.size w'.heap.size w' v' zss → Q (.returned v') w') :
    Calls Tryd.prog 17 #[.agg #[v]] w Q := by
  have HQ : Hid _ := hQ
  have HT : Hid (Tab w) := hT
  clear hQ hT
  obtain ⟨ao, b, o, cap, rfl, ha, hc⟩ := id h
  clear ha hc
  have HH : Hid (StepsAt w (.slice ao ss.length cap) ss) := h
  have HL : Hid _ := hls
  clear hls h
  have hb0 : ∀ O, Below w.heap.size w (w.alloc O) := fun O => (Below.refl _ _).alloc (Nat.le_refl _) O
  cases hok : okB ss
  · go_enter Tryd.func17, Tryd.ntmps17
    go_wp2_with fail
    refine implOk_any _ ss _ (HH.out.keep (hb0 _)) hl HL.out fun w1 hb1 => ?_
    rw [hok]
    have hbA : Below w.heap.size w w1 := (hb0 _).trans (hb1.mono (by simp))
    have HOK : Hid (okB ss = false) := hok
    clear hb1 hb0 hok
    go_wp2
    exact HQ.out _ [] _ hbA (Or.inr ⟨HOK.out, rfl⟩) (RowsI.nil (World.ownsRow_nil _ _ _ _) (by simp [Value.ownBlock]))
  · obtain ⟨hn1, hn2⟩ := ok_len hok
    obtain ⟨fr, hfr⟩ := FrontM.some ss
    have HFR : Hid (∀ i x, (fr i x = true ↔ IsFront ss i x)) := hfr
    clear hfr
    go_enter Tryd.func17, Tryd.ntmps17
    go_wp2_with fail
    refine implOk_any _ ss _ (HH.out.keep (hb0 _)) hl HL.out fun w1 hb1 => ?_
    rw [hok]
    have hbA : Below w.heap.size w w1 := (hb0 _).trans (hb1.mono (by simp))
    have q1 : w1.cell? ⟨w.heap.size, 0, none⟩ = some (.slice ao ss.length cap) := cell_keep hb1 (by simp [go_sem])
    have HOK : Hid (okB ss = true) := hok
    clear hb1 hb0 hok
    go_wp2_with fail
    refine nestOf_any _ ss _ (HH.out.keep hbA) HOK.out fun ag ug ah un w2 hb2 hA hU hl1 hl2 hah hun => ?_
    have HB2 : Hid (Below w.heap.size w w2) := hbA.trans (hb2.mono hbA.size)
    have HA2 : Hid (w2.rowIs ag 66 ss.length (fun j => bsV (ah j))) := hA
    have HU2 : Hid (w2.rowIs ug 66 ss.length (fun j => bsV (un j))) := hU
    have HAH : Hid _ := hah
    have HUN : Hid _ := hun
    have q2 := cell_keep hb2 q1
    have hzlt : w.heap.size < w2.heap.size := cell_lt q2
    have hsz := hbA.size
    clear hA hU hah hun hb2 hbA q1
    go_wp2_with (at_make; refine wpList_make_is _ rfl (.tmp 14) (.tmp 14) 45 rfl 55 (.slice none 0 0) 24 Tryd.underlying45 infoInts2 rfl .i64 .i64 ss.length rfl rfl (by omega) (by omega) ?_; intro w3 hrow3 hb3 hs3)
    have hb2' : Below w2.heap.size w2 (w2.alloc (.cells #[.slice (some ⟨ag, 0, none⟩) ss.length ss.length, .slice (some ⟨ug, 0, none⟩) ss.length ss.length] 76)) := (Below.refl _ _).alloc (Nat.le_refl _) _
    have hb23 : Below w2.heap.size w2 w3 := hb2'.trans (hb3.mono (by simp))
    have n3 : w3.cell? ⟨w2.heap.size, 0, none⟩ = some (.slice (some ⟨ag, 0, none⟩) ss.length ss.length) := cell_keep hb3 (by simp [go_sem])
    have n4 : w3.cell? ⟨w2.heap.size, 1, none⟩ = some (.slice (some ⟨ug, 0, none⟩) ss.length ss.length) := cell_keep hb3 (by simp [go_sem])
    rw [World.size_alloc] at hrow3 hs3
    have HR3 : Hid (w3.rowIs (w2.heap.size + 1) 55 ss.length (fun _ => .slice none 0 0)) := hrow3
    have HB3 : Hid (Below w2.heap.size w2 w3) := hb23
    clear hrow3 hb3 hb23 hb2' q2
    go_loopw [18] (fun i wr => ∃ (k : Nat) (pv : Nat → Value), k ≤ ss.length ∧ i = .int .i64 k ∧ Out (w2.heap.size + 1) (w2.heap.size + 2) w3 wr ∧ wr.rowIs (w2.heap.size + 1) 55 ss.length pv ∧ (∀ j, j < k → wr.ownsRow w3.heap.size 3 1 (pv j) (frK fr j ss.length).length ((frK fr j ss.length).map (Value.int .i64))) ∧ ∀ i j q, i < k → j < k → i ≠ j → (pv i).ownBlock = some q → (pv j).ownBlock ≠ some q) (fun i _ => ss.length - (intOf i).toNat)
    case atStart => exact ⟨0, _, Nat.zero_le _, rfl, Out.refl _ _ _, HR3.out, fun j hj => by omega, fun i j q hi => by omega⟩
    case round =>
      obtain ⟨k, pv, hk, rfl, hO, hrow, hpv, hap⟩ := hrel
      have HO : Hid (Out (w2.heap.size + 1) (w2.heap.size + 2) w3 wr) := hO
      have HROW : Hid (wr.rowIs (w2.heap.size + 1) 55 ss.length pv) := hrow
      have HPV : Hid (∀ j, j < k → wr.ownsRow w3.heap.size 3 1 (pv j) (frK fr j ss.length).length ((frK fr j ss.length).map (Value.int .i64))) := hpv
      have HAP : Hid (∀ i j q, i < k → j < k → i ≠ j → (pv i).ownBlock = some q → (pv j).ownBlock ≠ some q) := hap
      have n5 := hO.cell n3 (Or.inl (by show w2.heap.size < w2.heap.size + 1; omega))
      have n6 := hO.cell n4 (Or.inl (by show w2.heap.size < w2.heap.size + 1; omega))
      have hb2r : Below w2.heap.size w2 wr := HB3.out.trans (hO.below (by omega) (by omega))
      have hszr : w3.heap.size ≤ wr.heap.size := hO.size
      have HBF : Hid (Below w.heap.size w wr) := HB2.out.trans (hb2r.mono HB2.out.size)
      clear hO hrow hpv hap
      by_cases hkn : k < ss.length
      · have hki : (k : Int) < (ss.length : Int) := by omega
        have HAr : Hid (wr.rowIs ag 66 ss.length (fun j => bsV (ah j))) := rowIs_keep HA2.out hb2r
        have HUr : Hid (wr.rowIs ug 66 ss.length (fun j => bsV (un j))) := rowIs_keep HU2.out hb2r
        clear hb2r
        go_wp2_with fail
        refine front_any HOK.out ag ug k ah un _ hkn HAr.out HUr.out HAH.out HUN.out fun F w5 hb5 hF => ?_
        have HF : Hid (∀ x, x < 64 → (F.getLsbD x = true ↔ (x < ss.length ∧ IsFront ss k x))) := hF
        have HB5 : Hid (Below w.heap.size w w5) := HBF.out.trans (hb5.mono HBF.out.size)
        have HR5 : Hid (w5.rowIs (w2.heap.size + 1) 55 ss.length pv) := rowIs_keep HROW.out hb5
        have HO5 : Hid (Out (w2.heap.size + 1) (w2.heap.size + 2) w3 w5) := HO.out.trans (Out.of_below hb5)
        have HPV5 : Hid (∀ j, j < k → w5.ownsRow w3.heap.size 3 1 (pv j) (frK fr j ss.length).length ((frK fr j ss.length).map (Value.int .i64))) := fun j hj => ownsRow_out (HPV.out j hj) (Out.of_below (lo := 0) (hi := 0) hb5) (fun _ _ => Or.inr (Nat.zero_le _))
        have hs5 := hb5.size
        clear hb5 hF n5 n6
        go_wp2_with fail
        refine list_any ss.length (by omega) F (fun j hj h => ((HF.out j hj).1 h).1) _ (HT.out.keep HB5.out) (by have := HB5.out.size; omega) fun v6 w6 hb6 hown6 => ?_
        have hfe : (List.range ss.length).filter (fun j => F.getLsbD j) = (List.range ss.length).filter (fr k) := by
          apply List.filter_congr
          intro x hx
          have hx' : x < ss.length := by simpa using hx
          have e1 := HF.out x (by omega)
          have e2 := HFR.out k x
          cases e3 : F.getLsbD x <;> cases e4 : fr k x <;> simp_all
        rw [hfe] at hown6
        have HOWN6 : Hid (w6.ownsRow w5.heap.size 3 1 v6 (frK fr k ss.length).length ((frK fr k ss.length).map (Value.int .i64))) := by
          unfold frK
          rw [Hid, List.length_map, List.map_map]
          exact hown6
        have HR6 : Hid (w6.rowIs (w2.heap.size + 1) 55 ss.length pv) := rowIs_keep HR5.out hb6
        have HO6 : Hid (Out (w2.heap.size + 1) (w2.heap.size + 2) w3 w6) := HO5.out.trans (Out.of_below hb6)
        have HPV6 : Hid (∀ j, j < k → w6.ownsRow w3.heap.size 3 1 (pv j) (frK fr j ss.length).length ((frK fr j ss.length).map (Value.int .i64)) ∧ ∀ q, (pv j).ownBlock = some q → q < w5.heap.size) := fun j hj => ⟨ownsRow_out (HPV5.out j hj) (Out.of_below (lo := 0) (hi := 0) hb6) (fun _ _ => Or.inr (Nat.zero_le _)), fun q hq => ((HPV5.out j hj).lt q hq).2⟩
        have c6 := HR6.out.cell hkn
        have f6 := HR6.out.frozen k
        obtain ⟨A6, m6, cc6, hv6⟩ : ∃ A n c, v6 = .slice A n c := by
          rcases hown6.2 with ⟨e, _⟩ | ⟨g', c, _, e, _⟩
          · exact ⟨_, _, _, e⟩
          · exact ⟨_, _, _, e⟩
        subst hv6
        clear hown6 hb6 hfe
        go_wp2
        go_roundw
        case rel =>
          have hs6 := HO6.out.size
          refine ⟨k + 1, fun j => if j = k then .slice A6 m6 cc6 else pv j, by omega, by go_num, HO6.out.setCell (p := ⟨w2.heap.size + 1, k, none⟩) (Nat.le_refl _) (by show w2.heap.size + 1 < w2.heap.size + 2; omega) _, (HR6.out.set k _).congr (fun j hj => by by_cases e : j = k <;> simp [e]), fun j hj => ?_, fun i j q hi hj hij => ?_⟩
          · have hlow : ∀ {v : Value} {m : Nat} {xs : List Value}, w6.ownsRow w3.heap.size 3 1 v m xs → (w6.setCell ⟨w2.heap.size + 1, k, none⟩ (.slice A6 m6 cc6)).ownsRow w3.heap.size 3 1 v m xs := fun h => ownsRow_setCell_below h (by show w2.heap.size + 1 < w3.heap.size; omega) _
            by_cases e : j = k
            · subst e
              simp only [if_true]
              exact hlow (own_lower HOWN6.out (by omega))
            · simp only [if_neg e]
              exact hlow (HPV6.out j (by omega)).1
          · by_cases e1 : i = k <;> by_cases e2 : j = k
            · omega
            · simp only [if_pos e1, if_neg e2]
              intro hq hq2
              have h5 := (HOWN6.out.lt q hq).1
              have h6 := (HPV6.out j (by omega)).2 q hq2
              omega
            · simp only [if_neg e1, if_pos e2]
              intro hq hq2
              have h5 := (HOWN6.out.lt q hq2).1
              have h6 := (HPV6.out i (by omega)).2 q hq
              omega
            · simp only [if_neg e1, if_neg e2]
              exact HAP.out i j q (by omega) (by omega) hij
        case measure => simp [intOf]; omega
      · have hki : ¬ (k : Int) < (ss.length : Int) := by omega
        obtain rfl : k = ss.length := by omega
        clear hb2r
        go_wp2
        refine HQ.out _ (frL ss.length fr) _ HBF.out (Or.inl ⟨HOK.out, fr, fun i x _ _ => HFR.out i x, rfl⟩) ⟨(List.range ss.length).map pv, by simp [frL], ?_, fun q hq => ?_, fun i x zs hx hz => ?_, fun i j x y q hx hy hij hq => ?_⟩
        · have := rowIs_own HROW.out (Nat.le_of_lt (Nat.lt_of_lt_of_le hzlt (Nat.le_succ _))) (by omega)
          simpa [frL] using this
        · simp [Value.ownBlock] at hq
          subst hq
          exact HROW.out.lt
        · have l := (List.getElem?_eq_some_iff.1 hx).1
          simp at l
          simp [frL, l] at hx hz
          subst hx
          subst hz
          have := HPV.out i l
          exact ⟨own_lower this (by omega), fun q hq => (this.lt q hq).2⟩
        · have l := (List.getElem?_eq_some_iff.1 hx).1
          have l2 := (List.getElem?_eq_some_iff.1 hy).1
          simp at l l2
          simp [l] at hx
          simp [l2] at hy
          subst hx
          subst hy
          exact HAP.out i j q l l2 hij hq
end Go.Proofs.YtljlgffkhocgkaaDoor
namespace Go.Proofs.YtljlgffkhocgkaaDoor
open Go.RowKit

set_option maxRecDepth 100000 in
set_option maxHeartbeats 4000000 in
theorem specLoopFront_any {Q : Ending → World → Prop} (v : Value) (ss : List St) (w : World) (h : StepsAt w v ss) (hl : ss.length ≤ 1048576) (hls : ∀ s ∈ ss, s.next.length ≤ 1048576)
    (hQ : ∀ v' zss w', Below w.heap.size w w' → FrontOr ss zss → RowsI w.heap.size w'.heap.size w' v' zss → Q (.returned v') w') :
    Calls Tryd.prog 16 #[.agg #[v]] w Q := by
  have HQ : Hid _ := hQ
  clear hQ
  obtain ⟨ao, b, o, cap, rfl, ha, hc⟩ := id h
  clear ha hc
  have HH : Hid (StepsAt w (.slice ao ss.length cap) ss) := h
  have HL : Hid _ := hls
  clear hls h
  obtain ⟨i0, hi, hz0, hz1, hz2⟩ := info_parts infoInt2
  obtain ⟨i1, hj, hy0, hy1, hy2⟩ := info_parts infoInts2
  have hb0 : ∀ O O', Below w.heap.size w ((w.alloc O).alloc O') := fun O O' => ((Below.refl _ _).alloc (Nat.le_refl _) O).alloc (by simp) O'
  go_enter Tryd.func16, Tryd.ntmps16
  go_wp2_with fail
  have e0 := fun c : Array Value => World.ownsRow_lit (base := w.heap.size + 1) (e := 55) (size := 1) (w.alloc (.cells c 34)) #[] 0 (by simp) (by decide) (by simp)
  refine specDoms_any _ ss _ (HH.out.keep (hb0 _ _)) hl HL.out fun v2 zss w2 hb2 hzs hown2 => ?_
  have hbB : Below w.heap.size w w2 := (hb0 _ _).trans (hb2.mono (by simp; omega))
  have q2 : w2.cell? ⟨w.heap.size, 0, none⟩ = some (.slice ao ss.length cap) := cell_keep hb2 (by simp [go_sem])
  have e2 : w2.ownsRow (w.heap.size + 1) 55 1 (.slice (some ⟨w.heap.size + 1, 0, none⟩) 0 0) 0 [] := by
    have h1 := ownsRow_out (e0 _) (Out.of_below (lo := 0) (hi := 0) hb2) (fun _ _ => Or.inr (Nat.zero_le _))
    simpa using h1
  have HB2 : Hid (Below w.heap.size w w2) := hbB
  have HE2 : Hid (w2.ownsRow (w.heap.size + 1) 55 1 (.slice (some ⟨w.heap.size + 1, 0, none⟩) 0 0) 0 []) := e2
  have hsz2 := (e2.lt _ rfl).2
  have HO2 : Hid (RowsB ((w.alloc (.cells #[.slice ao ss.length cap] 34)).alloc (.cells #[] 55)).heap.size w2.heap.size w2 v2 zss) := hown2
  obtain ⟨A2, c2, hv2⟩ := hown2.slice
  subst hv2
  have HZS : Hid (DomsOr ss zss) := hzs
  clear hb2 hb0 e0 hbB e2 hown2 hzs
  go_wp2_with fail
  refine specPreds_any _ ss _ (HH.out.keep HB2.out) hl HL.out fun v3 pss w3 hb3 hps hown3 => ?_
  have HB3 : Hid (Below w.heap.size w w3) := HB2.out.trans (hb3.mono HB2.out.size)
  have HE3 : Hid (w3.ownsRow (w.heap.size + 1) 55 1 (.slice (some ⟨w.heap.size + 1, 0, none⟩) 0 0) 0 []) := ownsRow_out HE2.out (Out.of_below (lo := 0) (hi := 0) hb3) (fun _ _ => Or.inr (Nat.zero_le _))
  have hsz3 : w2.heap.size ≤ w3.heap.size := hb3.size
  rcases HZS.out with ⟨hok, m, hdm, rfl⟩ | ⟨hok, rfl⟩
  · obtain ⟨rs, hrs, rfl⟩ : ∃ rs, IsReach ss rs ∧ pss = predsL ss rs := by
      rcases hps with ⟨_, rs, h1, h2⟩ | ⟨h, _⟩
      · exact ⟨rs, h1, h2⟩
      · rw [hok] at h; cases h
    obtain ⟨hn1, hn2⟩ := ok_len hok
    have HOK : Hid (okB ss = true) := hok
    have HDM : Hid (DomsM ss m) := hdm
    have HRS : Hid (IsReach ss rs) := hrs
    have hml : (matL ss.length m).length = ss.length := matL_len _ _
    have h23 := HO2.out.keep hb3
    obtain ⟨g, gcap, gs, cs, hgv, hmr, hgl0⟩ := MatR.ofLow h23 hn1
    rw [hml] at hgv
    simp only [Value.slice.injEq, true_and] at hgv
    obtain ⟨rfl, rfl⟩ := hgv
    rw [hml]
    have HGL : Hid (w.heap.size + 2 ≤ g ∧ ∀ i, i < ss.length → w.heap.size + 2 ≤ gs i) := by rw [Hid]; simpa using hgl0
    have HMR : Hid (MatR w3 g ss.length gs cs m) := hmr
    have HR3 : Hid (RowsI w2.heap.size w3.heap.size w3 v3 (predsL ss rs)) := hown3
    obtain ⟨pao, pg, pcap, hpv, hpr⟩ := hown3.read
    rw [show (predsL ss rs).length = ss.length by simp [predsL]] at hpv
    subst hpv
    have HPW : Hid (∀ (i : Nat), i < ss.length → ∃ A pb c, pao = some ⟨pg, 0, none⟩ ∧ (0 < (predsK ss rs i ss.length).length → A = some ⟨pb, 0, none⟩) ∧ ∀ wx : World, Out (w.heap.size + 1) (w.heap.size + 2) w3 wx → wx.cell? ⟨pg, i, none⟩ = some (.slice A (predsK ss rs i ss.length).length c) ∧ ∀ t, t < (predsK ss rs i ss.length).length → wx.cell? ⟨pb, t, none⟩ = some (.int .i64 ((predsK ss rs i ss.length).getD t 0))) := by
      intro i hi
      obtain ⟨x, A, c, h1, h2, h3, h4⟩ := hpr i (predsK ss rs i ss.length) (by simp [predsL, hi])
      subst h3
      have hpg : w.heap.size + 2 ≤ pg := by
        obtain ⟨vs, _, h5, _⟩ := hown3
        subst h1
        have := (h5.lt pg rfl).1
        omega
      obtain ⟨A', pb, c', e, e2⟩ := h4.read
      cases e
      refine ⟨A, pb, c, h1, fun hp => (e2 0 hp).1, fun wx hbx => ⟨hbx.cell h2 (Or.inr hpg), fun t ht => ?_⟩⟩
      obtain ⟨_, e3, _, e5, _⟩ := e2 t ht
      exact hbx.cell e3 (Or.inr (by show w.heap.size + 2 ≤ pb; omega))
    obtain ⟨fr, hfr⟩ := FrontM.some ss
    have HFR : Hid (∀ i x, (fr i x = true ↔ IsFront ss i x)) := hfr
    have HE4 : Hid (RowsI (w.heap.size + 1) w3.heap.size w3 (.slice (some ⟨w.heap.size + 1, 0, none⟩) 0 0) []) := RowsI.nil HE3.out (fun k hk => (HE3.out.lt k hk).2)
    clear hfr
    clear hok hdm hrs hmr hown3 hpr hps h23 hgl0 hml HO2 HZS hb3 q2 HE2
    go_wp2_with fail
    go_loopw [3, 6] (fun ov i wr => ∃ k : Nat, k ≤ ss.length ∧ i = .int .i64 k ∧ RowsI (w.heap.size + 1) wr.heap.size wr ov ((List.range k).map (fun j => frK fr j ss.length)) ∧ Out (w.heap.size + 1) (w.heap.size + 2) w3 wr ∧ ∀ q, ov.ownBlock = some q → q = w.heap.size + 1 ∨ w3.heap.size ≤ q) (fun _ i _ => ss.length - (intOf i).toNat)
    case atStart => exact ⟨0, Nat.zero_le _, rfl, HE4.out, Out.refl _ _ _, fun q hq => by simp [Value.ownBlock] at hq; omega⟩
    case round =>
      obtain ⟨k, hk, rfl, hR, hO, hov⟩ := hrel
      have HR : Hid (RowsI (w.heap.size + 1) wr.heap.size wr u3 ((List.range k).map (fun j => frK fr j ss.length))) := hR
      have HO : Hid (Out (w.heap.size + 1) (w.heap.size + 2) w3 wr) := hO
      have HOV : Hid (∀ q, u3.ownBlock = some q → q = w.heap.size + 1 ∨ w3.heap.size ≤ q) := hov
      have hsz : w3.heap.size ≤ wr.heap.size := hO.size
      clear hov
      by_cases hkn : k < ss.length
      · have hki : (k : Int) < (ss.length : Int) := by omega
        obtain ⟨vs, h1, h2, h3, h4, h5⟩ := hR
        have HV2 : Hid _ := h2
        have HV4 : Hid _ := h4
        have HV5 : Hid _ := h5
        rw [List.length_map, List.length_range] at h1
        clear h2 h3 h4 h5 hO
        go_wp2
        have hb5 : ∀ O, Below wr.heap.size wr (wr.alloc O) := fun O => (Below.refl _ _).alloc (Nat.le_refl _) O
        have hl5 : (wr.alloc (.cells #[] 3)).ownsRow wr.heap.size 3 1 (.slice (some ⟨wr.heap.size, 0, none⟩) 0 0) 0 [] := World.ownsRow_lit _ #[] 0 (Nat.le_refl _) (by decide) (by simp)
        have HB5 : Hid _ := hb5
        have HL5 : Hid _ := hl5
        clear hb5 hl5
        generalize wr = W5 at *
        go_loopw [7, 8] (fun lv kk wr2 => ∃ t : Nat, t ≤ ss.length ∧ kk = .int .i64 t ∧ Below W5.heap.size W5 wr2 ∧ W5.heap.size < wr2.heap.size ∧ wr2.ownsRow W5.heap.size 3 1 lv (frK fr k t).length ((frK fr k t).map (Value.int .i64))) (fun _ kk _ => ss.length - (intOf kk).toNat)
        case atStart => exact ⟨0, Nat.zero_le _, rfl, HB5.out _, by simp, by rw [frK_zero]; exact HL5.out⟩
        case round =>
          obtain ⟨t, ht, rfl, hb6, hs6, hl6⟩ := hrel
          have HB6 : Hid (Below W5.heap.size W5 wr) := hb6
          have HL6 : Hid (wr.ownsRow W5.heap.size 3 1 u7 (frK fr k t).length ((frK fr k t).map (Value.int .i64))) := hl6
          have HO6 : Hid (Out (w.heap.size + 1) (w.heap.size + 2) w3 wr) := HO.out.trans (Out.of_below hb6)
          have HMW : Hid (MatR wr g ss.length gs cs m) := ⟨fun i hi => HO6.out.cell (HMR.out.row i hi) (Or.inr (HGL.out.1)), fun i j hi hj => HO6.out.cell (HMR.out.cell i j hi hj) (Or.inr (HGL.out.2 i hi))⟩
          have hpl := frK_len fr k t
          by_cases htl : t < ss.length
          · have hti : (t : Int) < (ss.length : Int) := by omega
            obtain ⟨A, pb, pc, rfl, hA, hps⟩ := HPW.out t htl
            obtain ⟨cp, hpc⟩ := hps wr HO6.out
            have HA : Hid (0 < (predsK ss rs t ss.length).length → A = some ⟨pb, 0, none⟩) := hA
            have HPC : Hid (∀ x, x < (predsK ss rs t ss.length).length → wr.cell? ⟨pb, x, none⟩ = some (.int .i64 ((predsK ss rs t ss.length).getD x 0))) := hpc
            have hppl := predsK_len ss rs t ss.length
            have HSUC : Hid (frK fr k (t + 1) = frK fr k t ++ if fr k t = true then [(t : Int)] else []) := frK_succ fr k t
            have r2 := HMW.out.row t htl
            have e2 := HMW.out.cell t k htl hkn
            have HD2 : Hid (m t k = true ↔ Dom ss k t) := HDM.out t k htl hkn
            clear hb6 hl6 hA hps hpc
            go_wp2_with fail
            go_loop [9, 10] (fun bb kk => ∃ (u : Nat) (x : Bool), u ≤ (predsK ss rs t ss.length).length ∧ kk = .int .i64 u ∧ bb = .bool x ∧ (x = true ↔ ∃ (j p : Nat), j < u ∧ (predsK ss rs t ss.length).getD j 0 = (p : Int) ∧ Dom ss k p)) (fun _ kk => (predsK ss rs t ss.length).length - (intOf kk).toNat)
            case atStart => exact ⟨0, false, Nat.zero_le _, rfl, rfl, by simp⟩
            case round =>
              obtain ⟨u, x, hu, rfl, rfl, hx⟩ := hrel
              have HX : Hid (x = true ↔ ∃ (j p : Nat), j < u ∧ (predsK ss rs t ss.length).getD j 0 = (p : Int) ∧ Dom ss k p) := hx
              clear hx
              by_cases hul : u < (predsK ss rs t ss.length).length
              · have hui : (u : Int) < ((predsK ss rs t ss.length).length : Int) := by omega
                obtain ⟨p, hp, hpn⟩ := predsK_nat hul
                obtain rfl := HA.out (by omega)
                have ct := HPC.out u hul
                rw [hp] at ct
                have HP : Hid ((predsK ss rs t ss.length).getD u 0 = (p : Int)) := hp
                have hpi : (p : Int) < (ss.length : Int) := by omega
                have r1 := HMW.out.row p hpn
                have e1 := HMW.out.cell p k hpn hkn
                have HD1 : Hid (m p k = true ↔ Dom ss k p) := HDM.out p k hpn hkn
                have HNEW : Hid (∀ y : Bool, (y = true ↔ (x = true ∨ Dom ss k p)) → (y = true ↔ ∃ (j p : Nat), j < u + 1 ∧ (predsK ss rs t ss.length).getD j 0 = (p : Int) ∧ Dom ss k p)) := by
                  intro y hy
                  rw [hy, HX.out]
                  constructor
                  · rintro (⟨j, q, h1, h2, h3⟩ | h)
                    · exact ⟨j, q, by omega, h2, h3⟩
                    · exact ⟨u, p, by omega, HP.out, h⟩
                  · rintro ⟨j, q, h1, h2, h3⟩
                    by_cases e : j = u
                    · subst e
                      rw [HP.out] at h2
                      have : p = q := by omega
                      subst this
                      exact Or.inr h3
                    · exact Or.inl ⟨j, q, by omega, h2, h3⟩
                clear hp
                cases x
                · cases h1 : m p k
                  · rw [h1] at e1
                    have HN : Hid _ := HNEW.out false (by simp only [Bool.false_eq_true, false_or, false_iff]; intro hd; have := HD1.out.2 hd; rw [h1] at this; cases this)
                    clear h1
                    go_wp2
                    go_round
                    case rel => exact ⟨u + 1, false, by omega, by go_num, rfl, HN.out⟩
                    case measure => simp [intOf]; omega
                  · rw [h1] at e1
                    have HN : Hid _ := HNEW.out true (by simp [HD1.out.1 h1])
                    clear h1
                    go_wp2
                    go_round
                    case rel => exact ⟨u + 1, true, by omega, by go_num, rfl, HN.out⟩
                    case measure => simp [intOf]; omega
                · have HN : Hid _ := HNEW.out true (by simp)
                  go_wp2
                  go_round
                  case rel => exact ⟨u + 1, true, by omega, by go_num, rfl, HN.out⟩
                  case measure => simp [intOf]; omega
              · have hui : ¬ (u : Int) < ((predsK ss rs t ss.length).length : Int) := by omega
                obtain rfl : u = (predsK ss rs t ss.length).length := by omega
                have HSOME : Hid (x = true ↔ ∃ p, Reaches ss p ∧ Edge ss p t ∧ Dom ss k p) := by
                  rw [Hid, HX.out]
                  constructor
                  · rintro ⟨j, p, h1, h2, h3⟩
                    have h4 : (p : Int) ∈ predsK ss rs t ss.length := by rw [← h2]; exact mem_of_getD h1
                    have h5 := (mem_predsK HRS.out).1 h4
                    exact ⟨p, h5.2.1, h5.2.2, h3⟩
                  · rintro ⟨p, h1, h2, h3⟩
                    obtain ⟨j, hj, e⟩ := mem_getD' ((mem_predsK HRS.out).2 ⟨reach_lt HOK.out h1, h1, h2⟩)
                    exact ⟨j, p, hj, e, h3⟩
                have HNO : Hid (¬ IsFront ss k t → frK fr k (t + 1) = frK fr k t) := fun h => by
                  rw [HSUC.out, if_neg (fun e => h ((HFR.out k t).1 e)), List.append_nil]
                have HYES : Hid (IsFront ss k t → frK fr k (t + 1) = frK fr k t ++ [(t : Int)]) := fun h => by
                  rw [HSUC.out, if_pos ((HFR.out k t).2 h)]
                cases x
                · have HE : Hid (frK fr k (t + 1) = frK fr k t) := HNO.out fun h => by have := HSOME.out.2 h.1; cases this
                  go_wp2
                  go_roundw
                  case rel => exact ⟨t + 1, by omega, by go_num, HB6.out, hs6, by rw [HE.out]; exact HL6.out⟩
                  case measure => simp [intOf]; omega
                · have HEX : Hid (∃ p, Reaches ss p ∧ Edge ss p t ∧ Dom ss k p) := HSOME.out.1 rfl
                  by_cases htk : t = k
                  · subst htk
                    have HE : Hid (frK fr t (t + 1) = frK fr t t ++ [(t : Int)]) := HYES.out ⟨HEX.out, Or.inl rfl⟩
                    go_wp2_with (at_builtin; refine wpList_append_own _ rfl _ _ 55 rfl W5.heap.size 3 i0 (.int .i64 0) 1 8 Tryd.underlying55 hi hz0 hz1 hz2 rfl (by decide) u7 (frK fr t t).length ((frK fr t t).map (Value.int .i64)) rfl (HL6.out.alloc _) ⟨wr.heap.size, 0, none⟩ 1 1 [.int .i64 (t : Int)] rfl rfl (cell_one_new wr _ _) (int_oneCell _ _) (by unfold maxLen; omega) (by omega) (by simp; omega) ?_; intro v8 w8 hown8 hgrow8 _)
                    have HB8 : Hid (Below W5.heap.size W5 w8) := (HB6.out.alloc (by omega) _).grown hgrow8 (by simp; omega) (fun q hq => (HL6.out.lt q hq).1)
                    have hs8 : W5.heap.size < w8.heap.size := Nat.lt_of_lt_of_le hs6 (Nat.le_trans (by simp) hgrow8.size)
                    have HO8 : Hid (w8.ownsRow W5.heap.size 3 1 v8 (frK fr t (t + 1)).length ((frK fr t (t + 1)).map (Value.int .i64))) := by
                      have e := HE.out
                      rw [Hid, e]
                      simpa using hown8
                    clear hown8 hgrow8
                    go_wp2
                    go_roundw
                    case rel => exact ⟨t + 1, by omega, by go_num, HB8.out, hs8, HO8.out⟩
                    case measure => simp [intOf]; omega
                  · have htkb : ((t : Int) == (k : Int)) = false := by rw [beq_eq_false_iff_ne]; omega
                    cases hmt : m t k
                    · rw [hmt] at e2
                      have HE : Hid (frK fr k (t + 1) = frK fr k t ++ [(t : Int)]) := HYES.out ⟨HEX.out, Or.inr fun hd => by have := HD2.out.2 hd; rw [hmt] at this; cases this⟩
                      clear hmt
                      go_wp2_with (at_builtin; refine wpList_append_own _ rfl _ _ 55 rfl W5.heap.size 3 i0 (.int .i64 0) 1 8 Tryd.underlying55 hi hz0 hz1 hz2 rfl (by decide) u7 (frK fr k t).length ((frK fr k t).map (Value.int .i64)) rfl (HL6.out.alloc _) ⟨wr.heap.size, 0, none⟩ 1 1 [.int .i64 (t : Int)] rfl rfl (cell_one_new wr _ _) (int_oneCell _ _) (by unfold maxLen; omega) (by omega) (by simp; omega) ?_; intro v8 w8 hown8 hgrow8 _)
                      have HB8 : Hid (Below W5.heap.size W5 w8) := (HB6.out.alloc (by omega) _).grown hgrow8 (by simp; omega) (fun q hq => (HL6.out.lt q hq).1)
                      have hs8 : W5.heap.size < w8.heap.size := Nat.lt_of_lt_of_le hs6 (Nat.le_trans (by simp) hgrow8.size)
                      have HO8 : Hid (w8.ownsRow W5.heap.size 3 1 v8 (frK fr k (t + 1)).length ((frK fr k (t + 1)).map (Value.int .i64))) := by
                        have e := HE.out
                        rw [Hid, e]
                        simpa using hown8
                      clear hown8 hgrow8
                      go_wp2
                      go_roundw
                      case rel => exact ⟨t + 1, by omega, by go_num, HB8.out, hs8, HO8.out⟩
                      case measure => simp [intOf]; omega
                    · rw [hmt] at e2
                      have HE : Hid (frK fr k (t + 1) = frK fr k t) := HNO.out fun h => by
                        rcases h.2 with e | e
                        · exact htk e
                        · exact e (HD2.out.1 hmt)
                      clear hmt
                      go_wp2
                      go_roundw
                      case rel => exact ⟨t + 1, by omega, by go_num, HB6.out, hs6, by rw [HE.out]; exact HL6.out⟩
                      case measure => simp [intOf]; omega
          · have hti : ¬ (t : Int) < (ss.length : Int) := by omega
            obtain rfl : t = ss.length := by omega
            have HVr : Hid (wr.ownsRow (w.heap.size + 1) 55 1 u3 k vs) := by
              have := ownsRow_out HV2.out (Out.of_below (lo := 0) (hi := 0) hb6) (fun _ _ => Or.inr (Nat.zero_le _))
              rwa [List.length_map, List.length_range] at this
            obtain ⟨A6, n6, c6, hv6⟩ : ∃ A n c, u7 = .slice A n c := by
              rcases hl6.2 with ⟨e, _⟩ | ⟨g', c, _, e, _⟩
              · exact ⟨_, _, _, e⟩
              · exact ⟨_, _, _, e⟩
            subst hv6
            clear hb6 hl6
            go_wp2_with (at_builtin; refine wpList_append_lies _ rfl _ _ 45 rfl (w.heap.size + 1) 55 i1 (.slice none 0 0) 1 24 Tryd.underlying45 hj hy0 hy1 hy2 rfl (by decide) u3 k vs rfl (HVr.out.alloc _) ⟨wr.heap.size, 0, none⟩ 1 1 [.slice A6 n6 c6] rfl rfl (cell_one_new wr _ _) (slice_int_one _ _ _) (by decide) (by unfold maxLen; omega) (by omega) (by simp; omega) (wr.heap.size + 1) (by simp) ?_; intro g8 cap8 w8 hown8 hgrow8 hat8 hlt8)
            have hs8 : wr.heap.size + 1 ≤ w8.heap.size := Nat.le_trans (by simp) hgrow8.size
            have HRN : Hid (RowsI (w.heap.size + 1) w8.heap.size w8 (.slice (some ⟨g8, 0, none⟩) (k + 1) cap8) ((List.range (k + 1)).map (fun j => frK fr j ss.length))) := by
              have hgen := RowsI.snoc (lo := w.heap.size + 1) (hi := W5.heap.size) (s := W5.heap.size) (W := wr.alloc (.cells #[.slice A6 n6 c6] 55)) (w' := w8) (v := u3) (v' := .slice (some ⟨g8, 0, none⟩) (k + 1) cap8) (x := .slice A6 n6 c6) (zss := (List.range k).map (fun j => frK fr j ss.length)) (zs := frK fr k ss.length) (vs := vs) (by simp [h1]) (by simpa using HVr.out.alloc _) (fun i y zs hy hz => ((HV4.out i y zs hy hz).keep HB6.out).keep ((Below.refl _ _).alloc (Nat.le_refl _) _)) HV5.out (HL6.out.alloc _) (Nat.le_refl _) (by omega) hgrow8 (by simpa using hown8)
              rw [Hid, List.range_succ, List.map_append]
              exact hgen
            have HOutN : Hid (Out (w.heap.size + 1) (w.heap.size + 2) w3 w8) := by
              refine ⟨hgrow8.os.trans (HB6.out.os.trans HO.out.os), hgrow8.tape.trans (HB6.out.tape.trans HO.out.tape), hgrow8.output.trans (HB6.out.output.trans HO.out.output), by omega, fun q hq hr => ?_⟩
              have h7 : (wr.alloc (.cells #[.slice A6 n6 c6] 55)).heap[q]? = wr.heap[q]? := Below.heap_alloc _ _ _ (by omega)
              refine ((hgrow8.block q (by simp; omega) (fun e => ?_)).trans h7).trans ((HB6.out.block q (by omega)).trans (HO.out.block q hq hr))
              have := HOV.out q e.symm
              omega
            have HOVN : Hid (∀ q, (Value.slice (some ⟨g8, 0, none⟩) (k + 1) cap8).ownBlock = some q → q = w.heap.size + 1 ∨ w3.heap.size ≤ q) := by
              intro q hq
              simp [Value.ownBlock] at hq
              subst hq
              rcases hat8 with e | e
              · exact HOV.out _ e
              · omega
            clear hown8 hgrow8 hat8
            go_wp2
            go_roundw
            case rel => exact ⟨k + 1, by omega, by go_num, HRN.out, HOutN.out, HOVN.out⟩
            case measure => simp [intOf]; omega
      · have hki : ¬ (k : Int) < (ss.length : Int) := by omega
        obtain rfl : k = ss.length := by omega
        clear hR hO
        go_wp2
        exact HQ.out _ _ _ (HB3.out.trans (HO.out.below (by omega) (by omega))) (Or.inl ⟨HOK.out, fr, fun i x _ _ => HFR.out i x, rfl⟩) (HR.out.lower (by omega))
  · obtain ⟨A3, c3, hv3⟩ := hown3.slice
    subst hv3
    have HOK : Hid (okB ss = false) := hok
    clear hown3 hok hps hb3 HO2 HZS q2
    go_wp2_with fail
    go_loop [3, 6] (fun ov i => ov = .slice (some ⟨w.heap.size + 1, 0, none⟩) 0 0 ∧ i = .int .i64 0) (fun _ _ => 0)
    case atStart => exact ⟨rfl, rfl⟩
    case round =>
      obtain ⟨rfl, rfl⟩ := hrel
      go_wp2
      exact HQ.out _ [] _ HB3.out (Or.inr ⟨HOK.out, rfl⟩) (RowsI.nil (own_lower HE3.out (by omega)) (fun k hk => (HE3.out.lt k hk).2))
end Go.Proofs.YtljlgffkhocgkaaDoor
namespace Go.Proofs.YtljlgffkhocgkaaDoor
open Go.RowKit Go.ChangeShapes Go.WideShapes Go.ChangeAt

/-- A slice of bytes in memory. -/
def CodeAt (w : World) (v : Value) : Prop :=
  ∃ ao bb bo bl cap, v = .slice ao bl cap ∧ bl ≤ cap ∧ bl ≤ 9223372036854775807 ∧ (0 < bl → ao = some ⟨bb, bo, none⟩) ∧ (0 < bl → bb < w.heap.size) ∧ ∀ i, i < bl → ∃ z : Nat, z < 256 ∧ w.cell? ⟨bb, bo + i, none⟩ = some (.int .u8 z)

theorem CodeAt.keep {w w' : World} {v : Value} (h : CodeAt w v) (hb : Below w.heap.size w w') : CodeAt w' v := by
  obtain ⟨ao, bb, bo, bl, cap, e, h1, h2, h3, h4, h5⟩ := h
  refine ⟨ao, bb, bo, bl, cap, e, h1, h2, h3, fun hp => Nat.lt_of_lt_of_le (h4 hp) hb.size, fun i hi => ?_⟩
  obtain ⟨z, hz, hc⟩ := h5 i hi
  exact ⟨z, hz, cell_keep hb hc⟩

theorem openCode_any {Q : Ending → World → Prop} (v : Value) (w : World) (h : CodeAt w v)
    (hQ : ∀ w', Rd w' w.heap.size 0 → Below w.heap.size w w' → Q (.returned (.pointer (some ⟨w.heap.size, 0, none⟩))) w') :
    Calls Tryd.prog 47 #[v] w Q := by
  obtain ⟨ao, bb, bo, bl, cap, rfl, h1, h2, h3, h4, h5⟩ := h
  exact l6Open_any ao bb bo bl cap w h3 h1 h4 h5 hQ

theorem cellsByte : Tryd.prog.cellsOf 5 = 1 := by kernel_rfl

section
variable {H : Type} {enc : TypeId × Value → H} {w : World} {base : Nat} {spare : Nat → Bool} {held : Bool}

set_option maxRecDepth 100000 in
theorem open_code {r : Reach} {b0 : Nat} {v : Value} {d : DataW H} {p : List MemPlace} (hv : Value.okWide Tryd.prog w r b0 50 v) (h : DataW.Trod enc Tryd.prog w base spare held 50 v d p) : CodeAt w v := by
  obtain ⟨A, n, c, rfl⟩ := okWide_slice Tryd.underlying50 hv
  obtain ⟨fuel, hf⟩ := h
  rcases open_ints Tryd.underlying50 Tryd.underlying5 cellsByte hf with ⟨hcs, _⟩ | ⟨a, len, cap, zs, hcs, _, hl, hm, hz, _, hcell, hw⟩
  · simp [Value.cells] at hcs
    obtain ⟨rfl, rfl, rfl⟩ := hcs
    exact ⟨none, 0, 0, 0, 0, rfl, Nat.le_refl _, by decide, fun h => absurd h (by simp), fun h => absurd h (by simp), fun i hi => absurd hi (by simp)⟩
  · simp [Value.cells] at hcs
    obtain ⟨rfl, rfl, rfl⟩ := hcs
    have hzl : n ≤ zs.length := by rw [hz]; split <;> omega
    obtain ⟨b, o, spot⟩ := a
    refine ⟨_, b, o, n, c, rfl, hl, by unfold maxLen at hm; omega, fun hp => ?_, fun hp => ?_, fun i hi => ?_⟩
    · have hspot : spot = none := by simpa [Addr.add] using World.cell?_spot (hcell 0 (by omega))
      rw [hspot]
    · exact cell_lt (hcell 0 (by omega))
    · have hspot : spot = none := by simpa [Addr.add] using World.cell?_spot (hcell 0 (by omega))
      subst hspot
      have h1 := hcell i (by omega)
      have h2 := hw (zs.getD i 0) (by simp [List.getD, List.getElem?_eq_getElem (show i < zs.length by omega)])
      have e : (⟨b, o, none⟩ : Addr).add i = ⟨b, o + i, none⟩ := by unfold Addr.add; split <;> simp_all
      rw [e] at h1
      generalize zs.getD i 0 = x at h1 h2
      have h3 : 0 ≤ x ∧ x < 256 := by
        simp [Lit.wf, IntKind.min, IntKind.max, IntKind.signed, IntKind.bits] at h2
        omega
      obtain ⟨m, hm2⟩ := Int.eq_ofNat_of_zero_le h3.1
      rw [hm2] at h1 h3
      exact ⟨m, by omega, h1⟩
end
end Go.Proofs.YtljlgffkhocgkaaDoor
namespace Go.Proofs.YtljlgffkhocgkaaDoor
open Go.RowKit

set_option maxRecDepth 100000 in
set_option maxHeartbeats 1000000 in
theorem drawLoopFront_any {Q : Ending → World → Prop} (v : Value) (w : World) (h : CodeAt w v)
    (hQ : ∀ (v' : Value) (ss : List St) w', StepsN w' v' ss → ss.length ≤ 61 → (∀ s ∈ ss, s.next.length ≤ 61) → Below w.heap.size w w' → Q (.returned (.agg #[v'])) w') :
    Calls Tryd.prog 21 #[v] w Q := by
  have HQ : Hid _ := hQ
  clear hQ
  go_enter Tryd.func21, Tryd.ntmps21
  go_wp2_with fail
  have hb0 : ∀ O, Below w.heap.size w (w.alloc O) := fun O => (Below.refl _ _).alloc (Nat.le_refl _) O
  refine openCode_any v _ (h.keep (hb0 _)) fun w1 hr1 hb1 => ?_
  have e0 : (w.alloc (.cells #[.slice none 0 0] 34)).heap.size = w.heap.size + 1 := by simp
  rw [e0] at hr1 hb1 ⊢
  have hlt := hr1.lt
  have HB1 : Hid (Below w.heap.size w w1) := (hb0 _).trans (hb1.mono (by omega))
  have q1 : w1.cell? ⟨w.heap.size, 0, none⟩ = some (.slice none 0 0) := (hb1.cell (p := ⟨w.heap.size, 0, none⟩) (by show w.heap.size < w.heap.size + 1; omega)).trans (by simp [go_sem])
  have f1 : w1.frozen? ⟨w.heap.size, 0, none⟩ = false := (hb1.frozen (p := ⟨w.heap.size, 0, none⟩) (by show w.heap.size < w.heap.size + 1; omega)).trans (by simp [go_sem])
  clear hb1
  go_wp2_with fail
  refine l71Any_any (w.heap.size + 1) 0 _ hr1 (by omega) fun v2 ss p2 w2 hS hl hls hr2 hp2 hx2 => ?_
  have hne : w.heap.size ≠ w.heap.size + 1 := by omega
  have q2 := hx2.cell q1 hne
  have f2 := (hx2.frozen (p := ⟨w.heap.size, 0, none⟩) (by show w.heap.size < w1.heap.size; omega) hne).trans f1
  obtain ⟨A2, b2, o2, c2, rfl, hS'⟩ := id hS
  clear hS'
  have HB2 : Hid (Below w.heap.size w (w2.setCell ⟨w.heap.size, 0, none⟩ (.slice A2 ss.length c2))) := (HB1.out.trans ((hx2.below (by omega)).mono (by omega))).setCell (Nat.le_refl _) _
  have HS : Hid (StepsN (w2.setCell ⟨w.heap.size, 0, none⟩ (.slice A2 ss.length c2)) (.slice A2 ss.length c2) ss) := (hS.put (by show w.heap.size < w1.heap.size; omega) _).n
  have HLS : Hid (∀ s ∈ ss, s.next.length ≤ 61) := hls
  clear hS hls hr2 hx2 HB1 hr1 hb0 q1 f1
  go_wp2_with fail
  refine bodyPost_ret (v := .agg #[.slice A2 ss.length c2]) (by simp [results, Tryd.results21, go_sem, q2]) rfl ?_
  exact HQ.out _ ss _ HS.out hl HLS.out HB2.out
end Go.Proofs.YtljlgffkhocgkaaDoor
namespace Go.Proofs.YtljlgffkhocgkaaDoor
open Go.RowKit

set_option maxHeartbeats 1000000 in
theorem lkInts_any {Q : Ending → World → Prop} (u v : Value) (zs : List Int) (w : World) (hu : IntsAt w u zs) (hv : IntsAt w v zs) (hl : zs.length ≤ 1048576)
    (hQ : ∀ w', Below w.heap.size w w' → Q (.returned (.bool true)) w') :
    Calls Tryd.prog 24 #[u, v] w Q := by
  have HQ : Hid _ := hQ
  clear hQ
  obtain ⟨ao, b, o, cap, rfl, ha, hc⟩ := hu
  obtain ⟨ao', b', o', cap', rfl, ha', hc'⟩ := hv
  have HA : Hid _ := ha
  have HA' : Hid _ := ha'
  have HC : Hid _ := hc
  have HC' : Hid _ := hc'
  clear hc hc' ha ha'
  go_enter Tryd.func24, Tryd.ntmps24
  go_wp2
  go_loopw [5] (fun i wr => ∃ k : Nat, k ≤ zs.length ∧ i = .int .i64 k ∧ Below w.heap.size w wr) (fun i _ => zs.length - (intOf i).toNat)
  case atStart => exact ⟨0, Nat.zero_le _, rfl, Below.refl _ _⟩
  case round =>
    obtain ⟨k, hk, rfl, hb⟩ := hrel
    by_cases hkl : k < zs.length
    · obtain rfl := HA.out (by omega)
      obtain rfl := HA'.out (by omega)
      have c1 := HC.out k hkl
      have c2 := HC'.out k hkl
      have d1 := cell_keep hb c1
      have d2 := cell_keep hb c2
      have hki : (k : Int) < (zs.length : Int) := by omega
      generalize zs.getD k 0 = x at *
      clear c1 c2
      go_wp2_with fail
      go_quiet (fail)
      go_wp2
      go_roundw
      case rel => exact ⟨k + 1, by omega, by go_num, below_drewN hb _⟩
      case measure => simp [intOf]; omega
    · go_wp2
      exact HQ.out _ hb
end Go.Proofs.YtljlgffkhocgkaaDoor
namespace Go.Proofs.YtljlgffkhocgkaaDoor
open Go.RowKit Go.Shelf

attribute [local go_sem] Oper.semAt_some

theorem rowIs_grown {W W' : World} {row : Option Nat} {b n B : Nat} {t : TypeId} {f : Nat → Value} (h : W.rowIs b t n f) (hg : W.grownBy W' row) (hr : ∀ r, row = some r → B ≤ r ∧ ∃ o : Obj, W.heap[r]? = some o ∧ o.isCells = false) (hb : b < B) : W'.rowIs b t n f :=
  h.of_block (hg.block b h.lt fun e => by have := (hr b e.symm).1; omega)

theorem cell_grown {W W' : World} {row : Option Nat} {a : Addr} {v : Value} {B : Nat} (h : W.cell? a = some v) (hg : W.grownBy W' row) (hr : ∀ r, row = some r → B ≤ r ∧ ∃ o : Obj, W.heap[r]? = some o ∧ o.isCells = false) (hb : a.block < B) : W'.cell? a = some v :=
  (World.cell?_of_block (w := W) (a := a) (hg.block a.block (cell_lt h) fun e => by have := (hr a.block e.symm).1; omega)).trans h

set_option maxRecDepth 100000 in
set_option maxHeartbeats 2000000 in
theorem rowUp_in {R : Ending → World → Prop} (vg N x : Nat) (hN1 : 1 ≤ N) (hN : N ≤ 1000) (ov : Nat → Option Nat) (rk : Nat → Nat) (h0 : ov 0 = some 0) (hup : ∀ x y, ov x = some y → x ≠ 0 → rk x < rk y) (htop : ∀ x, (∃ y, ov x = some y) → rk x ≤ rk 0) (xs : List (Fin N)) (hx : x < N) (hU : UpOr ov N x xs) (w : World) (hV : w.rowIs vg 3 N (ovV ov))
    (hR : ∀ w', Below w.heap.size w w' → w'.rowIs w.heap.size 4 N (fun j => .bool (onB xs j)) → R (.returned (.slice (some ⟨w.heap.size, 0, none⟩) N N)) w') :
    CallsIn Fence.wide 10 Tryd.prog 49 #[.slice (some ⟨vg, 0, none⟩) N N, .int .i64 (x : Int)] w R := by
  have HR : Hid _ := hR
  have HV : Hid (w.rowIs vg 3 N (ovV ov)) := hV
  have HU : Hid _ := hU
  have HUP : Hid _ := hup
  have HTOP : Hid _ := htop
  have H0 : Hid (ov 0 = some 0) := h0
  have hvl := hV.lt
  clear hR hV hU hup htop h0
  obtain ⟨i0, hi, hz0, hz1, hz2⟩ := info_parts infoBool
  have hmk : ∀ w, (Instr.makeSlice 30 (.int .i64 (N : Int)) (.int .i64 (N : Int))).run Tryd.prog w = .ok (.slice (some ⟨w.heap.size, 0, none⟩) N N) (w.alloc (.cells (madeCells #[.bool false] N) 4)) := fun w => run_make_row 30 4 i0 (.bool false) Tryd.underlying30 hi hz0 hz1 rfl .i64 .i64 N (by rw [hz2]; omega) (by omega) w
  refine callsIn_of_wp_marks Tryd.func49 rfl trivial ?_ rfl
  simp only [Tryd.ntmps49, List.size_toArray, List.length_cons, List.length_nil, Nat.reduceAdd, Nat.reduceSub, Array.replicate_succ, Array.replicate_zero, List.push_toArray, List.append_toArray, List.nil_append, List.cons_append]
  gi_wp2
  refine ⟨trivial, (wayUp_in 9 _ _ _ _ _).mono ?_⟩
  rintro e w' ⟨rfl, rfl⟩
  gi_wp2
  have hb0 : Below w.heap.size w ((((w.alloc (.cells (madeCells #[.bool false] N) 4)).alloc (.cells #[.slice (some ⟨w.heap.size, 0, none⟩) N N] 30)).alloc (.cells #[.slice (some ⟨vg, 0, none⟩) N N] 55)).alloc (.cells #[.int .i64 (x : Int)] 3)) := ((((Below.refl _ w).alloc (Nat.le_refl _) _).alloc (by simp) _).alloc (by simp; omega) _).alloc (by simp; omega) _
  have hr0 := (((World.rowIs_made w (.bool false) N 4).alloc (.cells #[.slice (some ⟨w.heap.size, 0, none⟩) N N] 30)).alloc (.cells #[.slice (some ⟨vg, 0, none⟩) N N] 55)).alloc (.cells #[.int .i64 (x : Int)] 3)
  generalize hW : (((w.alloc (.cells (madeCells #[.bool false] N) 4)).alloc (.cells #[.slice (some ⟨w.heap.size, 0, none⟩) N N] 30)).alloc (.cells #[.slice (some ⟨vg, 0, none⟩) N N] 55)).alloc (.cells #[.int .i64 (x : Int)] 3) = W0 at *
  have hs0 : W0.heap.size = w.heap.size + 4 := by rw [← hW]; simp
  have hc1 : W0.cell? ⟨w.heap.size + 1, 0, none⟩ = some (.slice (some ⟨w.heap.size, 0, none⟩) N N) := by rw [← hW]; simp [go_sem]
  have hc2 : W0.cell? ⟨w.heap.size + 1 + 1, 0, none⟩ = some (.slice (some ⟨vg, 0, none⟩) N N) := by rw [← hW]; simp [go_sem]
  have hc3 : W0.cell? ⟨w.heap.size + 1 + 1 + 1, 0, none⟩ = some (.int .i64 (x : Int)) := by rw [← hW]; simp [go_sem]
  clear hW
  refine wpIn_rangeFunc_ownF (N := xs.length) (encs := fun y : Fin N => #[Value.int .i64 (y.1 : Int)]) rfl (by omega) (gf := 88) (lb := #[.pointer (some ⟨w.heap.size + 1 + 1, 0, none⟩), .pointer (some ⟨w.heap.size + 1 + 1 + 1, 0, none⟩)]) rfl trivial (enters_of Tryd.func88 (by kernel_rfl) rfl)
    (wayUp_stops 9 (w.heap.size + 1 + 1) (w.heap.size + 1 + 1 + 1) vg N x (by omega) ov rk H0.out HUP.out HTOP.out xs hx HU.out W0 hc2 hc3 (rowIs_keep HV.out hb0)) (fun h k => Kp2.t h k) (fun W l o o' h1 h2 h3 h4 => Kp2.b (w := W0) (by omega) (by omega) W l o o' h1 h2 h3 h4) (Below.refl _ _) (fun _ => rfl)
    (fun pre W => (W.rowIs w.heap.size 4 N (fun j => .bool (onB pre j)) ∧ W.cell? ⟨w.heap.size + 1, 0, none⟩ = some (.slice (some ⟨w.heap.size, 0, none⟩) N N)) ∧ Below w.heap.size w W)
    (fun _ _ _ => False)
    (OwnFrom.and (fun s A B row hs hg hr => ⟨rowIs_grown hs.1 hg hr (by omega), cell_grown hs.2 hg hr (by show w.heap.size + 1 < W0.heap.size; omega)⟩) (ownFrom_below (Nat.le_refl _) (by omega)))
    (fun _ _ _ _ _ hs _ _ => hs)
    ⟨⟨hr0.congr fun i _ => by simp [onB], hc1⟩, hb0⟩
    (fun y => { tmps := #[.slice (some ⟨vg, 0, none⟩) N N, .int .i64 (x : Int), undef, undef, .slice none 0 0, .pointer (some ⟨w.heap.size + 1, 0, none⟩), .int .i64 (y.1 : Int), .slice (some ⟨vg, 0, none⟩) N N, .int .i64 (N : Int), .slice (some ⟨w.heap.size, 0, none⟩) N N, .slice (some ⟨vg, 0, none⟩) N N, .int .i64 (x : Int), .func (.func 88) #[] #[.pointer (some ⟨w.heap.size + 1 + 1, 0, none⟩), .pointer (some ⟨w.heap.size + 1 + 1 + 1, 0, none⟩)], .int .i64 (y.1 : Int), undef, undef, undef, undef], defers := [] }) ?assign ?body ?done ?stop
  case assign =>
    intro l y W K hK
    gi_wp2
    exact hK
  case body =>
    rintro l pre y W ⟨⟨hrow, hc⟩, hB⟩ _
    have hy := y.2
    have hyi : (y.1 : Int) < (N : Int) := by omega
    have cy := hrow.cell hy
    have fy := hrow.frozen y.1
    have HROW : Hid (W.rowIs w.heap.size 4 N (fun j => .bool (onB pre j))) := hrow
    have HB : Hid (Below w.heap.size w W) := hB
    clear hrow hB
    gi_wp2
    refine ⟨KeepsOthers.setCell _ _ _, ⟨Below.heap_setCell W _ _ vg (by show vg ≠ w.heap.size; omega), Below.heap_setCell W _ _ _ (by show w.heap.size + 1 + 1 ≠ w.heap.size; omega)⟩, ⟨(HROW.out.set y.1 _).congr fun i hi => ?_, ?_⟩, HB.out.setCell (p := ⟨w.heap.size, y.1, none⟩) (Nat.le_refl _) _⟩
    · rw [onB_snoc]
      by_cases e : i = y.1 <;> simp [e]
    · rw [cell_setOther _ _ _ _ (by show w.heap.size + 1 ≠ w.heap.size; omega)]; exact hc
  case done =>
    rintro D ys W hD rfl ⟨⟨hrow, hc⟩, hB⟩ hK
    have HROW : Hid (W.rowIs w.heap.size 4 N (fun j => .bool (onB ys j))) := hrow
    have HB : Hid (Below w.heap.size w W) := hB
    clear hrow hB
    gi_wp2
    refine ⟨by simp, .inl ⟨_, _, rfl, run_takeDeferred hK, ?_⟩⟩
    refine ⟨_, results_tmp rfl _ _ _, ?_⟩
    exact HR.out _ (HB.out.trans (belowK_b (w := w) (Nat.le_refl _) W D _ _ (by omega) hK rfl rfl)) (HROW.out.of_block ((grownBy_putObj' W D _).block _ HROW.out.lt fun e => by cases e; omega))
  case stop =>
    rintro D c pre W _ _ h _
    exact h.elim

/-- rowUp: of a step that can be come to, all that stand on each way to it. -/
theorem rowUp_any {Q : Ending → World → Prop} {ss : List St} (hok : okB ss = true) (vg x : Nat) (ov : Nat → Option Nat) (hF : OverF ss ov) (hx : x < ss.length) (w : World) (hV : w.rowIs vg 3 ss.length (ovV ov))
    (hQ : ∀ (m : Nat → Bool) w', Below w.heap.size w w' → w'.rowIs w.heap.size 4 ss.length (fun j => .bool (m j)) → (∀ k, k < ss.length → (m k = true ↔ Dom ss k x)) → Q (.returned (.slice (some ⟨w.heap.size, 0, none⟩) ss.length ss.length)) w') :
    Calls Tryd.prog 49 #[.slice (some ⟨vg, 0, none⟩) ss.length ss.length, .int .i64 (x : Int)] w Q := by
  obtain ⟨rk, h1, _, h2⟩ := hF.rk
  have hl := ok_len hok
  have htop : ∀ x, (∃ y, ov x = some y) → rk x ≤ rk 0 := fun x hx => h1 x ((hF.reach x).2 hx)
  refine (callsIn_wide (n := 10)).1 ?_
  by_cases hr : Reaches ss x
  · obtain ⟨xs, hxs⟩ := hF.isUp hok hr
    refine rowUp_in vg ss.length x hl.1 (by omega) ov rk hF.zero h2 htop xs hx (Or.inr ⟨(hF.reach x).1 hr, hxs⟩) w hV fun w' hb hrow => hQ (onB xs) w' hb hrow fun k hk => ?_
    rw [onB_mem, ← hF.dom hr]
    constructor
    · rintro ⟨k', hk', rfl⟩
      exact (hxs.mem k').1 hk'
    · intro hu
      exact ⟨⟨k, hk⟩, (hxs.mem ⟨k, hk⟩).2 hu, rfl⟩
  · have hn : ov x = none := by
      cases e : ov x with
      | none => rfl
      | some y => exact absurd ((hF.reach x).2 ⟨y, e⟩) hr
    refine rowUp_in vg ss.length x hl.1 (by omega) ov rk hF.zero h2 htop [] hx (Or.inl ⟨hn, rfl⟩) w hV fun w' hb hrow => hQ (onB ([] : List (Fin ss.length))) w' hb hrow fun k hk => ?_
    constructor
    · intro h
      simp [onB] at h
    · intro h
      exact absurd h.1 hr
end Go.Proofs.YtljlgffkhocgkaaDoor
namespace Go.Proofs.YtljlgffkhocgkaaDoor
open Go.RowKit

set_option maxRecDepth 100000 in
set_option maxHeartbeats 4000000 in
theorem implDoms_yes {Q : Ending → World → Prop} (v : Value) (ss : List St) (w : World) (h : StepsAt w v ss) (hok : okB ss = true)
    (hQ : ∀ v' m w', Below w.heap.size w w' → DomsM ss m → (∃ ov, OverF ss ov) → RowsB (w.heap.size + 1) w'.heap.size w' v' (matL ss.length m) → Q (.returned v') w') :
    Calls Tryd.prog 22 #[.agg #[v]] w Q := by
  have HQ : Hid _ := hQ
  clear hQ
  obtain ⟨hn1, hn2⟩ := ok_len hok
  have HOK : Hid (okB ss = true) := hok
  obtain ⟨ao, b, o, cap, rfl, ha, hc⟩ := id h
  clear ha hc
  have HH : Hid (StepsAt w (.slice ao ss.length cap) ss) := h
  clear h
  have hb0 : ∀ O, Below w.heap.size w (w.alloc O) := fun O => (Below.refl _ _).alloc (Nat.le_refl _) O
  obtain ⟨i1, hj, hy0, hy1, hy2⟩ := info_parts infoBools
  go_enter Tryd.func22, Tryd.ntmps22
  go_wp2_with fail
  refine implOk_any _ ss _ (HH.out.keep (hb0 _)) (by omega) (ok_nexts HOK.out) fun w1 hb1 => ?_
  rw [hok]
  have hbA : Below w.heap.size w w1 := (hb0 _).trans (hb1.mono (by simp))
  have q1 : w1.cell? ⟨w.heap.size, 0, none⟩ = some (.slice ao ss.length cap) := cell_keep hb1 (by simp [go_sem])
  have hz1 : w.heap.size < w1.heap.size := cell_lt q1
  clear hb1 hb0 hok
  go_wp2_with fail
  refine nearestOver_any _ ss _ (HH.out.keep hbA) HOK.out fun vg ov w2 hb2 hov hvg hrow2 => ?_
  have HB2 : Hid (Below w.heap.size w w2) := hbA.trans (hb2.mono hbA.size)
  have HOV : Hid (OverF ss ov) := hov
  have HV2 : Hid (w2.rowIs vg 3 ss.length (ovV ov)) := hrow2
  have hvl := hrow2.lt
  have hz2 := hb2.size
  clear hbA q1 hb2 hov hrow2
  go_wp2_with (at_make; refine wpList_make_is _ rfl (.tmp 13) (.tmp 13) 52 rfl 30 (.slice none 0 0) 24 Tryd.underlying52 infoBools rfl .i64 .i64 ss.length rfl rfl (by omega) (by omega) ?_; intro w3 hrow3 hb3 hs3)
  have HR3 : Hid (w3.rowIs w2.heap.size 30 ss.length (fun _ => .slice none 0 0)) := hrow3
  have HB3 : Hid (Below w2.heap.size w2 w3) := hb3
  clear hrow3 hb3
  go_loopw [17] (fun i wr => ∃ (k : Nat) (gs : Nat → Nat) (m : Nat → Nat → Bool), k ≤ ss.length ∧ i = .int .i64 k ∧ Below w2.heap.size w2 wr ∧ wr.rowIs w2.heap.size 30 ss.length (fun j => if j < k then .slice (some ⟨gs j, 0, none⟩) ss.length ss.length else .slice none 0 0) ∧ (∀ i, i < k → wr.rowIs (gs i) 4 ss.length (fun j => .bool (m i j)) ∧ w2.heap.size < gs i) ∧ (∀ i j, i < k → j < k → gs i = gs j → i = j) ∧ (∀ i j, i < k → j < ss.length → (m i j = true ↔ Dom ss j i))) (fun i _ => ss.length - (intOf i).toNat)
  case atStart => exact ⟨0, fun _ => 0, fun _ _ => false, Nat.zero_le _, rfl, HB3.out, HR3.out.congr fun i _ => by simp, fun i hi => by omega, fun i j hi => by omega, fun i j hi => by omega⟩
  case round =>
    obtain ⟨k, gs, m, hk, rfl, hb, hr, hrs, hinj, hdm⟩ := hrel
    have HB : Hid (Below w2.heap.size w2 wr) := hb
    have HR : Hid (wr.rowIs w2.heap.size 30 ss.length (fun j => if j < k then .slice (some ⟨gs j, 0, none⟩) ss.length ss.length else .slice none 0 0)) := hr
    have HRS : Hid _ := hrs
    have HINJ : Hid _ := hinj
    have HDM : Hid _ := hdm
    have hrl := hr.lt
    clear hrs hinj hdm
    by_cases hkn : k < ss.length
    · have hki : (k : Int) < (ss.length : Int) := by omega
      clear hr hb
      go_wp2_with fail
      refine rowUp_any HOK.out vg k ov HOV.out hkn _ (rowIs_keep HV2.out HB.out) fun mk w5 hb5 hrow5 hmk => ?_
      have HB5 : Hid (Below w2.heap.size w2 w5) := HB.out.trans (hb5.mono HB.out.size)
      have r5 := rowIs_keep HR.out hb5
      have HR5 : Hid (w5.rowIs w2.heap.size 30 ss.length (fun j => if j < k then .slice (some ⟨gs j, 0, none⟩) ss.length ss.length else .slice none 0 0)) := r5
      have c5 := r5.cell hkn
      rw [if_neg (by omega)] at c5
      have f5 := r5.frozen k
      have HN5 : Hid (w5.rowIs wr.heap.size 4 ss.length (fun j => .bool (mk j))) := hrow5
      have HMK : Hid _ := hmk
      have HRS5 : Hid (∀ i, i < k → w5.rowIs (gs i) 4 ss.length (fun j => .bool (m i j)) ∧ w2.heap.size < gs i ∧ gs i ≠ wr.heap.size) := fun i hi => ⟨rowIs_keep (HRS.out i hi).1 hb5, (HRS.out i hi).2, fun e => by have := (HRS.out i hi).1.lt; omega⟩
      have hsz := HB.out.size
      clear hb5 r5 hrow5 hmk
      go_wp2
      go_roundw
      case rel =>
        refine ⟨k + 1, fun i => if i = k then wr.heap.size else gs i, fun i => if i = k then mk else m i, by omega, by go_num, HB5.out.setCell (Nat.le_refl _) _, (HR5.out.set k _).congr fun j hj => ?_, fun i hi => ?_, fun i j hi hj (e : (if i = k then wr.heap.size else gs i) = (if j = k then wr.heap.size else gs j)) => ?_, fun i j hi hj => ?_⟩
        · by_cases e : j = k
          · simp [e]
          · have : (j < k + 1) ↔ j < k := by omega
            simp [e, this]
        · by_cases e : i = k
          · simp only [e, if_true]
            exact ⟨HN5.out.setOther (show wr.heap.size ≠ w2.heap.size by omega) _, hrl⟩
          · simp only [if_neg e]
            have h5 := HRS5.out i (by omega)
            exact ⟨h5.1.setOther (show gs i ≠ w2.heap.size by omega) _, h5.2.1⟩
        · by_cases e1 : i = k <;> by_cases e2 : j = k
          · omega
          · rw [if_pos e1, if_neg e2] at e
            exact absurd e.symm (HRS5.out j (by omega)).2.2
          · rw [if_neg e1, if_pos e2] at e
            exact absurd e (HRS5.out i (by omega)).2.2
          · rw [if_neg e1, if_neg e2] at e
            exact HINJ.out i j (by omega) (by omega) e
        · by_cases e : i = k
          · simp only [e, if_true]
            exact HMK.out j hj
          · simp only [if_neg e]
            exact HDM.out i j (by omega) hj
      case measure => simp [intOf]; omega
    · have hki : ¬ (k : Int) < (ss.length : Int) := by omega
      obtain rfl : k = ss.length := by omega
      have HMAT : Hid (Mat w2.heap.size w2.heap.size wr (.slice (some ⟨w2.heap.size, 0, none⟩) ss.length ss.length) ss.length ss.length gs m) := by
        refine ⟨?_, fun i hi => (HRS.out i hi).1, fun i hi => Nat.le_of_lt (HRS.out i hi).2, HINJ.out⟩
        have h5 := rowIs_own hr (Nat.le_refl w2.heap.size) (by omega)
        have h6 : (List.range ss.length).map (fun j => if j < ss.length then Value.slice (some ⟨gs j, 0, none⟩) ss.length ss.length else .slice none 0 0) = rowVs gs ss.length ss.length := by
          unfold rowVs
          apply List.map_congr_left
          intro i hi
          simp at hi
          simp [hi]
        rw [h6] at h5
        exact h5
      clear hr hb
      go_wp2
      exact HQ.out _ m _ (HB2.out.trans (HB.out.mono HB2.out.size)) (fun i k hi hk => HDM.out i k hi hk) ⟨ov, HOV.out⟩ ((HMAT.out.rows (Nat.le_refl _) (by omega)).lower (by omega))

set_option maxHeartbeats 1000000 in
theorem implDoms_no {Q : Ending → World → Prop} (v : Value) (ss : List St) (w : World) (h : StepsAt w v ss) (hl : ss.length ≤ 1048576) (hls : ∀ s ∈ ss, s.next.length ≤ 1048576) (hok : okB ss = false)
    (hQ : ∀ v' w', Below w.heap.size w w' → RowsB (w.heap.size + 1) w'.heap.size w' v' [] → Q (.returned v') w') :
    Calls Tryd.prog 22 #[.agg #[v]] w Q := by
  have HQ : Hid _ := hQ
  clear hQ
  obtain ⟨ao, b, o, cap, rfl, ha, hc⟩ := id h
  clear ha hc
  have HH : Hid (StepsAt w (.slice ao ss.length cap) ss) := h
  have HL : Hid _ := hls
  clear hls h
  have hb0 : ∀ O, Below w.heap.size w (w.alloc O) := fun O => (Below.refl _ _).alloc (Nat.le_refl _) O
  go_enter Tryd.func22, Tryd.ntmps22
  go_wp2_with fail
  refine implOk_any _ ss _ (HH.out.keep (hb0 _)) hl HL.out fun w1 hb1 => ?_
  rw [hok]
  have hbA : Below w.heap.size w w1 := (hb0 _).trans (hb1.mono (by simp))
  clear hb1 hb0 hok
  go_wp2
  exact HQ.out _ _ hbA (RowsB.nil (World.ownsRow_nil _ _ _ _) (by simp [Value.ownBlock]))

theorem implDoms_any {Q : Ending → World → Prop} (v : Value) (ss : List St) (w : World) (h : StepsAt w v ss) (hl : ss.length ≤ 1048576) (hls : ∀ s ∈ ss, s.next.length ≤ 1048576)
    (hQ : ∀ v' zss w', Below w.heap.size w w' → DomsOr ss zss → RowsB w.heap.size w'.heap.size w' v' zss → Q (.returned v') w') :
    Calls Tryd.prog 22 #[.agg #[v]] w Q := by
  cases hok : okB ss
  · exact implDoms_no v ss w h hl hls hok fun v' w' h1 h2 => hQ v' [] w' h1 (Or.inr ⟨hok, rfl⟩) (h2.lower (by omega))
  · exact implDoms_yes v ss w h hok fun v' m w' h1 h2 _ h3 => hQ v' (matL ss.length m) w' h1 (Or.inl ⟨hok, m, h2, rfl⟩) (h3.lower (by omega))
end Go.Proofs.YtljlgffkhocgkaaDoor
namespace Go.Proofs.YtljlgffkhocgkaaDoor
open Go.RowKit

set_option maxHeartbeats 1000000 in
theorem implPreds_any {Q : Ending → World → Prop} (v : Value) (ss : List St) (w : World) (h : StepsAt w v ss) (hl : ss.length ≤ 1048576) (hls : ∀ s ∈ ss, s.next.length ≤ 1048576)
    (hQ : ∀ v' zss w', Below w.heap.size w w' → PredsOr ss zss → RowsI w.heap.size w'.heap.size w' v' zss → Q (.returned v') w') :
    Calls Tryd.prog 23 #[.agg #[v]] w Q := by
  have HQ : Hid _ := hQ
  clear hQ
  obtain ⟨ao, b, o, cap, rfl, ha, hc⟩ := id h
  clear ha hc
  have HH : Hid (StepsAt w (.slice ao ss.length cap) ss) := h
  have HL : Hid _ := hls
  clear hls h
  have hb0 : ∀ O, Below w.heap.size w (w.alloc O) := fun O => (Below.refl _ _).alloc (Nat.le_refl _) O
  cases hok : okB ss
  · go_enter Tryd.func23, Tryd.ntmps23
    go_wp2_with fail
    refine implOk_any _ ss _ (HH.out.keep (hb0 _)) hl HL.out fun w1 hb1 => ?_
    rw [hok]
    have hbA : Below w.heap.size w w1 := (hb0 _).trans (hb1.mono (by simp))
    have HOK : Hid (okB ss = false) := hok
    clear hb1 hb0 hok
    go_wp2
    exact HQ.out _ [] _ hbA (Or.inr ⟨HOK.out, rfl⟩) (RowsI.nil (World.ownsRow_nil _ _ _ _) (by simp [Value.ownBlock]))
  · go_enter Tryd.func23, Tryd.ntmps23
    go_wp2_with fail
    refine implOk_any _ ss _ (HH.out.keep (hb0 _)) hl HL.out fun w1 hb1 => ?_
    rw [hok]
    have hbA : Below w.heap.size w w1 := (hb0 _).trans (hb1.mono (by simp))
    have q1 : w1.cell? ⟨w.heap.size, 0, none⟩ = some (.slice ao ss.length cap) := cell_keep hb1 (by simp [go_sem])
    have HOK : Hid (okB ss = true) := hok
    clear hb1 hb0 hok
    go_wp2_with fail
    refine predsOf_any _ ss _ (HH.out.keep hbA) HOK.out fun v2 rs w2 hb2 hrs hown2 => ?_
    have hbB : Below w.heap.size w w2 := hbA.trans (hb2.mono hbA.size)
    have HR : Hid (IsReach ss rs) := hrs
    have HO : Hid (RowsI w.heap.size w2.heap.size w2 v2 (predsL ss rs)) := hown2.lower hbA.size
    obtain ⟨A, c, hsv⟩ := hown2.slice
    subst hsv
    clear hb2 hrs hown2 hbA
    go_wp2
    exact HQ.out _ _ _ hbB (Or.inl ⟨HOK.out, rs, HR.out, rfl⟩) HO.out
end Go.Proofs.YtljlgffkhocgkaaDoor
namespace Go.Proofs.YtljlgffkhocgkaaDoor
open Go.ChangeShapes Go.WideShapes Go.ChangeAt Go.RowKit

theorem own : ownKnob Tryd.prog.godebug = none := by kernel_rfl
theorem laidOut : laidOutB Tryd.prog = true := by kernel_rfl

theorem frK_prefix (fr : Nat → Nat → Bool) (i : Nat) {a b : Nat} (h : a ≤ b) : ∃ t, frK fr i b = frK fr i a ++ t := by
  induction b with
  | zero =>
    obtain rfl : a = 0 := by omega
    exact ⟨[], by simp⟩
  | succ b ih =>
    by_cases e : a = b + 1
    · exact ⟨[], by subst e; simp⟩
    · obtain ⟨t, ht⟩ := ih (by omega)
      exact ⟨_, by rw [frK_succ, ht, List.append_assoc]⟩

theorem frK_at {fr : Nat → Nat → Bool} {i q n : Nat} (hq : q < n) (h1 : fr i q = true) :
    (frK fr i q).length < (frK fr i n).length ∧ (frK fr i n).getD (frK fr i q).length 0 = (q : Int) := by
  obtain ⟨t, ht⟩ := frK_prefix fr i (a := q + 1) (b := n) (by omega)
  rw [frK_succ, if_pos h1, List.append_assoc] at ht
  rw [ht]
  refine ⟨by simp, ?_⟩
  simp [List.getD]

set_option maxRecDepth 100000 in
set_option maxHeartbeats 8000000 in
theorem law_walk (v : Value) (w : World) (h : CodeAt w v) (hT : ∀ W, Below w.heap.size w W → Tab W ∧ 0 < W.heap.size) {Q : Ending → World → Prop} (hQ : ∀ w', Below w.heap.size w w' → Q (.returned (.bool true)) w') :
    Calls Tryd.prog 5 #[v] w Q := by
  have HQ : Hid (∀ w', Below w.heap.size w w' → Q (.returned (.bool true)) w') := hQ
  have HTK : Hid (∀ W, Below w.heap.size w W → Tab W ∧ 0 < W.heap.size) := hT
  clear hQ hT
  have HC : Hid _ := h
  obtain ⟨ao, bb, bo, bl, cap, rfl, h1, h2, h3, h4, h5⟩ := h
  clear h3 h4 h5
  by_cases hbl : 1048576 < bl
  · go_enter Tryd.func5, Tryd.ntmps5
    go_wp2
    exact HQ.out _ (Below.refl _ _)
  go_enter Tryd.func5, Tryd.ntmps5
  go_wp2_with fail
  refine drawLoopFront_any _ _ HC.out fun v1 ss w1 hS1 hl hls hb1 => ?_
  clear HC
  obtain ⟨A1, b1, o1, c1, rfl, hA1, hC1⟩ := id hS1
  have HS1 : Hid (StepsAt w1 (.slice A1 ss.length c1) ss) := hS1.at
  have HLS : Hid (∀ s ∈ ss, s.next.length ≤ 1048576) := fun s hs => Nat.le_trans (hls s hs) (by decide)
  have HB1 : Hid (Below w.heap.size w w1) := hb1
  clear hA1 hC1 hS1 hls hb1
  go_wp2_with fail
  have hb0 : ∀ O, Below w1.heap.size w1 (w1.alloc O) := fun O => (Below.refl _ _).alloc (Nat.le_refl _) O
  refine specLoopFront_any _ ss _ (HS1.out.keep (hb0 _)) (by omega) HLS.out fun v2 zss w2 hb2 hzs hown2 => ?_
  have HB12 : Hid (Below w1.heap.size w1 w2) := (hb0 _).trans (hb2.mono (by simp))
  have p2 : w2.cell? ⟨w1.heap.size, 0, none⟩ = some (.slice A1 ss.length c1) := cell_keep hb2 (by simp [go_sem])
  obtain ⟨A2, c2, hv2⟩ := hown2.slice
  subst hv2
  have HZS : Hid (FrontOr ss zss) := hzs
  have HO2 : Hid (RowsI (w1.alloc (.cells #[.slice A1 ss.length c1] 34)).heap.size w2.heap.size w2 (.slice A2 zss.length c2) zss) := hown2
  have HBW2 : Hid (Below w.heap.size w w2) := HB1.out.trans (HB12.out.mono HB1.out.size)
  clear hb2 hzs hown2 hb0
  go_wp2_with fail
  refine implLoopFront_any _ ss _ (HS1.out.keep HB12.out) (HTK.out _ HBW2.out).1 (HTK.out _ HBW2.out).2 (by omega) HLS.out fun v3 zss' w3 hb3 hzs' hown3 => ?_
  obtain rfl := HZS.out.unique hzs'
  have HB13 : Hid (Below w1.heap.size w1 w3) := HB12.out.trans (hb3.mono HB12.out.size)
  have p3 := cell_keep hb3 p2
  obtain ⟨A3, c3, hv3⟩ := hown3.slice
  subst hv3
  have HO23 : Hid (RowsI (w1.alloc (.cells #[.slice A1 ss.length c1] 34)).heap.size w2.heap.size w3 (.slice A2 zss.length c2) zss) := HO2.out.keep hb3
  have HO3 : Hid (RowsI w2.heap.size w3.heap.size w3 (.slice A3 zss.length c3) zss) := hown3
  clear hb3 hzs' hown3 p2 HO2 HB12 HBW2
  go_wp2_with fail
  cases hok : okB ss
  · obtain rfl : zss = [] := by
      rcases HZS.out with ⟨h, _⟩ | ⟨_, h⟩
      · rw [hok] at h; cases h
      · exact h
    refine implDoms_no _ ss _ (HS1.out.keep HB13.out) (by omega) HLS.out hok fun v5 w5 hb5 hown5 => ?_
    have HB15 : Hid (Below w1.heap.size w1 w5) := HB13.out.trans (hb5.mono HB13.out.size)
    obtain ⟨A5, c5, hv5⟩ := hown5.slice
    subst hv5
    have p5 := cell_keep hb5 p3
    clear hown5 hb5 p3
    go_wp2_with fail
    refine implPreds_any _ ss _ (HS1.out.keep HB15.out) (by omega) HLS.out fun v6 pss w6 hb6 _ hown6 => ?_
    have HB16 : Hid (Below w1.heap.size w1 w6) := HB15.out.trans (hb6.mono HB15.out.size)
    obtain ⟨A6, c6, hv6⟩ := hown6.slice
    subst hv6
    clear hown6 hb6 p5
    go_wp2_with fail
    go_loopw [8] (fun i wr => i = .int .i64 0 ∧ Below w1.heap.size w1 wr) (fun _ _ => 0)
    case atStart => exact ⟨rfl, HB16.out⟩
    case round =>
      obtain ⟨rfl, hb⟩ := hrel
      have HF : Hid (Below w.heap.size w wr) := HB1.out.trans (hb.mono HB1.out.size)
      go_wp2
      exact HQ.out _ HF.out
  · obtain ⟨fr, hfr, hz⟩ : ∃ fr : Nat → Nat → Bool, FrontM ss fr ∧ zss = frL ss.length fr := by
      rcases HZS.out with ⟨_, f, h1, h2⟩ | ⟨h, _⟩
      · exact ⟨f, h1, h2⟩
      · rw [hok] at h; cases h
    obtain ⟨hn1, hn2⟩ := ok_len hok
    have hzn : zss.length = ss.length := by rw [hz]; simp [frL]
    have HZR : Hid (∀ i, i < ss.length → zss[i]? = some (frK fr i ss.length)) := fun i hi => by rw [hz]; simp [frL, hi]
    have HFR : Hid (FrontM ss fr) := hfr
    have HOK : Hid (okB ss = true) := hok
    refine implDoms_yes _ ss _ (HS1.out.keep HB13.out) hok fun v5 m w5 hb5 hdm _ hown5 => ?_
    have HB15 : Hid (Below w1.heap.size w1 w5) := HB13.out.trans (hb5.mono HB13.out.size)
    have HDM : Hid (DomsM ss m) := hdm
    obtain ⟨g, gcap, gs, cs, rfl, hmr⟩ := MatR.of hown5 hn1
    have HM5 : Hid (MatR w5 g ss.length gs cs m) := hmr
    have p5 := cell_keep hb5 p3
    have o2 := HO23.out.keep hb5
    have o3 := HO3.out.keep hb5
    clear hb5 hdm hmr hown5 hok hfr hz p3 HO23 HO3 HZS HB13
    go_wp2_with fail
    refine implPreds_any _ ss _ (HS1.out.keep HB15.out) (by omega) HLS.out fun v6 pss w6 hb6 hps hown6 => ?_
    obtain ⟨rs, hrs, rfl⟩ : ∃ rs, IsReach ss rs ∧ pss = predsL ss rs := by
      rcases hps with ⟨_, rs, h1, h2⟩ | ⟨h, _⟩
      · exact ⟨rs, h1, h2⟩
      · rw [HOK.out] at h; cases h
    have HRS : Hid (IsReach ss rs) := hrs
    have HB16 : Hid (Below w1.heap.size w1 w6) := HB15.out.trans (hb6.mono HB15.out.size)
    have HM6 : Hid (MatR w6 g ss.length gs cs m) := HM5.out.keep hb6
    obtain ⟨ao3, g3, cap3, hv3, hrow3⟩ := (o3.keep hb6).read
    cases hv3
    obtain ⟨ao2, g2, cap2, hv2, hrow2⟩ := (o2.keep hb6).read
    cases hv2
    have hA3 : A3 = some ⟨g3, 0, none⟩ := by obtain ⟨_, _, _, e, _⟩ := hrow3 0 _ (HZR.out 0 (by omega)); exact e
    have hA2 : A2 = some ⟨g2, 0, none⟩ := by obtain ⟨_, _, _, e, _⟩ := hrow2 0 _ (HZR.out 0 (by omega)); exact e
    subst hA3
    subst hA2
    obtain ⟨pao, pg, pcap, hpv, hpr⟩ := hown6.read
    rw [show (predsL ss rs).length = ss.length by simp [predsL]] at hpv
    subst hpv
    have h0n : 0 < ss.length := by omega
    have hpao : pao = some ⟨pg, 0, none⟩ := by obtain ⟨_, _, _, e, _⟩ := hpr 0 (predsK ss rs 0 ss.length) (by simp [predsL, h0n]); exact e
    subst hpao
    clear h0n
    have HPW : Hid (∀ (i : Nat), i < ss.length → ∃ A pb c, (0 < (predsK ss rs i ss.length).length → A = some ⟨pb, 0, none⟩) ∧ ∀ wx : World, Below w6.heap.size w6 wx → wx.cell? ⟨pg, i, none⟩ = some (.slice A (predsK ss rs i ss.length).length c) ∧ ∀ t, t < (predsK ss rs i ss.length).length → wx.cell? ⟨pb, t, none⟩ = some (.int .i64 ((predsK ss rs i ss.length).getD t 0))) := by
      intro i hi
      obtain ⟨x, A, c, h1, h2, h3, h4⟩ := hpr i (predsK ss rs i ss.length) (by simp [predsL, hi])
      subst h3
      obtain ⟨A', pb, c', e, e2⟩ := h4.read
      cases e
      exact ⟨A, pb, c, fun hp => (e2 0 hp).1, fun wx hbx => ⟨cell_keep hbx h2, fun t ht => cell_keep hbx (e2 t ht).2.1⟩⟩
    have HR3 : Hid (∀ (i : Nat), i < ss.length → ∃ A b c, (0 < (frK fr i ss.length).length → A = some ⟨b, 0, none⟩) ∧ ∀ W, Below w6.heap.size w6 W → W.cell? ⟨g3, i, none⟩ = some (.slice A (frK fr i ss.length).length c) ∧ IntsAt W (.slice A (frK fr i ss.length).length c) (frK fr i ss.length) ∧ ∀ t, t < (frK fr i ss.length).length → W.cell? ⟨b, t, none⟩ = some (.int .i64 ((frK fr i ss.length).getD t 0))) := fun i hi => by
      obtain ⟨x, A, c, _, hc, rfl, hI⟩ := hrow3 i _ (HZR.out i hi)
      obtain ⟨A', b, c', e, e2⟩ := hI.read
      cases e
      exact ⟨A, b, c, fun hp => (e2 0 hp).1, fun W hb => ⟨cell_keep hb hc, hI.at.keep hb, fun t ht => cell_keep hb (e2 t ht).2.1⟩⟩
    have HR2 : Hid (∀ (i : Nat), i < ss.length → ∃ A c, ∀ W, Below w6.heap.size w6 W → W.cell? ⟨g2, i, none⟩ = some (.slice A (frK fr i ss.length).length c) ∧ IntsAt W (.slice A (frK fr i ss.length).length c) (frK fr i ss.length)) := fun i hi => by
      obtain ⟨x, A, c, _, hc, rfl, hI⟩ := hrow2 i _ (HZR.out i hi)
      exact ⟨A, c, fun W hb => ⟨cell_keep hb hc, hI.at.keep hb⟩⟩
    have HSZ : Hid (∀ W, Below w6.heap.size w6 W → Below w.heap.size w W) := fun W hb => HB1.out.trans ((HB16.out.trans (hb.mono HB16.out.size)).mono HB1.out.size)
    have hzl := hzn
    generalize zss.length = L at *
    have hzl' : L = ss.length := hzl
    subst hzl'
    clear hrow2 hrow3 hpr hown6 hps hrs o2 o3 hb6 p5 HM5 HZR hzn hzl HB15
    go_wp2_with fail
    go_loopw [8] (fun i wr => ∃ x : Nat, x ≤ ss.length ∧ i = .int .i64 x ∧ Below w6.heap.size w6 wr) (fun i _ => ss.length - (intOf i).toNat)
    case atStart => exact ⟨0, Nat.zero_le _, rfl, Below.refl _ _⟩
    case round =>
      obtain ⟨x, hx, rfl, hbm⟩ := hrel
      by_cases hxl : x < ss.length
      · have hxi : (x : Int) < (ss.length : Int) := by omega
        obtain ⟨Am, bm, cm, hAm, hR3⟩ := HR3.out x hxl
        obtain ⟨Aw, cw, hR2⟩ := HR2.out x hxl
        have HAm : Hid _ := hAm
        have HRm : Hid _ := hR3
        have hpl := frK_len fr x ss.length
        clear hAm
        obtain ⟨x3, i3, _⟩ := hR3 wr hbm
        obtain ⟨x2, i2⟩ := hR2 wr hbm
        clear hR2 hR3
        generalize hrow : frK fr x ss.length = row at *
        obtain ⟨w7, rfl⟩ : ∃ w7 : World, w7 = wr := ⟨_, rfl⟩
        go_wp2_with fail
        have HI3 : Hid (IntsAt w7.drew (.slice Am row.length cm) row) := i3.keep (below_drewN (Below.refl _ _) 1)
        have HI2 : Hid (IntsAt w7.drew (.slice Aw row.length cw) row) := i2.keep (below_drewN (Below.refl _ _) 1)
        clear i3 i2
        go_region_with (go_at_call 24; refine lkInts_any _ _ row _ HI3.out HI2.out (by omega) ?_; intro w8 hb8; have HB8 : Hid (Below w6.heap.size w6 w8) := hbm.trans ((⟨hb8.os, hb8.tape, hb8.output, hb8.size, hb8.block⟩ : Below w7.heap.size w7 w8).mono hbm.size); clear hb8)
        all_goals
          clear x3 x2 HI3 HI2
          go_wp2_with fail
          go_loopw [9, 10] (fun n k wr => ∃ q : Nat, q ≤ ss.length ∧ n = .int .i64 (frK fr x q).length ∧ k = .int .i64 q ∧ Below w6.heap.size w6 wr) (fun _ k _ => ss.length - (intOf k).toNat)
          case atStart => exact ⟨0, Nat.zero_le _, by simp [frK_zero], rfl, HB8.out⟩
          case round =>
            clear HB8 hbm
            obtain ⟨q, hq, rfl, rfl, hb⟩ := hrel
            obtain ⟨x3, _, hcell⟩ := HRm.out wr hb
            have hpq : (frK fr x q).length ≤ row.length := by
              obtain ⟨t, ht⟩ := frK_prefix fr x (a := q) (b := ss.length) hq
              rw [← hrow, ht, List.length_append]
              omega
            have HCELL : Hid (∀ t, t < row.length → wr.cell? ⟨bm, t, none⟩ = some (.int .i64 (row.getD t 0))) := hcell
            have HB : Hid (Below w6.heap.size w6 wr) := hb
            have HMW : Hid (MatR wr g ss.length gs cs m) := HM6.out.keep hb
            clear hcell
            by_cases hql : q < ss.length
            · have hqi : (q : Int) < (ss.length : Int) := by omega
              obtain ⟨A, pb, pc, hA, hps⟩ := HPW.out q hql
              obtain ⟨cp, hpc⟩ := hps wr hb
              have HA : Hid (0 < (predsK ss rs q ss.length).length → A = some ⟨pb, 0, none⟩) := hA
              have HPC : Hid (∀ y, y < (predsK ss rs q ss.length).length → wr.cell? ⟨pb, y, none⟩ = some (.int .i64 ((predsK ss rs q ss.length).getD y 0))) := hpc
              have hppl := predsK_len ss rs q ss.length
              have HSUC : Hid (frK fr x (q + 1) = frK fr x q ++ if fr x q = true then [(q : Int)] else []) := frK_succ fr x q
              have HAT : Hid (fr x q = true → (frK fr x q).length < row.length ∧ row.getD (frK fr x q).length 0 = (q : Int)) := fun e => by
                rw [← hrow]
                exact frK_at hql e
              have HFQ : Hid (fr x q = true ↔ IsFront ss x q) := HFR.out x q hxl hql
              have r2 := HMW.out.row q hql
              have e2 := HMW.out.cell q x hql hxl
              have HD2 : Hid (m q x = true ↔ Dom ss x q) := HDM.out q x hql hxl
              clear hb hA hps hpc
              go_wp2_with fail
              go_loop [11, 12] (fun bb kk => ∃ (u : Nat) (y : Bool), u ≤ (predsK ss rs q ss.length).length ∧ kk = .int .i64 u ∧ bb = .bool y ∧ (y = true ↔ ∃ (j p : Nat), j < u ∧ (predsK ss rs q ss.length).getD j 0 = (p : Int) ∧ Dom ss x p)) (fun _ kk => (predsK ss rs q ss.length).length - (intOf kk).toNat)
              case atStart => exact ⟨0, false, Nat.zero_le _, rfl, rfl, by simp⟩
              case round =>
                obtain ⟨u, y, hu, rfl, rfl, hy⟩ := hrel
                have HX : Hid (y = true ↔ ∃ (j p : Nat), j < u ∧ (predsK ss rs q ss.length).getD j 0 = (p : Int) ∧ Dom ss x p) := hy
                clear hy
                by_cases hul : u < (predsK ss rs q ss.length).length
                · have hui : (u : Int) < ((predsK ss rs q ss.length).length : Int) := by omega
                  obtain ⟨p, hp, hpn⟩ := predsK_nat hul
                  obtain rfl := HA.out (by omega)
                  have ct := HPC.out u hul
                  rw [hp] at ct
                  have HP : Hid ((predsK ss rs q ss.length).getD u 0 = (p : Int)) := hp
                  have hpi : (p : Int) < (ss.length : Int) := by omega
                  have r1 := HMW.out.row p hpn
                  have e1 := HMW.out.cell p x hpn hxl
                  have HD1 : Hid (m p x = true ↔ Dom ss x p) := HDM.out p x hpn hxl
                  have HNEW : Hid (∀ z : Bool, (z = true ↔ (y = true ∨ Dom ss x p)) → (z = true ↔ ∃ (j p : Nat), j < u + 1 ∧ (predsK ss rs q ss.length).getD j 0 = (p : Int) ∧ Dom ss x p)) := by
                    intro z hz
                    rw [hz, HX.out]
                    constructor
                    · rintro (⟨j, q', h1, h2, h3⟩ | h)
                      · exact ⟨j, q', by omega, h2, h3⟩
                      · exact ⟨u, p, by omega, HP.out, h⟩
                    · rintro ⟨j, q', h1, h2, h3⟩
                      by_cases e : j = u
                      · subst e
                        rw [HP.out] at h2
                        have : p = q' := by omega
                        subst this
                        exact Or.inr h3
                      · exact Or.inl ⟨j, q', by omega, h2, h3⟩
                  clear hp
                  cases y
                  · cases h1 : m p x
                    · rw [h1] at e1
                      have HN : Hid _ := HNEW.out false (by simp only [Bool.false_eq_true, false_or, false_iff]; intro hd; have := HD1.out.2 hd; rw [h1] at this; cases this)
                      clear h1
                      go_wp2
                      go_round
                      case rel => exact ⟨u + 1, false, by omega, by go_num, rfl, HN.out⟩
                      case measure => simp [intOf]; omega
                    · rw [h1] at e1
                      have HN : Hid _ := HNEW.out true (by simp [HD1.out.1 h1])
                      clear h1
                      go_wp2
                      go_round
                      case rel => exact ⟨u + 1, true, by omega, by go_num, rfl, HN.out⟩
                      case measure => simp [intOf]; omega
                  · have HN : Hid _ := HNEW.out true (by simp)
                    go_wp2
                    go_round
                    case rel => exact ⟨u + 1, true, by omega, by go_num, rfl, HN.out⟩
                    case measure => simp [intOf]; omega
                · have hui : ¬ (u : Int) < ((predsK ss rs q ss.length).length : Int) := by omega
                  obtain rfl : u = (predsK ss rs q ss.length).length := by omega
                  have HSOME : Hid (y = true ↔ ∃ p, Reaches ss p ∧ Edge ss p q ∧ Dom ss x p) := by
                    rw [Hid, HX.out]
                    constructor
                    · rintro ⟨j, p, h1, h2, h3⟩
                      have h4 : (p : Int) ∈ predsK ss rs q ss.length := by rw [← h2]; exact mem_of_getD h1
                      have h5 := (mem_predsK HRS.out).1 h4
                      exact ⟨p, h5.2.1, h5.2.2, h3⟩
                    · rintro ⟨p, h1, h2, h3⟩
                      obtain ⟨j, hj, e⟩ := mem_getD' ((mem_predsK HRS.out).2 ⟨reach_lt HOK.out h1, h1, h2⟩)
                      exact ⟨j, p, hj, e, h3⟩
                  have HNO : Hid (¬ IsFront ss x q → frK fr x (q + 1) = frK fr x q) := fun h => by
                    rw [HSUC.out, if_neg (fun e => h (HFQ.out.1 e)), List.append_nil]
                  have HYES : Hid (IsFront ss x q → (frK fr x (q + 1)).length = (frK fr x q).length + 1 ∧ (frK fr x q).length < row.length ∧ row.getD (frK fr x q).length 0 = (q : Int)) := fun h => by
                    have h1 := HFQ.out.2 h
                    exact ⟨by rw [HSUC.out, if_pos h1]; simp, HAT.out h1⟩
                  clear HX HA HPC
                  cases y
                  · have HE : Hid (frK fr x (q + 1) = frK fr x q) := HNO.out fun h => by have := HSOME.out.2 h.1; cases this
                    go_wp2
                    go_roundw
                    case rel => exact ⟨q + 1, by omega, by rw [HE.out], by go_num, HB.out⟩
                    case measure => simp [intOf]; omega
                  · have HEX : Hid (∃ p, Reaches ss p ∧ Edge ss p q ∧ Dom ss x p) := HSOME.out.1 rfl
                    by_cases hqx : q = x
                    · subst hqx
                      obtain ⟨hy1, hy2, hy3⟩ := HYES.out ⟨HEX.out, Or.inl rfl⟩
                      have HE : Hid ((frK fr q (q + 1)).length = (frK fr q q).length + 1) := hy1
                      obtain rfl := HAm.out (by omega)
                      have cc := HCELL.out _ hy2
                      rw [hy3] at cc
                      have hli : ¬ ((row.length : Int) ≤ ((frK fr q q).length : Int)) := by omega
                      have hli2 : ((frK fr q q).length : Int) < (row.length : Int) := by omega
                      clear hy1 hy3
                      generalize (frK fr q q).length = L at *
                      go_wp2
                      go_roundw
                      case rel => exact ⟨q + 1, by omega, by rw [HE.out]; go_num, by go_num, HB.out⟩
                      case measure => simp [intOf]; omega
                    · have hqxb : ((q : Int) == (x : Int)) = false := by rw [beq_eq_false_iff_ne]; omega
                      cases hmt : m q x
                      · rw [hmt] at e2
                        obtain ⟨hy1, hy2, hy3⟩ := HYES.out ⟨HEX.out, Or.inr fun hd => by have := HD2.out.2 hd; rw [hmt] at this; cases this⟩
                        have HE : Hid ((frK fr x (q + 1)).length = (frK fr x q).length + 1) := hy1
                        obtain rfl := HAm.out (by omega)
                        have cc := HCELL.out _ hy2
                        rw [hy3] at cc
                        have hli : ¬ ((row.length : Int) ≤ ((frK fr x q).length : Int)) := by omega
                        have hli2 : ((frK fr x q).length : Int) < (row.length : Int) := by omega
                        clear hy1 hy3 hmt
                        generalize (frK fr x q).length = L at *
                        go_wp2
                        go_roundw
                        case rel => exact ⟨q + 1, by omega, by rw [HE.out]; go_num, by go_num, HB.out⟩
                        case measure => simp [intOf]; omega
                      · rw [hmt] at e2
                        have HE : Hid (frK fr x (q + 1) = frK fr x q) := HNO.out fun h => by
                          rcases h.2 with e | e
                          · exact hqx e
                          · exact e (HD2.out.1 hmt)
                        clear hmt
                        go_wp2
                        go_roundw
                        case rel => exact ⟨q + 1, by omega, by rw [HE.out], by go_num, HB.out⟩
                        case measure => simp [intOf]; omega
            · have hqi : ¬ (q : Int) < (ss.length : Int) := by omega
              obtain rfl : q = ss.length := by omega
              clear hb hpq
              rw [hrow]
              go_wp2
              go_roundw
              case rel => exact ⟨x + 1, by omega, by go_num, HB.out⟩
              case measure => simp [intOf]; omega
      · have hxi : ¬ (x : Int) < (ss.length : Int) := by omega
        have HFN : Hid (Below w.heap.size w wr) := HSZ.out _ hbm
        clear hbm
        go_wp2
        exact HQ.out _ HFN.out

theorem gTab : Tryd.prog.globalNamed "math/bits.deBruijn64tab" = some 0 := by kernel_rfl
theorem gTabType : (Tryd.prog.globals[0]?).map (·.type) = some 148 := by kernel_rfl

theorem tab_of_laid {W : World} (h : laidMetH Tryd.prog Rows.fnLoopFrontRow.laid W) : Tab W := by
  have h1 := laidMetH.filter (fun x => x.1 == "math/bits.deBruijn64tab") h
  have h2 : Lib.TabIs Tryd.prog W "math/bits.deBruijn64tab" .u8 (Lib.deBruijn64tab.map Int.ofNat) := Lib.tabIs_of_head (rest := []) gTab gTabType Tryd.underlying148 Tryd.underlying5 (by kernel_rfl) (by kernel_rfl) h1
  intro j hj
  have h3 := h2.cell gTab j (by simpa using hj)
  rw [h3]
  simp only [List.getD, List.getElem?_map]
  cases Lib.deBruijn64tab[j]? <;> rfl

theorem Tab.lt {W : World} (h : Tab W) : 0 < W.heap.size := cell_lt (h 0 (by decide))

/-- The numbers of a table, as cells. -/
def tableCells : DataW Unit → Array Value
  | .agg l => (l.map fun | .lit (.int k n) => Value.int k n | _ => Value.int .i64 0).toArray
  | _ => #[]

/-- A world whose first blocks hold the library's tables. -/
def withTables (W : World) : World :=
  { W with heap := W.heap.modify 0 fun
      | .cells _ t frozen => .cells (tableCells Rows.laid_math_bits_deBruijn64tab) t frozen
      | o => o }

theorem laid_met (os : Os) : laidMet Tryd.prog Rows.fnLoopFrontRow.laid ((withTables (World.holding Tryd.prog os ⟨#[], #[], []⟩)).forCall (fun _ _ => 0) ⟨#[], #[.slice none 0 0], []⟩).memory :=
  laidMet_of_run' 8 (by kernel_rfl) (by kernel_rfl)
theorem reads (os : Os) {H : Type} (enc : TypeId × Value → H) : ∃ places, DataW.whole enc Tryd.prog ((withTables (World.holding Tryd.prog os ⟨#[], #[], []⟩)).forCall (fun _ _ => 0) ⟨#[], #[.slice none 0 0], []⟩).memory Tryd.f5.params.toList Rows.fnLoopFrontSpec.vars false #[Value.slice none 0 0].toList 8 = some ([.nil], [], places) :=
  ⟨[], by kernel_rfl⟩

set_option maxRecDepth 100000 in
theorem contract (H : Type) (enc : TypeId × Value → H) (W : World) (base : Nat) (args : Array Value) (ds gs : List (DataW H)) (before : List MemPlace)
    (hval : ∀ (j : Nat) t v, Tryd.f5.params[j]? = some t → args[j]? = some v → Value.okWide Tryd.prog W .any base t v)
    (hW : DataW.Whole enc Tryd.prog Tryd.f5.params.toList Rows.fnLoopFrontSpec.vars false W args.toList ds gs before) (hL : laidMetH Tryd.prog Rows.fnLoopFrontRow.laid W) :
    Calls Tryd.prog 5 args W fun e W' => ∃ v, e = .returned v ∧ Rows.fnLoopFrontSpec.post enc Tryd.prog Tryd.f5 false true false false W args v W' := by
  have hW' := hW
  obtain ⟨p, q, hA0, hV, rfl, hfz, hnd⟩ := hW
  have hA : DataW.TrodAll enc Tryd.prog W 0 (fun _ => true) true Tryd.f5.params.toList args.toList ds p := hA0
  rw [Tryd.params5] at hA hval
  obtain ⟨v0, vs0, d0, ds0, p0, q0, hargs, rfl, rfl, h0, r0⟩ := trodAll_cons hA
  obtain ⟨rfl, rfl, rfl⟩ := trodAll_nil r0
  obtain rfl : args = #[v0] := by cases args; simp_all
  obtain ⟨rfl, rfl⟩ := trodVars_none hV
  have k0 := h0
  have lt0 : ∀ x ∈ p0, x.block < W.heap.size := by obtain ⟨m, hm⟩ := k0; exact DataW.trod_lt m _ _ _ hm
  have c0 := open_code (hval 0 50 v0 rfl rfl) h0
  clear hA0
  refine law_walk v0 W c0 (fun X hX => ⟨(tab_of_laid hL).keep hX, Nat.lt_of_lt_of_le (Tab.lt (tab_of_laid hL)) hX.size⟩) fun W' bel => ?_
  exact ⟨_, rfl, _, _, _, [], _, [], hW', trodAll_mk1 (shut_bool Tryd.underlying4 _), (trodAll_cons_mk (Below.trod laidOut (by kernel_rfl) (of_decide_eq_true (by kernel_rfl)) k0 bel lt0) trodAll_mk0), rfl, bel.frame _, fun h => by cases h⟩

set_option maxRecDepth 100000 in
theorem lifted (os : Os) (started : os.Started) (H : Type) (enc : TypeId × Value → H) (F : Stop.Interp) :
    ReturnsInHanded {} Tryd.checked os 5 .any ((OpenSpec.ofChange Rows.fnLoopFrontSpec).preRow enc Tryd.prog Tryd.f5 Rows.fnLoopFrontRow.domain false Rows.fnLoopFrontRow.laid) (((OpenSpec.ofChange Rows.fnLoopFrontSpec).at F).post enc Tryd.prog Tryd.f5 false true false false) := by
  obtain ⟨places, hx⟩ := reads os enc
  refine returnsInHanded_of_row (C := Tryd.checked) (s := OpenSpec.ofChange Rows.fnLoopFrontSpec) own started (by kernel_rfl) Tryd.func5
    (witness_row_at (enc := enc) (C := Tryd.checked) false (withTables (World.holding Tryd.prog os ⟨#[], #[], []⟩)) #[.slice none 0 0] rfl (by kernel_rfl) (by kernel_rfl) (by kernel_rfl)
      (OpenSpec.preRow_of_cond 8 hx (by kernel_rfl) (fun k hk => by cases hk) (by kernel_rfl) (laid_met os))) ?_
  intro W base args ds gs before hval hW _ _ _ hL _ _
  exact contract H enc W base args ds gs before hval hW hL

theorem said : Rows.FnLoopFrontSaid :=
  OpenClaim.holds_of_cond 5 Tryd.f5 rfl rfl rfl rfl rfl rfl rfl ⟨rfl, rfl, rfl, rfl, rfl⟩ rfl rfl rfl rfl rfl (by kernel_rfl) Tryd.func5 (by kernel_rfl)
    (of_decide_eq_true (by kernel_rfl)) (by unfold Func.isWrapper; first | (rw [if_pos (by decide +kernel)]; kernel_rfl) | (rw [if_neg (by decide +kernel)]; exact ⟨rfl, rfl⟩))
    (fun os started H enc _ F => by rw [OpenClaim.pre_eq_preRow]; exact lifted os started H enc F)

theorem plain (f : FuncId) (fn : Func) (hf : Tryd.pinned.checked.prog.funcNamed Rows.fnLoopFrontRow.func = some f) (hfn : Tryd.pinned.checked.prog.funcs[f]? = some fn) :
    false = Tryd.pinned.checked.prog.looks [] ∧ ∀ (j : Nat) t, fn.params[j]? = some t → Tryd.pinned.checked.prog.wantsStandIn t = false := by
  obtain rfl : f = 5 := Option.some.inj ((show Tryd.prog.funcNamed Rows.fnLoopFrontRow.func = some 5 by kernel_rfl).symm.trans hf) |>.symm
  obtain rfl : fn = Tryd.f5 := (Option.some.inj (Tryd.func5.symm.trans hfn)).symm
  refine ⟨by kernel_rfl, fun j t ht => ?_⟩
  rw [Tryd.params5] at ht
  obtain rfl : t = 50 := by simpa using Array.mem_of_getElem? ht
  exact (show Tryd.prog.wantsStandIn 50 = false by kernel_rfl)

theorem fnLoopFront_card : Rows.FnLoopFrontCardSaid :=
  Claim7.holds_tied_plain_at .later [] _ _ _ _ said (fun _ h => by cases h) (by kernel_rfl) (fun _ h => by cases h) fnLoopFront_row_tie rfl ⟨rfl, rfl⟩ (by kernel_rfl) rfl plain (by kernel_rfl)
#print axioms fnLoopFront_card
end Go.Proofs.YtljlgffkhocgkaaDoor
