/- What the program's nearestOver answers. -/
import Derived.Test.YtljlgffkhocgkaaDoorTreeM
import Derived.Test.YtljlgffkhocgkaaDoorMat
import Derived.Test.YtljlgffkhocgkaaDoorPredsOf
namespace Go.Proofs.YtljlgffkhocgkaaDoor
open Go.RowKit

def predsN (ss : List St) (rs : List Bool) (j : Nat) : List Nat := (List.range ss.length).filter (fun a => rs.getD a false && decide ((j : Int) ∈ nextOf ss a))

theorem predsN_map (ss : List St) (rs : List Bool) (j : Nat) : predsK ss rs j ss.length = (predsN ss rs j).map (fun p : Nat => (p : Int)) := rfl

theorem predsN_mem {ss : List St} {rs : List Bool} (h : IsReach ss rs) (hok : okB ss = true) {j p : Nat} : p ∈ predsN ss rs j ↔ (Reaches ss p ∧ Edge ss p j) := by
  have h1 := mem_predsK (j := j) (p := p) h
  rw [predsN_map] at h1
  simp only [List.mem_map] at h1
  constructor
  · intro hp
    exact (h1.1 ⟨p, hp, rfl⟩).2
  · intro hp
    obtain ⟨a, ha, e⟩ := h1.2 ⟨reach_lt hok hp.1, hp⟩
    have : a = p := by omega
    exact this ▸ ha

theorem predsN_len (ss : List St) (rs : List Bool) (j : Nat) : (predsN ss rs j).length ≤ ss.length := by
  have := List.length_filter_le (fun a => rs.getD a false && decide ((j : Int) ∈ nextOf ss a)) (List.range ss.length)
  simpa [predsN] using this

theorem ovI_inj {a b : Option Nat} (h : ovI a = ovI b) : a = b := by
  cases a <;> cases b <;> simp [ovI] at h ⊢ <;> omega

def ovV (ov : Nat → Option Nat) : Nat → Value := fun j => .int .i64 (ovI (ov j))

set_option maxRecDepth 100000 in
set_option maxHeartbeats 4000000 in
theorem nearestOver_any {Q : Ending → World → Prop} (v : Value) (ss : List St) (w : World) (h : StepsAt w v ss) (hok : okB ss = true)
    (hQ : ∀ vg ov w', Below w.heap.size w w' → OverF ss ov → w.heap.size ≤ vg → w'.rowIs vg 3 ss.length (ovV ov) → Q (.returned (.slice (some ⟨vg, 0, none⟩) ss.length ss.length)) w') :
    Calls Tryd.prog 48 #[v] w Q := by
  have HQ : Hid _ := hQ
  clear hQ
  obtain ⟨hn1, hn2⟩ := ok_len hok
  have HOK : Hid (okB ss = true) := hok
  obtain ⟨ao, b, o, cap, rfl, ha, hc⟩ := id h
  obtain rfl := ha (by omega)
  have HH : Hid (StepsAt w (.slice (some ⟨b, o, none⟩) ss.length cap) ss) := h
  clear ha hc h hok
  go_enter Tryd.func48, Tryd.ntmps48
  go_wp2_with fail
  refine leaveOrder_any _ ss _ HH.out HOK.out fun v2 ord w2 hb2 hord hown2 => ?_
  have hlss : ord.length ≤ ss.length := by
    have h1 := hord.nodup
    have h2 : ord.length ≤ (List.range ss.length).length := h1.length_le_of_subset fun x hx => by simp [((hord.mem x).1 hx).1]
    simp at h2
    omega
  have hlen : ord.length ≤ 60 := by omega
  have hlen2 : 1 ≤ ord.length := by
    obtain ⟨r, hr⟩ := hord.last
    rw [hr]; simp
  obtain ⟨og, ocap, hsv⟩ : ∃ g cap2, v2 = .slice (some ⟨g, 0, none⟩) ord.length cap2 := by
    rcases hown2.2 with ⟨_, h0⟩ | ⟨g, cap2, cur, hv, _⟩
    · omega
    · exact ⟨g, cap2, hv⟩
  subst hsv
  have hog := hown2.lt _ rfl
  have HOC : Hid (∀ i, i < ord.length → w2.cell? ⟨og, i, none⟩ = some (intV (ord.getD i 0))) := by
    intro i hi
    rw [hown2.cellAt i (by omega)]
    simp [hi, intV]
  have HORD : Hid (IsOrder ss ord) := hord
  have HB2 : Hid (Below w.heap.size w w2) := hb2
  clear hown2 hord hb2
  go_wp2_with fail
  refine newTree_any og ocap ss.length ord _ hn1 (by omega) (by omega) HOC.out hog.2 HORD.out.nodup (fun x hx => ((HORD.out.mem x).1 hx).1) fun tb rg vg rk w3 hb3 hT3 hrk hl1 hl2 hl3 => ?_
  obtain ⟨hRk, hr0⟩ := HORD.out.rk HOK.out hrk
  have HRK : Hid (∀ i x, ord[i]? = some x → rk x = i) := hrk
  have HR : Hid (Rk ss rk) := hRk
  have HR0 : Hid (rk 0 + 1 = ord.length) := hr0
  have HB3 : Hid (Below w.heap.size w w3) := HB2.out.trans (hb3.mono HB2.out.size)
  have HT3 : Hid (TM w3 tb og ocap rg vg ss.length ord rk (fun x => if x = 0 then some 0 else none)) := hT3
  have hs23 := hb3.size
  have hsw := HB2.out.size
  have hvg3 : vg < w3.heap.size := hT3.rowV.lt
  have htb3 : tb < w3.heap.size := cell_lt hT3.c0
  clear hb3 hT3 hrk hRk hr0
  go_wp2_with fail
  refine predsOf_any _ ss _ (HH.out.keep HB3.out) HOK.out fun v4 rs w4 hb4 hrs hrow4 => ?_
  have HB4 : Hid (Below w.heap.size w w4) := HB3.out.trans (hb4.mono HB3.out.size)
  have HT4 : Hid (TM w4 tb og ocap rg vg ss.length ord rk (fun x => if x = 0 then some 0 else none)) := HT3.out.keep hb4
  have HRS : Hid (IsReach ss rs) := hrs
  have HRW : Hid (RowsI w3.heap.size w4.heap.size w4 v4 (predsL ss rs)) := hrow4
  obtain ⟨pao, pg, pcap, hpv, hpr⟩ := hrow4.read
  rw [show (predsL ss rs).length = ss.length by simp [predsL]] at hpv
  subst hpv
  have HPR : Hid _ := hpr
  have HPG : Hid (pao = some ⟨pg, 0, none⟩ → w3.heap.size ≤ pg ∧ pg < w4.heap.size) := by
    intro e
    obtain ⟨vs, _, h2, h3, _⟩ := hrow4
    subst e
    have h5 := (h2.lt pg rfl).1
    have h6 := h3 pg rfl
    exact ⟨by omega, h6⟩
  have hs34 := hb4.size
  clear hb4 hrs hrow4 hpr
  have HPW : Hid (∀ wx : World, Out vg (vg + 1) w4 wx → ∀ (i : Nat), i < ss.length → ∃ A c, pao = some ⟨pg, 0, none⟩ ∧ wx.cell? ⟨pg, i, none⟩ = some (.slice A (predsN ss rs i).length c) ∧ IntsAt wx (.slice A (predsN ss rs i).length c) ((predsN ss rs i).map (fun p : Nat => (p : Int)))) := by
    intro wx hbx i hi
    obtain ⟨x, A, c, h1, h2, h3, h4⟩ := HPR.out i (predsK ss rs i ss.length) (by simp [predsL, hi])
    subst h3
    have hpg := HPG.out h1
    rw [predsN_map, List.length_map] at h2
    rw [predsN_map, List.length_map] at h4
    exact ⟨A, c, h1, hbx.cell h2 (Or.inr (by show vg + 1 ≤ pg; omega)), (h4.out hbx (Or.inr (by omega))).at⟩
  clear HPR HPG
  go_wp2_with fail
  go_loopg [5] (ss.length + 4) (fun gk ch wr => ∃ (ov : Nat → Option Nat) (j : Nat) (c : Bool), ch = .bool c ∧ Out vg (vg + 1) w4 wr ∧ TM wr tb og ocap rg vg ss.length ord rk ov ∧ (c = true → PassI ss rk ov (j + 1) (rk 0) false ∧ gk + j = ss.length + 4 ∧ j ≤ ss.length + 2) ∧ (c = false → PassI ss rk ov j 0 false))
  case atStart => exact ⟨_, 0, true, rfl, Out.refl _ _ _, HT4.out, fun _ => ⟨PassI.start HR.out, by omega, by omega⟩, by simp⟩
  case round =>
    obtain ⟨ov, j, c, rfl, hO, hT, hy, hn⟩ := hrel
    have HO : Hid (Out vg (vg + 1) w4 wr) := hO
    have HT : Hid (TM wr tb og ocap rg vg ss.length ord rk ov) := hT
    have c0 := hT.c0
    have c2 := hT.c2
    clear hO hT
    cases c
    · have HF : Hid (PassI ss rk ov j 0 false) := hn rfl
      clear hy hn
      go_wp2
      exact HQ.out vg ov _ (HB4.out.trans (HO.out.below (by omega) (by omega))) (HF.out.fin HR.out (by have := HR0.out; omega)) (by omega) HT.out.rowV
    · obtain ⟨hp, hg, hj⟩ := hy rfl
      have HP : Hid (PassI ss rk ov (j + 1) (rk 0) false) := hp
      clear hy hn hp
      have hlw : IntKind.i64.wrap ((ord.length : Int) - 2) = (ord.length : Int) - 2 := by simp [IntKind.wrap, IntKind.bits, IntKind.signed]; omega
      go_wp2
      go_loopw [5, 6] (fun ch i wr => ∃ (k : Nat) (ov : Nat → Option Nat) (c : Bool), ch = .bool c ∧ i = .int .i64 ((k : Int) - 1) ∧ k ≤ rk 0 ∧ Out vg (vg + 1) w4 wr ∧ TM wr tb og ocap rg vg ss.length ord rk ov ∧ PassI ss rk ov (j + 1) k c) (fun _ i _ => (intOf i + 1).toNat)
      case atStart => exact ⟨rk 0, ov, false, rfl, by have := HR0.out; congr 1; omega, Nat.le_refl _, HO.out, HT.out, HP.out⟩
      case round =>
        obtain ⟨k, ov2, c, rfl, rfl, hk, hO2, hT2, hP2⟩ := hrel
        have HO2 : Hid (Out vg (vg + 1) w4 wr) := hO2
        have HT2 : Hid (TM wr tb og ocap rg vg ss.length ord rk ov2) := hT2
        have HP2 : Hid (PassI ss rk ov2 (j + 1) k c) := hP2
        have d0 := hT2.c0
        have d2 := hT2.c2
        clear hP2
        cases k with
        | zero =>
          clear hO2 hT2
          have HQT : Hid (ss.length + 2 ≤ j + 1 → c = false) := HP2.out.quiet
          go_wp2
          cases c
          · go_roundg (gk - 1)
            case rel => exact ⟨ov2, j + 1, false, rfl, HO2.out, HT2.out, by simp, fun _ => HP2.out⟩
            case measure => omega
          · go_roundg (gk - 1)
            case rel => exact ⟨ov2, j + 1, true, rfl, HO2.out, HT2.out, fun _ => ⟨HP2.out.again HR.out, by omega, by
              have := HQT.out
              apply Classical.byContradiction
              intro hh
              have := this (by omega)
              cases this⟩, by simp⟩
            case measure => omega
        | succ k =>
          have e1 : ((k + 1 : Nat) : Int) - 1 = (k : Int) := by omega
          rw [e1]
          have hkl : k < ord.length := by have := HR0.out; omega
          have hki : (k : Int) < (ord.length : Int) := by omega
          have co := hT2.rowO k hkl
          unfold intV at co
          have HGD : Hid (ord.getD k 0 = ord[k]) := by simp [Hid, List.getD, hkl]
          rw [HGD.out] at co
          have HX : Hid (ord[k]? = some ord[k]) := List.getElem?_eq_getElem hkl
          have hxm := (HORD.out.mem ord[k]).1 (List.getElem_mem hkl)
          have hxn := hxm.1
          have HXR : Hid (Reaches ss ord[k]) := hxm.2
          have HXK : Hid (rk ord[k] = k) := HRK.out k _ HX.out
          have hxi : (ord[k] : Int) < (ss.length : Int) := by omega
          clear HX hxm
          generalize ord[k] = x at *
          have HX0 : Hid (x ≠ 0) := fun e => by have h1 := HXK.out; rw [e] at h1; omega
          have rx := hT2.rowV.cell hxn
          have fx := hT2.rowV.frozen x
          obtain ⟨A, pc, rfl, cp, ip⟩ := HPW.out wr hO2 x hxn
          have HIP : Hid _ := ip
          have hpl := predsN_len ss rs x
          have hwk : IntKind.i64.wrap ((k : Int) - 1) = (k : Int) - 1 := by simp [IntKind.wrap, IntKind.bits, IntKind.signed]; omega
          clear hO2 hT2 ip
          go_wp2_with fail
          refine meetAll_any HOK.out _ (predsN ss rs x) _ HT2.out HR.out HP2.out.tr HIP.out (by omega) (fun p hp => reach_lt HOK.out ((predsN_mem HRS.out HOK.out).1 hp).1) fun o w6 hb6 hm => ?_
          obtain ⟨m, rfl, hma, hlt, hdj, hlow⟩ := HP2.out.found HR.out HXR.out HX0.out HXK.out (fun p => predsN_mem HRS.out HOK.out) hm
          have HMA : Hid (MA ss ov2 (predsN ss rs x) m) := hma
          have HLT : Hid (rk x < rk m) := hlt
          have HDJ : Hid (Dj ss rk (j + 1) m x) := hdj
          have HLOW : Hid (∀ d, d ≠ x → Dom ss d x → Dom ss d m) := hlow
          have HT6 : Hid (TM w6 tb og ocap rg vg ss.length ord rk ov2) := HT2.out.keep hb6
          have HO6 : Hid (Out vg (vg + 1) w4 w6) := HO2.out.trans (Out.of_below hb6)
          have g2 := HT6.out.c2
          have gx := HT6.out.rowV.cell hxn
          have gfx := HT6.out.rowV.frozen x
          clear hb6 hm hma hlt hdj hlow d0 d2 rx fx co cp c0 c2
          simp only [ovI]
          by_cases he : ov2 x = some m
          · rw [he] at gx
            simp only [ovI] at gx
            have HE : Hid (ov2 x = some m) := he
            clear he
            go_wp2
            go_roundw
            case rel => exact ⟨k, ov2, c, rfl, rfl, by omega, HO6.out, HT6.out, HP2.out.same HR.out HXR.out HX0.out HXK.out (fun p => predsN_mem HRS.out HOK.out) HMA.out HDJ.out HE.out⟩
            case measure => simp [intOf]
          · have HE : Hid (ov2 x ≠ some m) := he
            have hne : ¬ (m : Int) = ovI (ov2 x) := fun e => he (ovI_inj (by rw [← e]; rfl))
            have hneb : ((m : Int) == ovI (ov2 x)) = false := by simpa using hne
            clear he
            generalize hz : ovI (ov2 x) = z at *
            clear hz
            go_wp2
            go_roundw
            case rel => exact ⟨k, setO ov2 x m, true, rfl, rfl, by omega, HO6.out.setCell (Nat.le_refl _) (Nat.lt_succ_self _) _, HT6.out.set x m, HP2.out.change HOK.out HR.out HXR.out HX0.out HXK.out HMA.out HLT.out HDJ.out HLOW.out HE.out⟩
            case measure => simp [intOf]
end Go.Proofs.YtljlgffkhocgkaaDoor
