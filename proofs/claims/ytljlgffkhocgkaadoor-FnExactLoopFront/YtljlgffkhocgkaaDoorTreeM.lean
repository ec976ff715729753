/- The tree in memory; what the program's newTree, meet and meetAll answer. -/
import Derived.Test.YtljlgffkhocgkaaDoorDomP
import Derived.Test.YtljlgffkhocgkaaDoorReachI
import Derived.Deep.LoopGhost
namespace Go.Proofs.YtljlgffkhocgkaaDoor
open Go.RowKit

def ovI : Option Nat → Int
  | none => -1
  | some y => (y : Int)

theorem ovI_none : ovI none = -1 := rfl

theorem ovI_some (y : Nat) : ovI (some y) = (y : Int) := rfl

structure TM (w : World) (tb og ocap rg vg n : Nat) (ord : List Nat) (rk : Nat → Nat) (ov : Nat → Option Nat) : Prop where
  c0 : w.cell? ⟨tb, 0, none⟩ = some (.slice (some ⟨og, 0, none⟩) ord.length ocap)
  c1 : w.cell? ⟨tb, 1, none⟩ = some (.slice (some ⟨rg, 0, none⟩) n n)
  c2 : w.cell? ⟨tb, 2, none⟩ = some (.slice (some ⟨vg, 0, none⟩) n n)
  rowO : ∀ i, i < ord.length → w.cell? ⟨og, i, none⟩ = some (intV (ord.getD i 0))
  rowR : w.rowIs rg 3 n (fun j => intV (rk j))
  rowV : w.rowIs vg 3 n (fun j => .int .i64 (ovI (ov j)))
  ne1 : tb ≠ vg
  ne2 : og ≠ vg
  ne3 : rg ≠ vg

theorem TM.keep {w w' : World} {tb og ocap rg vg n : Nat} {ord : List Nat} {rk : Nat → Nat} {ov : Nat → Option Nat} (h : TM w tb og ocap rg vg n ord rk ov) (hb : Below w.heap.size w w') : TM w' tb og ocap rg vg n ord rk ov :=
  ⟨cell_keep hb h.c0, cell_keep hb h.c1, cell_keep hb h.c2, fun i hi => cell_keep hb (h.rowO i hi), rowIs_keep h.rowR hb, rowIs_keep h.rowV hb, h.ne1, h.ne2, h.ne3⟩

theorem TM.set {w : World} {tb og ocap rg vg n : Nat} {ord : List Nat} {rk : Nat → Nat} {ov : Nat → Option Nat} (h : TM w tb og ocap rg vg n ord rk ov) (x m : Nat) : TM (w.setCell ⟨vg, x, none⟩ (.int .i64 (m : Int))) tb og ocap rg vg n ord rk (setO ov x m) :=
  ⟨by rw [cell_setOther _ _ _ _ h.ne1]; exact h.c0, by rw [cell_setOther _ _ _ _ h.ne1]; exact h.c1, by rw [cell_setOther _ _ _ _ h.ne1]; exact h.c2, fun i hi => by rw [cell_setOther _ _ _ _ h.ne2]; exact h.rowO i hi, h.rowR.setOther h.ne3 _, (h.rowV.set x _).congr fun j _ => by by_cases e : j = x <;> simp [e, setO, ovI], h.ne1, h.ne2, h.ne3⟩

set_option maxHeartbeats 1000000 in
theorem meet_any {Q : Ending → World → Prop} {ss : List St} (hok : okB ss = true) {tb og ocap rg vg : Nat} {ord : List Nat} {rk : Nat → Nat} {ov : Nat → Option Nat} (a b : Nat) (w : World) (hT : TM w tb og ocap rg vg ss.length ord rk ov) (hr : Rk ss rk) (ht : Tr ss rk ov) (ha : ∃ z, ov a = some z) (hb : ∃ z, ov b = some z)
    (hQ : ∀ (m : Nat) w', Below w.heap.size w w' → Mt ss ov a b m m → Q (.returned (.int .i64 (m : Int))) w') :
    Calls Tryd.prog 94 #[.pointer (some ⟨tb, 0, none⟩), .int .i64 (a : Int), .int .i64 (b : Int)] w Q := by
  have HQ : Hid _ := hQ
  have HR : Hid (Rk ss rk) := hr
  have HT : Hid (Tr ss rk ov) := ht
  have HTM : Hid (TM w tb og ocap rg vg ss.length ord rk ov) := hT
  have HA : Hid (∃ z, ov a = some z) := ha
  have HB : Hid (∃ z, ov b = some z) := hb
  have HOK : Hid (okB ss = true) := hok
  clear hQ hr ht hT ha hb hok
  go_enter Tryd.func94, Tryd.ntmps94
  go_wp2
  go_loopw [1, 2] (fun x y wr => ∃ a' b' : Nat, x = .int .i64 a' ∧ y = .int .i64 b' ∧ Mt ss ov a b a' b' ∧ Below w.heap.size w wr) (fun x y _ => (rk 0 - rk (intOf x).toNat) + (rk 0 - rk (intOf y).toNat))
  case atStart => exact ⟨a, b, rfl, rfl, Mt.start HA.out HB.out, Below.refl _ _⟩
  case round =>
    obtain ⟨a', b', rfl, rfl, hm, hbw⟩ := hrel
    have HTW := HTM.out.keep hbw
    have c1 := HTW.c1
    have c2 := HTW.c2
    have HM : Hid (Mt ss ov a b a' b') := hm
    obtain ⟨za, hza⟩ := hm.ona
    obtain ⟨zb, hzb⟩ := hm.onb
    have hra := (HT.out.reach a' za hza)
    have hrb := (HT.out.reach b' zb hzb)
    have hal := reach_lt HOK.out hra.1
    have hbl := reach_lt HOK.out hrb.1
    have hai : (a' : Int) < (ss.length : Int) := by omega
    have hbi : (b' : Int) < (ss.length : Int) := by omega
    have ra := HTW.rowR.cell hal
    have rb := HTW.rowR.cell hbl
    have va := HTW.rowV.cell hal
    have vb := HTW.rowV.cell hbl
    rw [hza] at va
    rw [hzb] at vb
    unfold intV at ra rb
    simp only [ovI] at va vb
    have HZA : Hid (ov a' = some za) := hza
    have HZB : Hid (ov b' = some zb) := hzb
    have HBW : Hid (Below w.heap.size w wr) := hbw
    clear hm hza hzb hra hrb hbw HTW
    by_cases he : a' = b'
    · subst he
      go_wp2
      exact HQ.out _ _ HBW.out HM.out
    · have hei : ((a' : Int) == (b' : Int)) = false := by simp; omega
      have hen : ¬ (a' : Int) = (b' : Int) := by omega
      by_cases hlt : rk a' < rk b'
      · have hlti : (rk a' : Int) < (rk b' : Int) := by omega
        obtain ⟨k1, k2, k3⟩ := HM.out.left HR.out HT.out hlt HZA.out
        have K1 : Hid _ := k1
        have K2 : Hid (rk a' < rk za) := k2
        have K3 : Hid (rk za ≤ rk 0) := k3
        clear k1 k2 k3 hlt
        go_wp2_with fail
        go_quiet (fail)
        go_wp2
        go_roundw
        case rel => exact ⟨za, b', rfl, rfl, K1.out, below_drewN HBW.out _⟩
        case measure =>
          have := K2.out
          have := K3.out
          simp [intOf]; omega
      · have hlti : ¬ (rk a' : Int) < (rk b' : Int) := by omega
        obtain ⟨k1, k2, k3⟩ := HM.out.right HR.out HT.out he hlt HZB.out
        have K1 : Hid _ := k1
        have K2 : Hid (rk b' < rk zb) := k2
        have K3 : Hid (rk zb ≤ rk 0) := k3
        clear k1 k2 k3 hlt
        go_wp2_with fail
        go_quiet (fail)
        go_wp2
        go_roundw
        case rel => exact ⟨a', zb, rfl, rfl, K1.out, below_drewN HBW.out _⟩
        case measure =>
          have := K2.out
          have := K3.out
          simp [intOf]; omega

set_option maxHeartbeats 1000000 in
theorem meetAll_any {Q : Ending → World → Prop} {ss : List St} (hok : okB ss = true) {tb og ocap rg vg : Nat} {ord : List Nat} {rk : Nat → Nat} {ov : Nat → Option Nat} (lv : Value) (ps : List Nat) (w : World) (hT : TM w tb og ocap rg vg ss.length ord rk ov) (hr : Rk ss rk) (ht : Tr ss rk ov) (hl : IntsAt w lv (ps.map (fun p : Nat => (p : Int)))) (hpl : ps.length ≤ 1000) (hps : ∀ p ∈ ps, p < ss.length)
    (hQ : ∀ o w', Below w.heap.size w w' → MAO ss ov ps o → Q (.returned (.int .i64 (ovI o))) w') :
    Calls Tryd.prog 76 #[.pointer (some ⟨tb, 0, none⟩), lv] w Q := by
  have HQ : Hid _ := hQ
  have HR : Hid (Rk ss rk) := hr
  have HT : Hid (Tr ss rk ov) := ht
  have HTM : Hid (TM w tb og ocap rg vg ss.length ord rk ov) := hT
  have HOK : Hid (okB ss = true) := hok
  have HPS : Hid (∀ p ∈ ps, p < ss.length) := hps
  obtain ⟨ao, b, o, cap, hlv, ha, hc⟩ := hl
  rw [List.length_map] at hlv ha hc
  subst hlv
  have HA : Hid _ := ha
  have HC : Hid _ := hc
  clear hQ hr ht hT hok hps ha hc
  go_enter Tryd.func76, Tryd.ntmps76
  go_wp2
  go_loopw [5, 10] (fun x i wr => ∃ (t : Nat) (oo : Option Nat), t ≤ ps.length ∧ i = .int .i64 t ∧ x = .int .i64 (ovI oo) ∧ MAO ss ov (ps.take t) oo ∧ Below w.heap.size w wr) (fun _ i _ => ps.length - (intOf i).toNat)
  case atStart => exact ⟨0, none, Nat.zero_le _, rfl, rfl, MAO.nil ss ov, Below.refl _ _⟩
  case round =>
    obtain ⟨t, oo, htl, rfl, rfl, hm, hbw⟩ := hrel
    have HTW := HTM.out.keep hbw
    have c2 := HTW.c2
    have HBW : Hid (Below w.heap.size w wr) := hbw
    have HM : Hid (MAO ss ov (ps.take t) oo) := hm
    clear hm
    by_cases hlt : t < ps.length
    · have hti : (t : Int) < (ps.length : Int) := by omega
      obtain rfl := HA.out (by omega)
      have hpn := HPS.out ps[t] (List.getElem_mem hlt)
      have cp : wr.cell? ⟨b, o + t, none⟩ = some (.int .i64 (ps[t] : Int)) := by
        rw [cell_keep hbw (HC.out t hlt)]
        simp [List.getD, hlt]
      have HTK : Hid (ps.take (t + 1) = ps.take t ++ [ps[t]]) := List.take_succ_eq_append_getElem hlt
      have vp := HTW.rowV.cell hpn
      have hpi : (ps[t] : Int) < (ss.length : Int) := by omega
      have HTX : Hid (TM wr tb og ocap rg vg ss.length ord rk ov) := HTW
      clear hbw HTW
      generalize ps[t] = p at *
      cases hov : ov p with
      | none =>
        rw [hov] at vp
        simp only [ovI] at vp
        have HOV : Hid _ := hov
        clear hov
        go_wp2
        go_roundw
        case rel => exact ⟨t + 1, oo, by omega, by go_num, rfl, by rw [HTK.out]; exact HM.out.skip HOV.out, HBW.out⟩
        case measure => simp [intOf]; omega
      | some z =>
        rw [hov] at vp
        simp only [ovI] at vp
        have HOV : Hid (ov p = some z) := hov
        have hz1 : ((z : Int) == -1) = false := by simp
        have hz2 : ¬ (z : Int) = -1 := by omega
        clear hov
        cases oo with
        | none =>
          simp only [ovI]
          go_wp2
          go_roundw
          case rel => exact ⟨t + 1, some p, by omega, by go_num, rfl, by rw [HTK.out]; exact HM.out.take HOV.out, HBW.out⟩
          case measure => simp [intOf]; omega
        | some a =>
          have ha1 : ((a : Int) == -1) = false := by simp
          have ha2 : ¬ (a : Int) = -1 := by omega
          simp only [ovI]
          go_wp2_with fail
          refine meet_any HOK.out a p _ HTX.out HR.out HT.out (MA.on HM.out) ⟨z, HOV.out⟩ fun m wx hbx hm => ?_
          have HBX : Hid (Below w.heap.size w wx) := HBW.out.trans (hbx.mono HBW.out.size)
          have HMT : Hid (Mt ss ov a p m m) := hm
          clear hm hbx
          go_wp2
          go_roundw
          case rel => exact ⟨t + 1, some m, by omega, by go_num, rfl, by rw [HTK.out]; exact HM.out.meet HOV.out HMT.out, HBX.out⟩
          case measure => simp [intOf]; omega
    · have hti : ¬ (t : Int) < (ps.length : Int) := by omega
      have HM2 : Hid (MAO ss ov ps oo) := by
        have := HM.out
        rwa [List.take_of_length_le (by omega)] at this
      clear HM hbw HTW
      go_wp2
      exact HQ.out oo _ HBW.out HM2.out

theorem TM.setN {w : World} {tb og ocap rg vg n : Nat} {ord : List Nat} {rk : Nat → Nat} {ov : Nat → Option Nat} (h : TM w tb og ocap rg vg n ord rk ov) (x : Nat) : TM (w.setCell ⟨vg, x, none⟩ (.int .i64 (-1))) tb og ocap rg vg n ord rk (fun j => if j = x then none else ov j) :=
  ⟨by rw [cell_setOther _ _ _ _ h.ne1]; exact h.c0, by rw [cell_setOther _ _ _ _ h.ne1]; exact h.c1, by rw [cell_setOther _ _ _ _ h.ne1]; exact h.c2, fun i hi => by rw [cell_setOther _ _ _ _ h.ne2]; exact h.rowO i hi, h.rowR.setOther h.ne3 _, (h.rowV.set x _).congr fun j _ => by by_cases e : j = x <;> simp [e, ovI], h.ne1, h.ne2, h.ne3⟩

theorem TM.setR {w : World} {tb og ocap rg vg n : Nat} {ord : List Nat} {rk : Nat → Nat} {ov : Nat → Option Nat} (h : TM w tb og ocap rg vg n ord rk ov) (n1 : tb ≠ rg) (n2 : og ≠ rg) (x i : Nat) : TM (w.setCell ⟨rg, x, none⟩ (.int .i64 (i : Int))) tb og ocap rg vg n ord (fun j => if j = x then i else rk j) ov :=
  ⟨by rw [cell_setOther _ _ _ _ n1]; exact h.c0, by rw [cell_setOther _ _ _ _ n1]; exact h.c1, by rw [cell_setOther _ _ _ _ n1]; exact h.c2, fun i hi => by rw [cell_setOther _ _ _ _ n2]; exact h.rowO i hi, (h.rowR.set x _).congr fun j _ => by by_cases e : j = x <;> simp [e, intV], h.rowV.setOther (Ne.symm h.ne3) _, h.ne1, h.ne2, h.ne3⟩

theorem TM.congr {w : World} {tb og ocap rg vg n : Nat} {ord : List Nat} {rk : Nat → Nat} {ov ov' : Nat → Option Nat} (h : TM w tb og ocap rg vg n ord rk ov) (e : ∀ j, j < n → ov' j = ov j) : TM w tb og ocap rg vg n ord rk ov' :=
  ⟨h.c0, h.c1, h.c2, h.rowO, h.rowR, h.rowV.congr fun j hj => by rw [e j hj], h.ne1, h.ne2, h.ne3⟩

set_option maxHeartbeats 1000000 in
theorem newTree_any {Q : Ending → World → Prop} (og ocap n : Nat) (ord : List Nat) (w : World) (hn1 : 1 ≤ n) (hn : n ≤ 1000) (hol : ord.length ≤ 1000) (hO : ∀ i, i < ord.length → w.cell? ⟨og, i, none⟩ = some (intV (ord.getD i 0))) (hog : og < w.heap.size) (hnd : ord.Nodup) (hon : ∀ x ∈ ord, x < n)
    (hQ : ∀ tb rg vg rk w', Below w.heap.size w w' → TM w' tb og ocap rg vg n ord rk (fun x => if x = 0 then some 0 else none) → (∀ i x, ord[i]? = some x → rk x = i) → w.heap.size ≤ tb → w.heap.size ≤ rg → w.heap.size ≤ vg → Q (.returned (.pointer (some ⟨tb, 0, none⟩))) w') :
    Calls Tryd.prog 74 #[.slice (some ⟨og, 0, none⟩) ord.length ocap, .int .i64 (n : Int)] w Q := by
  have HQ : Hid _ := hQ
  have HO : Hid _ := hO
  have HND : Hid (ord.Nodup) := hnd
  have HON : Hid _ := hon
  clear hQ hO hnd hon
  obtain ⟨i0, hi, hz0, hz1, hz2⟩ := info_parts infoInt1
  have hmk : ∀ w, (Instr.makeSlice 55 (.int .i64 (n : Int)) (.int .i64 (n : Int))).run Tryd.prog w = .ok (.slice (some ⟨w.heap.size, 0, none⟩) n n) (w.alloc (.cells (madeCells #[.int .i64 0] n) 3)) := fun w => run_make_row 55 3 i0 (.int .i64 0) Tryd.underlying55 hi hz0 hz1 rfl .i64 .i64 n (by rw [hz2]; omega) (by omega) w
  go_enter Tryd.func74, Tryd.ntmps74
  go_wp2_with fail
  go_region
  all_goals (go_wp2_with fail)
  · have TB : Hid (w.heap.size ≠ w.heap.size + 1) := by rw [Hid]; omega
    go_loopw [21] (fun i wr => ∃ k : Nat, k ≤ n ∧ i = .int .i64 k ∧ Below w.heap.size w wr ∧ TM wr (w.heap.size + 1 + 1) og ocap (w.heap.size) (w.heap.size + 1) n ord (fun _ => 0) (fun j => if j < k then none else some 0)) (fun i _ => n - (intOf i).toNat)
    case atStart =>
      refine ⟨0, Nat.zero_le _, rfl, ?_, ⟨by simp [go_sem], by simp [go_sem], by simp [go_sem], fun i hi => ?_, ?_, ?_, by omega, by omega, by omega⟩⟩
      · exact ((((Below.refl w.heap.size w).alloc (Nat.le_refl _) _).alloc (by simp) _).alloc (by simp; omega) _).drew
      · exact cell_keep ((((Below.refl w.heap.size w).alloc (Nat.le_refl _) _).alloc (by simp) _).alloc (by simp; omega) _).drew (HO.out i hi)
      · refine World.rowIs.congr (f := fun _ => .int .i64 0) ?_ fun i hi => ?_
        · exact ((World.rowIs_made w (.int .i64 0) n 3).alloc _).alloc _
        · simp [intV]
      · refine World.rowIs.congr (f := fun _ => .int .i64 0) ?_ fun i hi => ?_
        · have h9 := World.rowIs_made (w.alloc (.cells (madeCells #[.int .i64 0] n) 3)) (.int .i64 0) n 3
          rw [World.size_alloc] at h9
          exact h9.alloc _
        · simp [ovI]
    case round =>
      obtain ⟨k, hk, rfl, hb, hT⟩ := hrel
      have HB : Hid (Below w.heap.size w wr) := hb
      have HT : Hid (TM wr (w.heap.size + 1 + 1) og ocap (w.heap.size) (w.heap.size + 1) n ord (fun _ => 0) (fun j => if j < k then none else some 0)) := hT
      have c2 := hT.c2
      by_cases hkn : k < n
      · have hki : (k : Int) < (n : Int) := by omega
        have rk := hT.rowV.cell hkn
        have fk := hT.rowV.frozen k
        clear hb hT
        go_wp2
        go_roundw
        case rel =>
          refine ⟨k + 1, by omega, by go_num, HB.out.setCell (by simp) _, (HT.out.setN k).congr fun j hj => ?_⟩
          by_cases e : j = k
          · simp [e]
          · have : (j < k + 1) ↔ j < k := by omega
            simp [e, this]
        case measure => simp [intOf]; omega
      · have hki : ¬ (k : Int) < (n : Int) := by omega
        obtain rfl : k = n := by omega
        have HT2 : Hid (TM wr (w.heap.size + 1 + 1) og ocap (w.heap.size) (w.heap.size + 1) k ord (fun _ => 0) (fun _ => none)) := hT.congr fun j hj => by simp [hj]
        clear hb hT HT
        go_wp2
        go_loopw [33] (fun i wr => ∃ (t : Nat) (rk : Nat → Nat), t ≤ ord.length ∧ i = .int .i64 t ∧ Below w.heap.size w wr ∧ TM wr (w.heap.size + 1 + 1) og ocap (w.heap.size) (w.heap.size + 1) k ord rk (fun _ => none) ∧ ∀ i x, i < t → ord[i]? = some x → rk x = i) (fun i _ => ord.length - (intOf i).toNat)
        case atStart => exact ⟨0, _, Nat.zero_le _, rfl, HB.out, HT2.out, fun i x h => by omega⟩
        case round =>
          obtain ⟨t, rk, ht, rfl, hb, hT, hrk⟩ := hrel
          have HB3 : Hid (Below w.heap.size w wr) := hb
          have HT3 : Hid (TM wr (w.heap.size + 1 + 1) og ocap (w.heap.size) (w.heap.size + 1) k ord rk (fun _ => none)) := hT
          have HRK : Hid (∀ i x, i < t → ord[i]? = some x → rk x = i) := hrk
          by_cases htl : t < ord.length
          · have hti : (t : Int) < (ord.length : Int) := by omega
            have c1 := hT.c1
            have co := hT.rowO t htl
            unfold intV at co
            have HGD : Hid (ord.getD t 0 = ord[t]) := by simp [Hid, List.getD, htl]
            rw [HGD.out] at co
            have hxn := HON.out ord[t] (List.getElem_mem htl)
            have HX : Hid (ord[t]? = some ord[t]) := List.getElem?_eq_getElem htl
            have rx := hT.rowR.cell hxn
            have fx := hT.rowR.frozen ord[t]
            unfold intV at rx
            have hxi : (ord[t] : Int) < (k : Int) := by omega
            clear hb hT hrk
            generalize ord[t] = x at *
            go_wp2
            go_roundw
            case rel =>
              refine ⟨t + 1, _, by omega, by go_num, HB3.out.setCell (by simp) _, HT3.out.setR (by omega) (by omega) x t, fun i y hi hy => ?_⟩
              by_cases e : i = t
              · subst e
                rw [HX.out] at hy
                cases hy
                simp
              · have hne : y ≠ x := by
                  intro exy
                  subst exy
                  have h1 := (List.getElem?_eq_some_iff.1 hy).1
                  have := (List.getElem?_inj h1 HND.out).1 (hy.trans HX.out.symm)
                  exact e this
                rw [if_neg hne]
                exact HRK.out i y (by omega) hy
            case measure => simp [intOf]; omega
          · have hti : ¬ (t : Int) < (ord.length : Int) := by omega
            have c2 := hT.c2
            have r0 := hT.rowV.cell (i := 0) (by omega)
            have f0 := hT.rowV.frozen 0
            have hk0 : (0 : Int) < (k : Int) := by omega
            clear hb hT hrk
            go_wp2
            refine HQ.out _ _ _ rk _ (HB3.out.setCell (by simp) _) ((HT3.out.set 0 0).congr fun j hj => rfl) (fun i x hx => HRK.out i x ?_ hx) (by omega) (by omega) (by omega)
            have := (List.getElem?_eq_some_iff.1 hx).1
            omega
  · have TB : Hid (w.heap.size ≠ w.heap.size + 1) := by rw [Hid]; omega
    go_loopw [21] (fun i wr => ∃ k : Nat, k ≤ n ∧ i = .int .i64 k ∧ Below w.heap.size w wr ∧ TM wr (w.heap.size + 1 + 1) og ocap (w.heap.size + 1) (w.heap.size) n ord (fun _ => 0) (fun j => if j < k then none else some 0)) (fun i _ => n - (intOf i).toNat)
    case atStart =>
      refine ⟨0, Nat.zero_le _, rfl, ?_, ⟨by simp [go_sem], by simp [go_sem], by simp [go_sem], fun i hi => ?_, ?_, ?_, by omega, by omega, by omega⟩⟩
      · exact ((((Below.refl w.heap.size w).alloc (Nat.le_refl _) _).alloc (by simp) _).alloc (by simp; omega) _).drew
      · exact cell_keep ((((Below.refl w.heap.size w).alloc (Nat.le_refl _) _).alloc (by simp) _).alloc (by simp; omega) _).drew (HO.out i hi)
      · refine World.rowIs.congr (f := fun _ => .int .i64 0) ?_ fun i hi => ?_
        · have h9 := World.rowIs_made (w.alloc (.cells (madeCells #[.int .i64 0] n) 3)) (.int .i64 0) n 3
          rw [World.size_alloc] at h9
          exact h9.alloc _
        · simp [intV]
      · refine World.rowIs.congr (f := fun _ => .int .i64 0) ?_ fun i hi => ?_
        · exact ((World.rowIs_made w (.int .i64 0) n 3).alloc _).alloc _
        · simp [ovI]
    case round =>
      obtain ⟨k, hk, rfl, hb, hT⟩ := hrel
      have HB : Hid (Below w.heap.size w wr) := hb
      have HT : Hid (TM wr (w.heap.size + 1 + 1) og ocap (w.heap.size + 1) (w.heap.size) n ord (fun _ => 0) (fun j => if j < k then none else some 0)) := hT
      have c2 := hT.c2
      by_cases hkn : k < n
      · have hki : (k : Int) < (n : Int) := by omega
        have rk := hT.rowV.cell hkn
        have fk := hT.rowV.frozen k
        clear hb hT
        go_wp2
        go_roundw
        case rel =>
          refine ⟨k + 1, by omega, by go_num, HB.out.setCell (by simp) _, (HT.out.setN k).congr fun j hj => ?_⟩
          by_cases e : j = k
          · simp [e]
          · have : (j < k + 1) ↔ j < k := by omega
            simp [e, this]
        case measure => simp [intOf]; omega
      · have hki : ¬ (k : Int) < (n : Int) := by omega
        obtain rfl : k = n := by omega
        have HT2 : Hid (TM wr (w.heap.size + 1 + 1) og ocap (w.heap.size + 1) (w.heap.size) k ord (fun _ => 0) (fun _ => none)) := hT.congr fun j hj => by simp [hj]
        clear hb hT HT
        go_wp2
        go_loopw [33] (fun i wr => ∃ (t : Nat) (rk : Nat → Nat), t ≤ ord.length ∧ i = .int .i64 t ∧ Below w.heap.size w wr ∧ TM wr (w.heap.size + 1 + 1) og ocap (w.heap.size + 1) (w.heap.size) k ord rk (fun _ => none) ∧ ∀ i x, i < t → ord[i]? = some x → rk x = i) (fun i _ => ord.length - (intOf i).toNat)
        case atStart => exact ⟨0, _, Nat.zero_le _, rfl, HB.out, HT2.out, fun i x h => by omega⟩
        case round =>
          obtain ⟨t, rk, ht, rfl, hb, hT, hrk⟩ := hrel
          have HB3 : Hid (Below w.heap.size w wr) := hb
          have HT3 : Hid (TM wr (w.heap.size + 1 + 1) og ocap (w.heap.size + 1) (w.heap.size) k ord rk (fun _ => none)) := hT
          have HRK : Hid (∀ i x, i < t → ord[i]? = some x → rk x = i) := hrk
          by_cases htl : t < ord.length
          · have hti : (t : Int) < (ord.length : Int) := by omega
            have c1 := hT.c1
            have co := hT.rowO t htl
            unfold intV at co
            have HGD : Hid (ord.getD t 0 = ord[t]) := by simp [Hid, List.getD, htl]
            rw [HGD.out] at co
            have hxn := HON.out ord[t] (List.getElem_mem htl)
            have HX : Hid (ord[t]? = some ord[t]) := List.getElem?_eq_getElem htl
            have rx := hT.rowR.cell hxn
            have fx := hT.rowR.frozen ord[t]
            unfold intV at rx
            have hxi : (ord[t] : Int) < (k : Int) := by omega
            clear hb hT hrk
            generalize ord[t] = x at *
            go_wp2
            go_roundw
            case rel =>
              refine ⟨t + 1, _, by omega, by go_num, HB3.out.setCell (by simp) _, HT3.out.setR (by omega) (by omega) x t, fun i y hi hy => ?_⟩
              by_cases e : i = t
              · subst e
                rw [HX.out] at hy
                cases hy
                simp
              · have hne : y ≠ x := by
                  intro exy
                  subst exy
                  have h1 := (List.getElem?_eq_some_iff.1 hy).1
                  have := (List.getElem?_inj h1 HND.out).1 (hy.trans HX.out.symm)
                  exact e this
                rw [if_neg hne]
                exact HRK.out i y (by omega) hy
            case measure => simp [intOf]; omega
          · have hti : ¬ (t : Int) < (ord.length : Int) := by omega
            have c2 := hT.c2
            have r0 := hT.rowV.cell (i := 0) (by omega)
            have f0 := hT.rowV.frozen 0
            have hk0 : (0 : Int) < (k : Int) := by omega
            clear hb hT hrk
            go_wp2
            refine HQ.out _ _ _ rk _ (HB3.out.setCell (by simp) _) ((HT3.out.set 0 0).congr fun j hj => rfl) (fun i x hx => HRK.out i x ?_ hx) (by omega) (by omega) (by omega)
            have := (List.getElem?_eq_some_iff.1 hx).1
            omega
end Go.Proofs.YtljlgffkhocgkaaDoor
