/- A reckoning's view of a program: what viewOf lays; who stands behind a step, and ahead of it. Who stands behind a step, and ahead of it, as the program's view tells. -/
import Derived.Test.YthaiiegofofnmaaImplEC
import Derived.Test.YthaiiegofofnmaaImplEKA
import Derived.Test.YthaiiegofofnmaaPredsOf
import Derived.Test.YthaiiegofofnmaaSafeP
import Derived.Test.YthaiiegofofnmaaReachI
import Derived.Test.YthaiiegofofnmaaSafeF
import Derived.Test.YthaiiegofofnmaaSolve
import Derived.Deep.RegionHeld3
namespace Go.Proofs.Ythaiiegofofnmaa
open Go.RowKit Go.Maps

/-- What lies behind a view's pointer. -/
structure VS (w : World) (V : Nat) (ss : List St) (e : E5) (ord : List Nat) (rs : List Bool) (A : Option Addr) (c og oc : Nat) (pv : Value) (bc bk : BitVec 64) : Prop where
  c0 : w.cell? ⟨V, 0, none⟩ = some (.slice A ss.length c)
  st : StepsAt w (.slice A ss.length c) ss
  c1 : w.cell? ⟨V, 1, none⟩ = some (.slice (some ⟨og, 0, none⟩) ord.length oc)
  od : ∀ i, i < ord.length → w.cell? ⟨og, i, none⟩ = some (intV (ord.getD i 0))
  io : IsOrder ss ord
  c2 : w.cell? ⟨V, 2, none⟩ = some pv
  pr : ∃ lo hi, RowsI lo hi w pv (predsL ss rs)
  re : IsReach ss rs
  c3 : w.cell? ⟨V, 3, none⟩ = some (bsV bc)
  cw : CompW ss e bc
  c4 : w.cell? ⟨V, 4, none⟩ = some (bsV bk)
  kw : ∀ j (hj : j < ss.length), bk.getLsbD j = keepB e ss[j]

theorem VS.keep {w w' : World} {V : Nat} {ss : List St} {e : E5} {ord : List Nat} {rs : List Bool} {A : Option Addr} {c og oc : Nat} {pv : Value} {bc bk : BitVec 64} (h : VS w V ss e ord rs A c og oc pv bc bk) (hb : Below w.heap.size w w') : VS w' V ss e ord rs A c og oc pv bc bk :=
  ⟨cell_keep hb h.c0, h.st.keep hb, cell_keep hb h.c1, fun i hi => cell_keep hb (h.od i hi), h.io, cell_keep hb h.c2, by obtain ⟨lo, hi, hr⟩ := h.pr; exact ⟨lo, hi, hr.keep hb⟩, h.re, cell_keep hb h.c3, h.cw, cell_keep hb h.c4, h.kw⟩

theorem keep_v {Q : Ending → World → Prop} (f : Nat → BitVec 64) (e : E5) (n : Nat) (w : World) (hn : n ≤ 60)
    (hQ : ∀ w', Below w.heap.size w w' → Q (.returned (.int .u64 ((kpB f e n).toNat : Int))) w') :
    Calls Try.prog 67 #[chV f, .agg #[.int .i64 e.op, .int .i64 e.av, .int .i64 e.an, .int .i64 e.bv, .int .i64 e.bn], .int .i64 (n : Int)] w Q := keep_any f e n w hn hQ

set_option maxRecDepth 100000 in
set_option maxHeartbeats 4000000 in
theorem viewOf_any {Q : Ending → World → Prop} (A : Option Addr) (c : Nat) (ss : List St) (e : E5) (w : World) (h : StepsAt w (.slice A ss.length c) ss) (hok : okB ss = true) (hex : exprB e = true)
    (hQ : ∀ V ord rs og oc pv bc bk w', Below w.heap.size w w' → VS w' V ss e ord rs A c og oc pv bc bk → Q (.returned (.pointer (some ⟨V, 0, none⟩))) w') :
    Calls Try.prog 40 #[.slice A ss.length c, .agg #[.int .i64 e.op, .int .i64 e.av, .int .i64 e.an, .int .i64 e.bv, .int .i64 e.bn]] w Q := by
  have HQ : Hid _ := hQ
  clear hQ
  have HH : Hid (StepsAt w (.slice A ss.length c) ss) := h
  have HOK : Hid (okB ss = true) := hok
  have HEX : Hid (exprB e = true) := hex
  have HXV : Hid (exV e = .agg #[.int .i64 e.op, .int .i64 e.av, .int .i64 e.an, .int .i64 e.bv, .int .i64 e.bn]) := rfl
  have hn2 : ss.length ≤ 60 := (ok_len hok).2
  clear h hok hex
  go_enter Try.func40, Try.ntmps40
  go_wp2_with fail
  have hb0 : Below w.heap.size w (w.alloc (.cells #[.int .i64 e.op, .int .i64 e.av, .int .i64 e.an, .int .i64 e.bv, .int .i64 e.bn] 38)) := (Below.refl _ _).alloc (Nat.le_refl _) _
  have x0 : (w.alloc (.cells #[.int .i64 e.op, .int .i64 e.av, .int .i64 e.an, .int .i64 e.bv, .int .i64 e.bn] 38)).cell? ⟨w.heap.size, 0, none⟩ = some (.int .i64 e.op) := by simp [go_sem]
  have x1 : (w.alloc (.cells #[.int .i64 e.op, .int .i64 e.av, .int .i64 e.an, .int .i64 e.bv, .int .i64 e.bn] 38)).cell? ⟨w.heap.size, 1, none⟩ = some (.int .i64 e.av) := by simp [go_sem]
  have x2 : (w.alloc (.cells #[.int .i64 e.op, .int .i64 e.av, .int .i64 e.an, .int .i64 e.bv, .int .i64 e.bn] 38)).cell? ⟨w.heap.size, 2, none⟩ = some (.int .i64 e.an) := by simp [go_sem]
  have x3 : (w.alloc (.cells #[.int .i64 e.op, .int .i64 e.av, .int .i64 e.an, .int .i64 e.bv, .int .i64 e.bn] 38)).cell? ⟨w.heap.size, 3, none⟩ = some (.int .i64 e.bv) := by simp [go_sem]
  have x4 : (w.alloc (.cells #[.int .i64 e.op, .int .i64 e.av, .int .i64 e.an, .int .i64 e.bv, .int .i64 e.bn] 38)).cell? ⟨w.heap.size, 4, none⟩ = some (.int .i64 e.bn) := by simp [go_sem]
  generalize w.alloc (.cells #[.int .i64 e.op, .int .i64 e.av, .int .i64 e.an, .int .i64 e.bv, .int .i64 e.bn] 38) = W0 at *
  have HB0 : Hid (Below w.heap.size w W0) := hb0
  clear hb0
  go_region_held3 (fun wx => wx.cell? ⟨w.heap.size, 0, none⟩ = some (.int .i64 e.op) ∧ wx.cell? ⟨w.heap.size, 1, none⟩ = some (.int .i64 e.av) ∧ wx.cell? ⟨w.heap.size, 2, none⟩ = some (.int .i64 e.an) ∧ wx.cell? ⟨w.heap.size, 3, none⟩ = some (.int .i64 e.bv) ∧ wx.cell? ⟨w.heap.size, 4, none⟩ = some (.int .i64 e.bn)) (go_keep) (first
    | (go_at_call 62; refine leaveOrder_any _ ss _ (HH.out.keep (HB0.out.drew)) HOK.out ?_; intro v1 ord W1 hb1 hio hown1; have a0 := cell_keep hb1 x0; have a1 := cell_keep hb1 x1; have a2 := cell_keep hb1 x2; have a3 := cell_keep hb1 x3; have a4 := cell_keep hb1 x4; have HB1 : Hid (Below w.heap.size w W1) := HB0.out.drew.trans (hb1.mono HB0.out.size); obtain ⟨A1, c1, hv1⟩ := own_form hown1; subst hv1)
    | (go_at_call 63; refine predsOf_any _ ss _ (HH.out.keep HB1.out) HOK.out ?_; intro v2 rs W2 hb2 hre hrow2; have b0 := cell_keep hb2 a0; have b1 := cell_keep hb2 a1; have b2 := cell_keep hb2 a2; have b3 := cell_keep hb2 a3; have b4 := cell_keep hb2 a4; have HB2 : Hid (Below w.heap.size w W2) := HB1.out.trans (hb2.mono HB1.out.size); obtain ⟨A2, c2, hv2⟩ := hrow2.slice; subst hv2)
    | (go_at_call 64; refine reckonedBy_any _ ss _ (HH.out.keep HB2.out) HOK.out ?_; intro W4 es bs D lv sv hRS hb4 hs4 hes hcb; subst hes; have z0 := cell_keep hb4 b0; have z1 := cell_keep hb4 b1; have z2 := cell_keep hb4 b2; have z3 := cell_keep hb4 b3; have z4 := cell_keep hb4 b4; have HB4 : Hid (Below w.heap.size w W4) := HB2.out.trans (hb4.mono HB2.out.size))
    | (go_at_call 65; rw [← HXV.out]; refine reckonedSteps_any _ _ _ (Nat.lt_succ_self _) W4 ss bs D lv sv hRS hs4 hcb e HEX.out ?_; intro bb W5 hcw hb5; rw [HXV.out]; have u0 := cell_keep hb5 z0; have u1 := cell_keep hb5 z1; have u2 := cell_keep hb5 z2; have u3 := cell_keep hb5 z3; have u4 := cell_keep hb5 z4; have HB5 : Hid (Below w.heap.size w W5) := HB4.out.trans (hb5.mono HB4.out.size))
    | (go_at_call 66; refine changedBy_any _ ss _ (HH.out.keep HB5.out) HOK.out ?_; intro f W6 hb6 hcf; have t0 := cell_keep hb6 u0; have t1 := cell_keep hb6 u1; have t2 := cell_keep hb6 u2; have t3 := cell_keep hb6 u3; have t4 := cell_keep hb6 u4; have HB6 : Hid (Below w.heap.size w W6) := HB5.out.trans (hb6.mono HB5.out.size))
    | (go_at_call 67; refine keep_v f e ss.length _ hn2 ?_; intro W7 hb7; have s0 := cell_keep hb7 t0; have s1 := cell_keep hb7 t1; have s2 := cell_keep hb7 t2; have s3 := cell_keep hb7 t3; have s4 := cell_keep hb7 t4; have HB7 : Hid (Below w.heap.size w W7) := HB6.out.trans (hb7.mono HB6.out.size)))
  all_goals
    have hb57 := hb6.trans (hb7.mono hb6.size)
    have hb47 := hb5.trans (hb57.mono hb5.size)
    have hb27 := hb4.trans (hb47.mono hb4.size)
    have hb17 := hb2.trans (hb27.mono hb2.size)
    have hol : 0 < ord.length := by
      obtain ⟨r, hr⟩ := hio.last
      rw [hr]
      simp
    obtain ⟨g1, cc1, hv1, _, _⟩ := hown1.form hol
    cases hv1
    have HOD : Hid (∀ i, i < ord.length → W7.cell? ⟨g1, i, none⟩ = some (intV (ord.getD i 0))) := fun i hi => by
      have h1 := hown1.cellAt i (by omega)
      rw [List.getElem?_map, List.getElem?_eq_getElem hi] at h1
      have h2 := cell_keep hb17 h1
      rw [h2, List.getD_eq_getElem?_getD, List.getElem?_eq_getElem hi]
      rfl
    have HPR : Hid (RowsI W1.heap.size W2.heap.size W7 (.slice A2 (predsL ss rs).length c2) (predsL ss rs)) := RowsI.keep hrow2 hb27
    have HIO : Hid (IsOrder ss ord) := hio
    have HRE : Hid (IsReach ss rs) := hre
    have HCW : Hid (CompW ss e bb) := hcw
    have HKW : Hid (∀ j (hj : j < ss.length), (kpB f e ss.length).getLsbD j = keepB e ss[j]) := fun j hj => kpB_get HOK.out HEX.out hcf hj
    have HFIN : Hid (∀ O, Below w.heap.size w (W7.alloc O)) := fun O => HB7.out.alloc HB7.out.size O
    have HK : Hid (∀ O, Below W7.heap.size W7 (W7.alloc O)) := fun O => (Below.refl _ _).alloc (Nat.le_refl _) O
    have HST : Hid (StepsAt W7 (.slice A ss.length c) ss) := HH.out.keep HB7.out
    clear hb1 hb2 hb4 hb5 hb6 hb7 hb57 hb47 hb27 hb17 hio hre hrow2 hown1 hRS hcb hcw hcf x0 x1 x2 x3 x4 a0 a1 a2 a3 a4 b0 b1 b2 b3 b4 z0 z1 z2 z3 z4 u0 u1 u2 u3 u4 t0 t1 t2 t3 t4 s0 s1 s2 s3 s4
    go_wp2
    refine HQ.out W7.heap.size ord rs g1 c1 (.slice A2 (predsL ss rs).length c2) bb (kpB f e ss.length) _ (HFIN.out _) ⟨by simp [go_sem], HST.out.keep (HK.out _), by simp [go_sem], fun i hi => cell_keep (HK.out _) (HOD.out i hi), HIO.out, by simp [go_sem], ⟨_, _, HPR.out.keep (HK.out _)⟩, HRE.out, by simp [go_sem, bsV], HCW.out, by simp [go_sem, bsV], HKW.out⟩
end Go.Proofs.Ythaiiegofofnmaa
namespace Go.Proofs.Ythaiiegofofnmaa
open Go.RowKit

set_option maxHeartbeats 1000000 in
theorem behind_any {Q : Ending → World → Prop} {w0 w : World} (hb : Below w0.heap.size w0 w) {V : Nat} {ss : List St} {e : E5} {ord : List Nat} {rs : List Bool} {A : Option Addr} {c og oc : Nat} {pv : Value} {bc bk : BitVec 64} (h : VS w0 V ss e ord rs A c og oc pv bc bk) (x : Nat) (hx : x < ss.length)
    (hQ : ∀ v, IntsAt w0 v (nextOf ss x) → Q (.returned v) w) :
    Calls Try.prog 44 #[.pointer (some ⟨V, 0, none⟩), .int .i64 (x : Int)] w Q := by
  have HQ : Hid _ := hQ
  clear hQ
  have c0 := cell_keep hb h.c0
  obtain ⟨ao, b, o, cap, hv, ha, hc⟩ := h.st
  cases hv
  obtain rfl := ha (by omega)
  obtain ⟨nv, st, hi⟩ := hc x ss[x] (List.getElem?_eq_getElem hx)
  have c7 := cell_keep hb st.c7
  have HI : Hid (IntsAt w0 nv (nextOf ss x)) := by rw [nextOf_get hx]; exact hi
  have hxi : (x : Int) < (ss.length : Int) := by omega
  obtain ⟨nao, nb, no, ncap, rfl, _, _⟩ := id hi
  clear h ha hc st hi
  go_enter Try.func44, Try.ntmps44
  go_wp2
  exact HQ.out _ HI.out

set_option maxHeartbeats 1000000 in
theorem aheadOf_any {Q : Ending → World → Prop} {w0 w : World} (hb : Below w0.heap.size w0 w) {V : Nat} {ss : List St} {e : E5} {ord : List Nat} {rs : List Bool} {A : Option Addr} {c og oc : Nat} {pv : Value} {bc bk : BitVec 64} (h : VS w0 V ss e ord rs A c og oc pv bc bk) (x : Nat) (hx : x < ss.length)
    (hQ : ∀ v, IntsAt w0 v (pF ss rs x) → Q (.returned v) w) :
    Calls Try.prog 52 #[.pointer (some ⟨V, 0, none⟩), .int .i64 (x : Int)] w Q := by
  have HQ : Hid _ := hQ
  clear hQ
  have c2 := cell_keep hb h.c2
  obtain ⟨lo, hi, hr⟩ := h.pr
  obtain ⟨ao, g, cap, rfl, hrow⟩ := hr.read
  have hl : (predsL ss rs).length = ss.length := by simp [predsL]
  obtain ⟨y, A', c', rfl, hy, rfl, hIO⟩ := hrow x (predsK ss rs x ss.length) (by simp [predsL, hx])
  have HI : Hid (IntsAt w0 (.slice A' (predsK ss rs x ss.length).length c') (pF ss rs x)) := hIO.at
  rw [hl] at c2
  have hy2 := cell_keep hb hy
  have hxi : (x : Int) < (ss.length : Int) := by omega
  clear h hr hrow hIO hl hy
  generalize (predsK ss rs x ss.length).length = L at *
  go_enter Try.func52, Try.ntmps52
  go_wp2
  exact HQ.out _ HI.out

/-- The method values: who is ahead, who is behind. -/
theorem ahead_hangs {w : World} {V : Nat} {ss : List St} {e : E5} {ord : List Nat} {rs : List Bool} {A : Option Addr} {c og oc : Nat} {pv : Value} {bc bk : BitVec 64} (h : VS w V ss e ord rs A c og oc pv bc bk) : Hangs ss.length (rF rs) 52 #[.pointer (some ⟨V, 0, none⟩)] w (pF ss rs) := by
  intro W x hb hx _ Q' hQ
  exact aheadOf_any hb h x hx fun v hv => hQ v W (Below.refl _ _) hv

theorem behind_hangs {w : World} {V : Nat} {ss : List St} {e : E5} {ord : List Nat} {rs : List Bool} {A : Option Addr} {c og oc : Nat} {pv : Value} {bc bk : BitVec 64} (h : VS w V ss e ord rs A c og oc pv bc bk) : Hangs ss.length (rF rs) 44 #[.pointer (some ⟨V, 0, none⟩)] w (nextOf ss) := by
  intro W x hb hx _ Q' hQ
  exact behind_any hb h x hx fun v hv => hQ v W (Below.refl _ _) hv

/-- A set of steps in the view. -/
theorem has_c {Q : Ending → World → Prop} {ss : List St} {e : E5} {bc : BitVec 64} (h : CompW ss e bc) (hok : okB ss = true) (x : Nat) (hx : x < ss.length) (w : World) (hQ : Q (.returned (.bool (cF e ss x))) w) :
    Calls Try.prog 43 #[bsV bc, .int .i64 (x : Int)] w Q := by
  have := (ok_len hok).2
  refine has_any bc x w (by omega) ?_
  rw [h.get hx (by omega), ← cF_get hx]
  exact hQ

theorem has_k {Q : Ending → World → Prop} {ss : List St} {e : E5} {bk : BitVec 64} (h : ∀ j (hj : j < ss.length), bk.getLsbD j = keepB e ss[j]) (hok : okB ss = true) (x : Nat) (hx : x < ss.length) (w : World) (hQ : Q (.returned (.bool (kF e ss x))) w) :
    Calls Try.prog 43 #[bsV bk, .int .i64 (x : Int)] w Q := by
  have := (ok_len hok).2
  refine has_any bk x w (by omega) ?_
  rw [h x hx, ← kF_get hx]
  exact hQ
end Go.Proofs.Ythaiiegofofnmaa
