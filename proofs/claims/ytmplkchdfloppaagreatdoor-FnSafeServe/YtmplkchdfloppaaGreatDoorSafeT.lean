/- A reckoning's view of a program: what viewOf lays; who stands behind a step, and ahead of it. Who stands behind a step, and ahead of it, as the program's view tells. The program's all, over whatever function value. The program's SafeDown: what is asked of a step, by closures; the solver over those behind; the view's down. slices.Clone and slices.Reverse of a row of places. The program's SafeUp: the solver over those ahead; what is asked of a step, by closures. The program's SafeEarly: what is asked of each step by itself. The program's SafeDelay, SafeLate and SafeAlone. -/
import Derived.Test.YtmplkchdfloppaaGreatDoorImplEC
import Derived.Test.YtmplkchdfloppaaGreatDoorImplEKA
import Derived.Test.YtmplkchdfloppaaGreatDoorPredsOf
import Derived.Test.YtmplkchdfloppaaGreatDoorBaseG
import Derived.Test.YtmplkchdfloppaaGreatDoorReachI
import Derived.Test.YtmplkchdfloppaaGreatDoorSolveT
import Derived.Test.YtmplkchdfloppaaGreatDoorChecked
import Derived.Deep.RegionHeld3
import Derived.Shelf.Abstract
import Derived.Deep.AppendLies
import Derived.Deep.RegionLaw
import Derived.Lib.LazyBuf
import Derived.Deep.CutRange
namespace Go.Proofs.YtmplkchdfloppaaGreatDoor
open Go.RowKit Go.Maps

/-- What lies behind a view's pointer. -/
structure VS (w : World) (V : Nat) (ss : List St) (e : E5) (ord : List Nat) (rs : List Bool) (A : Option Addr) (c og oc : Nat) (pv : Value) (bc bk : BitVec 64) : Prop where
  c0 : w.cell? ⟨V, 0, none⟩ = some (.slice A ss.length c)
  st : StepsAt w (.slice A ss.length c) ss
  c1 : w.cell? ⟨V, 1, none⟩ = some (.slice (some ⟨og, 0, none⟩) ord.length oc)
  od : ∀ i, i < ord.length → w.cell? ⟨og, i, none⟩ = some (intV (ord.getD i 0))
  io : IsOrder ss ord
  c2 : w.cell? ⟨V, 2, none⟩ = some pv
  pr : ∃ lo hi, RowsI lo hi w pv (predsL ss rs)
  re : IsReach ss rs
  c3 : w.cell? ⟨V, 3, none⟩ = some (bsV bc)
  cw : CompW ss e bc
  c4 : w.cell? ⟨V, 4, none⟩ = some (bsV bk)
  kw : ∀ j (hj : j < ss.length), bk.getLsbD j = keepB e ss[j]

theorem VS.keep {w w' : World} {V : Nat} {ss : List St} {e : E5} {ord : List Nat} {rs : List Bool} {A : Option Addr} {c og oc : Nat} {pv : Value} {bc bk : BitVec 64} (h : VS w V ss e ord rs A c og oc pv bc bk) (hb : Below w.heap.size w w') : VS w' V ss e ord rs A c og oc pv bc bk :=
  ⟨cell_keep hb h.c0, h.st.keep hb, cell_keep hb h.c1, fun i hi => cell_keep hb (h.od i hi), h.io, cell_keep hb h.c2, by obtain ⟨lo, hi, hr⟩ := h.pr; exact ⟨lo, hi, hr.keep hb⟩, h.re, cell_keep hb h.c3, h.cw, cell_keep hb h.c4, h.kw⟩

theorem keep_v {Q : Ending → World → Prop} (f : Nat → BitVec 64) (e : E5) (n : Nat) (w : World) (hn : n ≤ 60)
    (hQ : ∀ w', Below w.heap.size w w' → Q (.returned (.int .u64 ((kpB f e n).toNat : Int))) w') :
    Calls Tryz.prog 39 #[chV f, .agg #[.int .i64 e.op, .int .i64 e.av, .int .i64 e.an, .int .i64 e.bv, .int .i64 e.bn], .int .i64 (n : Int)] w Q := keep_any f e n w hn hQ

set_option maxRecDepth 100000 in
set_option maxHeartbeats 4000000 in
theorem viewOf_any {Q : Ending → World → Prop} (A : Option Addr) (c : Nat) (ss : List St) (e : E5) (w : World) (h : StepsAt w (.slice A ss.length c) ss) (hok : okB ss = true) (hex : exprB e = true)
    (hQ : ∀ V ord rs og oc pv bc bk w', Below w.heap.size w w' → VS w' V ss e ord rs A c og oc pv bc bk → Q (.returned (.pointer (some ⟨V, 0, none⟩))) w') :
    Calls Tryz.prog 62 #[.slice A ss.length c, .agg #[.int .i64 e.op, .int .i64 e.av, .int .i64 e.an, .int .i64 e.bv, .int .i64 e.bn]] w Q := by
  have HQ : Hid _ := hQ
  clear hQ
  have HH : Hid (StepsAt w (.slice A ss.length c) ss) := h
  have HOK : Hid (okB ss = true) := hok
  have HEX : Hid (exprB e = true) := hex
  have HXV : Hid (exV e = .agg #[.int .i64 e.op, .int .i64 e.av, .int .i64 e.an, .int .i64 e.bv, .int .i64 e.bn]) := rfl
  have hn2 : ss.length ≤ 60 := (ok_len hok).2
  clear h hok hex
  go_enter Tryz.func62, Tryz.ntmps62
  go_wp2_with fail
  have hb0 : Below w.heap.size w (w.alloc (.cells #[.int .i64 e.op, .int .i64 e.av, .int .i64 e.an, .int .i64 e.bv, .int .i64 e.bn] 29)) := (Below.refl _ _).alloc (Nat.le_refl _) _
  have x0 : (w.alloc (.cells #[.int .i64 e.op, .int .i64 e.av, .int .i64 e.an, .int .i64 e.bv, .int .i64 e.bn] 29)).cell? ⟨w.heap.size, 0, none⟩ = some (.int .i64 e.op) := by simp [go_sem]
  have x1 : (w.alloc (.cells #[.int .i64 e.op, .int .i64 e.av, .int .i64 e.an, .int .i64 e.bv, .int .i64 e.bn] 29)).cell? ⟨w.heap.size, 1, none⟩ = some (.int .i64 e.av) := by simp [go_sem]
  have x2 : (w.alloc (.cells #[.int .i64 e.op, .int .i64 e.av, .int .i64 e.an, .int .i64 e.bv, .int .i64 e.bn] 29)).cell? ⟨w.heap.size, 2, none⟩ = some (.int .i64 e.an) := by simp [go_sem]
  have x3 : (w.alloc (.cells #[.int .i64 e.op, .int .i64 e.av, .int .i64 e.an, .int .i64 e.bv, .int .i64 e.bn] 29)).cell? ⟨w.heap.size, 3, none⟩ = some (.int .i64 e.bv) := by simp [go_sem]
  have x4 : (w.alloc (.cells #[.int .i64 e.op, .int .i64 e.av, .int .i64 e.an, .int .i64 e.bv, .int .i64 e.bn] 29)).cell? ⟨w.heap.size, 4, none⟩ = some (.int .i64 e.bn) := by simp [go_sem]
  generalize w.alloc (.cells #[.int .i64 e.op, .int .i64 e.av, .int .i64 e.an, .int .i64 e.bv, .int .i64 e.bn] 29) = W0 at *
  have HB0 : Hid (Below w.heap.size w W0) := hb0
  clear hb0
  go_region_held3 (fun wx => wx.cell? ⟨w.heap.size, 0, none⟩ = some (.int .i64 e.op) ∧ wx.cell? ⟨w.heap.size, 1, none⟩ = some (.int .i64 e.av) ∧ wx.cell? ⟨w.heap.size, 2, none⟩ = some (.int .i64 e.an) ∧ wx.cell? ⟨w.heap.size, 3, none⟩ = some (.int .i64 e.bv) ∧ wx.cell? ⟨w.heap.size, 4, none⟩ = some (.int .i64 e.bn)) (go_keep) (first
    | (go_at_call 98; refine leaveOrder_any _ ss _ (HH.out.keep (HB0.out.drew)) HOK.out ?_; intro v1 ord W1 hb1 hio hown1; have a0 := cell_keep hb1 x0; have a1 := cell_keep hb1 x1; have a2 := cell_keep hb1 x2; have a3 := cell_keep hb1 x3; have a4 := cell_keep hb1 x4; have HB1 : Hid (Below w.heap.size w W1) := HB0.out.drew.trans (hb1.mono HB0.out.size); obtain ⟨A1, c1, hv1⟩ := own_form hown1; subst hv1)
    | (go_at_call 99; refine predsOf_any _ ss _ (HH.out.keep HB1.out) HOK.out ?_; intro v2 rs W2 hb2 hre hrow2; have b0 := cell_keep hb2 a0; have b1 := cell_keep hb2 a1; have b2 := cell_keep hb2 a2; have b3 := cell_keep hb2 a3; have b4 := cell_keep hb2 a4; have HB2 : Hid (Below w.heap.size w W2) := HB1.out.trans (hb2.mono HB1.out.size); obtain ⟨A2, c2, hv2⟩ := hrow2.slice; subst hv2)
    | (go_at_call 47; refine reckonedBy_any _ ss _ (HH.out.keep HB2.out) HOK.out ?_; intro W4 es bs D lv sv hRS hb4 hs4 hes hcb; subst hes; have z0 := cell_keep hb4 b0; have z1 := cell_keep hb4 b1; have z2 := cell_keep hb4 b2; have z3 := cell_keep hb4 b3; have z4 := cell_keep hb4 b4; have HB4 : Hid (Below w.heap.size w W4) := HB2.out.trans (hb4.mono HB2.out.size))
    | (go_at_call 48; rw [← HXV.out]; refine reckonedSteps_any _ _ _ (Nat.lt_succ_self _) W4 ss bs D lv sv hRS hs4 hcb e HEX.out ?_; intro bb W5 hcw hb5; rw [HXV.out]; have u0 := cell_keep hb5 z0; have u1 := cell_keep hb5 z1; have u2 := cell_keep hb5 z2; have u3 := cell_keep hb5 z3; have u4 := cell_keep hb5 z4; have HB5 : Hid (Below w.heap.size w W5) := HB4.out.trans (hb5.mono HB4.out.size))
    | (go_at_call 38; refine changedBy_any _ ss _ (HH.out.keep HB5.out) HOK.out ?_; intro f W6 hb6 hcf; have t0 := cell_keep hb6 u0; have t1 := cell_keep hb6 u1; have t2 := cell_keep hb6 u2; have t3 := cell_keep hb6 u3; have t4 := cell_keep hb6 u4; have HB6 : Hid (Below w.heap.size w W6) := HB5.out.trans (hb6.mono HB5.out.size))
    | (go_at_call 39; refine keep_v f e ss.length _ hn2 ?_; intro W7 hb7; have s0 := cell_keep hb7 t0; have s1 := cell_keep hb7 t1; have s2 := cell_keep hb7 t2; have s3 := cell_keep hb7 t3; have s4 := cell_keep hb7 t4; have HB7 : Hid (Below w.heap.size w W7) := HB6.out.trans (hb7.mono HB6.out.size)))
  all_goals
    have hb57 := hb6.trans (hb7.mono hb6.size)
    have hb47 := hb5.trans (hb57.mono hb5.size)
    have hb27 := hb4.trans (hb47.mono hb4.size)
    have hb17 := hb2.trans (hb27.mono hb2.size)
    have hol : 0 < ord.length := by
      obtain ⟨r, hr⟩ := hio.last
      rw [hr]
      simp
    obtain ⟨g1, cc1, hv1, _, _⟩ := hown1.form hol
    cases hv1
    have HOD : Hid (∀ i, i < ord.length → W7.cell? ⟨g1, i, none⟩ = some (intV (ord.getD i 0))) := fun i hi => by
      have h1 := hown1.cellAt i (by omega)
      rw [List.getElem?_map, List.getElem?_eq_getElem hi] at h1
      have h2 := cell_keep hb17 h1
      rw [h2, List.getD_eq_getElem?_getD, List.getElem?_eq_getElem hi]
      rfl
    have HPR : Hid (RowsI W1.heap.size W2.heap.size W7 (.slice A2 (predsL ss rs).length c2) (predsL ss rs)) := RowsI.keep hrow2 hb27
    have HIO : Hid (IsOrder ss ord) := hio
    have HRE : Hid (IsReach ss rs) := hre
    have HCW : Hid (CompW ss e bb) := hcw
    have HKW : Hid (∀ j (hj : j < ss.length), (kpB f e ss.length).getLsbD j = keepB e ss[j]) := fun j hj => kpB_get HOK.out HEX.out hcf hj
    have HFIN : Hid (∀ O, Below w.heap.size w (W7.alloc O)) := fun O => HB7.out.alloc HB7.out.size O
    have HK : Hid (∀ O, Below W7.heap.size W7 (W7.alloc O)) := fun O => (Below.refl _ _).alloc (Nat.le_refl _) O
    have HST : Hid (StepsAt W7 (.slice A ss.length c) ss) := HH.out.keep HB7.out
    clear hb1 hb2 hb4 hb5 hb6 hb7 hb57 hb47 hb27 hb17 hio hre hrow2 hown1 hRS hcb hcw hcf x0 x1 x2 x3 x4 a0 a1 a2 a3 a4 b0 b1 b2 b3 b4 z0 z1 z2 z3 z4 u0 u1 u2 u3 u4 t0 t1 t2 t3 t4 s0 s1 s2 s3 s4
    go_wp2
    refine HQ.out W7.heap.size ord rs g1 c1 (.slice A2 (predsL ss rs).length c2) bb (kpB f e ss.length) _ (HFIN.out _) ⟨by simp [go_sem], HST.out.keep (HK.out _), by simp [go_sem], fun i hi => cell_keep (HK.out _) (HOD.out i hi), HIO.out, by simp [go_sem], ⟨_, _, HPR.out.keep (HK.out _)⟩, HRE.out, by simp [go_sem, bsV], HCW.out, by simp [go_sem, bsV], HKW.out⟩
end Go.Proofs.YtmplkchdfloppaaGreatDoor
namespace Go.Proofs.YtmplkchdfloppaaGreatDoor
open Go.RowKit

set_option maxHeartbeats 1000000 in
theorem behind_any {Q : Ending → World → Prop} {w0 w : World} (hb : Below w0.heap.size w0 w) {V : Nat} {ss : List St} {e : E5} {ord : List Nat} {rs : List Bool} {A : Option Addr} {c og oc : Nat} {pv : Value} {bc bk : BitVec 64} (h : VS w0 V ss e ord rs A c og oc pv bc bk) (x : Nat) (hx : x < ss.length)
    (hQ : ∀ v, IntsAt w0 v (nextOf ss x) → Q (.returned v) w) :
    Calls Tryz.prog 79 #[.pointer (some ⟨V, 0, none⟩), .int .i64 (x : Int)] w Q := by
  have HQ : Hid _ := hQ
  clear hQ
  have c0 := cell_keep hb h.c0
  obtain ⟨ao, b, o, cap, hv, ha, hc⟩ := h.st
  cases hv
  obtain rfl := ha (by omega)
  obtain ⟨nv, st, hi⟩ := hc x ss[x] (List.getElem?_eq_getElem hx)
  have c7 := cell_keep hb st.c7
  have HI : Hid (IntsAt w0 nv (nextOf ss x)) := by rw [nextOf_get hx]; exact hi
  have hxi : (x : Int) < (ss.length : Int) := by omega
  obtain ⟨nao, nb, no, ncap, rfl, _, _⟩ := id hi
  clear h ha hc st hi
  go_enter Tryz.func79, Tryz.ntmps79
  go_wp2
  exact HQ.out _ HI.out

set_option maxHeartbeats 1000000 in
theorem aheadOf_any {Q : Ending → World → Prop} {w0 w : World} (hb : Below w0.heap.size w0 w) {V : Nat} {ss : List St} {e : E5} {ord : List Nat} {rs : List Bool} {A : Option Addr} {c og oc : Nat} {pv : Value} {bc bk : BitVec 64} (h : VS w0 V ss e ord rs A c og oc pv bc bk) (x : Nat) (hx : x < ss.length)
    (hQ : ∀ v, IntsAt w0 v (pF ss rs x) → Q (.returned v) w) :
    Calls Tryz.prog 66 #[.pointer (some ⟨V, 0, none⟩), .int .i64 (x : Int)] w Q := by
  have HQ : Hid _ := hQ
  clear hQ
  have c2 := cell_keep hb h.c2
  obtain ⟨lo, hi, hr⟩ := h.pr
  obtain ⟨ao, g, cap, rfl, hrow⟩ := hr.read
  have hl : (predsL ss rs).length = ss.length := by simp [predsL]
  obtain ⟨y, A', c', rfl, hy, rfl, hIO⟩ := hrow x (predsK ss rs x ss.length) (by simp [predsL, hx])
  have HI : Hid (IntsAt w0 (.slice A' (predsK ss rs x ss.length).length c') (pF ss rs x)) := hIO.at
  rw [hl] at c2
  have hy2 := cell_keep hb hy
  have hxi : (x : Int) < (ss.length : Int) := by omega
  clear h hr hrow hIO hl hy
  generalize (predsK ss rs x ss.length).length = L at *
  go_enter Tryz.func66, Tryz.ntmps66
  go_wp2
  exact HQ.out _ HI.out

/-- The method values: who is ahead, who is behind. -/
theorem ahead_hangs {w : World} {V : Nat} {ss : List St} {e : E5} {ord : List Nat} {rs : List Bool} {A : Option Addr} {c og oc : Nat} {pv : Value} {bc bk : BitVec 64} (h : VS w V ss e ord rs A c og oc pv bc bk) : Hangs ss.length (rF rs) 66 #[.pointer (some ⟨V, 0, none⟩)] w (pF ss rs) := by
  intro W x hb hx _ Q' hQ
  exact aheadOf_any hb h x hx fun v hv => hQ v W (Below.refl _ _) hv

theorem behind_hangs {w : World} {V : Nat} {ss : List St} {e : E5} {ord : List Nat} {rs : List Bool} {A : Option Addr} {c og oc : Nat} {pv : Value} {bc bk : BitVec 64} (h : VS w V ss e ord rs A c og oc pv bc bk) : Hangs ss.length (rF rs) 79 #[.pointer (some ⟨V, 0, none⟩)] w (nextOf ss) := by
  intro W x hb hx _ Q' hQ
  exact behind_any hb h x hx fun v hv => hQ v W (Below.refl _ _) hv

/-- A set of steps in the view. -/
theorem has_c {Q : Ending → World → Prop} {ss : List St} {e : E5} {bc : BitVec 64} (h : CompW ss e bc) (hok : okB ss = true) (x : Nat) (hx : x < ss.length) (w : World) (hQ : Q (.returned (.bool (cF e ss x))) w) :
    Calls Tryz.prog 68 #[bsV bc, .int .i64 (x : Int)] w Q := by
  have := (ok_len hok).2
  refine has_any bc x w (by omega) ?_
  rw [h.get hx (by omega), ← cF_get hx]
  exact hQ

theorem has_k {Q : Ending → World → Prop} {ss : List St} {e : E5} {bk : BitVec 64} (h : ∀ j (hj : j < ss.length), bk.getLsbD j = keepB e ss[j]) (hok : okB ss = true) (x : Nat) (hx : x < ss.length) (w : World) (hQ : Q (.returned (.bool (kF e ss x))) w) :
    Calls Tryz.prog 68 #[bsV bk, .int .i64 (x : Int)] w Q := by
  have := (ok_len hok).2
  refine has_any bk x w (by omega) ?_
  rw [h x hx, ← kF_get hx]
  exact hQ
end Go.Proofs.YtmplkchdfloppaaGreatDoor
namespace Go.Proofs.YtmplkchdfloppaaGreatDoor
open Go.RowKit

set_option maxRecDepth 100000 in
set_option maxHeartbeats 2000000 in
theorem all_any {Q : Ending → World → Prop} (g : Nat) (lb : Array Value) (eg : ∀ args w, (callFunc g args).run Tryz.prog w = .ok (.enter g args) w) (v : Value) (zs : List Int) (f : Nat → Bool) (w : World) (h : IntsAt w v zs) (hz : ∀ x ∈ zs, 0 ≤ x) (hl : zs.length ≤ 1000)
    (hp : ∀ W x, Below w.heap.size w W → x ∈ zs → ∀ {Q' : Ending → World → Prop}, (∀ W', Below W.heap.size W W' → Q' (.returned (.bool (f x.toNat))) W') → Calls Tryz.prog g (#[.int .i64 x] ++ lb) W Q')
    (hQ : ∀ W', Below w.heap.size w W' → Q (.returned (.bool (allI zs f))) W') :
    Calls Tryz.prog 65 #[v, .func (.func g) #[] lb] w Q := by
  have HQ : Hid _ := hQ
  have HP : Hid _ := @hp
  clear hQ hp
  obtain ⟨ao, b, o, cap, rfl, ha, hc⟩ := id h
  have HA : Hid (0 < zs.length → ao = some ⟨b, o, none⟩) := ha
  have HC : Hid _ := hc
  clear h ha hc
  go_enter Tryz.func65, Tryz.ntmps65
  go_wp2_with fail
  go_loopw [6, 9] (fun _ i wr => ∃ k : Nat, k ≤ zs.length ∧ i = .int .i64 k ∧ Below w.heap.size w wr ∧ ∀ j, j < k → f (zs.getD j 0).toNat = true) (fun _ i _ => zs.length - (intOf i).toNat)
  case atStart => exact ⟨0, Nat.zero_le _, rfl, Below.refl _ _, fun j hj => by omega⟩
  case round =>
    obtain ⟨k, hk, rfl, hbw, hf⟩ := hrel
    have HF : Hid (∀ j, j < k → f (zs.getD j 0).toNat = true) := hf
    have HB : Hid (Below w.heap.size w wr) := hbw
    by_cases hkn : k < zs.length
    · have hki : (k : Int) < (zs.length : Int) := by omega
      obtain rfl := HA.out (by omega)
      have c := cell_keep hbw (HC.out k hkn)
      have HM : Hid (zs.getD k 0 ∈ zs) := by
        rw [Hid, List.getD_eq_getElem?_getD, List.getElem?_eq_getElem hkn]
        exact List.getElem_mem hkn
      have HALL : Hid (f (zs.getD k 0).toNat = false → allI zs f = false) := fun h0 => by
        unfold allI
        rw [List.all_eq_false]
        exact ⟨_, HM.out, by simpa using h0⟩
      have HX : Hid (0 ≤ zs.getD k 0) := hz _ HM.out
      have HS : Hid (f (zs.getD k 0).toNat = true → ∀ j, j < k + 1 → f (zs.getD j 0).toNat = true) := fun h0 j hj => by
        by_cases e : j = k
        · subst e; exact h0
        · exact HF.out j (by omega)
      clear hbw hf
      generalize zs.getD k 0 = x at *
      go_wp2_with fail
      refine HP.out _ x HB.out HM.out fun w1 hb1 => ?_
      have HB1 : Hid (Below w.heap.size w w1) := HB.out.trans (hb1.mono HB.out.size)
      clear hb1
      cases hv : f x.toNat
      · have HR : Hid _ := HALL.out hv
        clear hv HS HALL
        go_wp2
        rw [HR.out] at HQ
        exact HQ.out _ HB1.out
      · have HR : Hid _ := HS.out hv
        clear hv HS HALL
        go_wp2
        go_roundw
        case rel => exact ⟨k + 1, by omega, by go_num, HB1.out, HR.out⟩
        case measure => simp [intOf]; omega
    · have hki : ¬ (k : Int) < (zs.length : Int) := by omega
      have HALL : Hid (allI zs f = true) := by
        unfold allI
        rw [Hid, List.all_eq_true]
        intro x hx
        obtain ⟨j, hj, e⟩ := List.getElem_of_mem hx
        have := HF.out j (by omega)
        rw [List.getD_eq_getElem?_getD, List.getElem?_eq_getElem hj] at this
        rw [← e]
        exact this
      rw [HALL.out] at HQ
      clear hbw hf
      go_wp2
      exact HQ.out _ HB.out
end Go.Proofs.YtmplkchdfloppaaGreatDoor
namespace Go.Proofs.YtmplkchdfloppaaGreatDoor
open Go.RowKit

theorem Asks.later {n : Nat} {r : Nat → Bool} {g : Nat} {lb : Array Value} {w W : World} {F : (Nat → Bool) → Nat → Bool} (h : Asks n r g lb w F) (hb : Below w.heap.size w W) : Asks n r g lb W F :=
  fun W' x B so hb' hB hx hr hrow _ hQ => h W' x B so (hb.trans (hb'.mono hb.size)) (Nat.le_trans hb.size hB) hx hr hrow hQ

set_option maxHeartbeats 1000000 in
theorem downSo_any {Q : Ending → World → Prop} (SB B n : Nat) (so : Nat → Bool) (x : Int) (W : World) (h0 : 0 ≤ x) (h1 : x < (n : Int)) (hs : W.cell? ⟨SB, 0, none⟩ = some (.slice (some ⟨B, 0, none⟩) n n)) (hr : W.rowIs B 4 n (fun j => .bool (so j)))
    (hQ : Q (.returned (.bool (so x.toNat))) W) :
    Calls Tryz.prog 80 #[.int .i64 x, .pointer (some ⟨SB, 0, none⟩)] W Q := by
  have HQ : Hid _ := hQ
  clear hQ
  obtain ⟨m, rfl⟩ := Int.eq_ofNat_of_zero_le h0
  have hm : m < n := by omega
  have hc := hr.cell (i := m) hm
  rw [show ((m : Int)).toNat = m from rfl] at HQ
  clear hr h0
  generalize so m = z at *
  go_enter Tryz.func80, Tryz.ntmps80
  go_wp2
  exact HQ.out

set_option maxRecDepth 100000 in
set_option maxHeartbeats 2000000 in
theorem down_asks {w : World} {V : Nat} {ss : List St} {e : E5} {ord : List Nat} {rs : List Bool} {A : Option Addr} {c og oc : Nat} {pv : Value} {bc bk : BitVec 64} (h : VS w V ss e ord rs A c og oc pv bc bk) (hok : okB ss = true) (VB : Nat) (hVB : w.cell? ⟨VB, 0, none⟩ = some (.pointer (some ⟨V, 0, none⟩))) :
    Asks ss.length (rF rs) 78 #[.pointer (some ⟨VB, 0, none⟩)] w (downF (cF e ss) (kF e ss) (nextOf ss)) := by
  intro W x B so hb hB hx hr hrow Q hQ
  show Calls Tryz.prog _ #[.int .i64 (x : Int), .slice (some ⟨B, 0, none⟩) ss.length ss.length, .pointer (some ⟨VB, 0, none⟩)] W Q
  have HQ : Hid _ := hQ
  have HV : Hid (VS w V ss e ord rs A c og oc pv bc bk) := h
  have HOK : Hid (okB ss = true) := hok
  have HB : Hid (Below w.heap.size w W) := hb
  have HR : Hid (W.rowIs B 4 ss.length (fun j => .bool (so j))) := hrow
  have hv := h.keep hb
  have c3 := hv.c3
  have c4 := hv.c4
  have cv := cell_keep hb hVB
  have hVl := cell_lt c3
  have hVBl := cell_lt cv
  simp only at hVl hVBl
  clear hQ h hok hb hrow hv hVB
  have HA : Hid (∀ O, Below W.heap.size W (W.alloc O)) := fun O => (Below.refl _ _).alloc (Nat.le_refl _) O
  go_enter Tryz.func78, Tryz.ntmps78
  go_wp2_with fail
  refine has_c HV.out.cw HOK.out x hx _ ?_
  cases hc : cF e ss x
  · go_wp2_with fail
    refine behind_any (w0 := w) (HB.out.trans ((HA.out _).mono HB.out.size)) HV.out x hx fun nv hnv => ?_
    obtain ⟨nao, nb, no, ncap, rfl, hna, hnc⟩ := id hnv
    have HN : Hid (IntsAt w (.slice nao (nextOf ss x).length ncap) (nextOf ss x)) := hnv
    clear hna hnc hnv
    have HLW : Hid (Low ss.length (nextOf ss)) := low_next HOK.out
    have hnl : (nextOf ss x).length ≤ 2 := next_len HOK.out hx
    go_wp2_with fail
    refine has_k HV.out.kw HOK.out x hx _ ?_
    cases hk : kF e ss x
    · have HF : Hid (downF (cF e ss) (kF e ss) (nextOf ss) so x = false) := by simp [Hid, downF, hc, hk]
      rw [HF.out] at HQ
      go_wp2
      exact HQ.out _ (HA.out _)
    · by_cases hl : (nextOf ss x).length = 0
      · have HF : Hid (downF (cF e ss) (kF e ss) (nextOf ss) so x = false) := by simp [Hid, downF, hc, hk, hl]
        have hli : ¬ (0 : Int) < ((nextOf ss x).length : Int) := by omega
        rw [HF.out] at HQ
        go_wp2
        exact HQ.out _ (HA.out _)
      · have HF : Hid (downF (cF e ss) (kF e ss) (nextOf ss) so x = allI (nextOf ss x) so) := by
          have : 0 < (nextOf ss x).length := by omega
          simp [Hid, downF, hc, hk, this]
        have hli : (0 : Int) < ((nextOf ss x).length : Int) := by omega
        rw [HF.out] at HQ
        clear hc hk
        go_wp2_with fail
        refine all_any 80 #[.pointer (some ⟨W.heap.size, 0, none⟩)] (enters_of Tryz.func80 (by kernel_rfl) rfl) _ (nextOf ss x) so _ ((HN.out.keep HB.out).keep (HA.out _)) (fun y hy => (HLW.out x hx y hy).1) (by omega) (fun W' y hb' hy Q' hq => ?_) fun W2 hb2 => ?_
        · have hl := HLW.out x hx y hy
          refine downSo_any W.heap.size B ss.length so y W' hl.1 hl.2 (cell_keep hb' (by simp [go_sem])) (rowIs_keep (rowIs_keep HR.out (HA.out _)) hb') (hq _ (Below.refl _ _))
        · have HF2 : Hid (Below W.heap.size W W2) := (HA.out _).trans (hb2.mono (by simp))
          clear hb2
          go_wp2
          exact HQ.out _ HF2.out
  · have HF : Hid (downF (cF e ss) (kF e ss) (nextOf ss) so x = true) := by simp [Hid, downF, hc]
    rw [HF.out] at HQ
    go_wp2
    exact HQ.out _ (HA.out _)

set_option maxRecDepth 100000 in
set_option maxHeartbeats 2000000 in
theorem mostByBehind_any {Q : Ending → World → Prop} {w : World} {V : Nat} {ss : List St} {e : E5} {ord : List Nat} {rs : List Bool} {A : Option Addr} {c og oc : Nat} {pv : Value} {bc bk : BitVec 64} (h : VS w V ss e ord rs A c og oc pv bc bk) (hok : okB ss = true) (ga : Nat) (lb : Array Value) (ea : ∀ args w, (callFunc ga args).run Tryz.prog w = .ok (.enter ga args) w)
    (F : (Nat → Bool) → Nat → Bool) (hm : Mono ss.length F) (hoff : ∀ (x i : Nat) (g : Nat → Bool), i < ss.length → (x : Int) ∉ nextOf ss i → F (offB g x) i = F g i) (hA : Asks ss.length (rF rs) ga lb w F)
    (hQ : ∀ g B W', Below w.heap.size w W' → w.heap.size ≤ B → Gr ss.length (rF rs) F g → W'.rowIs B 4 ss.length (fun j => .bool (g j)) → Q (.returned (.slice (some ⟨B, 0, none⟩) ss.length ss.length)) W') :
    Calls Tryz.prog 77 #[.pointer (some ⟨V, 0, none⟩), .func (.func ga) #[] lb] w Q := by
  have HQ : Hid _ := hQ
  have HV : Hid (VS w V ss e ord rs A c og oc pv bc bk) := h
  have HOK : Hid (okB ss = true) := hok
  have HM : Hid _ := hm
  have HOF : Hid _ := hoff
  have HA : Hid (Asks ss.length (rF rs) ga lb w F) := @hA
  have HEA : Hid _ := ea
  have c0 := h.c0
  have c1 := h.c1
  have hn := (ok_len hok).2
  have HY : Hid (∀ x, x < ss.length → rF rs x = true → (pF ss rs x).length ≤ 60 ∧ ∀ y ∈ pF ss rs x, 0 ≤ y ∧ y.toNat < ss.length ∧ rF rs y.toNat = true) := fun x hx _ => ⟨Nat.le_trans (predsK_len _ _ _ _) hn, fun y hy => by
    have h1 := low_preds ss rs x hx y hy
    obtain ⟨m, rfl⟩ := Int.eq_ofNat_of_zero_le h1.1
    exact ⟨h1.1, by have := h1.2; simp; omega, (mem_preds.1 hy).2.1⟩⟩
  have hol : ord.length ≤ 60 := Nat.le_trans (nodup_len h.io.nodup fun i hi => ((h.io.mem i).1 hi).1) hn
  have HRS : Hid (∀ i, i ∈ ord ↔ i < ss.length ∧ rF rs i = true) := fun i => by
    rw [h.io.mem i]
    constructor
    · rintro ⟨h1, h2⟩
      refine ⟨h1, ?_⟩
      have := (h.re.2 i h1).2 h2
      unfold rF
      rw [List.getD_eq_getElem?_getD, this]
      rfl
    · rintro ⟨h1, h2⟩
      refine ⟨h1, (h.re.2 i h1).1 ?_⟩
      unfold rF at h2
      rw [List.getD_eq_getElem?_getD] at h2
      have hl : i < rs.length := by rw [h.re.1]; exact h1
      rw [List.getElem?_eq_getElem hl] at h2 ⊢
      simpa using h2
  clear hQ hm hoff hA ea h hok
  have hmf : ∀ (fn : Fn) (first cap : Array Value) (w : World), (Instr.makeFunc fn first cap).run Tryz.prog w = .ok (.func fn first cap) w := fun _ _ _ _ => rfl
  go_enter Tryz.func77, Tryz.ntmps77
  go_wp2_with fail
  go_region_held3 (fun wx => wx.cell? ⟨V, 0, none⟩ = some (.slice A ss.length c) ∧ wx.cell? ⟨V, 1, none⟩ = some (.slice (some ⟨og, 0, none⟩) ord.length oc)) (go_keep) (first
    | (go_at_call 106; refine solve_any ss.length og oc ord 66 #[.pointer (some ⟨V, 0, none⟩)] ga lb (enters_of Tryz.func66 (by kernel_rfl) rfl) HEA.out _ (rF rs) F (pF ss rs) hn hol (fun i hi => HV.out.od i hi) HRS.out HV.out.io.nodup HM.out (fun x i g hx hi hr hni => HOF.out x i g hi fun hm => hni (mem_preds.2 ⟨hi, hr, hm⟩)) HY.out (ahead_hangs (HV.out.keep ((Below.refl _ _).drew))) (HA.out.later ((Below.refl _ _).drew)) ?_; intro gg W' hb' hg hr'; have d0 := cell_keep hb' (show w.drew.cell? ⟨V, 0, none⟩ = _ from c0); have d1 := cell_keep hb' (show w.drew.cell? ⟨V, 1, none⟩ = _ from c1)))
  all_goals
    have HB : Hid (Below w.heap.size w W') := ((Below.refl _ _).drew).trans hb'
    have HG : Hid (Gr ss.length (rF rs) F gg) := hg
    have HR : Hid (W'.rowIs w.drew.heap.size 4 ss.length (fun j => .bool (gg j))) := hr'
    clear hb' hg hr'
    go_wp2
    exact HQ.out gg _ _ HB.out (Nat.le_refl _) HG.out HR.out

set_option maxRecDepth 100000 in
set_option maxHeartbeats 2000000 in
theorem down_any {Q : Ending → World → Prop} {w : World} {V : Nat} {ss : List St} {e : E5} {ord : List Nat} {rs : List Bool} {A : Option Addr} {c og oc : Nat} {pv : Value} {bc bk : BitVec 64} (h : VS w V ss e ord rs A c og oc pv bc bk) (hok : okB ss = true)
    (hQ : ∀ f B W', Below w.heap.size w W' → w.heap.size ≤ B → IsDown ss e rs f → W'.rowIs B 4 ss.length (fun j => .bool (f j)) → Q (.returned (.slice (some ⟨B, 0, none⟩) ss.length ss.length)) W') :
    Calls Tryz.prog 41 #[.pointer (some ⟨V, 0, none⟩)] w Q := by
  have HQ : Hid _ := hQ
  have HV : Hid (VS w V ss e ord rs A c og oc pv bc bk) := h
  have HOK : Hid (okB ss = true) := hok
  clear hQ h hok
  have HA : Hid (∀ O, Below w.heap.size w (w.alloc O)) := fun O => (Below.refl _ _).alloc (Nat.le_refl _) O
  have hmf : ∀ (fn : Fn) (first cap : Array Value) (w : World), (Instr.makeFunc fn first cap).run Tryz.prog w = .ok (.func fn first cap) w := fun _ _ _ _ => rfl
  go_enter Tryz.func41, Tryz.ntmps41
  go_wp2_with fail
  refine mostByBehind_any (HV.out.keep (HA.out _)) HOK.out 78 #[.pointer (some ⟨w.heap.size, 0, none⟩)] (enters_of Tryz.func78 (by kernel_rfl) rfl) _ (downF_mono (low_next HOK.out)) (fun x i g hi hx => downF_off (low_next HOK.out) hi hx) (down_asks (HV.out.keep (HA.out _)) HOK.out w.heap.size (by simp [go_sem])) fun g B W' hb' hB hg hr => ?_
  have HB : Hid (Below w.heap.size w W') := (HA.out _).trans (hb'.mono (by simp))
  have HG : Hid (IsDown ss e rs g) := hg
  have HR : Hid (W'.rowIs B 4 ss.length (fun j => .bool (g j))) := hr
  have hB2 : w.heap.size ≤ B := by simp at hB; omega
  clear hb' hg hr hB
  go_wp2
  exact HQ.out g B _ HB.out hB2 HG.out HR.out

/-- What a way of looking at a view answers. -/
def Tells (ss : List St) (e : E5) (g : Nat) (P : List Bool → (Nat → Bool) → Prop) : Prop :=
  ∀ (w : World) (V : Nat) (ord : List Nat) (rs : List Bool) (A : Option Addr) (c og oc : Nat) (pv : Value) (bc bk : BitVec 64), VS w V ss e ord rs A c og oc pv bc bk → ∀ {Q : Ending → World → Prop},
    (∀ f B W', Below w.heap.size w W' → w.heap.size ≤ B → P rs f → W'.rowIs B 4 ss.length (fun j => .bool (f j)) → Q (.returned (.slice (some ⟨B, 0, none⟩) ss.length ss.length)) W') → Calls Tryz.prog g #[.pointer (some ⟨V, 0, none⟩)] w Q

theorem down_tells {ss : List St} {e : E5} (hok : okB ss = true) : Tells ss e 41 (IsDown ss e) := fun _ _ _ _ _ _ _ _ _ _ _ h _ hQ => down_any h hok hQ

set_option maxRecDepth 100000 in
set_option maxHeartbeats 2000000 in
theorem seen_any {Q : Ending → World → Prop} (P : List St → E5 → List Bool → (Nat → Bool) → Prop) (g : Nat) (eg : ∀ args w, (callFunc g args).run Tryz.prog w = .ok (.enter g args) w) (v : Value) (ss : List St) (e : E5) (w : World) (h : StepsAt w v ss) (hl : ss.length ≤ 1048576) (hls : ∀ s ∈ ss, s.next.length ≤ 1048576)
    (ht : okB ss = true → exprB e = true → Tells ss e g (P ss e))
    (hQ : ∀ v' bs w', Below w.heap.size w w' → SafeOr P ss e bs → w'.ownsRow w.heap.size 4 1 v' bs.length (bs.map Value.bool) → Q (.returned v') w') :
    Calls Tryz.prog 29 #[.agg #[v], .agg #[.int .i64 e.op, .int .i64 e.av, .int .i64 e.an, .int .i64 e.bv, .int .i64 e.bn], .func (.func g) #[] #[]] w Q := by
  have HQ : Hid _ := hQ
  obtain ⟨ao, b, o, cap, rfl, ha, hc⟩ := id h
  clear ha hc
  have HH : Hid (StepsAt w (.slice ao ss.length cap) ss) := h
  have HL : Hid (∀ s ∈ ss, s.next.length ≤ 1048576) := hls
  have HT : Hid (okB ss = true → exprB e = true → Tells ss e g (P ss e)) := @ht
  clear hQ h hls ht
  have hb0 : ∀ O O', Below w.heap.size w ((w.alloc O).alloc O') := fun O O' => ((Below.refl _ _).alloc (Nat.le_refl _) O).alloc (by simp) O'
  have HXV : Hid (exV e = .agg #[.int .i64 e.op, .int .i64 e.av, .int .i64 e.an, .int .i64 e.bv, .int .i64 e.bn]) := rfl
  go_enter Tryz.func29, Tryz.ntmps29
  go_wp2_with fail
  refine implOk_any _ ss _ (HH.out.keep (hb0 _ _)) hl HL.out fun w2 hb2 => ?_
  have HB2 : Hid (Below w.heap.size w w2) := (hb0 _ _).trans (hb2.mono (by simp; omega))
  have q2 : w2.cell? ⟨w.heap.size, 0, none⟩ = some (.slice ao ss.length cap) := cell_keep hb2 (by simp [go_sem])
  have x0 : w2.cell? ⟨w.heap.size + 1, 0, none⟩ = some (.int .i64 e.op) := cell_keep hb2 (by simp [go_sem])
  have x1 : w2.cell? ⟨w.heap.size + 1, 1, none⟩ = some (.int .i64 e.av) := cell_keep hb2 (by simp [go_sem])
  have x2 : w2.cell? ⟨w.heap.size + 1, 2, none⟩ = some (.int .i64 e.an) := cell_keep hb2 (by simp [go_sem])
  have x3 : w2.cell? ⟨w.heap.size + 1, 3, none⟩ = some (.int .i64 e.bv) := cell_keep hb2 (by simp [go_sem])
  have x4 : w2.cell? ⟨w.heap.size + 1, 4, none⟩ = some (.int .i64 e.bn) := cell_keep hb2 (by simp [go_sem])
  clear hb2 hb0
  cases hok : okB ss
  · have HR : Hid (SafeOr P ss e []) := Or.inr ⟨by simp [hok], rfl⟩
    clear hok
    go_wp2
    exact HQ.out _ [] _ HB2.out HR.out (World.ownsRow_nil _ _ _ _)
  have HOK : Hid (okB ss = true) := hok
  have hn2 : ss.length ≤ 60 := (ok_len hok).2
  clear hok
  go_wp2_with fail
  rw [← HXV.out]
  refine implExprOk_any e _ fun w3 hb3 => ?_
  rw [HXV.out]
  have q3 := cell_keep hb3 q2
  have y0 := cell_keep hb3 x0
  have y1 := cell_keep hb3 x1
  have y2 := cell_keep hb3 x2
  have y3 := cell_keep hb3 x3
  have y4 := cell_keep hb3 x4
  have HB3 : Hid (Below w.heap.size w w3) := HB2.out.trans (hb3.mono HB2.out.size)
  clear hb3 q2 x0 x1 x2 x3 x4 HB2
  cases hex : exprB e
  · have HR : Hid (SafeOr P ss e []) := Or.inr ⟨by simp [hex], rfl⟩
    clear hex
    go_wp2
    exact HQ.out _ [] _ HB3.out HR.out (World.ownsRow_nil _ _ _ _)
  have HEX : Hid (exprB e = true) := hex
  clear hex
  go_wp2_with fail
  refine viewOf_any ao cap ss e _ (HH.out.keep HB3.out) HOK.out HEX.out fun V ord rs og oc pv bc bk w4 hb4 hv4 => ?_
  have HV4 : Hid _ := hv4
  have HB4 : Hid (Below w.heap.size w w4) := HB3.out.trans (hb4.mono HB3.out.size)
  clear hb4 hv4 q3 y0 y1 y2 y3 y4
  go_wp2_with fail
  refine HT.out HOK.out HEX.out w4 V ord rs ao cap og oc pv bc bk HV4.out fun f B w5 hb5 hB hP hr => ?_
  have HB5 : Hid (Below w.heap.size w w5) := HB4.out.trans (hb5.mono HB4.out.size)
  have HS : Hid (SafeOr P ss e ((List.range ss.length).map f)) := Or.inl ⟨HOK.out, HEX.out, rs, f, HV4.out.re, hP, rfl⟩
  have HOWN : Hid (w5.ownsRow w.heap.size 4 1 (.slice (some ⟨B, 0, none⟩) ss.length ss.length) ((List.range ss.length).map f).length (((List.range ss.length).map f).map Value.bool)) := by
    have h1 := rowIs_own hr (Nat.le_trans HB4.out.size hB) (by omega)
    rw [Hid, List.length_map, List.length_range, List.map_map]
    exact h1
  clear hb5 hB hP hr
  go_wp2
  exact HQ.out _ _ _ HB5.out HS.out HOWN.out

set_option maxRecDepth 100000 in
theorem implSafeDown_any {Q : Ending → World → Prop} (v : Value) (ss : List St) (e : E5) (w : World) (h : StepsAt w v ss) (hl : ss.length ≤ 1048576) (hls : ∀ s ∈ ss, s.next.length ≤ 1048576)
    (hQ : ∀ v' bs w', Below w.heap.size w w' → SafeOr IsDown ss e bs → w'.ownsRow w.heap.size 4 1 v' bs.length (bs.map Value.bool) → Q (.returned v') w') :
    Calls Tryz.prog 15 #[.agg #[v], .agg #[.int .i64 e.op, .int .i64 e.av, .int .i64 e.an, .int .i64 e.bv, .int .i64 e.bn]] w Q := by
  have HQ : Hid _ := hQ
  clear hQ
  have HH : Hid (StepsAt w v ss) := h
  have HL : Hid (∀ s ∈ ss, s.next.length ≤ 1048576) := hls
  obtain ⟨ao, b, o, cap, rfl, ha, hc⟩ := id h
  clear ha hc h hls
  have hb0 : ∀ O O', Below w.heap.size w ((w.alloc O).alloc O') := fun O O' => ((Below.refl _ _).alloc (Nat.le_refl _) O).alloc (by simp) O'
  have HB0 : Hid _ := hb0
  clear hb0
  go_enter Tryz.func15, Tryz.ntmps15
  go_wp2_with fail
  refine seen_any IsDown 41 (enters_of Tryz.func41 (by kernel_rfl) rfl) _ ss e _ (HH.out.keep (HB0.out _ _)) hl HL.out (fun hok _ => down_tells hok) fun v' bs w' hb hs hown => ?_
  have HB : Hid (Below w.heap.size w w') := (HB0.out _ _).trans (hb.mono (by simp; omega))
  have HS : Hid _ := hs
  have HO : Hid (w'.ownsRow w.heap.size 4 1 v' bs.length (bs.map Value.bool)) := own_lower hown (by simp; omega)
  clear hb hs hown
  go_wp2
  exact HQ.out _ _ _ HB.out HS.out HO.out
end Go.Proofs.YtmplkchdfloppaaGreatDoor
namespace Go.Proofs.YtmplkchdfloppaaGreatDoor
open Go.RowKit

/-- A row of the call's own, from block lo on, that holds these places. -/
def IntF (lo : Nat) (w : World) (g cap n : Nat) (f : Nat → Nat) : Prop := w.ownsRow lo 3 1 (.slice (some ⟨g, 0, none⟩) n cap) n ((List.range n).map (fun j => intV (f j)))

theorem IntF.cell {lo g cap n : Nat} {w : World} {f : Nat → Nat} (h : IntF lo w g cap n f) {j : Nat} (hj : j < n) : w.cell? ⟨g, j, none⟩ = some (.int .i64 (f j : Int)) := by
  rw [World.ownsRow.cellAt h j (by omega)]
  simp [hj, intV]

theorem IntF.frozen {lo g cap n : Nat} {w : World} {f : Nat → Nat} (h : IntF lo w g cap n f) (j : Nat) : w.frozen? ⟨g, j, none⟩ = false := World.ownsRow.frozenAt h j

theorem IntF.lt {lo g cap n : Nat} {w : World} {f : Nat → Nat} (h : IntF lo w g cap n f) : lo ≤ g ∧ g < w.heap.size := World.ownsRow.lt h g rfl

theorem IntF.congr {lo g cap n : Nat} {w : World} {f f' : Nat → Nat} (h : IntF lo w g cap n f) (e : ∀ j, j < n → f' j = f j) : IntF lo w g cap n f' := by
  have : (List.range n).map (fun j => intV (f' j)) = (List.range n).map (fun j => intV (f j)) := List.map_congr_left fun j hj => by rw [e j (by simpa using hj)]
  unfold IntF at *
  rw [this]
  exact h

theorem IntF.set {lo g cap n : Nat} {w : World} {f : Nat → Nat} (h : IntF lo w g cap n f) (x y : Nat) : IntF lo (w.setCell ⟨g, x, none⟩ (.int .i64 (y : Int))) g cap n (fun j => if j = x then y else f j) := by
  have h1 := (World.ownsRow.stored h x (.int .i64 (y : Int))).1
  unfold IntF
  have e : (List.range n).map (fun j => intV (if j = x then y else f j)) = ((List.range n).map (fun j => intV (f j))).set x (.int .i64 (y : Int)) := by
    apply List.ext_getElem?
    intro j
    rw [List.getElem?_set, List.getElem?_map, List.getElem?_map]
    by_cases hj : j < n
    · by_cases e : x = j
      · subst e
        simp [hj, intV]
      · have : ¬ j = x := fun h => e h.symm
        simp [hj, e, this]
    · have e1 : (List.range n)[j]? = none := List.getElem?_eq_none (by simp; omega)
      rw [e1]
      by_cases e : x = j
      · subst e; simp [hj]
      · simp [e]
  rw [e]
  exact h1

theorem infoIntC : (Tryz.prog.info? 3).map (fun i => (i.zero, i.size, i.bytes)) = some (some (.int .i64 0), 1, 8) := by kernel_rfl
theorem info_partsC {t : TypeId} {z : Value} {n k : Nat} (h : (Tryz.prog.info? t).map (fun i => (i.zero, i.size, i.bytes)) = some (some z, n, k)) : ∃ i, Tryz.prog.info? t = some i ∧ i.zero = some z ∧ i.size = n ∧ i.bytes = k := by
  simp only [Option.map_eq_some_iff, Prod.mk.injEq] at h
  obtain ⟨i, h1, h2, h3, h4⟩ := h
  exact ⟨i, h1, h2, h3, h4⟩

set_option maxRecDepth 100000 in
set_option maxHeartbeats 2000000 in
theorem clone_any {Q : Ending → World → Prop} (og oc : Nat) (ord : List Nat) (w : World) (h1 : 0 < ord.length) (hl : ord.length ≤ 60) (hO : ∀ i, i < ord.length → w.cell? ⟨og, i, none⟩ = some (intV (ord.getD i 0)))
    (hQ : ∀ g cap w', Below w.heap.size w w' → IntF w.heap.size w' g cap ord.length (fun j => ord.getD j 0) → Q (.returned (.slice (some ⟨g, 0, none⟩) ord.length cap)) w') :
    Calls Tryz.prog 107 #[.slice (some ⟨og, 0, none⟩) ord.length oc] w Q := by
  have HQ : Hid _ := hQ
  have HO : Hid (∀ i, i < ord.length → w.cell? ⟨og, i, none⟩ = some (intV (ord.getD i 0))) := hO
  clear hQ hO
  obtain ⟨i0, hi, hz0, hz1, hz2⟩ := info_partsC infoIntC
  have HB0 : Hid (∀ O, Below w.heap.size w (w.alloc O)) := fun O => (Below.refl _ _).alloc (Nat.le_refl _) O
  have HE : Hid ((w.alloc (.cells #[] 3)).ownsRow w.heap.size 3 1 (.slice (some ⟨w.heap.size, 0, none⟩) 0 0) 0 []) := World.ownsRow_lit (base := w.heap.size) (e := 3) (size := 1) w #[] 0 (Nat.le_refl _) (by decide) (by simp)
  have HN : Hid (∀ j u, (ord.map intV)[j]? = some u → (w.alloc (.cells #[] 3)).cell? ((⟨og, 0, none⟩ : Addr).add j) = some u) := fun j u hu => by
    rw [List.getElem?_map] at hu
    cases hj : ord[j]? with
    | none => rw [hj] at hu; cases hu
    | some z =>
      rw [hj] at hu
      simp at hu
      subst hu
      have hjl := (List.getElem?_eq_some_iff.1 hj).1
      have := cell_keep (HB0.out (.cells #[] 3)) (HO.out j hjl)
      rw [List.getD_eq_getElem?_getD, hj] at this
      rw [show (⟨og, 0, none⟩ : Addr).add j = ⟨og, j, none⟩ from by unfold Addr.add; split <;> simp_all]
      exact this
  have hnil := fun (w : World) => Go.run_eql_slice_nil (P := Tryz.prog) w 30 3 (some ⟨og, 0, none⟩) ord.length oc Tryz.underlying30
  simp only [Option.isNone] at hnil
  go_enter Tryz.func107, Tryz.ntmps107
  go_wp2_with (at_builtin; refine wpList_append_lies _ rfl (.tmp 5) (.tmp 6) 30 rfl w.heap.size 3 i0 (.int .i64 0) 1 8 Tryz.underlying30 hi hz0 hz1 hz2 rfl (by decide) (.slice (some ⟨w.heap.size, 0, none⟩) 0 0) 0 [] rfl HE.out ⟨og, 0, none⟩ ord.length oc (ord.map intV) rfl (by simp) HN.out (by intro u hu; obtain ⟨x, _, rfl⟩ := List.mem_map.1 hu; rfl) h1 (by unfold maxLen; omega) (by omega) (by simp) _ rfl ?_)
  intro g8 cap8 w8 hown8 hgrow8 hat8 hlt8
  have HB8 : Hid (Below w.heap.size w w8) := (HB0.out _).grown hgrow8 (by simp) (fun q hq => by simp [Value.ownBlock] at hq; omega)
  have HO8 : Hid (IntF w.heap.size w8 g8 cap8 ord.length (fun j => ord.getD j 0)) := by
    unfold IntF
    rw [Hid, show (List.range ord.length).map (fun j => intV (ord.getD j 0)) = ord.map intV from ?_]
    · simpa using hown8
    · apply List.ext_getElem?
      intro j
      rw [List.getElem?_map, List.getElem?_map]
      by_cases hj : j < ord.length
      · simp [hj]
      · simp [hj]
  clear hown8 hgrow8 hat8 hlt8
  go_wp2
  exact HQ.out _ _ _ HB8.out HO8.out

/-- Behind i swaps. -/
def revK (n i : Nat) (f : Nat → Nat) : Nat → Nat := fun k => if k < i ∨ n - 1 - i < k then f (n - 1 - k) else f k

set_option maxRecDepth 100000 in
set_option maxHeartbeats 2000000 in
theorem reverse_any {Q : Ending → World → Prop} (lo g cap n : Nat) (f : Nat → Nat) (w : World) (hn : n ≤ 60) (h1 : 0 < n) (h : IntF lo w g cap n f)
    (hQ : ∀ v w', Out g (g + 1) w w' → IntF lo w' g cap n (fun j => f (n - 1 - j)) → Q (.returned v) w') :
    Calls Tryz.prog 108 #[.slice (some ⟨g, 0, none⟩) n cap] w Q := by
  have HQ : Hid _ := hQ
  have HF0 : Hid (IntF lo w g cap n (revK n 0 f)) := h.congr fun j hj => by unfold revK; rw [if_neg (by omega)]
  clear hQ h
  go_enter Tryz.func108, Tryz.ntmps108
  go_wp2_with fail
  go_loopw [2, 3] (fun a b wr => ∃ i : Nat, 2 * i ≤ n ∧ a = .int .i64 i ∧ b = .int .i64 ((n : Int) - 1 - i) ∧ IntF lo wr g cap n (revK n i f) ∧ Out g (g + 1) w wr) (fun a _ _ => n - (intOf a).toNat)
  case atStart => exact ⟨0, by omega, rfl, by go_num, HF0.out, Out.refl _ _ _⟩
  case round =>
    clear HF0
    obtain ⟨i, hi, rfl, rfl, hf, ho⟩ := hrel
    have HF : Hid (IntF lo wr g cap n (revK n i f)) := hf
    have HO : Hid (Out g (g + 1) w wr) := ho
    by_cases hlt : (i : Int) < (n : Int) - 1 - i
    · have hil : i < n := by omega
      obtain ⟨j, hj⟩ : ∃ j : Nat, (n : Int) - 1 - i = (j : Int) := ⟨n - 1 - i, by omega⟩
      have hjn : j < n := by omega
      have hij : i < j := by omega
      rw [hj] at hlt ⊢
      have ci := hf.cell hil
      have cj := hf.cell hjn
      have fi := hf.frozen i
      have fj := hf.frozen j
      have e1 : revK n i f i = f i := by unfold revK; rw [if_neg (by omega)]
      have e2 : revK n i f j = f j := by unfold revK; rw [if_neg (by omega)]
      rw [e1] at ci
      rw [e2] at cj
      have HNX : Hid (IntF lo ((wr.setCell ⟨g, i, none⟩ (.int .i64 (f j : Int))).setCell ⟨g, j, none⟩ (.int .i64 (f i : Int))) g cap n (revK n (i + 1) f)) := ((hf.set i (f j)).set j (f i)).congr fun k hk => by
        unfold revK
        by_cases a1 : k = j
        · subst a1
          rw [if_pos rfl, if_pos (Or.inr (by omega))]
          congr 1
          omega
        · rw [if_neg a1]
          by_cases a2 : k = i
          · subst a2
            rw [if_pos rfl, if_pos (Or.inl (by omega))]
            congr 1
            omega
          · rw [if_neg a2]
            by_cases a3 : k < i ∨ n - 1 - i < k
            · rw [if_pos a3, if_pos (by omega)]
            · rw [if_neg a3, if_neg (by omega)]
      have hneq : ¬ i = j := by omega
      have hneq2 : ¬ j = i := by omega
      have hset2 : ∀ k, k < n → revK n (i + 1) f k = if k = i then f j else if k = j then f i else revK n i f k := fun k hk => by
        by_cases a1 : k = j
        · subst a1
          rw [show revK n (i + 1) f k = f (n - 1 - k) from if_pos (Or.inr (by omega)), if_neg hneq2, if_pos rfl]
          congr 1
          omega
        · by_cases a2 : k = i
          · subst a2
            rw [show revK n (k + 1) f k = f (n - 1 - k) from if_pos (Or.inl (by omega)), if_pos rfl]
            congr 1
            omega
          · rw [if_neg a2, if_neg a1]
            unfold revK
            by_cases a3 : k < i ∨ n - 1 - i < k
            · rw [if_pos a3, if_pos (by omega)]
            · rw [if_neg a3, if_neg (by omega)]
      have HNX2 : Hid (IntF lo ((wr.setCell ⟨g, j, none⟩ (.int .i64 (f i : Int))).setCell ⟨g, i, none⟩ (.int .i64 (f j : Int))) g cap n (revK n (i + 1) f)) := ((hf.set j (f i)).set i (f j)).congr hset2
      have HNO2 : Hid (Out g (g + 1) w ((wr.setCell ⟨g, j, none⟩ (.int .i64 (f i : Int))).setCell ⟨g, i, none⟩ (.int .i64 (f j : Int)))) := (ho.setCell (Nat.le_refl _) (by show g < g + 1; omega) _).setCell (Nat.le_refl _) (by show g < g + 1; omega) _
      have HNO : Hid (Out g (g + 1) w ((wr.setCell ⟨g, i, none⟩ (.int .i64 (f j : Int))).setCell ⟨g, j, none⟩ (.int .i64 (f i : Int)))) := (ho.setCell (Nat.le_refl _) (by show g < g + 1; omega) _).setCell (Nat.le_refl _) (by show g < g + 1; omega) _
      have hii : (i : Int) < (n : Int) := by omega
      have hji : (j : Int) < (n : Int) := by omega
      have hjj : (j : Int) - 1 = (n : Int) - 1 - ((i + 1 : Nat) : Int) := by omega
      have HJJ : Hid _ := hjj
      clear hf ho HF HO e1 e2 hset2 hjj
      go_wp2_with fail
      go_region_law (fail)
      all_goals
        go_wp2
        go_roundw
        case rel => exact ⟨i + 1, by omega, by go_num, by first | go_num | (rw [← HJJ.out]), by first | exact HNX.out | exact HNX2.out, by first | exact ⟨HNO.out.os, HNO.out.tape, HNO.out.output, HNO.out.size, HNO.out.block⟩ | exact ⟨HNO2.out.os, HNO2.out.tape, HNO2.out.output, HNO2.out.size, HNO2.out.block⟩⟩
        case measure => simp [intOf]; omega
    · have HE : Hid (IntF lo wr g cap n (fun j => f (n - 1 - j))) := hf.congr fun k hk => by
        unfold revK
        by_cases a3 : k < i ∨ n - 1 - i < k
        · rw [if_pos a3]
        · rw [if_neg a3]
          congr 1
          omega
      clear hf ho
      go_wp2
      go_end0
      exact HQ.out _ _ HO.out HE.out
end Go.Proofs.YtmplkchdfloppaaGreatDoor
namespace Go.Proofs.YtmplkchdfloppaaGreatDoor
open Go.RowKit

theorem order_facts {w : World} {V : Nat} {ss : List St} {e : E5} {ord : List Nat} {rs : List Bool} {A : Option Addr} {c og oc : Nat} {pv : Value} {bc bk : BitVec 64} (h : VS w V ss e ord rs A c og oc pv bc bk) (hok : okB ss = true) :
    ord.length ≤ 60 ∧ 0 < ord.length ∧ ∀ i, i ∈ ord ↔ i < ss.length ∧ rF rs i = true := by
  have hn := (ok_len hok).2
  refine ⟨Nat.le_trans (nodup_len h.io.nodup fun i hi => ((h.io.mem i).1 hi).1) hn, ?_, fun i => ?_⟩
  · obtain ⟨r, hr⟩ := h.io.last
    rw [hr]
    simp
  · rw [h.io.mem i]
    constructor
    · rintro ⟨h1, h2⟩
      refine ⟨h1, ?_⟩
      have := (h.re.2 i h1).2 h2
      unfold rF
      rw [List.getD_eq_getElem?_getD, this]
      rfl
    · rintro ⟨h1, h2⟩
      refine ⟨h1, (h.re.2 i h1).1 ?_⟩
      unfold rF at h2
      rw [List.getD_eq_getElem?_getD] at h2
      have hl : i < rs.length := by rw [h.re.1]; exact h1
      rw [List.getElem?_eq_getElem hl] at h2 ⊢
      simpa using h2

set_option maxRecDepth 100000 in
set_option maxHeartbeats 2000000 in
theorem mostByAhead_any {Q : Ending → World → Prop} {w : World} {V : Nat} {ss : List St} {e : E5} {ord : List Nat} {rs : List Bool} {A : Option Addr} {c og oc : Nat} {pv : Value} {bc bk : BitVec 64} (h : VS w V ss e ord rs A c og oc pv bc bk) (hok : okB ss = true) (ga : Nat) (lb : Array Value) (ea : ∀ args w, (callFunc ga args).run Tryz.prog w = .ok (.enter ga args) w)
    (F : (Nat → Bool) → Nat → Bool) (hm : Mono ss.length F) (hoff : ∀ (x i : Nat) (g : Nat → Bool), i < ss.length → (x : Int) ∉ pF ss rs i → F (offB g x) i = F g i) (hA : Asks ss.length (rF rs) ga lb w F)
    (hQ : ∀ g B W', Below w.heap.size w W' → w.heap.size ≤ B → Gr ss.length (rF rs) F g → W'.rowIs B 4 ss.length (fun j => .bool (g j)) → Q (.returned (.slice (some ⟨B, 0, none⟩) ss.length ss.length)) W') :
    Calls Tryz.prog 81 #[.pointer (some ⟨V, 0, none⟩), .func (.func ga) #[] lb] w Q := by
  have HQ : Hid _ := hQ
  have HV : Hid (VS w V ss e ord rs A c og oc pv bc bk) := h
  have HOK : Hid (okB ss = true) := hok
  have HM : Hid _ := hm
  have HOF : Hid _ := hoff
  have HA : Hid (Asks ss.length (rF rs) ga lb w F) := @hA
  have HEA : Hid _ := ea
  have c0 := h.c0
  have c1 := h.c1
  have hn := (ok_len hok).2
  have HL : Hid (∀ x, x < ss.length → rF rs x = true → (nextOf ss x).length ≤ 60 ∧ ∀ y ∈ nextOf ss x, 0 ≤ y ∧ y.toNat < ss.length ∧ rF rs y.toNat = true) := fun x hx hr => ⟨Nat.le_trans (next_len hok hx) (by decide), fun y hy => next_reach hok h.re hx hr hy⟩
  obtain ⟨hol, ho1, hom⟩ := order_facts h hok
  have HOM : Hid (∀ i, i ∈ ord ↔ i < ss.length ∧ rF rs i = true) := hom
  clear hQ hm hoff hA ea h hok hom
  have hmf : ∀ (fn : Fn) (first cap : Array Value) (w : World), (Instr.makeFunc fn first cap).run Tryz.prog w = .ok (.func fn first cap) w := fun _ _ _ _ => rfl
  go_enter Tryz.func81, Tryz.ntmps81
  go_wp2_with fail
  refine clone_any og oc ord _ ho1 hol (fun i hi => HV.out.od i hi) fun g cap w1 hb1 hf1 => ?_
  have HB1 : Hid (Below w.heap.size w w1) := hb1
  have HF1 : Hid (IntF w.heap.size w1 g cap ord.length (fun j => ord.getD j 0)) := hf1
  clear hb1 hf1 c0 c1
  go_wp2_with fail
  refine reverse_any w.heap.size g cap ord.length (fun j => ord.getD j 0) _ hol ho1 HF1.out fun v2 w2 ho2 hf2 => ?_
  have hgl := HF1.out.lt
  have HB2 : Hid (Below w.heap.size w w2) := HB1.out.trans (ho2.below hgl.1 HB1.out.size)
  have HF2 : Hid (IntF w.heap.size w2 g cap ord.length (fun j => ord.getD (ord.length - 1 - j) 0)) := hf2
  have d0 := cell_keep HB2.out HV.out.c0
  have HR : Hid (∀ i, i < ord.reverse.length → w2.cell? ⟨g, i, none⟩ = some (intV (ord.reverse.getD i 0))) := fun i hi => by
    rw [List.length_reverse] at hi
    rw [hf2.cell hi]
    simp only [intV]
    congr 2
    simp only [List.getD_eq_getElem?_getD]
    rw [List.getElem?_reverse hi]
  clear ho2 hf2 HB1 HF1 hgl
  have hlr : ord.reverse.length = ord.length := List.length_reverse
  have hol2 : ord.reverse.length ≤ 60 := by omega
  go_wp2_with fail
  rw [← hlr]
  refine solve_any ss.length g cap ord.reverse 79 #[.pointer (some ⟨V, 0, none⟩)] ga lb (enters_of Tryz.func79 (by kernel_rfl) rfl) HEA.out _ (rF rs) F (nextOf ss) hn hol2 HR.out (fun i => by rw [List.mem_reverse]; exact HOM.out i) ((List.reverse_perm ord).nodup_iff.2 HV.out.io.nodup) HM.out (fun x i g hx hi hr hni => HOF.out x i g hi fun hm => hni (mem_preds.1 hm).2.2) HL.out (behind_hangs (HV.out.keep HB2.out)) (HA.out.later HB2.out) fun gg W' hb' hg hr' => ?_
  have HB : Hid (Below w.heap.size w W') := HB2.out.trans (hb'.mono HB2.out.size)
  have HG : Hid (Gr ss.length (rF rs) F gg) := hg
  have HRW : Hid (W'.rowIs w2.heap.size 4 ss.length (fun j => .bool (gg j))) := hr'
  clear hb' hg hr'
  go_wp2
  exact HQ.out gg _ _ HB.out HB2.out.size HG.out HRW.out

set_option maxRecDepth 100000 in
set_option maxHeartbeats 2000000 in
theorem upFrom_any {Q : Ending → World → Prop} {w W : World} {V : Nat} {ss : List St} {e : E5} {ord : List Nat} {rs : List Bool} {A : Option Addr} {c og oc : Nat} {pv : Value} {bc bk : BitVec 64} (h : VS w V ss e ord rs A c og oc pv bc bk) (hb : Below w.heap.size w W) (hok : okB ss = true) (VB : Nat) (hVB : w.cell? ⟨VB, 0, none⟩ = some (.pointer (some ⟨V, 0, none⟩)))
    (SB B : Nat) (so : Nat → Bool) (x : Int) (h0 : 0 ≤ x) (h1 : x < (ss.length : Int)) (hs : W.cell? ⟨SB, 0, none⟩ = some (.slice (some ⟨B, 0, none⟩) ss.length ss.length)) (hr : W.rowIs B 4 ss.length (fun j => .bool (so j)))
    (hQ : Q (.returned (.bool (kF e ss x.toNat && (cF e ss x.toNat || so x.toNat)))) W) :
    Calls Tryz.prog 83 #[.int .i64 x, .pointer (some ⟨VB, 0, none⟩), .pointer (some ⟨SB, 0, none⟩)] W Q := by
  have HQ : Hid _ := hQ
  have HV : Hid (VS w V ss e ord rs A c og oc pv bc bk) := h
  have HOK : Hid (okB ss = true) := hok
  have hv := h.keep hb
  have c3 := hv.c3
  have c4 := hv.c4
  have cv := cell_keep hb hVB
  obtain ⟨m, rfl⟩ := Int.eq_ofNat_of_zero_le h0
  have hm : m < ss.length := by omega
  have hc := hr.cell (i := m) hm
  rw [show ((m : Int)).toNat = m from rfl] at HQ
  clear hQ hr h0 h hok hv hb hVB
  go_enter Tryz.func83, Tryz.ntmps83
  go_wp2_with fail
  refine has_k HV.out.kw HOK.out m hm _ ?_
  cases hk : kF e ss m
  · rw [hk, Bool.false_and] at HQ
    clear hk
    go_wp2
    exact HQ.out
  · rw [hk, Bool.true_and] at HQ
    clear hk
    go_wp2_with fail
    refine has_c HV.out.cw HOK.out m hm _ ?_
    cases hcc : cF e ss m
    · rw [hcc, Bool.false_or] at HQ
      clear hcc
      generalize so m = z at *
      go_wp2
      exact HQ.out
    · rw [hcc, Bool.true_or] at HQ
      clear hcc
      go_wp2
      exact HQ.out

set_option maxRecDepth 100000 in
set_option maxHeartbeats 2000000 in
theorem up_asks {w : World} {V : Nat} {ss : List St} {e : E5} {ord : List Nat} {rs : List Bool} {A : Option Addr} {c og oc : Nat} {pv : Value} {bc bk : BitVec 64} (h : VS w V ss e ord rs A c og oc pv bc bk) (hok : okB ss = true) (VB : Nat) (hVB : w.cell? ⟨VB, 0, none⟩ = some (.pointer (some ⟨V, 0, none⟩))) :
    Asks ss.length (rF rs) 82 #[.pointer (some ⟨VB, 0, none⟩)] w (upF (cF e ss) (kF e ss) (pF ss rs)) := by
  intro W x B so hb hB hx hr hrow Q hQ
  show Calls Tryz.prog _ #[.int .i64 (x : Int), .slice (some ⟨B, 0, none⟩) ss.length ss.length, .pointer (some ⟨VB, 0, none⟩)] W Q
  have HQ : Hid _ := hQ
  have HV : Hid (VS w V ss e ord rs A c og oc pv bc bk) := h
  have HOK : Hid (okB ss = true) := hok
  have HB : Hid (Below w.heap.size w W) := hb
  have HR : Hid (W.rowIs B 4 ss.length (fun j => .bool (so j))) := hrow
  have HVB : Hid (w.cell? ⟨VB, 0, none⟩ = some (.pointer (some ⟨V, 0, none⟩))) := hVB
  have cv := cell_keep hb hVB
  have hVBl := cell_lt cv
  simp only at hVBl
  have hn := (ok_len hok).2
  have HLW : Hid (Low ss.length (pF ss rs)) := low_preds ss rs
  have hpl : (pF ss rs x).length ≤ 60 := Nat.le_trans (predsK_len _ _ _ _) hn
  clear hQ h hok hb hrow hVB
  have HA : Hid (∀ O, Below W.heap.size W (W.alloc O)) := fun O => (Below.refl _ _).alloc (Nat.le_refl _) O
  have hmf : ∀ (fn : Fn) (first cap : Array Value) (w : World), (Instr.makeFunc fn first cap).run Tryz.prog w = .ok (.func fn first cap) w := fun _ _ _ _ => rfl
  by_cases h0 : x = 0
  · have HF : Hid (upF (cF e ss) (kF e ss) (pF ss rs) so x = false) := by simp [Hid, upF, h0]
    rw [HF.out] at HQ
    subst h0
    go_enter Tryz.func82, Tryz.ntmps82
    go_wp2
    exact HQ.out _ (HA.out _)
  · have HF : Hid (upF (cF e ss) (kF e ss) (pF ss rs) so x = allI (pF ss rs x) (fun m => kF e ss m && (cF e ss m || so m))) := by simp [Hid, upF, h0]
    have h0i : ((x : Int) != 0) = true := by simp [h0]
    have h0j : ¬ (x : Int) = 0 := by omega
    rw [HF.out] at HQ
    go_enter Tryz.func82, Tryz.ntmps82
    go_wp2_with fail
    refine aheadOf_any (w0 := w) (HB.out.trans ((HA.out _).mono HB.out.size)) HV.out x hx fun nv hnv => ?_
    have HN : Hid (IntsAt w nv (pF ss rs x)) := hnv
    clear hnv
    go_wp2_with fail
    refine all_any 83 #[.pointer (some ⟨VB, 0, none⟩), .pointer (some ⟨W.heap.size, 0, none⟩)] (enters_of Tryz.func83 (by kernel_rfl) rfl) _ (pF ss rs x) (fun m => kF e ss m && (cF e ss m || so m)) _ ((HN.out.keep HB.out).keep (HA.out _)) (fun y hy => (HLW.out x hx y hy).1) (by omega) (fun W' y hb' hy Q' hq => ?_) fun W2 hb2 => ?_
    · have hl := HLW.out x hx y hy
      have hbw : Below w.heap.size w W' := HB.out.trans (((HA.out _).trans (hb'.mono (by simp))).mono HB.out.size)
      exact upFrom_any HV.out hbw HOK.out VB HVB.out W.heap.size B so y hl.1 hl.2 (cell_keep hb' (by simp [go_sem])) (rowIs_keep (rowIs_keep HR.out (HA.out _)) hb') (hq _ (Below.refl _ _))
    · have HF2 : Hid (Below W.heap.size W W2) := (HA.out _).trans (hb2.mono (by simp))
      clear hb2
      go_wp2
      exact HQ.out _ HF2.out

set_option maxRecDepth 100000 in
set_option maxHeartbeats 2000000 in
theorem up_any {Q : Ending → World → Prop} {w : World} {V : Nat} {ss : List St} {e : E5} {ord : List Nat} {rs : List Bool} {A : Option Addr} {c og oc : Nat} {pv : Value} {bc bk : BitVec 64} (h : VS w V ss e ord rs A c og oc pv bc bk) (hok : okB ss = true)
    (hQ : ∀ f B W', Below w.heap.size w W' → w.heap.size ≤ B → IsUp ss e rs f → W'.rowIs B 4 ss.length (fun j => .bool (f j)) → Q (.returned (.slice (some ⟨B, 0, none⟩) ss.length ss.length)) W') :
    Calls Tryz.prog 42 #[.pointer (some ⟨V, 0, none⟩)] w Q := by
  have HQ : Hid _ := hQ
  have HV : Hid (VS w V ss e ord rs A c og oc pv bc bk) := h
  have HOK : Hid (okB ss = true) := hok
  clear hQ h hok
  have HA : Hid (∀ O, Below w.heap.size w (w.alloc O)) := fun O => (Below.refl _ _).alloc (Nat.le_refl _) O
  have hmf : ∀ (fn : Fn) (first cap : Array Value) (w : World), (Instr.makeFunc fn first cap).run Tryz.prog w = .ok (.func fn first cap) w := fun _ _ _ _ => rfl
  go_enter Tryz.func42, Tryz.ntmps42
  go_wp2_with fail
  refine mostByAhead_any (HV.out.keep (HA.out _)) HOK.out 82 #[.pointer (some ⟨w.heap.size, 0, none⟩)] (enters_of Tryz.func82 (by kernel_rfl) rfl) _ (upF_mono (low_preds ss rs)) (fun x i g hi hx => upF_off (low_preds ss rs) hi hx) (up_asks (HV.out.keep (HA.out _)) HOK.out w.heap.size (by simp [go_sem])) fun g B W' hb' hB hg hr => ?_
  have HB : Hid (Below w.heap.size w W') := (HA.out _).trans (hb'.mono (by simp))
  have HG : Hid (IsUp ss e rs g) := hg
  have HR : Hid (W'.rowIs B 4 ss.length (fun j => .bool (g j))) := hr
  have hB2 : w.heap.size ≤ B := by simp at hB; omega
  clear hb' hg hr hB
  go_wp2
  exact HQ.out g B _ HB.out hB2 HG.out HR.out

theorem up_tells {ss : List St} {e : E5} (hok : okB ss = true) : Tells ss e 42 (IsUp ss e) := fun _ _ _ _ _ _ _ _ _ _ _ h _ hQ => up_any h hok hQ

set_option maxRecDepth 100000 in
theorem implSafeUp_any {Q : Ending → World → Prop} (v : Value) (ss : List St) (e : E5) (w : World) (h : StepsAt w v ss) (hl : ss.length ≤ 1048576) (hls : ∀ s ∈ ss, s.next.length ≤ 1048576)
    (hQ : ∀ v' bs w', Below w.heap.size w w' → SafeOr IsUp ss e bs → w'.ownsRow w.heap.size 4 1 v' bs.length (bs.map Value.bool) → Q (.returned v') w') :
    Calls Tryz.prog 16 #[.agg #[v], .agg #[.int .i64 e.op, .int .i64 e.av, .int .i64 e.an, .int .i64 e.bv, .int .i64 e.bn]] w Q := by
  have HQ : Hid _ := hQ
  clear hQ
  have HH : Hid (StepsAt w v ss) := h
  have HL : Hid (∀ s ∈ ss, s.next.length ≤ 1048576) := hls
  obtain ⟨ao, b, o, cap, rfl, ha, hc⟩ := id h
  clear ha hc h hls
  have hb0 : ∀ O O', Below w.heap.size w ((w.alloc O).alloc O') := fun O O' => ((Below.refl _ _).alloc (Nat.le_refl _) O).alloc (by simp) O'
  have HB0 : Hid _ := hb0
  clear hb0
  go_enter Tryz.func16, Tryz.ntmps16
  go_wp2_with fail
  refine seen_any IsUp 42 (enters_of Tryz.func42 (by kernel_rfl) rfl) _ ss e _ (HH.out.keep (HB0.out _ _)) hl HL.out (fun hok _ => up_tells hok) fun v' bs w' hb hs hown => ?_
  have HB : Hid (Below w.heap.size w w') := (HB0.out _ _).trans (hb.mono (by simp; omega))
  have HS : Hid _ := hs
  have HO : Hid (w'.ownsRow w.heap.size 4 1 v' bs.length (bs.map Value.bool)) := own_lower hown (by simp; omega)
  clear hb hs hown
  go_wp2
  exact HQ.out _ _ _ HB.out HS.out HO.out
end Go.Proofs.YtmplkchdfloppaaGreatDoor
namespace Go.Proofs.YtmplkchdfloppaaGreatDoor
open Go.RowKit

/-- What a function value answers of each place. -/
def Isso (n : Nat) (g : Nat) (lb : Array Value) (w : World) (f : Nat → Bool) : Prop :=
  ∀ W x, Below w.heap.size w W → x < n → ∀ {Q' : Ending → World → Prop}, (∀ W', Below W.heap.size W W' → Q' (.returned (.bool (f x))) W') → Calls Tryz.prog g (#[.int .i64 (x : Int)] ++ lb) W Q'

set_option maxRecDepth 100000 in
set_option maxHeartbeats 2000000 in
theorem viewEach_any {Q : Ending → World → Prop} {w : World} {V : Nat} {ss : List St} {e : E5} {ord : List Nat} {rs : List Bool} {A : Option Addr} {c og oc : Nat} {pv : Value} {bc bk : BitVec 64} (h : VS w V ss e ord rs A c og oc pv bc bk) (hok : okB ss = true) (ga : Nat) (lb : Array Value) (ea : ∀ args w, (callFunc ga args).run Tryz.prog w = .ok (.enter ga args) w)
    (f : Nat → Bool) (hA : Isso ss.length ga lb w f)
    (hQ : ∀ B W', Below w.heap.size w W' → w.heap.size ≤ B → W'.rowIs B 4 ss.length (fun j => .bool (f j)) → Q (.returned (.slice (some ⟨B, 0, none⟩) ss.length ss.length)) W') :
    Calls Tryz.prog 63 #[.pointer (some ⟨V, 0, none⟩), .func (.func ga) #[] lb] w Q := by
  have HQ : Hid _ := hQ
  have HA : Hid (Isso ss.length ga lb w f) := @hA
  have c0 := h.c0
  have hn := (ok_len hok).2
  clear hQ hA h hok
  go_enter Tryz.func63, Tryz.ntmps63
  go_wp2_with (at_make; refine wpList_make_is _ rfl (.tmp 11) (.tmp 11) 33 rfl 4 (.bool false) 1 Tryz.underlying33 infoBoolV rfl .i64 .i64 ss.length rfl rfl (by omega) (by omega) ?_)
  intro w1 hrow1 hb1 hs1
  have HB1 : Hid (Below w.heap.size w w1) := hb1
  have HR1 : Hid (w1.rowIs w.heap.size 4 ss.length (fun _ => .bool false)) := hrow1
  clear hrow1 hb1 c0
  go_wp2_with fail
  go_loopw [6, 15] (fun _ i wr => ∃ k : Nat, k ≤ ss.length ∧ i = .int .i64 k ∧ Below w.heap.size w wr ∧ wr.rowIs w.heap.size 4 ss.length (fun j => .bool (if j < k then f j else false))) (fun _ i _ => ss.length - (intOf i).toNat)
  case atStart => exact ⟨0, Nat.zero_le _, rfl, HB1.out, by simpa using HR1.out⟩
  case round =>
    clear HR1
    obtain ⟨k, hk, rfl, hb, hr⟩ := hrel
    have HB : Hid (Below w.heap.size w wr) := hb
    have HR : Hid (wr.rowIs w.heap.size 4 ss.length (fun j => .bool (if j < k then f j else false))) := hr
    clear hb hr
    by_cases hkn : k < ss.length
    · have hki : (k : Int) < (ss.length : Int) := by omega
      go_wp2_with fail
      refine HA.out wr k HB.out hkn fun w2 hb2 => ?_
      have HB2 : Hid (Below w.heap.size w w2) := HB.out.trans (hb2.mono HB.out.size)
      have hr2 := rowIs_keep HR.out hb2
      have c2 := hr2.cell (i := k) hkn
      have f2 := hr2.frozen k
      have HN : Hid ((w2.setCell ⟨w.heap.size, k, none⟩ (.bool (f k))).rowIs w.heap.size 4 ss.length (fun j => .bool (if j < k + 1 then f j else false))) := (hr2.set k _).congr fun j _ => by
        by_cases e1 : j = k
        · subst e1; simp
        · by_cases e2 : j < k
          · have : j < k + 1 := by omega
            simp [e1, e2, this]
          · have : ¬ j < k + 1 := by omega
            simp [e1, e2, this]
      have HBN : Hid (Below w.heap.size w (w2.setCell ⟨w.heap.size, k, none⟩ (.bool (f k)))) := HB2.out.setCell (Nat.le_refl _) _
      clear hb2 hr2
      generalize f k = z at *
      go_wp2
      go_roundw
      case rel => exact ⟨k + 1, by omega, by go_num, HBN.out, HN.out⟩
      case measure => simp [intOf]; omega
    · have hki : ¬ (k : Int) < (ss.length : Int) := by omega
      have HE : Hid (wr.rowIs w.heap.size 4 ss.length (fun j => .bool (f j))) := HR.out.congr fun j hj => by
        have : j < k := by omega
        simp [this]
      go_wp2
      exact HQ.out _ _ HB.out (Nat.le_refl _) HE.out

set_option maxRecDepth 100000 in
set_option maxHeartbeats 2000000 in
theorem earlyFrom_any {Q : Ending → World → Prop} {w W : World} {V : Nat} {ss : List St} {e : E5} {ord : List Nat} {rs : List Bool} {A : Option Addr} {c og oc : Nat} {pv : Value} {bc bk : BitVec 64} (h : VS w V ss e ord rs A c og oc pv bc bk) (hb : Below w.heap.size w W) (hok : okB ss = true) (VB DB UB D U : Nat) (d u : Nat → Bool)
    (hVB : w.cell? ⟨VB, 0, none⟩ = some (.pointer (some ⟨V, 0, none⟩))) (hDB : w.cell? ⟨DB, 0, none⟩ = some (.slice (some ⟨D, 0, none⟩) ss.length ss.length)) (hUB : w.cell? ⟨UB, 0, none⟩ = some (.slice (some ⟨U, 0, none⟩) ss.length ss.length))
    (hrd : w.rowIs D 4 ss.length (fun j => .bool (d j))) (hru : w.rowIs U 4 ss.length (fun j => .bool (u j)))
    (x : Int) (h0 : 0 ≤ x) (h1 : x < (ss.length : Int))
    (hQ : Q (.returned (.bool (kF e ss x.toNat && (d x.toNat || u x.toNat)))) W) :
    Calls Tryz.prog 67 #[.int .i64 x, .pointer (some ⟨VB, 0, none⟩), .pointer (some ⟨DB, 0, none⟩), .pointer (some ⟨UB, 0, none⟩)] W Q := by
  have HQ : Hid _ := hQ
  have HV : Hid (VS w V ss e ord rs A c og oc pv bc bk) := h
  have HOK : Hid (okB ss = true) := hok
  have hv := h.keep hb
  have c4 := hv.c4
  have cv := cell_keep hb hVB
  have cd := cell_keep hb hDB
  have cu := cell_keep hb hUB
  obtain ⟨m, rfl⟩ := Int.eq_ofNat_of_zero_le h0
  have hm : m < ss.length := by omega
  have dd := cell_keep hb (hrd.cell (i := m) hm)
  have du := cell_keep hb (hru.cell (i := m) hm)
  rw [show ((m : Int)).toNat = m from rfl] at HQ
  clear hQ hrd hru h0 h hok hv hb hVB hDB hUB
  go_enter Tryz.func67, Tryz.ntmps67
  go_wp2_with fail
  refine has_k HV.out.kw HOK.out m hm _ ?_
  cases hk : kF e ss m
  · rw [hk, Bool.false_and] at HQ
    clear hk
    go_wp2
    exact HQ.out
  · rw [hk, Bool.true_and] at HQ
    clear hk
    cases hd : d m
    · rw [hd] at dd
      rw [hd, Bool.false_or] at HQ
      clear hd
      generalize u m = z at *
      go_wp2
      exact HQ.out
    · rw [hd] at dd
      rw [hd, Bool.true_or] at HQ
      clear hd
      go_wp2
      exact HQ.out

set_option maxRecDepth 100000 in
set_option maxHeartbeats 2000000 in
theorem early_isso {w : World} {V : Nat} {ss : List St} {e : E5} {ord : List Nat} {rs : List Bool} {A : Option Addr} {c og oc : Nat} {pv : Value} {bc bk : BitVec 64} (h : VS w V ss e ord rs A c og oc pv bc bk) (hok : okB ss = true) (VB DB UB D U : Nat) (d u : Nat → Bool)
    (hVB : w.cell? ⟨VB, 0, none⟩ = some (.pointer (some ⟨V, 0, none⟩))) (hDB : w.cell? ⟨DB, 0, none⟩ = some (.slice (some ⟨D, 0, none⟩) ss.length ss.length)) (hUB : w.cell? ⟨UB, 0, none⟩ = some (.slice (some ⟨U, 0, none⟩) ss.length ss.length))
    (hrd : w.rowIs D 4 ss.length (fun j => .bool (d j))) (hru : w.rowIs U 4 ss.length (fun j => .bool (u j))) :
    Isso ss.length 64 #[.pointer (some ⟨DB, 0, none⟩), .pointer (some ⟨VB, 0, none⟩), .pointer (some ⟨UB, 0, none⟩)] w (earlyB (kF e ss) d u (pF ss rs)) := by
  intro W x hb hx Q hQ
  show Calls Tryz.prog _ #[.int .i64 (x : Int), .pointer (some ⟨DB, 0, none⟩), .pointer (some ⟨VB, 0, none⟩), .pointer (some ⟨UB, 0, none⟩)] W Q
  have HQ : Hid _ := hQ
  have HV : Hid (VS w V ss e ord rs A c og oc pv bc bk) := h
  have HOK : Hid (okB ss = true) := hok
  have HB : Hid (Below w.heap.size w W) := hb
  have HRD : Hid (w.rowIs D 4 ss.length (fun j => .bool (d j))) := hrd
  have HRU : Hid (w.rowIs U 4 ss.length (fun j => .bool (u j))) := hru
  have HVB : Hid _ := hVB
  have HDB : Hid _ := hDB
  have HUB : Hid _ := hUB
  have cv := cell_keep hb hVB
  have cd := cell_keep hb hDB
  have dd := cell_keep hb (hrd.cell (i := x) hx)
  have hn := (ok_len hok).2
  have hxi : (x : Int) < (ss.length : Int) := by omega
  have HLW : Hid (Low ss.length (pF ss rs)) := low_preds ss rs
  have hpl : (pF ss rs x).length ≤ 60 := Nat.le_trans (predsK_len _ _ _ _) hn
  clear hQ h hok hb hVB hDB hUB hrd hru
  have hmf : ∀ (fn : Fn) (first cap : Array Value) (w : World), (Instr.makeFunc fn first cap).run Tryz.prog w = .ok (.func fn first cap) w := fun _ _ _ _ => rfl
  cases hd : d x
  · have HF : Hid (earlyB (kF e ss) d u (pF ss rs) x = false) := by simp [Hid, earlyB, hd]
    rw [hd] at dd
    rw [HF.out] at HQ
    go_enter Tryz.func64, Tryz.ntmps64
    go_wp2
    exact HQ.out _ (Below.refl _ _)
  · rw [hd] at dd
    by_cases h0 : x = 0
    · have HF : Hid (earlyB (kF e ss) d u (pF ss rs) x = true) := by subst h0; simp [Hid, earlyB, hd]
      rw [HF.out] at HQ
      clear hd
      subst h0
      go_enter Tryz.func64, Tryz.ntmps64
      go_wp2
      exact HQ.out _ (Below.refl _ _)
    · have HF : Hid (earlyB (kF e ss) d u (pF ss rs) x = !allI (pF ss rs x) (fun m => kF e ss m && (d m || u m))) := by simp [Hid, earlyB, hd, h0]
      have h0i : ((x : Int) == 0) = false := by simp [h0]
      have h0j : ¬ (x : Int) = 0 := by omega
      rw [HF.out] at HQ
      clear hd
      go_enter Tryz.func64, Tryz.ntmps64
      go_wp2_with fail
      refine aheadOf_any (w0 := w) HB.out HV.out x hx fun nv hnv => ?_
      have HN : Hid (IntsAt w nv (pF ss rs x)) := hnv
      clear hnv
      go_wp2_with fail
      refine all_any 67 #[.pointer (some ⟨VB, 0, none⟩), .pointer (some ⟨DB, 0, none⟩), .pointer (some ⟨UB, 0, none⟩)] (enters_of Tryz.func67 (by kernel_rfl) rfl) _ (pF ss rs x) (fun m => kF e ss m && (d m || u m)) _ (HN.out.keep HB.out) (fun y hy => (HLW.out x hx y hy).1) (by omega) (fun W' y hb' hy Q' hq => ?_) fun W2 hb2 => ?_
      · have hl := HLW.out x hx y hy
        exact earlyFrom_any HV.out (HB.out.trans (hb'.mono HB.out.size)) HOK.out VB DB UB D U d u HVB.out HDB.out HUB.out HRD.out HRU.out y hl.1 hl.2 (hq _ (Below.refl _ _))
      · have HB2 : Hid (Below W.heap.size W W2) := hb2
        clear hb2
        generalize allI (pF ss rs x) (fun m => kF e ss m && (d m || u m)) = z at *
        go_wp2
        exact HQ.out _ HB2.out

theorem kp_set {w : World} {p a : Addr} {v u : Value} (h : w.cell? p = some v) (hne : p.block ≠ a.block) : (w.setCell a u).cell? p = some v := by
  rw [cell_setOther _ _ _ _ hne]
  exact h
theorem kp_new {w : World} {a : Addr} {v u : Value} (h : w.cell? a = some v) : (w.setCell a u).cell? a = some u := by
  simp [go_sem, h]
theorem kp_alloc {w : World} {p : Addr} {v : Value} {O : Obj} (h : w.cell? p = some v) : (w.alloc O).cell? p = some v := cell_keep ((Below.refl _ _).alloc (Nat.le_refl _) O) h
theorem kp_drew {w : World} {p : Addr} {v : Value} (h : w.cell? p = some v) : w.drew.cell? p = some v := h

/-- A box for a slice, nothing in it yet. -/
structure BoxN (w : World) (a : Nat) : Prop where
  c : w.cell? ⟨a, 0, none⟩ = some (.slice none 0 0)
  f : w.frozen? ⟨a, 0, none⟩ = false
theorem BoxN.new (w : World) (t : TypeId) : BoxN (w.alloc (.cells #[.slice none 0 0] t)) w.heap.size := ⟨by simp [go_sem], by simp [go_sem]⟩
theorem BoxN.new1 (w : World) (O : Obj) (t : TypeId) : BoxN ((w.alloc O).alloc (.cells #[.slice none 0 0] t)) (w.heap.size + 1) := by
  have h := BoxN.new (w.alloc O) t
  rwa [World.size_alloc] at h
theorem BoxN.keep {w w' : World} {a : Nat} (h : BoxN w a) (hb : Below w.heap.size w w') : BoxN w' a := ⟨cell_keep hb h.c, (hb.frozen (cell_lt h.c)).trans h.f⟩
theorem BoxN.alloc {w : World} {a : Nat} {O : Obj} (h : BoxN w a) : BoxN (w.alloc O) a := h.keep ((Below.refl _ _).alloc (Nat.le_refl _) O)
theorem BoxN.drew {w : World} {a : Nat} (h : BoxN w a) : BoxN w.drew a := ⟨h.c, h.f⟩

theorem Below.step {B : Nat} {w Y z : World} (hb : Below Y.heap.size Y z) (hB : B ≤ Y.heap.size) (h : Below B w Y) : Below B w z := h.trans (hb.mono hB)

set_option maxRecDepth 100000 in
set_option maxHeartbeats 8000000 in
theorem early_any {Q : Ending → World → Prop} {w : World} {V : Nat} {ss : List St} {e : E5} {ord : List Nat} {rs : List Bool} {A : Option Addr} {c og oc : Nat} {pv : Value} {bc bk : BitVec 64} (h : VS w V ss e ord rs A c og oc pv bc bk) (hok : okB ss = true)
    (hQ : ∀ f B W', Below w.heap.size w W' → w.heap.size ≤ B → IsEarly ss e rs f → W'.rowIs B 4 ss.length (fun j => .bool (f j)) → Q (.returned (.slice (some ⟨B, 0, none⟩) ss.length ss.length)) W') :
    Calls Tryz.prog 30 #[.pointer (some ⟨V, 0, none⟩)] w Q := by
  have HQ : Hid _ := hQ
  have HV : Hid (VS w V ss e ord rs A c og oc pv bc bk) := h
  have HOK : Hid (okB ss = true) := hok
  clear hQ h hok
  have hA : Below w.heap.size w (w.alloc (.cells #[.pointer (some ⟨V, 0, none⟩)] 50)) := (Below.refl _ _).alloc (Nat.le_refl _) _
  have v1 : (w.alloc (.cells #[.pointer (some ⟨V, 0, none⟩)] 50)).cell? ⟨w.heap.size, 0, none⟩ = some (.pointer (some ⟨V, 0, none⟩)) := by simp [go_sem]
  have z0 : w.heap.size < (w.alloc (.cells #[.pointer (some ⟨V, 0, none⟩)] 50)).heap.size := by simp
  have hmf : ∀ (fn : Fn) (first cap : Array Value) (w : World), (Instr.makeFunc fn first cap).run Tryz.prog w = .ok (.func fn first cap) w := fun _ _ _ _ => rfl
  go_enter Tryz.func30, Tryz.ntmps30
  go_upto_region 1 with fail
  generalize w.alloc (.cells #[.pointer (some ⟨V, 0, none⟩)] 50) = W0 at *
  have n0 : ¬ w.heap.size = W0.heap.size := by omega
  have n1 : ¬ w.heap.size = W0.heap.size + 1 := by omega
  go_cut [3, 4] from 5 (fun s3 s4 wx => ∃ DB UB D U d u, s3 = .pointer (some ⟨DB, 0, none⟩) ∧ s4 = .pointer (some ⟨UB, 0, none⟩) ∧ Below w.heap.size w wx ∧ wx.cell? ⟨w.heap.size, 0, none⟩ = some (.pointer (some ⟨V, 0, none⟩)) ∧ w.heap.size < wx.heap.size ∧ wx.cell? ⟨DB, 0, none⟩ = some (.slice (some ⟨D, 0, none⟩) ss.length ss.length) ∧ wx.cell? ⟨UB, 0, none⟩ = some (.slice (some ⟨U, 0, none⟩) ss.length ss.length) ∧ IsDown ss e rs d ∧ IsUp ss e rs u ∧ wx.rowIs D 4 ss.length (fun j => .bool (d j)) ∧ wx.rowIs U 4 ss.length (fun j => .bool (u j)))
  case first =>
    go_region_held3 (fun wx => wx.cell? ⟨w.heap.size, 0, none⟩ = some (.pointer (some ⟨V, 0, none⟩))) (repeat (first | assumption | refine kp_drew ?_ | refine kp_alloc ?_ | refine kp_set ?_ (by first | (simp; done) | (simp; omega) | omega))) (first
      | (go_at_call 41; refine down_any (HV.out.keep (by repeat (first | assumption | refine Below.drew ?_ | refine Below.alloc ?_ (by first | omega | (simp; omega)) _ | refine Below.setCell ?_ (by first | omega | (simp; omega)) _))) HOK.out ?_; intro d D w2 hb2 hD hd hrd; have v2 : w2.cell? ⟨w.heap.size, 0, none⟩ = some (.pointer (some ⟨V, 0, none⟩)) := cell_keep hb2 (by assumption); have B2 : Below w.heap.size w w2 := Below.step hb2 (by first | omega | (simp; omega)) (by repeat (first | assumption | refine Below.drew ?_ | refine Below.alloc ?_ (by first | omega | (simp; omega)) _ | refine Below.setCell ?_ (by first | omega | (simp; omega)) _)); have q2 := hb2.size; have z2 : W0.heap.size ≤ w2.heap.size := (by first | omega | (simp at q2; omega)); have m1 : ¬ w.heap.size = w2.heap.size := (by omega); have m2 : ¬ w.heap.size = w2.heap.size + 1 := (by omega); have m3 : w.heap.size < w2.heap.size := (by omega); have hDl := hrd.lt; (try simp at hD); have hDg : W0.heap.size ≤ D := (by first | omega | (exact hD)); (try (have ax0 : BoxN w2 (W0.heap.size) := BoxN.keep (by first | assumption | exact BoxN.new _ _ | exact BoxN.new1 _ _ _ | exact BoxN.alloc (BoxN.new _ _) | exact BoxN.alloc (by assumption) | exact BoxN.alloc (BoxN.alloc (by assumption)) | exact BoxN.drew (by assumption) | exact BoxN.drew (BoxN.new _ _) | exact BoxN.drew (BoxN.new1 _ _ _) | exact BoxN.drew (BoxN.alloc (BoxN.new _ _)) | exact BoxN.drew (BoxN.alloc (by assumption)) | exact BoxN.drew (BoxN.alloc (BoxN.alloc (by assumption)))) hb2; have ac0 := ax0.c; have af0 := ax0.f; have al0 : W0.heap.size < w2.heap.size := cell_lt ac0; have an0 : ¬ W0.heap.size = w2.heap.size := Nat.ne_of_lt (cell_lt ac0); have am0 : ¬ W0.heap.size = w2.heap.size + 1 := Nat.ne_of_lt (Nat.lt_succ_of_lt (cell_lt ac0)))); (try (have ax1 : BoxN w2 (W0.heap.size + 1) := BoxN.keep (by first | assumption | exact BoxN.new _ _ | exact BoxN.new1 _ _ _ | exact BoxN.alloc (BoxN.new _ _) | exact BoxN.alloc (by assumption) | exact BoxN.alloc (BoxN.alloc (by assumption)) | exact BoxN.drew (by assumption) | exact BoxN.drew (BoxN.new _ _) | exact BoxN.drew (BoxN.new1 _ _ _) | exact BoxN.drew (BoxN.alloc (BoxN.new _ _)) | exact BoxN.drew (BoxN.alloc (by assumption)) | exact BoxN.drew (BoxN.alloc (BoxN.alloc (by assumption)))) hb2; have ac1 := ax1.c; have af1 := ax1.f; have al1 : W0.heap.size + 1 < w2.heap.size := cell_lt ac1; have an1 : ¬ W0.heap.size + 1 = w2.heap.size := Nat.ne_of_lt (cell_lt ac1); have am1 : ¬ W0.heap.size + 1 = w2.heap.size + 1 := Nat.ne_of_lt (Nat.lt_succ_of_lt (cell_lt ac1)))))
      | (go_at_call 42; refine up_any (HV.out.keep (by repeat (first | assumption | refine Below.drew ?_ | refine Below.alloc ?_ (by first | omega | (simp; omega)) _ | refine Below.setCell ?_ (by first | omega | (simp; omega)) _))) HOK.out ?_; intro u U w3 hb3 hU hu hru; have v3 : w3.cell? ⟨w.heap.size, 0, none⟩ = some (.pointer (some ⟨V, 0, none⟩)) := cell_keep hb3 (by assumption); have B3 : Below w.heap.size w w3 := Below.step hb3 (by first | omega | (simp; omega)) (by repeat (first | assumption | refine Below.drew ?_ | refine Below.alloc ?_ (by first | omega | (simp; omega)) _ | refine Below.setCell ?_ (by first | omega | (simp; omega)) _)); have q3 := hb3.size; have z3 : w2.heap.size ≤ w3.heap.size := (by first | omega | (simp at q3; omega)); have m4 : ¬ w.heap.size = w3.heap.size := (by omega); have m5 : ¬ w.heap.size = w3.heap.size + 1 := (by omega); have m6 : w.heap.size < w3.heap.size := (by omega); have hUl := hru.lt; (try simp at hU); have hUg : w2.heap.size ≤ U := (by first | omega | (exact hU)); have hrd3 : w3.rowIs D 4 ss.length (fun j => .bool (d j)) := rowIs_keep (by repeat (first | assumption | refine World.rowIs.drew ?_ | refine World.rowIs.alloc ?_ _ | refine World.rowIs.setOther ?_ (by first | omega | (simp; omega)) _)) hb3; (try (have bx0 : BoxN w3 (W0.heap.size) := BoxN.keep (by first | assumption | exact BoxN.new _ _ | exact BoxN.new1 _ _ _ | exact BoxN.alloc (BoxN.new _ _) | exact BoxN.alloc (by assumption) | exact BoxN.alloc (BoxN.alloc (by assumption)) | exact BoxN.drew (by assumption) | exact BoxN.drew (BoxN.new _ _) | exact BoxN.drew (BoxN.new1 _ _ _) | exact BoxN.drew (BoxN.alloc (BoxN.new _ _)) | exact BoxN.drew (BoxN.alloc (by assumption)) | exact BoxN.drew (BoxN.alloc (BoxN.alloc (by assumption)))) hb3; have bc0 := bx0.c; have bf0 := bx0.f; have bl0 : W0.heap.size < w3.heap.size := cell_lt bc0; have bn0 : ¬ W0.heap.size = w3.heap.size := Nat.ne_of_lt (cell_lt bc0); have bm0 : ¬ W0.heap.size = w3.heap.size + 1 := Nat.ne_of_lt (Nat.lt_succ_of_lt (cell_lt bc0)))); (try (have bx1 : BoxN w3 (W0.heap.size + 1) := BoxN.keep (by first | assumption | exact BoxN.new _ _ | exact BoxN.new1 _ _ _ | exact BoxN.alloc (BoxN.new _ _) | exact BoxN.alloc (by assumption) | exact BoxN.alloc (BoxN.alloc (by assumption)) | exact BoxN.drew (by assumption) | exact BoxN.drew (BoxN.new _ _) | exact BoxN.drew (BoxN.new1 _ _ _) | exact BoxN.drew (BoxN.alloc (BoxN.new _ _)) | exact BoxN.drew (BoxN.alloc (by assumption)) | exact BoxN.drew (BoxN.alloc (BoxN.alloc (by assumption)))) hb3; have bc1 := bx1.c; have bf1 := bx1.f; have bl1 : W0.heap.size + 1 < w3.heap.size := cell_lt bc1; have bn1 : ¬ W0.heap.size + 1 = w3.heap.size := Nat.ne_of_lt (cell_lt bc1); have bm1 : ¬ W0.heap.size + 1 = w3.heap.size + 1 := Nat.ne_of_lt (Nat.lt_succ_of_lt (cell_lt bc1)))); (try (have bx2 : BoxN w3 (w2.heap.size) := BoxN.keep (by first | assumption | exact BoxN.new _ _ | exact BoxN.new1 _ _ _ | exact BoxN.alloc (BoxN.new _ _) | exact BoxN.alloc (by assumption) | exact BoxN.alloc (BoxN.alloc (by assumption)) | exact BoxN.drew (by assumption) | exact BoxN.drew (BoxN.new _ _) | exact BoxN.drew (BoxN.new1 _ _ _) | exact BoxN.drew (BoxN.alloc (BoxN.new _ _)) | exact BoxN.drew (BoxN.alloc (by assumption)) | exact BoxN.drew (BoxN.alloc (BoxN.alloc (by assumption)))) hb3; have bc2 := bx2.c; have bf2 := bx2.f; have bl2 : w2.heap.size < w3.heap.size := cell_lt bc2; have bn2 : ¬ w2.heap.size = w3.heap.size := Nat.ne_of_lt (cell_lt bc2); have bm2 : ¬ w2.heap.size = w3.heap.size + 1 := Nat.ne_of_lt (Nat.lt_succ_of_lt (cell_lt bc2)))); (try (have bx3 : BoxN w3 (w2.heap.size + 1) := BoxN.keep (by first | assumption | exact BoxN.new _ _ | exact BoxN.new1 _ _ _ | exact BoxN.alloc (BoxN.new _ _) | exact BoxN.alloc (by assumption) | exact BoxN.alloc (BoxN.alloc (by assumption)) | exact BoxN.drew (by assumption) | exact BoxN.drew (BoxN.new _ _) | exact BoxN.drew (BoxN.new1 _ _ _) | exact BoxN.drew (BoxN.alloc (BoxN.new _ _)) | exact BoxN.drew (BoxN.alloc (by assumption)) | exact BoxN.drew (BoxN.alloc (BoxN.alloc (by assumption)))) hb3; have bc3 := bx3.c; have bf3 := bx3.f; have bl3 : w2.heap.size + 1 < w3.heap.size := cell_lt bc3; have bn3 : ¬ w2.heap.size + 1 = w3.heap.size := Nat.ne_of_lt (cell_lt bc3); have bm3 : ¬ w2.heap.size + 1 = w3.heap.size + 1 := Nat.ne_of_lt (Nat.lt_succ_of_lt (cell_lt bc3))))))
    all_goals
      go_wp2_with fail
      go_meet
      exact ⟨_, _, D, U, d, u, rfl, rfl, (by repeat (first | assumption | refine Below.drew ?_ | refine Below.alloc ?_ (by first | omega | (simp; omega)) _ | refine Below.setCell ?_ (by first | omega | (simp; omega)) _)), (by repeat (first | assumption | refine kp_drew ?_ | refine kp_alloc ?_ | refine kp_set ?_ (by first | (simp; done) | (simp; omega) | omega))), (by first | omega | (simp; omega)), (by first | (simp [go_sem]; done) | (repeat (first | assumption | refine kp_new (v := .slice none 0 0) ?_ | refine kp_drew ?_ | refine kp_alloc ?_ | refine kp_set ?_ (by first | (simp; done) | (simp; omega) | omega)))), (by first | (simp [go_sem]; done) | (repeat (first | assumption | refine kp_new (v := .slice none 0 0) ?_ | refine kp_drew ?_ | refine kp_alloc ?_ | refine kp_set ?_ (by first | (simp; done) | (simp; omega) | omega)))), hd, hu, (by repeat (first | assumption | refine World.rowIs.drew ?_ | refine World.rowIs.alloc ?_ _ | refine World.rowIs.setOther ?_ (by first | omega | (simp; omega)) _)), (by repeat (first | assumption | refine World.rowIs.drew ?_ | refine World.rowIs.alloc ?_ _ | refine World.rowIs.setOther ?_ (by first | omega | (simp; omega)) _))⟩
  case rest =>
    obtain ⟨DB, UB, D, U, d, u, rfl, rfl, hb, hv, hsz, hdb, hub, hd, hu, hrd, hru⟩ := hcut
    have HB : Hid (Below w.heap.size w wc) := hb
    have HIS : Hid (IsEarly ss e rs (earlyB (kF e ss) d u (pF ss rs))) := ⟨d, u, hd, hu, fun i _ => rfl⟩
    have HSO : Hid (Isso ss.length 64 #[.pointer (some ⟨DB, 0, none⟩), .pointer (some ⟨w.heap.size, 0, none⟩), .pointer (some ⟨UB, 0, none⟩)] wc (earlyB (kF e ss) d u (pF ss rs))) := early_isso (HV.out.keep hb) HOK.out w.heap.size DB UB D U d u hv hdb hub hrd hru
    clear hb hd hu hrd hru hdb hub
    go_wp2_with fail
    refine viewEach_any (HV.out.keep HB.out) HOK.out 64 #[.pointer (some ⟨DB, 0, none⟩), .pointer (some ⟨w.heap.size, 0, none⟩), .pointer (some ⟨UB, 0, none⟩)] (enters_of Tryz.func64 (by kernel_rfl) rfl) _ HSO.out fun B W' hb' hB hr => ?_
    have HB2 : Hid (Below w.heap.size w W') := HB.out.trans (hb'.mono HB.out.size)
    have HR : Hid (W'.rowIs B 4 ss.length (fun j => .bool (earlyB (kF e ss) d u (pF ss rs) j))) := hr
    have hBl : w.heap.size ≤ B := Nat.le_trans HB.out.size hB
    clear hb' hB hr
    go_wp2
    exact HQ.out _ B _ HB2.out hBl HIS.out HR.out
end Go.Proofs.YtmplkchdfloppaaGreatDoor
namespace Go.Proofs.YtmplkchdfloppaaGreatDoor
open Go.RowKit

set_option maxRecDepth 100000 in
set_option maxHeartbeats 2000000 in
theorem delayFrom_any {Q : Ending → World → Prop} {w W : World} {V : Nat} {ss : List St} {e : E5} {ord : List Nat} {rs : List Bool} {A : Option Addr} {c og oc : Nat} {pv : Value} {bc bk : BitVec 64} (h : VS w V ss e ord rs A c og oc pv bc bk) (hb : Below w.heap.size w W) (hok : okB ss = true) (VB : Nat) (hVB : w.cell? ⟨VB, 0, none⟩ = some (.pointer (some ⟨V, 0, none⟩)))
    (SB B : Nat) (so : Nat → Bool) (x : Int) (h0 : 0 ≤ x) (h1 : x < (ss.length : Int)) (hs : W.cell? ⟨SB, 0, none⟩ = some (.slice (some ⟨B, 0, none⟩) ss.length ss.length)) (hr : W.rowIs B 4 ss.length (fun j => .bool (so j)))
    (hQ : Q (.returned (.bool (so x.toNat && !cF e ss x.toNat))) W) :
    Calls Tryz.prog 110 #[.int .i64 x, .pointer (some ⟨SB, 0, none⟩), .pointer (some ⟨VB, 0, none⟩)] W Q := by
  have HQ : Hid _ := hQ
  have HV : Hid (VS w V ss e ord rs A c og oc pv bc bk) := h
  have HOK : Hid (okB ss = true) := hok
  have hv := h.keep hb
  have c3 := hv.c3
  have cv := cell_keep hb hVB
  obtain ⟨m, rfl⟩ := Int.eq_ofNat_of_zero_le h0
  have hm : m < ss.length := by omega
  have hc := hr.cell (i := m) hm
  rw [show ((m : Int)).toNat = m from rfl] at HQ
  clear hQ hr h0 h hok hv hb hVB
  go_enter Tryz.func110, Tryz.ntmps110
  cases hk : so m
  · rw [hk] at hc
    rw [hk, Bool.false_and] at HQ
    clear hk
    go_wp2
    exact HQ.out
  · rw [hk] at hc
    rw [hk, Bool.true_and] at HQ
    clear hk
    go_wp2_with fail
    refine has_c HV.out.cw HOK.out m hm _ ?_
    generalize cF e ss m = z at *
    go_wp2
    exact HQ.out

set_option maxRecDepth 100000 in
set_option maxHeartbeats 2000000 in
theorem delay_asks {w : World} {V : Nat} {ss : List St} {e : E5} {ord : List Nat} {rs : List Bool} {A : Option Addr} {c og oc : Nat} {pv : Value} {bc bk : BitVec 64} (h : VS w V ss e ord rs A c og oc pv bc bk) (hok : okB ss = true) (VB EB E : Nat) (ea : Nat → Bool) (hVB : w.cell? ⟨VB, 0, none⟩ = some (.pointer (some ⟨V, 0, none⟩)))
    (hEB : w.cell? ⟨EB, 0, none⟩ = some (.slice (some ⟨E, 0, none⟩) ss.length ss.length)) (hre : w.rowIs E 4 ss.length (fun j => .bool (ea j))) :
    Asks ss.length (rF rs) 109 #[.pointer (some ⟨EB, 0, none⟩), .pointer (some ⟨VB, 0, none⟩)] w (delayF (cF e ss) ea (pF ss rs)) := by
  intro W x B so hb hB hx hr hrow Q hQ
  show Calls Tryz.prog _ #[.int .i64 (x : Int), .slice (some ⟨B, 0, none⟩) ss.length ss.length, .pointer (some ⟨EB, 0, none⟩), .pointer (some ⟨VB, 0, none⟩)] W Q
  have HQ : Hid _ := hQ
  have HV : Hid (VS w V ss e ord rs A c og oc pv bc bk) := h
  have HOK : Hid (okB ss = true) := hok
  have HB : Hid (Below w.heap.size w W) := hb
  have HR : Hid (W.rowIs B 4 ss.length (fun j => .bool (so j))) := hrow
  have HVB : Hid (w.cell? ⟨VB, 0, none⟩ = some (.pointer (some ⟨V, 0, none⟩))) := hVB
  have cv := cell_keep hb hVB
  have ce := cell_keep hb hEB
  have de := cell_keep hb (hre.cell (i := x) hx)
  have hVBl := cell_lt cv
  have hEBl := cell_lt ce
  have hEl := cell_lt de
  simp only at hVBl hEBl hEl
  have hn := (ok_len hok).2
  have hxi : (x : Int) < (ss.length : Int) := by omega
  have HLW : Hid (Low ss.length (pF ss rs)) := low_preds ss rs
  have hpl : (pF ss rs x).length ≤ 60 := Nat.le_trans (predsK_len _ _ _ _) hn
  clear hQ h hok hb hrow hVB hEB hre
  have HA : Hid (∀ O, Below W.heap.size W (W.alloc O)) := fun O => (Below.refl _ _).alloc (Nat.le_refl _) O
  have hmf : ∀ (fn : Fn) (first cap : Array Value) (w : World), (Instr.makeFunc fn first cap).run Tryz.prog w = .ok (.func fn first cap) w := fun _ _ _ _ => rfl
  cases he : ea x
  · rw [he] at de
    by_cases h0 : x = 0
    · have HF : Hid (delayF (cF e ss) ea (pF ss rs) so x = false) := by subst h0; simp [Hid, delayF, he]
      rw [HF.out] at HQ
      clear he
      subst h0
      go_enter Tryz.func109, Tryz.ntmps109
      go_wp2
      exact HQ.out _ (HA.out _)
    · have HF : Hid (delayF (cF e ss) ea (pF ss rs) so x = allI (pF ss rs x) (fun m => so m && !cF e ss m)) := by simp [Hid, delayF, he, h0]
      have h0i : ((x : Int) != 0) = true := by simp [h0]
      have h0j : ¬ (x : Int) = 0 := by omega
      rw [HF.out] at HQ
      clear he
      go_enter Tryz.func109, Tryz.ntmps109
      go_wp2_with fail
      refine aheadOf_any (w0 := w) (HB.out.trans ((HA.out _).mono HB.out.size)) HV.out x hx fun nv hnv => ?_
      have HN : Hid (IntsAt w nv (pF ss rs x)) := hnv
      clear hnv
      go_wp2_with fail
      refine all_any 110 #[.pointer (some ⟨W.heap.size, 0, none⟩), .pointer (some ⟨VB, 0, none⟩)] (enters_of Tryz.func110 (by kernel_rfl) rfl) _ (pF ss rs x) (fun m => so m && !cF e ss m) _ ((HN.out.keep HB.out).keep (HA.out _)) (fun y hy => (HLW.out x hx y hy).1) (by omega) (fun W' y hb' hy Q' hq => ?_) fun W2 hb2 => ?_
      · have hl := HLW.out x hx y hy
        have hbw : Below w.heap.size w W' := HB.out.trans (((HA.out _).trans (hb'.mono (by simp))).mono HB.out.size)
        exact delayFrom_any HV.out hbw HOK.out VB HVB.out W.heap.size B so y hl.1 hl.2 (cell_keep hb' (by simp [go_sem])) (rowIs_keep (rowIs_keep HR.out (HA.out _)) hb') (hq _ (Below.refl _ _))
      · have HF2 : Hid (Below W.heap.size W W2) := (HA.out _).trans (hb2.mono (by simp))
        clear hb2
        go_wp2
        exact HQ.out _ HF2.out
  · have HF : Hid (delayF (cF e ss) ea (pF ss rs) so x = true) := by simp [Hid, delayF, he]
    rw [he] at de
    rw [HF.out] at HQ
    clear he
    go_enter Tryz.func109, Tryz.ntmps109
    go_wp2
    exact HQ.out _ (HA.out _)

set_option maxRecDepth 100000 in
set_option maxHeartbeats 4000000 in
theorem delay_any {Q : Ending → World → Prop} {w : World} {V : Nat} {ss : List St} {e : E5} {ord : List Nat} {rs : List Bool} {A : Option Addr} {c og oc : Nat} {pv : Value} {bc bk : BitVec 64} (h : VS w V ss e ord rs A c og oc pv bc bk) (hok : okB ss = true)
    (hQ : ∀ f B W', Below w.heap.size w W' → w.heap.size ≤ B → IsDelay ss e rs f → W'.rowIs B 4 ss.length (fun j => .bool (f j)) → Q (.returned (.slice (some ⟨B, 0, none⟩) ss.length ss.length)) W') :
    Calls Tryz.prog 87 #[.pointer (some ⟨V, 0, none⟩)] w Q := by
  have HQ : Hid _ := hQ
  have HV : Hid (VS w V ss e ord rs A c og oc pv bc bk) := h
  have HOK : Hid (okB ss = true) := hok
  clear hQ h hok
  have HA : Hid (Below w.heap.size w (w.alloc (.cells #[.pointer (some ⟨V, 0, none⟩)] 50))) := (Below.refl _ _).alloc (Nat.le_refl _) _
  have v1 : (w.alloc (.cells #[.pointer (some ⟨V, 0, none⟩)] 50)).cell? ⟨w.heap.size, 0, none⟩ = some (.pointer (some ⟨V, 0, none⟩)) := by simp [go_sem]
  have hmf : ∀ (fn : Fn) (first cap : Array Value) (w : World), (Instr.makeFunc fn first cap).run Tryz.prog w = .ok (.func fn first cap) w := fun _ _ _ _ => rfl
  go_enter Tryz.func87, Tryz.ntmps87
  go_wp2_with fail
  generalize w.alloc (.cells #[.pointer (some ⟨V, 0, none⟩)] 50) = W0 at *
  refine early_any (HV.out.keep HA.out) HOK.out fun ea E w2 hb2 hE hea hre => ?_
  have v2 := cell_keep hb2 v1
  have HB2 : Hid (Below w.heap.size w w2) := HA.out.trans (hb2.mono HA.out.size)
  have HEA : Hid (IsEarly ss e rs ea) := hea
  have HRE : Hid (w2.rowIs E 4 ss.length (fun j => .bool (ea j))) := hre
  have hwl : w.heap.size < w2.heap.size := by have := cell_lt v2; simpa using this
  clear hb2 hE hea hre v1
  have HK : Hid (Below w2.heap.size w2 (w2.alloc (.cells #[.slice (some ⟨E, 0, none⟩) ss.length ss.length] 33))) := (Below.refl _ _).alloc (Nat.le_refl _) _
  go_wp2_with fail
  refine mostByAhead_any (HV.out.keep (HB2.out.trans (HK.out.mono HB2.out.size))) HOK.out 109 #[.pointer (some ⟨w2.heap.size, 0, none⟩), .pointer (some ⟨w.heap.size, 0, none⟩)] (enters_of Tryz.func109 (by kernel_rfl) rfl) _ (delayF_mono (low_preds ss rs)) (fun x i g hi hx => delayF_off (low_preds ss rs) hi hx) (delay_asks (HV.out.keep (HB2.out.trans (HK.out.mono HB2.out.size))) HOK.out w.heap.size w2.heap.size E ea (cell_keep HK.out v2) (by simp [go_sem]) (rowIs_keep HRE.out HK.out)) fun g B W' hb' hB hg hr => ?_
  have HB : Hid (Below w.heap.size w W') := (HB2.out.trans (HK.out.mono HB2.out.size)).trans (hb'.mono (by simp; omega))
  have HG : Hid (IsDelay ss e rs g) := ⟨ea, HEA.out, hg⟩
  have HR : Hid (W'.rowIs B 4 ss.length (fun j => .bool (g j))) := hr
  have hB2 : w.heap.size ≤ B := by simp at hB; omega
  clear hb' hg hr hB
  go_wp2
  exact HQ.out g B _ HB.out hB2 HG.out HR.out

theorem delay_tells {ss : List St} {e : E5} (hok : okB ss = true) : Tells ss e 87 (IsDelay ss e) := fun _ _ _ _ _ _ _ _ _ _ _ h _ hQ => delay_any h hok hQ
theorem early_tells {ss : List St} {e : E5} (hok : okB ss = true) : Tells ss e 30 (IsEarly ss e) := fun _ _ _ _ _ _ _ _ _ _ _ h _ hQ => early_any h hok hQ

set_option maxHeartbeats 1000000 in
theorem lateNext_any {Q : Ending → World → Prop} (SB B n : Nat) (so : Nat → Bool) (x : Int) (W : World) (h0 : 0 ≤ x) (h1 : x < (n : Int)) (hs : W.cell? ⟨SB, 0, none⟩ = some (.slice (some ⟨B, 0, none⟩) n n)) (hr : W.rowIs B 4 n (fun j => .bool (so j)))
    (hQ : Q (.returned (.bool (so x.toNat))) W) :
    Calls Tryz.prog 89 #[.int .i64 x, .pointer (some ⟨SB, 0, none⟩)] W Q := by
  have HQ : Hid _ := hQ
  clear hQ
  obtain ⟨m, rfl⟩ := Int.eq_ofNat_of_zero_le h0
  have hm : m < n := by omega
  have hc := hr.cell (i := m) hm
  rw [show ((m : Int)).toNat = m from rfl] at HQ
  clear hr h0
  generalize so m = z at *
  go_enter Tryz.func89, Tryz.ntmps89
  go_wp2
  exact HQ.out

set_option maxRecDepth 100000 in
set_option maxHeartbeats 2000000 in
theorem late_isso {w : World} {V : Nat} {ss : List St} {e : E5} {ord : List Nat} {rs : List Bool} {A : Option Addr} {c og oc : Nat} {pv : Value} {bc bk : BitVec 64} (h : VS w V ss e ord rs A c og oc pv bc bk) (hok : okB ss = true) (VB DB D : Nat) (l : Nat → Bool)
    (hVB : w.cell? ⟨VB, 0, none⟩ = some (.pointer (some ⟨V, 0, none⟩))) (hDB : w.cell? ⟨DB, 0, none⟩ = some (.slice (some ⟨D, 0, none⟩) ss.length ss.length))
    (hrd : w.rowIs D 4 ss.length (fun j => .bool (l j))) :
    Isso ss.length 88 #[.pointer (some ⟨DB, 0, none⟩), .pointer (some ⟨VB, 0, none⟩)] w (lateB (cF e ss) l (nextOf ss)) := by
  intro W x hb hx Q hQ
  show Calls Tryz.prog _ #[.int .i64 (x : Int), .pointer (some ⟨DB, 0, none⟩), .pointer (some ⟨VB, 0, none⟩)] W Q
  have HQ : Hid _ := hQ
  have HV : Hid (VS w V ss e ord rs A c og oc pv bc bk) := h
  have HOK : Hid (okB ss = true) := hok
  have HB : Hid (Below w.heap.size w W) := hb
  have HRD : Hid (w.rowIs D 4 ss.length (fun j => .bool (l j))) := hrd
  have HDB : Hid _ := hDB
  have hv := h.keep hb
  have c3 := hv.c3
  have cv := cell_keep hb hVB
  have cd := cell_keep hb hDB
  have dd := cell_keep hb (hrd.cell (i := x) hx)
  have hn := (ok_len hok).2
  have hxi : (x : Int) < (ss.length : Int) := by omega
  have HLW : Hid (Low ss.length (nextOf ss)) := low_next hok
  have hnl : (nextOf ss x).length ≤ 2 := next_len hok hx
  clear hQ h hok hb hVB hDB hrd hv
  have hmf : ∀ (fn : Fn) (first cap : Array Value) (w : World), (Instr.makeFunc fn first cap).run Tryz.prog w = .ok (.func fn first cap) w := fun _ _ _ _ => rfl
  cases hd : l x
  · have HF : Hid (lateB (cF e ss) l (nextOf ss) x = false) := by simp [Hid, lateB, hd]
    rw [hd] at dd
    rw [HF.out] at HQ
    clear hd
    go_enter Tryz.func88, Tryz.ntmps88
    go_wp2
    exact HQ.out _ (Below.refl _ _)
  · rw [hd] at dd
    go_enter Tryz.func88, Tryz.ntmps88
    go_wp2_with fail
    refine has_c HV.out.cw HOK.out x hx _ ?_
    cases hc : cF e ss x
    · have HF : Hid (lateB (cF e ss) l (nextOf ss) x = !allI (nextOf ss x) l) := by simp [Hid, lateB, hd, hc]
      rw [HF.out] at HQ
      clear hd hc
      go_wp2_with fail
      refine behind_any (w0 := w) HB.out HV.out x hx fun nv hnv => ?_
      have HN : Hid (IntsAt w nv (nextOf ss x)) := hnv
      clear hnv
      go_wp2_with fail
      refine all_any 89 #[.pointer (some ⟨DB, 0, none⟩)] (enters_of Tryz.func89 (by kernel_rfl) rfl) _ (nextOf ss x) l _ (HN.out.keep HB.out) (fun y hy => (HLW.out x hx y hy).1) (by omega) (fun W' y hb' hy Q' hq => ?_) fun W2 hb2 => ?_
      · have hl := HLW.out x hx y hy
        have hbw := HB.out.trans (hb'.mono HB.out.size)
        exact lateNext_any DB D ss.length l y W' hl.1 hl.2 (cell_keep hbw HDB.out) (rowIs_keep HRD.out hbw) (hq _ (Below.refl _ _))
      · have HB2 : Hid (Below W.heap.size W W2) := hb2
        clear hb2
        generalize allI (nextOf ss x) l = z at *
        go_wp2
        exact HQ.out _ HB2.out
    · have HF : Hid (lateB (cF e ss) l (nextOf ss) x = true) := by simp [Hid, lateB, hd, hc]
      rw [HF.out] at HQ
      clear hd hc
      go_wp2
      exact HQ.out _ (Below.refl _ _)

set_option maxRecDepth 100000 in
set_option maxHeartbeats 4000000 in
theorem late_any {Q : Ending → World → Prop} {w : World} {V : Nat} {ss : List St} {e : E5} {ord : List Nat} {rs : List Bool} {A : Option Addr} {c og oc : Nat} {pv : Value} {bc bk : BitVec 64} (h : VS w V ss e ord rs A c og oc pv bc bk) (hok : okB ss = true)
    (hQ : ∀ f B W', Below w.heap.size w W' → w.heap.size ≤ B → IsLate ss e rs f → W'.rowIs B 4 ss.length (fun j => .bool (f j)) → Q (.returned (.slice (some ⟨B, 0, none⟩) ss.length ss.length)) W') :
    Calls Tryz.prog 46 #[.pointer (some ⟨V, 0, none⟩)] w Q := by
  have HQ : Hid _ := hQ
  have HV : Hid (VS w V ss e ord rs A c og oc pv bc bk) := h
  have HOK : Hid (okB ss = true) := hok
  clear hQ h hok
  have HA : Hid (Below w.heap.size w (w.alloc (.cells #[.pointer (some ⟨V, 0, none⟩)] 50))) := (Below.refl _ _).alloc (Nat.le_refl _) _
  have v1 : (w.alloc (.cells #[.pointer (some ⟨V, 0, none⟩)] 50)).cell? ⟨w.heap.size, 0, none⟩ = some (.pointer (some ⟨V, 0, none⟩)) := by simp [go_sem]
  have hmf : ∀ (fn : Fn) (first cap : Array Value) (w : World), (Instr.makeFunc fn first cap).run Tryz.prog w = .ok (.func fn first cap) w := fun _ _ _ _ => rfl
  go_enter Tryz.func46, Tryz.ntmps46
  go_wp2_with fail
  generalize w.alloc (.cells #[.pointer (some ⟨V, 0, none⟩)] 50) = W0 at *
  refine delay_any (HV.out.keep HA.out) HOK.out fun ea E w2 hb2 hE hea hre => ?_
  have v2 := cell_keep hb2 v1
  have HB2 : Hid (Below w.heap.size w w2) := HA.out.trans (hb2.mono HA.out.size)
  have HEA : Hid (IsDelay ss e rs ea) := hea
  have HRE : Hid (w2.rowIs E 4 ss.length (fun j => .bool (ea j))) := hre
  have hwl : w.heap.size < w2.heap.size := by have := cell_lt v2; simpa using this
  clear hb2 hE hea hre v1
  have HK : Hid (Below w2.heap.size w2 (w2.alloc (.cells #[.slice (some ⟨E, 0, none⟩) ss.length ss.length] 33))) := (Below.refl _ _).alloc (Nat.le_refl _) _
  have HIS : Hid (IsLate ss e rs (lateB (cF e ss) ea (nextOf ss))) := ⟨ea, HEA.out, fun i _ => rfl⟩
  go_wp2_with fail
  refine viewEach_any (HV.out.keep (HB2.out.trans (HK.out.mono HB2.out.size))) HOK.out 88 #[.pointer (some ⟨w2.heap.size, 0, none⟩), .pointer (some ⟨w.heap.size, 0, none⟩)] (enters_of Tryz.func88 (by kernel_rfl) rfl) _ (late_isso (HV.out.keep (HB2.out.trans (HK.out.mono HB2.out.size))) HOK.out w.heap.size w2.heap.size E ea (cell_keep HK.out v2) (by simp [go_sem]) (rowIs_keep HRE.out HK.out)) fun B W' hb' hB hr => ?_
  have HB : Hid (Below w.heap.size w W') := (HB2.out.trans (HK.out.mono HB2.out.size)).trans (hb'.mono (by simp; omega))
  have HR : Hid (W'.rowIs B 4 ss.length (fun j => .bool (lateB (cF e ss) ea (nextOf ss) j))) := hr
  have hB2 : w.heap.size ≤ B := by simp at hB; omega
  clear hb' hr hB
  go_wp2
  exact HQ.out _ B _ HB.out hB2 HIS.out HR.out

theorem late_tells {ss : List St} {e : E5} (hok : okB ss = true) : Tells ss e 46 (IsLate ss e) := fun _ _ _ _ _ _ _ _ _ _ _ h _ hQ => late_any h hok hQ

set_option maxRecDepth 100000 in
set_option maxHeartbeats 2000000 in
theorem aloneFrom_any {Q : Ending → World → Prop} {w W : World} {V : Nat} {ss : List St} {e : E5} {ord : List Nat} {rs : List Bool} {A : Option Addr} {c og oc : Nat} {pv : Value} {bc bk : BitVec 64} (h : VS w V ss e ord rs A c og oc pv bc bk) (hb : Below w.heap.size w W) (hok : okB ss = true) (VB LB L : Nat) (t : Nat → Bool) (hVB : w.cell? ⟨VB, 0, none⟩ = some (.pointer (some ⟨V, 0, none⟩)))
    (hLB : w.cell? ⟨LB, 0, none⟩ = some (.slice (some ⟨L, 0, none⟩) ss.length ss.length)) (hrl : w.rowIs L 4 ss.length (fun j => .bool (t j)))
    (SB B : Nat) (so : Nat → Bool) (x : Int) (h0 : 0 ≤ x) (h1 : x < (ss.length : Int)) (hs : W.cell? ⟨SB, 0, none⟩ = some (.slice (some ⟨B, 0, none⟩) ss.length ss.length)) (hr : W.rowIs B 4 ss.length (fun j => .bool (so j)))
    (hQ : Q (.returned (.bool (t x.toNat || (!cF e ss x.toNat && so x.toNat)))) W) :
    Calls Tryz.prog 86 #[.int .i64 x, .pointer (some ⟨LB, 0, none⟩), .pointer (some ⟨VB, 0, none⟩), .pointer (some ⟨SB, 0, none⟩)] W Q := by
  have HQ : Hid _ := hQ
  have HV : Hid (VS w V ss e ord rs A c og oc pv bc bk) := h
  have HOK : Hid (okB ss = true) := hok
  have hv := h.keep hb
  have c3 := hv.c3
  have cv := cell_keep hb hVB
  have cl := cell_keep hb hLB
  obtain ⟨m, rfl⟩ := Int.eq_ofNat_of_zero_le h0
  have hm : m < ss.length := by omega
  have hc := hr.cell (i := m) hm
  have ht := cell_keep hb (hrl.cell (i := m) hm)
  rw [show ((m : Int)).toNat = m from rfl] at HQ
  clear hQ hr h0 h hok hv hb hVB hLB hrl
  go_enter Tryz.func86, Tryz.ntmps86
  cases hk : t m
  · rw [hk] at ht
    rw [hk, Bool.false_or] at HQ
    clear hk
    go_wp2_with fail
    refine has_c HV.out.cw HOK.out m hm _ ?_
    cases hcc : cF e ss m
    · rw [hcc] at HQ
      clear hcc
      rw [Bool.not_false, Bool.true_and] at HQ
      generalize so m = z at *
      go_wp2
      exact HQ.out
    · rw [hcc] at HQ
      clear hcc
      rw [Bool.not_true, Bool.false_and] at HQ
      go_wp2
      exact HQ.out
  · rw [hk] at ht
    rw [hk, Bool.true_or] at HQ
    clear hk
    go_wp2
    exact HQ.out

set_option maxRecDepth 100000 in
set_option maxHeartbeats 2000000 in
theorem alone_asks {w : World} {V : Nat} {ss : List St} {e : E5} {ord : List Nat} {rs : List Bool} {A : Option Addr} {c og oc : Nat} {pv : Value} {bc bk : BitVec 64} (h : VS w V ss e ord rs A c og oc pv bc bk) (hok : okB ss = true) (VB LB L : Nat) (t : Nat → Bool) (hVB : w.cell? ⟨VB, 0, none⟩ = some (.pointer (some ⟨V, 0, none⟩)))
    (hLB : w.cell? ⟨LB, 0, none⟩ = some (.slice (some ⟨L, 0, none⟩) ss.length ss.length)) (hrl : w.rowIs L 4 ss.length (fun j => .bool (t j))) :
    Asks ss.length (rF rs) 85 #[.pointer (some ⟨VB, 0, none⟩), .pointer (some ⟨LB, 0, none⟩)] w (aloneF (cF e ss) t (nextOf ss)) := by
  intro W x B so hb hB hx hr hrow Q hQ
  show Calls Tryz.prog _ #[.int .i64 (x : Int), .slice (some ⟨B, 0, none⟩) ss.length ss.length, .pointer (some ⟨VB, 0, none⟩), .pointer (some ⟨LB, 0, none⟩)] W Q
  have HQ : Hid _ := hQ
  have HV : Hid (VS w V ss e ord rs A c og oc pv bc bk) := h
  have HOK : Hid (okB ss = true) := hok
  have HB : Hid (Below w.heap.size w W) := hb
  have HR : Hid (W.rowIs B 4 ss.length (fun j => .bool (so j))) := hrow
  have HVB : Hid (w.cell? ⟨VB, 0, none⟩ = some (.pointer (some ⟨V, 0, none⟩))) := hVB
  have HLB : Hid _ := hLB
  have HRL : Hid (w.rowIs L 4 ss.length (fun j => .bool (t j))) := hrl
  have cv := cell_keep hb hVB
  have hVBl := cell_lt cv
  simp only at hVBl
  have HLW : Hid (Low ss.length (nextOf ss)) := low_next hok
  have hnl : (nextOf ss x).length ≤ 2 := next_len hok hx
  clear hQ h hok hb hrow hVB hLB hrl
  have HA : Hid (∀ O, Below W.heap.size W (W.alloc O)) := fun O => (Below.refl _ _).alloc (Nat.le_refl _) O
  have hmf : ∀ (fn : Fn) (first cap : Array Value) (w : World), (Instr.makeFunc fn first cap).run Tryz.prog w = .ok (.func fn first cap) w := fun _ _ _ _ => rfl
  have HF : Hid (aloneF (cF e ss) t (nextOf ss) so x = allI (nextOf ss x) (fun m => t m || (!cF e ss m && so m))) := rfl
  rw [HF.out] at HQ
  go_enter Tryz.func85, Tryz.ntmps85
  go_wp2_with fail
  refine behind_any (w0 := w) (HB.out.trans ((HA.out _).mono HB.out.size)) HV.out x hx fun nv hnv => ?_
  have HN : Hid (IntsAt w nv (nextOf ss x)) := hnv
  clear hnv
  go_wp2_with fail
  refine all_any 86 #[.pointer (some ⟨LB, 0, none⟩), .pointer (some ⟨VB, 0, none⟩), .pointer (some ⟨W.heap.size, 0, none⟩)] (enters_of Tryz.func86 (by kernel_rfl) rfl) _ (nextOf ss x) (fun m => t m || (!cF e ss m && so m)) _ ((HN.out.keep HB.out).keep (HA.out _)) (fun y hy => (HLW.out x hx y hy).1) (by omega) (fun W' y hb' hy Q' hq => ?_) fun W2 hb2 => ?_
  · have hl := HLW.out x hx y hy
    have hbw : Below w.heap.size w W' := HB.out.trans (((HA.out _).trans (hb'.mono (by simp))).mono HB.out.size)
    exact aloneFrom_any HV.out hbw HOK.out VB LB L t HVB.out HLB.out HRL.out W.heap.size B so y hl.1 hl.2 (cell_keep hb' (by simp [go_sem])) (rowIs_keep (rowIs_keep HR.out (HA.out _)) hb') (hq _ (Below.refl _ _))
  · have HF2 : Hid (Below W.heap.size W W2) := (HA.out _).trans (hb2.mono (by simp))
    clear hb2
    go_wp2
    exact HQ.out _ HF2.out

set_option maxRecDepth 100000 in
set_option maxHeartbeats 4000000 in
theorem alone_any {Q : Ending → World → Prop} {w : World} {V : Nat} {ss : List St} {e : E5} {ord : List Nat} {rs : List Bool} {A : Option Addr} {c og oc : Nat} {pv : Value} {bc bk : BitVec 64} (h : VS w V ss e ord rs A c og oc pv bc bk) (hok : okB ss = true)
    (hQ : ∀ f B W', Below w.heap.size w W' → w.heap.size ≤ B → IsAlone ss e rs f → W'.rowIs B 4 ss.length (fun j => .bool (f j)) → Q (.returned (.slice (some ⟨B, 0, none⟩) ss.length ss.length)) W') :
    Calls Tryz.prog 45 #[.pointer (some ⟨V, 0, none⟩)] w Q := by
  have HQ : Hid _ := hQ
  have HV : Hid (VS w V ss e ord rs A c og oc pv bc bk) := h
  have HOK : Hid (okB ss = true) := hok
  clear hQ h hok
  have HA : Hid (Below w.heap.size w (w.alloc (.cells #[.pointer (some ⟨V, 0, none⟩)] 50))) := (Below.refl _ _).alloc (Nat.le_refl _) _
  have v1 : (w.alloc (.cells #[.pointer (some ⟨V, 0, none⟩)] 50)).cell? ⟨w.heap.size, 0, none⟩ = some (.pointer (some ⟨V, 0, none⟩)) := by simp [go_sem]
  have hmf : ∀ (fn : Fn) (first cap : Array Value) (w : World), (Instr.makeFunc fn first cap).run Tryz.prog w = .ok (.func fn first cap) w := fun _ _ _ _ => rfl
  go_enter Tryz.func45, Tryz.ntmps45
  go_wp2_with fail
  generalize w.alloc (.cells #[.pointer (some ⟨V, 0, none⟩)] 50) = W0 at *
  refine late_any (HV.out.keep HA.out) HOK.out fun ea E w2 hb2 hE hea hre => ?_
  have v2 := cell_keep hb2 v1
  have HB2 : Hid (Below w.heap.size w w2) := HA.out.trans (hb2.mono HA.out.size)
  have HEA : Hid (IsLate ss e rs ea) := hea
  have HRE : Hid (w2.rowIs E 4 ss.length (fun j => .bool (ea j))) := hre
  have hwl : w.heap.size < w2.heap.size := by have := cell_lt v2; simpa using this
  clear hb2 hE hea hre v1
  have HK : Hid (Below w2.heap.size w2 (w2.alloc (.cells #[.slice (some ⟨E, 0, none⟩) ss.length ss.length] 33))) := (Below.refl _ _).alloc (Nat.le_refl _) _
  go_wp2_with fail
  refine mostByBehind_any (HV.out.keep (HB2.out.trans (HK.out.mono HB2.out.size))) HOK.out 85 #[.pointer (some ⟨w.heap.size, 0, none⟩), .pointer (some ⟨w2.heap.size, 0, none⟩)] (enters_of Tryz.func85 (by kernel_rfl) rfl) _ (aloneF_mono (low_next HOK.out)) (fun x i g hi hx => aloneF_off (low_next HOK.out) hi hx) (alone_asks (HV.out.keep (HB2.out.trans (HK.out.mono HB2.out.size))) HOK.out w.heap.size w2.heap.size E ea (cell_keep HK.out v2) (by simp [go_sem]) (rowIs_keep HRE.out HK.out)) fun g B W' hb' hB hg hr => ?_
  have HB : Hid (Below w.heap.size w W') := (HB2.out.trans (HK.out.mono HB2.out.size)).trans (hb'.mono (by simp; omega))
  have HG : Hid (IsAlone ss e rs g) := ⟨ea, HEA.out, hg⟩
  have HR : Hid (W'.rowIs B 4 ss.length (fun j => .bool (g j))) := hr
  have hB2 : w.heap.size ≤ B := by simp at hB; omega
  clear hb' hg hr hB
  go_wp2
  exact HQ.out g B _ HB.out hB2 HG.out HR.out

theorem alone_tells {ss : List St} {e : E5} (hok : okB ss = true) : Tells ss e 45 (IsAlone ss e) := fun _ _ _ _ _ _ _ _ _ _ _ h _ hQ => alone_any h hok hQ

set_option maxRecDepth 100000 in
theorem implSafeEarly_any {Q : Ending → World → Prop} (v : Value) (ss : List St) (e : E5) (w : World) (h : StepsAt w v ss) (hl : ss.length ≤ 1048576) (hls : ∀ s ∈ ss, s.next.length ≤ 1048576)
    (hQ : ∀ v' bs w', Below w.heap.size w w' → SafeOr IsEarly ss e bs → w'.ownsRow w.heap.size 4 1 v' bs.length (bs.map Value.bool) → Q (.returned v') w') :
    Calls Tryz.prog 9 #[.agg #[v], .agg #[.int .i64 e.op, .int .i64 e.av, .int .i64 e.an, .int .i64 e.bv, .int .i64 e.bn]] w Q := by
  have HQ : Hid _ := hQ
  clear hQ
  have HH : Hid (StepsAt w v ss) := h
  have HL : Hid (∀ s ∈ ss, s.next.length ≤ 1048576) := hls
  obtain ⟨ao, b, o, cap, rfl, ha, hc⟩ := id h
  clear ha hc h hls
  have hb0 : ∀ O O', Below w.heap.size w ((w.alloc O).alloc O') := fun O O' => ((Below.refl _ _).alloc (Nat.le_refl _) O).alloc (by simp) O'
  have HB0 : Hid _ := hb0
  clear hb0
  go_enter Tryz.func9, Tryz.ntmps9
  go_wp2_with fail
  refine seen_any IsEarly 30 (enters_of Tryz.func30 (by kernel_rfl) rfl) _ ss e _ (HH.out.keep (HB0.out _ _)) hl HL.out (fun hok _ => early_tells hok) fun v' bs w' hb hs hown => ?_
  have HB : Hid (Below w.heap.size w w') := (HB0.out _ _).trans (hb.mono (by simp; omega))
  have HS : Hid _ := hs
  have HO : Hid (w'.ownsRow w.heap.size 4 1 v' bs.length (bs.map Value.bool)) := own_lower hown (by simp; omega)
  clear hb hs hown
  go_wp2
  exact HQ.out _ _ _ HB.out HS.out HO.out

set_option maxRecDepth 100000 in
theorem implSafeLate_any {Q : Ending → World → Prop} (v : Value) (ss : List St) (e : E5) (w : World) (h : StepsAt w v ss) (hl : ss.length ≤ 1048576) (hls : ∀ s ∈ ss, s.next.length ≤ 1048576)
    (hQ : ∀ v' bs w', Below w.heap.size w w' → SafeOr IsLate ss e bs → w'.ownsRow w.heap.size 4 1 v' bs.length (bs.map Value.bool) → Q (.returned v') w') :
    Calls Tryz.prog 19 #[.agg #[v], .agg #[.int .i64 e.op, .int .i64 e.av, .int .i64 e.an, .int .i64 e.bv, .int .i64 e.bn]] w Q := by
  have HQ : Hid _ := hQ
  clear hQ
  have HH : Hid (StepsAt w v ss) := h
  have HL : Hid (∀ s ∈ ss, s.next.length ≤ 1048576) := hls
  obtain ⟨ao, b, o, cap, rfl, ha, hc⟩ := id h
  clear ha hc h hls
  have hb0 : ∀ O O', Below w.heap.size w ((w.alloc O).alloc O') := fun O O' => ((Below.refl _ _).alloc (Nat.le_refl _) O).alloc (by simp) O'
  have HB0 : Hid _ := hb0
  clear hb0
  go_enter Tryz.func19, Tryz.ntmps19
  go_wp2_with fail
  refine seen_any IsLate 46 (enters_of Tryz.func46 (by kernel_rfl) rfl) _ ss e _ (HH.out.keep (HB0.out _ _)) hl HL.out (fun hok _ => late_tells hok) fun v' bs w' hb hs hown => ?_
  have HB : Hid (Below w.heap.size w w') := (HB0.out _ _).trans (hb.mono (by simp; omega))
  have HS : Hid _ := hs
  have HO : Hid (w'.ownsRow w.heap.size 4 1 v' bs.length (bs.map Value.bool)) := own_lower hown (by simp; omega)
  clear hb hs hown
  go_wp2
  exact HQ.out _ _ _ HB.out HS.out HO.out

set_option maxRecDepth 100000 in
theorem implSafeAlone_any {Q : Ending → World → Prop} (v : Value) (ss : List St) (e : E5) (w : World) (h : StepsAt w v ss) (hl : ss.length ≤ 1048576) (hls : ∀ s ∈ ss, s.next.length ≤ 1048576)
    (hQ : ∀ v' bs w', Below w.heap.size w w' → SafeOr IsAlone ss e bs → w'.ownsRow w.heap.size 4 1 v' bs.length (bs.map Value.bool) → Q (.returned v') w') :
    Calls Tryz.prog 18 #[.agg #[v], .agg #[.int .i64 e.op, .int .i64 e.av, .int .i64 e.an, .int .i64 e.bv, .int .i64 e.bn]] w Q := by
  have HQ : Hid _ := hQ
  clear hQ
  have HH : Hid (StepsAt w v ss) := h
  have HL : Hid (∀ s ∈ ss, s.next.length ≤ 1048576) := hls
  obtain ⟨ao, b, o, cap, rfl, ha, hc⟩ := id h
  clear ha hc h hls
  have hb0 : ∀ O O', Below w.heap.size w ((w.alloc O).alloc O') := fun O O' => ((Below.refl _ _).alloc (Nat.le_refl _) O).alloc (by simp) O'
  have HB0 : Hid _ := hb0
  clear hb0
  go_enter Tryz.func18, Tryz.ntmps18
  go_wp2_with fail
  refine seen_any IsAlone 45 (enters_of Tryz.func45 (by kernel_rfl) rfl) _ ss e _ (HH.out.keep (HB0.out _ _)) hl HL.out (fun hok _ => alone_tells hok) fun v' bs w' hb hs hown => ?_
  have HB : Hid (Below w.heap.size w w') := (HB0.out _ _).trans (hb.mono (by simp; omega))
  have HS : Hid _ := hs
  have HO : Hid (w'.ownsRow w.heap.size 4 1 v' bs.length (bs.map Value.bool)) := own_lower hown (by simp; omega)
  clear hb hs hown
  go_wp2
  exact HQ.out _ _ _ HB.out HS.out HO.out

theorem SafeOr.uniqueK {P : List St → E5 → List Bool → (Nat → Bool) → Prop} (hu : ∀ ss, okB ss = true → ∀ e rs f f', P ss e rs f → P ss e rs f' → ∀ i, i < ss.length → f i = f' i) {ss : List St} {e : E5} {a b : List Bool} (ha : SafeOr P ss e a) (hb : SafeOr P ss e b) : a = b := by
  rcases ha with ⟨h1, h2, rs, f, h3, h4, rfl⟩ | ⟨h1, rfl⟩
  · rcases hb with ⟨_, _, rs', f', k3, k4, rfl⟩ | ⟨k1, rfl⟩
    · obtain rfl := h3.unique k3
      exact List.map_congr_left fun i hi => hu ss h1 e rs f f' h4 k4 i (by simpa using hi)
    · exact absurd ⟨h1, h2⟩ k1
  · rcases hb with ⟨k1, k2, _⟩ | ⟨_, rfl⟩
    · exact absurd ⟨k1, k2⟩ h1
    · rfl
end Go.Proofs.YtmplkchdfloppaaGreatDoor
