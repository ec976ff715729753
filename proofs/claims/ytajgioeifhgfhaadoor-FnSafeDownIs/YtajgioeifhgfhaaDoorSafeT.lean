/- A reckoning's view of a program: what viewOf lays; who stands behind a step, and ahead of it. Who stands behind a step, and ahead of it, as the program's view tells. The program's all, over whatever function value. The program's SafeDown: what is asked of a step, by closures; the solver over those behind; the view's down. slices.Clone and slices.Reverse of a row of places. The program's SafeUp: the solver over those ahead; what is asked of a step, by closures. The program's SafeEarly: what is asked of each step by itself. The program's SafeDelay, SafeLate and SafeAlone. -/
import Derived.Test.YtajgioeifhgfhaaDoorImplEC
import Derived.Test.YtajgioeifhgfhaaDoorImplEKA
import Derived.Test.YtajgioeifhgfhaaDoorPredsOf
import Derived.Test.YtajgioeifhgfhaaDoorBaseG
import Derived.Test.YtajgioeifhgfhaaDoorReachI
import Derived.Test.YtajgioeifhgfhaaDoorSolveT
import Derived.Test.YtajgioeifhgfhaaDoorChecked
import Derived.Deep.RegionHeld3
import Derived.Shelf.Abstract
import Derived.Deep.AppendLies
import Derived.Deep.RegionLaw
import Derived.Lib.LazyBuf
import Derived.Deep.CutRange
namespace Go.Proofs.YtajgioeifhgfhaaDoor
open Go.RowKit Go.Maps

/-- What lies behind a view's pointer. -/
structure VS (w : World) (V : Nat) (ss : List St) (e : E5) (ord : List Nat) (rs : List Bool) (A : Option Addr) (c og oc : Nat) (pv : Value) (bc bk : BitVec 64) : Prop where
  c0 : w.cell? ⟨V, 0, none⟩ = some (.slice A ss.length c)
  st : StepsAt w (.slice A ss.length c) ss
  c1 : w.cell? ⟨V, 1, none⟩ = some (.slice (some ⟨og, 0, none⟩) ord.length oc)
  od : ∀ i, i < ord.length → w.cell? ⟨og, i, none⟩ = some (intV (ord.getD i 0))
  io : IsOrder ss ord
  c2 : w.cell? ⟨V, 2, none⟩ = some pv
  pr : ∃ lo hi, RowsI lo hi w pv (predsL ss rs)
  re : IsReach ss rs
  c3 : w.cell? ⟨V, 3, none⟩ = some (bsV bc)
  cw : CompW ss e bc
  c4 : w.cell? ⟨V, 4, none⟩ = some (bsV bk)
  kw : ∀ j (hj : j < ss.length), bk.getLsbD j = keepB e ss[j]

theorem VS.keep {w w' : World} {V : Nat} {ss : List St} {e : E5} {ord : List Nat} {rs : List Bool} {A : Option Addr} {c og oc : Nat} {pv : Value} {bc bk : BitVec 64} (h : VS w V ss e ord rs A c og oc pv bc bk) (hb : Below w.heap.size w w') : VS w' V ss e ord rs A c og oc pv bc bk :=
  ⟨cell_keep hb h.c0, h.st.keep hb, cell_keep hb h.c1, fun i hi => cell_keep hb (h.od i hi), h.io, cell_keep hb h.c2, by obtain ⟨lo, hi, hr⟩ := h.pr; exact ⟨lo, hi, hr.keep hb⟩, h.re, cell_keep hb h.c3, h.cw, cell_keep hb h.c4, h.kw⟩

theorem keep_v {Q : Ending → World → Prop} (f : Nat → BitVec 64) (e : E5) (n : Nat) (w : World) (hn : n ≤ 60)
    (hQ : ∀ w', Below w.heap.size w w' → Q (.returned (.int .u64 ((kpB f e n).toNat : Int))) w') :
    Calls Tryd.prog 56 #[chV f, .agg #[.int .i64 e.op, .int .i64 e.av, .int .i64 e.an, .int .i64 e.bv, .int .i64 e.bn], .int .i64 (n : Int)] w Q := keep_any f e n w hn hQ

set_option maxRecDepth 100000 in
set_option maxHeartbeats 4000000 in
theorem viewOf_any {Q : Ending → World → Prop} (A : Option Addr) (c : Nat) (ss : List St) (e : E5) (w : World) (h : StepsAt w (.slice A ss.length c) ss) (hok : okB ss = true) (hex : exprB e = true)
    (hQ : ∀ V ord rs og oc pv bc bk w', Below w.heap.size w w' → VS w' V ss e ord rs A c og oc pv bc bk → Q (.returned (.pointer (some ⟨V, 0, none⟩))) w') :
    Calls Tryd.prog 83 #[.slice A ss.length c, .agg #[.int .i64 e.op, .int .i64 e.av, .int .i64 e.an, .int .i64 e.bv, .int .i64 e.bn]] w Q := by
  have HQ : Hid _ := hQ
  clear hQ
  have HH : Hid (StepsAt w (.slice A ss.length c) ss) := h
  have HOK : Hid (okB ss = true) := hok
  have HEX : Hid (exprB e = true) := hex
  have HXV : Hid (exV e = .agg #[.int .i64 e.op, .int .i64 e.av, .int .i64 e.an, .int .i64 e.bv, .int .i64 e.bn]) := rfl
  have hn2 : ss.length ≤ 60 := (ok_len hok).2
  clear h hok hex
  go_enter Tryd.func83, Tryd.ntmps83
  go_wp2_with fail
  have hb0 : Below w.heap.size w (w.alloc (.cells #[.int .i64 e.op, .int .i64 e.av, .int .i64 e.an, .int .i64 e.bv, .int .i64 e.bn] 29)) := (Below.refl _ _).alloc (Nat.le_refl _) _
  have x0 : (w.alloc (.cells #[.int .i64 e.op, .int .i64 e.av, .int .i64 e.an, .int .i64 e.bv, .int .i64 e.bn] 29)).cell? ⟨w.heap.size, 0, none⟩ = some (.int .i64 e.op) := by simp [go_sem]
  have x1 : (w.alloc (.cells #[.int .i64 e.op, .int .i64 e.av, .int .i64 e.an, .int .i64 e.bv, .int .i64 e.bn] 29)).cell? ⟨w.heap.size, 1, none⟩ = some (.int .i64 e.av) := by simp [go_sem]
  have x2 : (w.alloc (.cells #[.int .i64 e.op, .int .i64 e.av, .int .i64 e.an, .int .i64 e.bv, .int .i64 e.bn] 29)).cell? ⟨w.heap.size, 2, none⟩ = some (.int .i64 e.an) := by simp [go_sem]
  have x3 : (w.alloc (.cells #[.int .i64 e.op, .int .i64 e.av, .int .i64 e.an, .int .i64 e.bv, .int .i64 e.bn] 29)).cell? ⟨w.heap.size, 3, none⟩ = some (.int .i64 e.bv) := by simp [go_sem]
  have x4 : (w.alloc (.cells #[.int .i64 e.op, .int .i64 e.av, .int .i64 e.an, .int .i64 e.bv, .int .i64 e.bn] 29)).cell? ⟨w.heap.size, 4, none⟩ = some (.int .i64 e.bn) := by simp [go_sem]
  generalize w.alloc (.cells #[.int .i64 e.op, .int .i64 e.av, .int .i64 e.an, .int .i64 e.bv, .int .i64 e.bn] 29) = W0 at *
  have HB0 : Hid (Below w.heap.size w W0) := hb0
  clear hb0
  go_region_held3 (fun wx => wx.cell? ⟨w.heap.size, 0, none⟩ = some (.int .i64 e.op) ∧ wx.cell? ⟨w.heap.size, 1, none⟩ = some (.int .i64 e.av) ∧ wx.cell? ⟨w.heap.size, 2, none⟩ = some (.int .i64 e.an) ∧ wx.cell? ⟨w.heap.size, 3, none⟩ = some (.int .i64 e.bv) ∧ wx.cell? ⟨w.heap.size, 4, none⟩ = some (.int .i64 e.bn)) (go_keep) (first
    | (go_at_call 91; refine leaveOrder_any _ ss _ (HH.out.keep (HB0.out.drew)) HOK.out ?_; intro v1 ord W1 hb1 hio hown1; have a0 := cell_keep hb1 x0; have a1 := cell_keep hb1 x1; have a2 := cell_keep hb1 x2; have a3 := cell_keep hb1 x3; have a4 := cell_keep hb1 x4; have HB1 : Hid (Below w.heap.size w W1) := HB0.out.drew.trans (hb1.mono HB0.out.size); obtain ⟨A1, c1, hv1⟩ := own_form hown1; subst hv1)
    | (go_at_call 104; refine predsOf_any _ ss _ (HH.out.keep HB1.out) HOK.out ?_; intro v2 rs W2 hb2 hre hrow2; have b0 := cell_keep hb2 a0; have b1 := cell_keep hb2 a1; have b2 := cell_keep hb2 a2; have b3 := cell_keep hb2 a3; have b4 := cell_keep hb2 a4; have HB2 : Hid (Below w.heap.size w W2) := HB1.out.trans (hb2.mono HB1.out.size); obtain ⟨A2, c2, hv2⟩ := hrow2.slice; subst hv2)
    | (go_at_call 52; refine reckonedBy_any _ ss _ (HH.out.keep HB2.out) HOK.out ?_; intro W4 es bs D lv sv hRS hb4 hs4 hes hcb; subst hes; have z0 := cell_keep hb4 b0; have z1 := cell_keep hb4 b1; have z2 := cell_keep hb4 b2; have z3 := cell_keep hb4 b3; have z4 := cell_keep hb4 b4; have HB4 : Hid (Below w.heap.size w W4) := HB2.out.trans (hb4.mono HB2.out.size))
    | (go_at_call 53; rw [← HXV.out]; refine reckonedSteps_any _ _ _ (Nat.lt_succ_self _) W4 ss bs D lv sv hRS hs4 hcb e HEX.out ?_; intro bb W5 hcw hb5; rw [HXV.out]; have u0 := cell_keep hb5 z0; have u1 := cell_keep hb5 z1; have u2 := cell_keep hb5 z2; have u3 := cell_keep hb5 z3; have u4 := cell_keep hb5 z4; have HB5 : Hid (Below w.heap.size w W5) := HB4.out.trans (hb5.mono HB4.out.size))
    | (go_at_call 55; refine changedBy_any _ ss _ (HH.out.keep HB5.out) HOK.out ?_; intro f W6 hb6 hcf; have t0 := cell_keep hb6 u0; have t1 := cell_keep hb6 u1; have t2 := cell_keep hb6 u2; have t3 := cell_keep hb6 u3; have t4 := cell_keep hb6 u4; have HB6 : Hid (Below w.heap.size w W6) := HB5.out.trans (hb6.mono HB5.out.size))
    | (go_at_call 56; refine keep_v f e ss.length _ hn2 ?_; intro W7 hb7; have s0 := cell_keep hb7 t0; have s1 := cell_keep hb7 t1; have s2 := cell_keep hb7 t2; have s3 := cell_keep hb7 t3; have s4 := cell_keep hb7 t4; have HB7 : Hid (Below w.heap.size w W7) := HB6.out.trans (hb7.mono HB6.out.size)))
  all_goals
    have hb57 := hb6.trans (hb7.mono hb6.size)
    have hb47 := hb5.trans (hb57.mono hb5.size)
    have hb27 := hb4.trans (hb47.mono hb4.size)
    have hb17 := hb2.trans (hb27.mono hb2.size)
    have hol : 0 < ord.length := by
      obtain ⟨r, hr⟩ := hio.last
      rw [hr]
      simp
    obtain ⟨g1, cc1, hv1, _, _⟩ := hown1.form hol
    cases hv1
    have HOD : Hid (∀ i, i < ord.length → W7.cell? ⟨g1, i, none⟩ = some (intV (ord.getD i 0))) := fun i hi => by
      have h1 := hown1.cellAt i (by omega)
      rw [List.getElem?_map, List.getElem?_eq_getElem hi] at h1
      have h2 := cell_keep hb17 h1
      rw [h2, List.getD_eq_getElem?_getD, List.getElem?_eq_getElem hi]
      rfl
    have HPR : Hid (RowsI W1.heap.size W2.heap.size W7 (.slice A2 (predsL ss rs).length c2) (predsL ss rs)) := RowsI.keep hrow2 hb27
    have HIO : Hid (IsOrder ss ord) := hio
    have HRE : Hid (IsReach ss rs) := hre
    have HCW : Hid (CompW ss e bb) := hcw
    have HKW : Hid (∀ j (hj : j < ss.length), (kpB f e ss.length).getLsbD j = keepB e ss[j]) := fun j hj => kpB_get HOK.out HEX.out hcf hj
    have HFIN : Hid (∀ O, Below w.heap.size w (W7.alloc O)) := fun O => HB7.out.alloc HB7.out.size O
    have HK : Hid (∀ O, Below W7.heap.size W7 (W7.alloc O)) := fun O => (Below.refl _ _).alloc (Nat.le_refl _) O
    have HST : Hid (StepsAt W7 (.slice A ss.length c) ss) := HH.out.keep HB7.out
    clear hb1 hb2 hb4 hb5 hb6 hb7 hb57 hb47 hb27 hb17 hio hre hrow2 hown1 hRS hcb hcw hcf x0 x1 x2 x3 x4 a0 a1 a2 a3 a4 b0 b1 b2 b3 b4 z0 z1 z2 z3 z4 u0 u1 u2 u3 u4 t0 t1 t2 t3 t4 s0 s1 s2 s3 s4
    go_wp2
    refine HQ.out W7.heap.size ord rs g1 c1 (.slice A2 (predsL ss rs).length c2) bb (kpB f e ss.length) _ (HFIN.out _) ⟨by simp [go_sem], HST.out.keep (HK.out _), by simp [go_sem], fun i hi => cell_keep (HK.out _) (HOD.out i hi), HIO.out, by simp [go_sem], ⟨_, _, HPR.out.keep (HK.out _)⟩, HRE.out, by simp [go_sem, bsV], HCW.out, by simp [go_sem, bsV], HKW.out⟩
end Go.Proofs.YtajgioeifhgfhaaDoor
namespace Go.Proofs.YtajgioeifhgfhaaDoor
open Go.RowKit

set_option maxHeartbeats 1000000 in
theorem behind_any {Q : Ending → World → Prop} {w0 w : World} (hb : Below w0.heap.size w0 w) {V : Nat} {ss : List St} {e : E5} {ord : List Nat} {rs : List Bool} {A : Option Addr} {c og oc : Nat} {pv : Value} {bc bk : BitVec 64} (h : VS w0 V ss e ord rs A c og oc pv bc bk) (x : Nat) (hx : x < ss.length)
    (hQ : ∀ v, IntsAt w0 v (nextOf ss x) → Q (.returned v) w) :
    Calls Tryd.prog 87 #[.pointer (some ⟨V, 0, none⟩), .int .i64 (x : Int)] w Q := by
  have HQ : Hid _ := hQ
  clear hQ
  have c0 := cell_keep hb h.c0
  obtain ⟨ao, b, o, cap, hv, ha, hc⟩ := h.st
  cases hv
  obtain rfl := ha (by omega)
  obtain ⟨nv, st, hi⟩ := hc x ss[x] (List.getElem?_eq_getElem hx)
  have c7 := cell_keep hb st.c7
  have HI : Hid (IntsAt w0 nv (nextOf ss x)) := by rw [nextOf_get hx]; exact hi
  have hxi : (x : Int) < (ss.length : Int) := by omega
  obtain ⟨nao, nb, no, ncap, rfl, _, _⟩ := id hi
  clear h ha hc st hi
  go_enter Tryd.func87, Tryd.ntmps87
  go_wp2
  exact HQ.out _ HI.out

set_option maxHeartbeats 1000000 in
theorem aheadOf_any {Q : Ending → World → Prop} {w0 w : World} (hb : Below w0.heap.size w0 w) {V : Nat} {ss : List St} {e : E5} {ord : List Nat} {rs : List Bool} {A : Option Addr} {c og oc : Nat} {pv : Value} {bc bk : BitVec 64} (h : VS w0 V ss e ord rs A c og oc pv bc bk) (x : Nat) (hx : x < ss.length)
    (hQ : ∀ v, IntsAt w0 v (pF ss rs x) → Q (.returned v) w) :
    Calls Tryd.prog 118 #[.pointer (some ⟨V, 0, none⟩), .int .i64 (x : Int)] w Q := by
  have HQ : Hid _ := hQ
  clear hQ
  have c2 := cell_keep hb h.c2
  obtain ⟨lo, hi, hr⟩ := h.pr
  obtain ⟨ao, g, cap, rfl, hrow⟩ := hr.read
  have hl : (predsL ss rs).length = ss.length := by simp [predsL]
  obtain ⟨y, A', c', rfl, hy, rfl, hIO⟩ := hrow x (predsK ss rs x ss.length) (by simp [predsL, hx])
  have HI : Hid (IntsAt w0 (.slice A' (predsK ss rs x ss.length).length c') (pF ss rs x)) := hIO.at
  rw [hl] at c2
  have hy2 := cell_keep hb hy
  have hxi : (x : Int) < (ss.length : Int) := by omega
  clear h hr hrow hIO hl hy
  generalize (predsK ss rs x ss.length).length = L at *
  go_enter Tryd.func118, Tryd.ntmps118
  go_wp2
  exact HQ.out _ HI.out

/-- The method values: who is ahead, who is behind. -/
theorem ahead_hangs {w : World} {V : Nat} {ss : List St} {e : E5} {ord : List Nat} {rs : List Bool} {A : Option Addr} {c og oc : Nat} {pv : Value} {bc bk : BitVec 64} (h : VS w V ss e ord rs A c og oc pv bc bk) : Hangs ss.length (rF rs) 118 #[.pointer (some ⟨V, 0, none⟩)] w (pF ss rs) := by
  intro W x hb hx _ Q' hQ
  exact aheadOf_any hb h x hx fun v hv => hQ v W (Below.refl _ _) hv

theorem behind_hangs {w : World} {V : Nat} {ss : List St} {e : E5} {ord : List Nat} {rs : List Bool} {A : Option Addr} {c og oc : Nat} {pv : Value} {bc bk : BitVec 64} (h : VS w V ss e ord rs A c og oc pv bc bk) : Hangs ss.length (rF rs) 87 #[.pointer (some ⟨V, 0, none⟩)] w (nextOf ss) := by
  intro W x hb hx _ Q' hQ
  exact behind_any hb h x hx fun v hv => hQ v W (Below.refl _ _) hv

/-- A set of steps in the view. -/
theorem has_c {Q : Ending → World → Prop} {ss : List St} {e : E5} {bc : BitVec 64} (h : CompW ss e bc) (hok : okB ss = true) (x : Nat) (hx : x < ss.length) (w : World) (hQ : Q (.returned (.bool (cF e ss x))) w) :
    Calls Tryd.prog 86 #[bsV bc, .int .i64 (x : Int)] w Q := by
  have := (ok_len hok).2
  refine has_any bc x w (by omega) ?_
  rw [h.get hx (by omega), ← cF_get hx]
  exact hQ

theorem has_k {Q : Ending → World → Prop} {ss : List St} {e : E5} {bk : BitVec 64} (h : ∀ j (hj : j < ss.length), bk.getLsbD j = keepB e ss[j]) (hok : okB ss = true) (x : Nat) (hx : x < ss.length) (w : World) (hQ : Q (.returned (.bool (kF e ss x))) w) :
    Calls Tryd.prog 86 #[bsV bk, .int .i64 (x : Int)] w Q := by
  have := (ok_len hok).2
  refine has_any bk x w (by omega) ?_
  rw [h x hx, ← kF_get hx]
  exact hQ
end Go.Proofs.YtajgioeifhgfhaaDoor
namespace Go.Proofs.YtajgioeifhgfhaaDoor
open Go.RowKit

set_option maxRecDepth 100000 in
set_option maxHeartbeats 2000000 in
theorem all_any {Q : Ending → World → Prop} (g : Nat) (lb : Array Value) (eg : ∀ args w, (callFunc g args).run Tryd.prog w = .ok (.enter g args) w) (v : Value) (zs : List Int) (f : Nat → Bool) (w : World) (h : IntsAt w v zs) (hz : ∀ x ∈ zs, 0 ≤ x) (hl : zs.length ≤ 1000)
    (hp : ∀ W x, Below w.heap.size w W → x ∈ zs → ∀ {Q' : Ending → World → Prop}, (∀ W', Below W.heap.size W W' → Q' (.returned (.bool (f x.toNat))) W') → Calls Tryd.prog g (#[.int .i64 x] ++ lb) W Q')
    (hQ : ∀ W', Below w.heap.size w W' → Q (.returned (.bool (allI zs f))) W') :
    Calls Tryd.prog 88 #[v, .func (.func g) #[] lb] w Q := by
  have HQ : Hid _ := hQ
  have HP : Hid _ := @hp
  clear hQ hp
  obtain ⟨ao, b, o, cap, rfl, ha, hc⟩ := id h
  have HA : Hid (0 < zs.length → ao = some ⟨b, o, none⟩) := ha
  have HC : Hid _ := hc
  clear h ha hc
  go_enter Tryd.func88, Tryd.ntmps88
  go_wp2_with fail
  go_loopw [6, 9] (fun _ i wr => ∃ k : Nat, k ≤ zs.length ∧ i = .int .i64 k ∧ Below w.heap.size w wr ∧ ∀ j, j < k → f (zs.getD j 0).toNat = true) (fun _ i _ => zs.length - (intOf i).toNat)
  case atStart => exact ⟨0, Nat.zero_le _, rfl, Below.refl _ _, fun j hj => by omega⟩
  case round =>
    obtain ⟨k, hk, rfl, hbw, hf⟩ := hrel
    have HF : Hid (∀ j, j < k → f (zs.getD j 0).toNat = true) := hf
    have HB : Hid (Below w.heap.size w wr) := hbw
    by_cases hkn : k < zs.length
    · have hki : (k : Int) < (zs.length : Int) := by omega
      obtain rfl := HA.out (by omega)
      have c := cell_keep hbw (HC.out k hkn)
      have HM : Hid (zs.getD k 0 ∈ zs) := by
        rw [Hid, List.getD_eq_getElem?_getD, List.getElem?_eq_getElem hkn]
        exact List.getElem_mem hkn
      have HALL : Hid (f (zs.getD k 0).toNat = false → allI zs f = false) := fun h0 => by
        unfold allI
        rw [List.all_eq_false]
        exact ⟨_, HM.out, by simpa using h0⟩
      have HX : Hid (0 ≤ zs.getD k 0) := hz _ HM.out
      have HS : Hid (f (zs.getD k 0).toNat = true → ∀ j, j < k + 1 → f (zs.getD j 0).toNat = true) := fun h0 j hj => by
        by_cases e : j = k
        · subst e; exact h0
        · exact HF.out j (by omega)
      clear hbw hf
      generalize zs.getD k 0 = x at *
      go_wp2_with fail
      refine HP.out _ x HB.out HM.out fun w1 hb1 => ?_
      have HB1 : Hid (Below w.heap.size w w1) := HB.out.trans (hb1.mono HB.out.size)
      clear hb1
      cases hv : f x.toNat
      · have HR : Hid _ := HALL.out hv
        clear hv HS HALL
        go_wp2
        rw [HR.out] at HQ
        exact HQ.out _ HB1.out
      · have HR : Hid _ := HS.out hv
        clear hv HS HALL
        go_wp2
        go_roundw
        case rel => exact ⟨k + 1, by omega, by go_num, HB1.out, HR.out⟩
        case measure => simp [intOf]; omega
    · have hki : ¬ (k : Int) < (zs.length : Int) := by omega
      have HALL : Hid (allI zs f = true) := by
        unfold allI
        rw [Hid, List.all_eq_true]
        intro x hx
        obtain ⟨j, hj, e⟩ := List.getElem_of_mem hx
        have := HF.out j (by omega)
        rw [List.getD_eq_getElem?_getD, List.getElem?_eq_getElem hj] at this
        rw [← e]
        exact this
      rw [HALL.out] at HQ
      clear hbw hf
      go_wp2
      exact HQ.out _ HB.out
end Go.Proofs.YtajgioeifhgfhaaDoor
namespace Go.Proofs.YtajgioeifhgfhaaDoor
open Go.RowKit

theorem Asks.later {n : Nat} {r : Nat → Bool} {g : Nat} {lb : Array Value} {w W : World} {F : (Nat → Bool) → Nat → Bool} (h : Asks n r g lb w F) (hb : Below w.heap.size w W) : Asks n r g lb W F :=
  fun W' x B so hb' hB hx hr hrow _ hQ => h W' x B so (hb.trans (hb'.mono hb.size)) (Nat.le_trans hb.size hB) hx hr hrow hQ

set_option maxHeartbeats 1000000 in
theorem downSo_any {Q : Ending → World → Prop} (SB B n : Nat) (so : Nat → Bool) (x : Int) (W : World) (h0 : 0 ≤ x) (h1 : x < (n : Int)) (hs : W.cell? ⟨SB, 0, none⟩ = some (.slice (some ⟨B, 0, none⟩) n n)) (hr : W.rowIs B 4 n (fun j => .bool (so j)))
    (hQ : Q (.returned (.bool (so x.toNat))) W) :
    Calls Tryd.prog 89 #[.int .i64 x, .pointer (some ⟨SB, 0, none⟩)] W Q := by
  have HQ : Hid _ := hQ
  clear hQ
  obtain ⟨m, rfl⟩ := Int.eq_ofNat_of_zero_le h0
  have hm : m < n := by omega
  have hc := hr.cell (i := m) hm
  rw [show ((m : Int)).toNat = m from rfl] at HQ
  clear hr h0
  generalize so m = z at *
  go_enter Tryd.func89, Tryd.ntmps89
  go_wp2
  exact HQ.out

set_option maxRecDepth 100000 in
set_option maxHeartbeats 2000000 in
theorem down_asks {w : World} {V : Nat} {ss : List St} {e : E5} {ord : List Nat} {rs : List Bool} {A : Option Addr} {c og oc : Nat} {pv : Value} {bc bk : BitVec 64} (h : VS w V ss e ord rs A c og oc pv bc bk) (hok : okB ss = true) (VB : Nat) (hVB : w.cell? ⟨VB, 0, none⟩ = some (.pointer (some ⟨V, 0, none⟩))) :
    Asks ss.length (rF rs) 85 #[.pointer (some ⟨VB, 0, none⟩)] w (downF (cF e ss) (kF e ss) (nextOf ss)) := by
  intro W x B so hb hB hx hr hrow Q hQ
  show Calls Tryd.prog _ #[.int .i64 (x : Int), .slice (some ⟨B, 0, none⟩) ss.length ss.length, .pointer (some ⟨VB, 0, none⟩)] W Q
  have HQ : Hid _ := hQ
  have HV : Hid (VS w V ss e ord rs A c og oc pv bc bk) := h
  have HOK : Hid (okB ss = true) := hok
  have HB : Hid (Below w.heap.size w W) := hb
  have HR : Hid (W.rowIs B 4 ss.length (fun j => .bool (so j))) := hrow
  have hv := h.keep hb
  have c3 := hv.c3
  have c4 := hv.c4
  have cv := cell_keep hb hVB
  have hVl := cell_lt c3
  have hVBl := cell_lt cv
  simp only at hVl hVBl
  clear hQ h hok hb hrow hv hVB
  have HA : Hid (∀ O, Below W.heap.size W (W.alloc O)) := fun O => (Below.refl _ _).alloc (Nat.le_refl _) O
  go_enter Tryd.func85, Tryd.ntmps85
  go_wp2_with fail
  refine has_c HV.out.cw HOK.out x hx _ ?_
  cases hc : cF e ss x
  · go_wp2_with fail
    refine behind_any (w0 := w) (HB.out.trans ((HA.out _).mono HB.out.size)) HV.out x hx fun nv hnv => ?_
    obtain ⟨nao, nb, no, ncap, rfl, hna, hnc⟩ := id hnv
    have HN : Hid (IntsAt w (.slice nao (nextOf ss x).length ncap) (nextOf ss x)) := hnv
    clear hna hnc hnv
    have HLW : Hid (Low ss.length (nextOf ss)) := low_next HOK.out
    have hnl : (nextOf ss x).length ≤ 2 := next_len HOK.out hx
    go_wp2_with fail
    refine has_k HV.out.kw HOK.out x hx _ ?_
    cases hk : kF e ss x
    · have HF : Hid (downF (cF e ss) (kF e ss) (nextOf ss) so x = false) := by simp [Hid, downF, hc, hk]
      rw [HF.out] at HQ
      go_wp2
      exact HQ.out _ (HA.out _)
    · by_cases hl : (nextOf ss x).length = 0
      · have HF : Hid (downF (cF e ss) (kF e ss) (nextOf ss) so x = false) := by simp [Hid, downF, hc, hk, hl]
        have hli : ¬ (0 : Int) < ((nextOf ss x).length : Int) := by omega
        rw [HF.out] at HQ
        go_wp2
        exact HQ.out _ (HA.out _)
      · have HF : Hid (downF (cF e ss) (kF e ss) (nextOf ss) so x = allI (nextOf ss x) so) := by
          have : 0 < (nextOf ss x).length := by omega
          simp [Hid, downF, hc, hk, this]
        have hli : (0 : Int) < ((nextOf ss x).length : Int) := by omega
        rw [HF.out] at HQ
        clear hc hk
        go_wp2_with fail
        refine all_any 89 #[.pointer (some ⟨W.heap.size, 0, none⟩)] (enters_of Tryd.func89 (by kernel_rfl) rfl) _ (nextOf ss x) so _ ((HN.out.keep HB.out).keep (HA.out _)) (fun y hy => (HLW.out x hx y hy).1) (by omega) (fun W' y hb' hy Q' hq => ?_) fun W2 hb2 => ?_
        · have hl := HLW.out x hx y hy
          refine downSo_any W.heap.size B ss.length so y W' hl.1 hl.2 (cell_keep hb' (by simp [go_sem])) (rowIs_keep (rowIs_keep HR.out (HA.out _)) hb') (hq _ (Below.refl _ _))
        · have HF2 : Hid (Below W.heap.size W W2) := (HA.out _).trans (hb2.mono (by simp))
          clear hb2
          go_wp2
          exact HQ.out _ HF2.out
  · have HF : Hid (downF (cF e ss) (kF e ss) (nextOf ss) so x = true) := by simp [Hid, downF, hc]
    rw [HF.out] at HQ
    go_wp2
    exact HQ.out _ (HA.out _)

set_option maxRecDepth 100000 in
set_option maxHeartbeats 2000000 in
theorem mostByBehind_any {Q : Ending → World → Prop} {w : World} {V : Nat} {ss : List St} {e : E5} {ord : List Nat} {rs : List Bool} {A : Option Addr} {c og oc : Nat} {pv : Value} {bc bk : BitVec 64} (h : VS w V ss e ord rs A c og oc pv bc bk) (hok : okB ss = true) (ga : Nat) (lb : Array Value) (ea : ∀ args w, (callFunc ga args).run Tryd.prog w = .ok (.enter ga args) w)
    (F : (Nat → Bool) → Nat → Bool) (hm : Mono ss.length F) (hoff : ∀ (x i : Nat) (g : Nat → Bool), i < ss.length → (x : Int) ∉ nextOf ss i → F (offB g x) i = F g i) (hA : Asks ss.length (rF rs) ga lb w F)
    (hQ : ∀ g B W', Below w.heap.size w W' → w.heap.size ≤ B → Gr ss.length (rF rs) F g → W'.rowIs B 4 ss.length (fun j => .bool (g j)) → Q (.returned (.slice (some ⟨B, 0, none⟩) ss.length ss.length)) W') :
    Calls Tryd.prog 84 #[.pointer (some ⟨V, 0, none⟩), .func (.func ga) #[] lb] w Q := by
  have HQ : Hid _ := hQ
  have HV : Hid (VS w V ss e ord rs A c og oc pv bc bk) := h
  have HOK : Hid (okB ss = true) := hok
  have HM : Hid _ := hm
  have HOF : Hid _ := hoff
  have HA : Hid (Asks ss.length (rF rs) ga lb w F) := @hA
  have HEA : Hid _ := ea
  have c0 := h.c0
  have c1 := h.c1
  have hn := (ok_len hok).2
  have HY : Hid (∀ x, x < ss.length → rF rs x = true → (pF ss rs x).length ≤ 60 ∧ ∀ y ∈ pF ss rs x, 0 ≤ y ∧ y.toNat < ss.length ∧ rF rs y.toNat = true) := fun x hx _ => ⟨Nat.le_trans (predsK_len _ _ _ _) hn, fun y hy => by
    have h1 := low_preds ss rs x hx y hy
    obtain ⟨m, rfl⟩ := Int.eq_ofNat_of_zero_le h1.1
    exact ⟨h1.1, by have := h1.2; simp; omega, (mem_preds.1 hy).2.1⟩⟩
  have hol : ord.length ≤ 60 := Nat.le_trans (nodup_len h.io.nodup fun i hi => ((h.io.mem i).1 hi).1) hn
  have HRS : Hid (∀ i, i ∈ ord ↔ i < ss.length ∧ rF rs i = true) := fun i => by
    rw [h.io.mem i]
    constructor
    · rintro ⟨h1, h2⟩
      refine ⟨h1, ?_⟩
      have := (h.re.2 i h1).2 h2
      unfold rF
      rw [List.getD_eq_getElem?_getD, this]
      rfl
    · rintro ⟨h1, h2⟩
      refine ⟨h1, (h.re.2 i h1).1 ?_⟩
      unfold rF at h2
      rw [List.getD_eq_getElem?_getD] at h2
      have hl : i < rs.length := by rw [h.re.1]; exact h1
      rw [List.getElem?_eq_getElem hl] at h2 ⊢
      simpa using h2
  clear hQ hm hoff hA ea h hok
  have hmf : ∀ (fn : Fn) (first cap : Array Value) (w : World), (Instr.makeFunc fn first cap).run Tryd.prog w = .ok (.func fn first cap) w := fun _ _ _ _ => rfl
  go_enter Tryd.func84, Tryd.ntmps84
  go_wp2_with fail
  go_region_held3 (fun wx => wx.cell? ⟨V, 0, none⟩ = some (.slice A ss.length c) ∧ wx.cell? ⟨V, 1, none⟩ = some (.slice (some ⟨og, 0, none⟩) ord.length oc)) (go_keep) (first
    | (go_at_call 117; refine solve_any ss.length og oc ord 118 #[.pointer (some ⟨V, 0, none⟩)] ga lb (enters_of Tryd.func118 (by kernel_rfl) rfl) HEA.out _ (rF rs) F (pF ss rs) hn hol (fun i hi => HV.out.od i hi) HRS.out HV.out.io.nodup HM.out (fun x i g hx hi hr hni => HOF.out x i g hi fun hm => hni (mem_preds.2 ⟨hi, hr, hm⟩)) HY.out (ahead_hangs (HV.out.keep ((Below.refl _ _).drew))) (HA.out.later ((Below.refl _ _).drew)) ?_; intro gg W' hb' hg hr'; have d0 := cell_keep hb' (show w.drew.cell? ⟨V, 0, none⟩ = _ from c0); have d1 := cell_keep hb' (show w.drew.cell? ⟨V, 1, none⟩ = _ from c1)))
  all_goals
    have HB : Hid (Below w.heap.size w W') := ((Below.refl _ _).drew).trans hb'
    have HG : Hid (Gr ss.length (rF rs) F gg) := hg
    have HR : Hid (W'.rowIs w.drew.heap.size 4 ss.length (fun j => .bool (gg j))) := hr'
    clear hb' hg hr'
    go_wp2
    exact HQ.out gg _ _ HB.out (Nat.le_refl _) HG.out HR.out

set_option maxRecDepth 100000 in
set_option maxHeartbeats 2000000 in
theorem down_any {Q : Ending → World → Prop} {w : World} {V : Nat} {ss : List St} {e : E5} {ord : List Nat} {rs : List Bool} {A : Option Addr} {c og oc : Nat} {pv : Value} {bc bk : BitVec 64} (h : VS w V ss e ord rs A c og oc pv bc bk) (hok : okB ss = true)
    (hQ : ∀ f B W', Below w.heap.size w W' → w.heap.size ≤ B → IsDown ss e rs f → W'.rowIs B 4 ss.length (fun j => .bool (f j)) → Q (.returned (.slice (some ⟨B, 0, none⟩) ss.length ss.length)) W') :
    Calls Tryd.prog 49 #[.pointer (some ⟨V, 0, none⟩)] w Q := by
  have HQ : Hid _ := hQ
  have HV : Hid (VS w V ss e ord rs A c og oc pv bc bk) := h
  have HOK : Hid (okB ss = true) := hok
  clear hQ h hok
  have HA : Hid (∀ O, Below w.heap.size w (w.alloc O)) := fun O => (Below.refl _ _).alloc (Nat.le_refl _) O
  have hmf : ∀ (fn : Fn) (first cap : Array Value) (w : World), (Instr.makeFunc fn first cap).run Tryd.prog w = .ok (.func fn first cap) w := fun _ _ _ _ => rfl
  go_enter Tryd.func49, Tryd.ntmps49
  go_wp2_with fail
  refine mostByBehind_any (HV.out.keep (HA.out _)) HOK.out 85 #[.pointer (some ⟨w.heap.size, 0, none⟩)] (enters_of Tryd.func85 (by kernel_rfl) rfl) _ (downF_mono (low_next HOK.out)) (fun x i g hi hx => downF_off (low_next HOK.out) hi hx) (down_asks (HV.out.keep (HA.out _)) HOK.out w.heap.size (by simp [go_sem])) fun g B W' hb' hB hg hr => ?_
  have HB : Hid (Below w.heap.size w W') := (HA.out _).trans (hb'.mono (by simp))
  have HG : Hid (IsDown ss e rs g) := hg
  have HR : Hid (W'.rowIs B 4 ss.length (fun j => .bool (g j))) := hr
  have hB2 : w.heap.size ≤ B := by simp at hB; omega
  clear hb' hg hr hB
  go_wp2
  exact HQ.out g B _ HB.out hB2 HG.out HR.out

/-- What a way of looking at a view answers. -/
def Tells (ss : List St) (e : E5) (g : Nat) (P : List Bool → (Nat → Bool) → Prop) : Prop :=
  ∀ (w : World) (V : Nat) (ord : List Nat) (rs : List Bool) (A : Option Addr) (c og oc : Nat) (pv : Value) (bc bk : BitVec 64), VS w V ss e ord rs A c og oc pv bc bk → ∀ {Q : Ending → World → Prop},
    (∀ f B W', Below w.heap.size w W' → w.heap.size ≤ B → P rs f → W'.rowIs B 4 ss.length (fun j => .bool (f j)) → Q (.returned (.slice (some ⟨B, 0, none⟩) ss.length ss.length)) W') → Calls Tryd.prog g #[.pointer (some ⟨V, 0, none⟩)] w Q

theorem down_tells {ss : List St} {e : E5} (hok : okB ss = true) : Tells ss e 49 (IsDown ss e) := fun _ _ _ _ _ _ _ _ _ _ _ h _ hQ => down_any h hok hQ

set_option maxRecDepth 100000 in
set_option maxHeartbeats 2000000 in
theorem seen_any {Q : Ending → World → Prop} (P : List St → E5 → List Bool → (Nat → Bool) → Prop) (g : Nat) (eg : ∀ args w, (callFunc g args).run Tryd.prog w = .ok (.enter g args) w) (v : Value) (ss : List St) (e : E5) (w : World) (h : StepsAt w v ss) (hl : ss.length ≤ 1048576) (hls : ∀ s ∈ ss, s.next.length ≤ 1048576)
    (ht : okB ss = true → exprB e = true → Tells ss e g (P ss e))
    (hQ : ∀ v' bs w', Below w.heap.size w w' → SafeOr P ss e bs → w'.ownsRow w.heap.size 4 1 v' bs.length (bs.map Value.bool) → Q (.returned v') w') :
    Calls Tryd.prog 48 #[.agg #[v], .agg #[.int .i64 e.op, .int .i64 e.av, .int .i64 e.an, .int .i64 e.bv, .int .i64 e.bn], .func (.func g) #[] #[]] w Q := by
  have HQ : Hid _ := hQ
  obtain ⟨ao, b, o, cap, rfl, ha, hc⟩ := id h
  clear ha hc
  have HH : Hid (StepsAt w (.slice ao ss.length cap) ss) := h
  have HL : Hid (∀ s ∈ ss, s.next.length ≤ 1048576) := hls
  have HT : Hid (okB ss = true → exprB e = true → Tells ss e g (P ss e)) := @ht
  clear hQ h hls ht
  have hb0 : ∀ O O', Below w.heap.size w ((w.alloc O).alloc O') := fun O O' => ((Below.refl _ _).alloc (Nat.le_refl _) O).alloc (by simp) O'
  have HXV : Hid (exV e = .agg #[.int .i64 e.op, .int .i64 e.av, .int .i64 e.an, .int .i64 e.bv, .int .i64 e.bn]) := rfl
  go_enter Tryd.func48, Tryd.ntmps48
  go_wp2_with fail
  refine implOk_any _ ss _ (HH.out.keep (hb0 _ _)) hl HL.out fun w2 hb2 => ?_
  have HB2 : Hid (Below w.heap.size w w2) := (hb0 _ _).trans (hb2.mono (by simp; omega))
  have q2 : w2.cell? ⟨w.heap.size, 0, none⟩ = some (.slice ao ss.length cap) := cell_keep hb2 (by simp [go_sem])
  have x0 : w2.cell? ⟨w.heap.size + 1, 0, none⟩ = some (.int .i64 e.op) := cell_keep hb2 (by simp [go_sem])
  have x1 : w2.cell? ⟨w.heap.size + 1, 1, none⟩ = some (.int .i64 e.av) := cell_keep hb2 (by simp [go_sem])
  have x2 : w2.cell? ⟨w.heap.size + 1, 2, none⟩ = some (.int .i64 e.an) := cell_keep hb2 (by simp [go_sem])
  have x3 : w2.cell? ⟨w.heap.size + 1, 3, none⟩ = some (.int .i64 e.bv) := cell_keep hb2 (by simp [go_sem])
  have x4 : w2.cell? ⟨w.heap.size + 1, 4, none⟩ = some (.int .i64 e.bn) := cell_keep hb2 (by simp [go_sem])
  clear hb2 hb0
  cases hok : okB ss
  · have HR : Hid (SafeOr P ss e []) := Or.inr ⟨by simp [hok], rfl⟩
    clear hok
    go_wp2
    exact HQ.out _ [] _ HB2.out HR.out (World.ownsRow_nil _ _ _ _)
  have HOK : Hid (okB ss = true) := hok
  have hn2 : ss.length ≤ 60 := (ok_len hok).2
  clear hok
  go_wp2_with fail
  rw [← HXV.out]
  refine implExprOk_any e _ fun w3 hb3 => ?_
  rw [HXV.out]
  have q3 := cell_keep hb3 q2
  have y0 := cell_keep hb3 x0
  have y1 := cell_keep hb3 x1
  have y2 := cell_keep hb3 x2
  have y3 := cell_keep hb3 x3
  have y4 := cell_keep hb3 x4
  have HB3 : Hid (Below w.heap.size w w3) := HB2.out.trans (hb3.mono HB2.out.size)
  clear hb3 q2 x0 x1 x2 x3 x4 HB2
  cases hex : exprB e
  · have HR : Hid (SafeOr P ss e []) := Or.inr ⟨by simp [hex], rfl⟩
    clear hex
    go_wp2
    exact HQ.out _ [] _ HB3.out HR.out (World.ownsRow_nil _ _ _ _)
  have HEX : Hid (exprB e = true) := hex
  clear hex
  go_wp2_with fail
  refine viewOf_any ao cap ss e _ (HH.out.keep HB3.out) HOK.out HEX.out fun V ord rs og oc pv bc bk w4 hb4 hv4 => ?_
  have HV4 : Hid _ := hv4
  have HB4 : Hid (Below w.heap.size w w4) := HB3.out.trans (hb4.mono HB3.out.size)
  clear hb4 hv4 q3 y0 y1 y2 y3 y4
  go_wp2_with fail
  refine HT.out HOK.out HEX.out w4 V ord rs ao cap og oc pv bc bk HV4.out fun f B w5 hb5 hB hP hr => ?_
  have HB5 : Hid (Below w.heap.size w w5) := HB4.out.trans (hb5.mono HB4.out.size)
  have HS : Hid (SafeOr P ss e ((List.range ss.length).map f)) := Or.inl ⟨HOK.out, HEX.out, rs, f, HV4.out.re, hP, rfl⟩
  have HOWN : Hid (w5.ownsRow w.heap.size 4 1 (.slice (some ⟨B, 0, none⟩) ss.length ss.length) ((List.range ss.length).map f).length (((List.range ss.length).map f).map Value.bool)) := by
    have h1 := rowIs_own hr (Nat.le_trans HB4.out.size hB) (by omega)
    rw [Hid, List.length_map, List.length_range, List.map_map]
    exact h1
  clear hb5 hB hP hr
  go_wp2
  exact HQ.out _ _ _ HB5.out HS.out HOWN.out

set_option maxRecDepth 100000 in
theorem implSafeDown_any {Q : Ending → World → Prop} (v : Value) (ss : List St) (e : E5) (w : World) (h : StepsAt w v ss) (hl : ss.length ≤ 1048576) (hls : ∀ s ∈ ss, s.next.length ≤ 1048576)
    (hQ : ∀ v' bs w', Below w.heap.size w w' → SafeOr IsDown ss e bs → w'.ownsRow w.heap.size 4 1 v' bs.length (bs.map Value.bool) → Q (.returned v') w') :
    Calls Tryd.prog 11 #[.agg #[v], .agg #[.int .i64 e.op, .int .i64 e.av, .int .i64 e.an, .int .i64 e.bv, .int .i64 e.bn]] w Q := by
  have HQ : Hid _ := hQ
  clear hQ
  have HH : Hid (StepsAt w v ss) := h
  have HL : Hid (∀ s ∈ ss, s.next.length ≤ 1048576) := hls
  obtain ⟨ao, b, o, cap, rfl, ha, hc⟩ := id h
  clear ha hc h hls
  have hb0 : ∀ O O', Below w.heap.size w ((w.alloc O).alloc O') := fun O O' => ((Below.refl _ _).alloc (Nat.le_refl _) O).alloc (by simp) O'
  have HB0 : Hid _ := hb0
  clear hb0
  go_enter Tryd.func11, Tryd.ntmps11
  go_wp2_with fail
  refine seen_any IsDown 49 (enters_of Tryd.func49 (by kernel_rfl) rfl) _ ss e _ (HH.out.keep (HB0.out _ _)) hl HL.out (fun hok _ => down_tells hok) fun v' bs w' hb hs hown => ?_
  have HB : Hid (Below w.heap.size w w') := (HB0.out _ _).trans (hb.mono (by simp; omega))
  have HS : Hid _ := hs
  have HO : Hid (w'.ownsRow w.heap.size 4 1 v' bs.length (bs.map Value.bool)) := own_lower hown (by simp; omega)
  clear hb hs hown
  go_wp2
  exact HQ.out _ _ _ HB.out HS.out HO.out
end Go.Proofs.YtajgioeifhgfhaaDoor
namespace Go.Proofs.YtajgioeifhgfhaaDoor
open Go.RowKit

/-- A row of the call's own, from block lo on, that holds these places. -/
def IntF (lo : Nat) (w : World) (g cap n : Nat) (f : Nat → Nat) : Prop := w.ownsRow lo 3 1 (.slice (some ⟨g, 0, none⟩) n cap) n ((List.range n).map (fun j => intV (f j)))

theorem IntF.cell {lo g cap n : Nat} {w : World} {f : Nat → Nat} (h : IntF lo w g cap n f) {j : Nat} (hj : j < n) : w.cell? ⟨g, j, none⟩ = some (.int .i64 (f j : Int)) := by
  rw [World.ownsRow.cellAt h j (by omega)]
  simp [hj, intV]

theorem IntF.frozen {lo g cap n : Nat} {w : World} {f : Nat → Nat} (h : IntF lo w g cap n f) (j : Nat) : w.frozen? ⟨g, j, none⟩ = false := World.ownsRow.frozenAt h j

theorem IntF.lt {lo g cap n : Nat} {w : World} {f : Nat → Nat} (h : IntF lo w g cap n f) : lo ≤ g ∧ g < w.heap.size := World.ownsRow.lt h g rfl

theorem IntF.congr {lo g cap n : Nat} {w : World} {f f' : Nat → Nat} (h : IntF lo w g cap n f) (e : ∀ j, j < n → f' j = f j) : IntF lo w g cap n f' := by
  have : (List.range n).map (fun j => intV (f' j)) = (List.range n).map (fun j => intV (f j)) := List.map_congr_left fun j hj => by rw [e j (by simpa using hj)]
  unfold IntF at *
  rw [this]
  exact h

theorem IntF.set {lo g cap n : Nat} {w : World} {f : Nat → Nat} (h : IntF lo w g cap n f) (x y : Nat) : IntF lo (w.setCell ⟨g, x, none⟩ (.int .i64 (y : Int))) g cap n (fun j => if j = x then y else f j) := by
  have h1 := (World.ownsRow.stored h x (.int .i64 (y : Int))).1
  unfold IntF
  have e : (List.range n).map (fun j => intV (if j = x then y else f j)) = ((List.range n).map (fun j => intV (f j))).set x (.int .i64 (y : Int)) := by
    apply List.ext_getElem?
    intro j
    rw [List.getElem?_set, List.getElem?_map, List.getElem?_map]
    by_cases hj : j < n
    · by_cases e : x = j
      · subst e
        simp [hj, intV]
      · have : ¬ j = x := fun h => e h.symm
        simp [hj, e, this]
    · have e1 : (List.range n)[j]? = none := List.getElem?_eq_none (by simp; omega)
      rw [e1]
      by_cases e : x = j
      · subst e; simp [hj]
      · simp [e]
  rw [e]
  exact h1

theorem infoIntC : (Tryd.prog.info? 3).map (fun i => (i.zero, i.size, i.bytes)) = some (some (.int .i64 0), 1, 8) := by kernel_rfl
theorem info_partsC {t : TypeId} {z : Value} {n k : Nat} (h : (Tryd.prog.info? t).map (fun i => (i.zero, i.size, i.bytes)) = some (some z, n, k)) : ∃ i, Tryd.prog.info? t = some i ∧ i.zero = some z ∧ i.size = n ∧ i.bytes = k := by
  simp only [Option.map_eq_some_iff, Prod.mk.injEq] at h
  obtain ⟨i, h1, h2, h3, h4⟩ := h
  exact ⟨i, h1, h2, h3, h4⟩

/-- Behind i swaps. -/
def revK (n i : Nat) (f : Nat → Nat) : Nat → Nat := fun k => if k < i ∨ n - 1 - i < k then f (n - 1 - k) else f k

end Go.Proofs.YtajgioeifhgfhaaDoor
namespace Go.Proofs.YtajgioeifhgfhaaDoor
open Go.RowKit

theorem order_facts {w : World} {V : Nat} {ss : List St} {e : E5} {ord : List Nat} {rs : List Bool} {A : Option Addr} {c og oc : Nat} {pv : Value} {bc bk : BitVec 64} (h : VS w V ss e ord rs A c og oc pv bc bk) (hok : okB ss = true) :
    ord.length ≤ 60 ∧ 0 < ord.length ∧ ∀ i, i ∈ ord ↔ i < ss.length ∧ rF rs i = true := by
  have hn := (ok_len hok).2
  refine ⟨Nat.le_trans (nodup_len h.io.nodup fun i hi => ((h.io.mem i).1 hi).1) hn, ?_, fun i => ?_⟩
  · obtain ⟨r, hr⟩ := h.io.last
    rw [hr]
    simp
  · rw [h.io.mem i]
    constructor
    · rintro ⟨h1, h2⟩
      refine ⟨h1, ?_⟩
      have := (h.re.2 i h1).2 h2
      unfold rF
      rw [List.getD_eq_getElem?_getD, this]
      rfl
    · rintro ⟨h1, h2⟩
      refine ⟨h1, (h.re.2 i h1).1 ?_⟩
      unfold rF at h2
      rw [List.getD_eq_getElem?_getD] at h2
      have hl : i < rs.length := by rw [h.re.1]; exact h1
      rw [List.getElem?_eq_getElem hl] at h2 ⊢
      simpa using h2

end Go.Proofs.YtajgioeifhgfhaaDoor
namespace Go.Proofs.YtajgioeifhgfhaaDoor
open Go.RowKit

/-- What a function value answers of each place. -/
def Isso (n : Nat) (g : Nat) (lb : Array Value) (w : World) (f : Nat → Bool) : Prop :=
  ∀ W x, Below w.heap.size w W → x < n → ∀ {Q' : Ending → World → Prop}, (∀ W', Below W.heap.size W W' → Q' (.returned (.bool (f x))) W') → Calls Tryd.prog g (#[.int .i64 (x : Int)] ++ lb) W Q'

theorem kp_set {w : World} {p a : Addr} {v u : Value} (h : w.cell? p = some v) (hne : p.block ≠ a.block) : (w.setCell a u).cell? p = some v := by
  rw [cell_setOther _ _ _ _ hne]
  exact h
theorem kp_new {w : World} {a : Addr} {v u : Value} (h : w.cell? a = some v) : (w.setCell a u).cell? a = some u := by
  simp [go_sem, h]
theorem kp_alloc {w : World} {p : Addr} {v : Value} {O : Obj} (h : w.cell? p = some v) : (w.alloc O).cell? p = some v := cell_keep ((Below.refl _ _).alloc (Nat.le_refl _) O) h
theorem kp_drew {w : World} {p : Addr} {v : Value} (h : w.cell? p = some v) : w.drew.cell? p = some v := h

/-- A box for a slice, nothing in it yet. -/
structure BoxN (w : World) (a : Nat) : Prop where
  c : w.cell? ⟨a, 0, none⟩ = some (.slice none 0 0)
  f : w.frozen? ⟨a, 0, none⟩ = false
theorem BoxN.new (w : World) (t : TypeId) : BoxN (w.alloc (.cells #[.slice none 0 0] t)) w.heap.size := ⟨by simp [go_sem], by simp [go_sem]⟩
theorem BoxN.new1 (w : World) (O : Obj) (t : TypeId) : BoxN ((w.alloc O).alloc (.cells #[.slice none 0 0] t)) (w.heap.size + 1) := by
  have h := BoxN.new (w.alloc O) t
  rwa [World.size_alloc] at h
theorem BoxN.keep {w w' : World} {a : Nat} (h : BoxN w a) (hb : Below w.heap.size w w') : BoxN w' a := ⟨cell_keep hb h.c, (hb.frozen (cell_lt h.c)).trans h.f⟩
theorem BoxN.alloc {w : World} {a : Nat} {O : Obj} (h : BoxN w a) : BoxN (w.alloc O) a := h.keep ((Below.refl _ _).alloc (Nat.le_refl _) O)
theorem BoxN.drew {w : World} {a : Nat} (h : BoxN w a) : BoxN w.drew a := ⟨h.c, h.f⟩

theorem Below.step {B : Nat} {w Y z : World} (hb : Below Y.heap.size Y z) (hB : B ≤ Y.heap.size) (h : Below B w Y) : Below B w z := h.trans (hb.mono hB)

end Go.Proofs.YtajgioeifhgfhaaDoor
namespace Go.Proofs.YtajgioeifhgfhaaDoor
open Go.RowKit

theorem SafeOr.uniqueK {P : List St → E5 → List Bool → (Nat → Bool) → Prop} (hu : ∀ ss, okB ss = true → ∀ e rs f f', P ss e rs f → P ss e rs f' → ∀ i, i < ss.length → f i = f' i) {ss : List St} {e : E5} {a b : List Bool} (ha : SafeOr P ss e a) (hb : SafeOr P ss e b) : a = b := by
  rcases ha with ⟨h1, h2, rs, f, h3, h4, rfl⟩ | ⟨h1, rfl⟩
  · rcases hb with ⟨_, _, rs', f', k3, k4, rfl⟩ | ⟨k1, rfl⟩
    · obtain rfl := h3.unique k3
      exact List.map_congr_left fun i hi => hu ss h1 e rs f f' h4 k4 i (by simpa using hi)
    · exact absurd ⟨h1, h2⟩ k1
  · rcases hb with ⟨k1, k2, _⟩ | ⟨_, rfl⟩
    · exact absurd ⟨k1, k2⟩ h1
    · rfl
end Go.Proofs.YtajgioeifhgfhaaDoor
