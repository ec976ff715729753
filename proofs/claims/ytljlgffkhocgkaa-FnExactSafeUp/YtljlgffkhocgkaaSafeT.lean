/- A reckoning's view of a program: what viewOf lays; who stands behind a step, and ahead of it. Who stands behind a step, and ahead of it, as the program's view tells. The program's all, over whatever function value. The program's SafeDown: what is asked of a step, by closures; the solver over those behind; the view's down. slices.Clone and slices.Reverse of a row of places. The program's SafeUp: the solver over those ahead; what is asked of a step, by closures. The program's SafeEarly: what is asked of each step by itself. The program's SafeDelay, SafeLate and SafeAlone. -/
import Derived.Test.YtljlgffkhocgkaaImplEC
import Derived.Test.YtljlgffkhocgkaaImplEKA
import Derived.Test.YtljlgffkhocgkaaPredsOf
import Derived.Test.YtljlgffkhocgkaaSafeP
import Derived.Test.YtljlgffkhocgkaaReachI
import Derived.Test.YtljlgffkhocgkaaSafeF
import Derived.Test.YtljlgffkhocgkaaSolveT
import Derived.Test.YtljlgffkhocgkaaChecked
import Derived.Test.YtljlgffkhocgkaaKit
import Derived.Deep.RegionHeld3
import Derived.Shelf.Abstract
import Derived.Deep.AppendLies
import Derived.Deep.RegionLaw
import Derived.Lib.LazyBuf
import Derived.Deep.CutRange
namespace Go.Proofs.Ytljlgffkhocgkaa
open Go.RowKit Go.Maps

/-- What lies behind a view's pointer. -/
structure VS (w : World) (V : Nat) (ss : List St) (e : E5) (ord : List Nat) (rs : List Bool) (A : Option Addr) (c og oc : Nat) (pv : Value) (bc bk : BitVec 64) : Prop where
  c0 : w.cell? ⟨V, 0, none⟩ = some (.slice A ss.length c)
  st : StepsAt w (.slice A ss.length c) ss
  c1 : w.cell? ⟨V, 1, none⟩ = some (.slice (some ⟨og, 0, none⟩) ord.length oc)
  od : ∀ i, i < ord.length → w.cell? ⟨og, i, none⟩ = some (intV (ord.getD i 0))
  io : IsOrder ss ord
  c2 : w.cell? ⟨V, 2, none⟩ = some pv
  pr : ∃ lo hi, RowsI lo hi w pv (predsL ss rs)
  re : IsReach ss rs
  c3 : w.cell? ⟨V, 3, none⟩ = some (bsV bc)
  cw : CompW ss e bc
  c4 : w.cell? ⟨V, 4, none⟩ = some (bsV bk)
  kw : ∀ j (hj : j < ss.length), bk.getLsbD j = keepB e ss[j]

theorem VS.keep {w w' : World} {V : Nat} {ss : List St} {e : E5} {ord : List Nat} {rs : List Bool} {A : Option Addr} {c og oc : Nat} {pv : Value} {bc bk : BitVec 64} (h : VS w V ss e ord rs A c og oc pv bc bk) (hb : Below w.heap.size w w') : VS w' V ss e ord rs A c og oc pv bc bk :=
  ⟨cell_keep hb h.c0, h.st.keep hb, cell_keep hb h.c1, fun i hi => cell_keep hb (h.od i hi), h.io, cell_keep hb h.c2, by obtain ⟨lo, hi, hr⟩ := h.pr; exact ⟨lo, hi, hr.keep hb⟩, h.re, cell_keep hb h.c3, h.cw, cell_keep hb h.c4, h.kw⟩

theorem keep_v {Q : Ending → World → Prop} (f : Nat → BitVec 64) (e : E5) (n : Nat) (w : World) (hn : n ≤ 60)
    (hQ : ∀ w', Below w.heap.size w w' → Q (.returned (.int .u64 ((kpB f e n).toNat : Int))) w') :
    Calls Try.prog 66 #[chV f, .agg #[.int .i64 e.op, .int .i64 e.av, .int .i64 e.an, .int .i64 e.bv, .int .i64 e.bn], .int .i64 (n : Int)] w Q := keep_any f e n w hn hQ

/-- What lies in the ways of a program. -/
structure WS (w : World) (ss : List St) (ord : List Nat) (rs : List Bool) (og : Nat) (pv : Value) : Prop where
  od : ∀ i, i < ord.length → w.cell? ⟨og, i, none⟩ = some (intV (ord.getD i 0))
  io : IsOrder ss ord
  pr : ∃ lo hi, RowsI lo hi w pv (predsL ss rs)
  re : IsReach ss rs

theorem WS.keep {w w' : World} {ss : List St} {ord : List Nat} {rs : List Bool} {og : Nat} {pv : Value} (h : WS w ss ord rs og pv) (hb : Below w.heap.size w w') : WS w' ss ord rs og pv :=
  ⟨fun i hi => cell_keep hb (h.od i hi), h.io, by obtain ⟨lo, hi, hr⟩ := h.pr; exact ⟨lo, hi, hr.keep hb⟩, h.re⟩

set_option maxRecDepth 100000 in
set_option maxHeartbeats 2000000 in
theorem waysOf_any {Q : Ending → World → Prop} (A : Option Addr) (c : Nat) (ss : List St) (w : World) (h : StepsAt w (.slice A ss.length c) ss) (hok : okB ss = true)
    (hQ : ∀ ord rs og oc Ap cp w', Below w.heap.size w w' → WS w' ss ord rs og (.slice Ap (predsL ss rs).length cp) → Q (.returned (.agg #[.slice A ss.length c, .slice (some ⟨og, 0, none⟩) ord.length oc, .slice Ap (predsL ss rs).length cp])) w') :
    Calls Try.prog 62 #[.slice A ss.length c] w Q := by
  have HQ : Hid _ := hQ
  clear hQ
  have HH : Hid (StepsAt w (.slice A ss.length c) ss) := h
  have HOK : Hid (okB ss = true) := hok
  clear h hok
  go_enter Try.func62, Try.ntmps62
  go_wp2_with fail
  have hb0 : ∀ O, Below w.heap.size w (w.alloc O) := fun O => (Below.refl _ _).alloc (Nat.le_refl _) O
  refine leaveOrder_any _ ss _ (HH.out.keep (hb0 _)) HOK.out ?_
  intro v1 ord W1 hb1 hio hown1
  have HB1 : Hid (Below w.heap.size w W1) := (hb0 _).trans (hb1.mono (by simp))
  have a0 : W1.cell? ⟨w.heap.size, 0, none⟩ = some (.slice none 0 0) := cell_keep hb1 (by simp [go_sem])
  have a1 : W1.cell? ⟨w.heap.size, 1, none⟩ = some (.slice none 0 0) := cell_keep hb1 (by simp [go_sem])
  have a2 : W1.cell? ⟨w.heap.size, 2, none⟩ = some (.slice none 0 0) := cell_keep hb1 (by simp [go_sem])
  have af : ∀ j, W1.frozen? ⟨w.heap.size, j, none⟩ = false := fun j => (hb1.frozen (by simp)).trans (by simp [go_sem])
  have hol : 0 < ord.length := by
    obtain ⟨r, hr⟩ := hio.last
    rw [hr]
    simp
  obtain ⟨g1, cc1, rfl, hg1, _⟩ := hown1.form hol
  rw [World.size_alloc] at hg1
  have HOD1 : Hid (∀ i, i < ord.length → W1.cell? ⟨g1, i, none⟩ = some (intV (ord.getD i 0))) := fun i hi => by
    have h1 := hown1.cellAt i (by omega)
    rw [List.getElem?_map, List.getElem?_eq_getElem hi] at h1
    rw [h1, List.getD_eq_getElem?_getD, List.getElem?_eq_getElem hi]
    rfl
  have HIO : Hid (IsOrder ss ord) := hio
  have hlt1 : w.heap.size < W1.heap.size := cell_lt a0
  clear hb0 hb1 hio hown1 hol
  go_wp2_with fail
  refine predsOf_any _ ss _ (HH.out.keep HB1.out) HOK.out ?_
  intro v2 rs W2 hb2 hre hrow2
  have HB2 : Hid (Below w.heap.size w W2) := HB1.out.trans (hb2.mono HB1.out.size)
  have b0 := cell_keep hb2 a0
  have b1 := cell_keep hb2 a1
  have b2 := cell_keep hb2 a2
  have bf : ∀ j, W2.frozen? ⟨w.heap.size, j, none⟩ = false := fun j => (hb2.frozen (p := ⟨w.heap.size, j, none⟩) hlt1).trans (af j)
  obtain ⟨A2, c2, rfl⟩ := hrow2.slice
  have HWS : Hid (∀ W', Out w.heap.size (w.heap.size + 1) W2 W' → WS W' ss ord rs g1 (.slice A2 (predsL ss rs).length c2)) := fun W' ho => ⟨fun i hi => ho.cell (cell_keep hb2 (HOD1.out i hi)) (Or.inr hg1), HIO.out, ⟨_, _, hrow2.out ho (Or.inr (by omega))⟩, hre⟩
  clear hb2 hre hrow2 a0 a1 a2 af
  go_wp2
  refine bodyPost_ret (v := .agg #[.slice A ss.length c, .slice (some ⟨g1, 0, none⟩) ord.length cc1, .slice A2 (predsL ss rs).length c2]) (by simp [results, Try.results62, go_sem, b0, b1, b2]) rfl ?_
  refine HQ.out ord rs g1 cc1 A2 c2 _ (((HB2.out.setCell (Nat.le_refl _) _).setCell (Nat.le_refl _) _).setCell (Nat.le_refl _) _) (HWS.out _ ?_)
  exact (((Out.refl _ _ _).setCell (p := ⟨w.heap.size, 0, none⟩) (Nat.le_refl _) (Nat.lt_succ_self _) _).setCell (p := ⟨w.heap.size, 1, none⟩) (Nat.le_refl _) (Nat.lt_succ_self _) _).setCell (p := ⟨w.heap.size, 2, none⟩) (Nat.le_refl _) (Nat.lt_succ_self _) _

set_option maxRecDepth 100000 in
set_option maxHeartbeats 4000000 in
theorem viewOf_any {Q : Ending → World → Prop} (A : Option Addr) (c : Nat) (ss : List St) (e : E5) (w : World) (h : StepsAt w (.slice A ss.length c) ss) (hok : okB ss = true) (hex : exprB e = true)
    (hQ : ∀ V ord rs og oc pv bc bk w', Below w.heap.size w w' → VS w' V ss e ord rs A c og oc pv bc bk → Q (.returned (.pointer (some ⟨V, 0, none⟩))) w') :
    Calls Try.prog 40 #[.slice A ss.length c, .agg #[.int .i64 e.op, .int .i64 e.av, .int .i64 e.an, .int .i64 e.bv, .int .i64 e.bn]] w Q := by
  have HQ : Hid _ := hQ
  clear hQ
  have HH : Hid (StepsAt w (.slice A ss.length c) ss) := h
  have HOK : Hid (okB ss = true) := hok
  have HEX : Hid (exprB e = true) := hex
  have HXV : Hid (exV e = .agg #[.int .i64 e.op, .int .i64 e.av, .int .i64 e.an, .int .i64 e.bv, .int .i64 e.bn]) := rfl
  have hn2 : ss.length ≤ 60 := (ok_len hok).2
  clear h hok hex
  go_enter Try.func40, Try.ntmps40
  go_wp2_with fail
  have hb0 : Below w.heap.size w (w.alloc (.cells #[.int .i64 e.op, .int .i64 e.av, .int .i64 e.an, .int .i64 e.bv, .int .i64 e.bn] 38)) := (Below.refl _ _).alloc (Nat.le_refl _) _
  have x0 : (w.alloc (.cells #[.int .i64 e.op, .int .i64 e.av, .int .i64 e.an, .int .i64 e.bv, .int .i64 e.bn] 38)).cell? ⟨w.heap.size, 0, none⟩ = some (.int .i64 e.op) := by simp [go_sem]
  have x1 : (w.alloc (.cells #[.int .i64 e.op, .int .i64 e.av, .int .i64 e.an, .int .i64 e.bv, .int .i64 e.bn] 38)).cell? ⟨w.heap.size, 1, none⟩ = some (.int .i64 e.av) := by simp [go_sem]
  have x2 : (w.alloc (.cells #[.int .i64 e.op, .int .i64 e.av, .int .i64 e.an, .int .i64 e.bv, .int .i64 e.bn] 38)).cell? ⟨w.heap.size, 2, none⟩ = some (.int .i64 e.an) := by simp [go_sem]
  have x3 : (w.alloc (.cells #[.int .i64 e.op, .int .i64 e.av, .int .i64 e.an, .int .i64 e.bv, .int .i64 e.bn] 38)).cell? ⟨w.heap.size, 3, none⟩ = some (.int .i64 e.bv) := by simp [go_sem]
  have x4 : (w.alloc (.cells #[.int .i64 e.op, .int .i64 e.av, .int .i64 e.an, .int .i64 e.bv, .int .i64 e.bn] 38)).cell? ⟨w.heap.size, 4, none⟩ = some (.int .i64 e.bn) := by simp [go_sem]
  generalize w.alloc (.cells #[.int .i64 e.op, .int .i64 e.av, .int .i64 e.an, .int .i64 e.bv, .int .i64 e.bn] 38) = W0 at *
  have HB0 : Hid (Below w.heap.size w W0) := hb0
  clear hb0
  go_region_held3 (fun wx => wx.cell? ⟨w.heap.size, 0, none⟩ = some (.int .i64 e.op) ∧ wx.cell? ⟨w.heap.size, 1, none⟩ = some (.int .i64 e.av) ∧ wx.cell? ⟨w.heap.size, 2, none⟩ = some (.int .i64 e.an) ∧ wx.cell? ⟨w.heap.size, 3, none⟩ = some (.int .i64 e.bv) ∧ wx.cell? ⟨w.heap.size, 4, none⟩ = some (.int .i64 e.bn)) (go_keep) (first
    | (go_at_call 62; refine waysOf_any A c ss _ (HH.out.keep (HB0.out.drew)) HOK.out ?_; intro ord rs g1 c1 A2 c2 W2 hb2 hws; have b0 := cell_keep hb2 x0; have b1 := cell_keep hb2 x1; have b2 := cell_keep hb2 x2; have b3 := cell_keep hb2 x3; have b4 := cell_keep hb2 x4; have HB2 : Hid (Below w.heap.size w W2) := HB0.out.drew.trans (hb2.mono HB0.out.size))
    | (go_at_call 63; refine reckonedBy_any _ ss _ (HH.out.keep HB2.out) HOK.out ?_; intro W4 es bs D lv sv hRS hb4 hs4 hes hcb; subst hes; have z0 := cell_keep hb4 b0; have z1 := cell_keep hb4 b1; have z2 := cell_keep hb4 b2; have z3 := cell_keep hb4 b3; have z4 := cell_keep hb4 b4; have HB4 : Hid (Below w.heap.size w W4) := HB2.out.trans (hb4.mono HB2.out.size))
    | (go_at_call 64; rw [← HXV.out]; refine reckonedSteps_any _ _ _ (Nat.lt_succ_self _) W4 ss bs D lv sv hRS hs4 hcb e HEX.out ?_; intro bb W5 hcw hb5; rw [HXV.out]; have u0 := cell_keep hb5 z0; have u1 := cell_keep hb5 z1; have u2 := cell_keep hb5 z2; have u3 := cell_keep hb5 z3; have u4 := cell_keep hb5 z4; have HB5 : Hid (Below w.heap.size w W5) := HB4.out.trans (hb5.mono HB4.out.size))
    | (go_at_call 65; refine changedBy_any _ ss _ (HH.out.keep HB5.out) HOK.out ?_; intro f W6 hb6 hcf; have t0 := cell_keep hb6 u0; have t1 := cell_keep hb6 u1; have t2 := cell_keep hb6 u2; have t3 := cell_keep hb6 u3; have t4 := cell_keep hb6 u4; have HB6 : Hid (Below w.heap.size w W6) := HB5.out.trans (hb6.mono HB5.out.size))
    | (go_at_call 66; refine keep_v f e ss.length _ hn2 ?_; intro W7 hb7; have s0 := cell_keep hb7 t0; have s1 := cell_keep hb7 t1; have s2 := cell_keep hb7 t2; have s3 := cell_keep hb7 t3; have s4 := cell_keep hb7 t4; have HB7 : Hid (Below w.heap.size w W7) := HB6.out.trans (hb7.mono HB6.out.size)))
  all_goals
    have hb57 := hb6.trans (hb7.mono hb6.size)
    have hb47 := hb5.trans (hb57.mono hb5.size)
    have hb27 := hb4.trans (hb47.mono hb4.size)
    have HWS : Hid (WS W7 ss ord rs g1 (.slice A2 (predsL ss rs).length c2)) := hws.keep hb27
    have HCW : Hid (CompW ss e bb) := hcw
    have HKW : Hid (∀ j (hj : j < ss.length), (kpB f e ss.length).getLsbD j = keepB e ss[j]) := fun j hj => kpB_get HOK.out HEX.out hcf hj
    have HFIN : Hid (∀ O, Below w.heap.size w (W7.alloc O)) := fun O => HB7.out.alloc HB7.out.size O
    have HK : Hid (∀ O, Below W7.heap.size W7 (W7.alloc O)) := fun O => (Below.refl _ _).alloc (Nat.le_refl _) O
    have HST : Hid (StepsAt W7 (.slice A ss.length c) ss) := HH.out.keep HB7.out
    clear hb2 hb4 hb5 hb6 hb7 hb57 hb47 hb27 hws hRS hcb hcw hcf x0 x1 x2 x3 x4 b0 b1 b2 b3 b4 z0 z1 z2 z3 z4 u0 u1 u2 u3 u4 t0 t1 t2 t3 t4 s0 s1 s2 s3 s4
    go_wp2
    refine HQ.out W7.heap.size ord rs g1 c1 (.slice A2 (predsL ss rs).length c2) bb (kpB f e ss.length) _ (HFIN.out _) ⟨by simp [go_sem], HST.out.keep (HK.out _), by simp [go_sem], (HWS.out.keep (HK.out _)).od, HWS.out.io, by simp [go_sem], (HWS.out.keep (HK.out _)).pr, HWS.out.re, by simp [go_sem, bsV], HCW.out, by simp [go_sem, bsV], HKW.out⟩
end Go.Proofs.Ytljlgffkhocgkaa
namespace Go.Proofs.Ytljlgffkhocgkaa
open Go.RowKit

set_option maxHeartbeats 1000000 in
theorem behind_any {Q : Ending → World → Prop} {w0 w : World} (hb : Below w0.heap.size w0 w) {V : Nat} {ss : List St} {e : E5} {ord : List Nat} {rs : List Bool} {A : Option Addr} {c og oc : Nat} {pv : Value} {bc bk : BitVec 64} (h : VS w0 V ss e ord rs A c og oc pv bc bk) (x : Nat) (hx : x < ss.length)
    (hQ : ∀ v, IntsAt w0 v (nextOf ss x) → Q (.returned v) w) :
    Calls Try.prog 44 #[.pointer (some ⟨V, 0, none⟩), .int .i64 (x : Int)] w Q := by
  have HQ : Hid _ := hQ
  clear hQ
  have c0 := cell_keep hb h.c0
  obtain ⟨ao, b, o, cap, hv, ha, hc⟩ := h.st
  cases hv
  obtain rfl := ha (by omega)
  obtain ⟨nv, st, hi⟩ := hc x ss[x] (List.getElem?_eq_getElem hx)
  have c7 := cell_keep hb st.c7
  have HI : Hid (IntsAt w0 nv (nextOf ss x)) := by rw [nextOf_get hx]; exact hi
  have hxi : (x : Int) < (ss.length : Int) := by omega
  obtain ⟨nao, nb, no, ncap, rfl, _, _⟩ := id hi
  clear h ha hc st hi
  go_enter Try.func44, Try.ntmps44
  go_wp2
  exact HQ.out _ HI.out

set_option maxHeartbeats 1000000 in
theorem aheadOf_any {Q : Ending → World → Prop} {w0 w : World} (hb : Below w0.heap.size w0 w) {V : Nat} {ss : List St} {e : E5} {ord : List Nat} {rs : List Bool} {A : Option Addr} {c og oc : Nat} {pv : Value} {bc bk : BitVec 64} (h : VS w0 V ss e ord rs A c og oc pv bc bk) (x : Nat) (hx : x < ss.length)
    (hQ : ∀ v, IntsAt w0 v (pF ss rs x) → Q (.returned v) w) :
    Calls Try.prog 52 #[.pointer (some ⟨V, 0, none⟩), .int .i64 (x : Int)] w Q := by
  have HQ : Hid _ := hQ
  clear hQ
  have c2 := cell_keep hb h.c2
  obtain ⟨lo, hi, hr⟩ := h.pr
  obtain ⟨ao, g, cap, rfl, hrow⟩ := hr.read
  have hl : (predsL ss rs).length = ss.length := by simp [predsL]
  obtain ⟨y, A', c', rfl, hy, rfl, hIO⟩ := hrow x (predsK ss rs x ss.length) (by simp [predsL, hx])
  have HI : Hid (IntsAt w0 (.slice A' (predsK ss rs x ss.length).length c') (pF ss rs x)) := hIO.at
  rw [hl] at c2
  have hy2 := cell_keep hb hy
  have hxi : (x : Int) < (ss.length : Int) := by omega
  clear h hr hrow hIO hl hy
  generalize (predsK ss rs x ss.length).length = L at *
  go_enter Try.func52, Try.ntmps52
  go_wp2
  exact HQ.out _ HI.out

/-- The method values: who is ahead, who is behind. -/
theorem ahead_hangs {w : World} {V : Nat} {ss : List St} {e : E5} {ord : List Nat} {rs : List Bool} {A : Option Addr} {c og oc : Nat} {pv : Value} {bc bk : BitVec 64} (h : VS w V ss e ord rs A c og oc pv bc bk) : Hangs ss.length (rF rs) 52 #[.pointer (some ⟨V, 0, none⟩)] w (pF ss rs) := by
  intro W x hb hx _ Q' hQ
  exact aheadOf_any hb h x hx fun v hv => hQ v W (Below.refl _ _) hv

theorem behind_hangs {w : World} {V : Nat} {ss : List St} {e : E5} {ord : List Nat} {rs : List Bool} {A : Option Addr} {c og oc : Nat} {pv : Value} {bc bk : BitVec 64} (h : VS w V ss e ord rs A c og oc pv bc bk) : Hangs ss.length (rF rs) 44 #[.pointer (some ⟨V, 0, none⟩)] w (nextOf ss) := by
  intro W x hb hx _ Q' hQ
  exact behind_any hb h x hx fun v hv => hQ v W (Below.refl _ _) hv

/-- A set of steps in the view. -/
theorem has_c {Q : Ending → World → Prop} {ss : List St} {e : E5} {bc : BitVec 64} (h : CompW ss e bc) (hok : okB ss = true) (x : Nat) (hx : x < ss.length) (w : World) (hQ : Q (.returned (.bool (cF e ss x))) w) :
    Calls Try.prog 43 #[bsV bc, .int .i64 (x : Int)] w Q := by
  have := (ok_len hok).2
  refine has_any bc x w (by omega) ?_
  rw [h.get hx (by omega), ← cF_get hx]
  exact hQ

theorem has_k {Q : Ending → World → Prop} {ss : List St} {e : E5} {bk : BitVec 64} (h : ∀ j (hj : j < ss.length), bk.getLsbD j = keepB e ss[j]) (hok : okB ss = true) (x : Nat) (hx : x < ss.length) (w : World) (hQ : Q (.returned (.bool (kF e ss x))) w) :
    Calls Try.prog 43 #[bsV bk, .int .i64 (x : Int)] w Q := by
  have := (ok_len hok).2
  refine has_any bk x w (by omega) ?_
  rw [h x hx, ← kF_get hx]
  exact hQ
end Go.Proofs.Ytljlgffkhocgkaa
namespace Go.Proofs.Ytljlgffkhocgkaa
open Go.RowKit

set_option maxRecDepth 100000 in
set_option maxHeartbeats 2000000 in
theorem all_any {Q : Ending → World → Prop} (g : Nat) (lb : Array Value) (eg : ∀ args w, (callFunc g args).run Try.prog w = .ok (.enter g args) w) (v : Value) (zs : List Int) (f : Nat → Bool) (w : World) (h : IntsAt w v zs) (hz : ∀ x ∈ zs, 0 ≤ x) (hl : zs.length ≤ 1000)
    (hp : ∀ W x, Below w.heap.size w W → x ∈ zs → ∀ {Q' : Ending → World → Prop}, (∀ W', Below W.heap.size W W' → Q' (.returned (.bool (f x.toNat))) W') → Calls Try.prog g (#[.int .i64 x] ++ lb) W Q')
    (hQ : ∀ W', Below w.heap.size w W' → Q (.returned (.bool (allI zs f))) W') :
    Calls Try.prog 45 #[v, .func (.func g) #[] lb] w Q := by
  have HQ : Hid _ := hQ
  have HP : Hid _ := @hp
  clear hQ hp
  obtain ⟨ao, b, o, cap, rfl, ha, hc⟩ := id h
  have HA : Hid (0 < zs.length → ao = some ⟨b, o, none⟩) := ha
  have HC : Hid _ := hc
  clear h ha hc
  go_enter Try.func45, Try.ntmps45
  go_wp2_with fail
  go_loopw [6, 9] (fun _ i wr => ∃ k : Nat, k ≤ zs.length ∧ i = .int .i64 k ∧ Below w.heap.size w wr ∧ ∀ j, j < k → f (zs.getD j 0).toNat = true) (fun _ i _ => zs.length - (intOf i).toNat)
  case atStart => exact ⟨0, Nat.zero_le _, rfl, Below.refl _ _, fun j hj => by omega⟩
  case round =>
    obtain ⟨k, hk, rfl, hbw, hf⟩ := hrel
    have HF : Hid (∀ j, j < k → f (zs.getD j 0).toNat = true) := hf
    have HB : Hid (Below w.heap.size w wr) := hbw
    by_cases hkn : k < zs.length
    · have hki : (k : Int) < (zs.length : Int) := by omega
      obtain rfl := HA.out (by omega)
      have c := cell_keep hbw (HC.out k hkn)
      have HM : Hid (zs.getD k 0 ∈ zs) := by
        rw [Hid, List.getD_eq_getElem?_getD, List.getElem?_eq_getElem hkn]
        exact List.getElem_mem hkn
      have HALL : Hid (f (zs.getD k 0).toNat = false → allI zs f = false) := fun h0 => by
        unfold allI
        rw [List.all_eq_false]
        exact ⟨_, HM.out, by simpa using h0⟩
      have HX : Hid (0 ≤ zs.getD k 0) := hz _ HM.out
      have HS : Hid (f (zs.getD k 0).toNat = true → ∀ j, j < k + 1 → f (zs.getD j 0).toNat = true) := fun h0 j hj => by
        by_cases e : j = k
        · subst e; exact h0
        · exact HF.out j (by omega)
      clear hbw hf
      generalize zs.getD k 0 = x at *
      go_wp2_with fail
      refine HP.out _ x HB.out HM.out fun w1 hb1 => ?_
      have HB1 : Hid (Below w.heap.size w w1) := HB.out.trans (hb1.mono HB.out.size)
      clear hb1
      cases hv : f x.toNat
      · have HR : Hid _ := HALL.out hv
        clear hv HS HALL
        go_wp2
        rw [HR.out] at HQ
        exact HQ.out _ HB1.out
      · have HR : Hid _ := HS.out hv
        clear hv HS HALL
        go_wp2
        go_roundw
        case rel => exact ⟨k + 1, by omega, by go_num, HB1.out, HR.out⟩
        case measure => simp [intOf]; omega
    · have hki : ¬ (k : Int) < (zs.length : Int) := by omega
      have HALL : Hid (allI zs f = true) := by
        unfold allI
        rw [Hid, List.all_eq_true]
        intro x hx
        obtain ⟨j, hj, e⟩ := List.getElem_of_mem hx
        have := HF.out j (by omega)
        rw [List.getD_eq_getElem?_getD, List.getElem?_eq_getElem hj] at this
        rw [← e]
        exact this
      rw [HALL.out] at HQ
      clear hbw hf
      go_wp2
      exact HQ.out _ HB.out
end Go.Proofs.Ytljlgffkhocgkaa
namespace Go.Proofs.Ytljlgffkhocgkaa
open Go.RowKit

theorem Asks.later {n : Nat} {r : Nat → Bool} {g : Nat} {lb : Array Value} {w W : World} {F : (Nat → Bool) → Nat → Bool} (h : Asks n r g lb w F) (hb : Below w.heap.size w W) : Asks n r g lb W F :=
  fun W' x B so hb' hB hx hr hrow _ hQ => h W' x B so (hb.trans (hb'.mono hb.size)) (Nat.le_trans hb.size hB) hx hr hrow hQ

set_option maxHeartbeats 1000000 in
theorem downSo_any {Q : Ending → World → Prop} (SB B n : Nat) (so : Nat → Bool) (x : Int) (W : World) (h0 : 0 ≤ x) (h1 : x < (n : Int)) (hs : W.cell? ⟨SB, 0, none⟩ = some (.slice (some ⟨B, 0, none⟩) n n)) (hr : W.rowIs B 4 n (fun j => .bool (so j)))
    (hQ : Q (.returned (.bool (so x.toNat))) W) :
    Calls Try.prog 46 #[.int .i64 x, .pointer (some ⟨SB, 0, none⟩)] W Q := by
  have HQ : Hid _ := hQ
  clear hQ
  obtain ⟨m, rfl⟩ := Int.eq_ofNat_of_zero_le h0
  have hm : m < n := by omega
  have hc := hr.cell (i := m) hm
  rw [show ((m : Int)).toNat = m from rfl] at HQ
  clear hr h0
  generalize so m = z at *
  go_enter Try.func46, Try.ntmps46
  go_wp2
  exact HQ.out

set_option maxRecDepth 100000 in
set_option maxHeartbeats 2000000 in
theorem down_asks {w : World} {V : Nat} {ss : List St} {e : E5} {ord : List Nat} {rs : List Bool} {A : Option Addr} {c og oc : Nat} {pv : Value} {bc bk : BitVec 64} (h : VS w V ss e ord rs A c og oc pv bc bk) (hok : okB ss = true) (VB : Nat) (hVB : w.cell? ⟨VB, 0, none⟩ = some (.pointer (some ⟨V, 0, none⟩))) :
    Asks ss.length (rF rs) 42 #[.pointer (some ⟨VB, 0, none⟩)] w (downF (cF e ss) (kF e ss) (nextOf ss)) := by
  intro W x B so hb hB hx hr hrow Q hQ
  show Calls Try.prog _ #[.int .i64 (x : Int), .slice (some ⟨B, 0, none⟩) ss.length ss.length, .pointer (some ⟨VB, 0, none⟩)] W Q
  have HQ : Hid _ := hQ
  have HV : Hid (VS w V ss e ord rs A c og oc pv bc bk) := h
  have HOK : Hid (okB ss = true) := hok
  have HB : Hid (Below w.heap.size w W) := hb
  have HR : Hid (W.rowIs B 4 ss.length (fun j => .bool (so j))) := hrow
  have hv := h.keep hb
  have c3 := hv.c3
  have c4 := hv.c4
  have cv := cell_keep hb hVB
  have hVl := cell_lt c3
  have hVBl := cell_lt cv
  simp only at hVl hVBl
  clear hQ h hok hb hrow hv hVB
  have HA : Hid (∀ O, Below W.heap.size W (W.alloc O)) := fun O => (Below.refl _ _).alloc (Nat.le_refl _) O
  go_enter Try.func42, Try.ntmps42
  go_wp2_with fail
  refine has_c HV.out.cw HOK.out x hx _ ?_
  cases hc : cF e ss x
  · go_wp2_with fail
    refine behind_any (w0 := w) (HB.out.trans ((HA.out _).mono HB.out.size)) HV.out x hx fun nv hnv => ?_
    obtain ⟨nao, nb, no, ncap, rfl, hna, hnc⟩ := id hnv
    have HN : Hid (IntsAt w (.slice nao (nextOf ss x).length ncap) (nextOf ss x)) := hnv
    clear hna hnc hnv
    have HLW : Hid (Low ss.length (nextOf ss)) := low_next HOK.out
    have hnl : (nextOf ss x).length ≤ 2 := next_len HOK.out hx
    go_wp2_with fail
    refine has_k HV.out.kw HOK.out x hx _ ?_
    cases hk : kF e ss x
    · have HF : Hid (downF (cF e ss) (kF e ss) (nextOf ss) so x = false) := by simp [Hid, downF, hc, hk]
      rw [HF.out] at HQ
      go_wp2
      exact HQ.out _ (HA.out _)
    · by_cases hl : (nextOf ss x).length = 0
      · have HF : Hid (downF (cF e ss) (kF e ss) (nextOf ss) so x = false) := by simp [Hid, downF, hc, hk, hl]
        have hli : ¬ (0 : Int) < ((nextOf ss x).length : Int) := by omega
        rw [HF.out] at HQ
        go_wp2
        exact HQ.out _ (HA.out _)
      · have HF : Hid (downF (cF e ss) (kF e ss) (nextOf ss) so x = allI (nextOf ss x) so) := by
          have : 0 < (nextOf ss x).length := by omega
          simp [Hid, downF, hc, hk, this]
        have hli : (0 : Int) < ((nextOf ss x).length : Int) := by omega
        rw [HF.out] at HQ
        clear hc hk
        go_wp2_with fail
        refine all_any 46 #[.pointer (some ⟨W.heap.size, 0, none⟩)] (enters_of Try.func46 (by kernel_rfl) rfl) _ (nextOf ss x) so _ ((HN.out.keep HB.out).keep (HA.out _)) (fun y hy => (HLW.out x hx y hy).1) (by omega) (fun W' y hb' hy Q' hq => ?_) fun W2 hb2 => ?_
        · have hl := HLW.out x hx y hy
          refine downSo_any W.heap.size B ss.length so y W' hl.1 hl.2 (cell_keep hb' (by simp [go_sem])) (rowIs_keep (rowIs_keep HR.out (HA.out _)) hb') (hq _ (Below.refl _ _))
        · have HF2 : Hid (Below W.heap.size W W2) := (HA.out _).trans (hb2.mono (by simp))
          clear hb2
          go_wp2
          exact HQ.out _ HF2.out
  · have HF : Hid (downF (cF e ss) (kF e ss) (nextOf ss) so x = true) := by simp [Hid, downF, hc]
    rw [HF.out] at HQ
    go_wp2
    exact HQ.out _ (HA.out _)

set_option maxRecDepth 100000 in
set_option maxHeartbeats 2000000 in
theorem mostByBehind_any {Q : Ending → World → Prop} {w : World} {V : Nat} {ss : List St} {e : E5} {ord : List Nat} {rs : List Bool} {A : Option Addr} {c og oc : Nat} {pv : Value} {bc bk : BitVec 64} (h : VS w V ss e ord rs A c og oc pv bc bk) (hok : okB ss = true) (ga : Nat) (lb : Array Value) (ea : ∀ args w, (callFunc ga args).run Try.prog w = .ok (.enter ga args) w)
    (F : (Nat → Bool) → Nat → Bool) (hm : Mono ss.length F) (hoff : ∀ (x i : Nat) (g : Nat → Bool), i < ss.length → (x : Int) ∉ nextOf ss i → F (offB g x) i = F g i) (hA : Asks ss.length (rF rs) ga lb w F)
    (hQ : ∀ g B W', Below w.heap.size w W' → w.heap.size ≤ B → Gr ss.length (rF rs) F g → W'.rowIs B 4 ss.length (fun j => .bool (g j)) → Q (.returned (.slice (some ⟨B, 0, none⟩) ss.length ss.length)) W') :
    Calls Try.prog 41 #[.pointer (some ⟨V, 0, none⟩), .func (.func ga) #[] lb] w Q := by
  have HQ : Hid _ := hQ
  have HV : Hid (VS w V ss e ord rs A c og oc pv bc bk) := h
  have HOK : Hid (okB ss = true) := hok
  have HM : Hid _ := hm
  have HOF : Hid _ := hoff
  have HA : Hid (Asks ss.length (rF rs) ga lb w F) := @hA
  have HEA : Hid _ := ea
  have c0 := h.c0
  have c1 := h.c1
  have hn := (ok_len hok).2
  have HY : Hid (∀ x, x < ss.length → rF rs x = true → (pF ss rs x).length ≤ 60 ∧ ∀ y ∈ pF ss rs x, 0 ≤ y ∧ y.toNat < ss.length ∧ rF rs y.toNat = true) := fun x hx _ => ⟨Nat.le_trans (predsK_len _ _ _ _) hn, fun y hy => by
    have h1 := low_preds ss rs x hx y hy
    obtain ⟨m, rfl⟩ := Int.eq_ofNat_of_zero_le h1.1
    exact ⟨h1.1, by have := h1.2; simp; omega, (mem_preds.1 hy).2.1⟩⟩
  have hol : ord.length ≤ 60 := Nat.le_trans (nodup_len h.io.nodup fun i hi => ((h.io.mem i).1 hi).1) hn
  have HRS : Hid (∀ i, i ∈ ord ↔ i < ss.length ∧ rF rs i = true) := fun i => by
    rw [h.io.mem i]
    constructor
    · rintro ⟨h1, h2⟩
      refine ⟨h1, ?_⟩
      have := (h.re.2 i h1).2 h2
      unfold rF
      rw [List.getD_eq_getElem?_getD, this]
      rfl
    · rintro ⟨h1, h2⟩
      refine ⟨h1, (h.re.2 i h1).1 ?_⟩
      unfold rF at h2
      rw [List.getD_eq_getElem?_getD] at h2
      have hl : i < rs.length := by rw [h.re.1]; exact h1
      rw [List.getElem?_eq_getElem hl] at h2 ⊢
      simpa using h2
  clear hQ hm hoff hA ea h hok
  have hmf : ∀ (fn : Fn) (first cap : Array Value) (w : World), (Instr.makeFunc fn first cap).run Try.prog w = .ok (.func fn first cap) w := fun _ _ _ _ => rfl
  go_enter Try.func41, Try.ntmps41
  go_wp2_with fail
  go_region_held3 (fun wx => wx.cell? ⟨V, 0, none⟩ = some (.slice A ss.length c) ∧ wx.cell? ⟨V, 1, none⟩ = some (.slice (some ⟨og, 0, none⟩) ord.length oc)) (go_keep) (first
    | (go_at_call 67; refine solve_any ss.length og oc ord 52 #[.pointer (some ⟨V, 0, none⟩)] ga lb (enters_of Try.func52 (by kernel_rfl) rfl) HEA.out _ (rF rs) F (pF ss rs) hn hol (fun i hi => HV.out.od i hi) HRS.out HV.out.io.nodup HM.out (fun x i g hx hi hr hni => HOF.out x i g hi fun hm => hni (mem_preds.2 ⟨hi, hr, hm⟩)) HY.out (ahead_hangs (HV.out.keep ((Below.refl _ _).drew))) (HA.out.later ((Below.refl _ _).drew)) ?_; intro gg W' hb' hg hr'; have d0 := cell_keep hb' (show w.drew.cell? ⟨V, 0, none⟩ = _ from c0); have d1 := cell_keep hb' (show w.drew.cell? ⟨V, 1, none⟩ = _ from c1)))
  all_goals
    have HB : Hid (Below w.heap.size w W') := ((Below.refl _ _).drew).trans hb'
    have HG : Hid (Gr ss.length (rF rs) F gg) := hg
    have HR : Hid (W'.rowIs w.drew.heap.size 4 ss.length (fun j => .bool (gg j))) := hr'
    clear hb' hg hr'
    go_wp2
    exact HQ.out gg _ _ HB.out (Nat.le_refl _) HG.out HR.out

set_option maxRecDepth 100000 in
set_option maxHeartbeats 2000000 in
theorem down_any {Q : Ending → World → Prop} {w : World} {V : Nat} {ss : List St} {e : E5} {ord : List Nat} {rs : List Bool} {A : Option Addr} {c og oc : Nat} {pv : Value} {bc bk : BitVec 64} (h : VS w V ss e ord rs A c og oc pv bc bk) (hok : okB ss = true)
    (hQ : ∀ f B W', Below w.heap.size w W' → w.heap.size ≤ B → IsDown ss e rs f → W'.rowIs B 4 ss.length (fun j => .bool (f j)) → Q (.returned (.slice (some ⟨B, 0, none⟩) ss.length ss.length)) W') :
    Calls Try.prog 26 #[.pointer (some ⟨V, 0, none⟩)] w Q := by
  have HQ : Hid _ := hQ
  have HV : Hid (VS w V ss e ord rs A c og oc pv bc bk) := h
  have HOK : Hid (okB ss = true) := hok
  clear hQ h hok
  have HA : Hid (∀ O, Below w.heap.size w (w.alloc O)) := fun O => (Below.refl _ _).alloc (Nat.le_refl _) O
  have hmf : ∀ (fn : Fn) (first cap : Array Value) (w : World), (Instr.makeFunc fn first cap).run Try.prog w = .ok (.func fn first cap) w := fun _ _ _ _ => rfl
  go_enter Try.func26, Try.ntmps26
  go_wp2_with fail
  refine mostByBehind_any (HV.out.keep (HA.out _)) HOK.out 42 #[.pointer (some ⟨w.heap.size, 0, none⟩)] (enters_of Try.func42 (by kernel_rfl) rfl) _ (downF_mono (low_next HOK.out)) (fun x i g hi hx => downF_off (low_next HOK.out) hi hx) (down_asks (HV.out.keep (HA.out _)) HOK.out w.heap.size (by simp [go_sem])) fun g B W' hb' hB hg hr => ?_
  have HB : Hid (Below w.heap.size w W') := (HA.out _).trans (hb'.mono (by simp))
  have HG : Hid (IsDown ss e rs g) := hg
  have HR : Hid (W'.rowIs B 4 ss.length (fun j => .bool (g j))) := hr
  have hB2 : w.heap.size ≤ B := by simp at hB; omega
  clear hb' hg hr hB
  go_wp2
  exact HQ.out g B _ HB.out hB2 HG.out HR.out

/-- What a way of looking at a view answers. -/
def Tells (ss : List St) (e : E5) (g : Nat) (P : List Bool → (Nat → Bool) → Prop) : Prop :=
  ∀ (w : World) (V : Nat) (ord : List Nat) (rs : List Bool) (A : Option Addr) (c og oc : Nat) (pv : Value) (bc bk : BitVec 64), VS w V ss e ord rs A c og oc pv bc bk → ∀ {Q : Ending → World → Prop},
    (∀ f B W', Below w.heap.size w W' → w.heap.size ≤ B → P rs f → W'.rowIs B 4 ss.length (fun j => .bool (f j)) → Q (.returned (.slice (some ⟨B, 0, none⟩) ss.length ss.length)) W') → Calls Try.prog g #[.pointer (some ⟨V, 0, none⟩)] w Q

theorem down_tells {ss : List St} {e : E5} (hok : okB ss = true) : Tells ss e 26 (IsDown ss e) := fun _ _ _ _ _ _ _ _ _ _ _ h _ hQ => down_any h hok hQ

set_option maxRecDepth 100000 in
set_option maxHeartbeats 2000000 in
theorem seen_any {Q : Ending → World → Prop} (P : List St → E5 → List Bool → (Nat → Bool) → Prop) (g : Nat) (eg : ∀ args w, (callFunc g args).run Try.prog w = .ok (.enter g args) w) (v : Value) (ss : List St) (e : E5) (w : World) (h : StepsAt w v ss) (hl : ss.length ≤ 1048576) (hls : ∀ s ∈ ss, s.next.length ≤ 1048576)
    (ht : okB ss = true → exprB e = true → Tells ss e g (P ss e))
    (hQ : ∀ v' bs w', Below w.heap.size w w' → SafeOr P ss e bs → w'.ownsRow w.heap.size 4 1 v' bs.length (bs.map Value.bool) → Q (.returned v') w') :
    Calls Try.prog 25 #[.agg #[v], .agg #[.int .i64 e.op, .int .i64 e.av, .int .i64 e.an, .int .i64 e.bv, .int .i64 e.bn], .func (.func g) #[] #[]] w Q := by
  have HQ : Hid _ := hQ
  obtain ⟨ao, b, o, cap, rfl, ha, hc⟩ := id h
  clear ha hc
  have HH : Hid (StepsAt w (.slice ao ss.length cap) ss) := h
  have HL : Hid (∀ s ∈ ss, s.next.length ≤ 1048576) := hls
  have HT : Hid (okB ss = true → exprB e = true → Tells ss e g (P ss e)) := @ht
  clear hQ h hls ht
  have hb0 : ∀ O O', Below w.heap.size w ((w.alloc O).alloc O') := fun O O' => ((Below.refl _ _).alloc (Nat.le_refl _) O).alloc (by simp) O'
  have HXV : Hid (exV e = .agg #[.int .i64 e.op, .int .i64 e.av, .int .i64 e.an, .int .i64 e.bv, .int .i64 e.bn]) := rfl
  go_enter Try.func25, Try.ntmps25
  go_wp2_with fail
  refine implOk_any _ ss _ (HH.out.keep (hb0 _ _)) hl HL.out fun w2 hb2 => ?_
  have HB2 : Hid (Below w.heap.size w w2) := (hb0 _ _).trans (hb2.mono (by simp; omega))
  have q2 : w2.cell? ⟨w.heap.size, 0, none⟩ = some (.slice ao ss.length cap) := cell_keep hb2 (by simp [go_sem])
  have x0 : w2.cell? ⟨w.heap.size + 1, 0, none⟩ = some (.int .i64 e.op) := cell_keep hb2 (by simp [go_sem])
  have x1 : w2.cell? ⟨w.heap.size + 1, 1, none⟩ = some (.int .i64 e.av) := cell_keep hb2 (by simp [go_sem])
  have x2 : w2.cell? ⟨w.heap.size + 1, 2, none⟩ = some (.int .i64 e.an) := cell_keep hb2 (by simp [go_sem])
  have x3 : w2.cell? ⟨w.heap.size + 1, 3, none⟩ = some (.int .i64 e.bv) := cell_keep hb2 (by simp [go_sem])
  have x4 : w2.cell? ⟨w.heap.size + 1, 4, none⟩ = some (.int .i64 e.bn) := cell_keep hb2 (by simp [go_sem])
  clear hb2 hb0
  cases hok : okB ss
  · have HR : Hid (SafeOr P ss e []) := Or.inr ⟨by simp [hok], rfl⟩
    clear hok
    go_wp2
    exact HQ.out _ [] _ HB2.out HR.out (World.ownsRow_nil _ _ _ _)
  have HOK : Hid (okB ss = true) := hok
  have hn2 : ss.length ≤ 60 := (ok_len hok).2
  clear hok
  go_wp2_with fail
  rw [← HXV.out]
  refine implExprOk_any e _ fun w3 hb3 => ?_
  rw [HXV.out]
  have q3 := cell_keep hb3 q2
  have y0 := cell_keep hb3 x0
  have y1 := cell_keep hb3 x1
  have y2 := cell_keep hb3 x2
  have y3 := cell_keep hb3 x3
  have y4 := cell_keep hb3 x4
  have HB3 : Hid (Below w.heap.size w w3) := HB2.out.trans (hb3.mono HB2.out.size)
  clear hb3 q2 x0 x1 x2 x3 x4 HB2
  cases hex : exprB e
  · have HR : Hid (SafeOr P ss e []) := Or.inr ⟨by simp [hex], rfl⟩
    clear hex
    go_wp2
    exact HQ.out _ [] _ HB3.out HR.out (World.ownsRow_nil _ _ _ _)
  have HEX : Hid (exprB e = true) := hex
  clear hex
  go_wp2_with fail
  refine viewOf_any ao cap ss e _ (HH.out.keep HB3.out) HOK.out HEX.out fun V ord rs og oc pv bc bk w4 hb4 hv4 => ?_
  have HV4 : Hid _ := hv4
  have HB4 : Hid (Below w.heap.size w w4) := HB3.out.trans (hb4.mono HB3.out.size)
  clear hb4 hv4 q3 y0 y1 y2 y3 y4
  go_wp2_with fail
  refine HT.out HOK.out HEX.out w4 V ord rs ao cap og oc pv bc bk HV4.out fun f B w5 hb5 hB hP hr => ?_
  have HB5 : Hid (Below w.heap.size w w5) := HB4.out.trans (hb5.mono HB4.out.size)
  have HS : Hid (SafeOr P ss e ((List.range ss.length).map f)) := Or.inl ⟨HOK.out, HEX.out, rs, f, HV4.out.re, hP, rfl⟩
  have HOWN : Hid (w5.ownsRow w.heap.size 4 1 (.slice (some ⟨B, 0, none⟩) ss.length ss.length) ((List.range ss.length).map f).length (((List.range ss.length).map f).map Value.bool)) := by
    have h1 := rowIs_own hr (Nat.le_trans HB4.out.size hB) (by omega)
    rw [Hid, List.length_map, List.length_range, List.map_map]
    exact h1
  clear hb5 hB hP hr
  go_wp2
  exact HQ.out _ _ _ HB5.out HS.out HOWN.out

set_option maxRecDepth 100000 in
theorem implSafeDown_any {Q : Ending → World → Prop} (v : Value) (ss : List St) (e : E5) (w : World) (h : StepsAt w v ss) (hl : ss.length ≤ 1048576) (hls : ∀ s ∈ ss, s.next.length ≤ 1048576)
    (hQ : ∀ v' bs w', Below w.heap.size w w' → SafeOr IsDown ss e bs → w'.ownsRow w.heap.size 4 1 v' bs.length (bs.map Value.bool) → Q (.returned v') w') :
    Calls Try.prog 9 #[.agg #[v], .agg #[.int .i64 e.op, .int .i64 e.av, .int .i64 e.an, .int .i64 e.bv, .int .i64 e.bn]] w Q := by
  have HQ : Hid _ := hQ
  clear hQ
  have HH : Hid (StepsAt w v ss) := h
  have HL : Hid (∀ s ∈ ss, s.next.length ≤ 1048576) := hls
  obtain ⟨ao, b, o, cap, rfl, ha, hc⟩ := id h
  clear ha hc h hls
  have hb0 : ∀ O O', Below w.heap.size w ((w.alloc O).alloc O') := fun O O' => ((Below.refl _ _).alloc (Nat.le_refl _) O).alloc (by simp) O'
  have HB0 : Hid _ := hb0
  clear hb0
  go_enter Try.func9, Try.ntmps9
  go_wp2_with fail
  refine seen_any IsDown 26 (enters_of Try.func26 (by kernel_rfl) rfl) _ ss e _ (HH.out.keep (HB0.out _ _)) hl HL.out (fun hok _ => down_tells hok) fun v' bs w' hb hs hown => ?_
  have HB : Hid (Below w.heap.size w w') := (HB0.out _ _).trans (hb.mono (by simp; omega))
  have HS : Hid _ := hs
  have HO : Hid (w'.ownsRow w.heap.size 4 1 v' bs.length (bs.map Value.bool)) := own_lower hown (by simp; omega)
  clear hb hs hown
  go_wp2
  exact HQ.out _ _ _ HB.out HS.out HO.out
end Go.Proofs.Ytljlgffkhocgkaa
namespace Go.Proofs.Ytljlgffkhocgkaa
open Go.RowKit

/-- A row of the call's own, from block lo on, that holds these places. -/
def IntF (lo : Nat) (w : World) (g cap n : Nat) (f : Nat → Nat) : Prop := w.ownsRow lo 3 1 (.slice (some ⟨g, 0, none⟩) n cap) n ((List.range n).map (fun j => intV (f j)))

theorem IntF.cell {lo g cap n : Nat} {w : World} {f : Nat → Nat} (h : IntF lo w g cap n f) {j : Nat} (hj : j < n) : w.cell? ⟨g, j, none⟩ = some (.int .i64 (f j : Int)) := by
  rw [World.ownsRow.cellAt h j (by omega)]
  simp [hj, intV]

theorem IntF.frozen {lo g cap n : Nat} {w : World} {f : Nat → Nat} (h : IntF lo w g cap n f) (j : Nat) : w.frozen? ⟨g, j, none⟩ = false := World.ownsRow.frozenAt h j

theorem IntF.lt {lo g cap n : Nat} {w : World} {f : Nat → Nat} (h : IntF lo w g cap n f) : lo ≤ g ∧ g < w.heap.size := World.ownsRow.lt h g rfl

theorem IntF.congr {lo g cap n : Nat} {w : World} {f f' : Nat → Nat} (h : IntF lo w g cap n f) (e : ∀ j, j < n → f' j = f j) : IntF lo w g cap n f' := by
  have : (List.range n).map (fun j => intV (f' j)) = (List.range n).map (fun j => intV (f j)) := List.map_congr_left fun j hj => by rw [e j (by simpa using hj)]
  unfold IntF at *
  rw [this]
  exact h

theorem IntF.set {lo g cap n : Nat} {w : World} {f : Nat → Nat} (h : IntF lo w g cap n f) (x y : Nat) : IntF lo (w.setCell ⟨g, x, none⟩ (.int .i64 (y : Int))) g cap n (fun j => if j = x then y else f j) := by
  have h1 := (World.ownsRow.stored h x (.int .i64 (y : Int))).1
  unfold IntF
  have e : (List.range n).map (fun j => intV (if j = x then y else f j)) = ((List.range n).map (fun j => intV (f j))).set x (.int .i64 (y : Int)) := by
    apply List.ext_getElem?
    intro j
    rw [List.getElem?_set, List.getElem?_map, List.getElem?_map]
    by_cases hj : j < n
    · by_cases e : x = j
      · subst e
        simp [hj, intV]
      · have : ¬ j = x := fun h => e h.symm
        simp [hj, e, this]
    · have e1 : (List.range n)[j]? = none := List.getElem?_eq_none (by simp; omega)
      rw [e1]
      by_cases e : x = j
      · subst e; simp [hj]
      · simp [e]
  rw [e]
  exact h1

theorem infoIntC : (Try.prog.info? 3).map (fun i => (i.zero, i.size, i.bytes)) = some (some (.int .i64 0), 1, 8) := by kernel_rfl
theorem info_partsC {t : TypeId} {z : Value} {n k : Nat} (h : (Try.prog.info? t).map (fun i => (i.zero, i.size, i.bytes)) = some (some z, n, k)) : ∃ i, Try.prog.info? t = some i ∧ i.zero = some z ∧ i.size = n ∧ i.bytes = k := by
  simp only [Option.map_eq_some_iff, Prod.mk.injEq] at h
  obtain ⟨i, h1, h2, h3, h4⟩ := h
  exact ⟨i, h1, h2, h3, h4⟩

set_option maxRecDepth 100000 in
set_option maxHeartbeats 2000000 in
theorem clone_any {Q : Ending → World → Prop} (og oc : Nat) (ord : List Nat) (w : World) (h1 : 0 < ord.length) (hl : ord.length ≤ 60) (hO : ∀ i, i < ord.length → w.cell? ⟨og, i, none⟩ = some (intV (ord.getD i 0)))
    (hQ : ∀ g cap w', Below w.heap.size w w' → IntF w.heap.size w' g cap ord.length (fun j => ord.getD j 0) → Q (.returned (.slice (some ⟨g, 0, none⟩) ord.length cap)) w') :
    Calls Try.prog 85 #[.slice (some ⟨og, 0, none⟩) ord.length oc] w Q := by
  have HQ : Hid _ := hQ
  have HO : Hid (∀ i, i < ord.length → w.cell? ⟨og, i, none⟩ = some (intV (ord.getD i 0))) := hO
  clear hQ hO
  obtain ⟨i0, hi, hz0, hz1, hz2⟩ := info_partsC infoIntC
  have HB0 : Hid (∀ O, Below w.heap.size w (w.alloc O)) := fun O => (Below.refl _ _).alloc (Nat.le_refl _) O
  have HE : Hid ((w.alloc (.cells #[] 3)).ownsRow w.heap.size 3 1 (.slice (some ⟨w.heap.size, 0, none⟩) 0 0) 0 []) := World.ownsRow_lit (base := w.heap.size) (e := 3) (size := 1) w #[] 0 (Nat.le_refl _) (by decide) (by simp)
  have HN : Hid (∀ j u, (ord.map intV)[j]? = some u → (w.alloc (.cells #[] 3)).cell? ((⟨og, 0, none⟩ : Addr).add j) = some u) := fun j u hu => by
    rw [List.getElem?_map] at hu
    cases hj : ord[j]? with
    | none => rw [hj] at hu; cases hu
    | some z =>
      rw [hj] at hu
      simp at hu
      subst hu
      have hjl := (List.getElem?_eq_some_iff.1 hj).1
      have := cell_keep (HB0.out (.cells #[] 3)) (HO.out j hjl)
      rw [List.getD_eq_getElem?_getD, hj] at this
      rw [show (⟨og, 0, none⟩ : Addr).add j = ⟨og, j, none⟩ from by unfold Addr.add; split <;> simp_all]
      exact this
  have hnil := fun (w : World) => Go.run_eql_slice_nil (P := Try.prog) w 48 3 (some ⟨og, 0, none⟩) ord.length oc Try.underlying48
  simp only [Option.isNone] at hnil
  go_enter Try.func85, Try.ntmps85
  go_wp2_with (at_builtin; refine wpList_append_lies _ rfl (.tmp 5) (.tmp 6) 48 rfl w.heap.size 3 i0 (.int .i64 0) 1 8 Try.underlying48 hi hz0 hz1 hz2 rfl (by decide) (.slice (some ⟨w.heap.size, 0, none⟩) 0 0) 0 [] rfl HE.out ⟨og, 0, none⟩ ord.length oc (ord.map intV) rfl (by simp) HN.out (by intro u hu; obtain ⟨x, _, rfl⟩ := List.mem_map.1 hu; rfl) h1 (by unfold maxLen; omega) (by omega) (by simp) _ rfl ?_)
  intro g8 cap8 w8 hown8 hgrow8 hat8 hlt8
  have HB8 : Hid (Below w.heap.size w w8) := (HB0.out _).grown hgrow8 (by simp) (fun q hq => by simp [Value.ownBlock] at hq; omega)
  have HO8 : Hid (IntF w.heap.size w8 g8 cap8 ord.length (fun j => ord.getD j 0)) := by
    unfold IntF
    rw [Hid, show (List.range ord.length).map (fun j => intV (ord.getD j 0)) = ord.map intV from ?_]
    · simpa using hown8
    · apply List.ext_getElem?
      intro j
      rw [List.getElem?_map, List.getElem?_map]
      by_cases hj : j < ord.length
      · simp [hj]
      · simp [hj]
  clear hown8 hgrow8 hat8 hlt8
  go_wp2
  exact HQ.out _ _ _ HB8.out HO8.out

/-- Behind i swaps. -/
def revK (n i : Nat) (f : Nat → Nat) : Nat → Nat := fun k => if k < i ∨ n - 1 - i < k then f (n - 1 - k) else f k

set_option maxRecDepth 100000 in
set_option maxHeartbeats 2000000 in
theorem reverse_any {Q : Ending → World → Prop} (lo g cap n : Nat) (f : Nat → Nat) (w : World) (hn : n ≤ 60) (h1 : 0 < n) (h : IntF lo w g cap n f)
    (hQ : ∀ v w', Out g (g + 1) w w' → IntF lo w' g cap n (fun j => f (n - 1 - j)) → Q (.returned v) w') :
    Calls Try.prog 86 #[.slice (some ⟨g, 0, none⟩) n cap] w Q := by
  have HQ : Hid _ := hQ
  have HF0 : Hid (IntF lo w g cap n (revK n 0 f)) := h.congr fun j hj => by unfold revK; rw [if_neg (by omega)]
  clear hQ h
  go_enter Try.func86, Try.ntmps86
  go_wp2_with fail
  go_loopw [2, 3] (fun a b wr => ∃ i : Nat, 2 * i ≤ n ∧ a = .int .i64 i ∧ b = .int .i64 ((n : Int) - 1 - i) ∧ IntF lo wr g cap n (revK n i f) ∧ Out g (g + 1) w wr) (fun a _ _ => n - (intOf a).toNat)
  case atStart => exact ⟨0, by omega, rfl, by go_num, HF0.out, Out.refl _ _ _⟩
  case round =>
    clear HF0
    obtain ⟨i, hi, rfl, rfl, hf, ho⟩ := hrel
    have HF : Hid (IntF lo wr g cap n (revK n i f)) := hf
    have HO : Hid (Out g (g + 1) w wr) := ho
    by_cases hlt : (i : Int) < (n : Int) - 1 - i
    · have hil : i < n := by omega
      obtain ⟨j, hj⟩ : ∃ j : Nat, (n : Int) - 1 - i = (j : Int) := ⟨n - 1 - i, by omega⟩
      have hjn : j < n := by omega
      have hij : i < j := by omega
      rw [hj] at hlt ⊢
      have ci := hf.cell hil
      have cj := hf.cell hjn
      have fi := hf.frozen i
      have fj := hf.frozen j
      have e1 : revK n i f i = f i := by unfold revK; rw [if_neg (by omega)]
      have e2 : revK n i f j = f j := by unfold revK; rw [if_neg (by omega)]
      rw [e1] at ci
      rw [e2] at cj
      have HNX : Hid (IntF lo ((wr.setCell ⟨g, i, none⟩ (.int .i64 (f j : Int))).setCell ⟨g, j, none⟩ (.int .i64 (f i : Int))) g cap n (revK n (i + 1) f)) := ((hf.set i (f j)).set j (f i)).congr fun k hk => by
        unfold revK
        by_cases a1 : k = j
        · subst a1
          rw [if_pos rfl, if_pos (Or.inr (by omega))]
          congr 1
          omega
        · rw [if_neg a1]
          by_cases a2 : k = i
          · subst a2
            rw [if_pos rfl, if_pos (Or.inl (by omega))]
            congr 1
            omega
          · rw [if_neg a2]
            by_cases a3 : k < i ∨ n - 1 - i < k
            · rw [if_pos a3, if_pos (by omega)]
            · rw [if_neg a3, if_neg (by omega)]
      have hneq : ¬ i = j := by omega
      have hneq2 : ¬ j = i := by omega
      have hset2 : ∀ k, k < n → revK n (i + 1) f k = if k = i then f j else if k = j then f i else revK n i f k := fun k hk => by
        by_cases a1 : k = j
        · subst a1
          rw [show revK n (i + 1) f k = f (n - 1 - k) from if_pos (Or.inr (by omega)), if_neg hneq2, if_pos rfl]
          congr 1
          omega
        · by_cases a2 : k = i
          · subst a2
            rw [show revK n (k + 1) f k = f (n - 1 - k) from if_pos (Or.inl (by omega)), if_pos rfl]
            congr 1
            omega
          · rw [if_neg a2, if_neg a1]
            unfold revK
            by_cases a3 : k < i ∨ n - 1 - i < k
            · rw [if_pos a3, if_pos (by omega)]
            · rw [if_neg a3, if_neg (by omega)]
      have HNX2 : Hid (IntF lo ((wr.setCell ⟨g, j, none⟩ (.int .i64 (f i : Int))).setCell ⟨g, i, none⟩ (.int .i64 (f j : Int))) g cap n (revK n (i + 1) f)) := ((hf.set j (f i)).set i (f j)).congr hset2
      have HNO2 : Hid (Out g (g + 1) w ((wr.setCell ⟨g, j, none⟩ (.int .i64 (f i : Int))).setCell ⟨g, i, none⟩ (.int .i64 (f j : Int)))) := (ho.setCell (Nat.le_refl _) (by show g < g + 1; omega) _).setCell (Nat.le_refl _) (by show g < g + 1; omega) _
      have HNO : Hid (Out g (g + 1) w ((wr.setCell ⟨g, i, none⟩ (.int .i64 (f j : Int))).setCell ⟨g, j, none⟩ (.int .i64 (f i : Int)))) := (ho.setCell (Nat.le_refl _) (by show g < g + 1; omega) _).setCell (Nat.le_refl _) (by show g < g + 1; omega) _
      have hii : (i : Int) < (n : Int) := by omega
      have hji : (j : Int) < (n : Int) := by omega
      have hjj : (j : Int) - 1 = (n : Int) - 1 - ((i + 1 : Nat) : Int) := by omega
      have HJJ : Hid _ := hjj
      clear hf ho HF HO e1 e2 hset2 hjj
      go_wp2_with fail
      go_region_law (fail)
      all_goals
        go_wp2
        go_roundw
        case rel => exact ⟨i + 1, by omega, by go_num, by first | go_num | (rw [← HJJ.out]), by first | exact HNX.out | exact HNX2.out, by first | exact ⟨HNO.out.os, HNO.out.tape, HNO.out.output, HNO.out.size, HNO.out.block⟩ | exact ⟨HNO2.out.os, HNO2.out.tape, HNO2.out.output, HNO2.out.size, HNO2.out.block⟩⟩
        case measure => simp [intOf]; omega
    · have HE : Hid (IntF lo wr g cap n (fun j => f (n - 1 - j))) := hf.congr fun k hk => by
        unfold revK
        by_cases a3 : k < i ∨ n - 1 - i < k
        · rw [if_pos a3]
        · rw [if_neg a3]
          congr 1
          omega
      clear hf ho
      go_wp2
      go_end0
      exact HQ.out _ _ HO.out HE.out
end Go.Proofs.Ytljlgffkhocgkaa
namespace Go.Proofs.Ytljlgffkhocgkaa
open Go.RowKit

theorem order_facts {w : World} {V : Nat} {ss : List St} {e : E5} {ord : List Nat} {rs : List Bool} {A : Option Addr} {c og oc : Nat} {pv : Value} {bc bk : BitVec 64} (h : VS w V ss e ord rs A c og oc pv bc bk) (hok : okB ss = true) :
    ord.length ≤ 60 ∧ 0 < ord.length ∧ ∀ i, i ∈ ord ↔ i < ss.length ∧ rF rs i = true := by
  have hn := (ok_len hok).2
  refine ⟨Nat.le_trans (nodup_len h.io.nodup fun i hi => ((h.io.mem i).1 hi).1) hn, ?_, fun i => ?_⟩
  · obtain ⟨r, hr⟩ := h.io.last
    rw [hr]
    simp
  · rw [h.io.mem i]
    constructor
    · rintro ⟨h1, h2⟩
      refine ⟨h1, ?_⟩
      have := (h.re.2 i h1).2 h2
      unfold rF
      rw [List.getD_eq_getElem?_getD, this]
      rfl
    · rintro ⟨h1, h2⟩
      refine ⟨h1, (h.re.2 i h1).1 ?_⟩
      unfold rF at h2
      rw [List.getD_eq_getElem?_getD] at h2
      have hl : i < rs.length := by rw [h.re.1]; exact h1
      rw [List.getElem?_eq_getElem hl] at h2 ⊢
      simpa using h2

set_option maxRecDepth 100000 in
set_option maxHeartbeats 2000000 in
theorem onward_any {Q : Ending → World → Prop} {w : World} {V : Nat} {ss : List St} {e : E5} {ord : List Nat} {rs : List Bool} {A : Option Addr} {c og oc : Nat} {pv : Value} {bc bk : BitVec 64} (h : VS w V ss e ord rs A c og oc pv bc bk) (hok : okB ss = true)
    (hQ : ∀ g cap W', Below w.heap.size w W' → (∀ i, i < ord.reverse.length → W'.cell? ⟨g, i, none⟩ = some (intV (ord.reverse.getD i 0))) → Q (.returned (.slice (some ⟨g, 0, none⟩) ord.length cap)) W') :
    Calls Try.prog 70 #[.pointer (some ⟨V, 0, none⟩)] w Q := by
  have HQ : Hid _ := hQ
  have HV : Hid (VS w V ss e ord rs A c og oc pv bc bk) := h
  have c1 := h.c1
  obtain ⟨hol, ho1, _⟩ := order_facts h hok
  clear hQ h hok
  go_enter Try.func70, Try.ntmps70
  go_wp2_with fail
  refine clone_any og oc ord _ ho1 hol (fun i hi => HV.out.od i hi) fun g cap w1 hb1 hf1 => ?_
  have HB1 : Hid (Below w.heap.size w w1) := hb1
  have HF1 : Hid (IntF w.heap.size w1 g cap ord.length (fun j => ord.getD j 0)) := hf1
  clear hb1 hf1 c1
  go_wp2_with fail
  refine reverse_any w.heap.size g cap ord.length (fun j => ord.getD j 0) _ hol ho1 HF1.out fun v2 w2 ho2 hf2 => ?_
  have hgl := HF1.out.lt
  have HB2 : Hid (Below w.heap.size w w2) := HB1.out.trans (ho2.below hgl.1 HB1.out.size)
  have HR : Hid (∀ i, i < ord.reverse.length → w2.cell? ⟨g, i, none⟩ = some (intV (ord.reverse.getD i 0))) := fun i hi => by
    rw [List.length_reverse] at hi
    rw [hf2.cell hi]
    simp only [intV]
    congr 2
    simp only [List.getD_eq_getElem?_getD]
    rw [List.getElem?_reverse hi]
  clear ho2 hf2 HB1 HF1 hgl
  go_wp2
  exact HQ.out g cap _ HB2.out HR.out

set_option maxRecDepth 100000 in
set_option maxHeartbeats 2000000 in
theorem mostByAhead_any {Q : Ending → World → Prop} {w : World} {V : Nat} {ss : List St} {e : E5} {ord : List Nat} {rs : List Bool} {A : Option Addr} {c og oc : Nat} {pv : Value} {bc bk : BitVec 64} (h : VS w V ss e ord rs A c og oc pv bc bk) (hok : okB ss = true) (ga : Nat) (lb : Array Value) (ea : ∀ args w, (callFunc ga args).run Try.prog w = .ok (.enter ga args) w)
    (F : (Nat → Bool) → Nat → Bool) (hm : Mono ss.length F) (hoff : ∀ (x i : Nat) (g : Nat → Bool), i < ss.length → (x : Int) ∉ pF ss rs i → F (offB g x) i = F g i) (hA : Asks ss.length (rF rs) ga lb w F)
    (hQ : ∀ g B W', Below w.heap.size w W' → w.heap.size ≤ B → Gr ss.length (rF rs) F g → W'.rowIs B 4 ss.length (fun j => .bool (g j)) → Q (.returned (.slice (some ⟨B, 0, none⟩) ss.length ss.length)) W') :
    Calls Try.prog 50 #[.pointer (some ⟨V, 0, none⟩), .func (.func ga) #[] lb] w Q := by
  have HQ : Hid _ := hQ
  have HV : Hid (VS w V ss e ord rs A c og oc pv bc bk) := h
  have HOK : Hid (okB ss = true) := hok
  have HM : Hid _ := hm
  have HOF : Hid _ := hoff
  have HA : Hid (Asks ss.length (rF rs) ga lb w F) := @hA
  have HEA : Hid _ := ea
  have c0 := h.c0
  have hn := (ok_len hok).2
  have HL : Hid (∀ x, x < ss.length → rF rs x = true → (nextOf ss x).length ≤ 60 ∧ ∀ y ∈ nextOf ss x, 0 ≤ y ∧ y.toNat < ss.length ∧ rF rs y.toNat = true) := fun x hx hr => ⟨Nat.le_trans (next_len hok hx) (by decide), fun y hy => next_reach hok h.re hx hr hy⟩
  obtain ⟨hol, ho1, hom⟩ := order_facts h hok
  have HOM : Hid (∀ i, i ∈ ord ↔ i < ss.length ∧ rF rs i = true) := hom
  clear hQ hm hoff hA ea h hok hom
  have hmf : ∀ (fn : Fn) (first cap : Array Value) (w : World), (Instr.makeFunc fn first cap).run Try.prog w = .ok (.func fn first cap) w := fun _ _ _ _ => rfl
  have hlr : ord.reverse.length = ord.length := List.length_reverse
  have HLR : Hid (ord.reverse.length = ord.length) := hlr
  have hol2 : ord.reverse.length ≤ 60 := by omega
  clear hlr
  go_enter Try.func50, Try.ntmps50
  go_wp2_with fail
  go_region_held3 (fun wx => wx.cell? ⟨V, 0, none⟩ = some (.slice A ss.length c)) (go_keep) (first
    | (go_at_call 70; refine onward_any (HV.out.keep ((Below.refl _ _).drew)) HOK.out ?_; intro g cap w2 hb2 hr2; have HB2 : Hid (Below w.heap.size w w2) := ((Below.refl _ _).drew).trans hb2; have HR : Hid _ := hr2; have d0 := cell_keep HB2.out HV.out.c0)
    | (go_at_call 67; rw [← HLR.out]; refine solve_any ss.length g cap ord.reverse 44 #[.pointer (some ⟨V, 0, none⟩)] ga lb (enters_of Try.func44 (by kernel_rfl) rfl) HEA.out _ (rF rs) F (nextOf ss) hn hol2 HR.out (fun i => by rw [List.mem_reverse]; exact HOM.out i) ((List.reverse_perm ord).nodup_iff.2 HV.out.io.nodup) HM.out (fun x i g hx hi hr hni => HOF.out x i g hi fun hm => hni (mem_preds.1 hm).2.2) HL.out (behind_hangs (HV.out.keep HB2.out)) (HA.out.later HB2.out) ?_; intro gg W' hb' hg hr'; have HB : Hid (Below w.heap.size w W') := HB2.out.trans (hb'.mono HB2.out.size); have e0 := cell_keep HB.out HV.out.c0))
  all_goals
    have HG : Hid (Gr ss.length (rF rs) F gg) := hg
    have HRW : Hid (W'.rowIs w2.heap.size 4 ss.length (fun j => .bool (gg j))) := hr'
    clear hb' hg hr' hb2 hr2
    go_wp2
    exact HQ.out gg _ _ HB.out HB2.out.size HG.out HRW.out

set_option maxRecDepth 100000 in
set_option maxHeartbeats 2000000 in
theorem upFrom_any {Q : Ending → World → Prop} {w W : World} {V : Nat} {ss : List St} {e : E5} {ord : List Nat} {rs : List Bool} {A : Option Addr} {c og oc : Nat} {pv : Value} {bc bk : BitVec 64} (h : VS w V ss e ord rs A c og oc pv bc bk) (hb : Below w.heap.size w W) (hok : okB ss = true) (VB : Nat) (hVB : w.cell? ⟨VB, 0, none⟩ = some (.pointer (some ⟨V, 0, none⟩)))
    (SB B : Nat) (so : Nat → Bool) (x : Int) (h0 : 0 ≤ x) (h1 : x < (ss.length : Int)) (hs : W.cell? ⟨SB, 0, none⟩ = some (.slice (some ⟨B, 0, none⟩) ss.length ss.length)) (hr : W.rowIs B 4 ss.length (fun j => .bool (so j)))
    (hQ : Q (.returned (.bool (kF e ss x.toNat && (cF e ss x.toNat || so x.toNat)))) W) :
    Calls Try.prog 53 #[.int .i64 x, .pointer (some ⟨VB, 0, none⟩), .pointer (some ⟨SB, 0, none⟩)] W Q := by
  have HQ : Hid _ := hQ
  have HV : Hid (VS w V ss e ord rs A c og oc pv bc bk) := h
  have HOK : Hid (okB ss = true) := hok
  have hv := h.keep hb
  have c3 := hv.c3
  have c4 := hv.c4
  have cv := cell_keep hb hVB
  obtain ⟨m, rfl⟩ := Int.eq_ofNat_of_zero_le h0
  have hm : m < ss.length := by omega
  have hc := hr.cell (i := m) hm
  rw [show ((m : Int)).toNat = m from rfl] at HQ
  clear hQ hr h0 h hok hv hb hVB
  go_enter Try.func53, Try.ntmps53
  go_wp2_with fail
  refine has_k HV.out.kw HOK.out m hm _ ?_
  cases hk : kF e ss m
  · rw [hk, Bool.false_and] at HQ
    clear hk
    go_wp2
    exact HQ.out
  · rw [hk, Bool.true_and] at HQ
    clear hk
    go_wp2_with fail
    refine has_c HV.out.cw HOK.out m hm _ ?_
    cases hcc : cF e ss m
    · rw [hcc, Bool.false_or] at HQ
      clear hcc
      generalize so m = z at *
      go_wp2
      exact HQ.out
    · rw [hcc, Bool.true_or] at HQ
      clear hcc
      go_wp2
      exact HQ.out

set_option maxRecDepth 100000 in
set_option maxHeartbeats 2000000 in
theorem up_asks {w : World} {V : Nat} {ss : List St} {e : E5} {ord : List Nat} {rs : List Bool} {A : Option Addr} {c og oc : Nat} {pv : Value} {bc bk : BitVec 64} (h : VS w V ss e ord rs A c og oc pv bc bk) (hok : okB ss = true) (VB : Nat) (hVB : w.cell? ⟨VB, 0, none⟩ = some (.pointer (some ⟨V, 0, none⟩))) :
    Asks ss.length (rF rs) 51 #[.pointer (some ⟨VB, 0, none⟩)] w (upF (cF e ss) (kF e ss) (pF ss rs)) := by
  intro W x B so hb hB hx hr hrow Q hQ
  show Calls Try.prog _ #[.int .i64 (x : Int), .slice (some ⟨B, 0, none⟩) ss.length ss.length, .pointer (some ⟨VB, 0, none⟩)] W Q
  have HQ : Hid _ := hQ
  have HV : Hid (VS w V ss e ord rs A c og oc pv bc bk) := h
  have HOK : Hid (okB ss = true) := hok
  have HB : Hid (Below w.heap.size w W) := hb
  have HR : Hid (W.rowIs B 4 ss.length (fun j => .bool (so j))) := hrow
  have HVB : Hid (w.cell? ⟨VB, 0, none⟩ = some (.pointer (some ⟨V, 0, none⟩))) := hVB
  have cv := cell_keep hb hVB
  have hVBl := cell_lt cv
  simp only at hVBl
  have hn := (ok_len hok).2
  have HLW : Hid (Low ss.length (pF ss rs)) := low_preds ss rs
  have hpl : (pF ss rs x).length ≤ 60 := Nat.le_trans (predsK_len _ _ _ _) hn
  clear hQ h hok hb hrow hVB
  have HA : Hid (∀ O, Below W.heap.size W (W.alloc O)) := fun O => (Below.refl _ _).alloc (Nat.le_refl _) O
  have hmf : ∀ (fn : Fn) (first cap : Array Value) (w : World), (Instr.makeFunc fn first cap).run Try.prog w = .ok (.func fn first cap) w := fun _ _ _ _ => rfl
  by_cases h0 : x = 0
  · have HF : Hid (upF (cF e ss) (kF e ss) (pF ss rs) so x = false) := by simp [Hid, upF, h0]
    rw [HF.out] at HQ
    subst h0
    go_enter Try.func51, Try.ntmps51
    go_wp2
    exact HQ.out _ (HA.out _)
  · have HF : Hid (upF (cF e ss) (kF e ss) (pF ss rs) so x = allI (pF ss rs x) (fun m => kF e ss m && (cF e ss m || so m))) := by simp [Hid, upF, h0]
    have h0i : ((x : Int) != 0) = true := by simp [h0]
    have h0j : ¬ (x : Int) = 0 := by omega
    rw [HF.out] at HQ
    go_enter Try.func51, Try.ntmps51
    go_wp2_with fail
    refine aheadOf_any (w0 := w) (HB.out.trans ((HA.out _).mono HB.out.size)) HV.out x hx fun nv hnv => ?_
    have HN : Hid (IntsAt w nv (pF ss rs x)) := hnv
    clear hnv
    go_wp2_with fail
    refine all_any 53 #[.pointer (some ⟨VB, 0, none⟩), .pointer (some ⟨W.heap.size, 0, none⟩)] (enters_of Try.func53 (by kernel_rfl) rfl) _ (pF ss rs x) (fun m => kF e ss m && (cF e ss m || so m)) _ ((HN.out.keep HB.out).keep (HA.out _)) (fun y hy => (HLW.out x hx y hy).1) (by omega) (fun W' y hb' hy Q' hq => ?_) fun W2 hb2 => ?_
    · have hl := HLW.out x hx y hy
      have hbw : Below w.heap.size w W' := HB.out.trans (((HA.out _).trans (hb'.mono (by simp))).mono HB.out.size)
      exact upFrom_any HV.out hbw HOK.out VB HVB.out W.heap.size B so y hl.1 hl.2 (cell_keep hb' (by simp [go_sem])) (rowIs_keep (rowIs_keep HR.out (HA.out _)) hb') (hq _ (Below.refl _ _))
    · have HF2 : Hid (Below W.heap.size W W2) := (HA.out _).trans (hb2.mono (by simp))
      clear hb2
      go_wp2
      exact HQ.out _ HF2.out

set_option maxRecDepth 100000 in
set_option maxHeartbeats 2000000 in
theorem up_any {Q : Ending → World → Prop} {w : World} {V : Nat} {ss : List St} {e : E5} {ord : List Nat} {rs : List Bool} {A : Option Addr} {c og oc : Nat} {pv : Value} {bc bk : BitVec 64} (h : VS w V ss e ord rs A c og oc pv bc bk) (hok : okB ss = true)
    (hQ : ∀ f B W', Below w.heap.size w W' → w.heap.size ≤ B → IsUp ss e rs f → W'.rowIs B 4 ss.length (fun j => .bool (f j)) → Q (.returned (.slice (some ⟨B, 0, none⟩) ss.length ss.length)) W') :
    Calls Try.prog 30 #[.pointer (some ⟨V, 0, none⟩)] w Q := by
  have HQ : Hid _ := hQ
  have HV : Hid (VS w V ss e ord rs A c og oc pv bc bk) := h
  have HOK : Hid (okB ss = true) := hok
  clear hQ h hok
  have HA : Hid (∀ O, Below w.heap.size w (w.alloc O)) := fun O => (Below.refl _ _).alloc (Nat.le_refl _) O
  have hmf : ∀ (fn : Fn) (first cap : Array Value) (w : World), (Instr.makeFunc fn first cap).run Try.prog w = .ok (.func fn first cap) w := fun _ _ _ _ => rfl
  go_enter Try.func30, Try.ntmps30
  go_wp2_with fail
  refine mostByAhead_any (HV.out.keep (HA.out _)) HOK.out 51 #[.pointer (some ⟨w.heap.size, 0, none⟩)] (enters_of Try.func51 (by kernel_rfl) rfl) _ (upF_mono (low_preds ss rs)) (fun x i g hi hx => upF_off (low_preds ss rs) hi hx) (up_asks (HV.out.keep (HA.out _)) HOK.out w.heap.size (by simp [go_sem])) fun g B W' hb' hB hg hr => ?_
  have HB : Hid (Below w.heap.size w W') := (HA.out _).trans (hb'.mono (by simp))
  have HG : Hid (IsUp ss e rs g) := hg
  have HR : Hid (W'.rowIs B 4 ss.length (fun j => .bool (g j))) := hr
  have hB2 : w.heap.size ≤ B := by simp at hB; omega
  clear hb' hg hr hB
  go_wp2
  exact HQ.out g B _ HB.out hB2 HG.out HR.out

theorem up_tells {ss : List St} {e : E5} (hok : okB ss = true) : Tells ss e 30 (IsUp ss e) := fun _ _ _ _ _ _ _ _ _ _ _ h _ hQ => up_any h hok hQ

set_option maxRecDepth 100000 in
theorem implSafeUp_any {Q : Ending → World → Prop} (v : Value) (ss : List St) (e : E5) (w : World) (h : StepsAt w v ss) (hl : ss.length ≤ 1048576) (hls : ∀ s ∈ ss, s.next.length ≤ 1048576)
    (hQ : ∀ v' bs w', Below w.heap.size w w' → SafeOr IsUp ss e bs → w'.ownsRow w.heap.size 4 1 v' bs.length (bs.map Value.bool) → Q (.returned v') w') :
    Calls Try.prog 16 #[.agg #[v], .agg #[.int .i64 e.op, .int .i64 e.av, .int .i64 e.an, .int .i64 e.bv, .int .i64 e.bn]] w Q := by
  have HQ : Hid _ := hQ
  clear hQ
  have HH : Hid (StepsAt w v ss) := h
  have HL : Hid (∀ s ∈ ss, s.next.length ≤ 1048576) := hls
  obtain ⟨ao, b, o, cap, rfl, ha, hc⟩ := id h
  clear ha hc h hls
  have hb0 : ∀ O O', Below w.heap.size w ((w.alloc O).alloc O') := fun O O' => ((Below.refl _ _).alloc (Nat.le_refl _) O).alloc (by simp) O'
  have HB0 : Hid _ := hb0
  clear hb0
  go_enter Try.func16, Try.ntmps16
  go_wp2_with fail
  refine seen_any IsUp 30 (enters_of Try.func30 (by kernel_rfl) rfl) _ ss e _ (HH.out.keep (HB0.out _ _)) hl HL.out (fun hok _ => up_tells hok) fun v' bs w' hb hs hown => ?_
  have HB : Hid (Below w.heap.size w w') := (HB0.out _ _).trans (hb.mono (by simp; omega))
  have HS : Hid _ := hs
  have HO : Hid (w'.ownsRow w.heap.size 4 1 v' bs.length (bs.map Value.bool)) := own_lower hown (by simp; omega)
  clear hb hs hown
  go_wp2
  exact HQ.out _ _ _ HB.out HS.out HO.out
end Go.Proofs.Ytljlgffkhocgkaa
namespace Go.Proofs.Ytljlgffkhocgkaa
open Go.RowKit

/-- What a function value answers of each place. -/
def Isso (n : Nat) (g : Nat) (lb : Array Value) (w : World) (f : Nat → Bool) : Prop :=
  ∀ W x, Below w.heap.size w W → x < n → ∀ {Q' : Ending → World → Prop}, (∀ W', Below W.heap.size W W' → Q' (.returned (.bool (f x))) W') → Calls Try.prog g (#[.int .i64 (x : Int)] ++ lb) W Q'

theorem kp_set {w : World} {p a : Addr} {v u : Value} (h : w.cell? p = some v) (hne : p.block ≠ a.block) : (w.setCell a u).cell? p = some v := by
  rw [cell_setOther _ _ _ _ hne]
  exact h
theorem kp_new {w : World} {a : Addr} {v u : Value} (h : w.cell? a = some v) : (w.setCell a u).cell? a = some u := by
  simp [go_sem, h]
theorem kp_alloc {w : World} {p : Addr} {v : Value} {O : Obj} (h : w.cell? p = some v) : (w.alloc O).cell? p = some v := cell_keep ((Below.refl _ _).alloc (Nat.le_refl _) O) h
theorem kp_drew {w : World} {p : Addr} {v : Value} (h : w.cell? p = some v) : w.drew.cell? p = some v := h

/-- A box for a slice, nothing in it yet. -/
structure BoxN (w : World) (a : Nat) : Prop where
  c : w.cell? ⟨a, 0, none⟩ = some (.slice none 0 0)
  f : w.frozen? ⟨a, 0, none⟩ = false
theorem BoxN.new (w : World) (t : TypeId) : BoxN (w.alloc (.cells #[.slice none 0 0] t)) w.heap.size := ⟨by simp [go_sem], by simp [go_sem]⟩
theorem BoxN.new1 (w : World) (O : Obj) (t : TypeId) : BoxN ((w.alloc O).alloc (.cells #[.slice none 0 0] t)) (w.heap.size + 1) := by
  have h := BoxN.new (w.alloc O) t
  rwa [World.size_alloc] at h
theorem BoxN.keep {w w' : World} {a : Nat} (h : BoxN w a) (hb : Below w.heap.size w w') : BoxN w' a := ⟨cell_keep hb h.c, (hb.frozen (cell_lt h.c)).trans h.f⟩
theorem BoxN.alloc {w : World} {a : Nat} {O : Obj} (h : BoxN w a) : BoxN (w.alloc O) a := h.keep ((Below.refl _ _).alloc (Nat.le_refl _) O)
theorem BoxN.drew {w : World} {a : Nat} (h : BoxN w a) : BoxN w.drew a := ⟨h.c, h.f⟩

theorem Below.step {B : Nat} {w Y z : World} (hb : Below Y.heap.size Y z) (hB : B ≤ Y.heap.size) (h : Below B w Y) : Below B w z := h.trans (hb.mono hB)

end Go.Proofs.Ytljlgffkhocgkaa
namespace Go.Proofs.Ytljlgffkhocgkaa
open Go.RowKit

theorem SafeOr.uniqueK {P : List St → E5 → List Bool → (Nat → Bool) → Prop} (hu : ∀ ss, okB ss = true → ∀ e rs f f', P ss e rs f → P ss e rs f' → ∀ i, i < ss.length → f i = f' i) {ss : List St} {e : E5} {a b : List Bool} (ha : SafeOr P ss e a) (hb : SafeOr P ss e b) : a = b := by
  rcases ha with ⟨h1, h2, rs, f, h3, h4, rfl⟩ | ⟨h1, rfl⟩
  · rcases hb with ⟨_, _, rs', f', k3, k4, rfl⟩ | ⟨k1, rfl⟩
    · obtain rfl := h3.unique k3
      exact List.map_congr_left fun i hi => hu ss h1 e rs f f' h4 k4 i (by simpa using hi)
    · exact absurd ⟨h1, h2⟩ k1
  · rcases hb with ⟨k1, k2, _⟩ | ⟨_, rfl⟩
    · exact absurd ⟨k1, k2⟩ h1
    · rfl
end Go.Proofs.Ytljlgffkhocgkaa
