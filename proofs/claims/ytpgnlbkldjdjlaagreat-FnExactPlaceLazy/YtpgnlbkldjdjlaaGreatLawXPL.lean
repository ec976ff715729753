/-
  At every program and every reckoning that come in, however made, PlaceLazy answers as the model does, changes nothing of what came in, and its answer is memory of its own: the law FnExactPlaceLazy answers true. No condition.
-/
import Derived.Test.YtpgnlbkldjdjlaaGreatRows
import Derived.Test.YtpgnlbkldjdjlaaGreatSz
import Derived.Test.YtpgnlbkldjdjlaaGreatToE
import Derived.Test.YtpgnlbkldjdjlaaGreatEq
import Derived.Test.YtpgnlbkldjdjlaaGreatMarkP
import Derived.Test.YtpgnlbkldjdjlaaGreatOpenE
import Derived.Test.YtpgnlbkldjdjlaaGreatSpecPL
import Derived.Test.YtpgnlbkldjdjlaaGreatImplPLB
import Derived.Test.YtpgnlbkldjdjlaaGreatPlaceB
import Derived.OpenShut
import Derived.ShutString
import Derived.ChangeOld
import Derived.Below
import Derived.Deep.RegionHeld3
import Derived.Deep.CutRange
namespace Go.Proofs.YtpgnlbkldjdjlaaGreat
open Go.ChangeShapes Go.WideShapes Go.ChangeAt Go.RowKit

theorem own : ownKnob Tryz.prog.godebug = none := by kernel_rfl
theorem laidOut : laidOutB Tryz.prog = true := by kernel_rfl

theorem lw_set {w : World} {p a : Addr} {v u : Value} (h : w.cell? p = some v) (hne : p.block ≠ a.block) : (w.setCell a u).cell? p = some v := by
  rw [cell_setOther _ _ _ _ hne]
  exact h
theorem lw_alloc {w : World} {p : Addr} {v : Value} {O : Obj} (h : w.cell? p = some v) : (w.alloc O).cell? p = some v := cell_keep ((Below.refl _ _).alloc (Nat.le_refl _) O) h
theorem lw_drew {w : World} {p : Addr} {v : Value} (h : w.cell? p = some v) : w.drew.cell? p = some v := h
theorem Below.stp {B : Nat} {w Y z : World} (hb : Below Y.heap.size Y z) (hB : B ≤ Y.heap.size) (h : Below B w Y) : Below B w z := h.trans (hb.mono hB)

theorem BoxE.al {W : World} {B : Nat} {A : Option Addr} {n c : Nat} {e : E5} {O : Obj} (h : BoxE W B A n c e) : BoxE (W.alloc O) B A n c e := h.keep ((Below.refl _ _).alloc (Nat.le_refl _) O)
theorem BoxE.dr {W : World} {B : Nat} {A : Option Addr} {n c : Nat} {e : E5} (h : BoxE W B A n c e) : BoxE W.drew B A n c e := ⟨h.p, h.c0, h.c1, h.c2, h.c3, h.c4⟩
theorem BoxE.out {W W' : World} {B lo hi : Nat} {A : Option Addr} {n c : Nat} {e : E5} (h : BoxE W B A n c e) (ho : Out lo hi W W') (hl : B + 1 < lo) : BoxE W' B A n c e :=
  ⟨ho.cell h.p (Or.inl (by show B < lo; omega)), ho.cell h.c0 (Or.inl hl), ho.cell h.c1 (Or.inl hl), ho.cell h.c2 (Or.inl hl), ho.cell h.c3 (Or.inl hl), ho.cell h.c4 (Or.inl hl)⟩
theorem BoxE.all {W : World} {B : Nat} {A : Option Addr} {n c : Nat} {e : E5} (h : BoxE W B A n c e) : W.cell? ⟨B, 0, none⟩ = some (.slice A n c) ∧ W.cell? ⟨B + 1, 0, none⟩ = some (.int .i64 e.op) ∧ W.cell? ⟨B + 1, 1, none⟩ = some (.int .i64 e.av) ∧ W.cell? ⟨B + 1, 2, none⟩ = some (.int .i64 e.an) ∧ W.cell? ⟨B + 1, 3, none⟩ = some (.int .i64 e.bv) ∧ W.cell? ⟨B + 1, 4, none⟩ = some (.int .i64 e.bn) := ⟨h.p, h.c0, h.c1, h.c2, h.c3, h.c4⟩
theorem BoxE.st {W : World} {B : Nat} {A : Option Addr} {n c : Nat} {e : E5} {p : Addr} {u : Value} (h : BoxE W B A n c e) (h1 : B ≠ p.block) (h2 : B + 1 ≠ p.block) : BoxE (W.setCell p u) B A n c e :=
  ⟨lw_set h.p h1, lw_set h.c0 h2, lw_set h.c1 h2, lw_set h.c2 h2, lw_set h.c3 h2, lw_set h.c4 h2⟩
theorem StepsAt.al {W : World} {v : Value} {ss : List St} {O : Obj} (h : StepsAt W v ss) : StepsAt (W.alloc O) v ss := h.keep ((Below.refl _ _).alloc (Nat.le_refl _) O)
theorem StepsAt.dr {W : World} {v : Value} {ss : List St} (h : StepsAt W v ss) : StepsAt W.drew v ss := h.keep (Below.refl _ _).drew
theorem BoxP.al {W : World} {B : Nat} {a b : Value} {O : Obj} (h : BoxP W B a b) : BoxP (W.alloc O) B a b := h.keep ((Below.refl _ _).alloc (Nat.le_refl _) O)
theorem BoxP.dr {W : World} {B : Nat} {a b : Value} (h : BoxP W B a b) : BoxP W.drew B a b := ⟨h.c0, h.c1, h.f0, h.f1⟩
theorem BoxP.out {W W' : World} {B lo hi : Nat} {a b : Value} (h : BoxP W B a b) (ho : Out lo hi W W') (hr : B < lo ∨ hi ≤ B) : BoxP W' B a b :=
  ⟨ho.cell h.c0 hr, ho.cell h.c1 hr, (ho.frozen h.lt hr).trans h.f0, (ho.frozen h.lt hr).trans h.f1⟩
theorem BoxP.st0 {W : World} {B : Nat} {a b u : Value} (h : BoxP W B a b) : BoxP (W.setCell ⟨B, 0, none⟩ u) B u b := by
  have := h.c0; have := h.c1; have := h.f0; have := h.f1
  exact ⟨by simp [go_sem, *], by simp [go_sem, *], by simp [go_sem, *], by simp [go_sem, *]⟩
theorem BoxP.st1 {W : World} {B : Nat} {a b u : Value} (h : BoxP W B a b) : BoxP (W.setCell ⟨B, 1, none⟩ u) B a u := by
  have := h.c0; have := h.c1; have := h.f0; have := h.f1
  exact ⟨by simp [go_sem, *], by simp [go_sem, *], by simp [go_sem, *], by simp [go_sem, *]⟩

/-- A box with a way of moving, and its rows, apart from the box. -/
structure PB (base : Nat) (X : World) (b : Nat) (A : Option Addr) (c : Nat) (B : Option Addr) (d lo hi : Nat) (ps ts : List Bool) : Prop where
  bx : BoxP X b (.slice A ps.length c) (.slice B ts.length d)
  po : PlaceO lo hi X (.agg #[.slice A ps.length c, .slice B ts.length d]) ps ts
  l1 : base ≤ b
  l2 : base ≤ lo
  l3 : b < lo ∨ hi ≤ b
  l4 : hi ≤ X.heap.size

theorem PB.keep {base : Nat} {X X' : World} {b : Nat} {A : Option Addr} {c : Nat} {B : Option Addr} {d lo hi : Nat} {ps ts : List Bool} (h : PB base X b A c B d lo hi ps ts) (hb : Below X.heap.size X X') : PB base X' b A c B d lo hi ps ts :=
  ⟨h.bx.keep hb, h.po.keep hb, h.l1, h.l2, h.l3, Nat.le_trans h.l4 hb.size⟩
theorem PB.dr {base : Nat} {X : World} {b : Nat} {A : Option Addr} {c : Nat} {B : Option Addr} {d lo hi : Nat} {ps ts : List Bool} (h : PB base X b A c B d lo hi ps ts) : PB base X.drew b A c B d lo hi ps ts := h.keep (Below.refl _ _).drew
theorem PB.out {base lo' hi' : Nat} {X X' : World} {b : Nat} {A : Option Addr} {c : Nat} {B : Option Addr} {d lo hi : Nat} {ps ts : List Bool} (h : PB base X b A c B d lo hi ps ts) (ho : Out lo' hi' X X') (h1 : b < lo' ∨ hi' ≤ b) (h2 : hi ≤ lo' ∨ hi' ≤ lo) : PB base X' b A c B d lo hi ps ts :=
  ⟨h.bx.out ho h1, h.po.out ho h2, h.l1, h.l2, h.l3, Nat.le_trans h.l4 ho.size⟩
theorem PB.last {base : Nat} {X : World} {A : Option Addr} {c : Nat} {B : Option Addr} {d lo : Nat} {ps ts : List Bool} {t : TypeId} (h : PlaceO lo X.heap.size X (.agg #[.slice A ps.length c, .slice B ts.length d]) ps ts) (h1 : base ≤ lo) (h2 : base ≤ X.heap.size) :
    PB base (X.alloc (.cells #[.slice A ps.length c, .slice B ts.length d] t)) X.heap.size A c B d lo X.heap.size ps ts :=
  ⟨BoxP.new _ _ _ _, h.keep ((Below.refl _ _).alloc (Nat.le_refl _) _), h2, h1, Or.inr (Nat.le_refl _), by simp⟩
theorem PB.early {base : Nat} {X : World} {b : Nat} {A : Option Addr} {c : Nat} {B : Option Addr} {d lo : Nat} {ps ts : List Bool} (hb : BoxP X b (.slice none 0 0) (.slice none 0 0)) (h : PlaceO lo X.heap.size X (.agg #[.slice A ps.length c, .slice B ts.length d]) ps ts) (h1 : base ≤ lo) (h2 : base ≤ b) (h3 : b < lo) :
    PB base ((X.setCell ⟨b, 0, none⟩ (.slice A ps.length c)).setCell ⟨b, 1, none⟩ (.slice B ts.length d)) b A c B d lo X.heap.size ps ts := by
  have ho : Out b (b + 1) X ((X.setCell ⟨b, 0, none⟩ (.slice A ps.length c)).setCell ⟨b, 1, none⟩ (.slice B ts.length d)) := ((Out.refl _ _ _).setCell (p := ⟨b, 0, none⟩) (Nat.le_refl _) (Nat.lt_succ_self _) _).setCell (p := ⟨b, 1, none⟩) (Nat.le_refl _) (Nat.lt_succ_self _) _
  exact ⟨hb.st0.st1, h.out ho (Or.inr h3), h2, h1, Or.inl h3, by simp⟩

theorem toExpr_u {Q : Ending → World → Prop} (e : E5) (w : World) (hQ : ∀ w', Below w.heap.size w w' → Q (.returned (.agg #[.int .i64 e.op, .int .i64 e.av, .int .i64 e.an, .int .i64 e.bv, .int .i64 e.bn])) w') :
    Calls Tryz.prog 18 #[.agg #[.int .i64 e.op, .int .i64 e.av, .int .i64 e.an, .int .i64 e.bv, .int .i64 e.bn]] w Q := toExpr_any e w hQ

set_option maxRecDepth 100000 in
set_option maxHeartbeats 16000000 in
theorem law_walk (v : Value) (ss : List St) (w : World) (h : StepsAt w v ss) (e : E5) (hl : ss.length ≤ 9223372036854775807) (hls : ∀ s ∈ ss, s.next.length ≤ 9223372036854775807) {Q : Ending → World → Prop}
    (hQ : ∀ w', Below w.heap.size w w' → Q (.returned (.bool true)) w') :
    Calls Tryz.prog 8 #[.agg #[v], exV e] w Q := by
  have HQ : Hid (∀ w', Below w.heap.size w w' → Q (.returned (.bool true)) w') := hQ
  clear hQ
  obtain ⟨ao, b, o, cap, rfl, ha, hc⟩ := id h
  have HH : Hid (StepsAt w (.slice ao ss.length cap) ss) := h
  have HL : Hid (∀ s ∈ ss, s.next.length ≤ 9223372036854775807) := hls
  have HXV : Hid (exV e = .agg #[.int .i64 e.op, .int .i64 e.av, .int .i64 e.an, .int .i64 e.bv, .int .i64 e.bn]) := rfl
  clear ha hc h hls
  rw [HXV.out]
  go_enter Tryz.func8, Tryz.ntmps8
  go_wp2_with fail
  have hb0 : ∀ O O', Below w.heap.size w ((w.alloc O).alloc O') := fun O O' => ((Below.refl _ _).alloc (Nat.le_refl _) O).alloc (by simp) O'
  refine szProg_any (.slice ao ss.length cap) ss 1048576 _ (HH.out.keep (hb0 _ _)) hl HL.out (by omega) (by omega) fun r w1 hr hz hb1 => ?_
  have hbA : Below w.heap.size w w1 := (hb0 _ _).trans (hb1.mono (by simp; omega))
  have q1 : BoxE w1 w.heap.size ao ss.length cap e := BoxE.keep ⟨by simp [go_sem], by simp [go_sem], by simp [go_sem], by simp [go_sem], by simp [go_sem], by simp [go_sem]⟩ hb1
  have HZ : Hid (0 ≤ r → ss.length ≤ (1048576 : Int) ∧ ∀ s ∈ ss, s.next.length ≤ (1048576 : Int)) := hz
  clear hb1 hb0 hz
  by_cases hneg : r < 0
  · go_wp2
    exact HQ.out _ hbA
  have hn : ss.length ≤ 1048576 := by have := (HZ.out (by omega)).1; omega
  have HN : Hid (∀ s ∈ ss, s.next.length ≤ 1048576) := fun s hs => by have := (HZ.out (by omega)).2 s hs; omega
  clear HZ HL hl
  have k1p := q1.p
  have k10 := q1.c0
  have k11 := q1.c1
  have k12 := q1.c2
  have k13 := q1.c3
  have k14 := q1.c4
  have s1 : w.heap.size + 1 < w1.heap.size := cell_lt q1.c0
  have bv1 : Below w1.heap.size w1 w1 := Below.refl _ _
  go_upto_region 5 with fail
  go_cut [6] from 13 (fun s wx => ∃ b A c B d lo hi ps ts, s = .pointer (some ⟨b, 0, none⟩) ∧ Below w1.heap.size w1 wx ∧ PlOr IsLazy ss e ps ts ∧ PB w1.heap.size wx b A c B d lo hi ps ts)
  case first =>
    go_region_held3 (fun wx => wx.cell? ⟨w.heap.size, 0, none⟩ = some (.slice ao ss.length cap) ∧ wx.cell? ⟨w.heap.size + 1, 0, none⟩ = some (.int .i64 e.op) ∧ wx.cell? ⟨w.heap.size + 1, 1, none⟩ = some (.int .i64 e.av) ∧ wx.cell? ⟨w.heap.size + 1, 2, none⟩ = some (.int .i64 e.an) ∧ wx.cell? ⟨w.heap.size + 1, 3, none⟩ = some (.int .i64 e.bv) ∧ wx.cell? ⟨w.heap.size + 1, 4, none⟩ = some (.int .i64 e.bn)) (exact BoxE.all (by repeat (first | assumption | refine BoxE.dr ?_ | refine BoxE.al ?_ | refine BoxE.st ?_ (by first | (simp; done) | (simp; omega) | omega) (by first | (simp; done) | (simp; omega) | omega)))) (first
      | (go_at_call 17; refine toProg_any (.slice ao ss.length cap) ss _ (HH.out.keep (by repeat (first | assumption | refine Below.drew ?_ | refine Below.alloc ?_ (by first | omega | (simp; done) | (simp; omega)) _))) hn HN.out ?_; intro vaf waf hsaf hbaf; have qaf : BoxE waf w.heap.size ao ss.length cap e := BoxE.keep (by first | assumption | exact BoxE.dr (by assumption) | exact BoxE.al (by assumption) | exact BoxE.dr (BoxE.al (by assumption))) hbaf; skip; obtain ⟨aoaf, baf, oaf, capaf, hvaf, _, _, _⟩ := id hsaf; subst hvaf; have htaf := hsaf.at; have bwaf : Below w.heap.size w waf := Below.stp hbaf (by first | omega | (simp; done) | (simp; omega)) (by repeat (first | assumption | refine Below.drew ?_ | refine Below.alloc ?_ (by first | omega | (simp; done) | (simp; omega)) _)); have bvaf : Below w1.heap.size w1 waf := Below.stp hbaf (by first | omega | (simp; done) | (simp; omega)) (by repeat (first | assumption | refine Below.drew ?_ | refine Below.alloc ?_ (by first | omega | (simp; done) | (simp; omega)) _)); have qsaf := hbaf.size; (try simp at qsaf); have zsaf : w1.heap.size ≤ waf.heap.size := bvaf.size; (try (have afx0 : BoxP waf (w1.heap.size) (.slice none 0 0) (.slice none 0 0) := BoxP.keep (by first | assumption | exact BoxP.new _ _ _ _ | exact BoxP.al (BoxP.new _ _ _ _) | exact BoxP.al (by assumption) | exact BoxP.dr (by assumption) | exact BoxP.dr (BoxP.new _ _ _ _) | exact BoxP.dr (BoxP.al (BoxP.new _ _ _ _)) | exact BoxP.dr (BoxP.al (by assumption))) hbaf; have afc0 := afx0.c0; have afd0 := afx0.c1; have aff0 := afx0.f0; have afg0 := afx0.f1; have afl0 : w1.heap.size < waf.heap.size := afx0.lt; have afn0 : ¬ w1.heap.size = waf.heap.size := Nat.ne_of_lt afl0)))
      | (go_at_call 18; refine toExpr_u e _ ?_; intro wef hbef; have qef : BoxE wef w.heap.size ao ss.length cap e := BoxE.keep (by first | assumption | exact BoxE.dr (by assumption) | exact BoxE.al (by assumption) | exact BoxE.dr (BoxE.al (by assumption))) hbef; skip; have htef : StepsAt wef (.slice aoaf ss.length capaf) ss := StepsAt.keep (by first | assumption | exact StepsAt.dr (by assumption) | exact StepsAt.al (by assumption) | exact StepsAt.dr (StepsAt.al (by assumption))) hbef; have bwef : Below w.heap.size w wef := Below.stp hbef (by first | omega | (simp; done) | (simp; omega)) (by repeat (first | assumption | refine Below.drew ?_ | refine Below.alloc ?_ (by first | omega | (simp; done) | (simp; omega)) _)); have bvef : Below w1.heap.size w1 wef := Below.stp hbef (by first | omega | (simp; done) | (simp; omega)) (by repeat (first | assumption | refine Below.drew ?_ | refine Below.alloc ?_ (by first | omega | (simp; done) | (simp; omega)) _)); have qsef := hbef.size; (try simp at qsef); have zsef : waf.heap.size ≤ wef.heap.size := (by first | omega | assumption); (try (have efx0 : BoxP wef (w1.heap.size) (.slice none 0 0) (.slice none 0 0) := BoxP.keep (by first | assumption | exact BoxP.new _ _ _ _ | exact BoxP.al (BoxP.new _ _ _ _) | exact BoxP.al (by assumption) | exact BoxP.dr (by assumption) | exact BoxP.dr (BoxP.new _ _ _ _) | exact BoxP.dr (BoxP.al (BoxP.new _ _ _ _)) | exact BoxP.dr (BoxP.al (by assumption))) hbef; have efc0 := efx0.c0; have efd0 := efx0.c1; have eff0 := efx0.f0; have efg0 := efx0.f1; have efl0 : w1.heap.size < wef.heap.size := efx0.lt; have efn0 : ¬ w1.heap.size = wef.heap.size := Nat.ne_of_lt efl0)); (try (have efx1 : BoxP wef (waf.heap.size) (.slice none 0 0) (.slice none 0 0) := BoxP.keep (by first | assumption | exact BoxP.new _ _ _ _ | exact BoxP.al (BoxP.new _ _ _ _) | exact BoxP.al (by assumption) | exact BoxP.dr (by assumption) | exact BoxP.dr (BoxP.new _ _ _ _) | exact BoxP.dr (BoxP.al (BoxP.new _ _ _ _)) | exact BoxP.dr (BoxP.al (by assumption))) hbef; have efc1 := efx1.c0; have efd1 := efx1.c1; have eff1 := efx1.f0; have efg1 := efx1.f1; have efl1 : waf.heap.size < wef.heap.size := efx1.lt; have efn1 : ¬ waf.heap.size = wef.heap.size := Nat.ne_of_lt efl1)))
      | (go_at_call 36; refine specPlaceLazy_any _ ss e _ (by first | assumption | exact StepsAt.dr (by assumption) | exact StepsAt.al (by assumption) | exact StepsAt.dr (StepsAt.al (by assumption))) hn HN.out ?_; intro vf psf tsf wzf hbzf hplf hpof; have qzf : BoxE wzf w.heap.size ao ss.length cap e := BoxE.keep (by first | assumption | exact BoxE.dr (by assumption) | exact BoxE.al (by assumption) | exact BoxE.dr (BoxE.al (by assumption))) hbzf; skip; obtain ⟨Af, cf, Bf, df, hvf⟩ := hpof.form; subst hvf; have bwzf : Below w.heap.size w wzf := Below.stp hbzf (by first | omega | (simp; done) | (simp; omega)) (by repeat (first | assumption | refine Below.drew ?_ | refine Below.alloc ?_ (by first | omega | (simp; done) | (simp; omega)) _)); have bvzf : Below w1.heap.size w1 wzf := Below.stp hbzf (by first | omega | (simp; done) | (simp; omega)) (by repeat (first | assumption | refine Below.drew ?_ | refine Below.alloc ?_ (by first | omega | (simp; done) | (simp; omega)) _)); have qszf := hbzf.size; (try simp at qszf); have zszf : wef.heap.size ≤ wzf.heap.size := (by first | omega | assumption); (try simp only [World.size_alloc] at hpof); (try (have zfx0 : BoxP wzf (w1.heap.size) (.slice none 0 0) (.slice none 0 0) := BoxP.keep (by first | assumption | exact BoxP.new _ _ _ _ | exact BoxP.al (BoxP.new _ _ _ _) | exact BoxP.al (by assumption) | exact BoxP.dr (by assumption) | exact BoxP.dr (BoxP.new _ _ _ _) | exact BoxP.dr (BoxP.al (BoxP.new _ _ _ _)) | exact BoxP.dr (BoxP.al (by assumption))) hbzf; have zfc0 := zfx0.c0; have zfd0 := zfx0.c1; have zff0 := zfx0.f0; have zfg0 := zfx0.f1; have zfl0 : w1.heap.size < wzf.heap.size := zfx0.lt; have zfn0 : ¬ w1.heap.size = wzf.heap.size := Nat.ne_of_lt zfl0)); (try (have zfx1 : BoxP wzf (waf.heap.size) (.slice none 0 0) (.slice none 0 0) := BoxP.keep (by first | assumption | exact BoxP.new _ _ _ _ | exact BoxP.al (BoxP.new _ _ _ _) | exact BoxP.al (by assumption) | exact BoxP.dr (by assumption) | exact BoxP.dr (BoxP.new _ _ _ _) | exact BoxP.dr (BoxP.al (BoxP.new _ _ _ _)) | exact BoxP.dr (BoxP.al (by assumption))) hbzf; have zfc1 := zfx1.c0; have zfd1 := zfx1.c1; have zff1 := zfx1.f0; have zfg1 := zfx1.f1; have zfl1 : waf.heap.size < wzf.heap.size := zfx1.lt; have zfn1 : ¬ waf.heap.size = wzf.heap.size := Nat.ne_of_lt zfl1)); (try (have zfx2 : BoxP wzf (wef.heap.size) (.slice none 0 0) (.slice none 0 0) := BoxP.keep (by first | assumption | exact BoxP.new _ _ _ _ | exact BoxP.al (BoxP.new _ _ _ _) | exact BoxP.al (by assumption) | exact BoxP.dr (by assumption) | exact BoxP.dr (BoxP.new _ _ _ _) | exact BoxP.dr (BoxP.al (BoxP.new _ _ _ _)) | exact BoxP.dr (BoxP.al (by assumption))) hbzf; have zfc2 := zfx2.c0; have zfd2 := zfx2.c1; have zff2 := zfx2.f0; have zfg2 := zfx2.f1; have zfl2 : wef.heap.size < wzf.heap.size := zfx2.lt; have zfn2 : ¬ wef.heap.size = wzf.heap.size := Nat.ne_of_lt zfl2))))
    all_goals
      go_wp2_with fail
      go_meet
      first
      | exact ⟨_, Af, cf, Bf, df, _, _, psf, tsf, rfl, (by repeat (first | assumption | refine Below.drew ?_ | refine Below.alloc ?_ (by first | omega | (simp; done) | (simp; omega)) _ | refine Below.setCell ?_ (by first | omega | (simp; done) | (simp; omega)) _)), hplf, PB.last hpof (by first | omega | (simp; done) | (simp; omega)) (by first | omega | (simp; done) | (simp; omega))⟩
      | exact ⟨_, Af, cf, Bf, df, _, _, psf, tsf, rfl, (by repeat (first | assumption | refine Below.drew ?_ | refine Below.alloc ?_ (by first | omega | (simp; done) | (simp; omega)) _ | refine Below.setCell ?_ (by first | omega | (simp; done) | (simp; omega)) _)), hplf, PB.dr (PB.last hpof (by first | omega | (simp; done) | (simp; omega)) (by first | omega | (simp; done) | (simp; omega)))⟩
      | exact ⟨_, Af, cf, Bf, df, _, _, psf, tsf, rfl, (by repeat (first | assumption | refine Below.drew ?_ | refine Below.alloc ?_ (by first | omega | (simp; done) | (simp; omega)) _ | refine Below.setCell ?_ (by first | omega | (simp; done) | (simp; omega)) _)), hplf, PB.early (by assumption) hpof (by first | omega | (simp; done) | (simp; omega)) (by first | omega | (simp; done) | (simp; omega)) (by first | omega | (simp; done) | (simp; omega))⟩
      | exact ⟨_, Af, cf, Bf, df, _, _, psf, tsf, rfl, (by repeat (first | assumption | refine Below.drew ?_ | refine Below.alloc ?_ (by first | omega | (simp; done) | (simp; omega)) _ | refine Below.setCell ?_ (by first | omega | (simp; done) | (simp; omega)) _)), hplf, PB.dr (PB.early (by assumption) hpof (by first | omega | (simp; done) | (simp; omega)) (by first | omega | (simp; done) | (simp; omega)) (by first | omega | (simp; done) | (simp; omega)))⟩
  case rest =>
    obtain ⟨b6, A3, c3, B3, d3, lo3, hi3, ps, ts, rfl, hbv, hpl, hpb⟩ := hcut
    have hbC : Below w.heap.size w wc := hbA.trans (hbv.mono hbA.size)
    have q3 := q1.keep hbv
    have HPL : Hid (PlOr IsLazy ss e ps ts) := hpl
    have hpb1 := hpl.bound hn
    have hp1 : ps.length ≤ 1048576 := hpb1.1
    have hp2 : ts.length ≤ 1048576 := hpb1.2
    have HA3 : Hid (PB w1.heap.size wc b6 A3 c3 B3 d3 lo3 hi3 ps ts) := hpb
    have s3 : w1.heap.size ≤ wc.heap.size := hbv.size
    have hb6 : b6 < wc.heap.size := hpb.bx.lt
    have m1 := hpb.l1
    have m2 := hpb.l2
    have m3 := hpb.l3
    have m4 := hpb.l4
    clear hbv hpl hpb hpb1 q1 k1p k10 k11 k12 k13 k14 bv1
    generalize wc = w3 at *
    have k3p := q3.p
    go_wp2_with fail
    refine toProg_own (.slice ao ss.length cap) ss _ (HH.out.keep hbC) hn HN.out fun v4 w4 hs4 hb4 => ?_
    have hbD : Below w.heap.size w w4 := hbC.trans (hb4.mono hbC.size)
    have q4 := BoxE.keep q3 hb4
    have s34 : w3.heap.size ≤ w4.heap.size := hb4.size
    have HA4 : Hid (PB w1.heap.size w4 b6 A3 c3 B3 d3 lo3 hi3 ps ts) := HA3.out.keep hb4
    obtain ⟨b4, f4, hv4, _⟩ := id hs4
    subst hv4
    have HS4 : Hid (StepsOwn w3.heap.size w4 (.slice (some ⟨b4, 0, none⟩) ss.length ss.length) ss) := hs4
    clear hb4 hs4 q3 k3p hbC HA3
    have hb5 : Below w4.heap.size w4 (w4.alloc (.cells #[.slice (some ⟨b4, 0, none⟩) ss.length ss.length] 34)) := (Below.refl _ _).alloc (Nat.le_refl _) _
    have q5 := BoxE.keep q4 hb5
    have x5 : (w4.alloc (.cells #[.slice (some ⟨b4, 0, none⟩) ss.length ss.length] 34)).cell? ⟨w4.heap.size, 0, none⟩ = some (.slice (some ⟨b4, 0, none⟩) ss.length ss.length) := by simp [go_sem]
    have hS5 : StepsAt (w4.alloc (.cells #[.slice (some ⟨b4, 0, none⟩) ss.length ss.length] 34)) (.slice (some ⟨b4, 0, none⟩) ss.length ss.length) ss := HS4.out.at.keep hb5
    have hbE : Below w.heap.size w (w4.alloc (.cells #[.slice (some ⟨b4, 0, none⟩) ss.length ss.length] 34)) := hbD.trans (hb5.mono hbD.size)
    have hz5 : (w4.alloc (.cells #[.slice (some ⟨b4, 0, none⟩) ss.length ss.length] 34)).heap.size = w4.heap.size + 1 := by simp
    clear q4 hbD
    go_upto_region 7 with fail
    generalize w4.alloc (.cells #[.slice (some ⟨b4, 0, none⟩) ss.length ss.length] 34) = w5 at *
    have bv5 : Below w5.heap.size w5 w5 := Below.refl _ _
    have k5p := q5.p
    have k50 := q5.c0
    have k51 := q5.c1
    have k52 := q5.c2
    have k53 := q5.c3
    have k54 := q5.c4
    have s5 : w.heap.size + 1 < w5.heap.size := cell_lt q5.c0
    have s45 : w4.heap.size < w5.heap.size := by omega
    have n45 : ¬ w4.heap.size = w5.heap.size := by omega
    clear hz5
    go_upto_region 7 with fail
    go_cut [8] from 13 (fun s wx => ∃ b A c B d lo hi ps ts, s = .pointer (some ⟨b, 0, none⟩) ∧ Below w5.heap.size w5 wx ∧ PlOr IsLazy ss e ps ts ∧ PB w5.heap.size wx b A c B d lo hi ps ts)
    case first =>
      go_region_held3 (fun wx => wx.cell? ⟨w4.heap.size, 0, none⟩ = some (.slice (some ⟨b4, 0, none⟩) ss.length ss.length) ∧ wx.cell? ⟨w.heap.size + 1, 0, none⟩ = some (.int .i64 e.op) ∧ wx.cell? ⟨w.heap.size + 1, 1, none⟩ = some (.int .i64 e.av) ∧ wx.cell? ⟨w.heap.size + 1, 2, none⟩ = some (.int .i64 e.an) ∧ wx.cell? ⟨w.heap.size + 1, 3, none⟩ = some (.int .i64 e.bv) ∧ wx.cell? ⟨w.heap.size + 1, 4, none⟩ = some (.int .i64 e.bn)) ((refine And.intro ?_ ?_; (repeat (first | assumption | refine lw_drew ?_ | refine lw_alloc ?_ | refine lw_set ?_ (by first | (simp; done) | (simp; omega) | omega))); exact (BoxE.all (B := w.heap.size) (A := ao) (n := ss.length) (c := cap) (e := e) (by repeat (first | assumption | refine BoxE.dr ?_ | refine BoxE.al ?_ | refine BoxE.st ?_ (by first | (simp; done) | (simp; omega) | omega) (by first | (simp; done) | (simp; omega) | omega)))).2)) (first
        | (go_at_call 18; refine toExpr_u e _ ?_; intro weg hbeg; have qeg : BoxE weg w.heap.size ao ss.length cap e := BoxE.keep (by first | assumption | exact BoxE.dr (by assumption) | exact BoxE.al (by assumption) | exact BoxE.dr (BoxE.al (by assumption))) hbeg; skip; have kegx : weg.cell? ⟨w4.heap.size, 0, none⟩ = some (.slice (some ⟨b4, 0, none⟩) ss.length ss.length) := cell_keep hbeg (by first | assumption | exact lw_drew (by assumption) | exact lw_alloc (by assumption) | exact lw_drew (lw_alloc (by assumption))); have hteg : StepsAt weg (.slice (some ⟨b4, 0, none⟩) ss.length ss.length) ss := StepsAt.keep (by first | assumption | exact StepsAt.dr (by assumption) | exact StepsAt.al (by assumption) | exact StepsAt.dr (StepsAt.al (by assumption))) hbeg; have bweg : Below w.heap.size w weg := Below.stp hbeg (by first | omega | (simp; done) | (simp; omega)) (by repeat (first | assumption | refine Below.drew ?_ | refine Below.alloc ?_ (by first | omega | (simp; done) | (simp; omega)) _)); have bveg : Below w5.heap.size w5 weg := Below.stp hbeg (by first | omega | (simp; done) | (simp; omega)) (by repeat (first | assumption | refine Below.drew ?_ | refine Below.alloc ?_ (by first | omega | (simp; done) | (simp; omega)) _)); have qseg := hbeg.size; (try simp at qseg); have zseg : w5.heap.size ≤ weg.heap.size := (by first | omega | assumption); (try (have egx0 : BoxP weg (w5.heap.size) (.slice none 0 0) (.slice none 0 0) := BoxP.keep (by first | assumption | exact BoxP.new _ _ _ _ | exact BoxP.al (BoxP.new _ _ _ _) | exact BoxP.al (by assumption) | exact BoxP.dr (by assumption) | exact BoxP.dr (BoxP.new _ _ _ _) | exact BoxP.dr (BoxP.al (BoxP.new _ _ _ _)) | exact BoxP.dr (BoxP.al (by assumption))) hbeg; have egc0 := egx0.c0; have egd0 := egx0.c1; have egf0 := egx0.f0; have egg0 := egx0.f1; have egl0 : w5.heap.size < weg.heap.size := egx0.lt; have egn0 : ¬ w5.heap.size = weg.heap.size := Nat.ne_of_lt egl0)))
        | (go_at_call 37; refine implPlaceLazy_any _ ss e _ (by first | assumption | exact StepsAt.dr (by assumption) | exact StepsAt.al (by assumption) | exact StepsAt.dr (StepsAt.al (by assumption))) hn HN.out ?_; intro vg psg tsg wzg hbzg hplg hpog; have qzg : BoxE wzg w.heap.size ao ss.length cap e := BoxE.keep (by first | assumption | exact BoxE.dr (by assumption) | exact BoxE.al (by assumption) | exact BoxE.dr (BoxE.al (by assumption))) hbzg; skip; have kzgx : wzg.cell? ⟨w4.heap.size, 0, none⟩ = some (.slice (some ⟨b4, 0, none⟩) ss.length ss.length) := cell_keep hbzg (by first | assumption | exact lw_drew (by assumption) | exact lw_alloc (by assumption) | exact lw_drew (lw_alloc (by assumption))); obtain ⟨Ag, cg, Bg, dg, hvg⟩ := hpog.form; subst hvg; have bwzg : Below w.heap.size w wzg := Below.stp hbzg (by first | omega | (simp; done) | (simp; omega)) (by repeat (first | assumption | refine Below.drew ?_ | refine Below.alloc ?_ (by first | omega | (simp; done) | (simp; omega)) _)); have bvzg : Below w5.heap.size w5 wzg := Below.stp hbzg (by first | omega | (simp; done) | (simp; omega)) (by repeat (first | assumption | refine Below.drew ?_ | refine Below.alloc ?_ (by first | omega | (simp; done) | (simp; omega)) _)); have qszg := hbzg.size; (try simp at qszg); have zszg : weg.heap.size ≤ wzg.heap.size := (by first | omega | assumption); (try simp only [World.size_alloc] at hpog); (try (have zgx0 : BoxP wzg (w5.heap.size) (.slice none 0 0) (.slice none 0 0) := BoxP.keep (by first | assumption | exact BoxP.new _ _ _ _ | exact BoxP.al (BoxP.new _ _ _ _) | exact BoxP.al (by assumption) | exact BoxP.dr (by assumption) | exact BoxP.dr (BoxP.new _ _ _ _) | exact BoxP.dr (BoxP.al (BoxP.new _ _ _ _)) | exact BoxP.dr (BoxP.al (by assumption))) hbzg; have zgc0 := zgx0.c0; have zgd0 := zgx0.c1; have zgf0 := zgx0.f0; have zgg0 := zgx0.f1; have zgl0 : w5.heap.size < wzg.heap.size := zgx0.lt; have zgn0 : ¬ w5.heap.size = wzg.heap.size := Nat.ne_of_lt zgl0)); (try (have zgx1 : BoxP wzg (weg.heap.size) (.slice none 0 0) (.slice none 0 0) := BoxP.keep (by first | assumption | exact BoxP.new _ _ _ _ | exact BoxP.al (BoxP.new _ _ _ _) | exact BoxP.al (by assumption) | exact BoxP.dr (by assumption) | exact BoxP.dr (BoxP.new _ _ _ _) | exact BoxP.dr (BoxP.al (BoxP.new _ _ _ _)) | exact BoxP.dr (BoxP.al (by assumption))) hbzg; have zgc1 := zgx1.c0; have zgd1 := zgx1.c1; have zgf1 := zgx1.f0; have zgg1 := zgx1.f1; have zgl1 : weg.heap.size < wzg.heap.size := zgx1.lt; have zgn1 : ¬ weg.heap.size = wzg.heap.size := Nat.ne_of_lt zgl1))))
      all_goals
        go_wp2_with fail
        go_meet
        first
        | exact ⟨_, Ag, cg, Bg, dg, _, _, psg, tsg, rfl, (by repeat (first | assumption | refine Below.drew ?_ | refine Below.alloc ?_ (by first | omega | (simp; done) | (simp; omega)) _ | refine Below.setCell ?_ (by first | omega | (simp; done) | (simp; omega)) _)), hplg, PB.last hpog (by first | omega | (simp; done) | (simp; omega)) (by first | omega | (simp; done) | (simp; omega))⟩
        | exact ⟨_, Ag, cg, Bg, dg, _, _, psg, tsg, rfl, (by repeat (first | assumption | refine Below.drew ?_ | refine Below.alloc ?_ (by first | omega | (simp; done) | (simp; omega)) _ | refine Below.setCell ?_ (by first | omega | (simp; done) | (simp; omega)) _)), hplg, PB.dr (PB.last hpog (by first | omega | (simp; done) | (simp; omega)) (by first | omega | (simp; done) | (simp; omega)))⟩
        | exact ⟨_, Ag, cg, Bg, dg, _, _, psg, tsg, rfl, (by repeat (first | assumption | refine Below.drew ?_ | refine Below.alloc ?_ (by first | omega | (simp; done) | (simp; omega)) _ | refine Below.setCell ?_ (by first | omega | (simp; done) | (simp; omega)) _)), hplg, PB.early (by assumption) hpog (by first | omega | (simp; done) | (simp; omega)) (by first | omega | (simp; done) | (simp; omega)) (by first | omega | (simp; done) | (simp; omega))⟩
        | exact ⟨_, Ag, cg, Bg, dg, _, _, psg, tsg, rfl, (by repeat (first | assumption | refine Below.drew ?_ | refine Below.alloc ?_ (by first | omega | (simp; done) | (simp; omega)) _ | refine Below.setCell ?_ (by first | omega | (simp; done) | (simp; omega)) _)), hplg, PB.dr (PB.early (by assumption) hpog (by first | omega | (simp; done) | (simp; omega)) (by first | omega | (simp; done) | (simp; omega)) (by first | omega | (simp; done) | (simp; omega)))⟩
    case rest =>
      obtain ⟨b8, A6, c6, B6, d6, lo6, hi6, ps6, ts6, rfl, hbv, hpl, hpb⟩ := hcut
      obtain ⟨rfl, rfl⟩ : ps6 = ps ∧ ts6 = ts := PlOr.unique IsLazy.unique hpl HPL.out
      have hbF : Below w.heap.size w wc := hbE.trans (hbv.mono hbE.size)
      have hb46 : Below w4.heap.size w4 wc := hb5.trans (hbv.mono hb5.size)
      have q6 := q5.keep hbv
      have x6 := cell_keep hbv x5
      have HB6 : Hid (PB w5.heap.size wc b8 A6 c6 B6 d6 lo6 hi6 ps6 ts6) := hpb
      have HA6 : Hid (PB w1.heap.size wc b6 A3 c3 B3 d3 lo3 hi3 ps6 ts6) := HA4.out.keep hb46
      have HS6 : Hid (StepsAt wc (.slice (some ⟨b4, 0, none⟩) ss.length ss.length) ss) := (HS4.out.keep hb46).at
      have HM6 : Hid (StepsMay w3.heap.size w4.heap.size wc (.slice (some ⟨b4, 0, none⟩) ss.length ss.length) (ss.map (fun s => s.next.length))) := HS4.out.may.keep hb46
      have s56 : w5.heap.size ≤ wc.heap.size := hbv.size
      have r1 := hpb.l1
      have r2 := hpb.l2
      have r3 := hpb.l3
      have r4 := hpb.l4
      clear hbv hpl hpb q5 x5 hS5 hbE hb46 hb5 k5p k50 k51 k52 k53 k54 bv5 HA4 HS4 n45
      generalize wc = w6 at *
      have g60 := HA6.out.bx.c0
      have g61 := HA6.out.bx.c1
      have g62 := HB6.out.bx.c0
      have g63 := HB6.out.bx.c1
      go_wp2_with fail
      refine eqPlace_any _ _ ps6 ts6 _ _ _ _ _ HB6.out.po HA6.out.po hp1 hp2 fun w7 hb7 => ?_
      have hbG : Below w.heap.size w w7 := hbF.trans (hb7.mono hbF.size)
      have q7 := BoxE.keep q6 hb7
      have k7p := q7.p
      have x7 := cell_keep hb7 x6
      have s7 : w6.heap.size ≤ w7.heap.size := hb7.size
      have HB7 : Hid (PB w5.heap.size w7 b8 A6 c6 B6 d6 lo6 hi6 ps6 ts6) := HB6.out.keep hb7
      have HA7 : Hid (PB w1.heap.size w7 b6 A3 c3 B3 d3 lo3 hi3 ps6 ts6) := HA6.out.keep hb7
      have HS7 : Hid (StepsAt w7 (.slice (some ⟨b4, 0, none⟩) ss.length ss.length) ss) := HS6.out.keep hb7
      have HM7 : Hid (StepsMay w3.heap.size w4.heap.size w7 (.slice (some ⟨b4, 0, none⟩) ss.length ss.length) (ss.map (fun s => s.next.length))) := HM6.out.keep hb7
      have HP7 : Hid (StepsAt w7 (.slice ao ss.length cap) ss) := HH.out.keep hbG
      clear hb7 q6 x6 HB6 HA6 HS6 HM6 hbF g60 g61 g62 g63
      go_upto_region 10 with fail
      go_cut [37] from 33 (fun s wx => s = .bool false ∧ Below w7.heap.size w7 wx)
      case first =>
        go_region_with (first | (go_at_call 17; refine toProg_any (.slice ao ss.length cap) ss _ (HP7.out.keep (below_drewN (Below.refl _ _) 1)) hn HN.out ?_; intro v8 w8 hs8 hb8; have hb78 : Below w7.heap.size w7 w8 := ⟨hb8.os, hb8.tape, hb8.output, hb8.size, hb8.block⟩; have x8 := cell_keep hb78 x7; have k8p := cell_keep hb78 k7p) | (go_at_call 21; refine eqProg_any _ _ ss _ (HS7.out.keep hb78) hs8.at hn HN.out ?_; intro w9 hb9))
        all_goals
          go_wp2_with fail
          go_meet
          exact ⟨rfl, hb78.trans (hb9.mono hb78.size)⟩
      case rest =>
        obtain ⟨rfl, hb79⟩ := hcut
        generalize wc = w9 at *
        have q9 := BoxE.keep q7 hb79
        have x9 := cell_keep hb79 x7
        have s9 : w7.heap.size ≤ w9.heap.size := hb79.size
        have hbH : Below w.heap.size w w9 := hbG.trans (hb79.mono hbG.size)
        have HB9 : Hid (PB w5.heap.size w9 b8 A6 c6 B6 d6 lo6 hi6 ps6 ts6) := HB7.out.keep hb79
        have HA9 : Hid (PB w1.heap.size w9 b6 A3 c3 B3 d3 lo3 hi3 ps6 ts6) := HA7.out.keep hb79
        have HM9 : Hid (StepsMay w3.heap.size w4.heap.size w9 (.slice (some ⟨b4, 0, none⟩) ss.length ss.length) (ss.map (fun s => s.next.length))) := HM7.out.keep hb79
        clear hb79 k7p q7 x7 HB7 HA7 HS7 HM7 HP7 hbG
        go_wp2_with fail
        refine markProg_may _ _ _ _ _ HM9.out (by simpa using hn) (by intro n hn; simp only [List.mem_map] at hn; obtain ⟨s, hs, rfl⟩ := hn; exact HN.out s hs) fun k1 w10 hk1 ho1 => ?_
        have q10 := BoxE.out q9 ho1 (by omega)
        have s10 : w9.heap.size ≤ w10.heap.size := ho1.size
        have hbI : Below w.heap.size w w10 := hbH.trans (ho1.below (by omega) (by omega))
        have HB10 : Hid (PB w5.heap.size w10 b8 A6 c6 B6 d6 lo6 hi6 ps6 ts6) := HB9.out.out ho1 (Or.inr (by omega)) (Or.inr (by omega))
        have HA10 : Hid (PB w1.heap.size w10 b6 A3 c3 B3 d3 lo3 hi3 ps6 ts6) := HA9.out.out ho1 (Or.inl (by omega)) (Or.inl (by omega))
        have hk0 : ¬ (k1 : Int) < 0 := by omega
        have g100 := HA10.out.bx.c0
        have g101 := HA10.out.bx.c1
        have g102 := HB10.out.bx.c0
        have g103 := HB10.out.bx.c1
        clear ho1 q9 x9 HB9 HA9 HM9 hbH
        go_wp2_with fail
        refine eqPlace_any _ _ ps6 ts6 _ _ _ _ _ HB10.out.po HA10.out.po hp1 hp2 fun w11 hb11 => ?_
        have hbJ : Below w.heap.size w w11 := hbI.trans (hb11.mono hbI.size)
        have q11 := BoxE.keep q10 hb11
        have s11 : w10.heap.size ≤ w11.heap.size := hb11.size
        have HB11 : Hid (PB w5.heap.size w11 b8 A6 c6 B6 d6 lo6 hi6 ps6 ts6) := HB10.out.keep hb11
        have HA11 : Hid (PB w1.heap.size w11 b6 A3 c3 B3 d3 lo3 hi3 ps6 ts6) := HA10.out.keep hb11
        have g112 := HB11.out.bx.c0
        have g113 := HB11.out.bx.c1
        clear hb11 q10 HB10 HA10 hbI g100 g101 g102 g103
        go_wp2_with fail
        refine markPlace_any _ ps6 ts6 1 _ _ _ HB11.out.po (by omega) (by omega) hp1 hp2 fun w12 ho12 hm12 => ?_
        have q12 := BoxE.out q11 ho12 (by omega)
        have s12 : w11.heap.size ≤ w12.heap.size := ho12.size
        have hbK : Below w.heap.size w w12 := hbJ.trans (ho12.below (by omega) (by omega))
        have HA12 : Hid (PB w1.heap.size w12 b6 A3 c3 B3 d3 lo3 hi3 ps6 ts6) := HA11.out.out ho12 (Or.inl (by omega)) (Or.inl (by omega))
        have HBX : Hid (BoxP w12 b8 (.slice A6 ps6.length c6) (.slice B6 ts6.length d6)) := HB11.out.bx.out ho12 (by omega)
        have HM12 : Hid (PlaceO lo6 hi6 w12 (.agg #[.slice A6 ps6.length c6, .slice B6 ts6.length d6]) (markB 1 ps6.length) (markB (1 + ps6.length) ts6.length)) := hm12
        have g122 := HBX.out.c0
        have g123 := HBX.out.c1
        clear ho12 hm12 q11 HB11 HA11 hbJ g112 g113
        go_wp2_with fail
        refine heldPlace_any _ 1 ps6.length ts6.length _ _ _ HM12.out (by omega) hp1 hp2 fun w13 hb13 => ?_
        have q13 := BoxE.keep q12 hb13
        have s13 : w12.heap.size ≤ w13.heap.size := hb13.size
        have hbL : Below w.heap.size w w13 := hbK.trans (hb13.mono hbK.size)
        have HA13 : Hid (PB w1.heap.size w13 b6 A3 c3 B3 d3 lo3 hi3 ps6 ts6) := HA12.out.keep hb13
        have HBX13 : Hid (BoxP w13 b8 (.slice A6 ps6.length c6) (.slice B6 ts6.length d6)) := HBX.out.keep hb13
        have HM13 : Hid (PlaceO lo6 hi6 w13 (.agg #[.slice A6 ps6.length c6, .slice B6 ts6.length d6]) (markB 1 ps6.length) (markB (1 + ps6.length) ts6.length)) := HM12.out.keep hb13
        have hk2 : ¬ (((1 + ps6.length + ts6.length : Nat) : Int) < 0) := by omega
        clear hb13 q12 HA12 HM12 HBX hbK g122 g123
        have k13p := q13.p
        have k130 := q13.c0
        have k131 := q13.c1
        have k132 := q13.c2
        have k133 := q13.c3
        have k134 := q13.c4
        have bv13 : Below w13.heap.size w13 w13 := Below.refl _ _
        have s113 : w.heap.size + 1 < w13.heap.size := by omega
        go_upto_region 24 with fail
        go_cut [12] from 13 (fun s wx => ∃ b A c B d lo hi ps ts, s = .pointer (some ⟨b, 0, none⟩) ∧ Below w13.heap.size w13 wx ∧ PlOr IsLazy ss e ps ts ∧ PB w13.heap.size wx b A c B d lo hi ps ts)
        case first =>
          go_region_held3 (fun wx => wx.cell? ⟨w.heap.size, 0, none⟩ = some (.slice ao ss.length cap) ∧ wx.cell? ⟨w.heap.size + 1, 0, none⟩ = some (.int .i64 e.op) ∧ wx.cell? ⟨w.heap.size + 1, 1, none⟩ = some (.int .i64 e.av) ∧ wx.cell? ⟨w.heap.size + 1, 2, none⟩ = some (.int .i64 e.an) ∧ wx.cell? ⟨w.heap.size + 1, 3, none⟩ = some (.int .i64 e.bv) ∧ wx.cell? ⟨w.heap.size + 1, 4, none⟩ = some (.int .i64 e.bn)) (exact BoxE.all (by repeat (first | assumption | refine BoxE.dr ?_ | refine BoxE.al ?_ | refine BoxE.st ?_ (by first | (simp; done) | (simp; omega) | omega) (by first | (simp; done) | (simp; omega) | omega)))) (first
            | (go_at_call 17; refine toProg_any (.slice ao ss.length cap) ss _ (HH.out.keep (by repeat (first | assumption | refine Below.drew ?_ | refine Below.alloc ?_ (by first | omega | (simp; done) | (simp; omega)) _))) hn HN.out ?_; intro vah wah hsah hbah; have qah : BoxE wah w.heap.size ao ss.length cap e := BoxE.keep (by first | assumption | exact BoxE.dr (by assumption) | exact BoxE.al (by assumption) | exact BoxE.dr (BoxE.al (by assumption))) hbah; skip; obtain ⟨aoah, bah, oah, capah, hvah, _, _, _⟩ := id hsah; subst hvah; have htah := hsah.at; have bwah : Below w.heap.size w wah := Below.stp hbah (by first | omega | (simp; done) | (simp; omega)) (by repeat (first | assumption | refine Below.drew ?_ | refine Below.alloc ?_ (by first | omega | (simp; done) | (simp; omega)) _)); have bvah : Below w13.heap.size w13 wah := Below.stp hbah (by first | omega | (simp; done) | (simp; omega)) (by repeat (first | assumption | refine Below.drew ?_ | refine Below.alloc ?_ (by first | omega | (simp; done) | (simp; omega)) _)); have qsah := hbah.size; (try simp at qsah); have zsah : w13.heap.size ≤ wah.heap.size := bvah.size; (try (have ahx0 : BoxP wah (w13.heap.size) (.slice none 0 0) (.slice none 0 0) := BoxP.keep (by first | assumption | exact BoxP.new _ _ _ _ | exact BoxP.al (BoxP.new _ _ _ _) | exact BoxP.al (by assumption) | exact BoxP.dr (by assumption) | exact BoxP.dr (BoxP.new _ _ _ _) | exact BoxP.dr (BoxP.al (BoxP.new _ _ _ _)) | exact BoxP.dr (BoxP.al (by assumption))) hbah; have ahc0 := ahx0.c0; have ahd0 := ahx0.c1; have ahf0 := ahx0.f0; have ahg0 := ahx0.f1; have ahl0 : w13.heap.size < wah.heap.size := ahx0.lt; have ahn0 : ¬ w13.heap.size = wah.heap.size := Nat.ne_of_lt ahl0)))
            | (go_at_call 18; refine toExpr_u e _ ?_; intro weh hbeh; have qeh : BoxE weh w.heap.size ao ss.length cap e := BoxE.keep (by first | assumption | exact BoxE.dr (by assumption) | exact BoxE.al (by assumption) | exact BoxE.dr (BoxE.al (by assumption))) hbeh; skip; have hteh : StepsAt weh (.slice aoah ss.length capah) ss := StepsAt.keep (by first | assumption | exact StepsAt.dr (by assumption) | exact StepsAt.al (by assumption) | exact StepsAt.dr (StepsAt.al (by assumption))) hbeh; have bweh : Below w.heap.size w weh := Below.stp hbeh (by first | omega | (simp; done) | (simp; omega)) (by repeat (first | assumption | refine Below.drew ?_ | refine Below.alloc ?_ (by first | omega | (simp; done) | (simp; omega)) _)); have bveh : Below w13.heap.size w13 weh := Below.stp hbeh (by first | omega | (simp; done) | (simp; omega)) (by repeat (first | assumption | refine Below.drew ?_ | refine Below.alloc ?_ (by first | omega | (simp; done) | (simp; omega)) _)); have qseh := hbeh.size; (try simp at qseh); have zseh : wah.heap.size ≤ weh.heap.size := (by first | omega | assumption); (try (have ehx0 : BoxP weh (w13.heap.size) (.slice none 0 0) (.slice none 0 0) := BoxP.keep (by first | assumption | exact BoxP.new _ _ _ _ | exact BoxP.al (BoxP.new _ _ _ _) | exact BoxP.al (by assumption) | exact BoxP.dr (by assumption) | exact BoxP.dr (BoxP.new _ _ _ _) | exact BoxP.dr (BoxP.al (BoxP.new _ _ _ _)) | exact BoxP.dr (BoxP.al (by assumption))) hbeh; have ehc0 := ehx0.c0; have ehd0 := ehx0.c1; have ehf0 := ehx0.f0; have ehg0 := ehx0.f1; have ehl0 : w13.heap.size < weh.heap.size := ehx0.lt; have ehn0 : ¬ w13.heap.size = weh.heap.size := Nat.ne_of_lt ehl0)); (try (have ehx1 : BoxP weh (wah.heap.size) (.slice none 0 0) (.slice none 0 0) := BoxP.keep (by first | assumption | exact BoxP.new _ _ _ _ | exact BoxP.al (BoxP.new _ _ _ _) | exact BoxP.al (by assumption) | exact BoxP.dr (by assumption) | exact BoxP.dr (BoxP.new _ _ _ _) | exact BoxP.dr (BoxP.al (BoxP.new _ _ _ _)) | exact BoxP.dr (BoxP.al (by assumption))) hbeh; have ehc1 := ehx1.c0; have ehd1 := ehx1.c1; have ehf1 := ehx1.f0; have ehg1 := ehx1.f1; have ehl1 : wah.heap.size < weh.heap.size := ehx1.lt; have ehn1 : ¬ wah.heap.size = weh.heap.size := Nat.ne_of_lt ehl1)))
            | (go_at_call 37; refine implPlaceLazy_any _ ss e _ (by first | assumption | exact StepsAt.dr (by assumption) | exact StepsAt.al (by assumption) | exact StepsAt.dr (StepsAt.al (by assumption))) hn HN.out ?_; intro vh psh tsh wzh hbzh hplh hpoh; have qzh : BoxE wzh w.heap.size ao ss.length cap e := BoxE.keep (by first | assumption | exact BoxE.dr (by assumption) | exact BoxE.al (by assumption) | exact BoxE.dr (BoxE.al (by assumption))) hbzh; skip; obtain ⟨Ah, ch, Bh, dh, hvh⟩ := hpoh.form; subst hvh; have bwzh : Below w.heap.size w wzh := Below.stp hbzh (by first | omega | (simp; done) | (simp; omega)) (by repeat (first | assumption | refine Below.drew ?_ | refine Below.alloc ?_ (by first | omega | (simp; done) | (simp; omega)) _)); have bvzh : Below w13.heap.size w13 wzh := Below.stp hbzh (by first | omega | (simp; done) | (simp; omega)) (by repeat (first | assumption | refine Below.drew ?_ | refine Below.alloc ?_ (by first | omega | (simp; done) | (simp; omega)) _)); have qszh := hbzh.size; (try simp at qszh); have zszh : weh.heap.size ≤ wzh.heap.size := (by first | omega | assumption); (try simp only [World.size_alloc] at hpoh); (try (have zhx0 : BoxP wzh (w13.heap.size) (.slice none 0 0) (.slice none 0 0) := BoxP.keep (by first | assumption | exact BoxP.new _ _ _ _ | exact BoxP.al (BoxP.new _ _ _ _) | exact BoxP.al (by assumption) | exact BoxP.dr (by assumption) | exact BoxP.dr (BoxP.new _ _ _ _) | exact BoxP.dr (BoxP.al (BoxP.new _ _ _ _)) | exact BoxP.dr (BoxP.al (by assumption))) hbzh; have zhc0 := zhx0.c0; have zhd0 := zhx0.c1; have zhf0 := zhx0.f0; have zhg0 := zhx0.f1; have zhl0 : w13.heap.size < wzh.heap.size := zhx0.lt; have zhn0 : ¬ w13.heap.size = wzh.heap.size := Nat.ne_of_lt zhl0)); (try (have zhx1 : BoxP wzh (wah.heap.size) (.slice none 0 0) (.slice none 0 0) := BoxP.keep (by first | assumption | exact BoxP.new _ _ _ _ | exact BoxP.al (BoxP.new _ _ _ _) | exact BoxP.al (by assumption) | exact BoxP.dr (by assumption) | exact BoxP.dr (BoxP.new _ _ _ _) | exact BoxP.dr (BoxP.al (BoxP.new _ _ _ _)) | exact BoxP.dr (BoxP.al (by assumption))) hbzh; have zhc1 := zhx1.c0; have zhd1 := zhx1.c1; have zhf1 := zhx1.f0; have zhg1 := zhx1.f1; have zhl1 : wah.heap.size < wzh.heap.size := zhx1.lt; have zhn1 : ¬ wah.heap.size = wzh.heap.size := Nat.ne_of_lt zhl1)); (try (have zhx2 : BoxP wzh (weh.heap.size) (.slice none 0 0) (.slice none 0 0) := BoxP.keep (by first | assumption | exact BoxP.new _ _ _ _ | exact BoxP.al (BoxP.new _ _ _ _) | exact BoxP.al (by assumption) | exact BoxP.dr (by assumption) | exact BoxP.dr (BoxP.new _ _ _ _) | exact BoxP.dr (BoxP.al (BoxP.new _ _ _ _)) | exact BoxP.dr (BoxP.al (by assumption))) hbzh; have zhc2 := zhx2.c0; have zhd2 := zhx2.c1; have zhf2 := zhx2.f0; have zhg2 := zhx2.f1; have zhl2 : weh.heap.size < wzh.heap.size := zhx2.lt; have zhn2 : ¬ weh.heap.size = wzh.heap.size := Nat.ne_of_lt zhl2))))
          all_goals
            go_wp2_with fail
            go_meet
            first
            | exact ⟨_, Ah, ch, Bh, dh, _, _, psh, tsh, rfl, (by repeat (first | assumption | refine Below.drew ?_ | refine Below.alloc ?_ (by first | omega | (simp; done) | (simp; omega)) _ | refine Below.setCell ?_ (by first | omega | (simp; done) | (simp; omega)) _)), hplh, PB.last hpoh (by first | omega | (simp; done) | (simp; omega)) (by first | omega | (simp; done) | (simp; omega))⟩
            | exact ⟨_, Ah, ch, Bh, dh, _, _, psh, tsh, rfl, (by repeat (first | assumption | refine Below.drew ?_ | refine Below.alloc ?_ (by first | omega | (simp; done) | (simp; omega)) _ | refine Below.setCell ?_ (by first | omega | (simp; done) | (simp; omega)) _)), hplh, PB.dr (PB.last hpoh (by first | omega | (simp; done) | (simp; omega)) (by first | omega | (simp; done) | (simp; omega)))⟩
            | exact ⟨_, Ah, ch, Bh, dh, _, _, psh, tsh, rfl, (by repeat (first | assumption | refine Below.drew ?_ | refine Below.alloc ?_ (by first | omega | (simp; done) | (simp; omega)) _ | refine Below.setCell ?_ (by first | omega | (simp; done) | (simp; omega)) _)), hplh, PB.early (by assumption) hpoh (by first | omega | (simp; done) | (simp; omega)) (by first | omega | (simp; done) | (simp; omega)) (by first | omega | (simp; done) | (simp; omega))⟩
            | exact ⟨_, Ah, ch, Bh, dh, _, _, psh, tsh, rfl, (by repeat (first | assumption | refine Below.drew ?_ | refine Below.alloc ?_ (by first | omega | (simp; done) | (simp; omega)) _ | refine Below.setCell ?_ (by first | omega | (simp; done) | (simp; omega)) _)), hplh, PB.dr (PB.early (by assumption) hpoh (by first | omega | (simp; done) | (simp; omega)) (by first | omega | (simp; done) | (simp; omega)) (by first | omega | (simp; done) | (simp; omega)))⟩
        case rest =>
          obtain ⟨b12, A9, c9, B9, d9, lo9, hi9, ps9, ts9, rfl, hbv, hpl, hpb⟩ := hcut
          obtain ⟨rfl, rfl⟩ : ps9 = ps6 ∧ ts9 = ts6 := PlOr.unique IsLazy.unique hpl HPL.out
          have hbM : Below w.heap.size w wc := hbL.trans (hbv.mono hbL.size)
          have HC15 : Hid (PB w13.heap.size wc b12 A9 c9 B9 d9 lo9 hi9 ps9 ts9) := hpb
          have HA15 : Hid (PB w1.heap.size wc b6 A3 c3 B3 d3 lo3 hi3 ps9 ts9) := HA13.out.keep hbv
          have HBX15 : Hid (BoxP wc b8 (.slice A6 ps9.length c6) (.slice B6 ts9.length d6)) := HBX13.out.keep hbv
          have HM15 : Hid (PlaceO lo6 hi6 wc (.agg #[.slice A6 ps9.length c6, .slice B6 ts9.length d6]) (markB 1 ps9.length) (markB (1 + ps9.length) ts9.length)) := HM13.out.keep hbv
          clear hbv hpl hpb q13 hbL HA13 HBX13 HM13 k13p k130 k131 k132 k133 k134 bv13
          generalize wc = w15 at *
          have g150 := HA15.out.bx.c0
          have g151 := HA15.out.bx.c1
          have g152 := HC15.out.bx.c0
          have g153 := HC15.out.bx.c1
          go_wp2_with fail
          refine eqPlace_any _ _ ps9 ts9 _ _ _ _ _ HC15.out.po HA15.out.po hp1 hp2 fun w16 hb16 => ?_
          have hbO : Below w.heap.size w w16 := hbM.trans (hb16.mono hbM.size)
          have HBX16 : Hid (BoxP w16 b8 (.slice A6 ps9.length c6) (.slice B6 ts9.length d6)) := HBX15.out.keep hb16
          have HM16 : Hid (PlaceO lo6 hi6 w16 (.agg #[.slice A6 ps9.length c6, .slice B6 ts9.length d6]) (markB 1 ps9.length) (markB (1 + ps9.length) ts9.length)) := HM15.out.keep hb16
          have g162 := HBX16.out.c0
          have g163 := HBX16.out.c1
          clear hb16 HC15 HA15 HM15 HBX15 hbM g150 g151 g152 g153
          go_wp2_with fail
          refine heldPlace_any _ 1 ps9.length ts9.length _ _ _ HM16.out (by omega) hp1 hp2 fun w17 hb17 => ?_
          have hbP : Below w.heap.size w w17 := hbO.trans (hb17.mono hbO.size)
          clear hb17 HM16 HBX16 hbO g162 g163
          go_wp2
          exact HQ.out _ hbP

set_option maxRecDepth 100000 in
theorem law_lifted (os : Os) (started : os.Started) (H : Type) (enc : TypeId × Value → H) :
    ReturnsInHanded {} Tryz.checked os 8 .any (Rows.fnExactPlaceLazySpec.pre6 enc Tryz.prog Tryz.f8 Rows.fnExactPlaceLazyRow.domain false) (Rows.fnExactPlaceLazySpec.post enc Tryz.prog Tryz.f8 false true false false) := by
  refine returnsInHanded_of_change (C := Tryz.checked) own started (by kernel_rfl) Tryz.func8
    (ChangeSpec.witness6 (enc := enc) (C := Tryz.checked) false ⟨#[], #[.agg #[.slice none 0 0], .agg #[.int .i64 0, .int .i64 0, .int .i64 0, .int .i64 0, .int .i64 0]], []⟩ 8 (by kernel_rfl) (by kernel_rfl) (by kernel_rfl) (by kernel_rfl)) ?_
  intro W base args ds gs before hval0 hW hcnd _
  have hval : ∀ (j : Nat) t v, Tryz.f8.params[j]? = some t → args[j]? = some v → Value.okWide Tryz.prog W .any base t v := hval0
  have hW' := hW
  obtain ⟨p, q, hA0, hV, rfl, hfz, hnd⟩ := hW
  have hA : DataW.TrodAll enc Tryz.prog W 0 (fun _ => true) true Tryz.f8.params.toList args.toList ds p := hA0
  rw [Tryz.params8] at hA hval
  obtain ⟨v0, vs0, d0, ds0, p0, q0, hargs, rfl, rfl, h0, r0⟩ := trodAll_cons hA
  obtain ⟨v1, vs1, d1, ds1, p1, q1, rfl, rfl, rfl, h1, r1⟩ := trodAll_cons r0
  obtain ⟨rfl, rfl, rfl⟩ := trodAll_nil r1
  obtain rfl : args = #[v0, v1] := by cases args; simp_all
  obtain ⟨rfl, rfl⟩ := trodVars_none hV
  have k0 := h0
  have lt0 : ∀ x ∈ p0, x.block < W.heap.size := by obtain ⟨m, hm⟩ := k0; exact DataW.trod_lt m _ _ _ hm
  obtain ⟨u, ss, hv0, hs, hl, hls⟩ := open_prog (hval 0 24 v0 rfl rfl) h0
  subst hv0
  have k1 := h1
  have lt1 : ∀ x ∈ p1, x.block < W.heap.size := by obtain ⟨m, hm⟩ := k1; exact DataW.trod_lt m _ _ _ hm
  obtain ⟨e, hv1⟩ := open_expr (hval 1 28 v1 rfl rfl) h1
  subst hv1
  clear hA0 hval0
  refine law_walk u ss W hs e hl hls fun W' bel => ?_
  exact ⟨_, rfl, _, _, _, [], _, [], hW', trodAll_mk1 (shut_bool Tryz.underlying4 _), (trodAll_cons_mk (Below.trod laidOut (by kernel_rfl) (of_decide_eq_true (by kernel_rfl)) k0 bel lt0) (trodAll_cons_mk (Below.trod laidOut (by kernel_rfl) (of_decide_eq_true (by kernel_rfl)) k1 bel lt1) trodAll_mk0)), rfl, bel.frame _, fun h => by cases h⟩

theorem fnExactPlaceLazy_holds : Rows.FnExactPlaceLazySaid :=
  OpenClaim.holds_of_wide 8 Tryz.f8 rfl rfl rfl rfl rfl rfl rfl ⟨rfl, rfl, rfl, rfl, rfl⟩ rfl rfl rfl rfl rfl (by kernel_rfl) Tryz.func8 (by kernel_rfl)
    (of_decide_eq_true (by kernel_rfl)) (by unfold Func.isWrapper; first | (rw [if_pos (by decide +kernel)]; kernel_rfl) | (rw [if_neg (by decide +kernel)]; exact ⟨rfl, rfl⟩))
    (fun os started H enc _ => law_lifted os started H enc)
#print axioms fnExactPlaceLazy_holds
end Go.Proofs.YtpgnlbkldjdjlaaGreat
