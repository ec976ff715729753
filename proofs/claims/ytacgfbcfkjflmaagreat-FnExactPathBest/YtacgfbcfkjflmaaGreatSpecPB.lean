/- What the model's PlaceBusy answers. -/
import Derived.Test.YtacgfbcfkjflmaaGreatSpecPN
import Derived.Test.YtacgfbcfkjflmaaGreatSpecSX
import Derived.Deep.RegionHeld3
import Derived.Deep.RegionLaw
import Derived.Deep.CutRange
namespace Go.Proofs.YtacgfbcfkjflmaaGreat
open Go.RowKit

theorem Below.stq {B : Nat} {w Y z : World} (hb : Below Y.heap.size Y z) (hB : B ≤ Y.heap.size) (h : Below B w Y) : Below B w z := h.trans (hb.mono hB)
theorem lx_set {w : World} {p a : Addr} {v u : Value} (h : w.cell? p = some v) (hne : p.block ≠ a.block) : (w.setCell a u).cell? p = some v := by
  rw [cell_setOther _ _ _ _ hne]
  exact h
theorem BoxE.alc {W : World} {B : Nat} {A : Option Addr} {n c : Nat} {e : E5} {O : Obj} (h : BoxE W B A n c e) : BoxE (W.alloc O) B A n c e := h.keep ((Below.refl _ _).alloc (Nat.le_refl _) O)
theorem BoxE.drw {W : World} {B : Nat} {A : Option Addr} {n c : Nat} {e : E5} (h : BoxE W B A n c e) : BoxE W.drew B A n c e := ⟨h.p, h.c0, h.c1, h.c2, h.c3, h.c4⟩
theorem BoxE.tot {W : World} {B : Nat} {A : Option Addr} {n c : Nat} {e : E5} (h : BoxE W B A n c e) : W.cell? ⟨B, 0, none⟩ = some (.slice A n c) ∧ W.cell? ⟨B + 1, 0, none⟩ = some (.int .i64 e.op) ∧ W.cell? ⟨B + 1, 1, none⟩ = some (.int .i64 e.av) ∧ W.cell? ⟨B + 1, 2, none⟩ = some (.int .i64 e.an) ∧ W.cell? ⟨B + 1, 3, none⟩ = some (.int .i64 e.bv) ∧ W.cell? ⟨B + 1, 4, none⟩ = some (.int .i64 e.bn) := ⟨h.p, h.c0, h.c1, h.c2, h.c3, h.c4⟩
theorem BoxE.str {W : World} {B : Nat} {A : Option Addr} {n c : Nat} {e : E5} {p : Addr} {u : Value} (h : BoxE W B A n c e) (h1 : B ≠ p.block) (h2 : B + 1 ≠ p.block) : BoxE (W.setCell p u) B A n c e :=
  ⟨lx_set h.p h1, lx_set h.c0 h2, lx_set h.c1 h2, lx_set h.c2 h2, lx_set h.c3 h2, lx_set h.c4 h2⟩
theorem BoxP.alc {W : World} {B : Nat} {a b : Value} {O : Obj} (h : BoxP W B a b) : BoxP (W.alloc O) B a b := h.keep ((Below.refl _ _).alloc (Nat.le_refl _) O)
theorem BoxP.drw {W : World} {B : Nat} {a b : Value} (h : BoxP W B a b) : BoxP W.drew B a b := ⟨h.c0, h.c1, h.f0, h.f1⟩
theorem BoxP.sa {W : World} {B : Nat} {a b u : Value} (h : BoxP W B a b) : BoxP (W.setCell ⟨B, 0, none⟩ u) B u b := by
  have := h.c0; have := h.c1; have := h.f0; have := h.f1
  exact ⟨by simp [go_sem, *], by simp [go_sem, *], by simp [go_sem, *], by simp [go_sem, *]⟩
theorem BoxP.sb {W : World} {B : Nat} {a b u : Value} (h : BoxP W B a b) : BoxP (W.setCell ⟨B, 1, none⟩ u) B a u := by
  have := h.c0; have := h.c1; have := h.f0; have := h.f1
  exact ⟨by simp [go_sem, *], by simp [go_sem, *], by simp [go_sem, *], by simp [go_sem, *]⟩
theorem BoxP.oth {W W' : World} {B lo hi : Nat} {a b : Value} (h : BoxP W B a b) (ho : Out lo hi W W') (hr : B < lo ∨ hi ≤ B) : BoxP W' B a b :=
  ⟨ho.cell h.c0 hr, ho.cell h.c1 hr, (ho.frozen h.lt hr).trans h.f0, (ho.frozen h.lt hr).trans h.f1⟩
theorem BoolF.oth {lo g cap n lo' hi' : Nat} {w w' : World} {f : Nat → Bool} (h : BoolF lo w g cap n f) (ho : Out lo' hi' w w') (hr : g < lo' ∨ hi' ≤ g) : BoolF lo w' g cap n f := ownsRow_out h ho (fun k hk => by simp [Value.ownBlock] at hk; subst hk; exact hr)

theorem SafeOr.okay {P : List St → E5 → List Bool → (Nat → Bool) → Prop} {ss : List St} {e : E5} {bs : List Bool} (h : SafeOr P ss e bs) (hok : okB ss = true) (hex : exprB e = true) : ∃ rs f, IsReach ss rs ∧ P ss e rs f ∧ bs = (List.range ss.length).map f := by
  rcases h with ⟨_, _, rs, f, h1, h2, h3⟩ | ⟨h1, _⟩
  · exact ⟨rs, f, h1, h2, h3⟩
  · exact absurd ⟨hok, hex⟩ h1

theorem RowOr.list {ss : List St} {e : E5} {cs : List Bool} (h : RowOr compB ss e cs) (hok : okB ss = true) (hex : exprB e = true) : cs = (List.range ss.length).map (cF e ss) := by
  obtain ⟨h1, h2⟩ := h.get hok hex
  apply List.ext_getElem?
  intro i
  rw [List.getElem?_map]
  by_cases hi : i < ss.length
  · have h3 := h2 i hi
    rw [← cF_get hi, List.getD_eq_getElem?_getD, List.getElem?_eq_getElem (by omega)] at h3
    rw [List.getElem?_range hi, List.getElem?_eq_getElem (by omega)]
    simp at h3 ⊢
    exact h3
  · rw [List.getElem?_eq_none (by omega), List.getElem?_eq_none (by simp; omega)]
    rfl

/-- A box with two rows of yes and no, apart from it and from each other. -/
structure PX (base : Nat) (X : World) (b g1 k1 g2 k2 lo2 n : Nat) (f t : Nat → Bool) : Prop where
  bx : BoxP X b (.slice (some ⟨g1, 0, none⟩) n k1) (.slice (some ⟨g2, 0, none⟩) n k2)
  r1 : BoolF base X g1 k1 n f
  r2 : BoolF lo2 X g2 k2 n t
  l1 : base ≤ b
  l2 : g1 < lo2
  l3 : base ≤ lo2
  n1 : b ≠ g1
  n2 : b ≠ g2

theorem PX.keep {base : Nat} {X X' : World} {b g1 k1 g2 k2 lo2 n : Nat} {f t : Nat → Bool} (h : PX base X b g1 k1 g2 k2 lo2 n f t) (hb : Below X.heap.size X X') : PX base X' b g1 k1 g2 k2 lo2 n f t :=
  ⟨h.bx.keep hb, h.r1.keep hb, h.r2.keep hb, h.l1, h.l2, h.l3, h.n1, h.n2⟩
theorem PX.drw {base : Nat} {X : World} {b g1 k1 g2 k2 lo2 n : Nat} {f t : Nat → Bool} (h : PX base X b g1 k1 g2 k2 lo2 n f t) : PX base X.drew b g1 k1 g2 k2 lo2 n f t := h.keep (Below.refl _ _).drew
theorem PX.last {base : Nat} {X : World} {g1 k1 g2 k2 lo1 lo2 n : Nat} {f t : Nat → Bool} {T : TypeId} (h1 : BoolF lo1 X g1 k1 n f) (h2 : BoolF lo2 X g2 k2 n t) (hl : base ≤ lo1) (hg : g1 < lo2) :
    PX base (X.alloc (.cells #[.slice (some ⟨g1, 0, none⟩) n k1, .slice (some ⟨g2, 0, none⟩) n k2] T)) X.heap.size g1 k1 g2 k2 lo2 n f t :=
  ⟨BoxP.new _ _ _ _, BoolF.keep (own_lower h1 hl) ((Below.refl _ _).alloc (Nat.le_refl _) _), h2.keep ((Below.refl _ _).alloc (Nat.le_refl _) _), by have := h1.lt; omega, hg, by have := h1.lt; omega, by have := h1.lt; omega, by have := h2.lt; omega⟩
theorem PX.early {base : Nat} {X : World} {b g1 k1 g2 k2 lo1 lo2 n : Nat} {f t : Nat → Bool} (hb : BoxP X b (.slice none 0 0) (.slice none 0 0)) (h1 : BoolF lo1 X g1 k1 n f) (h2 : BoolF lo2 X g2 k2 n t) (hl : base ≤ lo1) (hg : g1 < lo2) (hbb : base ≤ b) (hn1 : b < lo1 ∨ (g1 < b ∧ b < lo2)) :
    PX base ((X.setCell ⟨b, 0, none⟩ (.slice (some ⟨g1, 0, none⟩) n k1)).setCell ⟨b, 1, none⟩ (.slice (some ⟨g2, 0, none⟩) n k2)) b g1 k1 g2 k2 lo2 n f t := by
  have ho : Out b (b + 1) X ((X.setCell ⟨b, 0, none⟩ (.slice (some ⟨g1, 0, none⟩) n k1)).setCell ⟨b, 1, none⟩ (.slice (some ⟨g2, 0, none⟩) n k2)) := ((Out.refl _ _ _).setCell (p := ⟨b, 0, none⟩) (Nat.le_refl _) (Nat.lt_succ_self _) _).setCell (p := ⟨b, 1, none⟩) (Nat.le_refl _) (Nat.lt_succ_self _) _
  have a1 := h1.lt
  have a2 := h2.lt
  exact ⟨hb.sa.sb, BoolF.oth (own_lower h1 hl) ho (by omega), h2.oth ho (by omega), hbb, hg, by omega, by omega, by omega⟩

theorem PlaceO.rowsF {W : World} {lo g1 k1 g2 k2 lo1 lo2 n : Nat} {f t : Nat → Bool} (h1 : BoolF lo1 W g1 k1 n f) (h2 : BoolF lo2 W g2 k2 n t) (l1 : lo ≤ lo1) (l2 : lo ≤ lo2) (hne : g1 ≠ g2) :
    PlaceO lo W.heap.size W (.agg #[.slice (some ⟨g1, 0, none⟩) n k1, .slice (some ⟨g2, 0, none⟩) n k2]) ((List.range n).map f) ((List.range n).map t) := by
  have a1 := BoolsOwn.of (bs := (List.range n).map f) (v := .slice (some ⟨g1, 0, none⟩) n k1) (h1.row l1)
  have a2 := BoolsOwn.of (bs := (List.range n).map t) (v := .slice (some ⟨g2, 0, none⟩) n k2) (h2.row l2)
  refine ⟨_, _, rfl, a1, a2, fun k hk h => ?_⟩
  simp [Value.ownBlock] at hk h
  omega

set_option maxRecDepth 100000 in
set_option maxHeartbeats 4000000 in
theorem specPlaceBusy_any {Q : Ending → World → Prop} (v : Value) (ss : List St) (e : E5) (w : World) (h : StepsAt w v ss) (hl : ss.length ≤ 1048576) (hls : ∀ s ∈ ss, s.next.length ≤ 1048576)
    (hQ : ∀ v' ps ts w', Below w.heap.size w w' → PlOr IsBusy ss e ps ts → PlaceO w.heap.size w'.heap.size w' v' ps ts → Q (.returned v') w') :
    Calls Tryz.prog 36 #[.agg #[v], .agg #[.int .i64 e.op, .int .i64 e.av, .int .i64 e.an, .int .i64 e.bv, .int .i64 e.bn]] w Q := by
  have HQ : Hid _ := hQ
  clear hQ
  obtain ⟨ao, b, o, cap, rfl, ha, hc⟩ := id h
  have HH : Hid (StepsAt w (.slice ao ss.length cap) ss) := h
  have HL : Hid (∀ s ∈ ss, s.next.length ≤ 1048576) := hls
  clear ha hc h hls
  go_enter Tryz.func36, Tryz.ntmps36
  go_wp2_with fail
  have hb0 : Below w.heap.size w (((w.alloc (.cells #[.slice ao ss.length cap] 34)).alloc (.cells #[.int .i64 e.op, .int .i64 e.av, .int .i64 e.an, .int .i64 e.bv, .int .i64 e.bn] 38)).alloc (.cells #[.slice none 0 0, .slice none 0 0] 49)) := (((Below.refl _ _).alloc (Nat.le_refl _) _).alloc (by simp) _).alloc (by simp; omega) _
  have hbx := (BoxE.new w ao ss.length cap e 34 38).keep ((Below.refl _ _).alloc (Nat.le_refl _) (.cells #[.slice none 0 0, .slice none 0 0] 49))
  have hbp := BoxP.new ((w.alloc (.cells #[.slice ao ss.length cap] 34)).alloc (.cells #[.int .i64 e.op, .int .i64 e.av, .int .i64 e.an, .int .i64 e.bv, .int .i64 e.bn] 38)) (.slice none 0 0) (.slice none 0 0) 49
  rw [show ((w.alloc (.cells #[.slice ao ss.length cap] 34)).alloc (.cells #[.int .i64 e.op, .int .i64 e.av, .int .i64 e.an, .int .i64 e.bv, .int .i64 e.bn] 38)).heap.size = w.heap.size + 1 + 1 by simp] at hbp
  generalize ((w.alloc (.cells #[.slice ao ss.length cap] 34)).alloc (.cells #[.int .i64 e.op, .int .i64 e.av, .int .i64 e.an, .int .i64 e.bv, .int .i64 e.bn] 38)).alloc (.cells #[.slice none 0 0, .slice none 0 0] 49) = W0 at *
  refine l12Ok_any _ ss e _ (HH.out.keep hb0) hl HL.out fun w1 hb1 => ?_
  have HB1 : Hid (Below w.heap.size w w1) := hb0.trans (hb1.mono hb0.size)
  have HP1 : Hid (BoxP w1 (w.heap.size + 1 + 1) (.slice none 0 0) (.slice none 0 0)) := hbp.keep hb1
  have p1 := (hbx.keep hb1).p
  have c0 := HP1.out.c0
  have c1 := HP1.out.c1
  have f0 := HP1.out.f0
  have f1 := HP1.out.f1
  have hs1 : w.heap.size + 1 + 1 < w1.heap.size := HP1.out.lt
  have HQ1 : Hid (BoxE w1 w.heap.size ao ss.length cap e) := hbx.keep hb1
  clear hb0 hbx hbp hb1
  cases hok : (okB ss && exprB e)
  · have HR : Hid (PlOr IsBusy ss e [] []) := Or.inr ⟨by simpa using hok, rfl, rfl⟩
    have HBF : Hid (∀ u v, Below w.heap.size w ((w1.setCell ⟨w.heap.size + 1 + 1, 0, none⟩ u).setCell ⟨w.heap.size + 1 + 1, 1, none⟩ v)) := fun u v => (HB1.out.setCell (by show w.heap.size ≤ w.heap.size + 1 + 1; omega) u).setCell (by show w.heap.size ≤ w.heap.size + 1 + 1; omega) v
    clear hok
    go_wp2
    refine bodyPost_ret (v := .agg #[.slice none 0 0, .slice none 0 0]) (by simp [results, Tryz.results36, go_sem, c0, c1]) rfl ?_
    exact HQ.out _ _ _ _ (HBF.out _ _) HR.out (PlaceO.nil _ _ _)
  obtain ⟨hok1, hex1⟩ : okB ss = true ∧ exprB e = true := by simpa using hok
  obtain ⟨hn1, hn2⟩ := ok_len hok1
  have HOK : Hid (okB ss = true) := hok1
  have HEX : Hid (exprB e = true) := hex1
  have q1 : BoxE w1 w.heap.size ao ss.length cap e := HQ1.out
  have s1 : w.heap.size + 1 < w1.heap.size := by omega
  have bv1 : Below w1.heap.size w1 w1 := Below.refl _ _
  have hbA : Below w.heap.size w w1 := HB1.out
  clear hok hok1 hex1 p1 c0 c1 f0 f1
  go_upto_region 3 with fail
  go_cut [5] from 8 (fun s5 wx => ∃ b5 g1 k1 g2 k2 lo2 rs E, s5 = .pointer (some ⟨b5, 0, none⟩) ∧ Below w1.heap.size w1 wx ∧ IsReach ss rs ∧ IsEarly ss e rs E ∧ PX w1.heap.size wx b5 g1 k1 g2 k2 lo2 ss.length E (cF e ss))
  case first =>
    go_region_held3 (fun wx => wx.cell? ⟨w.heap.size, 0, none⟩ = some (.slice ao ss.length cap) ∧ wx.cell? ⟨w.heap.size + 1, 0, none⟩ = some (.int .i64 e.op) ∧ wx.cell? ⟨w.heap.size + 1, 1, none⟩ = some (.int .i64 e.av) ∧ wx.cell? ⟨w.heap.size + 1, 2, none⟩ = some (.int .i64 e.an) ∧ wx.cell? ⟨w.heap.size + 1, 3, none⟩ = some (.int .i64 e.bv) ∧ wx.cell? ⟨w.heap.size + 1, 4, none⟩ = some (.int .i64 e.bn)) (exact BoxE.tot (by repeat (first | assumption | refine BoxE.drw ?_ | refine BoxE.alc ?_ | refine BoxE.str ?_ (by first | (simp; done) | (simp; omega) | omega) (by first | (simp; done) | (simp; omega) | omega)))) (first
      | (go_at_call 72; refine specSafeEarly_any _ ss e _ (HH.out.keep (by repeat (first | assumption | refine Below.drew ?_ | refine Below.alloc ?_ (by first | omega | (simp; done) | (simp; omega)) _))) hl HL.out ?_; intro va bsa wa hba hsa howna; have qa : BoxE wa w.heap.size ao ss.length cap e := BoxE.keep (by first | assumption | exact BoxE.drw (by assumption) | exact BoxE.alc (by assumption) | exact BoxE.drw (BoxE.alc (by assumption))) hba; obtain ⟨rs, E, hre, hE, hbs⟩ := hsa.okay HOK.out HEX.out; subst hbs; obtain ⟨g1, k1, hva, hf1⟩ := BoolF.of_row hn1 howna; subst hva; have lt1 := hf1.lt; (try simp at lt1); (try simp only [World.size_alloc, World.size_drew] at hf1); have bwa : Below w.heap.size w wa := Below.stq hba (by first | omega | (simp; done) | (simp; omega)) (by repeat (first | assumption | refine Below.drew ?_ | refine Below.alloc ?_ (by first | omega | (simp; done) | (simp; omega)) _)); have bva : Below w1.heap.size w1 wa := Below.stq hba (by first | omega | (simp; done) | (simp; omega)) (by repeat (first | assumption | refine Below.drew ?_ | refine Below.alloc ?_ (by first | omega | (simp; done) | (simp; omega)) _)); have zsa : w1.heap.size ≤ wa.heap.size := bva.size; (try (have ax0 : BoxP wa (w1.heap.size) (.slice none 0 0) (.slice none 0 0) := BoxP.keep (by first | assumption | exact BoxP.new _ _ _ _ | exact BoxP.alc (BoxP.new _ _ _ _) | exact BoxP.alc (by assumption) | exact BoxP.drw (by assumption) | exact BoxP.drw (BoxP.new _ _ _ _) | exact BoxP.drw (BoxP.alc (BoxP.new _ _ _ _)) | exact BoxP.drw (BoxP.alc (by assumption))) hba; have ac0 := ax0.c0; have ad0 := ax0.c1; have af0 := ax0.f0; have ag0 := ax0.f1; have al0 : w1.heap.size < wa.heap.size := ax0.lt; have an0 : ¬ w1.heap.size = wa.heap.size := Nat.ne_of_lt al0)))
      | (go_at_call 46; refine specComp_u _ ss e _ (HH.out.keep (by repeat (first | assumption | refine Below.drew ?_ | refine Below.alloc ?_ (by first | omega | (simp; done) | (simp; omega)) _))) hl HL.out ?_; intro vz csz wz hbz hcz hownz; have qz : BoxE wz w.heap.size ao ss.length cap e := BoxE.keep (by first | assumption | exact BoxE.drw (by assumption) | exact BoxE.alc (by assumption) | exact BoxE.drw (BoxE.alc (by assumption))) hbz; have hcs := hcz.list HOK.out HEX.out; subst hcs; obtain ⟨g2, k2, hvz, hf2⟩ := BoolF.of_row hn1 hownz; subst hvz; have lt2 := hf2.lt; (try simp at lt2); (try simp only [World.size_alloc] at hf2); have bwz : Below w.heap.size w wz := Below.stq hbz (by first | omega | (simp; done) | (simp; omega)) (by repeat (first | assumption | refine Below.drew ?_ | refine Below.alloc ?_ (by first | omega | (simp; done) | (simp; omega)) _)); have bvz : Below w1.heap.size w1 wz := Below.stq hbz (by first | omega | (simp; done) | (simp; omega)) (by repeat (first | assumption | refine Below.drew ?_ | refine Below.alloc ?_ (by first | omega | (simp; done) | (simp; omega)) _)); have zsz : wa.heap.size ≤ wz.heap.size := (by have := hbz.size; (try simp at this); omega); have hf1z := BoolF.keep (by first | exact hf1 | exact BoolF.keep hf1 ((Below.refl _ _).alloc (Nat.le_refl _) _) | exact hf1) hbz; (try (have zx0 : BoxP wz (w1.heap.size) (.slice none 0 0) (.slice none 0 0) := BoxP.keep (by first | assumption | exact BoxP.new _ _ _ _ | exact BoxP.alc (BoxP.new _ _ _ _) | exact BoxP.alc (by assumption) | exact BoxP.drw (by assumption) | exact BoxP.drw (BoxP.new _ _ _ _) | exact BoxP.drw (BoxP.alc (BoxP.new _ _ _ _)) | exact BoxP.drw (BoxP.alc (by assumption))) hbz; have zc0 := zx0.c0; have zd0 := zx0.c1; have zf0 := zx0.f0; have zg0 := zx0.f1; have zl0 : w1.heap.size < wz.heap.size := zx0.lt; have zn0 : ¬ w1.heap.size = wz.heap.size := Nat.ne_of_lt zl0)); (try (have zx1 : BoxP wz (wa.heap.size) (.slice none 0 0) (.slice none 0 0) := BoxP.keep (by first | assumption | exact BoxP.new _ _ _ _ | exact BoxP.alc (BoxP.new _ _ _ _) | exact BoxP.alc (by assumption) | exact BoxP.drw (by assumption) | exact BoxP.drw (BoxP.new _ _ _ _) | exact BoxP.drw (BoxP.alc (BoxP.new _ _ _ _)) | exact BoxP.drw (BoxP.alc (by assumption))) hbz; have zc1 := zx1.c0; have zd1 := zx1.c1; have zf1 := zx1.f0; have zg1 := zx1.f1; have zl1 : wa.heap.size < wz.heap.size := zx1.lt; have zn1 : ¬ wa.heap.size = wz.heap.size := Nat.ne_of_lt zl1))))
    all_goals
      go_wp2_with fail
      go_meet
      first
      | exact ⟨_, g1, k1, g2, k2, _, rs, E, rfl, (by repeat (first | assumption | refine Below.drew ?_ | refine Below.alloc ?_ (by first | omega | (simp; done) | (simp; omega)) _ | refine Below.setCell ?_ (by first | omega | (simp; done) | (simp; omega)) _)), hre, hE, PX.last hf1z hf2 (by first | omega | (simp; done) | (simp; omega)) (by first | omega | (simp; done) | (simp; omega))⟩
      | exact ⟨_, g1, k1, g2, k2, _, rs, E, rfl, (by repeat (first | assumption | refine Below.drew ?_ | refine Below.alloc ?_ (by first | omega | (simp; done) | (simp; omega)) _ | refine Below.setCell ?_ (by first | omega | (simp; done) | (simp; omega)) _)), hre, hE, PX.drw (PX.last hf1z hf2 (by first | omega | (simp; done) | (simp; omega)) (by first | omega | (simp; done) | (simp; omega)))⟩
      | exact ⟨_, g1, k1, g2, k2, _, rs, E, rfl, (by repeat (first | assumption | refine Below.drew ?_ | refine Below.alloc ?_ (by first | omega | (simp; done) | (simp; omega)) _ | refine Below.setCell ?_ (by first | omega | (simp; done) | (simp; omega)) _)), hre, hE, PX.early (by assumption) hf1z hf2 (by first | omega | (simp; done) | (simp; omega)) (by first | omega | (simp; done) | (simp; omega)) (by first | omega | (simp; done) | (simp; omega)) (by first | omega | (simp; done) | (simp; omega))⟩
      | exact ⟨_, g1, k1, g2, k2, _, rs, E, rfl, (by repeat (first | assumption | refine Below.drew ?_ | refine Below.alloc ?_ (by first | omega | (simp; done) | (simp; omega)) _ | refine Below.setCell ?_ (by first | omega | (simp; done) | (simp; omega)) _)), hre, hE, PX.drw (PX.early (by assumption) hf1z hf2 (by first | omega | (simp; done) | (simp; omega)) (by first | omega | (simp; done) | (simp; omega)) (by first | omega | (simp; done) | (simp; omega)) (by first | omega | (simp; done) | (simp; omega)))⟩
  case rest =>
    obtain ⟨b5, g1, k1, g2, k2, lo2, rs, E, rfl, hbv, hre, hE, hpx⟩ := hcut
    have HB3 : Hid (Below w.heap.size w wc) := hbA.trans (hbv.mono hbA.size)
    have HX3 : Hid (PX w1.heap.size wc b5 g1 k1 g2 k2 lo2 ss.length E (cF e ss)) := hpx
    have HP3 : Hid (BoxP wc (w.heap.size + 1 + 1) (.slice none 0 0) (.slice none 0 0)) := HP1.out.keep hbv
    have HQ3 : Hid (BoxE wc w.heap.size ao ss.length cap e) := q1.keep hbv
    have HRE : Hid (IsReach ss rs) := hre
    have HE : Hid (IsEarly ss e rs E) := hE
    clear hbv hre hE hpx q1 bv1 hbA
    generalize wc = w3 at *
    have p3 := HQ3.out.p
    go_wp2_with fail
    refine specReach_yes _ ss _ (HH.out.keep HB3.out) HOK.out fun v5 rs5 w5 hb5 hre5 hown5 => ?_
    obtain rfl := hre5.unique HRE.out
    have hlr : rs5.length = ss.length := hre5.1
    obtain ⟨ao5, g5, cap5, hv5, hrow5⟩ := (BoolsOwn.of (bs := rs5) (by rw [hlr]; exact hown5)).read
    subst hv5
    obtain rfl := (hrow5 0 (by omega)).1
    have HX5 : Hid (PX w1.heap.size w5 b5 g1 k1 g2 k2 lo2 ss.length E (cF e ss)) := HX3.out.keep hb5
    have HP5 : Hid (BoxP w5 (w.heap.size + 1 + 1) (.slice none 0 0) (.slice none 0 0)) := HP3.out.keep hb5
    have HQ5 : Hid (BoxE w5 w.heap.size ao ss.length cap e) := HQ3.out.keep hb5
    have HB5 : Hid (Below w.heap.size w w5) := HB3.out.trans (hb5.mono HB3.out.size)
    have hg2 : g2 < w3.heap.size := HX3.out.r2.lt.2
    have hg5 : w3.heap.size ≤ g5 := (hrow5 0 (by omega)).2.2.2.1
    have HRW : Hid (∀ i, i < ss.length → w5.cell? ⟨g5, i, none⟩ = some (.bool (rF rs5 i))) := fun i hi => (hrow5 i (by omega)).2.1
    have hl2 := HX3.out.l1
    have hl3 := HX3.out.l3
    have hlg := HX3.out.r2.lt
    have hlg1 := HX3.out.r1.lt
    have hgl := HX3.out.l2
    have hbn := HX3.out.n2
    have hbl : b5 < w3.heap.size := HX3.out.bx.lt
    clear hb5 hre5 hown5 hrow5 HX3 HP3 HQ3 HB3 p3
    try rw [hlr]
    go_wp2_with fail
    go_loopw [7] (fun i wr => ∃ k : Nat, k ≤ ss.length ∧ i = .int .i64 k ∧ BoolF lo2 wr g2 k2 ss.length (fun j => if j < k then cF e ss j && rF rs5 j else cF e ss j) ∧ Out g2 (g2 + 1) w5 wr) (fun i _ => ss.length - (intOf i).toNat)
    case atStart => exact ⟨0, Nat.zero_le _, rfl, HX5.out.r2.congr fun j _ => by simp, Out.refl _ _ _⟩
    case round =>
      obtain ⟨x, hx, rfl, hbf, ho⟩ := hrel
      have HBF : Hid (BoolF lo2 wr g2 k2 ss.length (fun j => if j < x then cF e ss j && rF rs5 j else cF e ss j)) := hbf
      have HO : Hid (Out g2 (g2 + 1) w5 wr) := ho
      clear hbf ho
      have cq := HO.out.cell HQ5.out.p (Or.inl (by show w.heap.size < g2; omega))
      have b1 := HO.out.cell HX5.out.bx.c1 (by show b5 < g2 ∨ g2 + 1 ≤ b5; omega)
      by_cases hxl : x < ss.length
      · have hxi : (x : Int) < (ss.length : Int) := by omega
        have cf := HBF.out.cell hxl
        have ff := HBF.out.frozen x
        rw [if_neg (by omega)] at cf
        have cr := HO.out.cell (HRW.out x hxl) (Or.inr (by show g2 + 1 ≤ g5; omega))
        have HN : Hid (BoolF lo2 (wr.setCell ⟨g2, x, none⟩ (.bool (cF e ss x && rF rs5 x))) g2 k2 ss.length (fun j => if j < x + 1 then cF e ss j && rF rs5 j else cF e ss j)) := (HBF.out.set x _).congr fun j _ => by
          by_cases e1 : j = x
          · subst e1; simp
          · by_cases e2 : j < x
            · have : j < x + 1 := by omega
              simp [e1, e2, this]
            · have : ¬ j < x + 1 := by omega
              simp [e1, e2, this]
        have HNO : Hid (Out g2 (g2 + 1) w5 (wr.setCell ⟨g2, x, none⟩ (.bool (cF e ss x && rF rs5 x)))) := HO.out.setCell (Nat.le_refl _) (by show g2 < g2 + 1; omega) _
        clear HBF HO
        cases hc : cF e ss x
        · rw [hc] at cf
          rw [hc, Bool.false_and] at HN HNO
          clear hc
          go_wp2_with fail
          first
          | (go_region_law (fail))
          | fail
          all_goals
            go_wp2
            go_roundw
            case rel => exact ⟨x + 1, by omega, by go_num, HN.out.drewN _, ⟨HNO.out.os, HNO.out.tape, HNO.out.output, HNO.out.size, HNO.out.block⟩⟩
            case measure => simp [intOf]; omega
        · rw [hc] at cf
          rw [hc, Bool.true_and] at HN HNO
          clear hc
          generalize rF rs5 x = rx at *
          go_wp2_with fail
          go_region_law (fail)
          all_goals
            go_wp2
            go_roundw
            case rel => exact ⟨x + 1, by omega, by go_num, HN.out.drewN _, ⟨HNO.out.os, HNO.out.tape, HNO.out.output, HNO.out.size, HNO.out.block⟩⟩
            case measure => simp [intOf]; omega
      · have hxi : ¬ (x : Int) < (ss.length : Int) := by omega
        obtain rfl : x = ss.length := by omega
        have HBE : Hid (BoolF lo2 wr g2 k2 ss.length (fun j => cF e ss j && rF rs5 j)) := HBF.out.congr fun j hj => by simp [hj]
        have HB1E : Hid (BoolF w1.heap.size wr g1 k1 ss.length E) := HX5.out.r1.oth HO.out (Or.inl (by omega))
        have hpr := HP5.out.oth HO.out (Or.inl (by omega))
        have r0 := hpr.c0
        have r1 := hpr.c1
        have r2 := hpr.f0
        have r3 := hpr.f1
        have b0 := HO.out.cell HX5.out.bx.c0 (by show b5 < g2 ∨ g2 + 1 ≤ b5; omega)
        have HBW : Hid (Below w.heap.size w wr) := HB5.out.trans (HO.out.below (by omega) HB5.out.size)
        have HPL : Hid (PlOr IsBusy ss e ((List.range ss.length).map E) ((List.range ss.length).map fun j => cF e ss j && rF rs5 j)) := Or.inl ⟨HOK.out, HEX.out, rs5, E, _, HRE.out, ⟨HE.out, fun i _ => rfl⟩, rfl, rfl⟩
        have HFN : Hid (∀ u u', PlaceO w.heap.size ((wr.setCell ⟨w.heap.size + 1 + 1, 0, none⟩ u).setCell ⟨w.heap.size + 1 + 1, 1, none⟩ u').heap.size ((wr.setCell ⟨w.heap.size + 1 + 1, 0, none⟩ u).setCell ⟨w.heap.size + 1 + 1, 1, none⟩ u') (.agg #[.slice (some ⟨g1, 0, none⟩) ss.length k1, .slice (some ⟨g2, 0, none⟩) ss.length k2]) ((List.range ss.length).map E) ((List.range ss.length).map fun j => cF e ss j && rF rs5 j) ∧ Below w.heap.size w ((wr.setCell ⟨w.heap.size + 1 + 1, 0, none⟩ u).setCell ⟨w.heap.size + 1 + 1, 1, none⟩ u')) := fun u u' => by
          have hou : Out (w.heap.size + 1 + 1) (w.heap.size + 1 + 1 + 1) wr ((wr.setCell ⟨w.heap.size + 1 + 1, 0, none⟩ u).setCell ⟨w.heap.size + 1 + 1, 1, none⟩ u') := ((Out.refl _ _ _).setCell (p := ⟨w.heap.size + 1 + 1, 0, none⟩) (Nat.le_refl _) (Nat.lt_succ_self _) _).setCell (p := ⟨w.heap.size + 1 + 1, 1, none⟩) (Nat.le_refl _) (Nat.lt_succ_self _) _
          exact ⟨PlaceO.rowsF (HB1E.out.oth hou (Or.inr (by omega))) (HBE.out.oth hou (Or.inr (by omega))) (by omega) (by omega) (by omega), HBW.out.trans (hou.below (by omega) HBW.out.size)⟩
        clear HBF HO hpr
        go_wp2
        refine bodyPost_ret (v := .agg #[.slice (some ⟨g1, 0, none⟩) ss.length k1, .slice (some ⟨g2, 0, none⟩) ss.length k2]) (by simp [results, Tryz.results36, go_sem, r0, r1]) rfl ?_
        exact HQ.out _ _ _ _ (HFN.out _ _).2 HPL.out (HFN.out _ _).1
end Go.Proofs.YtacgfbcfkjflmaaGreat
