/- What the model's SafeEarly answers. What the model's SafeDelay answers. What the model's SafeLate answers. What the model's SafeAlone answers. -/
import Derived.Test.YtajgioeifhgfhaaGreatDoorSpecSD
import Derived.Test.YtajgioeifhgfhaaGreatDoorSpecSU
namespace Go.Proofs.YtajgioeifhgfhaaGreatDoor
open Go.RowKit

theorem BoolF.set {lo g cap n : Nat} {w : World} {f : Nat → Bool} (h : BoolF lo w g cap n f) (x : Nat) (u : Bool) : BoolF lo (w.setCell ⟨g, x, none⟩ (.bool u)) g cap n (fun j => if j = x then u else f j) := by
  have h1 := (World.ownsRow.stored h x (.bool u)).1
  unfold BoolF
  have e : (List.range n).map (fun j => Value.bool (if j = x then u else f j)) = ((List.range n).map (fun j => Value.bool (f j))).set x (.bool u) := by
    apply List.ext_getElem?
    intro j
    rw [List.getElem?_set, List.getElem?_map, List.getElem?_map]
    by_cases hj : j < n
    · by_cases e : x = j
      · subst e
        simp [hj]
      · have : ¬ j = x := fun h => e h.symm
        simp [hj, e, this]
    · have e1 : (List.range n)[j]? = none := List.getElem?_eq_none (by simp; omega)
      rw [e1]
      by_cases e : x = j
      · subst e; simp [hj]
      · simp [e]
  rw [e]
  exact h1

/-- A row that a function of chapter 12 answers, of a program and a reckoning that are ok. -/
theorem BoolF.of_row {lo n : Nat} {w : World} {v : Value} {f : Nat → Bool} (h1 : 0 < n) (h : w.ownsRow lo 4 1 v ((List.range n).map f).length (((List.range n).map f).map Value.bool)) : ∃ g cap, v = .slice (some ⟨g, 0, none⟩) n cap ∧ BoolF lo w g cap n f := by
  rw [List.length_map, List.length_range, List.map_map] at h
  obtain ⟨g, cap, hv, _, _⟩ := h.form h1
  subst hv
  exact ⟨g, cap, rfl, h⟩

theorem BoolF.row {lo g cap n : Nat} {w : World} {f : Nat → Bool} (h : BoolF lo w g cap n f) {lo' : Nat} (hl : lo' ≤ lo) : w.ownsRow lo' 4 1 (.slice (some ⟨g, 0, none⟩) n cap) ((List.range n).map f).length (((List.range n).map f).map Value.bool) := by
  rw [List.length_map, List.length_range, List.map_map]
  exact own_lower h hl

/-- Some of the first k is not so. -/
def notTo (zs : List Int) (f : Nat → Bool) (k : Nat) : Bool := (zs.take k).any (fun y => !f y.toNat)

theorem notTo_succ {zs : List Int} {f : Nat → Bool} {k : Nat} (hk : k < zs.length) : notTo zs f (k + 1) = (notTo zs f k || !f (zs.getD k 0).toNat) := by
  unfold notTo
  rw [List.take_add_one, List.getElem?_eq_getElem hk, List.any_append, List.getD_eq_getElem?_getD, List.getElem?_eq_getElem hk]
  simp

theorem notTo_all (zs : List Int) (f : Nat → Bool) : notTo zs f zs.length = !allI zs f := by
  unfold notTo allI
  rw [List.take_length, List.not_all_eq_any_not]

set_option maxRecDepth 100000 in
set_option maxHeartbeats 8000000 in
theorem specSafeEarly_any {Q : Ending → World → Prop} (v : Value) (ss : List St) (e : E5) (w : World) (h : StepsAt w v ss) (hl : ss.length ≤ 1048576) (hls : ∀ s ∈ ss, s.next.length ≤ 1048576)
    (hQ : ∀ v' bs w', Below w.heap.size w w' → SafeOr IsEarly ss e bs → w'.ownsRow w.heap.size 4 1 v' bs.length (bs.map Value.bool) → Q (.returned v') w') :
    Calls Tryz.prog 30 #[.agg #[v], .agg #[.int .i64 e.op, .int .i64 e.av, .int .i64 e.an, .int .i64 e.bv, .int .i64 e.bn]] w Q := by
  have HQ : Hid _ := hQ
  clear hQ
  obtain ⟨ao, b, o, cap, rfl, ha, hc⟩ := id h
  have HH : Hid (StepsAt w (.slice ao ss.length cap) ss) := h
  have HL : Hid (∀ s ∈ ss, s.next.length ≤ 1048576) := hls
  clear ha hc h hls
  go_enter Tryz.func30, Tryz.ntmps30
  go_wp2_with fail
  have hb0 : Below w.heap.size w ((w.alloc (.cells #[.slice ao ss.length cap] 25)).alloc (.cells #[.int .i64 e.op, .int .i64 e.av, .int .i64 e.an, .int .i64 e.bv, .int .i64 e.bn] 29)) := ((Below.refl _ _).alloc (Nat.le_refl _) _).alloc (by simp) _
  have hbx := BoxE.new w ao ss.length cap e 25 29
  generalize (w.alloc (.cells #[.slice ao ss.length cap] 25)).alloc (.cells #[.int .i64 e.op, .int .i64 e.av, .int .i64 e.an, .int .i64 e.bv, .int .i64 e.bn] 29) = W0 at *
  refine specSafeDown_any _ ss e _ (HH.out.keep hb0) hl HL.out fun v1 bs1 w1 hb1 hs1 hown1 => ?_
  have HB1 : Hid (Below w.heap.size w w1) := hb0.trans (hb1.mono hb0.size)
  have HX1 : Hid (BoxE w1 w.heap.size ao ss.length cap e) := hbx.keep hb1
  have HO1 : Hid (w1.ownsRow w.heap.size 4 1 v1 bs1.length (bs1.map Value.bool)) := own_lower hown1 hb0.size
  have HX0 : Hid (w.heap.size + 1 < W0.heap.size) := cell_lt hbx.c0
  have HGL : Hid (∀ k, v1.ownBlock = some k → W0.heap.size ≤ k) := fun k hk => (hown1.lt k hk).1
  clear hb0 hbx hb1 hown1
  rcases hs1 with ⟨hok, hex, rs, d, hre, hd, rfl⟩ | ⟨hno, rfl⟩
  · have HOK : Hid (okB ss = true) := hok
    have HEX : Hid (exprB e = true) := hex
    have HRE : Hid (IsReach ss rs) := hre
    have HD : Hid (IsDown ss e rs d) := hd
    obtain ⟨hn1, hn2⟩ := ok_len hok
    obtain ⟨g, c2, rfl, hf1⟩ := BoolF.of_row hn1 HO1.out
    have HF1 : Hid (BoolF w.heap.size w1 g c2 ss.length d) := hf1
    have hgw : w.heap.size + 2 ≤ g := by have := HGL.out g rfl; have := HX0.out; omega
    clear hok hex hre hd hf1 HO1
    have hni : ¬ (ss.length : Int) = 0 := by omega
    have hnb : ((ss.length : Int) == 0) = false := beq_eq_false_iff_ne.2 hni
    have p1 := HX1.out.p
    have x10 := HX1.out.c0
    have x11 := HX1.out.c1
    have x12 := HX1.out.c2
    have x13 := HX1.out.c3
    have x14 := HX1.out.c4
    go_wp2_with fail
    refine specSafeDown_any _ ss e _ (HH.out.keep HB1.out) hl HL.out fun v2 bs2 w2 hb2 hs2 hown2 => ?_
    obtain rfl : bs2 = (List.range ss.length).map d := SafeOr.unique IsDown.unique hs2 (Or.inl ⟨HOK.out, HEX.out, rs, d, HRE.out, HD.out, rfl⟩)
    obtain ⟨g2, c22, rfl, hf2⟩ := BoolF.of_row hn1 hown2
    have HB2 : Hid (Below w.heap.size w w2) := HB1.out.trans (hb2.mono HB1.out.size)
    have HX2 : Hid (BoxE w2 w.heap.size ao ss.length cap e) := HX1.out.keep hb2
    have HF12 : Hid (BoolF w.heap.size w2 g c2 ss.length d) := HF1.out.keep hb2
    have HF2 : Hid (BoolF w1.heap.size w2 g2 c22 ss.length d) := hf2
    have hg12 : g < g2 := by have := HF1.out.lt; have := hf2.lt; omega
    have p2 := HX2.out.p
    have x20 := HX2.out.c0
    have x21 := HX2.out.c1
    have x22 := HX2.out.c2
    have x23 := HX2.out.c3
    have x24 := HX2.out.c4
    clear hb2 hs2 hown2 hf2 p1 x10 x11 x12 x13 x14 HX1 HF1
    go_wp2_with fail
    refine specSafeUp_any _ ss e _ (HH.out.keep HB2.out) hl HL.out fun v3 bs3 w3 hb3 hs3 hown3 => ?_
    obtain ⟨u, hu, rfl⟩ : ∃ u, IsUp ss e rs u ∧ bs3 = (List.range ss.length).map u := by
      rcases hs3 with ⟨_, _, rs', u, k1, k2, k3⟩ | ⟨k1, _⟩
      · obtain rfl := HRE.out.unique k1
        exact ⟨u, k2, k3⟩
      · exact absurd ⟨HOK.out, HEX.out⟩ k1
    have HU : Hid (IsUp ss e rs u) := hu
    obtain ⟨g3, c33, rfl, hf3⟩ := BoolF.of_row hn1 hown3
    have HB3 : Hid (Below w.heap.size w w3) := HB2.out.trans (hb3.mono HB2.out.size)
    have HX3 : Hid (BoxE w3 w.heap.size ao ss.length cap e) := HX2.out.keep hb3
    have HF13 : Hid (BoolF w.heap.size w3 g c2 ss.length d) := HF12.out.keep hb3
    have HF23 : Hid (BoolF w1.heap.size w3 g2 c22 ss.length d) := HF2.out.keep hb3
    have HF3 : Hid (BoolF w2.heap.size w3 g3 c33 ss.length u) := hf3
    have hg13 : g < g3 := by have := HF12.out.lt; have := hf3.lt; omega
    have p3 := HX3.out.p
    have x30 := HX3.out.c0
    have x31 := HX3.out.c1
    have x32 := HX3.out.c2
    have x33 := HX3.out.c3
    have x34 := HX3.out.c4
    clear hb3 hs3 hown3 hf3 hu p2 x20 x21 x22 x23 x24 HX2 HF12 HF2
    go_wp2_with fail
    refine specKeeps_u _ ss e _ (HH.out.keep HB3.out) hl HL.out fun v4 ks w4 hb4 hks hown4 => ?_
    obtain ⟨hkl, hkg⟩ := hks.get HOK.out HEX.out
    obtain ⟨g4, c4, hv4, _, _⟩ := hown4.form (by omega)
    subst hv4
    rw [hkl] at hown4
    have HB4 : Hid (Below w.heap.size w w4) := HB3.out.trans (hb4.mono HB3.out.size)
    have HX4 : Hid (BoxE w4 w.heap.size ao ss.length cap e) := HX3.out.keep hb4
    have HF14 : Hid (BoolF w.heap.size w4 g c2 ss.length d) := HF13.out.keep hb4
    have hg14 : g < g4 := by have := HF13.out.lt; have := World.ownsRow.lt hown4 g4 rfl; omega
    have HCC4 : Hid (∀ i, i < ss.length → w4.cell? ⟨g2, i, none⟩ = some (.bool (d i)) ∧ w4.cell? ⟨g3, i, none⟩ = some (.bool (u i)) ∧ w4.cell? ⟨g4, i, none⟩ = some (.bool (kF e ss i))) := fun i hi => by
      have a2 := (World.ownsRow.cellAt hown4 i (by omega)).trans (show (ks.map Value.bool)[i]? = some (.bool (ks.getD i false)) by
        have : i < ks.length := by omega
        simp [this])
      rw [hkg i hi, ← kF_get hi] at a2
      exact ⟨cell_keep hb4 (HF23.out.cell hi), cell_keep hb4 (HF3.out.cell hi), a2⟩
    have p4 := HX4.out.p
    clear hb4 hks hown4 hkg p3 x30 x31 x32 x33 x34 HX3 HF13 HF23 HF3
    rw [hkl]
    clear hkl
    go_wp2_with fail
    refine specPreds_any _ ss _ (HH.out.keep HB4.out) hl HL.out fun v5 zss w5 hb5 hzs hrw5 => ?_
    have HZ : Hid (zss = predsL ss rs) := by
      rcases hzs with ⟨_, rs', h1, h2⟩ | ⟨h1, _⟩
      · rw [h1.unique HRE.out] at h2
        exact h2
      · rw [HOK.out] at h1
        cases h1
    obtain ⟨A5, c5, hv5⟩ := hrw5.slice
    subst hv5
    obtain rfl := HZ.out
    have hplen : (predsL ss rs).length = ss.length := by simp [predsL]
    have HB5 : Hid (Below w.heap.size w w5) := HB4.out.trans (hb5.mono HB4.out.size)
    have HF15 : Hid (BoolF w.heap.size w5 g c2 ss.length d) := HF14.out.keep hb5
    have HCC : Hid (∀ i, i < ss.length → w5.cell? ⟨g2, i, none⟩ = some (.bool (d i)) ∧ w5.cell? ⟨g3, i, none⟩ = some (.bool (u i)) ∧ w5.cell? ⟨g4, i, none⟩ = some (.bool (kF e ss i))) := fun i hi => ⟨cell_keep hb5 (HCC4.out i hi).1, cell_keep hb5 (HCC4.out i hi).2.1, cell_keep hb5 (HCC4.out i hi).2.2⟩
    have HRW : Hid (RowsI w4.heap.size w5.heap.size w5 (.slice A5 (predsL ss rs).length c5) (predsL ss rs)) := hrw5
    have hgl4 : g < w4.heap.size := HF14.out.lt.2
    clear hb5 hzs hrw5 p4 HX4 HF14 HCC4
    obtain ⟨E, hE⟩ : ∃ E, E = earlyB (kF e ss) d u (pF ss rs) := ⟨_, rfl⟩
    have HED : Hid (E = earlyB (kF e ss) d u (pF ss rs)) := hE
    have HE0 : Hid (E 0 = d 0) := by rw [Hid, hE]; simp [earlyB]
    clear hE
    have HIS : Hid (IsEarly ss e rs E) := ⟨d, u, HD.out, HU.out, fun i _ => by rw [HED.out]⟩
    go_wp2_with fail
    go_loopw [10, 11, 12, 13] (fun i _ _ _ wr => ∃ k : Nat, 1 ≤ k ∧ k ≤ ss.length ∧ i = .int .i64 k ∧ BoolF w.heap.size wr g c2 ss.length (fun j => if j < k then E j else d j) ∧ Out g (g + 1) w5 wr) (fun i _ _ _ _ => ss.length - (intOf i).toNat)
    case atStart =>
      refine ⟨1, Nat.le_refl _, hn1, rfl, HF15.out.congr fun j _ => ?_, Out.refl _ _ _⟩
      by_cases h1 : j < 1
      · obtain rfl : j = 0 := by omega
        simp [HE0.out]
      · simp [h1]
    case round =>
      clear HF15
      obtain ⟨x, hx1, hx, rfl, hbf, ho⟩ := hrel
      have HBF : Hid (BoolF w.heap.size wr g c2 ss.length (fun j => if j < x then E j else d j)) := hbf
      have HO : Hid (Out g (g + 1) w5 wr) := ho
      clear hbf ho
      by_cases hxl : x < ss.length
      · have hxi : (x : Int) < (ss.length : Int) := by omega
        obtain ⟨gp, yv, hA5, hcy, ⟨A', c', hyv⟩, hlo, hIO⟩ : ∃ gp, ∃ y : Value, A5 = some ⟨gp, 0, none⟩ ∧ w5.cell? ⟨gp, x, none⟩ = some y ∧ (∃ A c, y = .slice A (pF ss rs x).length c) ∧ w4.heap.size ≤ gp ∧ IntsO w4.heap.size w5.heap.size w5 y (pF ss rs x) := by
          obtain ⟨ao', g', cap', hv', hr'⟩ := HRW.out.read
          cases hv'
          obtain ⟨y, A', c', h1, h2, h3, h4⟩ := hr' x (predsK ss rs x ss.length) (by simp [predsL, hxl])
          have hlo : w4.heap.size ≤ g' := by
            obtain ⟨vs, _, hvo, hhi, _⟩ := HRW.out
            rw [h1] at hvo
            exact (World.ownsRow.lt hvo g' rfl).1
          exact ⟨g', y, h1, h2, ⟨A', c', h3⟩, hlo, h4⟩
        subst hA5
        subst hyv
        obtain ⟨ar, gr, capr, har, hcr⟩ := hIO.read
        cases har
        have HCR : Hid (∀ i, i < (pF ss rs x).length → A' = some ⟨gr, 0, none⟩ ∧ w5.cell? ⟨gr, i, none⟩ = some (.int .i64 ((pF ss rs x).getD i 0)) ∧ g + 1 ≤ gr) := fun i hi => ⟨(hcr i hi).1, (hcr i hi).2.1, by have := (hcr i hi).2.2.2.1; omega⟩
        have HCY : Hid (w5.cell? ⟨gp, x, none⟩ = some (.slice A' (pF ss rs x).length c')) := hcy
        have hgp : g + 1 ≤ gp := by omega
        have HEX2 : Hid (E x = (d x && !allI (pF ss rs x) (fun m => kF e ss m && (d m || u m)))) := by
          rw [Hid, HED.out]
          have : ¬ x = 0 := by omega
          simp [earlyB, this]
        have HLX : Hid (∀ y ∈ pF ss rs x, 0 ≤ y ∧ y < (ss.length : Int)) := low_preds ss rs x hxl
        have hpl : (pF ss rs x).length ≤ 60 := Nat.le_trans (predsK_len _ _ _ _) hn2
        have cy0 := HO.out.cell HCY.out (Or.inr (by show g + 1 ≤ gp; omega))
        clear hcr hIO hcy hlo
        generalize pF ss rs x = zs at *
        go_wp2_with fail
        go_loop [11, 12, 13] (fun so kk _ => ∃ k : Nat, k ≤ zs.length ∧ kk = .int .i64 k ∧ so = .bool (notTo zs (fun m => kF e ss m && (d m || u m)) k)) (fun _ kk _ => zs.length - (intOf kk).toNat)
        case atStart => exact ⟨0, Nat.zero_le _, rfl, rfl⟩
        case round =>
          obtain ⟨k, hk, rfl, rfl⟩ := hrel
          by_cases hkl : k < zs.length
          · have hki : (k : Int) < (zs.length : Int) := by omega
            obtain ⟨rfl, hcr, hgr⟩ := HCR.out k hkl
            have hcr2 := HO.out.cell hcr (Or.inr (by show g + 1 ≤ gr; omega))
            have hzm : zs.getD k 0 ∈ zs := by
              rw [List.getD_eq_getElem?_getD, List.getElem?_eq_getElem hkl]
              exact List.getElem_mem hkl
            obtain ⟨z0, z1⟩ := HLX.out _ hzm
            have HNS : Hid (notTo zs (fun m => kF e ss m && (d m || u m)) (k + 1) = (notTo zs (fun m => kF e ss m && (d m || u m)) k || !(kF e ss (zs.getD k 0).toNat && (d (zs.getD k 0).toNat || u (zs.getD k 0).toNat)))) := notTo_succ hkl
            clear hcr hzm
            generalize zs.getD k 0 = z at *
            obtain ⟨m, rfl⟩ := Int.eq_ofNat_of_zero_le z0
            have hm : m < ss.length := by omega
            rw [show ((m : Int)).toNat = m from rfl] at HNS
            have d1 := HO.out.cell (HCC.out m hm).1 (Or.inr (by show g + 1 ≤ g2; omega))
            have d2 := HO.out.cell (HCC.out m hm).2.1 (Or.inr (by show g + 1 ≤ g3; omega))
            have d3 := HO.out.cell (HCC.out m hm).2.2 (Or.inr (by show g + 1 ≤ g4; omega))
            have hmi : (m : Int) < (ss.length : Int) := by omega
            generalize kF e ss m = km at *
            generalize d m = dm at *
            generalize u m = um at *
            generalize notTo zs (fun m => kF e ss m && (d m || u m)) k = s0 at *
            have HN : Hid _ := HNS.out
            clear HNS
            cases s0 <;> cases km <;> cases dm <;> cases um
            all_goals
              go_wp2
              go_round
              case rel => exact ⟨k + 1, by omega, by go_num, by rw [HN.out]; rfl⟩
              case measure => simp [intOf]; omega
          · have hki : ¬ (k : Int) < (zs.length : Int) := by omega
            obtain rfl : k = zs.length := by omega
            rw [notTo_all]
            have cf := HBF.out.cell hxl
            have ff := HBF.out.frozen x
            have HN : Hid (BoolF w.heap.size (wr.setCell ⟨g, x, none⟩ (.bool (E x))) g c2 ss.length (fun j => if j < x + 1 then E j else d j)) := (HBF.out.set x (E x)).congr fun j _ => by
              by_cases e1 : j = x
              · subst e1; simp
              · by_cases e2 : j < x
                · have : j < x + 1 := by omega
                  simp [e1, e2, this]
                · have : ¬ j < x + 1 := by omega
                  simp [e1, e2, this]
            have HNO : Hid (Out g (g + 1) w5 (wr.setCell ⟨g, x, none⟩ (.bool (E x)))) := HO.out.setCell (Nat.le_refl _) (by show g < g + 1; omega) _
            rw [if_neg (by omega)] at cf
            have HEXX : Hid _ := HEX2.out
            rw [Hid] at HEXX
            generalize allI zs (fun m => kF e ss m && (d m || u m)) = al at *
            generalize d x = dx at *
            rw [HEXX] at HN HNO
            clear HEXX HEX2 HBF HO
            cases dx <;> cases al
            all_goals
              go_wp2
              go_roundw
              case rel => exact ⟨x + 1, by omega, by omega, by go_num, HN.out, HNO.out⟩
              case measure => simp [intOf]; omega
      · have hxi : ¬ (x : Int) < (ss.length : Int) := by omega
        obtain rfl : x = ss.length := by omega
        have HBE : Hid (BoolF w.heap.size wr g c2 ss.length E) := HBF.out.congr fun j hj => by simp [hj]
        have HBW : Hid (Below w.heap.size w wr) := HB5.out.trans (HO.out.below (by omega) HB5.out.size)
        have HSF : Hid (SafeOr IsEarly ss e ((List.range ss.length).map E)) := Or.inl ⟨HOK.out, HEX.out, rs, E, HRE.out, HIS.out, rfl⟩
        have HRF : Hid _ := HBE.out.row (Nat.le_refl _)
        go_wp2
        exact HQ.out _ _ _ HBW.out HSF.out HRF.out
  · have HR : Hid (SafeOr IsEarly ss e []) := Or.inr ⟨hno, rfl⟩
    clear hno
    obtain ⟨A1, c1, hv1⟩ : ∃ A1 c1, v1 = .slice A1 0 c1 := by
      rcases id HO1.out.2 with ⟨rfl, _⟩ | ⟨g, cp, cur, e1, _⟩
      · exact ⟨none, 0, rfl⟩
      · exact ⟨_, cp, e1⟩
    subst hv1
    go_wp2
    exact HQ.out _ _ _ HB1.out HR.out HO1.out
end Go.Proofs.YtajgioeifhgfhaaGreatDoor
namespace Go.Proofs.YtajgioeifhgfhaaGreatDoor
open Go.RowKit

/-- Of the first k of a list's places it is so. -/
def allTo (zs : List Int) (f : Nat → Bool) (k : Nat) : Bool := (zs.take k).all (fun y => f y.toNat)

theorem allTo_succ {zs : List Int} {f : Nat → Bool} {k : Nat} (hk : k < zs.length) : allTo zs f (k + 1) = (allTo zs f k && f (zs.getD k 0).toNat) := by
  unfold allTo
  rw [List.take_add_one, List.getElem?_eq_getElem hk, List.all_append, List.getD_eq_getElem?_getD, List.getElem?_eq_getElem hk]
  simp

theorem allTo_all (zs : List Int) (f : Nat → Bool) : allTo zs f zs.length = allI zs f := by
  unfold allTo allI
  rw [List.take_length]

set_option maxRecDepth 100000 in
set_option maxHeartbeats 8000000 in
theorem specSafeDelay_any {Q : Ending → World → Prop} (v : Value) (ss : List St) (e : E5) (w : World) (h : StepsAt w v ss) (hl : ss.length ≤ 1048576) (hls : ∀ s ∈ ss, s.next.length ≤ 1048576)
    (hQ : ∀ v' bs w', Below w.heap.size w w' → SafeOr IsDelay ss e bs → w'.ownsRow w.heap.size 4 1 v' bs.length (bs.map Value.bool) → Q (.returned v') w') :
    Calls Tryz.prog 13 #[.agg #[v], .agg #[.int .i64 e.op, .int .i64 e.av, .int .i64 e.an, .int .i64 e.bv, .int .i64 e.bn]] w Q := by
  have HQ : Hid _ := hQ
  clear hQ
  obtain ⟨ao, b, o, cap, rfl, ha, hc⟩ := id h
  have HA : Hid (0 < ss.length → ao = some ⟨b, o, none⟩) := ha
  have HC : Hid (∀ i s, ss[i]? = some s → ∃ nv, StepCells w b (o + i * 8) s nv ∧ IntsAt w nv s.next) := hc
  have HH : Hid (StepsAt w (.slice ao ss.length cap) ss) := h
  have HL : Hid (∀ s ∈ ss, s.next.length ≤ 1048576) := hls
  clear ha hc h hls
  go_enter Tryz.func13, Tryz.ntmps13
  go_wp2_with fail
  have hb0 : Below w.heap.size w ((w.alloc (.cells #[.slice ao ss.length cap] 25)).alloc (.cells #[.int .i64 e.op, .int .i64 e.av, .int .i64 e.an, .int .i64 e.bv, .int .i64 e.bn] 29)) := ((Below.refl _ _).alloc (Nat.le_refl _) _).alloc (by simp) _
  have hbx := BoxE.new w ao ss.length cap e 25 29
  generalize (w.alloc (.cells #[.slice ao ss.length cap] 25)).alloc (.cells #[.int .i64 e.op, .int .i64 e.av, .int .i64 e.an, .int .i64 e.bv, .int .i64 e.bn] 29) = W0 at *
  refine specSafeEarly_any _ ss e _ (HH.out.keep hb0) hl HL.out fun v1 bs1 w1 hb1 hs1 hown1 => ?_
  have HB1 : Hid (Below w.heap.size w w1) := hb0.trans (hb1.mono hb0.size)
  have HX1 : Hid (BoxE w1 w.heap.size ao ss.length cap e) := hbx.keep hb1
  have HO1 : Hid (w1.ownsRow w.heap.size 4 1 v1 bs1.length (bs1.map Value.bool)) := own_lower hown1 hb0.size
  have HX0 : Hid (w.heap.size + 1 < W0.heap.size) := cell_lt hbx.c0
  have HGL : Hid (∀ k, v1.ownBlock = some k → W0.heap.size ≤ k) := fun k hk => (hown1.lt k hk).1
  clear hb0 hbx hb1 hown1
  rcases hs1 with ⟨hok, hex, rs, d, hre, hd, rfl⟩ | ⟨hno, rfl⟩
  rotate_left
  · have HR : Hid (SafeOr IsDelay ss e []) := Or.inr ⟨hno, rfl⟩
    clear hno
    obtain ⟨A1, c1, hv1⟩ : ∃ A1 c1, v1 = .slice A1 0 c1 := by
      rcases id HO1.out.2 with ⟨rfl, _⟩ | ⟨g, cp, cur, e1, _⟩
      · exact ⟨none, 0, rfl⟩
      · exact ⟨_, cp, e1⟩
    subst hv1
    go_wp2
    exact HQ.out _ _ _ HB1.out HR.out HO1.out
  have HOK : Hid (okB ss = true) := hok
  have HEX : Hid (exprB e = true) := hex
  have HRE : Hid (IsReach ss rs) := hre
  have HD : Hid (IsEarly ss e rs d) := hd
  obtain ⟨hn1, hn2⟩ := ok_len hok
  obtain ⟨g0, c0, rfl, hf1⟩ := BoolF.of_row hn1 HO1.out
  have HE1 : Hid (BoolF w.heap.size w1 g0 c0 ss.length d) := hf1
  have hg0 : w.heap.size + 2 ≤ g0 := by have := HGL.out g0 rfl; have := HX0.out; omega
  clear hok hex hre hd hf1 HO1
  have hni : ¬ (ss.length : Int) = 0 := by omega
  have hnb : ((ss.length : Int) == 0) = false := beq_eq_false_iff_ne.2 hni
  have p1 := HX1.out.p
  have x10 := HX1.out.c0
  have x11 := HX1.out.c1
  have x12 := HX1.out.c2
  have x13 := HX1.out.c3
  have x14 := HX1.out.c4
  go_wp2_with fail
  refine l12All_any _ ss _ (HH.out.keep HB1.out) HOK.out fun g c2 rs2 w2 hb2 hre2 hbf2 => ?_
  obtain rfl : rs2 = rs := hre2.unique HRE.out
  have HF2 : Hid (BoolF w1.heap.size w2 g c2 ss.length (rF rs2)) := hbf2
  have HB2 : Hid (Below w.heap.size w w2) := HB1.out.trans (hb2.mono HB1.out.size)
  have HX2 : Hid (BoxE w2 w.heap.size ao ss.length cap e) := HX1.out.keep hb2
  have HE2 : Hid (BoolF w.heap.size w2 g0 c0 ss.length d) := HE1.out.keep hb2
  have hg01 : g0 < g := by have := HE1.out.lt; have := hbf2.lt; omega
  have p2 := HX2.out.p
  have x20 := HX2.out.c0
  have x21 := HX2.out.c1
  have x22 := HX2.out.c2
  have x23 := HX2.out.c3
  have x24 := HX2.out.c4
  clear hb2 hre2 hbf2 p1 x10 x11 x12 x13 x14 HX1 HE1
  go_wp2_with fail
  refine specComp_u _ ss e _ (HH.out.keep HB2.out) hl HL.out fun v3 cs w3 hb3 hcs hown3 => ?_
  obtain ⟨hcl, hcg⟩ := hcs.get HOK.out HEX.out
  obtain ⟨g3, c3, hv3, _, _⟩ := hown3.form (by omega)
  subst hv3
  rw [hcl] at hown3
  have HF3 : Hid (BoolF w1.heap.size w3 g c2 ss.length (rF rs2)) := HF2.out.keep hb3
  have HB3 : Hid (Below w.heap.size w w3) := HB2.out.trans (hb3.mono HB2.out.size)
  have HX3 : Hid (BoxE w3 w.heap.size ao ss.length cap e) := HX2.out.keep hb3
  have hg3 : g < g3 := by have := HF2.out.lt; have := World.ownsRow.lt hown3 g3 rfl; omega
  have HCE3 : Hid (∀ i, i < ss.length → w3.cell? ⟨g3, i, none⟩ = some (.bool (cF e ss i)) ∧ w3.cell? ⟨g0, i, none⟩ = some (.bool (d i))) := fun i hi => by
    have a1 := (World.ownsRow.cellAt hown3 i (by omega)).trans (show (cs.map Value.bool)[i]? = some (.bool (cs.getD i false)) by
      have : i < cs.length := by omega
      simp [this])
    rw [hcg i hi, ← cF_get hi] at a1
    exact ⟨a1, cell_keep hb3 (HE2.out.cell hi)⟩
  have p3 := HX3.out.p
  have hgw : w.heap.size + 2 ≤ g := by omega
  have hgl3 : g < w3.heap.size := HF3.out.lt.2
  clear hb3 hcs hown3 hcg p2 x20 x21 x22 x23 x24 HX2 HE2 HF2
  rw [hcl]
  clear hcl
  go_wp2_with fail
  refine specPreds_any _ ss _ (HH.out.keep HB3.out) hl HL.out fun v5 zss w5 hb5 hzs hrw5 => ?_
  have HZ : Hid (zss = predsL ss rs2) := by
    rcases hzs with ⟨_, rs', h1, h2⟩ | ⟨h1, _⟩
    · rw [h1.unique HRE.out] at h2
      exact h2
    · rw [HOK.out] at h1
      cases h1
  obtain ⟨A5, c5, hv5⟩ := hrw5.slice
  subst hv5
  obtain rfl := HZ.out
  have hplen : (predsL ss rs2).length = ss.length := by simp [predsL]
  have HB5 : Hid (Below w.heap.size w w5) := HB3.out.trans (hb5.mono HB3.out.size)
  have HF5 : Hid (BoolF w1.heap.size w5 g c2 ss.length (rF rs2)) := HF3.out.keep hb5
  have HCC5 : Hid (∀ i, i < ss.length → w5.cell? ⟨g3, i, none⟩ = some (.bool (cF e ss i)) ∧ w5.cell? ⟨g0, i, none⟩ = some (.bool (d i))) := fun i hi => ⟨cell_keep hb5 (HCE3.out i hi).1, cell_keep hb5 (HCE3.out i hi).2⟩
  have HRW : Hid (RowsI w3.heap.size w5.heap.size w5 (.slice A5 (predsL ss rs2).length c5) (predsL ss rs2)) := hrw5
  clear hb5 hzs hrw5 p3 HX3 HF3 HCE3
  go_wp2_with fail
  have HM0 : Hid (Mono ss.length (delayF (cF e ss) d (pF ss rs2))) := delayF_mono (low_preds ss rs2)
  have HG00 : Hid (GI ss.length (rF rs2) (delayF (cF e ss) d (pF ss rs2)) (rF rs2)) := GI.start _ _ _
  obtain ⟨F, hF⟩ : ∃ F, F = delayF (cF e ss) d (pF ss rs2) := ⟨_, rfl⟩
  have HFD : Hid (F = delayF (cF e ss) d (pF ss rs2)) := hF
  rw [← hF] at HM0 HG00
  have HM : Hid (Mono ss.length F) := HM0.out
  have HG0 : Hid (GI ss.length (rF rs2) F (rF rs2)) := HG00.out
  clear hF HM0 HG00
  have HFIN : Hid (∀ wr f, BoolF w1.heap.size wr g c2 ss.length f → Out g (g + 1) w5 wr → GI ss.length (rF rs2) F f → (∀ i, i < ss.length → f i = true → F f i = true) →
      Below w.heap.size w wr ∧ SafeOr IsDelay ss e ((List.range ss.length).map f) ∧ wr.ownsRow w.heap.size 4 1 (.slice (some ⟨g, 0, none⟩) ss.length c2) ((List.range ss.length).map f).length (((List.range ss.length).map f).map Value.bool)) := fun wr f hbf ho hgi hfx => by
    refine ⟨HB5.out.trans (ho.below (by omega) HB5.out.size), Or.inl ⟨HOK.out, HEX.out, rs2, f, HRE.out, ⟨d, HD.out, ?_⟩, rfl⟩, ?_⟩
    · rw [← HFD.out]
      exact hgi.done hfx
    · rw [List.length_map, List.length_range, List.map_map]
      exact own_lower hbf HB1.out.size
  go_loopw [9, 10, 11, 12] (fun ch _ _ _ wr => ∃ f bo, ch = .bool bo ∧ BoolF w1.heap.size wr g c2 ss.length f ∧ Out g (g + 1) w5 wr ∧ GI ss.length (rF rs2) F f ∧ (bo = false → ∀ i, i < ss.length → f i = true → F f i = true)) (fun ch _ _ _ wr => 2 * cnt (trueAt wr g) ss.length + boolN ch)
  case atStart => exact ⟨rF rs2, true, rfl, HF5.out, Out.refl _ _ _, HG0.out, fun h => by cases h⟩
  case round =>
    clear HF5 HG0
    obtain ⟨f0, bo, rfl, hbf, ho, hgi, hfx⟩ := hrel
    cases bo with
    | false =>
      have HE : Hid _ := HFIN.out wr f0 hbf ho hgi (hfx rfl)
      clear hbf ho hgi hfx
      go_wp2
      exact HQ.out _ _ _ HE.out.1 HE.out.2.1 HE.out.2.2
    | true =>
      have HBF : Hid (BoolF w1.heap.size wr g c2 ss.length f0) := hbf
      have HO : Hid (Out g (g + 1) w5 wr) := ho
      have HP0 : Hid (PassS ss.length (rF rs2) F f0 f0 0 false) := PassS.start hgi
      have HME : Hid (2 * cnt (trueAt wr g) ss.length + boolN (.bool true) = 2 * cnt f0 ss.length + 1) := by rw [Hid, trueAt_F hbf]; rfl
      clear hbf ho hgi hfx
      go_wp2_with fail
      go_loopw [9, 10, 11, 12] (fun ch i _ _ wx => ∃ k f b, k ≤ ss.length ∧ i = .int .i64 (k : Nat) ∧ ch = .bool b ∧ BoolF w1.heap.size wx g c2 ss.length f ∧ Out g (g + 1) w5 wx ∧ PassS ss.length (rF rs2) F f0 f k b) (fun _ i _ _ _ => ss.length - (intOf i).toNat)
      case atStart => exact ⟨0, f0, false, Nat.zero_le _, rfl, rfl, HBF.out, HO.out, HP0.out⟩
      case round =>
        clear HBF HO HP0
        obtain ⟨x, f, bo, hx, rfl, rfl, hbf, ho, hps⟩ := hrel
        have HBF : Hid (BoolF w1.heap.size wr g c2 ss.length f) := hbf
        have HO : Hid (Out g (g + 1) w5 wr) := ho
        have HPS : Hid (PassS ss.length (rF rs2) F f0 f x bo) := hps
        by_cases hxl : x < ss.length
        · have hxi : (x : Int) < (ss.length : Int) := by omega
          obtain ⟨gp, yv, hA5, hcy, ⟨A', c', hyv⟩, hlo, hIO⟩ : ∃ gp, ∃ y : Value, A5 = some ⟨gp, 0, none⟩ ∧ w5.cell? ⟨gp, x, none⟩ = some y ∧ (∃ A c, y = .slice A (pF ss rs2 x).length c) ∧ w3.heap.size ≤ gp ∧ IntsO w3.heap.size w5.heap.size w5 y (pF ss rs2 x) := by
            obtain ⟨ao', g', cap', hv', hr'⟩ := HRW.out.read
            cases hv'
            obtain ⟨y, A', c', h1, h2, h3, h4⟩ := hr' x (predsK ss rs2 x ss.length) (by simp [predsL, hxl])
            have hlo : w3.heap.size ≤ g' := by
              obtain ⟨vs, _, hvo, hhi, _⟩ := HRW.out
              rw [h1] at hvo
              exact (World.ownsRow.lt hvo g' rfl).1
            exact ⟨g', y, h1, h2, ⟨A', c', h3⟩, hlo, h4⟩
          subst hA5
          subst hyv
          obtain ⟨ar, gr, capr, har, hcr⟩ := hIO.read
          cases har
          have HCR : Hid (∀ i, i < (pF ss rs2 x).length → A' = some ⟨gr, 0, none⟩ ∧ w5.cell? ⟨gr, i, none⟩ = some (.int .i64 ((pF ss rs2 x).getD i 0)) ∧ g + 1 ≤ gr) := fun i hi => ⟨(hcr i hi).1, (hcr i hi).2.1, by have := (hcr i hi).2.2.2.1; omega⟩
          have HCY : Hid (w5.cell? ⟨gp, x, none⟩ = some (.slice A' (pF ss rs2 x).length c')) := hcy
          have hgp : g + 1 ≤ gp := by omega
          have HFX : Hid (F f x = (d x || (decide (x ≠ 0) && allI (pF ss rs2 x) (fun m => f m && !cF e ss m)))) := by rw [Hid, HFD.out]; rfl
          have HLX : Hid (∀ y ∈ pF ss rs2 x, 0 ≤ y ∧ y < (ss.length : Int)) := low_preds ss rs2 x hxl
          have hpl : (pF ss rs2 x).length ≤ 60 := Nat.le_trans (predsK_len _ _ _ _) hn2
          have SK : Hid (F f x = true ∨ f x = false → PassS ss.length (rF rs2) F f0 f (x + 1) bo) := fun h => HPS.out.skip fun h1 => by
            rcases h with h | h
            · exact h
            · rw [h1] at h; cases h
          have ST : Hid (f x = true → F f x = false → PassS ss.length (rF rs2) F f0 (offB f x) (x + 1) true) := fun h1 h2 => HPS.out.off HM.out hxl h1 h2
          have cf := hbf.cell hxl
          have ff := hbf.frozen x
          have ce := ho.cell (HCC5.out x hxl).2 (Or.inl (by show g0 < g; omega))
          have HST : Hid (BoolF w1.heap.size (wr.setCell ⟨g, x, none⟩ (.bool false)) g c2 ss.length (offB f x) ∧ Out g (g + 1) w5 (wr.setCell ⟨g, x, none⟩ (.bool false))) := ⟨hbf.off x, ho.setCell (Nat.le_refl _) (by show g < g + 1; omega) _⟩
          have cp := ho.cell HCY.out (Or.inr (by show g + 1 ≤ gp; omega))
          clear hbf ho hps hcr hIO hcy hlo HPS
          generalize pF ss rs2 x = zs at *
          cases hfx : f x
          · rw [hfx] at cf
            have HN : Hid _ := SK.out (Or.inr hfx)
            clear SK ST hfx HFX HST
            go_wp2
            go_roundw
            case rel => exact ⟨x + 1, f, bo, by omega, by go_num, rfl, HBF.out, HO.out, HN.out⟩
            case measure => simp [intOf]; omega
          rw [hfx] at cf
          cases hdx : d x
          rotate_left
          · rw [hdx] at ce
            have HN : Hid _ := SK.out (Or.inl (by rw [HFX.out, hdx]; rfl))
            clear SK ST hfx HFX HST hdx
            go_wp2
            go_roundw
            case rel => exact ⟨x + 1, f, bo, by omega, by go_num, rfl, HBF.out, HO.out, HN.out⟩
            case measure => simp [intOf]; omega
          rw [hdx] at ce
          have HFY : Hid (F f x = (decide (x ≠ 0) && allI zs (fun m => f m && !cF e ss m))) := by rw [Hid, HFX.out, hdx, Bool.false_or]
          have HFT : Hid (f x = true) := hfx
          clear hdx hfx HFX
          by_cases h0 : x = 0
          · have HN : Hid _ := ST.out HFT.out (by rw [HFY.out, h0]; rfl)
            have h0i : ¬ (0 : Int) < (x : Int) := by omega
            have h0n : ¬ 0 < x := by omega
            clear SK ST HFY HFT h0
            go_wp2_with fail
            go_loop [11, 12] (fun gd kk => ∃ k : Nat, k ≤ zs.length ∧ kk = .int .i64 k ∧ gd = .bool false) (fun _ kk => zs.length - (intOf kk).toNat)
            case atStart => exact ⟨0, Nat.zero_le _, rfl, rfl⟩
            case round =>
              obtain ⟨k, hk, rfl, rfl⟩ := hrel
              by_cases hkl : k < zs.length
              · have hki : (k : Int) < (zs.length : Int) := by omega
                go_wp2
                go_round
                case rel => exact ⟨k + 1, by omega, by go_num, rfl⟩
                case measure => simp [intOf]; omega
              · have hki : ¬ (k : Int) < (zs.length : Int) := by omega
                clear HBF HO
                go_wp2
                go_roundw
                case rel => exact ⟨x + 1, offB f x, true, by omega, by go_num, rfl, HST.out.1, HST.out.2, HN.out⟩
                case measure => simp [intOf]; omega
          · have h0i : (0 : Int) < (x : Int) := by omega
            have h0n : 0 < x := by omega
            have HFZ : Hid (F f x = allI zs (fun m => f m && !cF e ss m)) := by rw [Hid, HFY.out, decide_eq_true (show x ≠ 0 from h0), Bool.true_and]
            clear HFY h0
            go_wp2_with fail
            go_loop [11, 12] (fun gd kk => ∃ k : Nat, k ≤ zs.length ∧ kk = .int .i64 k ∧ gd = .bool (allTo zs (fun m => f m && !cF e ss m) k)) (fun _ kk => zs.length - (intOf kk).toNat)
            case atStart => exact ⟨0, Nat.zero_le _, rfl, rfl⟩
            case round =>
              obtain ⟨k, hk, rfl, rfl⟩ := hrel
              by_cases hkl : k < zs.length
              · have hki : (k : Int) < (zs.length : Int) := by omega
                obtain ⟨rfl, hcr, hgr⟩ := HCR.out k hkl
                have hcr2 := HO.out.cell hcr (Or.inr (by show g + 1 ≤ gr; omega))
                have hzm : zs.getD k 0 ∈ zs := by
                  rw [List.getD_eq_getElem?_getD, List.getElem?_eq_getElem hkl]
                  exact List.getElem_mem hkl
                obtain ⟨z0, z1⟩ := HLX.out _ hzm
                have HNS : Hid (allTo zs (fun m => f m && !cF e ss m) (k + 1) = (allTo zs (fun m => f m && !cF e ss m) k && (f (zs.getD k 0).toNat && !cF e ss (zs.getD k 0).toNat))) := allTo_succ hkl
                clear hcr hzm
                generalize zs.getD k 0 = z at *
                obtain ⟨m, rfl⟩ := Int.eq_ofNat_of_zero_le z0
                have hm : m < ss.length := by omega
                rw [show ((m : Int)).toNat = m from rfl] at HNS
                have d1 := HO.out.cell (HCC5.out m hm).1 (Or.inr (by show g + 1 ≤ g3; omega))
                have d2 := HBF.out.cell hm
                have hmi : (m : Int) < (ss.length : Int) := by omega
                generalize cF e ss m = cm at *
                generalize f m = fm at *
                generalize allTo zs (fun m => f m && !cF e ss m) k = s0 at *
                have HN : Hid _ := HNS.out
                clear HNS
                cases s0 <;> cases fm <;> cases cm
                all_goals
                  go_wp2
                  go_round
                  case rel => exact ⟨k + 1, by omega, by go_num, by rw [HN.out]; rfl⟩
                  case measure => simp [intOf]; omega
              · have hki : ¬ (k : Int) < (zs.length : Int) := by omega
                obtain rfl : k = zs.length := by omega
                rw [allTo_all]
                cases hal : allI zs (fun m => f m && !cF e ss m)
                · have HN : Hid _ := ST.out HFT.out (HFZ.out.trans hal)
                  clear SK ST HFZ HFT hal HBF HO
                  go_wp2
                  go_roundw
                  case rel => exact ⟨x + 1, offB f x, true, by omega, by go_num, rfl, HST.out.1, HST.out.2, HN.out⟩
                  case measure => simp [intOf]; omega
                · have HN : Hid _ := SK.out (Or.inl (HFZ.out.trans hal))
                  clear SK ST HFZ HFT hal HST
                  go_wp2
                  go_roundw
                  case rel => exact ⟨x + 1, f, bo, by omega, by go_num, rfl, HBF.out, HO.out, HN.out⟩
                  case measure => simp [intOf]; omega
        · have hxi : ¬ (x : Int) < (ss.length : Int) := by omega
          obtain rfl : x = ss.length := by omega
          clear hbf ho hps
          go_wp2
          go_roundw
          case rel => exact ⟨f, bo, rfl, HBF.out, HO.out, HPS.out.gi, fun h i hi hf => (HPS.out.no h).2 i hi hf⟩
          case measure =>
            have e1 := HME.out
            have e2 := trueAt_F HBF.out
            rw [e1, e2]
            cases bo with
            | false =>
              have e3 := (HPS.out.no rfl).1
              rw [e3]
              simp [boolN]
            | true =>
              have e3 := HPS.out.yes rfl
              simp only [boolN]
              omega
end Go.Proofs.YtajgioeifhgfhaaGreatDoor
namespace Go.Proofs.YtajgioeifhgfhaaGreatDoor
open Go.RowKit

set_option maxRecDepth 100000 in
set_option maxHeartbeats 8000000 in
theorem specSafeLate_any {Q : Ending → World → Prop} (v : Value) (ss : List St) (e : E5) (w : World) (h : StepsAt w v ss) (hl : ss.length ≤ 1048576) (hls : ∀ s ∈ ss, s.next.length ≤ 1048576)
    (hQ : ∀ v' bs w', Below w.heap.size w w' → SafeOr IsLate ss e bs → w'.ownsRow w.heap.size 4 1 v' bs.length (bs.map Value.bool) → Q (.returned v') w') :
    Calls Tryz.prog 5 #[.agg #[v], .agg #[.int .i64 e.op, .int .i64 e.av, .int .i64 e.an, .int .i64 e.bv, .int .i64 e.bn]] w Q := by
  have HQ : Hid _ := hQ
  clear hQ
  obtain ⟨ao, b, o, cap, rfl, ha, hc⟩ := id h
  have HA : Hid (0 < ss.length → ao = some ⟨b, o, none⟩) := ha
  have HC : Hid (∀ i s, ss[i]? = some s → ∃ nv, StepCells w b (o + i * 8) s nv ∧ IntsAt w nv s.next) := hc
  have HH : Hid (StepsAt w (.slice ao ss.length cap) ss) := h
  have HL : Hid (∀ s ∈ ss, s.next.length ≤ 1048576) := hls
  clear ha hc h hls
  go_enter Tryz.func5, Tryz.ntmps5
  go_wp2_with fail
  have hb0 : Below w.heap.size w ((w.alloc (.cells #[.slice ao ss.length cap] 25)).alloc (.cells #[.int .i64 e.op, .int .i64 e.av, .int .i64 e.an, .int .i64 e.bv, .int .i64 e.bn] 29)) := ((Below.refl _ _).alloc (Nat.le_refl _) _).alloc (by simp) _
  have hbx := BoxE.new w ao ss.length cap e 25 29
  generalize (w.alloc (.cells #[.slice ao ss.length cap] 25)).alloc (.cells #[.int .i64 e.op, .int .i64 e.av, .int .i64 e.an, .int .i64 e.bv, .int .i64 e.bn] 29) = W0 at *
  refine specSafeDelay_any _ ss e _ (HH.out.keep hb0) hl HL.out fun v1 bs1 w1 hb1 hs1 hown1 => ?_
  have HB1 : Hid (Below w.heap.size w w1) := hb0.trans (hb1.mono hb0.size)
  have HX1 : Hid (BoxE w1 w.heap.size ao ss.length cap e) := hbx.keep hb1
  have HO1 : Hid (w1.ownsRow w.heap.size 4 1 v1 bs1.length (bs1.map Value.bool)) := own_lower hown1 hb0.size
  have HX0 : Hid (w.heap.size + 1 < W0.heap.size) := cell_lt hbx.c0
  have HGL : Hid (∀ k, v1.ownBlock = some k → W0.heap.size ≤ k) := fun k hk => (hown1.lt k hk).1
  clear hb0 hbx hb1 hown1
  rcases hs1 with ⟨hok, hex, rs, d, hre, hd, rfl⟩ | ⟨hno, rfl⟩
  rotate_left
  · have HR : Hid (SafeOr IsLate ss e []) := Or.inr ⟨hno, rfl⟩
    clear hno
    obtain ⟨A1, c1, hv1⟩ : ∃ A1 c1, v1 = .slice A1 0 c1 := by
      rcases id HO1.out.2 with ⟨rfl, _⟩ | ⟨g, cp, cur, e1, _⟩
      · exact ⟨none, 0, rfl⟩
      · exact ⟨_, cp, e1⟩
    subst hv1
    go_wp2
    exact HQ.out _ _ _ HB1.out HR.out HO1.out
  have HOK : Hid (okB ss = true) := hok
  have HEX : Hid (exprB e = true) := hex
  have HRE : Hid (IsReach ss rs) := hre
  have HD : Hid (IsDelay ss e rs d) := hd
  obtain ⟨hn1, hn2⟩ := ok_len hok
  obtain ⟨g0, c0, rfl, hf1⟩ := BoolF.of_row hn1 HO1.out
  have HE1 : Hid (BoolF w.heap.size w1 g0 c0 ss.length d) := hf1
  have hg0 : w.heap.size + 2 ≤ g0 := by have := HGL.out g0 rfl; have := HX0.out; omega
  clear hok hex hre hd hf1 HO1
  have hni : ¬ (ss.length : Int) = 0 := by omega
  have hnb : ((ss.length : Int) == 0) = false := beq_eq_false_iff_ne.2 hni
  have p1 := HX1.out.p
  have x10 := HX1.out.c0
  have x11 := HX1.out.c1
  have x12 := HX1.out.c2
  have x13 := HX1.out.c3
  have x14 := HX1.out.c4
  go_wp2_with fail
  refine specSafeDelay_any _ ss e _ (HH.out.keep HB1.out) hl HL.out fun v2 bs2 w2 hb2 hs2 hown2 => ?_
  obtain rfl : bs2 = (List.range ss.length).map d := SafeOr.unique IsDelay.unique hs2 (Or.inl ⟨HOK.out, HEX.out, rs, d, HRE.out, HD.out, rfl⟩)
  obtain ⟨g2, c22, rfl, hf2⟩ := BoolF.of_row hn1 hown2
  have HB2 : Hid (Below w.heap.size w w2) := HB1.out.trans (hb2.mono HB1.out.size)
  have HX2 : Hid (BoxE w2 w.heap.size ao ss.length cap e) := HX1.out.keep hb2
  have HE2 : Hid (BoolF w.heap.size w2 g0 c0 ss.length d) := HE1.out.keep hb2
  have HF2 : Hid (BoolF w1.heap.size w2 g2 c22 ss.length d) := hf2
  have hg02 : g0 < g2 := by have := HE1.out.lt; have := hf2.lt; omega
  have p2 := HX2.out.p
  have x20 := HX2.out.c0
  have x21 := HX2.out.c1
  have x22 := HX2.out.c2
  have x23 := HX2.out.c3
  have x24 := HX2.out.c4
  clear hb2 hs2 hown2 hf2 p1 x10 x11 x12 x13 x14 HX1 HE1
  go_wp2_with fail
  refine specComp_u _ ss e _ (HH.out.keep HB2.out) hl HL.out fun v3 cs w3 hb3 hcs hown3 => ?_
  obtain ⟨hcl, hcg⟩ := hcs.get HOK.out HEX.out
  obtain ⟨g3, c3, hv3, _, _⟩ := hown3.form (by omega)
  subst hv3
  rw [hcl] at hown3
  have HB3 : Hid (Below w.heap.size w w3) := HB2.out.trans (hb3.mono HB2.out.size)
  have HX3 : Hid (BoxE w3 w.heap.size ao ss.length cap e) := HX2.out.keep hb3
  have HE3 : Hid (BoolF w.heap.size w3 g0 c0 ss.length d) := HE2.out.keep hb3
  have HF3 : Hid (BoolF w1.heap.size w3 g2 c22 ss.length d) := HF2.out.keep hb3
  have hg03 : g0 < g3 := by have := HE2.out.lt; have := World.ownsRow.lt hown3 g3 rfl; omega
  have HCE3 : Hid (∀ i, i < ss.length → w3.cell? ⟨g3, i, none⟩ = some (.bool (cF e ss i))) := fun i hi => by
    have a1 := (World.ownsRow.cellAt hown3 i (by omega)).trans (show (cs.map Value.bool)[i]? = some (.bool (cs.getD i false)) by
      have : i < cs.length := by omega
      simp [this])
    rw [hcg i hi, ← cF_get hi] at a1
    exact a1
  clear hb3 hcs hown3 hcg p2 x20 x21 x22 x23 x24 HX2 HE2 HF2
  rw [hcl]
  clear hcl
  have HLW : Hid (Low ss.length (nextOf ss)) := low_next HOK.out
  obtain ⟨E, hE⟩ : ∃ E, E = lateB (cF e ss) d (nextOf ss) := ⟨_, rfl⟩
  have HED : Hid (E = lateB (cF e ss) d (nextOf ss)) := hE
  clear hE
  have HIS : Hid (IsLate ss e rs E) := ⟨d, HD.out, fun i _ => by rw [HED.out]⟩
  go_wp2_with fail
  go_loopw [8] (fun i wr => ∃ k : Nat, k ≤ ss.length ∧ i = .int .i64 k ∧ BoolF w.heap.size wr g0 c0 ss.length (fun j => if j < k then E j else d j) ∧ Out g0 (g0 + 1) w3 wr) (fun i _ => ss.length - (intOf i).toNat)
  case atStart => exact ⟨0, Nat.zero_le _, rfl, HE3.out.congr fun j _ => by simp, Out.refl _ _ _⟩
  case round =>
    clear HE3
    obtain ⟨x, hx, rfl, hbf, ho⟩ := hrel
    have HBF : Hid (BoolF w.heap.size wr g0 c0 ss.length (fun j => if j < x then E j else d j)) := hbf
    have HO : Hid (Out g0 (g0 + 1) w3 wr) := ho
    clear hbf ho
    by_cases hxl : x < ss.length
    · have hxi : (x : Int) < (ss.length : Int) := by omega
      obtain rfl := HA.out (by omega)
      obtain ⟨nv, st, hi⟩ := HC.out x ss[x] (List.getElem?_eq_getElem hxl)
      have hbb := cell_lt st.c7
      simp only at hbb
      have c7 := HO.out.cell (cell_keep HB3.out st.c7) (Or.inl (by show b < g0; omega))
      have cp := HO.out.cell HX3.out.p (Or.inl (by show w.heap.size < g0; omega))
      have cc := HO.out.cell (HCE3.out x hxl) (Or.inr (by show g0 + 1 ≤ g3; omega))
      have cf := HBF.out.cell hxl
      have ff := HBF.out.frozen x
      rw [if_neg (by omega)] at cf
      obtain ⟨nao, nb, no, ncap, rfl, na, nc⟩ := hi
      have HI : Hid (IntsAt wr (.slice nao ss[x].next.length ncap) ss[x].next) := ⟨nao, nb, no, ncap, rfl, na, fun i hi => HO.out.cell (cell_keep HB3.out (nc i hi)) (Or.inl (by have := cell_lt (nc i hi); simp only at this; show nb < g0; omega))⟩
      have HFW : Hid (BoolF w1.heap.size wr g2 c22 ss.length d) := ownsRow_out HF3.out HO.out (fun k hk => by simp [Value.ownBlock] at hk; subst hk; exact Or.inr (by omega))
      have HEX2 : Hid (E x = (d x && (cF e ss x || !allI ss[x].next d))) := by rw [Hid, HED.out]; unfold lateB; rw [nextOf_get hxl]
      have HLX : Hid (∀ y ∈ ss[x].next, 0 ≤ y ∧ y < (ss.length : Int)) := by have := HLW.out x hxl; rwa [nextOf_get hxl] at this
      have hnl : ss[x].next.length ≤ 2 := by have := next_len HOK.out hxl; rwa [nextOf_get hxl] at this
      have HN : Hid (BoolF w.heap.size (wr.setCell ⟨g0, x, none⟩ (.bool (E x))) g0 c0 ss.length (fun j => if j < x + 1 then E j else d j)) := (HBF.out.set x (E x)).congr fun j _ => by
        by_cases e1 : j = x
        · subst e1; simp
        · by_cases e2 : j < x
          · have : j < x + 1 := by omega
            simp [e1, e2, this]
          · have : ¬ j < x + 1 := by omega
            simp [e1, e2, this]
      have HNO : Hid (Out g0 (g0 + 1) w3 (wr.setCell ⟨g0, x, none⟩ (.bool (E x)))) := HO.out.setCell (Nat.le_refl _) (by show g0 < g0 + 1; omega) _
      clear st na nc hbb
      generalize ss[x].next = nx at *
      have HEXX : Hid _ := HEX2.out
      rw [Hid] at HEXX
      rw [HEXX] at HN HNO
      clear HEXX HEX2 HBF HO
      cases hdx : d x
      · rw [hdx] at cf
        rw [hdx, Bool.false_and] at HN HNO
        clear hdx
        go_wp2
        go_roundw
        case rel => exact ⟨x + 1, by omega, by go_num, HN.out, HNO.out⟩
        case measure => simp [intOf]; omega
      · rw [hdx] at cf
        rw [hdx, Bool.true_and] at HN HNO
        clear hdx
        cases hcx : cF e ss x
        · rw [hcx] at cc
          rw [hcx, Bool.false_or] at HN HNO
          clear hcx
          go_wp2_with fail
          refine l12Each_any w1.heap.size g2 c22 ss.length d _ nx _ HFW.out HI.out HLX.out (by omega) ?_
          generalize allI nx d = al at *
          cases al
          all_goals
            go_wp2
            go_roundw
            case rel => exact ⟨x + 1, by omega, by go_num, HN.out, HNO.out⟩
            case measure => simp [intOf]; omega
        · rw [hcx] at cc
          rw [hcx, Bool.true_or] at HN HNO
          clear hcx
          go_wp2
          go_roundw
          case rel => exact ⟨x + 1, by omega, by go_num, HN.out, HNO.out⟩
          case measure => simp [intOf]; omega
    · have hxi : ¬ (x : Int) < (ss.length : Int) := by omega
      obtain rfl : x = ss.length := by omega
      have HBE : Hid (BoolF w.heap.size wr g0 c0 ss.length E) := HBF.out.congr fun j hj => by simp [hj]
      have HBW : Hid (Below w.heap.size w wr) := HB3.out.trans (HO.out.below (by omega) HB3.out.size)
      have HSF : Hid (SafeOr IsLate ss e ((List.range ss.length).map E)) := Or.inl ⟨HOK.out, HEX.out, rs, E, HRE.out, HIS.out, rfl⟩
      have HRF : Hid _ := HBE.out.row (Nat.le_refl _)
      go_wp2
      exact HQ.out _ _ _ HBW.out HSF.out HRF.out
end Go.Proofs.YtajgioeifhgfhaaGreatDoor
namespace Go.Proofs.YtajgioeifhgfhaaGreatDoor
open Go.RowKit

end Go.Proofs.YtajgioeifhgfhaaGreatDoor
