/- What the model's SafeUp answers. -/
import Derived.Test.YtljlgffkhocgkaaSpecSS
import Derived.Test.YtljlgffkhocgkaaBoxU
import Derived.Test.YtljlgffkhocgkaaSpecPreds
namespace Go.Proofs.Ytljlgffkhocgkaa
open Go.RowKit

set_option maxRecDepth 100000 in
set_option maxHeartbeats 8000000 in
theorem specSafeUp_any {Q : Ending → World → Prop} (v : Value) (ss : List St) (e : E5) (w : World) (h : StepsAt w v ss) (hl : ss.length ≤ 1048576) (hls : ∀ s ∈ ss, s.next.length ≤ 1048576)
    (hQ : ∀ v' bs w', Below w.heap.size w w' → SafeOr IsUp ss e bs → w'.ownsRow w.heap.size 4 1 v' bs.length (bs.map Value.bool) → Q (.returned v') w') :
    Calls Try.prog 15 #[.agg #[v], .agg #[.int .i64 e.op, .int .i64 e.av, .int .i64 e.an, .int .i64 e.bv, .int .i64 e.bn]] w Q := by
  have HQ : Hid _ := hQ
  clear hQ
  obtain ⟨ao, b, o, cap, rfl, ha, hc⟩ := id h
  have HA : Hid (0 < ss.length → ao = some ⟨b, o, none⟩) := ha
  have HC : Hid (∀ i s, ss[i]? = some s → ∃ nv, StepCells w b (o + i * 8) s nv ∧ IntsAt w nv s.next) := hc
  have HH : Hid (StepsAt w (.slice ao ss.length cap) ss) := h
  have HL : Hid (∀ s ∈ ss, s.next.length ≤ 1048576) := hls
  clear ha hc h hls
  go_enter Try.func15, Try.ntmps15
  go_wp2_with fail
  have hb0 : Below w.heap.size w ((w.alloc (.cells #[.slice ao ss.length cap] 34)).alloc (.cells #[.int .i64 e.op, .int .i64 e.av, .int .i64 e.an, .int .i64 e.bv, .int .i64 e.bn] 38)) := ((Below.refl _ _).alloc (Nat.le_refl _) _).alloc (by simp) _
  have hbx := BoxE.new w ao ss.length cap e 34 38
  have hsz0 : ((w.alloc (.cells #[.slice ao ss.length cap] 34)).alloc (.cells #[.int .i64 e.op, .int .i64 e.av, .int .i64 e.an, .int .i64 e.bv, .int .i64 e.bn] 38)).heap.size = w.heap.size + 2 := by simp
  generalize (w.alloc (.cells #[.slice ao ss.length cap] 34)).alloc (.cells #[.int .i64 e.op, .int .i64 e.av, .int .i64 e.an, .int .i64 e.bv, .int .i64 e.bn] 38) = W0 at *
  refine l12Ok_any _ ss e _ (HH.out.keep hb0) hl HL.out fun w1 hb1 => ?_
  have HB1 : Hid (Below w.heap.size w w1) := hb0.trans (hb1.mono (by omega))
  have HX1 : Hid (BoxE w1 w.heap.size ao ss.length cap e) := hbx.keep hb1
  have p1 := HX1.out.p
  have x10 := HX1.out.c0
  have x11 := HX1.out.c1
  have x12 := HX1.out.c2
  have x13 := HX1.out.c3
  have x14 := HX1.out.c4
  have hs1 : w.heap.size + 2 ≤ w1.heap.size := by have := hb1.size; omega
  clear hb0 hbx hb1 hsz0
  cases hok : (okB ss && exprB e)
  · have HR : Hid (SafeOr IsUp ss e []) := Or.inr ⟨by simpa using hok, rfl⟩
    clear hok
    go_wp2_with fail
    have hlit := World.ownsRow_lit (base := w.heap.size) (e := 4) (size := 1) w1 #[] 0 (by omega) (by decide) (by simp)
    have HLT : Hid ((w1.alloc (.cells #[] 4)).ownsRow w.heap.size 4 1 (.slice (some ⟨w1.heap.size, 0, none⟩) 0 0) 0 []) := hlit
    have HBF : Hid (∀ O, Below w.heap.size w (w1.alloc O)) := fun O => HB1.out.alloc HB1.out.size O
    clear hlit
    go_wp2
    exact HQ.out _ [] _ (HBF.out _) HR.out HLT.out
  obtain ⟨hok1, hex1⟩ : okB ss = true ∧ exprB e = true := by simpa using hok
  have HOK : Hid (okB ss = true) := hok1
  have HEX : Hid (exprB e = true) := hex1
  obtain ⟨hn1, hn2⟩ := ok_len hok1
  clear hok hok1 hex1
  go_wp2_with fail
  refine l12All_any _ ss _ (HH.out.keep HB1.out) HOK.out fun g c2 rs w2 hb2 hre hbf2 => ?_
  have HRE : Hid (IsReach ss rs) := hre
  have HF2 : Hid (BoolF w1.heap.size w2 g c2 ss.length (rF rs)) := hbf2
  have HB2 : Hid (Below w.heap.size w w2) := HB1.out.trans (hb2.mono HB1.out.size)
  have HX2 : Hid (BoxE w2 w.heap.size ao ss.length cap e) := HX1.out.keep hb2
  have p2 := HX2.out.p
  have x20 := HX2.out.c0
  have x21 := HX2.out.c1
  have x22 := HX2.out.c2
  have x23 := HX2.out.c3
  have x24 := HX2.out.c4
  have cz := hbf2.cell (j := 0) (by omega)
  have fz := hbf2.frozen 0
  have hszz : ¬ (ss.length : Int) ≤ 0 := by omega
  have HFZ : Hid (BoolF w1.heap.size (w2.setCell ⟨g, 0, none⟩ (.bool false)) g c2 ss.length (offB (rF rs) 0)) := hbf2.off 0
  have HBZ : Hid (Below w.heap.size w (w2.setCell ⟨g, 0, none⟩ (.bool false))) := HB2.out.setCell (by have := hbf2.lt; have := HB1.out.size; show w.heap.size ≤ g; omega) _
  have HXZ : Hid (BoxE (w2.setCell ⟨g, 0, none⟩ (.bool false)) w.heap.size ao ss.length cap e) := by
    have hgl := hbf2.lt
    have hne : ∀ (b j : Nat) (u : Value), b ≤ w.heap.size + 1 → w2.cell? ⟨b, j, none⟩ = some u → (w2.setCell ⟨g, 0, none⟩ (.bool false)).cell? ⟨b, j, none⟩ = some u := fun b j u hb hc => by
      rw [cell_setOther _ _ _ _ (by show b ≠ g; omega)]
      exact hc
    exact ⟨hne _ _ _ (by omega) HX2.out.p, hne _ _ _ (by omega) HX2.out.c0, hne _ _ _ (by omega) HX2.out.c1, hne _ _ _ (by omega) HX2.out.c2, hne _ _ _ (by omega) HX2.out.c3, hne _ _ _ (by omega) HX2.out.c4⟩
  have gz1 : ¬ w.heap.size = g := by have := hbf2.lt; omega
  have gz2 : ¬ w.heap.size + 1 = g := by have := hbf2.lt; omega
  have gz3 : ¬ g = w.heap.size := by omega
  have gz4 : ¬ g = w.heap.size + 1 := by omega
  clear hb2 hre hbf2 p1 x10 x11 x12 x13 x14 HX1 HF2 HB2 HX2
  go_wp2_with fail
  have hszq : (w2.setCell ⟨g, 0, none⟩ (.bool false)).heap.size = w2.heap.size := by simp
  generalize w2.setCell ⟨g, 0, none⟩ (.bool false) = w2 at *
  clear cz fz p2 x20 x21 x22 x23 x24
  have HF2 : Hid (BoolF w1.heap.size w2 g c2 ss.length (offB (rF rs) 0)) := HFZ.out
  have HB2 : Hid (Below w.heap.size w w2) := HBZ.out
  have HX2 : Hid (BoxE w2 w.heap.size ao ss.length cap e) := HXZ.out
  have p2 := HX2.out.p
  have x20 := HX2.out.c0
  have x21 := HX2.out.c1
  have x22 := HX2.out.c2
  have x23 := HX2.out.c3
  have x24 := HX2.out.c4
  clear HFZ HBZ HXZ hszq
  refine specComp_u _ ss e _ (HH.out.keep HB2.out) hl HL.out fun v3 cs w3 hb3 hcs hown3 => ?_
  obtain ⟨hcl, hcg⟩ := hcs.get HOK.out HEX.out
  obtain ⟨g3, c3, hv3, _, _⟩ := hown3.form (by omega)
  subst hv3
  rw [hcl] at hown3
  have HO3 : Hid (w3.ownsRow w2.heap.size 4 1 (.slice (some ⟨g3, 0, none⟩) ss.length c3) ss.length (cs.map Value.bool)) := hown3
  have HCG : Hid (∀ i (hi : i < ss.length), cs.getD i false = compB e ss[i]) := hcg
  have HF3 : Hid (BoolF w1.heap.size w3 g c2 ss.length (offB (rF rs) 0)) := HF2.out.keep hb3
  have HB3 : Hid (Below w.heap.size w w3) := HB2.out.trans (hb3.mono HB2.out.size)
  have HX3 : Hid (BoxE w3 w.heap.size ao ss.length cap e) := HX2.out.keep hb3
  have hs3 := HB2.out.size
  have p3 := HX3.out.p
  have x30 := HX3.out.c0
  have x31 := HX3.out.c1
  have x32 := HX3.out.c2
  have x33 := HX3.out.c3
  have x34 := HX3.out.c4
  clear hb3 hcs hown3 hcg p2 x20 x21 x22 x23 x24 HX2
  rw [hcl]
  go_wp2_with fail
  refine specKeeps_u _ ss e _ (HH.out.keep HB3.out) hl HL.out fun v4 ks w4 hb4 hks hown4 => ?_
  obtain ⟨hkl, hkg⟩ := hks.get HOK.out HEX.out
  obtain ⟨g4, c4, hv4, _, _⟩ := hown4.form (by omega)
  subst hv4
  rw [hkl] at hown4
  have HB4 : Hid (Below w.heap.size w w4) := HB3.out.trans (hb4.mono HB3.out.size)
  have HF4 : Hid (BoolF w1.heap.size w4 g c2 ss.length (offB (rF rs) 0)) := HF3.out.keep hb4
  have HX4 : Hid (BoxE w4 w.heap.size ao ss.length cap e) := HX3.out.keep hb4
  have hg1 := HF2.out.lt
  have hg3 := HO3.out.lt g3 rfl
  have hg4 := World.ownsRow.lt hown4 g4 rfl
  have hs2 := HF2.out.lt.2
  have HCC : Hid (∀ i, i < ss.length → w4.cell? ⟨g3, i, none⟩ = some (.bool (cF e ss i)) ∧ w4.cell? ⟨g4, i, none⟩ = some (.bool (kF e ss i))) := fun i hi => by
    have a1 := cell_keep hb4 ((World.ownsRow.cellAt HO3.out i (by omega)).trans (show (cs.map Value.bool)[i]? = some (.bool (cs.getD i false)) by
      have : i < cs.length := by omega
      simp [this]))
    have a2 := (World.ownsRow.cellAt hown4 i (by omega)).trans (show (ks.map Value.bool)[i]? = some (.bool (ks.getD i false)) by
      have : i < ks.length := by omega
      simp [this])
    rw [HCG.out i hi, ← cF_get hi] at a1
    rw [hkg i hi, ← kF_get hi] at a2
    exact ⟨a1, a2⟩
  have HNE : Hid (w.heap.size + 2 ≤ g ∧ g < w2.heap.size ∧ w2.heap.size ≤ g3 ∧ w2.heap.size ≤ g4 ∧ w1.heap.size ≤ g ∧ w2.heap.size ≤ w4.heap.size ∧ g3 < w4.heap.size) := by
    have := hb4.size
    have := HF3.out.lt
    exact ⟨by omega, by omega, by omega, by omega, by omega, by omega, by omega⟩
  clear hb4 hks hown4 hkg p3 x30 x31 x32 x33 x34 HX3 HO3 HCG HF3 HB3 HF2 HB2 hg1 hg3 hg4 hs2 hcl
  rw [hkl]
  clear hkl
  have p4 := HX4.out.p
  go_wp2_with fail
  refine specPreds_any _ ss _ (HH.out.keep HB4.out) hl HL.out fun v5 zss w5 hb5 hzs hrw5 => ?_
  have HZ : Hid (zss = predsL ss rs) := by
    rcases hzs with ⟨_, rs', h1, h2⟩ | ⟨h1, _⟩
    · rw [h1.unique HRE.out] at h2
      exact h2
    · rw [HOK.out] at h1
      cases h1
  obtain ⟨A5, c5, hv5⟩ := hrw5.slice
  subst hv5
  obtain rfl := HZ.out
  have hplen : (predsL ss rs).length = ss.length := by simp [predsL]
  have HB5 : Hid (Below w.heap.size w w5) := HB4.out.trans (hb5.mono HB4.out.size)
  have HF5 : Hid (BoolF w1.heap.size w5 g c2 ss.length (offB (rF rs) 0)) := HF4.out.keep hb5
  have HX5 : Hid (BoxE w5 w.heap.size ao ss.length cap e) := HX4.out.keep hb5
  have HCC5 : Hid (∀ i, i < ss.length → w5.cell? ⟨g3, i, none⟩ = some (.bool (cF e ss i)) ∧ w5.cell? ⟨g4, i, none⟩ = some (.bool (kF e ss i))) := fun i hi => ⟨cell_keep hb5 (HCC.out i hi).1, cell_keep hb5 (HCC.out i hi).2⟩
  have HRW : Hid (RowsI w4.heap.size w5.heap.size w5 (.slice A5 (predsL ss rs).length c5) (predsL ss rs)) := hrw5
  have hs45 := hb5.size
  clear hb5 hzs hrw5 p4 HX4 HF4 HCC
  go_wp2_with fail
  have hgw : w.heap.size + 2 ≤ g := HNE.out.1
  have hg4 : g < w4.heap.size := by have := HNE.out; omega
  have HM0 : Hid (Mono ss.length (upF (cF e ss) (kF e ss) (pF ss rs))) := upF_mono (low_preds ss rs)
  have HG00 : Hid (GI ss.length (rF rs) (upF (cF e ss) (kF e ss) (pF ss rs)) (offB (rF rs) 0)) := (GI.start _ _ _).off HM0.out (by simp [upF])
  obtain ⟨F, hF⟩ : ∃ F, F = upF (cF e ss) (kF e ss) (pF ss rs) := ⟨_, rfl⟩
  have HFD : Hid (F = upF (cF e ss) (kF e ss) (pF ss rs)) := hF
  rw [← hF] at HM0 HG00
  have HM : Hid (Mono ss.length F) := HM0.out
  have HG0 : Hid (GI ss.length (rF rs) F (offB (rF rs) 0)) := HG00.out
  clear hF HM0 HG00
  have HFIN : Hid (∀ wr f, BoolF w1.heap.size wr g c2 ss.length f → Out g (g + 1) w5 wr → GI ss.length (rF rs) F f → (∀ i, i < ss.length → f i = true → F f i = true) →
      Below w.heap.size w wr ∧ SafeOr IsUp ss e ((List.range ss.length).map f) ∧ wr.ownsRow w.heap.size 4 1 (.slice (some ⟨g, 0, none⟩) ss.length c2) ((List.range ss.length).map f).length (((List.range ss.length).map f).map Value.bool)) := fun wr f hbf ho hgi hfx => by
    refine ⟨HB5.out.trans (ho.below (by omega) HB5.out.size), Or.inl ⟨HOK.out, HEX.out, rs, f, HRE.out, ?_, rfl⟩, ?_⟩
    · unfold IsUp
      rw [← HFD.out]
      exact hgi.done hfx
    · rw [List.length_map, List.length_range, List.map_map]
      exact own_lower hbf HB1.out.size
  go_loopw [9, 10, 11, 12] (fun ch _ _ _ wr => ∃ f bo, ch = .bool bo ∧ BoolF w1.heap.size wr g c2 ss.length f ∧ Out g (g + 1) w5 wr ∧ GI ss.length (rF rs) F f ∧ f 0 = false ∧ (bo = false → ∀ i, i < ss.length → f i = true → F f i = true)) (fun ch _ _ _ wr => 2 * cnt (trueAt wr g) ss.length + boolN ch)
  case atStart => exact ⟨offB (rF rs) 0, true, rfl, HF5.out, Out.refl _ _ _, HG0.out, rfl, fun h => by cases h⟩
  case round =>
    clear HF5 HG0
    obtain ⟨f0, bo, rfl, hbf, ho, hgi, hf0, hfx⟩ := hrel
    cases bo with
    | false =>
      have HE : Hid _ := HFIN.out wr f0 hbf ho hgi (hfx rfl)
      clear hbf ho hgi hfx hf0
      go_wp2
      exact HQ.out _ _ _ HE.out.1 HE.out.2.1 HE.out.2.2
    | true =>
      have HBF : Hid (BoolF w1.heap.size wr g c2 ss.length f0) := hbf
      have HO : Hid (Out g (g + 1) w5 wr) := ho
      have HP0 : Hid (PassS ss.length (rF rs) F f0 f0 0 false) := PassS.start hgi
      have HZ0 : Hid (f0 0 = false) := hf0
      have HME : Hid (2 * cnt (trueAt wr g) ss.length + boolN (.bool true) = 2 * cnt f0 ss.length + 1) := by rw [Hid, trueAt_F hbf]; rfl
      clear hbf ho hgi hfx hf0
      go_wp2_with fail
      go_loopw [9, 10, 11, 12] (fun ch i _ _ wx => ∃ k f b, k ≤ ss.length ∧ i = .int .i64 (k : Nat) ∧ ch = .bool b ∧ BoolF w1.heap.size wx g c2 ss.length f ∧ Out g (g + 1) w5 wx ∧ PassS ss.length (rF rs) F f0 f k b ∧ f 0 = false) (fun _ i _ _ _ => ss.length - (intOf i).toNat)
      case atStart => exact ⟨0, f0, false, Nat.zero_le _, rfl, rfl, HBF.out, HO.out, HP0.out, HZ0.out⟩
      case round =>
        clear HBF HO HP0
        obtain ⟨x, f, bo, hx, rfl, rfl, hbf, ho, hps, hf0⟩ := hrel
        have HBF : Hid (BoolF w1.heap.size wr g c2 ss.length f) := hbf
        have HO : Hid (Out g (g + 1) w5 wr) := ho
        have HPS : Hid (PassS ss.length (rF rs) F f0 f x bo) := hps
        have HF0 : Hid (f 0 = false) := hf0
        clear hf0
        by_cases hxl : x < ss.length
        · have hxi : (x : Int) < (ss.length : Int) := by omega
          have HMX : Hid (2 * cnt (trueAt wr g) ss.length = 2 * cnt f ss.length) := by rw [Hid, trueAt_F hbf]
          obtain ⟨gp, yv, hA5, hcy, ⟨A', c', hyv⟩, hlo, hIO⟩ : ∃ gp, ∃ y : Value, A5 = some ⟨gp, 0, none⟩ ∧ w5.cell? ⟨gp, x, none⟩ = some y ∧ (∃ A c, y = .slice A (pF ss rs x).length c) ∧ w4.heap.size ≤ gp ∧ IntsO w4.heap.size w5.heap.size w5 y (pF ss rs x) := by
            obtain ⟨ao', g', cap', hv', hr'⟩ := HRW.out.read
            cases hv'
            obtain ⟨y, A', c', h1, h2, h3, h4⟩ := hr' x (predsK ss rs x ss.length) (by simp [predsL, hxl])
            have hlo : w4.heap.size ≤ g' := by
              obtain ⟨vs, _, hvo, hhi, _⟩ := HRW.out
              rw [h1] at hvo
              exact (World.ownsRow.lt hvo g' rfl).1
            exact ⟨g', y, h1, h2, ⟨A', c', h3⟩, hlo, h4⟩
          subst hA5
          subst hyv
          obtain ⟨ar, gr, capr, har, hcr⟩ := hIO.read
          cases har
          have HCR : Hid (∀ i, i < (pF ss rs x).length → A' = some ⟨gr, 0, none⟩ ∧ w5.cell? ⟨gr, i, none⟩ = some (.int .i64 ((pF ss rs x).getD i 0)) ∧ g + 1 ≤ gr) := fun i hi => ⟨(hcr i hi).1, (hcr i hi).2.1, by have := (hcr i hi).2.2.2.1; omega⟩
          have HCY : Hid (w5.cell? ⟨gp, x, none⟩ = some (.slice A' (pF ss rs x).length c')) := hcy
          have hgp : g + 1 ≤ gp := by omega
          have HFX : Hid (∀ f, F f x = (decide (x ≠ 0) && allI (pF ss rs x) (fun m => kF e ss m && (cF e ss m || f m)))) := fun f => by rw [HFD.out]; rfl
          have HLX : Hid (∀ y ∈ pF ss rs x, 0 ≤ y ∧ y < (ss.length : Int)) := low_preds ss rs x hxl
          have hpl : (pF ss rs x).length ≤ 60 := Nat.le_trans (predsK_len _ _ _ _) hn2
          have SK : Hid (F f x = true ∨ f x = false → PassS ss.length (rF rs) F f0 f (x + 1) bo) := fun h => HPS.out.skip fun h1 => by
            rcases h with h | h
            · exact h
            · rw [h1] at h; cases h
          have ST : Hid (f x = true → F f x = false → PassS ss.length (rF rs) F f0 (offB f x) (x + 1) true) := fun h1 h2 => HPS.out.off HM.out hxl h1 h2
          have HOF0 : Hid (offB f x 0 = false) := by
            unfold offB
            split
            · rfl
            · exact HF0.out
          clear hbf ho hps hcr hIO hcy hlo HPS
          generalize pF ss rs x = zs at *
          go_wp2_with fail
          go_loopw [9, 11, 12] (fun ch kk _ wx => ∃ k f' b', k ≤ zs.length ∧ kk = .int .i64 (k : Nat) ∧ ch = .bool b' ∧ BoolF w1.heap.size wx g c2 ss.length f' ∧ Out g (g + 1) w5 wx ∧ ((f' = f ∧ b' = bo ∧ ∀ j, j < k → (kF e ss (zs.getD j 0).toNat && (cF e ss (zs.getD j 0).toNat || f (zs.getD j 0).toNat)) = true) ∨ (f' = offB f x ∧ b' = true ∧ f x = true ∧ F f x = false))) (fun _ kk _ _ => zs.length - (intOf kk).toNat)
          case atStart => exact ⟨0, f, bo, Nat.zero_le _, rfl, rfl, HBF.out, HO.out, Or.inl ⟨rfl, rfl, fun j hj => by omega⟩⟩
          case round =>
            clear HBF HO
            obtain ⟨k, f', b', hk, rfl, rfl, hbf, ho, hcase⟩ := hrel
            have HBF : Hid (BoolF w1.heap.size wr g c2 ss.length f') := hbf
            have HO : Hid (Out g (g + 1) w5 wr) := ho
            have cp := ho.cell HCY.out (Or.inr (by show g + 1 ≤ gp; omega))
            have cf := hbf.cell hxl
            have ff := hbf.frozen x
            by_cases hkl : k < zs.length
            · have hki : (k : Int) < (zs.length : Int) := by omega
              rcases hcase with ⟨rfl, rfl, hall⟩ | ⟨rfl, rfl, hfx, hFx⟩
              · cases hfx : f' x
                · rw [hfx] at cf
                  have HN : Hid _ := SK.out (Or.inr hfx)
                  clear hbf ho hall hfx SK ST
                  go_wp2
                  go_roundw
                  case rel => exact ⟨x + 1, f', b', by omega, by go_num, rfl, HBF.out, HO.out, HN.out, HF0.out⟩
                  case measure => simp [intOf]; omega
                · rw [hfx] at cf
                  have HFT : Hid (f' x = true) := hfx
                  clear hfx
                  obtain ⟨rfl, hcr, hgr⟩ := HCR.out k hkl
                  have hcr2 := ho.cell hcr (Or.inr (by show g + 1 ≤ gr; omega))
                  have hzm : zs.getD k 0 ∈ zs := by
                    rw [List.getD_eq_getElem?_getD, List.getElem?_eq_getElem hkl]
                    exact List.getElem_mem hkl
                  obtain ⟨z0, z1⟩ := HLX.out _ hzm
                  have HAL : Hid (∀ j, j < k → (kF e ss (zs.getD j 0).toNat && (cF e ss (zs.getD j 0).toNat || f' (zs.getD j 0).toNat)) = true) := hall
                  have HNX : Hid ((kF e ss (zs.getD k 0).toNat && (cF e ss (zs.getD k 0).toNat || f' (zs.getD k 0).toNat)) = true → ∀ j, j < k + 1 → (kF e ss (zs.getD j 0).toNat && (cF e ss (zs.getD j 0).toNat || f' (zs.getD j 0).toNat)) = true) := fun h j hj => by
                    by_cases e1 : j = k
                    · subst e1; exact h
                    · exact HAL.out j (by omega)
                  have HFF : Hid ((kF e ss (zs.getD k 0).toNat && (cF e ss (zs.getD k 0).toNat || f' (zs.getD k 0).toNat)) = false → F f' x = false) := fun h => by
                    rw [HFX.out]
                    have : allI zs (fun m => kF e ss m && (cF e ss m || f' m)) = false := by
                      unfold allI
                      rw [List.all_eq_false]
                      exact ⟨_, hzm, fun hh => by rw [show ((fun m => kF e ss m && (cF e ss m || f' m)) (zs.getD k 0).toNat) = false from h] at hh; cases hh⟩
                    rw [this, Bool.and_false]
                  clear hall hcr hzm HAL
                  generalize zs.getD k 0 = z at *
                  obtain ⟨m, rfl⟩ := Int.eq_ofNat_of_zero_le z0
                  have hm : m < ss.length := by omega
                  rw [show ((m : Int)).toNat = m from rfl] at HNX HFF
                  have cm := hbf.cell hm
                  have d1 := ho.cell (HCC5.out m hm).1 (Or.inr (by show g + 1 ≤ g3; have := HNE.out; omega))
                  have d2 := ho.cell (HCC5.out m hm).2 (Or.inr (by show g + 1 ≤ g4; have := HNE.out; omega))
                  have HST : Hid (BoolF w1.heap.size (wr.setCell ⟨g, x, none⟩ (.bool false)) g c2 ss.length (offB f' x) ∧ Out g (g + 1) w5 (wr.setCell ⟨g, x, none⟩ (.bool false))) := ⟨hbf.off x, ho.setCell (Nat.le_refl _) (by show g < g + 1; omega) _⟩
                  have hmi : (m : Int) < (ss.length : Int) := by omega
                  clear hbf ho
                  cases hkm : kF e ss m
                  · rw [hkm] at d2
                    have HN : Hid _ := HFF.out (by rw [hkm]; rfl)
                    clear hkm HNX HFF SK ST HBF HO
                    go_wp2
                    go_roundw
                    case rel => exact ⟨k + 1, offB f' x, true, by omega, by go_num, rfl, HST.out.1, HST.out.2, Or.inr ⟨rfl, rfl, (by first | exact HFT.out | trivial), HN.out⟩⟩
                    case measure => simp [intOf]; omega
                  · rw [hkm] at d2
                    cases hcm : cF e ss m
                    · rw [hcm] at d1
                      cases hfm : f' m
                      · rw [hfm] at cm
                        have HN : Hid _ := HFF.out (by rw [hkm, hcm, hfm]; rfl)
                        clear hkm hcm hfm HNX HFF SK ST HBF HO
                        go_wp2
                        go_roundw
                        case rel => exact ⟨k + 1, offB f' x, true, by omega, by go_num, rfl, HST.out.1, HST.out.2, Or.inr ⟨rfl, rfl, (by first | exact HFT.out | trivial), HN.out⟩⟩
                        case measure => simp [intOf]; omega
                      · rw [hfm] at cm
                        have HN : Hid _ := HNX.out (by rw [hkm, hcm, hfm]; rfl)
                        clear hkm hcm hfm HNX HFF SK ST HST
                        go_wp2
                        go_roundw
                        case rel => exact ⟨k + 1, f', b', by omega, by go_num, rfl, HBF.out, HO.out, Or.inl ⟨rfl, rfl, HN.out⟩⟩
                        case measure => simp [intOf]; omega
                    · rw [hcm] at d1
                      have HN : Hid _ := HNX.out (by rw [hkm, hcm]; rfl)
                      clear hkm hcm HNX HFF SK ST HST
                      go_wp2
                      go_roundw
                      case rel => exact ⟨k + 1, f', b', by omega, by go_num, rfl, HBF.out, HO.out, Or.inl ⟨rfl, rfl, HN.out⟩⟩
                      case measure => simp [intOf]; omega
              · have hxx : offB f x x = false := by simp [offB]
                rw [hxx] at cf
                have HN : Hid _ := ST.out hfx hFx
                clear hbf ho hxx SK ST hfx hFx
                go_wp2
                go_roundw
                case rel => exact ⟨x + 1, offB f x, true, by omega, by go_num, rfl, HBF.out, HO.out, HN.out, HOF0.out⟩
                case measure => simp [intOf]; omega
            · have hki : ¬ (k : Int) < (zs.length : Int) := by omega
              obtain rfl : k = zs.length := by omega
              rcases hcase with ⟨rfl, rfl, hall⟩ | ⟨rfl, rfl, hfx, hFx⟩
              · have HN : Hid (PassS ss.length (rF rs) F f0 f' (x + 1) b') := SK.out (by
                  cases hfx : f' x
                  · exact Or.inr rfl
                  · left
                    have hx0 : x ≠ 0 := fun h => by subst h; rw [HF0.out] at hfx; cases hfx
                    rw [HFX.out, decide_eq_true hx0, Bool.true_and]
                    unfold allI
                    rw [List.all_eq_true]
                    intro y hy
                    obtain ⟨j, hj, e1⟩ := List.getElem_of_mem hy
                    have := hall j hj
                    rw [List.getD_eq_getElem?_getD, List.getElem?_eq_getElem hj] at this
                    rw [← e1]
                    exact this)
                clear hbf ho hall SK ST
                go_wp2
                go_roundw
                case rel => exact ⟨x + 1, f', b', by omega, by go_num, rfl, HBF.out, HO.out, HN.out, HF0.out⟩
                case measure => simp [intOf]; omega
              · have HN : Hid _ := ST.out hfx hFx
                clear hbf ho SK ST hfx hFx
                go_wp2
                go_roundw
                case rel => exact ⟨x + 1, offB f x, true, by omega, by go_num, rfl, HBF.out, HO.out, HN.out, HOF0.out⟩
                case measure => simp [intOf]; omega
        · have hxi : ¬ (x : Int) < (ss.length : Int) := by omega
          obtain rfl : x = ss.length := by omega
          clear hbf ho hps
          go_wp2
          go_roundw
          case rel => exact ⟨f, bo, rfl, HBF.out, HO.out, HPS.out.gi, HF0.out, fun h i hi hf => (HPS.out.no h).2 i hi hf⟩
          case measure =>
            have e1 := HME.out
            have e2 := trueAt_F HBF.out
            rw [e1, e2]
            cases bo with
            | false =>
              have e3 := (HPS.out.no rfl).1
              rw [e3]
              simp [boolN]
            | true =>
              have e3 := HPS.out.yes rfl
              simp only [boolN]
              omega
end Go.Proofs.Ytljlgffkhocgkaa
