/- The model's l13Held: where what is put is held. -/
import Derived.Test.YtacgfbcfkjflmaaGreatHeldP
import Derived.Test.YtacgfbcfkjflmaaGreatSpecSX
namespace Go.Proofs.YtacgfbcfkjflmaaGreat
open Go.RowKit

set_option maxRecDepth 100000 in
set_option maxHeartbeats 8000000 in
theorem specHeld_any {Q : Ending → World → Prop} (v x1 x2 : Value) (ss : List St) (e : E5) (ps ts : List Bool) (w : World) (h : StepsAt w v ss) (hl : ss.length ≤ 1048576) (hls : ∀ s ∈ ss, s.next.length ≤ 1048576) (hp : BoolsAt w x1 ps) (ht : BoolsAt w x2 ts) (hfm : FormP ss e ps ts)
    (hQ : ∀ g c rs f w', Below w.heap.size w w' → IsReach ss rs → IsHeld ss e rs (fun j => ps.getD j false) f → BoolF w.heap.size w' g c ss.length f → Q (.returned (.slice (some ⟨g, 0, none⟩) ss.length c)) w') :
    Calls Tryz.prog 47 #[.agg #[v], .agg #[.int .i64 e.op, .int .i64 e.av, .int .i64 e.an, .int .i64 e.bv, .int .i64 e.bn], .agg #[x1, x2]] w Q := by
  have HQ : Hid _ := hQ
  clear hQ
  obtain ⟨ao, b, o, cap, rfl, _, _⟩ := id h
  obtain ⟨po, pb, pof, pcap, rfl, hpa, hpc⟩ := id hp
  obtain ⟨tp, tb, tof, tcap, rfl, _, _⟩ := id ht
  have HH : Hid (StepsAt w (.slice ao ss.length cap) ss) := h
  have HL : Hid (∀ s ∈ ss, s.next.length ≤ 1048576) := hls
  have HOK : Hid (okB ss = true) := hfm.1
  have HEX : Hid (exprB e = true) := hfm.2.1
  have HPL : Hid (ps.length = ss.length) := hfm.2.2.1
  obtain ⟨hn1, hn2⟩ := ok_len hfm.1
  obtain rfl := hpa (by have := HPL.out; omega)
  have HPC : Hid _ := hpc
  clear h hls hp ht hpa hpc hfm
  go_enter Tryz.func47, Tryz.ntmps47
  go_wp2_with fail
  have hb0 : Below w.heap.size w (((w.alloc (.cells #[.slice ao ss.length cap] 34)).alloc (.cells #[.int .i64 e.op, .int .i64 e.av, .int .i64 e.an, .int .i64 e.bv, .int .i64 e.bn] 38)).alloc (.cells #[.slice (some ⟨pb, pof, none⟩) ps.length pcap, .slice tp ts.length tcap] 49)) := (((Below.refl _ _).alloc (Nat.le_refl _) _).alloc (by simp) _).alloc (by simp; omega) _
  have hbx := (BoxE.new w ao ss.length cap e 34 38).keep ((Below.refl _ _).alloc (Nat.le_refl _) (.cells #[.slice (some ⟨pb, pof, none⟩) ps.length pcap, .slice tp ts.length tcap] 49))
  have hl0 : (((w.alloc (.cells #[.slice ao ss.length cap] 34)).alloc (.cells #[.int .i64 e.op, .int .i64 e.av, .int .i64 e.an, .int .i64 e.bv, .int .i64 e.bn] 38)).alloc (.cells #[.slice (some ⟨pb, pof, none⟩) ps.length pcap, .slice tp ts.length tcap] 49)).cell? ⟨w.heap.size + 1 + 1, 0, none⟩ = some (.slice (some ⟨pb, pof, none⟩) ps.length pcap) := by simp [go_sem]
  generalize ((w.alloc (.cells #[.slice ao ss.length cap] 34)).alloc (.cells #[.int .i64 e.op, .int .i64 e.av, .int .i64 e.an, .int .i64 e.bv, .int .i64 e.bn] 38)).alloc (.cells #[.slice (some ⟨pb, pof, none⟩) ps.length pcap, .slice tp ts.length tcap] 49) = w1 at *
  have HB1 : Hid (Below w.heap.size w w1) := hb0
  have hs1 : w.heap.size + 1 + 1 < w1.heap.size := cell_lt hl0
  have HD0 : Hid (∀ i, i < ss.length → w.cell? ⟨pb, pof + i, none⟩ = some (.bool (ps.getD i false)) ∧ pb < w.heap.size) := fun i hi => ⟨HPC.out i (by have := HPL.out; omega), cell_lt (HPC.out i (by have := HPL.out; omega))⟩
  have hpb : pb < w.heap.size := (HD0.out 0 (by omega)).2
  have hni : ¬ (ss.length : Int) = 0 := by omega
  clear hb0 HPC
  refine l12All_any _ ss _ (HH.out.keep HB1.out) HOK.out fun g c2 rs2 w2 hb2 hre2 hbf2 => ?_
  have HRE : Hid (IsReach ss rs2) := hre2
  have HF2 : Hid (BoolF w1.heap.size w2 g c2 ss.length (rF rs2)) := hbf2
  have HB2 : Hid (Below w.heap.size w w2) := HB1.out.trans (hb2.mono HB1.out.size)
  have HX2 : Hid (BoxE w2 w.heap.size ao ss.length cap e) := hbx.keep hb2
  have l2 := cell_keep hb2 hl0
  have hgl0 : w1.heap.size ≤ g := hbf2.lt.1
  have p2 := HX2.out.p
  have x20 := HX2.out.c0
  have x21 := HX2.out.c1
  have x22 := HX2.out.c2
  have x23 := HX2.out.c3
  have x24 := HX2.out.c4
  clear hb2 hre2 hbf2 hbx hl0
  go_wp2_with fail
  refine specKeeps_u _ ss e _ (HH.out.keep HB2.out) hl HL.out fun v3 cs w3 hb3 hcs hown3 => ?_
  obtain ⟨hcl, hcg⟩ := hcs.get HOK.out HEX.out
  obtain ⟨g3, c3, hv3, _, _⟩ := hown3.form (by omega)
  subst hv3
  rw [hcl] at hown3
  have HF3 : Hid (BoolF w1.heap.size w3 g c2 ss.length (rF rs2)) := HF2.out.keep hb3
  have HB3 : Hid (Below w.heap.size w w3) := HB2.out.trans (hb3.mono HB2.out.size)
  have HX3 : Hid (BoxE w3 w.heap.size ao ss.length cap e) := HX2.out.keep hb3
  have l3 := cell_keep hb3 l2
  have hg3 : g < g3 := by have := HF2.out.lt; have := World.ownsRow.lt hown3 g3 rfl; omega
  have HCE3 : Hid (∀ i, i < ss.length → w3.cell? ⟨g3, i, none⟩ = some (.bool (kF e ss i))) := fun i hi => by
    have a1 := (World.ownsRow.cellAt hown3 i (by omega)).trans (show (cs.map Value.bool)[i]? = some (.bool (cs.getD i false)) by
      have : i < cs.length := by omega
      simp [this])
    rw [hcg i hi, ← kF_get hi] at a1
    exact a1
  have p3 := HX3.out.p
  have hgl3 : g < w3.heap.size := HF3.out.lt.2
  clear hb3 hcs hown3 hcg p2 x20 x21 x22 x23 x24 l2 HX2 HF2
  rw [hcl]
  clear hcl
  go_wp2_with fail
  refine specPreds_any _ ss _ (HH.out.keep HB3.out) hl HL.out fun v5 zss w5 hb5 hzs hrw5 => ?_
  have HZ : Hid (zss = predsL ss rs2) := by
    rcases hzs with ⟨_, rs', h1, h2⟩ | ⟨h1, _⟩
    · rw [h1.unique HRE.out] at h2
      exact h2
    · rw [HOK.out] at h1
      cases h1
  obtain ⟨A5, c5, hv5⟩ := hrw5.slice
  subst hv5
  obtain rfl := HZ.out
  have hplen : (predsL ss rs2).length = ss.length := by simp [predsL]
  have HB5 : Hid (Below w.heap.size w w5) := HB3.out.trans (hb5.mono HB3.out.size)
  have HF5 : Hid (BoolF w1.heap.size w5 g c2 ss.length (rF rs2)) := HF3.out.keep hb5
  have HCC5 : Hid (∀ i, i < ss.length → w5.cell? ⟨g3, i, none⟩ = some (.bool (kF e ss i))) := fun i hi => cell_keep hb5 (HCE3.out i hi)
  have HDD5 : Hid (∀ i, i < ss.length → w5.cell? ⟨pb, pof + i, none⟩ = some (.bool (ps.getD i false))) := fun i hi => cell_keep HB5.out (HD0.out i hi).1
  have HL5 : Hid (w5.cell? ⟨w.heap.size + 1 + 1, 0, none⟩ = some (.slice (some ⟨pb, pof, none⟩) ps.length pcap)) := cell_keep hb5 l3
  have HRW : Hid (RowsI w3.heap.size w5.heap.size w5 (.slice A5 (predsL ss rs2).length c5) (predsL ss rs2)) := hrw5
  clear hb5 hzs hrw5 p3 l3 HX3 HF3 HCE3 HD0
  go_wp2_with fail
  obtain ⟨d, hd⟩ : ∃ d : Nat → Bool, d = fun j => ps.getD j false := ⟨_, rfl⟩
  have HDE : Hid (d = fun j => ps.getD j false) := hd
  have HDD : Hid (∀ i, i < ss.length → w5.cell? ⟨pb, pof + i, none⟩ = some (.bool (d i))) := fun i hi => by rw [hd]; exact HDD5.out i hi
  clear hd HDD5
  have HM0 : Hid (Mono ss.length (heldF (kF e ss) d (pF ss rs2))) := heldF_mono (low_preds ss rs2)
  have HG00 : Hid (GI ss.length (rF rs2) (heldF (kF e ss) d (pF ss rs2)) (rF rs2)) := GI.start _ _ _
  obtain ⟨F, hF⟩ : ∃ F, F = heldF (kF e ss) d (pF ss rs2) := ⟨_, rfl⟩
  have HFD : Hid (F = heldF (kF e ss) d (pF ss rs2)) := hF
  rw [← hF] at HM0 HG00
  have HM : Hid (Mono ss.length F) := HM0.out
  have HG0 : Hid (GI ss.length (rF rs2) F (rF rs2)) := HG00.out
  clear hF HM0 HG00
  have HFIN : Hid (∀ wr f, BoolF w1.heap.size wr g c2 ss.length f → Out g (g + 1) w5 wr → GI ss.length (rF rs2) F f → (∀ i, i < ss.length → f i = true → F f i = true) →
      Below w.heap.size w wr ∧ IsHeld ss e rs2 (fun j => ps.getD j false) f ∧ BoolF w.heap.size wr g c2 ss.length f) := fun wr f hbf ho hgi hfx => by
    refine ⟨HB5.out.trans (ho.below (by omega) HB5.out.size), ?_, own_lower hbf (by omega)⟩
    unfold IsHeld
    rw [← HDE.out, ← HFD.out]
    exact hgi.done hfx
  go_loopw [10, 11, 12, 13] (fun ch _ _ _ wr => ∃ f bo, ch = .bool bo ∧ BoolF w1.heap.size wr g c2 ss.length f ∧ Out g (g + 1) w5 wr ∧ GI ss.length (rF rs2) F f ∧ (bo = false → ∀ i, i < ss.length → f i = true → F f i = true)) (fun ch _ _ _ wr => 2 * cnt (trueAt wr g) ss.length + boolN ch)
  case atStart => exact ⟨rF rs2, true, rfl, HF5.out, Out.refl _ _ _, HG0.out, fun h => by cases h⟩
  case round =>
    clear HF5 HG0
    obtain ⟨f0, bo, rfl, hbf, ho, hgi, hfx⟩ := hrel
    cases bo with
    | false =>
      have HE : Hid _ := HFIN.out wr f0 hbf ho hgi (hfx rfl)
      clear hbf ho hgi hfx
      go_wp2
      exact HQ.out _ _ _ _ _ HE.out.1 HRE.out HE.out.2.1 HE.out.2.2
    | true =>
      have HBF : Hid (BoolF w1.heap.size wr g c2 ss.length f0) := hbf
      have HO : Hid (Out g (g + 1) w5 wr) := ho
      have HP0 : Hid (PassS ss.length (rF rs2) F f0 f0 0 false) := PassS.start hgi
      have HME : Hid (2 * cnt (trueAt wr g) ss.length + boolN (.bool true) = 2 * cnt f0 ss.length + 1) := by rw [Hid, trueAt_F hbf]; rfl
      clear hbf ho hgi hfx
      go_wp2_with fail
      go_loopw [10, 11, 12, 13] (fun ch i _ _ wx => ∃ k f b, k ≤ ss.length ∧ i = .int .i64 (k : Nat) ∧ ch = .bool b ∧ BoolF w1.heap.size wx g c2 ss.length f ∧ Out g (g + 1) w5 wx ∧ PassS ss.length (rF rs2) F f0 f k b) (fun _ i _ _ _ => ss.length - (intOf i).toNat)
      case atStart => exact ⟨0, f0, false, Nat.zero_le _, rfl, rfl, HBF.out, HO.out, HP0.out⟩
      case round =>
        clear HBF HO HP0
        obtain ⟨x, f, bo, hx, rfl, rfl, hbf, ho, hps⟩ := hrel
        have HBF : Hid (BoolF w1.heap.size wr g c2 ss.length f) := hbf
        have HO : Hid (Out g (g + 1) w5 wr) := ho
        have HPS : Hid (PassS ss.length (rF rs2) F f0 f x bo) := hps
        by_cases hxl : x < ss.length
        · have hxi : (x : Int) < (ss.length : Int) := by omega
          obtain ⟨gp, yv, hA5, hcy, ⟨A', c', hyv⟩, hlo, hIO⟩ : ∃ gp, ∃ y : Value, A5 = some ⟨gp, 0, none⟩ ∧ w5.cell? ⟨gp, x, none⟩ = some y ∧ (∃ A c, y = .slice A (pF ss rs2 x).length c) ∧ w3.heap.size ≤ gp ∧ IntsO w3.heap.size w5.heap.size w5 y (pF ss rs2 x) := by
            obtain ⟨ao', g', cap', hv', hr'⟩ := HRW.out.read
            cases hv'
            obtain ⟨y, A', c', h1, h2, h3, h4⟩ := hr' x (predsK ss rs2 x ss.length) (by simp [predsL, hxl])
            have hlo : w3.heap.size ≤ g' := by
              obtain ⟨vs, _, hvo, hhi, _⟩ := HRW.out
              rw [h1] at hvo
              exact (World.ownsRow.lt hvo g' rfl).1
            exact ⟨g', y, h1, h2, ⟨A', c', h3⟩, hlo, h4⟩
          subst hA5
          subst hyv
          obtain ⟨ar, gr, capr, har, hcr⟩ := hIO.read
          cases har
          have HCR : Hid (∀ i, i < (pF ss rs2 x).length → A' = some ⟨gr, 0, none⟩ ∧ w5.cell? ⟨gr, i, none⟩ = some (.int .i64 ((pF ss rs2 x).getD i 0)) ∧ g + 1 ≤ gr) := fun i hi => ⟨(hcr i hi).1, (hcr i hi).2.1, by have := (hcr i hi).2.2.2.1; omega⟩
          have HCY : Hid (w5.cell? ⟨gp, x, none⟩ = some (.slice A' (pF ss rs2 x).length c')) := hcy
          have hgp : g + 1 ≤ gp := by omega
          have HFX : Hid (F f x = (d x || (decide (x ≠ 0) && allI (pF ss rs2 x) (fun m => kF e ss m && f m)))) := by rw [Hid, HFD.out]; rfl
          have HLX : Hid (∀ y ∈ pF ss rs2 x, 0 ≤ y ∧ y < (ss.length : Int)) := low_preds ss rs2 x hxl
          have hpl : (pF ss rs2 x).length ≤ 60 := Nat.le_trans (predsK_len _ _ _ _) hn2
          have SK : Hid (F f x = true ∨ f x = false → PassS ss.length (rF rs2) F f0 f (x + 1) bo) := fun h => HPS.out.skip fun h1 => by
            rcases h with h | h
            · exact h
            · rw [h1] at h; cases h
          have ST : Hid (f x = true → F f x = false → PassS ss.length (rF rs2) F f0 (offB f x) (x + 1) true) := fun h1 h2 => HPS.out.off HM.out hxl h1 h2
          have cf := hbf.cell hxl
          have ff := hbf.frozen x
          have ce := ho.cell (HDD.out x hxl) (Or.inl (by show pb < g; omega))
          have cl := ho.cell HL5.out (Or.inl (by show w.heap.size + 1 + 1 < g; omega))
          have hxp : (x : Int) < (ps.length : Int) := by have := HPL.out; omega
          have HST : Hid (BoolF w1.heap.size (wr.setCell ⟨g, x, none⟩ (.bool false)) g c2 ss.length (offB f x) ∧ Out g (g + 1) w5 (wr.setCell ⟨g, x, none⟩ (.bool false))) := ⟨hbf.off x, ho.setCell (Nat.le_refl _) (by show g < g + 1; omega) _⟩
          have cp := ho.cell HCY.out (Or.inr (by show g + 1 ≤ gp; omega))
          clear hbf ho hps hcr hIO hcy hlo HPS
          generalize pF ss rs2 x = zs at *
          cases hfx : f x
          · rw [hfx] at cf
            have HN : Hid _ := SK.out (Or.inr hfx)
            clear SK ST hfx HFX HST
            go_wp2
            go_roundw
            case rel => exact ⟨x + 1, f, bo, by omega, by go_num, rfl, HBF.out, HO.out, HN.out⟩
            case measure => simp [intOf]; omega
          rw [hfx] at cf
          cases hdx : d x
          rotate_left
          · rw [hdx] at ce
            have HN : Hid _ := SK.out (Or.inl (by rw [HFX.out, hdx]; rfl))
            clear SK ST hfx HFX HST hdx
            go_wp2
            go_roundw
            case rel => exact ⟨x + 1, f, bo, by omega, by go_num, rfl, HBF.out, HO.out, HN.out⟩
            case measure => simp [intOf]; omega
          rw [hdx] at ce
          have HFY : Hid (F f x = (decide (x ≠ 0) && allI zs (fun m => kF e ss m && f m))) := by rw [Hid, HFX.out, hdx, Bool.false_or]
          have HFT : Hid (f x = true) := hfx
          clear hdx hfx HFX
          by_cases h0 : x = 0
          · have HN : Hid _ := ST.out HFT.out (by rw [HFY.out, h0]; rfl)
            have h0i : ¬ (0 : Int) < (x : Int) := by omega
            have h0n : ¬ 0 < x := by omega
            clear SK ST HFY HFT h0
            go_wp2_with fail
            go_loop [12, 13] (fun gd kk => ∃ k : Nat, k ≤ zs.length ∧ kk = .int .i64 k ∧ gd = .bool false) (fun _ kk => zs.length - (intOf kk).toNat)
            case atStart => exact ⟨0, Nat.zero_le _, rfl, rfl⟩
            case round =>
              obtain ⟨k, hk, rfl, rfl⟩ := hrel
              by_cases hkl : k < zs.length
              · have hki : (k : Int) < (zs.length : Int) := by omega
                go_wp2
                go_round
                case rel => exact ⟨k + 1, by omega, by go_num, rfl⟩
                case measure => simp [intOf]; omega
              · have hki : ¬ (k : Int) < (zs.length : Int) := by omega
                clear HBF HO
                go_wp2
                go_roundw
                case rel => exact ⟨x + 1, offB f x, true, by omega, by go_num, rfl, HST.out.1, HST.out.2, HN.out⟩
                case measure => simp [intOf]; omega
          · have h0i : (0 : Int) < (x : Int) := by omega
            have h0n : 0 < x := by omega
            have HFZ : Hid (F f x = allI zs (fun m => kF e ss m && f m)) := by rw [Hid, HFY.out, decide_eq_true (show x ≠ 0 from h0), Bool.true_and]
            clear HFY h0
            go_wp2_with fail
            go_loop [12, 13] (fun gd kk => ∃ k : Nat, k ≤ zs.length ∧ kk = .int .i64 k ∧ gd = .bool (allTo zs (fun m => kF e ss m && f m) k)) (fun _ kk => zs.length - (intOf kk).toNat)
            case atStart => exact ⟨0, Nat.zero_le _, rfl, rfl⟩
            case round =>
              obtain ⟨k, hk, rfl, rfl⟩ := hrel
              by_cases hkl : k < zs.length
              · have hki : (k : Int) < (zs.length : Int) := by omega
                obtain ⟨rfl, hcr, hgr⟩ := HCR.out k hkl
                have hcr2 := HO.out.cell hcr (Or.inr (by show g + 1 ≤ gr; omega))
                have hzm : zs.getD k 0 ∈ zs := by
                  rw [List.getD_eq_getElem?_getD, List.getElem?_eq_getElem hkl]
                  exact List.getElem_mem hkl
                obtain ⟨z0, z1⟩ := HLX.out _ hzm
                have HNS : Hid (allTo zs (fun m => kF e ss m && f m) (k + 1) = (allTo zs (fun m => kF e ss m && f m) k && (kF e ss (zs.getD k 0).toNat && f (zs.getD k 0).toNat))) := allTo_succ hkl
                clear hcr hzm
                generalize zs.getD k 0 = z at *
                obtain ⟨m, rfl⟩ := Int.eq_ofNat_of_zero_le z0
                have hm : m < ss.length := by omega
                rw [show ((m : Int)).toNat = m from rfl] at HNS
                have d1 := HO.out.cell (HCC5.out m hm) (Or.inr (by show g + 1 ≤ g3; omega))
                have d2 := HBF.out.cell hm
                have hmi : (m : Int) < (ss.length : Int) := by omega
                generalize kF e ss m = cm at *
                generalize f m = fm at *
                generalize allTo zs (fun m => kF e ss m && f m) k = s0 at *
                have HN : Hid _ := HNS.out
                clear HNS
                cases s0 <;> cases fm <;> cases cm
                all_goals
                  go_wp2
                  go_round
                  case rel => exact ⟨k + 1, by omega, by go_num, by rw [HN.out]; rfl⟩
                  case measure => simp [intOf]; omega
              · have hki : ¬ (k : Int) < (zs.length : Int) := by omega
                obtain rfl : k = zs.length := by omega
                rw [allTo_all]
                cases hal : allI zs (fun m => kF e ss m && f m)
                · have HN : Hid _ := ST.out HFT.out (HFZ.out.trans hal)
                  clear SK ST HFZ HFT hal HBF HO
                  go_wp2
                  go_roundw
                  case rel => exact ⟨x + 1, offB f x, true, by omega, by go_num, rfl, HST.out.1, HST.out.2, HN.out⟩
                  case measure => simp [intOf]; omega
                · have HN : Hid _ := SK.out (Or.inl (HFZ.out.trans hal))
                  clear SK ST HFZ HFT hal HST
                  go_wp2
                  go_roundw
                  case rel => exact ⟨x + 1, f, bo, by omega, by go_num, rfl, HBF.out, HO.out, HN.out⟩
                  case measure => simp [intOf]; omega
        · have hxi : ¬ (x : Int) < (ss.length : Int) := by omega
          obtain rfl : x = ss.length := by omega
          clear hbf ho hps
          go_wp2
          go_roundw
          case rel => exact ⟨f, bo, rfl, HBF.out, HO.out, HPS.out.gi, fun h i hi hf => (HPS.out.no h).2 i hi hf⟩
          case measure =>
            have e1 := HME.out
            have e2 := trueAt_F HBF.out
            rw [e1, e2]
            cases bo with
            | false =>
              have e3 := (HPS.out.no rfl).1
              rw [e3]
              simp [boolN]
            | true =>
              have e3 := HPS.out.yes rfl
              simp only [boolN]
              omega
end Go.Proofs.YtacgfbcfkjflmaaGreat
