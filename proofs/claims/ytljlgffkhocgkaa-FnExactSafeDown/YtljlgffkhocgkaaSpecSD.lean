/- What the model's SafeDown answers. -/
import Derived.Test.YtljlgffkhocgkaaSpecSS
import Derived.Test.YtljlgffkhocgkaaBoxU
namespace Go.Proofs.Ytljlgffkhocgkaa
open Go.RowKit

set_option maxRecDepth 100000 in
set_option maxHeartbeats 8000000 in
theorem specSafeDown_any {Q : Ending → World → Prop} (v : Value) (ss : List St) (e : E5) (w : World) (h : StepsAt w v ss) (hl : ss.length ≤ 1048576) (hls : ∀ s ∈ ss, s.next.length ≤ 1048576)
    (hQ : ∀ v' bs w', Below w.heap.size w w' → SafeOr IsDown ss e bs → w'.ownsRow w.heap.size 4 1 v' bs.length (bs.map Value.bool) → Q (.returned v') w') :
    Calls Try.prog 6 #[.agg #[v], .agg #[.int .i64 e.op, .int .i64 e.av, .int .i64 e.an, .int .i64 e.bv, .int .i64 e.bn]] w Q := by
  have HQ : Hid _ := hQ
  clear hQ
  obtain ⟨ao, b, o, cap, rfl, ha, hc⟩ := id h
  have HA : Hid (0 < ss.length → ao = some ⟨b, o, none⟩) := ha
  have HC : Hid (∀ i s, ss[i]? = some s → ∃ nv, StepCells w b (o + i * 8) s nv ∧ IntsAt w nv s.next) := hc
  have HH : Hid (StepsAt w (.slice ao ss.length cap) ss) := h
  have HL : Hid (∀ s ∈ ss, s.next.length ≤ 1048576) := hls
  clear ha hc h hls
  go_enter Try.func6, Try.ntmps6
  go_wp2_with fail
  have hb0 : Below w.heap.size w ((w.alloc (.cells #[.slice ao ss.length cap] 34)).alloc (.cells #[.int .i64 e.op, .int .i64 e.av, .int .i64 e.an, .int .i64 e.bv, .int .i64 e.bn] 38)) := ((Below.refl _ _).alloc (Nat.le_refl _) _).alloc (by simp) _
  have hbx := BoxE.new w ao ss.length cap e 34 38
  have hsz0 : ((w.alloc (.cells #[.slice ao ss.length cap] 34)).alloc (.cells #[.int .i64 e.op, .int .i64 e.av, .int .i64 e.an, .int .i64 e.bv, .int .i64 e.bn] 38)).heap.size = w.heap.size + 2 := by simp
  generalize (w.alloc (.cells #[.slice ao ss.length cap] 34)).alloc (.cells #[.int .i64 e.op, .int .i64 e.av, .int .i64 e.an, .int .i64 e.bv, .int .i64 e.bn] 38) = W0 at *
  refine l12Ok_any _ ss e _ (HH.out.keep hb0) hl HL.out fun w1 hb1 => ?_
  have HB1 : Hid (Below w.heap.size w w1) := hb0.trans (hb1.mono (by omega))
  have HX1 : Hid (BoxE w1 w.heap.size ao ss.length cap e) := hbx.keep hb1
  have p1 := HX1.out.p
  have x10 := HX1.out.c0
  have x11 := HX1.out.c1
  have x12 := HX1.out.c2
  have x13 := HX1.out.c3
  have x14 := HX1.out.c4
  have hs1 : w.heap.size + 2 ≤ w1.heap.size := by have := hb1.size; omega
  clear hb0 hbx hb1 hsz0
  cases hok : (okB ss && exprB e)
  · have HR : Hid (SafeOr IsDown ss e []) := Or.inr ⟨by simpa using hok, rfl⟩
    clear hok
    go_wp2_with fail
    have hlit := World.ownsRow_lit (base := w.heap.size) (e := 4) (size := 1) w1 #[] 0 (by omega) (by decide) (by simp)
    have HLT : Hid ((w1.alloc (.cells #[] 4)).ownsRow w.heap.size 4 1 (.slice (some ⟨w1.heap.size, 0, none⟩) 0 0) 0 []) := hlit
    have HBF : Hid (∀ O, Below w.heap.size w (w1.alloc O)) := fun O => HB1.out.alloc HB1.out.size O
    clear hlit
    go_wp2
    exact HQ.out _ [] _ (HBF.out _) HR.out HLT.out
  obtain ⟨hok1, hex1⟩ : okB ss = true ∧ exprB e = true := by simpa using hok
  have HOK : Hid (okB ss = true) := hok1
  have HEX : Hid (exprB e = true) := hex1
  obtain ⟨hn1, hn2⟩ := ok_len hok1
  clear hok hok1 hex1
  go_wp2_with fail
  refine l12All_any _ ss _ (HH.out.keep HB1.out) HOK.out fun g c2 rs w2 hb2 hre hbf2 => ?_
  have HRE : Hid (IsReach ss rs) := hre
  have HF2 : Hid (BoolF w1.heap.size w2 g c2 ss.length (rF rs)) := hbf2
  have HB2 : Hid (Below w.heap.size w w2) := HB1.out.trans (hb2.mono HB1.out.size)
  have HX2 : Hid (BoxE w2 w.heap.size ao ss.length cap e) := HX1.out.keep hb2
  have p2 := HX2.out.p
  have x20 := HX2.out.c0
  have x21 := HX2.out.c1
  have x22 := HX2.out.c2
  have x23 := HX2.out.c3
  have x24 := HX2.out.c4
  clear hb2 hre hbf2 p1 x10 x11 x12 x13 x14 HX1
  go_wp2_with fail
  refine specComp_u _ ss e _ (HH.out.keep HB2.out) hl HL.out fun v3 cs w3 hb3 hcs hown3 => ?_
  obtain ⟨hcl, hcg⟩ := hcs.get HOK.out HEX.out
  obtain ⟨g3, c3, hv3, _, _⟩ := hown3.form (by omega)
  subst hv3
  rw [hcl] at hown3
  have HO3 : Hid (w3.ownsRow w2.heap.size 4 1 (.slice (some ⟨g3, 0, none⟩) ss.length c3) ss.length (cs.map Value.bool)) := hown3
  have HCG : Hid (∀ i (hi : i < ss.length), cs.getD i false = compB e ss[i]) := hcg
  have HF3 : Hid (BoolF w1.heap.size w3 g c2 ss.length (rF rs)) := HF2.out.keep hb3
  have HB3 : Hid (Below w.heap.size w w3) := HB2.out.trans (hb3.mono HB2.out.size)
  have HX3 : Hid (BoxE w3 w.heap.size ao ss.length cap e) := HX2.out.keep hb3
  have hs3 := HB2.out.size
  have p3 := HX3.out.p
  have x30 := HX3.out.c0
  have x31 := HX3.out.c1
  have x32 := HX3.out.c2
  have x33 := HX3.out.c3
  have x34 := HX3.out.c4
  clear hb3 hcs hown3 hcg p2 x20 x21 x22 x23 x24 HX2
  rw [hcl]
  go_wp2_with fail
  refine specKeeps_u _ ss e _ (HH.out.keep HB3.out) hl HL.out fun v4 ks w4 hb4 hks hown4 => ?_
  obtain ⟨hkl, hkg⟩ := hks.get HOK.out HEX.out
  obtain ⟨g4, c4, hv4, _, _⟩ := hown4.form (by omega)
  subst hv4
  rw [hkl] at hown4
  have HB4 : Hid (Below w.heap.size w w4) := HB3.out.trans (hb4.mono HB3.out.size)
  have HF4 : Hid (BoolF w1.heap.size w4 g c2 ss.length (rF rs)) := HF3.out.keep hb4
  have HX4 : Hid (BoxE w4 w.heap.size ao ss.length cap e) := HX3.out.keep hb4
  have hg1 := HF2.out.lt
  have hg3 := HO3.out.lt g3 rfl
  have hg4 := World.ownsRow.lt hown4 g4 rfl
  have hs2 := HF2.out.lt.2
  have HCC : Hid (∀ i, i < ss.length → w4.cell? ⟨g3, i, none⟩ = some (.bool (cF e ss i)) ∧ w4.cell? ⟨g4, i, none⟩ = some (.bool (kF e ss i))) := fun i hi => by
    have a1 := cell_keep hb4 ((World.ownsRow.cellAt HO3.out i (by omega)).trans (show (cs.map Value.bool)[i]? = some (.bool (cs.getD i false)) by
      have : i < cs.length := by omega
      simp [this]))
    have a2 := (World.ownsRow.cellAt hown4 i (by omega)).trans (show (ks.map Value.bool)[i]? = some (.bool (ks.getD i false)) by
      have : i < ks.length := by omega
      simp [this])
    rw [HCG.out i hi, ← cF_get hi] at a1
    rw [hkg i hi, ← kF_get hi] at a2
    exact ⟨a1, a2⟩
  have HNE : Hid (w.heap.size + 2 ≤ g ∧ g < w2.heap.size ∧ w2.heap.size ≤ g3 ∧ w2.heap.size ≤ g4 ∧ w1.heap.size ≤ g ∧ w2.heap.size ≤ w4.heap.size ∧ g3 < w4.heap.size) := by
    have := hb4.size
    have := HF3.out.lt
    exact ⟨by omega, by omega, by omega, by omega, by omega, by omega, by omega⟩
  clear hb4 hks hown4 hkg p3 x30 x31 x32 x33 x34 HX3 HO3 HCG HF3 HB3 HF2 HB2 hg1 hg3 hg4 hs2 hcl
  rw [hkl]
  clear hkl
  go_wp2_with fail
  have HM : Hid (Mono ss.length (downF (cF e ss) (kF e ss) (nextOf ss))) := downF_mono (low_next HOK.out)
  have HLW : Hid (Low ss.length (nextOf ss)) := low_next HOK.out
  have HG0 : Hid (GI ss.length (rF rs) (downF (cF e ss) (kF e ss) (nextOf ss)) (rF rs)) := GI.start _ _ _
  obtain ⟨F, hF⟩ : ∃ F, F = downF (cF e ss) (kF e ss) (nextOf ss) := ⟨_, rfl⟩
  have HFD : Hid (F = downF (cF e ss) (kF e ss) (nextOf ss)) := hF
  rw [← hF] at HM HG0
  clear hF
  have hgw : w.heap.size + 2 ≤ g := HNE.out.1
  have HFIN : Hid (∀ wr f, BoolF w1.heap.size wr g c2 ss.length f → Out g (g + 1) w4 wr → GI ss.length (rF rs) F f → (∀ i, i < ss.length → f i = true → F f i = true) →
      Below w.heap.size w wr ∧ SafeOr IsDown ss e ((List.range ss.length).map f) ∧ wr.ownsRow w.heap.size 4 1 (.slice (some ⟨g, 0, none⟩) ss.length c2) ((List.range ss.length).map f).length (((List.range ss.length).map f).map Value.bool)) := fun wr f hbf ho hgi hfx => by
    refine ⟨HB4.out.trans (ho.below (by omega) HB4.out.size), Or.inl ⟨HOK.out, HEX.out, rs, f, HRE.out, ?_, rfl⟩, ?_⟩
    · unfold IsDown
      rw [← HFD.out]
      exact hgi.done hfx
    · rw [List.length_map, List.length_range, List.map_map]
      exact own_lower hbf HB1.out.size
  go_loopw [8, 9] (fun ch i wr => ∃ f bo, ch = .bool bo ∧ BoolF w1.heap.size wr g c2 ss.length f ∧ Out g (g + 1) w4 wr ∧ GI ss.length (rF rs) F f ∧ (bo = false → ∀ i, i < ss.length → f i = true → F f i = true)) (fun ch _ wr => 2 * cnt (trueAt wr g) ss.length + boolN ch)
  case atStart => exact ⟨rF rs, true, rfl, HF4.out, Out.refl _ _ _, HG0.out, fun h => by cases h⟩
  case round =>
    clear HF4 HG0
    obtain ⟨f0, bo, rfl, hbf, ho, hgi, hfx⟩ := hrel
    cases bo with
    | false =>
      have HE : Hid _ := HFIN.out wr f0 hbf ho hgi (hfx rfl)
      clear hbf ho hgi hfx
      go_wp2
      exact HQ.out _ _ _ HE.out.1 HE.out.2.1 HE.out.2.2
    | true =>
      have HBF : Hid (BoolF w1.heap.size wr g c2 ss.length f0) := hbf
      have HO : Hid (Out g (g + 1) w4 wr) := ho
      have HP0 : Hid (PassS ss.length (rF rs) F f0 f0 0 false) := PassS.start hgi
      have HME : Hid (2 * cnt (trueAt wr g) ss.length + boolN (.bool true) = 2 * cnt f0 ss.length + 1) := by rw [Hid, trueAt_F hbf]; rfl
      clear hbf ho hgi hfx
      go_wp2_with fail
      go_loopw [8, 9] (fun ch i wx => ∃ k f b, k ≤ ss.length ∧ i = .int .i64 (k : Nat) ∧ ch = .bool b ∧ BoolF w1.heap.size wx g c2 ss.length f ∧ Out g (g + 1) w4 wx ∧ PassS ss.length (rF rs) F f0 f k b) (fun _ i _ => ss.length - (intOf i).toNat)
      case atStart => exact ⟨0, f0, false, Nat.zero_le _, rfl, rfl, HBF.out, HO.out, HP0.out⟩
      case round =>
        clear HBF HO HP0
        obtain ⟨x, f, bo, hx, rfl, rfl, hbf, ho, hps⟩ := hrel
        have HBF : Hid (BoolF w1.heap.size wr g c2 ss.length f) := hbf
        have HO : Hid (Out g (g + 1) w4 wr) := ho
        have HPS : Hid (PassS ss.length (rF rs) F f0 f x bo) := hps
        by_cases hxl : x < ss.length
        · have hxi : (x : Int) < (ss.length : Int) := by omega
          obtain rfl := HA.out (by omega)
          have cf := hbf.cell hxl
          have ff := hbf.frozen x
          have cp := ho.cell HX4.out.p (Or.inl (by show w.heap.size < g; omega))
          have d1 := ho.cell (HCC.out x hxl).1 (Or.inr (by show g + 1 ≤ g3; have := HNE.out; omega))
          have d2 := ho.cell (HCC.out x hxl).2 (Or.inr (by show g + 1 ≤ g4; have := HNE.out; omega))
          obtain ⟨nv, st, hi⟩ := HC.out x ss[x] (List.getElem?_eq_getElem hxl)
          have hbb := cell_lt st.c7
          simp only at hbb
          have c7 := ho.cell (cell_keep HB4.out st.c7) (Or.inl (by show b < g; omega))
          obtain ⟨nao, nb, no, ncap, rfl, na, nc⟩ := hi
          have HI : Hid (IntsAt wr (.slice nao ss[x].next.length ncap) ss[x].next) := ⟨nao, nb, no, ncap, rfl, na, fun i hi => ho.cell (cell_keep HB4.out (nc i hi)) (Or.inl (by have := cell_lt (nc i hi); simp only at this; show nb < g; omega))⟩
          have HFX : Hid (∀ f, F f x = (cF e ss x || (kF e ss x && (decide (0 < ss[x].next.length) && allI ss[x].next f)))) := fun f => by rw [HFD.out]; unfold downF; rw [nextOf_get hxl]
          have HLX : Hid (∀ y ∈ ss[x].next, 0 ≤ y ∧ y < (ss.length : Int)) := by have := HLW.out x hxl; rwa [nextOf_get hxl] at this
          have hnl : ss[x].next.length ≤ 2 := by have := next_len HOK.out hxl; rwa [nextOf_get hxl] at this
          clear hbf ho hps st na nc hbb
          generalize ss[x].next = nx at *
          generalize cF e ss x = cx at *
          generalize kF e ss x = kx at *
          have SK : Hid (F f x = true ∨ f x = false → PassS ss.length (rF rs) F f0 f (x + 1) bo) := fun h => HPS.out.skip fun h1 => by
            rcases h with h | h
            · exact h
            · rw [h1] at h; cases h
          have ST : Hid (f x = true → F f x = false → PassS ss.length (rF rs) F f0 (offB f x) (x + 1) true ∧ BoolF w1.heap.size (wr.setCell ⟨g, x, none⟩ (.bool false)) g c2 ss.length (offB f x) ∧ Out g (g + 1) w4 (wr.setCell ⟨g, x, none⟩ (.bool false))) := fun h1 h2 => ⟨HPS.out.off HM.out hxl h1 h2, HBF.out.off x, HO.out.setCell (Nat.le_refl _) (by show g < g + 1; omega) _⟩
          clear HPS
          cases hfx : f x
          · rw [hfx] at cf
            have HN : Hid _ := SK.out (Or.inr hfx)
            clear SK ST hfx HFX
            go_wp2
            go_roundw
            case rel => exact ⟨x + 1, f, bo, by omega, by go_num, rfl, HBF.out, HO.out, HN.out⟩
            case measure => simp [intOf]; omega
          · rw [hfx] at cf
            cases cx
            · cases kx
              · have HN : Hid _ := ST.out hfx (by rw [HFX.out]; rfl)
                clear SK ST hfx HFX HBF HO
                go_wp2
                go_roundw
                case rel => exact ⟨x + 1, offB f x, true, by omega, by go_num, rfl, HN.out.2.1, HN.out.2.2, HN.out.1⟩
                case measure => simp [intOf]; omega
              · by_cases hnz : nx.length = 0
                · have HN : Hid _ := ST.out hfx (by rw [HFX.out, hnz]; rfl)
                  have hnzi : (nx.length : Int) = 0 := by omega
                  clear SK ST hfx HFX HBF HO
                  go_wp2
                  go_roundw
                  case rel => exact ⟨x + 1, offB f x, true, by omega, by go_num, rfl, HN.out.2.1, HN.out.2.2, HN.out.1⟩
                  case measure => simp [intOf]; omega
                · have hnzi : ¬ (nx.length : Int) = 0 := by omega
                  have hnzb : ((nx.length : Int) == 0) = false := beq_eq_false_iff_ne.2 hnzi
                  have hpos : 0 < nx.length := by omega
                  have HFY : Hid (F f x = allI nx f) := by rw [Hid, HFX.out, decide_eq_true hpos]; rfl
                  clear hpos HFX
                  go_wp2_with fail
                  refine l12Each_any w1.heap.size g c2 ss.length f _ nx _ HBF.out HI.out HLX.out (by omega) ?_
                  cases hal : allI nx f
                  · have HN : Hid _ := ST.out hfx (HFY.out.trans hal)
                    clear SK ST hfx HBF HO hal HFY
                    go_wp2
                    go_roundw
                    case rel => exact ⟨x + 1, offB f x, true, by omega, by go_num, rfl, HN.out.2.1, HN.out.2.2, HN.out.1⟩
                    case measure => simp [intOf]; omega
                  · have HN : Hid _ := SK.out (Or.inl (HFY.out.trans hal))
                    clear SK ST hfx hal HFY
                    go_wp2
                    go_roundw
                    case rel => exact ⟨x + 1, f, bo, by omega, by go_num, rfl, HBF.out, HO.out, HN.out⟩
                    case measure => simp [intOf]; omega
            · have HN : Hid _ := SK.out (Or.inl (by rw [HFX.out]; rfl))
              clear SK ST hfx HFX
              go_wp2
              go_roundw
              case rel => exact ⟨x + 1, f, bo, by omega, by go_num, rfl, HBF.out, HO.out, HN.out⟩
              case measure => simp [intOf]; omega
        · have hxi : ¬ (x : Int) < (ss.length : Int) := by omega
          obtain rfl : x = ss.length := by omega
          clear hbf ho hps
          go_wp2
          go_roundw
          case rel => exact ⟨f, bo, rfl, HBF.out, HO.out, HPS.out.gi, fun h i hi hf => (HPS.out.no h).2 i hi hf⟩
          case measure =>
            have e1 := HME.out
            have e2 := trueAt_F HBF.out
            rw [e1, e2]
            cases bo with
            | false =>
              have e3 := (HPS.out.no rfl).1
              rw [e3]
              simp [boolN]
            | true =>
              have e3 := HPS.out.yes rfl
              simp only [boolN]
              omega
end Go.Proofs.Ytljlgffkhocgkaa
