/- The model's PathOf. -/
import Derived.Test.YtmplkchdfloppaaGreatDoorWayC
import Derived.Test.YtmplkchdfloppaaGreatDoorSpecOk
import Derived.Deep.AppendLies
namespace Go.Proofs.YtmplkchdfloppaaGreatDoor
open Go.RowKit

theorem info_partsW {t : TypeId} {z : Value} {n k : Nat} (h : (Tryz.prog.info? t).map (fun i => (i.zero, i.size, i.bytes)) = some (some z, n, k)) : ∃ i, Tryz.prog.info? t = some i ∧ i.zero = some z ∧ i.size = n ∧ i.bytes = k := by
  simp only [Option.map_eq_some_iff, Prod.mk.injEq] at h
  obtain ⟨i, h1, h2, h3, h4⟩ := h
  exact ⟨i, h1, h2, h3, h4⟩

/-- How many cells a slice has. -/
def rowLen : Value → Nat
  | .slice _ n _ => n
  | _ => 0
theorem rowLen_own {w : World} {lo t : Nat} {v : Value} {zs : List Int} (h : w.ownsRow lo t 1 v zs.length (zs.map (Value.int .i64))) : rowLen v = zs.length := by
  rcases h.2 with ⟨e, e2⟩ | ⟨g, c, _, e, _⟩
  · rw [e, rowLen, e2]
  · rw [e, rowLen]

set_option maxRecDepth 100000 in
set_option maxHeartbeats 8000000 in
theorem specPathOf_any {Q : Ending → World → Prop} (v x : Value) (ss : List St) (cs : List Bool) (w : World) (h : StepsAt w v ss) (hl : ss.length ≤ 1048576) (hls : ∀ s ∈ ss, s.next.length ≤ 1048576) (hc : BoolsAt w x cs) (hcl : cs.length ≤ 1048576)
    (hQ : ∀ (v' : Value) (zs : List Int) (b : Bool) w', Below w.heap.size w w' → PathOr ss cs zs b → w'.ownsRow w.heap.size 3 1 v' zs.length (zs.map (Value.int .i64)) → Q (.returned (.tuple #[v', .bool b])) w') :
    Calls Tryz.prog 57 #[.agg #[v], x] w Q := by
  have HQ : Hid _ := hQ
  clear hQ
  obtain ⟨ao, b, o, cap, rfl, ha, hcells⟩ := id h
  obtain ⟨xo, xb, xof, xcap, rfl, hca, hcc⟩ := id hc
  have HH : Hid (StepsAt w (.slice ao ss.length cap) ss) := h
  have HA : Hid _ := ha
  have HC : Hid (∀ i s, ss[i]? = some s → ∃ nv, StepCells w b (o + i * 8) s nv ∧ IntsAt w nv s.next) := hcells
  have HL : Hid _ := hls
  have HCA : Hid _ := hca
  have HCC : Hid _ := hcc
  clear h hls hc ha hcells hca hcc
  obtain ⟨i0, hi, hz0, hz1, hz2⟩ := info_partsW infoInt2
  have hb0 : ∀ O, Below w.heap.size w (w.alloc O) := fun O => (Below.refl _ _).alloc (Nat.le_refl _) O
  go_enter Tryz.func57, Tryz.ntmps57
  go_wp2_with fail
  refine specOk_any _ ss _ (HH.out.keep (hb0 _)) hl HL.out fun w1 hb1 => ?_
  have HB1 : Hid (Below w.heap.size w w1) := (hb0 _).trans (hb1.mono (by simp))
  have q1 : w1.cell? ⟨w.heap.size, 0, none⟩ = some (.slice ao ss.length cap) := cell_keep hb1 (by simp [go_sem])
  have hs1 : w.heap.size < w1.heap.size := cell_lt q1
  clear hb1 hb0 HL
  have HE : Hid (∀ W : World, w.heap.size ≤ W.heap.size → (W.alloc (.cells #[] 3)).ownsRow w.heap.size 3 1 (.slice (some ⟨W.heap.size, 0, none⟩) 0 0) 0 []) := fun W hW => World.ownsRow_lit (base := w.heap.size) (e := 3) (size := 1) W #[] 0 hW (by decide) (by simp)
  cases hok : okB ss
  · have HF : Hid (PathOr ss cs [] false) := Or.inr ⟨(fun e => by rw [hok] at e; cases e), rfl, rfl⟩
    have HBF : Hid (∀ O, Below w.heap.size w (w1.alloc O)) := fun O => HB1.out.alloc HB1.out.size O
    clear hok
    go_wp2
    exact HQ.out _ [] _ _ (HBF.out _) HF.out (HE.out w1 (by omega))
  have HOK : Hid (okB ss = true) := hok
  obtain ⟨hn1, hn2⟩ := ok_len hok
  obtain rfl := HA.out (by omega)
  clear hok HA HH
  have hlit := World.ownsRow_lit (base := w.heap.size + 1) (e := 3) (size := 1) w1 #[.int .i64 0] 1 (by omega) (by decide) (by simp)
  have HO1 : Hid ((w1.alloc (.cells #[.int .i64 0] 3)).ownsRow (w.heap.size + 1) 3 1 (.slice (some ⟨w1.heap.size, 0, none⟩) 1 1) 1 [.int .i64 0]) := hlit
  clear hlit
  generalize hao : (some ⟨b, o, none⟩ : Option Addr) = ao at *
  have HAO : Hid (some ⟨b, o, none⟩ = ao) := hao
  clear hao
  go_wp2
  go_loopw [6, 7, 8] (fun u a n wr => ∃ t : Nat, t < 200 ∧ a = .int .i64 (aC ss cs t : Nat) ∧ n = .int .i64 (nC ss cs t : Nat) ∧ OnC ss cs t ∧ Below w.heap.size w wr ∧ wr.cell? ⟨w.heap.size, 0, none⟩ = some (.slice ao ss.length cap) ∧ wr.ownsRow (w.heap.size + 1) 3 1 u (outC ss cs t).length ((outC ss cs t).map (Value.int .i64))) (fun u _ _ _ => 200 - rowLen u)
  case atStart => exact ⟨0, by omega, rfl, rfl, fun j hj => by omega, HB1.out.alloc HB1.out.size _, cell_keep ((Below.refl _ _).alloc (Nat.le_refl _) _) q1, HO1.out⟩
  case round =>
    clear HO1
    obtain ⟨t, ht, rfl, rfl, hon, hbr, q3, hown⟩ := hrel
    have hmn := OnC.place HOK.out hon
    have HON : Hid (OnC ss cs t) := hon
    have HBR : Hid (Below w.heap.size w wr) := hbr
    obtain ⟨m, hm⟩ : ∃ m, aC ss cs t = m := ⟨_, rfl⟩
    have HM : Hid (aC ss cs t = m) := hm
    rw [hm] at hmn ⊢
    have HNX : Hid (nextOf ss m = ss[m].next) := nextOf_get hmn
    have HKA : Hid (kindAt ss m = ss[m].kind) := kindAt_get hmn
    obtain ⟨nv, st, hin⟩ := HC.out m ss[m] (List.getElem?_eq_getElem hmn)
    obtain ⟨nao, nb, no, ncap, rfl, hna, hnc⟩ := id hin
    have k0 := cell_keep hbr st.c0
    have k7 := cell_keep hbr st.c7
    have hmi : (m : Int) < (ss.length : Int) := by omega
    have hnl := nC_le ss cs t
    obtain ⟨g, cp, hu, hg1, _⟩ := hown.form (by rw [outC_len]; omega)
    subst hu
    have HO : Hid (wr.ownsRow (w.heap.size + 1) 3 1 (.slice (some ⟨g, 0, none⟩) (outC ss cs t).length cp) (outC ss cs t).length ((outC ss cs t).map (Value.int .i64))) := hown
    obtain rfl := HAO.out
    clear hon hbr hm st hin hown
    by_cases h7 : ss[m].kind = 7
    · have HF : Hid (PathOr ss cs (outC ss cs t) true) := Or.inl ⟨HOK.out, t, ht, HON.out, by rw [HM.out, HKA.out, h7], rfl, rfl⟩
      rw [h7] at k0
      clear hna hnc
      go_wp2
      exact HQ.out _ _ _ _ HBR.out HF.out (own_lower HO.out (Nat.le_succ _))
    · have h7b : (ss[m].kind != 7) = true := by simpa using h7
      have H7 : Hid (ss[m].kind ≠ 7) := h7
      obtain ⟨hnx1, _⟩ := step_goes HOK.out hmn (by rw [HKA.out]; exact h7)
      rw [HNX.out] at hnx1
      obtain rfl := hna hnx1
      have HNC : Hid (∀ i, i < ss[m].next.length → wr.cell? ⟨nb, no + i, none⟩ = some (.int .i64 (ss[m].next.getD i 0))) := fun i hi => cell_keep HBR.out (hnc i hi)
      clear hna hnc h7
      by_cases hmax : t = 199
      · have hoi : ¬ ((outC ss cs t).length : Int) < 200 := by have := outC_len ss cs t; omega
        have hoi2 : (200 : Int) ≤ ((outC ss cs t).length : Int) := by have := outC_len ss cs t; omega
        have HF : Hid (PathOr ss cs [] false) := Or.inr ⟨fun _ j hj => by
          by_cases e1 : j = t
          · subst e1; rw [HM.out, HKA.out]; exact H7.out
          · exact HON.out j (by omega), rfl, rfl⟩
        have HBF : Hid (∀ O, Below w.heap.size w (wr.alloc O)) := fun O => HBR.out.alloc HBR.out.size O
        have hsr : w.heap.size ≤ wr.heap.size := HBR.out.size
        go_wp2
        exact HQ.out _ [] _ _ (HBF.out _) HF.out (HE.out wr hsr)
      · have hoi : ((outC ss cs t).length : Int) < 200 := by have := outC_len ss cs t; omega
        have hoi2 : ¬ (200 : Int) ≤ ((outC ss cs t).length : Int) := by have := outC_len ss cs t; omega
        have hcase : (ss[m].kind = 5 ∧ nC ss cs t < cs.length ∧ cs.getD (nC ss cs t) false = true) ∨ (ss[m].kind = 5 ∧ nC ss cs t < cs.length ∧ cs.getD (nC ss cs t) false = false) ∨ (ss[m].kind = 5 ∧ ¬ nC ss cs t < cs.length) ∨ ss[m].kind ≠ 5 := by
          by_cases e5 : ss[m].kind = 5
          · by_cases en : nC ss cs t < cs.length
            · cases ec : cs.getD (nC ss cs t) false
              · exact Or.inr (Or.inl ⟨e5, en, rfl⟩)
              · exact Or.inl ⟨e5, en, rfl⟩
            · exact Or.inr (Or.inr (Or.inl ⟨e5, en⟩))
          · exact Or.inr (Or.inr (Or.inr e5))
        rcases hcase with ⟨h5, hn, hcv⟩ | ⟨h5, hn, hcv⟩ | ⟨h5, hn⟩ | h5
        · have h5b : (ss[m].kind == 5) = true := by simp [h5]
          have hni : ((nC ss cs t : Nat) : Int) < (cs.length : Int) := by omega
          obtain rfl := HCA.out (by omega)
          have cc := cell_keep HBR.out (HCC.out _ hn)
          rw [hcv] at cc
          have h2l := (step_goes HOK.out hmn (by rw [HKA.out]; exact H7.out)).2 (by rw [HKA.out]; exact h5)
          rw [HNX.out] at h2l
          have HA1 : Hid (aC ss cs (t + 1) = (ss[m].next.getD 1 0).toNat) := by
            rw [Hid, aC_succ, HM.out, HNX.out]
            have hs : sndC ss cs m (nC ss cs t) = true := by unfold sndC; rw [HKA.out, decide_eq_true h5, decide_eq_true hn, hcv]; rfl
            rw [hs]
            rfl
          have HN1 : Hid (nC ss cs (t + 1) = nC ss cs t + 1) := by
            rw [Hid, nC_succ, HM.out, HKA.out]
            simp [h5]
          obtain ⟨m', hm', hmn', _⟩ := ok_next HOK.out (List.getElem?_eq_getElem hmn) (t := 1) (by omega)
          have ck := HNC.out 1 (by omega)
          rw [hm'] at ck HA1
          try rw [Nat.add_zero] at ck
          have ha2 : aC ss cs (t + 1) = m' := by have := HA1.out; simpa using this
          have HA2 : Hid (aC ss cs (t + 1) = m') := ha2
          clear ha2
          have hkl : (1 : Int) < (ss[m].next.length : Int) := by omega
          have hON : Hid (OnC ss cs (t + 1)) := fun j hj => by
            by_cases e1 : j = t
            · subst e1; rw [HM.out, HKA.out]; exact H7.out
            · exact HON.out j (by omega)
          clear HA1 hm'
          generalize ss[m].kind = kd at *
          generalize ss[m].next.length = nl at *
          generalize nC ss cs t = nn at *
          go_wp2_with (at_builtin; refine wpList_append_own _ rfl _ _ 30 rfl (w.heap.size + 1) 3 i0 (.int .i64 0) 1 8 Tryz.underlying30 hi hz0 hz1 hz2 rfl (by decide) (.slice (some ⟨g, 0, none⟩) (outC ss cs t).length cp) (outC ss cs t).length ((outC ss cs t).map (Value.int .i64)) rfl (HO.out.alloc _) ⟨wr.heap.size, 0, none⟩ 1 1 [.int .i64 (m' : Int)] rfl rfl (cell_one_new wr _ _) (int_oneCell _ _) (by unfold maxLen; have := outC_len ss cs t; omega) (by have := outC_len ss cs t; omega) (by have := outC_len ss cs t; simp; omega) ?_; intro v8 w8 hown8 hgrow8 _)
          have HB8 : Hid (Below w.heap.size w w8) := (HBR.out.alloc HBR.out.size _).grown hgrow8 (by simp; have := HBR.out.size; omega) (fun q hq => by have := (HO.out.lt q hq).1; omega)
          have HQ8 : Hid (w8.cell? ⟨w.heap.size, 0, none⟩ = some (.slice (some ⟨b, o, none⟩) ss.length cap)) := by
            have h1 : (wr.alloc (.cells #[.int .i64 (m' : Int)] 3)).cell? ⟨w.heap.size, 0, none⟩ = some (.slice (some ⟨b, o, none⟩) ss.length cap) := cell_keep ((Below.refl _ _).alloc (Nat.le_refl _) _) q3
            refine (World.cell?_of_block (a := ⟨w.heap.size, 0, none⟩) (hgrow8.block _ (cell_lt h1) fun e => ?_)).trans h1
            have := (HO.out.lt _ e.symm).1
            simp only at this
            omega
          have HO8 : Hid (w8.ownsRow (w.heap.size + 1) 3 1 v8 (outC ss cs (t + 1)).length ((outC ss cs (t + 1)).map (Value.int .i64))) := by
            rw [Hid, outC_succ, HA2.out]
            simpa using hown8
          clear hown8 hgrow8 q3
          go_wp2
          go_roundw
          case rel => exact ⟨t + 1, by omega, by rw [HA2.out], by rw [HN1.out]; first | rfl | go_num, hON.out, HB8.out, HQ8.out, HO8.out⟩
          case measure =>
            have e1 := HO8.out
            rw [rowLen_own e1]
            simp only [rowLen, outC_len]
            omega
        · have h5b : (ss[m].kind == 5) = true := by simp [h5]
          have hni : ((nC ss cs t : Nat) : Int) < (cs.length : Int) := by omega
          obtain rfl := HCA.out (by omega)
          have cc := cell_keep HBR.out (HCC.out _ hn)
          rw [hcv] at cc
          have HA1 : Hid (aC ss cs (t + 1) = (ss[m].next.getD 0 0).toNat) := by
            rw [Hid, aC_succ, HM.out, HNX.out]
            have hs : sndC ss cs m (nC ss cs t) = false := by unfold sndC; rw [HKA.out, decide_eq_true h5, decide_eq_true hn, hcv]; rfl
            rw [hs]
            rfl
          have HN1 : Hid (nC ss cs (t + 1) = nC ss cs t + 1) := by
            rw [Hid, nC_succ, HM.out, HKA.out]
            simp [h5]
          obtain ⟨m', hm', hmn', _⟩ := ok_next HOK.out (List.getElem?_eq_getElem hmn) (t := 0) (by omega)
          have ck := HNC.out 0 (by omega)
          rw [hm'] at ck HA1
          try rw [Nat.add_zero] at ck
          have ha2 : aC ss cs (t + 1) = m' := by have := HA1.out; simpa using this
          have HA2 : Hid (aC ss cs (t + 1) = m') := ha2
          clear ha2
          have hkl : (0 : Int) < (ss[m].next.length : Int) := by omega
          have hON : Hid (OnC ss cs (t + 1)) := fun j hj => by
            by_cases e1 : j = t
            · subst e1; rw [HM.out, HKA.out]; exact H7.out
            · exact HON.out j (by omega)
          clear HA1 hm'
          generalize ss[m].kind = kd at *
          generalize ss[m].next.length = nl at *
          generalize nC ss cs t = nn at *
          go_wp2_with (at_builtin; refine wpList_append_own _ rfl _ _ 30 rfl (w.heap.size + 1) 3 i0 (.int .i64 0) 1 8 Tryz.underlying30 hi hz0 hz1 hz2 rfl (by decide) (.slice (some ⟨g, 0, none⟩) (outC ss cs t).length cp) (outC ss cs t).length ((outC ss cs t).map (Value.int .i64)) rfl (HO.out.alloc _) ⟨wr.heap.size, 0, none⟩ 1 1 [.int .i64 (m' : Int)] rfl rfl (cell_one_new wr _ _) (int_oneCell _ _) (by unfold maxLen; have := outC_len ss cs t; omega) (by have := outC_len ss cs t; omega) (by have := outC_len ss cs t; simp; omega) ?_; intro v8 w8 hown8 hgrow8 _)
          have HB8 : Hid (Below w.heap.size w w8) := (HBR.out.alloc HBR.out.size _).grown hgrow8 (by simp; have := HBR.out.size; omega) (fun q hq => by have := (HO.out.lt q hq).1; omega)
          have HQ8 : Hid (w8.cell? ⟨w.heap.size, 0, none⟩ = some (.slice (some ⟨b, o, none⟩) ss.length cap)) := by
            have h1 : (wr.alloc (.cells #[.int .i64 (m' : Int)] 3)).cell? ⟨w.heap.size, 0, none⟩ = some (.slice (some ⟨b, o, none⟩) ss.length cap) := cell_keep ((Below.refl _ _).alloc (Nat.le_refl _) _) q3
            refine (World.cell?_of_block (a := ⟨w.heap.size, 0, none⟩) (hgrow8.block _ (cell_lt h1) fun e => ?_)).trans h1
            have := (HO.out.lt _ e.symm).1
            simp only at this
            omega
          have HO8 : Hid (w8.ownsRow (w.heap.size + 1) 3 1 v8 (outC ss cs (t + 1)).length ((outC ss cs (t + 1)).map (Value.int .i64))) := by
            rw [Hid, outC_succ, HA2.out]
            simpa using hown8
          clear hown8 hgrow8 q3
          go_wp2
          go_roundw
          case rel => exact ⟨t + 1, by omega, by rw [HA2.out], by rw [HN1.out]; first | rfl | go_num, hON.out, HB8.out, HQ8.out, HO8.out⟩
          case measure =>
            have e1 := HO8.out
            rw [rowLen_own e1]
            simp only [rowLen, outC_len]
            omega
        · have h5b : (ss[m].kind == 5) = true := by simp [h5]
          have hni : ¬ ((nC ss cs t : Nat) : Int) < (cs.length : Int) := by omega
          have HA1 : Hid (aC ss cs (t + 1) = (ss[m].next.getD 0 0).toNat) := by
            rw [Hid, aC_succ, HM.out, HNX.out]
            have hs : sndC ss cs m (nC ss cs t) = false := by unfold sndC; rw [HKA.out, decide_eq_true h5, decide_eq_false hn]; rfl
            rw [hs]
            rfl
          have HN1 : Hid (nC ss cs (t + 1) = nC ss cs t + 1) := by
            rw [Hid, nC_succ, HM.out, HKA.out]
            simp [h5]
          obtain ⟨m', hm', hmn', _⟩ := ok_next HOK.out (List.getElem?_eq_getElem hmn) (t := 0) (by omega)
          have ck := HNC.out 0 (by omega)
          rw [hm'] at ck HA1
          try rw [Nat.add_zero] at ck
          have ha2 : aC ss cs (t + 1) = m' := by have := HA1.out; simpa using this
          have HA2 : Hid (aC ss cs (t + 1) = m') := ha2
          clear ha2
          have hkl : (0 : Int) < (ss[m].next.length : Int) := by omega
          have hON : Hid (OnC ss cs (t + 1)) := fun j hj => by
            by_cases e1 : j = t
            · subst e1; rw [HM.out, HKA.out]; exact H7.out
            · exact HON.out j (by omega)
          clear HA1 hm'
          generalize ss[m].kind = kd at *
          generalize ss[m].next.length = nl at *
          generalize nC ss cs t = nn at *
          go_wp2_with (at_builtin; refine wpList_append_own _ rfl _ _ 30 rfl (w.heap.size + 1) 3 i0 (.int .i64 0) 1 8 Tryz.underlying30 hi hz0 hz1 hz2 rfl (by decide) (.slice (some ⟨g, 0, none⟩) (outC ss cs t).length cp) (outC ss cs t).length ((outC ss cs t).map (Value.int .i64)) rfl (HO.out.alloc _) ⟨wr.heap.size, 0, none⟩ 1 1 [.int .i64 (m' : Int)] rfl rfl (cell_one_new wr _ _) (int_oneCell _ _) (by unfold maxLen; have := outC_len ss cs t; omega) (by have := outC_len ss cs t; omega) (by have := outC_len ss cs t; simp; omega) ?_; intro v8 w8 hown8 hgrow8 _)
          have HB8 : Hid (Below w.heap.size w w8) := (HBR.out.alloc HBR.out.size _).grown hgrow8 (by simp; have := HBR.out.size; omega) (fun q hq => by have := (HO.out.lt q hq).1; omega)
          have HQ8 : Hid (w8.cell? ⟨w.heap.size, 0, none⟩ = some (.slice (some ⟨b, o, none⟩) ss.length cap)) := by
            have h1 : (wr.alloc (.cells #[.int .i64 (m' : Int)] 3)).cell? ⟨w.heap.size, 0, none⟩ = some (.slice (some ⟨b, o, none⟩) ss.length cap) := cell_keep ((Below.refl _ _).alloc (Nat.le_refl _) _) q3
            refine (World.cell?_of_block (a := ⟨w.heap.size, 0, none⟩) (hgrow8.block _ (cell_lt h1) fun e => ?_)).trans h1
            have := (HO.out.lt _ e.symm).1
            simp only at this
            omega
          have HO8 : Hid (w8.ownsRow (w.heap.size + 1) 3 1 v8 (outC ss cs (t + 1)).length ((outC ss cs (t + 1)).map (Value.int .i64))) := by
            rw [Hid, outC_succ, HA2.out]
            simpa using hown8
          clear hown8 hgrow8 q3
          go_wp2
          go_roundw
          case rel => exact ⟨t + 1, by omega, by rw [HA2.out], by rw [HN1.out]; first | rfl | go_num, hON.out, HB8.out, HQ8.out, HO8.out⟩
          case measure =>
            have e1 := HO8.out
            rw [rowLen_own e1]
            simp only [rowLen, outC_len]
            omega
        · have h5b : (ss[m].kind == 5) = false := by simp [h5]
          have HA1 : Hid (aC ss cs (t + 1) = (ss[m].next.getD 0 0).toNat) := by
            rw [Hid, aC_succ, HM.out, HNX.out]
            have hs : sndC ss cs m (nC ss cs t) = false := by unfold sndC; rw [HKA.out, decide_eq_false h5]; rfl
            rw [hs]
            rfl
          have HN1 : Hid (nC ss cs (t + 1) = nC ss cs t + 0) := by
            rw [Hid, nC_succ, HM.out, HKA.out]
            simp [h5]
          obtain ⟨m', hm', hmn', _⟩ := ok_next HOK.out (List.getElem?_eq_getElem hmn) (t := 0) (by omega)
          have ck := HNC.out 0 (by omega)
          rw [hm'] at ck HA1
          try rw [Nat.add_zero] at ck
          have ha2 : aC ss cs (t + 1) = m' := by have := HA1.out; simpa using this
          have HA2 : Hid (aC ss cs (t + 1) = m') := ha2
          clear ha2
          have hkl : (0 : Int) < (ss[m].next.length : Int) := by omega
          have hON : Hid (OnC ss cs (t + 1)) := fun j hj => by
            by_cases e1 : j = t
            · subst e1; rw [HM.out, HKA.out]; exact H7.out
            · exact HON.out j (by omega)
          clear HA1 hm'
          generalize ss[m].kind = kd at *
          generalize ss[m].next.length = nl at *
          generalize nC ss cs t = nn at *
          go_wp2_with (at_builtin; refine wpList_append_own _ rfl _ _ 30 rfl (w.heap.size + 1) 3 i0 (.int .i64 0) 1 8 Tryz.underlying30 hi hz0 hz1 hz2 rfl (by decide) (.slice (some ⟨g, 0, none⟩) (outC ss cs t).length cp) (outC ss cs t).length ((outC ss cs t).map (Value.int .i64)) rfl (HO.out.alloc _) ⟨wr.heap.size, 0, none⟩ 1 1 [.int .i64 (m' : Int)] rfl rfl (cell_one_new wr _ _) (int_oneCell _ _) (by unfold maxLen; have := outC_len ss cs t; omega) (by have := outC_len ss cs t; omega) (by have := outC_len ss cs t; simp; omega) ?_; intro v8 w8 hown8 hgrow8 _)
          have HB8 : Hid (Below w.heap.size w w8) := (HBR.out.alloc HBR.out.size _).grown hgrow8 (by simp; have := HBR.out.size; omega) (fun q hq => by have := (HO.out.lt q hq).1; omega)
          have HQ8 : Hid (w8.cell? ⟨w.heap.size, 0, none⟩ = some (.slice (some ⟨b, o, none⟩) ss.length cap)) := by
            have h1 : (wr.alloc (.cells #[.int .i64 (m' : Int)] 3)).cell? ⟨w.heap.size, 0, none⟩ = some (.slice (some ⟨b, o, none⟩) ss.length cap) := cell_keep ((Below.refl _ _).alloc (Nat.le_refl _) _) q3
            refine (World.cell?_of_block (a := ⟨w.heap.size, 0, none⟩) (hgrow8.block _ (cell_lt h1) fun e => ?_)).trans h1
            have := (HO.out.lt _ e.symm).1
            simp only at this
            omega
          have HO8 : Hid (w8.ownsRow (w.heap.size + 1) 3 1 v8 (outC ss cs (t + 1)).length ((outC ss cs (t + 1)).map (Value.int .i64))) := by
            rw [Hid, outC_succ, HA2.out]
            simpa using hown8
          clear hown8 hgrow8 q3
          go_wp2
          go_roundw
          case rel => exact ⟨t + 1, by omega, by rw [HA2.out], by rw [HN1.out]; first | rfl | go_num, hON.out, HB8.out, HQ8.out, HO8.out⟩
          case measure =>
            have e1 := HO8.out
            rw [rowLen_own e1]
            simp only [rowLen, outC_len]
            omega
end Go.Proofs.YtmplkchdfloppaaGreatDoor
