/- What the program's reckonedBy and stepsOf answer. -/
import Derived.Test.YtljlgffkhocgkaaImplER
import Derived.Test.YtljlgffkhocgkaaReach
import Derived.Laws.OwnMore
import Derived.OneCell
namespace Go.Proofs.Ytljlgffkhocgkaa
open Go.RowKit Go.Maps

theorem RS.add {lo M R g cap : Nat} {W : World} {es : List E5} {bs : List (BitVec 64)} {D : DataW Unit} {lv : Value} (h : RS lo M R W es bs D lv (.slice (some ⟨g, 0, none⟩) bs.length cap)) (hMR : M < R) (hRl : R < lo) (i : Nat) (b : BitVec 64) :
    RS lo M R (W.setCell ⟨g, i, none⟩ (bsV b)) es (bs.set i b) D lv (.slice (some ⟨g, 0, none⟩) (bs.set i b).length cap) where
  row := by
    rw [List.length_set]
    have hg := (h.stp.lt g rfl).1
    exact h.row.setOther (by show R ≠ g; omega) _
  lst := by
    refine ownsRow_setCell_other h.lst (fun q => ?_) _
    rcases own_diff h.lst h.stp (by decide) with k | k
    · rw [k] at q; cases q
    · exact k (q.trans rfl)
  stp := by
    rw [List.length_set, List.map_set]
    exact (h.stp.stored i (bsV b)).1
  map := h.map.setCell (by have hg := (h.stp.lt g rfl).1; show M ≠ g; omega) _
  agr := h.agr
  len := by rw [List.length_set]; exact h.len

/-- Words of bits that tell who reckons what, among the first k steps. -/
def CB (ss : List St) (k : Nat) (es : List E5) (bs : List (BitVec 64)) : Prop := ∀ (i : Nat) e, es[i]? = some e → ∃ b, bs[i]? = some b ∧ ∀ j, j < 64 → (b.getLsbD j = true ↔ j < k ∧ ∃ s, ss[j]? = some s ∧ s.kind = 1 ∧ eOf s = e)

theorem CB.nil (ss : List St) : CB ss 0 [] [] := fun i e h => by simp at h

theorem CB.skip {ss : List St} {k : Nat} {es : List E5} {bs : List (BitVec 64)} {s : St} (h : CB ss k es bs) (hs : ss[k]? = some s) (hk : s.kind ≠ 1) : CB ss (k + 1) es bs := fun i e he => by
  obtain ⟨b, h1, h2⟩ := h i e he
  refine ⟨b, h1, fun j hj => (h2 j hj).trans ?_⟩
  constructor
  · rintro ⟨h3, h4⟩
    exact ⟨by omega, h4⟩
  · rintro ⟨h3, t, h4, h5, h6⟩
    have : j ≠ k := fun q => by subst q; rw [hs] at h4; cases h4; exact hk h5
    exact ⟨by omega, t, h4, h5, h6⟩

theorem CB.new {ss : List St} {k : Nat} {bs : List (BitVec 64)} {e : E5} (h : CB ss k (exTo ss k) bs) (hl : bs.length = (exTo ss k).length) (hn : e ∉ exTo ss k) : CB ss k (exTo ss k ++ [e]) (bs ++ [0#64]) := fun i e' he => by
  rcases Nat.lt_or_ge i (exTo ss k).length with hi | hi
  · rw [List.getElem?_append_left hi] at he
    obtain ⟨b, h1, h2⟩ := h i e' he
    exact ⟨b, by rw [List.getElem?_append_left (by omega)]; exact h1, h2⟩
  · rw [List.getElem?_append_right hi] at he
    have hi0 : i = (exTo ss k).length := by
      rcases Nat.eq_or_lt_of_le hi with q | q
      · exact q.symm
      · rw [List.getElem?_eq_none (by simp; omega)] at he; cases he
    subst hi0
    simp at he
    subst he
    refine ⟨0#64, by rw [List.getElem?_append_right (by omega)]; simp [hl], fun j hj => ?_⟩
    simp only [BitVec.getLsbD_zero, Bool.false_eq_true, false_iff]
    rintro ⟨h1, s, h2, h3, h4⟩
    exact hn (mem_exTo.2 ⟨j, s, h1, h2, h3, h4⟩)

theorem CB.step {ss : List St} {k i : Nat} {es : List E5} {bs : List (BitVec 64)} {s : St} {b : BitVec 64} (h : CB ss k es bs) (hk : k < 64) (hs : ss[k]? = some s) (h1 : s.kind = 1) (hnd : es.Nodup) (hi : es[i]? = some (eOf s)) (hb : bs[i]? = some b) : CB ss (k + 1) es (bs.set i (addB b k)) := fun i' e' he => by
  obtain ⟨b', h2, h3⟩ := h i' e' he
  by_cases q : i' = i
  · subst q
    rw [hi] at he
    cases he
    rw [hb] at h2
    cases h2
    refine ⟨addB b k, by rw [List.getElem?_set]; simp; exact (List.getElem?_eq_some_iff.1 hb).1, fun j hj => ?_⟩
    rw [addB_get hk hj]
    simp only [Bool.or_eq_true, decide_eq_true_eq]
    rw [h3 j hj]
    constructor
    · rintro (⟨h4, h5⟩ | rfl)
      · exact ⟨by omega, h5⟩
      · exact ⟨by omega, s, hs, h1, rfl⟩
    · rintro ⟨h4, h5⟩
      by_cases q : j = k
      · exact Or.inr q
      · exact Or.inl ⟨by omega, h5⟩
  · have hne : e' ≠ eOf s := fun q2 => by
      subst q2
      obtain ⟨l1, g1⟩ := List.getElem?_eq_some_iff.1 he
      obtain ⟨l2, g2⟩ := List.getElem?_eq_some_iff.1 hi
      rcases Nat.lt_or_gt_of_ne q with q3 | q3
      · exact (List.pairwise_iff_getElem.1 hnd i' i l1 l2 q3) (g1.trans g2.symm)
      · exact (List.pairwise_iff_getElem.1 hnd i i' l2 l1 q3) (g2.trans g1.symm)
    refine ⟨b', by rw [List.getElem?_set_ne (fun e => q e.symm)]; exact h2, fun j hj => (h3 j hj).trans ?_⟩
    constructor
    · rintro ⟨h4, h5⟩
      exact ⟨by omega, h5⟩
    · rintro ⟨h4, t, h5, h6, h7⟩
      have : j ≠ k := fun q2 => by subst q2; rw [hs] at h5; cases h5; exact hne h7.symm
      exact ⟨by omega, t, h5, h6, h7⟩

set_option maxRecDepth 100000 in
set_option maxHeartbeats 4000000 in
theorem reckonedBy_any {Q : Ending → World → Prop} (v : Value) (ss : List St) (w : World) (h : StepsAt w v ss) (hok : okB ss = true)
    (hQ : ∀ W' es bs D lv sv, RS (w.heap.size + 2) w.heap.size (w.heap.size + 1) W' es bs D lv sv → Below w.heap.size w W' → w.heap.size + 2 ≤ W'.heap.size → es = exprsOf ss → CB ss ss.length es bs → Q (.returned (.pointer (some ⟨w.heap.size + 1, 0, none⟩))) W') :
    Calls Try.prog 63 #[v] w Q := by
  have HQ : Hid _ := hQ
  clear hQ
  obtain ⟨ao, b, o, cap, rfl, ha, hc⟩ := id h
  have HA : Hid (0 < ss.length → ao = some ⟨b, o, none⟩) := ha
  have HC : Hid (∀ i s, ss[i]? = some s → ∃ nv, StepCells w b (o + i * 8) s nv ∧ IntsAt w nv s.next) := hc
  have HOK : Hid (okB ss = true) := hok
  have hn2 := (ok_len hok).2
  clear ha hc h hok
  have hmm := @run_makeMap Try.prog
  go_enter Try.func63, Try.ntmps63
  go_wp2
  obtain ⟨W0, hW0⟩ : ∃ W0, (w.alloc (.map #[] 0)).alloc (.cells #[.map (some w.heap.size), .slice none 0 0, .slice none 0 0] 115) = W0 := ⟨_, rfl⟩
  have h0 : RS (w.heap.size + 2) w.heap.size (w.heap.size + 1) W0 [] [] (.map []) (.slice none 0 0) (.slice none 0 0) := by
    rw [← hW0]
    refine ⟨?_, World.ownsRow_nil _ _ _ _, World.ownsRow_nil _ _ _ _, (World.ownsMap_made w _ _ _).alloc _, Agr.nil, rfl⟩
    have := World.rowIs_alloc (w.alloc (.map #[] 0)) #[.map (some w.heap.size), .slice none 0 0, .slice none 0 0] 115 (fun j => if j = 0 then .map (some w.heap.size) else if j = 1 then .slice none 0 0 else .slice none 0 0) (fun i hi => by
      simp at hi
      match i, hi with
      | 0, _ => rfl
      | 1, _ => rfl
      | 2, _ => rfl
      | n + 3, h => omega)
    rw [World.size_alloc] at this
    exact this
  have hb1 : Below w.heap.size w W0 := hW0 ▸ ((Below.refl _ _).alloc (Nat.le_refl _) _).alloc (by simp) _
  have hs0 : w.heap.size + 2 ≤ W0.heap.size := by rw [← hW0]; simp
  rw [hW0]
  clear hW0 hmm
  go_loopw [12] (fun i wr => ∃ (k : Nat) (bs : List (BitVec 64)) (D : DataW Unit) (lv sv : Value), k ≤ ss.length ∧ i = .int .i64 k ∧ RS (w.heap.size + 2) w.heap.size (w.heap.size + 1) wr (exTo ss k) bs D lv sv ∧ CB ss k (exTo ss k) bs ∧ Below w.heap.size w wr ∧ w.heap.size + 2 ≤ wr.heap.size) (fun i _ => ss.length - (intOf i).toNat)
  case atStart => exact ⟨0, [], _, _, _, Nat.zero_le _, rfl, h0, CB.nil ss, hb1, hs0⟩
  case round =>
    obtain ⟨k, bs, D, lv, sv, hk, rfl, hRS, hCB, hB, hsz⟩ := hrel
    have HRS : Hid (RS (w.heap.size + 2) w.heap.size (w.heap.size + 1) wr (exTo ss k) bs D lv sv) := hRS
    have HCB : Hid (CB ss k (exTo ss k) bs) := hCB
    have HB : Hid (Below w.heap.size w wr) := hB
    clear h0 hb1 hs0 hRS hCB
    by_cases hkn : k < ss.length
    · have hki : (k : Int) < (ss.length : Int) := by omega
      obtain rfl := HA.out (by omega)
      obtain ⟨nu, cu, iu⟩ := HC.out k ss[k] (by simp [hkn])
      obtain ⟨nao, nb, no, ncap, rfl, _, _⟩ := id iu
      have cw := cu.keep hB
      have d0 := cw.c0
      have d1 := cw.c1
      have d2 := cw.c2
      have d3 := cw.c3
      have d4 := cw.c4
      have d5 := cw.c5
      have d6 := cw.c6
      have d7 := cw.c7
      have HS : Hid (ss[k]? = some ss[k]) := List.getElem?_eq_getElem hkn
      have HEX : Hid (ss[k].kind = 1 → exprB (eOf ss[k]) = true) := fun h => ok_expr HOK.out (List.getElem_mem hkn) h
      clear cu iu cw hB
      generalize ss[k] = s at *
      by_cases h1 : s.kind = 1
      · have hel : (exTo ss k).length ≤ 60 := Nat.le_trans (exTo_len ss k) (by omega)
        have HNX : Hid (exTo ss (k + 1) = if eOf s ∈ exTo ss k then exTo ss k else exTo ss k ++ [eOf s]) := by rw [Hid, exTo_succ HS.out]; simp [exStep, h1]
        have HK1 : Hid (s.kind = 1) := h1
        go_wp2_with fail
        refine numberOf_any (w.heap.size + 2) w.heap.size (w.heap.size + 1) (by omega) (by omega) _ (exTo ss k) bs D lv sv (HRS.out.keep ((Below.refl _ _).alloc (Nat.le_refl _) _)) (by simp; omega) hel (eOf s) (HEX.out h1) ?_
        intro i W5 es5 bs5 D5 lv5 sv5 h5 hb5 hi5 hor
        have hbA : Below w.heap.size w W5 := (HB.out.alloc (by omega) _).trans hb5
        have hs5 : w.heap.size + 2 ≤ W5.heap.size := by have := hb5.size; simp at this; omega
        have he5 : es5 = exTo ss (k + 1) := by
          rw [HNX.out]
          rcases hor with ⟨q1, q2, q3⟩ | ⟨q1, q2, q3⟩
          · rw [if_pos q1, q2]
          · rw [if_neg q1, q2]
        have hcb5 : CB ss k es5 bs5 := by
          rcases hor with ⟨q1, q2, q3⟩ | ⟨q1, q2, q3⟩
          · rw [q2, q3]; exact HCB.out
          · rw [q2, q3]; exact HCB.out.new HRS.out.len q1
        have hil : i < bs5.length := by rw [h5.len]; exact (List.getElem?_eq_some_iff.1 hi5).1
        obtain ⟨g, cap5, hsv, _, _⟩ := h5.stp.form (by omega)
        subst hsv
        obtain ⟨b5, hb5i⟩ : ∃ b5, bs5[i]? = some b5 := ⟨_, List.getElem?_eq_getElem hil⟩
        have k2 : W5.cell? ⟨w.heap.size + 1, 2, none⟩ = some (.slice (some ⟨g, 0, none⟩) bs5.length cap5) := h5.row.cell (i := 2) (by omega)
        have ci : W5.cell? ⟨g, i, none⟩ = some (bsV b5) := by rw [h5.stp.cellAt i (by omega), List.getElem?_map, hb5i]; rfl
        have fi := h5.stp.frozenAt i
        have HRN : Hid (RS (w.heap.size + 2) w.heap.size (w.heap.size + 1) (W5.setCell ⟨g, i, none⟩ (bsV (addB b5 k))) (exTo ss (k + 1)) (bs5.set i (addB b5 k)) D5 lv5 (.slice (some ⟨g, 0, none⟩) (bs5.set i (addB b5 k)).length cap5)) := he5 ▸ h5.add (by omega) (by omega) i (addB b5 k)
        have HCN : Hid (CB ss (k + 1) (exTo ss (k + 1)) (bs5.set i (addB b5 k))) := he5 ▸ hcb5.step (by omega) HS.out HK1.out (he5 ▸ exTo_nodup ss (k + 1)) hi5 hb5i
        have hgl : w.heap.size + 2 ≤ g := (h5.stp.lt g rfl).1
        have HBN : Hid (Below w.heap.size w (W5.setCell ⟨g, i, none⟩ (bsV (addB b5 k)))) := hbA.setCell (p := ⟨g, i, none⟩) (by show w.heap.size ≤ g; omega) _
        have hii : (i : Int) < (bs5.length : Int) := by omega
        clear d0 d1 d2 d3 d4 d5 d6 d7 h5 hb5 hi5 hor hbA he5 hcb5 hb5i HRS HCB HB
        go_wp2_with fail
        refine add_any g i b5 k _ (by omega) ci fi fun vv => ?_
        clear ci fi k2
        go_wp2
        go_roundw
        case rel => exact ⟨k + 1, bs5.set i (addB b5 k), D5, lv5, _, by omega, by go_num, HRN.out.keep ((Below.refl _ _).drew), HCN.out, HBN.out.drew, by show w.heap.size + 2 ≤ _; simp; omega⟩
        case measure => simp [intOf]; omega
      · have HN : Hid (exTo ss (k + 1) = exTo ss k) := by rw [Hid, exTo_succ HS.out]; simp [exStep, h1]
        have HCN : Hid (CB ss (k + 1) (exTo ss k) bs) := HCB.out.skip HS.out h1
        go_wp2
        go_roundw
        case rel => exact ⟨k + 1, bs, D, lv, sv, by omega, by go_num, HN.out ▸ HRS.out.keep ((Below.refl _ _).alloc (Nat.le_refl _) _), HN.out ▸ HCN.out, HB.out.alloc (by omega) _, by simp; omega⟩
        case measure => simp [intOf]; omega
    · have hki : ¬ (k : Int) < (ss.length : Int) := by omega
      obtain rfl : k = ss.length := by omega
      clear hB
      go_wp2
      exact HQ.out _ _ bs D lv sv HRS.out HB.out hsz (exTo_all ss) HCB.out
end Go.Proofs.Ytljlgffkhocgkaa
