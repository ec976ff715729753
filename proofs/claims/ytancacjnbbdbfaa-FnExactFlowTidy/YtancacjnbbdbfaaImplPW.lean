/- What the program's partWays answers: a skip at the end on each way that is not tidy. -/
import Derived.Test.YtancacjnbbdbfaaImplFF
import Derived.Test.YtancacjnbbdbfaaImplTidy
namespace Go.Proofs.Ytancacjnbbdbfaa
open Go.RowKit

theorem PF.keepLt {lo N H : Nat} {w w' : World} {v : Value} {F : Nat → St} {xs : List Value} {nvs : Nat → Value} (h : PF lo w v N F xs nvs) (hv : ∀ k, v.ownBlock = some k → k < H) (hn : ∀ i k, i < N → (nvs i).ownBlock = some k → k < H) (hb : Below H w w') : PF lo w' v N F xs nvs := by
  have ho : Out H w.heap.size w w' := ⟨hb.os, hb.tape, hb.output, hb.size, fun k hk hr => hb.block k (by omega)⟩
  exact ⟨ownsRow_out h.row ho fun k hk => Or.inl (hv k hk), h.cells, fun i hi => ownsRow_out (h.own i hi) ho fun k hk => Or.inl (hn i k hi hk)⟩

/-- The walk over the steps: the ways parted up to (k, t), the skips for L of them. -/
structure WI (lo : Nat) (W wr : World) (v : Value) (qs : List St) (xs : List Value) (nvs : Nat → Value) (k t : Nat) (L : List Int) (skv : Value) (ys : List Value) (mvs : Nat → Value) : Prop where
  below : Below lo W wr
  main : PF lo wr v qs.length (partF qs k t) xs nvs
  cnt : wr.rowIs W.heap.size 3 qs.length (fun j => intV (ways qs (j : Int)))
  sk : PF (W.heap.size + 1) wr skv L.length (fun j => skipSt (L.getD j 0)) ys mvs
  ap : Apart mvs L.length
  nil : L = [] → skv = .slice none 0 0

theorem WI.keep {lo : Nat} {W wr wr' : World} {v : Value} {qs : List St} {xs : List Value} {nvs : Nat → Value} {k t : Nat} {L : List Int} {skv : Value} {ys : List Value} {mvs : Nat → Value} (h : WI lo W wr v qs xs nvs k t L skv ys mvs) (hlo : lo ≤ W.heap.size) (hb : Below wr.heap.size wr wr') : WI lo W wr' v qs xs nvs k t L skv ys mvs :=
  ⟨h.below.trans (hb.mono (Nat.le_trans hlo h.below.size)), h.main.keep hb, rowIs_keep h.cnt hb, h.sk.keep hb, h.ap, h.nil⟩

theorem WI.congr {lo : Nat} {W wr : World} {v : Value} {qs : List St} {xs : List Value} {nvs : Nat → Value} {k t k' t' : Nat} {L L' : List Int} {skv : Value} {ys : List Value} {mvs : Nat → Value} (h : WI lo W wr v qs xs nvs k t L skv ys mvs) (e : ∀ j, j < qs.length → partF qs k' t' j = partF qs k t j) (eL : L' = L) : WI lo W wr v qs xs nvs k' t' L' skv ys mvs := by
  subst eL
  exact ⟨h.below, h.main.congr e, h.cnt, h.sk, h.ap, h.nil⟩

/-- The way t of step k turned. -/
theorem WI.turn {lo : Nat} {W wr : World} {v : Value} {qs : List St} {xs : List Value} {nvs : Nat → Value} {k t g c : Nat} {L : List Int} {skv : Value} {ys : List Value} {mvs : Nat → Value} (h : WI lo W wr v qs xs nvs k t L skv ys mvs) (ap : Apart nvs qs.length) (hk : k < qs.length) (hgl : lo ≤ g) (hg : g < W.heap.size) (hv : nvs k = .slice (some ⟨g, 0, none⟩) (partF qs k t k).next.length c) (z : Int)
    (e : ∀ j, j < qs.length → partF qs k (t + 1) j = if j = k then { partF qs k t k with next := (partF qs k t k).next.set t z } else partF qs k t j) : WI lo W (wr.setCell ⟨g, t, none⟩ (.int .i64 z)) v qs xs nvs k (t + 1) L skv ys mvs :=
  ⟨h.below.setCell hgl _, (h.main.turn ap hk hv z).congr e, h.cnt.setOther (by simp; omega) _, h.sk.below (by simp; omega) _, h.ap, h.nil⟩

/-- A skip more. -/
theorem WI.push {lo g6 g cap : Nat} {W wr w6 w' : World} {v : Value} {qs : List St} {xs : List Value} {nvs : Nat → Value} {k t : Nat} {L : List Int} {skv : Value} {ys : List Value} {mvs : Nat → Value} {x : Int} {O : Obj} (h : WI lo W wr v qs xs nvs k t L skv ys mvs) (hlo : lo ≤ W.heap.size) (hvb : ∀ k, v.ownBlock = some k → k < W.heap.size) (hnb : ∀ i k, i < qs.length → (nvs i).ownBlock = some k → k < W.heap.size)
    (hg6 : wr.heap.size ≤ g6) (hown6 : w6.ownsRow wr.heap.size 3 1 (.slice (some ⟨g6, 0, none⟩) 1 1) 1 [.int .i64 x]) (hb6 : Below wr.heap.size wr w6)
    (hgrow : (w6.alloc O).grownBy w' skv.ownBlock) (hown : w'.ownsRow (W.heap.size + 1) 43 8 (.slice (some ⟨g, 0, none⟩) (L.length + 1) cap) (L.length + 1) (ys ++ cells8 (skipSt x) (.slice (some ⟨g6, 0, none⟩) 1 1))) :
    ∃ mvs', WI lo W w' v qs xs nvs k t (L ++ [x]) (.slice (some ⟨g, 0, none⟩) (L.length + 1) cap) (ys ++ cells8 (skipSt x) (.slice (some ⟨g6, 0, none⟩) 1 1)) mvs' := by
  have hWr : W.heap.size + 1 ≤ wr.heap.size := h.cnt.lt
  have h6 := h.keep hlo hb6
  have hbA : Below w6.heap.size w6 (w6.alloc O) := (Below.refl _ _).alloc (Nat.le_refl _) _
  have h7 := h6.keep hlo hbA
  have hsz6 := hb6.size
  have hbG : Below (W.heap.size + 1) (w6.alloc O) w' := (Below.refl _ _).grown hgrow (by rw [World.size_alloc]; omega) (fun q hq => (h.sk.row.lt q hq).1)
  have hx : (w6.alloc O).ownsRow (W.heap.size + 1) 3 1 (.slice (some ⟨g6, 0, none⟩) 1 1) (skipSt x).next.length ((skipSt x).next.map (Value.int .i64)) := (own_lower hown6 (by omega)).alloc O
  have hS := h7.sk.snoc (s := skipSt x) (nv := .slice (some ⟨g6, 0, none⟩) 1 1) hx hgrow hown
  refine ⟨fun i => if i = L.length then .slice (some ⟨g6, 0, none⟩) 1 1 else mvs i, h7.below.trans (hbG.mono (by omega)), h7.main.keepLt (fun k hk => Nat.lt_succ_of_lt (hvb k hk)) (fun i k hi hk => Nat.lt_succ_of_lt (hnb i k hi hk)) hbG, h7.cnt.of_block (hbG.block _ (Nat.lt_succ_self _)), ?_, ?_, fun e => by simp at e⟩
  · rw [List.length_append, List.length_singleton]
    refine hS.congr fun j hj => ?_
    by_cases e : j = L.length
    · rw [if_pos e, e]
      simp [List.getD]
    · rw [if_neg e]
      simp [List.getD, List.getElem?_append_left (show j < L.length by omega)]
  · rw [List.length_append, List.length_singleton]
    intro i j q hi hj hij
    have old : ∀ j, j < L.length → ∀ q, (mvs j).ownBlock = some q → q < wr.heap.size := fun j hj q hq => h.sk.nvLt hj hq
    by_cases e1 : i = L.length <;> by_cases e2 : j = L.length
    · omega
    · simp only [if_pos e1, if_neg e2]
      intro hq hq2
      simp [Value.ownBlock] at hq
      have a2 := old j (by omega) q hq2
      omega
    · simp only [if_neg e1, if_pos e2]
      intro hq hq2
      simp [Value.ownBlock] at hq2
      have a2 := old i (by omega) q hq
      omega
    · simp only [if_neg e1, if_neg e2]
      exact h.ap i j q (by omega) (by omega) hij

theorem PF.one {lo N : Nat} {w : World} {v : Value} {F : Nat → St} {xs : List Value} {nvs : Nat → Value} (h : PF lo w v N F xs nvs) : ∀ u ∈ xs, u.oneCell' = true := by
  intro u hu
  obtain ⟨j, hj, rfl⟩ := List.mem_iff_getElem.1 hu
  have hlen : xs.length = N * 8 := h.row.1
  have hi : j / 8 < N := by omega
  obtain ⟨A, n, c, hnv⟩ := own_is_slice (h.own _ hi)
  have hc := h.cells _ hi
  rw [hnv] at hc
  have hq : j % 8 < (cells8 (F (j / 8)) (.slice A n c)).length := by
    have : (cells8 (F (j / 8)) (.slice A n c)).length = 8 := rfl
    omega
  have h1 := hc (j % 8) _ (List.getElem?_eq_getElem hq)
  rw [show j / 8 * 8 + j % 8 = j by omega, List.getElem?_eq_getElem hj] at h1
  have h2 := Option.some.inj h1
  rw [h2]
  exact cells8_one _ _ _ _ _ (List.getElem_mem hq)

/-- The skips laid behind the steps. -/
theorem WI.fin {lo g c gs cs g9 cap9 : Nat} {W wr w' : World} {qs : List St} {xs : List Value} {nvs : Nat → Value} {ys : List Value} {mvs : Nat → Value} (h : WI lo W wr (.slice (some ⟨g, 0, none⟩) qs.length c) qs xs nvs qs.length 0 (skK qs qs.length) (.slice (some ⟨gs, 0, none⟩) (skK qs qs.length).length cs) ys mvs) (hlo : lo ≤ W.heap.size) (ap : Apart nvs qs.length) (hnb : ∀ i k, i < qs.length → (nvs i).ownBlock = some k → k < W.heap.size)
    (hg : wr.grownBy w' (some g)) (hown : w'.ownsRow lo 43 8 (.slice (some ⟨g9, 0, none⟩) (qs.length + (skK qs qs.length).length) cap9) (qs.length + (skK qs qs.length).length) (xs ++ ys)) :
    PO lo w' (.slice (some ⟨g9, 0, none⟩) (qs.length + (skK qs qs.length).length) cap9) (partL qs) (xs ++ ys) (fun i => if i < qs.length then nvs i else mvs (i - qs.length)) := by
  have hlx : xs.length = qs.length * 8 := h.main.row.1
  have hF : PF lo w' (.slice (some ⟨g9, 0, none⟩) (qs.length + (skK qs qs.length).length) cap9) (qs.length + (skK qs qs.length).length) (partF qs qs.length 0) (xs ++ ys) (fun i => if i < qs.length then nvs i else mvs (i - qs.length)) := by
    refine ⟨hown, fun i hi => ?_, fun i hi => ?_⟩
    · by_cases e : i < qs.length
      · rw [if_pos e]
        intro q u hu
        have hq : q < 8 := by have := (List.getElem?_eq_some_iff.1 hu).1; simpa [cells8] using this
        rw [List.getElem?_append_left (by omega)]
        exact h.main.cells i e q u hu
      · rw [if_neg e]
        have hs := h.sk.cells (i - qs.length) (by omega)
        intro q u hu
        rw [List.getElem?_append_right (by omega), hlx, show i * 8 + q - qs.length * 8 = (i - qs.length) * 8 + q by omega]
        refine hs q u ?_
        rw [← hu]
        unfold partF
        rw [if_neg e, skT_zero]
    · by_cases e : i < qs.length
      · rw [if_pos e]
        exact own_grow (h.main.own i e) h.main.row (by decide) hg
      · rw [if_neg e]
        have hs := own_lower (base' := lo) (h.sk.own (i - qs.length) (by omega)) (by omega)
        have hs2 := own_grow hs h.main.row (by decide) hg
        have e2 : partF qs qs.length 0 i = skipSt ((skK qs qs.length).getD (i - qs.length) 0) := by
          unfold partF
          rw [if_neg e, skT_zero]
        rw [e2]
        exact hs2
  refine hF.po fun i j q hi hj hij => ?_
  by_cases e1 : i < qs.length <;> by_cases e2 : j < qs.length
  · simp only [if_pos e1, if_pos e2]
    exact ap i j q e1 e2 hij
  · simp only [if_pos e1, if_neg e2]
    intro hq hq2
    have := hnb i q e1 hq
    have := ((h.sk.own (j - qs.length) (by omega)).lt q hq2).1
    omega
  · simp only [if_neg e1, if_pos e2]
    intro hq hq2
    have := hnb j q e2 hq2
    have := ((h.sk.own (i - qs.length) (by omega)).lt q hq).1
    omega
  · simp only [if_neg e1, if_neg e2]
    exact h.ap _ _ q (by omega) (by omega) (by omega)

theorem WI.fin0 {lo : Nat} {W wr : World} {v : Value} {qs : List St} {xs : List Value} {nvs : Nat → Value} {ys : List Value} {mvs : Nat → Value} {skv : Value} (h : WI lo W wr v qs xs nvs qs.length 0 (skK qs qs.length) skv ys mvs) (ap : Apart nvs qs.length) (e : skK qs qs.length = []) : PO lo wr v (partL qs) xs nvs := by
  have h1 := h.main.po ap
  unfold partL
  rw [e]
  exact h1
theorem stepCells_block {w w' : World} {b o : Nat} {s : St} {nv : Value} (h : StepCells w b o s nv) (e : w'.heap[b]? = w.heap[b]?) : StepCells w' b o s nv := by
  have rd : ∀ j, w'.cell? ⟨b, j, none⟩ = w.cell? ⟨b, j, none⟩ := fun j => World.cell?_of_block (a := ⟨b, j, none⟩) e
  exact ⟨(rd _).trans h.c0, (rd _).trans h.c1, (rd _).trans h.c2, (rd _).trans h.c3, (rd _).trans h.c4, (rd _).trans h.c5, (rd _).trans h.c6, (rd _).trans h.c7⟩

theorem fitN_fit {qs : List St} (h : FitN qs) (hl : qs.length ≤ 200) : Fit qs := by
  refine ⟨hl, fun i s hs => ⟨h.1 s (List.mem_of_getElem? hs), fun t ht => ?_⟩⟩
  have hm := mem_of_getD ht
  obtain ⟨h0, h1⟩ := h.2 s (List.mem_of_getElem? hs) _ hm
  exact ⟨(s.next.getD t 0).toNat, by omega, by omega, by rw [Int.toNat_of_nonneg h0]; exact hm⟩

set_option maxRecDepth 100000 in
set_option maxHeartbeats 4000000 in
theorem partWays_any {Q : Ending → World → Prop} (lo : Nat) (v : Value) (qs : List St) (xs : List Value) (nvs : Nat → Value) (w : World) (h : PO lo w v qs xs nvs) (hlo : lo ≤ w.heap.size) (h0 : 0 < qs.length) (hl : qs.length ≤ 100) (hf : FitN qs)
    (hQ : ∀ v' ys mvs w', PO lo w' v' (partL qs) ys mvs → Below lo w w' → Q (.returned v') w') :
    Calls Try.prog 47 #[v] w Q := by
  have HQ : Hid _ := hQ
  clear hQ
  have HF : Hid (FitN qs) := hf
  have HFT : Hid (Fit qs) := fitN_fit hf (by omega)
  have HP : Hid (PO lo w v qs xs nvs) := h
  have HAP : Hid (Apart nvs qs.length) := h.apart
  have HVB : Hid (∀ k, v.ownBlock = some k → k < w.heap.size) := fun k hk => (h.row.lt k hk).2
  have HNB : Hid (∀ i k, i < qs.length → (nvs i).ownBlock = some k → k < w.heap.size) := fun i k hi hk => (h.pf step00).nvLt hi hk
  have HPF : Hid (PF lo w v qs.length (partF qs 0 0) xs nvs) := (h.pf step00).congr fun j hj => partF_start hj
  obtain ⟨A, c, rfl, hA⟩ := h.slice
  obtain ⟨g, rfl, hg, hgw⟩ := hA 0 h0
  clear h hA hf
  obtain ⟨i1, hj, hy0, hy1, hy2⟩ := info_parts infoStep1
  go_enter Try.func47, Try.ntmps47
  go_wp2_with fail
  refine wayCounts_any _ qs _ HP.out.at HFT.out fun w1 hb1 hrow1 => ?_
  have HW1 : Hid (WI lo w w1 (.slice (some ⟨g, 0, none⟩) qs.length c) qs xs nvs 0 0 [] (.slice none 0 0) [] (fun _ => .slice none 0 0)) := ⟨hb1.mono hlo, HPF.out.keep hb1, hrow1, ⟨World.ownsRow_nil _ _ _ _, fun i hi => absurd hi (by simp), fun i hi => absurd hi (by simp)⟩, fun i j k hi => absurd hi (by simp), fun _ => rfl⟩
  clear hb1 hrow1
  go_wp2_with fail
  go_loopw [4, 13] (fun skv i wr => ∃ (k : Nat) (ys : List Value) (mvs : Nat → Value), k ≤ qs.length ∧ i = .int .i64 k ∧ WI lo w wr (.slice (some ⟨g, 0, none⟩) qs.length c) qs xs nvs k 0 (skK qs k) skv ys mvs) (fun _ i _ => qs.length - (intOf i).toNat)
  case atStart => exact ⟨0, _, _, Nat.zero_le _, rfl, HW1.out⟩
  case round =>
    obtain ⟨k, ys, mvs, hk, rfl, hW⟩ := hrel
    have HW : Hid (WI lo w wr (.slice (some ⟨g, 0, none⟩) qs.length c) qs xs nvs k 0 (skK qs k) u4 ys mvs) := hW
    clear HW1
    have hsk := skK_len HF.out.1 k
    by_cases hkl : k < qs.length
    · have hki : (k : Int) < (qs.length : Int) := by omega
      have h2 := HF.out.1 _ (List.getElem_mem hkl)
      obtain ⟨A9, c9, hv9, hat9⟩ := hW.main.at
      obtain ⟨g9, hg9, _, hlt9, hd9, _⟩ := hat9 k hkl
      cases hv9
      cases hg9
      rw [partF_self hkl] at hd9
      obtain ⟨A0, n0, k0, hn0⟩ := own_is_slice (hW.main.own k hkl)
      have hnl : n0 = qs[k].next.length := by
        obtain ⟨A5, c5, hv5, _⟩ := own_len (hW.main.own k hkl)
        rw [partF_self hkl] at hv5
        have e : (partT qs k 0).length = qs[k].next.length := by rw [partT_len]; simp [List.getD, hkl]
        rw [hn0] at hv5
        cases hv5
        exact e
      subst hnl
      have HN0 : Hid (nvs k = .slice A0 qs[k].next.length k0) := hn0
      rw [hn0] at hd9
      obtain ⟨c0, c1, c2, c3, c4, c5, c6, c7⟩ := hd9
      have hWw : w.heap.size < wr.heap.size := hW.cnt.lt
      have hskb : ∀ q, u4.ownBlock = some q → q < wr.heap.size := fun q hq => (hW.sk.row.lt q hq).2
      have HSKB : Hid _ := hskb
      clear hW hat9 hn0 hskb
      go_wp2_with fail
      have hbS : ∀ O, Below wr.heap.size wr (wr.alloc O) := fun O => (Below.refl _ _).alloc (Nat.le_refl _) O
      have HW0 : Hid (∀ O, WI lo w (wr.alloc O) (.slice (some ⟨g, 0, none⟩) qs.length c) qs xs nvs k 0 (skT qs k 0) u4 ys mvs) := fun O => (HW.out.keep hlo (hbS O)).congr (fun j _ => rfl) (skT_zero qs k)
      have HS0 : Hid (StepCells (wr.alloc (.cells #[.int .i64 qs[k].kind, .int .i64 qs[k].dst, .int .i64 qs[k].op, .int .i64 qs[k].av, .int .i64 qs[k].an, .int .i64 qs[k].bv, .int .i64 qs[k].bn, .slice A0 qs[k].next.length k0] 43)) wr.heap.size 0 qs[k] (.slice A0 qs[k].next.length k0)) := ⟨by simp [go_sem], by simp [go_sem], by simp [go_sem], by simp [go_sem], by simp [go_sem], by simp [go_sem], by simp [go_sem], by simp [go_sem]⟩
      have HB0 : Hid (u4.ownBlock ≠ some wr.heap.size) := fun e => Nat.lt_irrefl _ (HSKB.out _ e)
      clear hbS c0 c1 c2 c3 c4 c5 c6 c7 HW HSKB
      generalize wr = W5 at *
      go_loopw [4, 20] (fun skv i wr => ∃ (t : Nat) (ys : List Value) (mvs : Nat → Value), t ≤ qs[k].next.length ∧ i = .int .i64 t ∧ WI lo w wr (.slice (some ⟨g, 0, none⟩) qs.length c) qs xs nvs k t (skT qs k t) skv ys mvs ∧ StepCells wr W5.heap.size 0 qs[k] (.slice A0 qs[k].next.length k0) ∧ Hid (skv.ownBlock ≠ some W5.heap.size)) (fun _ i _ => qs[k].next.length - (intOf i).toNat)
      case atStart => exact ⟨0, ys, mvs, Nat.zero_le _, rfl, HW0.out _, HS0.out, HB0.out⟩
      case round =>
        clear HW0 HS0 HB0
        obtain ⟨t, ys, mvs, ht, rfl, hW, hS, HNBK⟩ := hrel
        obtain ⟨As, cs, rfl, hAs⟩ := own_len hW.sk.row
        have HW : Hid (WI lo w wr (.slice (some ⟨g, 0, none⟩) qs.length c) qs xs nvs k t (skT qs k t) (.slice As (skT qs k t).length cs) ys mvs) := hW
        have HSC : Hid (StepCells wr W5.heap.size 0 qs[k] (.slice A0 qs[k].next.length k0)) := hS
        have hBw : W5.heap.size < wr.heap.size := cell_lt hS.c0
        have hpl : (partT qs k t).length = qs[k].next.length := by rw [partT_len]; simp [List.getD, hkl]
        have hown : wr.ownsRow lo 3 1 (.slice A0 qs[k].next.length k0) qs[k].next.length ((partT qs k t).map (Value.int .i64)) := by
          have h := hW.main.own k hkl
          rw [partF_self hkl, HN0.out] at h
          dsimp only at h
          rwa [hpl] at h
        have hskl := skT_len HF.out.1 hkl (t := t)
        by_cases htl : t < qs[k].next.length
        · have hti : (t : Int) < (qs[k].next.length : Int) := by omega
          obtain ⟨A5, c5, hv5, hA5⟩ := own_len hown
          cases hv5
          obtain ⟨gl, rfl, hgl⟩ := hA5 (by omega)
          have hglw : gl < w.heap.size := HNB.out k gl hkl (by rw [HN0.out]; rfl)
          have eD : qs.getD k step00 = qs[k] := by simp [List.getD, hkl]
          have hx := HF.out.2 _ (List.getElem_mem hkl) _ (mem_of_getD htl)
          obtain ⟨m, hm⟩ := Int.eq_ofNat_of_zero_le hx.1
          have hmn : m < qs.length := by omega
          have hmi : (m : Int) < (qs.length : Int) := by omega
          have ct := hown.cellAt t (by omega)
          rw [List.getElem?_map, partT_get (by rw [eD]; exact htl), eD, hm, Option.map_some] at ct
          have ft := hown.frozenAt t
          have cm : wr.cell? ⟨w.heap.size, m, none⟩ = some (.int .i64 ((ways qs (m : Int) : Nat) : Int)) := hW.cnt.cell hmn
          have HM : Hid (qs[k].next.getD t 0 = (m : Int)) := hm
          have HED : Hid (qs.getD k step00 = qs[k]) := eD
          have HTS : Hid (t < (qs.getD k step00).next.length) := by rw [Hid, eD]; exact htl
          have HPL : Hid ((partT qs k t).length = qs[k].next.length) := hpl
          have CT : Hid _ := ct
          have FT : Hid _ := ft
          have hglr : gl < wr.heap.size := cell_lt ct
          obtain ⟨c0, c1, c2, c3, c4, c5, c6, c7⟩ := hS
          simp only [Nat.zero_add] at c1 c2 c3 c4 c5 c6 c7
          clear hW hown hx hm eD hpl hA5 hAs
          go_wp2_with fail
          go_region_with (go_at_call 56; refine needsSkip_any (.slice (some ⟨gl, 0, none⟩) qs[k].next.length k0) qs[k] (ways qs (m : Int)) _ ?_; intro w6 hb6)
          all_goals
            have hbr6 : Below wr.heap.size wr w6 := ⟨hb6.os, hb6.tape, hb6.output, hb6.size, hb6.block⟩
            have HW6 : Hid _ := HW.out.keep hlo hbr6
            have hsc6 := StepCells.keep HSC.out hbr6
            have HSC6 : Hid _ := hsc6
            have hsz6 := hbr6.size
            have ct6 := cell_keep hbr6 CT.out
            have ft6 := (hbr6.frozen (p := ⟨gl, t, none⟩) hglr).trans FT.out
            clear hb6 c0 c1 c2 c3 c4 c5 c6 c7 ct ft cm
            cases hd : skipB (ways qs (m : Int)) qs[k].kind
            · have HC : Hid (condB qs (qs.getD k step00) ((qs.getD k step00).next.getD t 0) = false) := by
                rw [Hid, HED.out, HM.out]
                unfold skipB at hd
                unfold condB
                rw [Bool.and_comm]
                exact hd
              clear hd hbr6 hsc6
              go_wp2
              go_roundw
              case rel => exact ⟨t + 1, ys, mvs, by omega, by go_num, HW6.out.congr (fun j _ => (partF_no hkl HTS.out HC.out j).1) (partF_no hkl HTS.out HC.out 0).2, HSC6.out, HNBK.out⟩
              case measure => simp [intOf]; omega
            · have HC : Hid (condB qs (qs.getD k step00) ((qs.getD k step00).next.getD t 0) = true) := by
                rw [Hid, HED.out, HM.out]
                unfold skipB at hd
                unfold condB
                rw [Bool.and_comm]
                exact hd
              have HZ : Hid ((qs.length : Int) + ((skT qs k t).length : Int) = ((qs.length + (skT qs k t).length : Nat) : Int)) := by rw [Hid]; omega
              have HSKN : Hid (skT qs k (t + 1) = skT qs k t ++ [(m : Int)]) := by
                have h9 := HC.out
                rw [HED.out] at h9
                rw [Hid, skT_succ hkl htl, if_pos h9, HM.out]
              have HWT : Hid (WI lo w (w6.setCell ⟨gl, t, none⟩ (.int .i64 ((qs.length : Int) + ((skT qs k t).length : Int)))) (.slice (some ⟨g, 0, none⟩) qs.length c) qs xs nvs k (t + 1) (skT qs k t) (.slice As (skT qs k t).length cs) ys mvs) := HW6.out.turn HAP.out hkl hgl hglw (by rw [HN0.out, partF_self hkl]; dsimp only; rw [HPL.out]) _ (fun j hj => by
                rw [partF_yes hkl HTS.out HC.out j, if_neg (by omega), HZ.out])
              have c7 := hsc6.c7
              simp only [Nat.zero_add] at c7
              have hkN : (k : Int) < (qs.length : Int) + ((skT qs k t).length : Int) := by omega
              have hsum : (qs.length : Int) + ((skT qs k t).length : Int) ≤ 1000 := by omega
              have hsum0 : 0 ≤ (qs.length : Int) + ((skT qs k t).length : Int) := by omega
              have hszT : (w6.setCell ⟨gl, t, none⟩ (.int .i64 ((qs.length : Int) + ((skT qs k t).length : Int)))).heap.size = w6.heap.size := by simp [World.setCell]
              clear hd hbr6 hsc6
              go_wp2_with (first
                | (go_at_call 66; refine skipStepO_any (m : Int) _ ?_; intro g7 w7 hg7 hown7 hb7; have hT7 := HWT.out.keep hlo hb7; have HSK7 : Hid _ := hT7.sk.row; have hsz7 := hb7.size; clear hT7)
                | (at_builtin; (refine wpList_append_lies _ rfl _ _ 26 rfl (w.heap.size + 1) 43 i1 (.agg #[.int .i64 0, .int .i64 0, .int .i64 0, .int .i64 0, .int .i64 0, .int .i64 0, .int .i64 0, .slice none 0 0]) 8 80 Try.underlying26 hj hy0 hy1 hy2 rfl (by decide) (.slice As (skT qs k t).length cs) (skT qs k t).length ys rfl (World.ownsRow.alloc HSK7.out _) ⟨w7.heap.size, 0, none⟩ 1 1 (cells8 (skipSt (m : Int)) (.slice (some ⟨g7, 0, none⟩) 1 1)) rfl rfl (cells8_new w7 (skipSt (m : Int)) _ _ rfl) (cells8_one _ _ _ _) (by decide) (by unfold maxLen; omega) (by omega) (by rw [World.size_alloc]; omega) (w7.heap.size + 1) (by rw [World.size_alloc]) ?_; intro g8 cap8 w8 hown8 hgrow8 hat8 hlt8)))
              obtain ⟨mvs', hW8⟩ := HWT.out.push hlo HVB.out HNB.out hg7 hown7 hb7 hgrow8 hown8
              have HW8 : Hid _ := hW8
              have HSC8 : Hid (StepCells w8 W5.heap.size 0 qs[k] (.slice (some ⟨gl, 0, none⟩) qs[k].next.length k0)) := by
                refine stepCells_block HSC6.out ?_
                have e1 : w8.heap[W5.heap.size]? = _ := hgrow8.block W5.heap.size (by rw [World.size_alloc]; omega) (fun e => HNBK.out e.symm)
                rw [e1, Below.heap_alloc _ _ _ (by omega), hb7.block _ (by omega), Below.heap_setCell _ _ _ _ (by simp; omega)]
              have HNB8 : Hid ((Value.slice (some ⟨g8, 0, none⟩) ((skT qs k t).length + 1) cap8).ownBlock ≠ some W5.heap.size) := by
                intro e
                have e2 : g8 = W5.heap.size := by simpa [Value.ownBlock] using e
                subst e2
                rcases hat8 with h | h
                · exact HNBK.out h
                · omega
              clear hown8 hgrow8 hat8 hW8 hown7 hb7
              go_wp2
              go_roundw
              case rel => exact ⟨t + 1, _, mvs', by omega, by go_num, by rw [HSKN.out]; exact HW8.out, HSC8.out, HNB8.out⟩
              case measure => simp [intOf]; omega
        · have hti : ¬ (t : Int) < (qs[k].next.length : Int) := by omega
          obtain rfl : t = qs[k].next.length := by omega
          have HE1 : Hid (∀ j, partF qs (k + 1) 0 j = partF qs k qs[k].next.length j) := by
            intro j
            have := partF_next hkl j
            rwa [show qs.getD k step00 = qs[k] by simp [List.getD, hkl]] at this
          have HE2 : Hid (skK qs (k + 1) = skT qs k qs[k].next.length) := skK_succ hkl
          clear hW hS hown hAs hpl
          go_wp2
          go_roundw
          case rel => exact ⟨k + 1, ys, mvs, by omega, by go_num, by rw [← HE2.out] at HW ⊢; exact HW.out.congr (fun j _ => HE1.out j) rfl⟩
          case measure => simp [intOf]; omega
    · have hki : ¬ (k : Int) < (qs.length : Int) := by omega
      obtain rfl : k = qs.length := by omega
      have hWw : w.heap.size < wr.heap.size := hW.cnt.lt
      by_cases hnil : skK qs qs.length = []
      · have hu := hW.nil hnil
        subst hu
        clear hW
        go_wp2_with (at_builtin; refine wpList_append_nil _ rfl (.tmp 48) (.tmp 49) 26 rfl lo 43 i1 8 Try.underlying26 hj (.slice (some ⟨g, 0, none⟩) qs.length c) qs.length xs rfl HW.out.main.row rfl ?_)
        exact HQ.out _ xs nvs _ (HW.out.fin0 HAP.out hnil) HW.out.below
      · obtain ⟨As, cs, rfl, hAs⟩ := own_len hW.sk.row
        have hpos : 0 < (skK qs qs.length).length := List.length_pos_iff.2 hnil
        obtain ⟨gs, rfl, hgs⟩ := hAs hpos
        have HNEW : Hid (∀ j u, ys[j]? = some u → wr.cell? ((⟨gs, 0, none⟩ : Addr).add j) = some u) := fun j u hu => by
          have hj : j < (skK qs qs.length).length * 8 := by rw [← hW.sk.row.1]; exact (List.getElem?_eq_some_iff.1 hu).1
          rw [show ((⟨gs, 0, none⟩ : Addr).add j) = ⟨gs, j, none⟩ by unfold Addr.add; split <;> simp_all, hW.sk.row.cellAt j hj]
          exact hu
        have HLN : Hid (ys.length = (skK qs qs.length).length * 8) := hW.sk.row.1
        clear hW hAs hnil
        go_wp2_with (at_builtin; refine wpList_append_lies _ rfl _ _ 26 rfl lo 43 i1 (.agg #[.int .i64 0, .int .i64 0, .int .i64 0, .int .i64 0, .int .i64 0, .int .i64 0, .int .i64 0, .slice none 0 0]) 8 80 Try.underlying26 hj hy0 hy1 hy2 rfl (by decide) (.slice (some ⟨g, 0, none⟩) qs.length c) qs.length xs rfl HW.out.main.row ⟨gs, 0, none⟩ (skK qs qs.length).length cs ys rfl HLN.out HNEW.out HW.out.sk.one hpos (by unfold maxLen; omega) (by omega) (by omega) _ rfl ?_; intro g9 cap9 w9 hown9 hgrow9 _ _)
        have hbF : Below lo wr w9 := (Below.refl _ _).grown hgrow9 (by omega) (fun q hq => by simp [Value.ownBlock] at hq; omega)
        exact HQ.out _ _ _ _ (HW.out.fin hlo HAP.out HNB.out hgrow9 hown9) (HW.out.below.trans hbF)
end Go.Proofs.Ytancacjnbbdbfaa
