/- What the program's freeFirst answers: the first step at the end, a skip to it ahead of all. -/
import Derived.Test.YtancacjnbbdbfaaImplRd
import Derived.Test.YtancacjnbbdbfaaFormN
import Derived.Deep.CutRange
namespace Go.Proofs.Ytancacjnbbdbfaa
open Go.RowKit

theorem PO.slice2 {lo n : Nat} {w : World} {v : Value} {ss : List St} {xs : List Value} {nvs : Nat → Value} (h : PO lo w v ss xs nvs) (hn : ss.length = n) : ∃ A c, v = .slice A n c ∧ ∀ i, i < n → ∃ g, A = some ⟨g, 0, none⟩ ∧ lo ≤ g ∧ g < w.heap.size := by
  subst hn
  exact h.slice

/-- One step in another one's place. -/
theorem PF.put8 {lo N i g c : Nat} {w : World} {F : Nat → St} {xs : List Value} {nvs : Nat → Value} {nv : Value} {s : St} {o : Nat} (ho : i * 8 = o) (h : PF lo w (.slice (some ⟨g, 0, none⟩) N c) N F xs nvs) (hi : i < N) (hn : w.ownsRow lo 3 1 nv s.next.length (s.next.map (Value.int .i64))) :
    ∃ ys, PF lo (set8 w g o s nv) (.slice (some ⟨g, 0, none⟩) N c) N (fun j => if j = i then s else F j) ys (fun j => if j = i then nv else nvs j) := by
  subst ho
  have kept : ∀ {w : World} {xs : List Value} {b q : Nat} {y u : Value} {n : Nat} {ys : List Value}, w.ownsRow lo 43 8 (.slice (some ⟨g, 0, none⟩) N c) N xs → w.ownsRow b 3 1 y n ys → (w.setCell ⟨g, q, none⟩ u).ownsRow b 3 1 y n ys := by
    intro w xs b q y u n ys hr hy
    exact own_store hy hr (by decide)
  have hlen : xs.length = N * 8 := h.row.1
  have r0 := h.row
  have r1 := (r0.stored (i * 8) (.int .i64 s.kind)).1
  have r2 := (r1.stored (i * 8 + 1) (.int .i64 s.dst)).1
  have r3 := (r2.stored (i * 8 + 2) (.int .i64 s.op)).1
  have r4 := (r3.stored (i * 8 + 3) (.int .i64 s.av)).1
  have r5 := (r4.stored (i * 8 + 4) (.int .i64 s.an)).1
  have r6 := (r5.stored (i * 8 + 5) (.int .i64 s.bv)).1
  have r7 := (r6.stored (i * 8 + 6) (.int .i64 s.bn)).1
  have r8 := (r7.stored (i * 8 + 7) nv).1
  have all : ∀ {b : Nat} {y : Value} {n : Nat} {ys : List Value}, w.ownsRow b 3 1 y n ys → (set8 w g (i * 8) s nv).ownsRow b 3 1 y n ys := fun hy => kept r7 (kept r6 (kept r5 (kept r4 (kept r3 (kept r2 (kept r1 (kept r0 hy)))))))
  refine ⟨_, r8, fun j hj => ?_, fun j hj => ?_⟩
  · by_cases e : j = i
    · subst e
      rw [if_pos rfl, if_pos rfl]
      intro q u hu
      have hq : q < 8 := by have := (List.getElem?_eq_some_iff.1 hu).1; simpa [cells8] using this
      rcases (by omega : q = 0 ∨ q = 1 ∨ q = 2 ∨ q = 3 ∨ q = 4 ∨ q = 5 ∨ q = 6 ∨ q = 7) with rfl | rfl | rfl | rfl | rfl | rfl | rfl | rfl <;> (simp [cells8] at hu; subst hu; simp [List.getElem?_set, hlen]; omega)
    · rw [if_neg e, if_neg e]
      intro q u hu
      have hq : q < 8 := by have := (List.getElem?_eq_some_iff.1 hu).1; simpa [cells8] using this
      rw [List.getElem?_set_ne (by omega), List.getElem?_set_ne (by omega), List.getElem?_set_ne (by omega), List.getElem?_set_ne (by omega), List.getElem?_set_ne (by omega), List.getElem?_set_ne (by omega), List.getElem?_set_ne (by omega), List.getElem?_set_ne (by omega)]
      exact h.cells j hj q u hu
  · by_cases e : j = i
    · subst e
      rw [if_pos rfl, if_pos rfl]
      exact all hn
    · rw [if_neg e, if_neg e]
      exact all (h.own j hj)

set_option maxHeartbeats 1000000 in
/-- A skip in new memory: where its list lies. -/
theorem skipStepO_any {Q : Ending → World → Prop} (x : Int) (w : World)
    (hQ : ∀ g w', w.heap.size ≤ g → w'.ownsRow w.heap.size 3 1 (.slice (some ⟨g, 0, none⟩) 1 1) 1 [.int .i64 x] → Below w.heap.size w w' → Q (.returned (.agg #[.int .i64 6, .int .i64 0, .int .i64 0, .int .i64 0, .int .i64 0, .int .i64 0, .int .i64 0, .slice (some ⟨g, 0, none⟩) 1 1])) w') :
    Calls Try.prog 66 #[skipV x] w Q := by
  have HQ : Hid _ := hQ
  clear hQ
  unfold skipV
  go_enter Try.func66, Try.ntmps66
  go_wp2
  refine bodyPost_ret (v := .agg #[.int .i64 6, .int .i64 0, .int .i64 0, .int .i64 0, .int .i64 0, .int .i64 0, .int .i64 0, .slice (some ⟨w.heap.size + 1 + 1, 0, none⟩) 1 1]) (by simp [results, Try.results66, go_sem]) rfl ?_
  refine HQ.out (w.heap.size + 1 + 1) _ (by omega) ?_ ?_
  · have h : ∀ (W : World), W.heap.size = w.heap.size + 1 + 1 → (W.alloc (.cells #[.int .i64 x] 3)).ownsRow w.heap.size 3 1 (.slice (some ⟨w.heap.size + 1 + 1, 0, none⟩) 1 1) 1 [.int .i64 x] := fun W hW => by
      have h1 := World.ownsRow_lit (base := w.heap.size) (e := 3) (size := 1) W #[.int .i64 x] 1 (by omega) (by decide) (by simp)
      rw [hW] at h1
      simpa using h1
    exact h _ (by simp)
  · repeat (first | refine Below.alloc ?_ (by first | omega | (simp <;> omega)) _ | exact Below.refl _ _)

theorem endTo (n : Nat) (x : Int) : endI n x = if x = 0 then (n : Int) else x := rfl

theorem row_to {w : World} {g n : Nat} {tf : Int → Int} {qs : List St} (h : w.rowIs g 3 n (fun j => .int .i64 (tf (j : Int)))) (hf : FitN qs) (hn : qs.length = n) : ToAt w g n tf qs := fun i s hs t ht => by
  subst hn
  have hx := mem_of_getD ht
  obtain ⟨h0, h1⟩ := hf.2 s (List.mem_of_getElem? hs) _ hx
  exact ⟨(s.next.getD t 0).toNat, by omega, by omega, h.cell (by omega)⟩

set_option maxRecDepth 100000 in
set_option maxHeartbeats 1000000 in
theorem freeFirst_any {Q : Ending → World → Prop} (v : Value) (qs : List St) (w : World) (h : StepsAt w v qs) (hf : FitN qs) (h0 : 0 < qs.length) (hl : qs.length ≤ 100)
    (hQ : ∀ v' xs nvs w', PO w.heap.size w' v' ((List.range (qs.length + 1)).map (firstF qs (qs.length + 1))) xs nvs → Below w.heap.size w w' → Q (.returned v') w') :
    Calls Try.prog 46 #[v] w Q := by
  have HQ : Hid _ := hQ
  clear hQ
  have HF : Hid (FitN qs) := hf
  obtain ⟨ao, b, o, cap, rfl, ha, _⟩ := id h
  obtain rfl := ha (by omega)
  have HH : Hid (StepsAt w (.slice (some ⟨b, o, none⟩) qs.length cap) qs) := h
  clear h hf ha
  obtain ⟨ms, hms⟩ : ∃ ms, ms = qs.map (mapNext (endI qs.length)) := ⟨_, rfl⟩
  have HLM : Hid (qs.map (mapNext (endI qs.length)) = ms) := hms.symm
  have HLL : Hid (ms.length = qs.length) := by rw [Hid, hms, List.length_map]
  clear hms
  obtain ⟨i1, hj, hy0, hy1, hy2⟩ := info_parts infoStep1
  go_enter Try.func46, Try.ntmps46
  go_upto_region 4 with (first
    | (go_at_call 71; refine samePlaces_any qs.length _ (by omega) ?_; intro w2 hb2 hrow2 hs2; have c0 := hrow2.cell h0; have f0 := hrow2.frozen 0; have HR3 : Hid ((w2.setCell ⟨w.heap.size, 0, none⟩ (.int .i64 (qs.length : Int))).rowIs w.heap.size 3 qs.length (fun j => .int .i64 (endI qs.length (j : Int)))) := (hrow2.set 0 _).congr (fun j hj => by by_cases e : j = 0 <;> simp [e, endI]); have HB3 : Hid (Below w.heap.size w (w2.setCell ⟨w.heap.size, 0, none⟩ (.int .i64 (qs.length : Int)))) := hb2.setCell (Nat.le_refl _) _; have HTO : Hid (ToAt (w2.setCell ⟨w.heap.size, 0, none⟩ (.int .i64 (qs.length : Int))) w.heap.size qs.length (endI qs.length) qs) := row_to HR3.out HF.out rfl; clear hb2 hrow2)
    | (go_at_call 40; (refine led_any _ qs _ qs.length qs.length (endI qs.length) _ (HH.out.keep HB3.out) (by omega) HF.out.1 HTO.out ?_; intro v4 xs4 nvs4 w4 hP4 hb4; rw [HLM.out] at hP4; obtain ⟨A4, c4, hv4, hat4⟩ := hP4.slice2 HLL.out; subst hv4)))
  have hsz3 := HB3.out.size
  have cT : (w2.setCell ⟨w.heap.size, 0, none⟩ (.int .i64 (qs.length : Int))).cell? ⟨w.heap.size, 0, none⟩ = some (.int .i64 (qs.length : Int)) := by
    have := HR3.out.cell h0
    simpa [endI] using this
  have cT4 := cell_keep hb4 cT
  have HB4 : Hid (Below w.heap.size w w4) := HB3.out.trans (hb4.mono hsz3)
  have hlt3 : w.heap.size < (w2.setCell ⟨w.heap.size, 0, none⟩ (.int .i64 (qs.length : Int))).heap.size := cell_lt cT
  obtain ⟨g4, rfl, hg4, hg4b⟩ := hat4 0 h0
  have hgT : w.heap.size ≠ g4 := by omega
  have hgT2 : w.heap.size < g4 := by omega
  have hP4' := hP4.lower hsz3
  have HPF : Hid (PF w.heap.size w4 (.slice (some ⟨g4, 0, none⟩) qs.length c4) qs.length (fun i => ms.getD i step00) xs4 nvs4) := by
    have := hP4'.pf step00
    rwa [HLL.out] at this
  have HAP : Hid (Apart nvs4 qs.length) := by
    have := hP4.apart
    rwa [HLL.out] at this
  obtain ⟨A9, c9, hv9, hat9⟩ := HPF.out.at
  obtain ⟨g9, hg9, _, _, hd9, hf9⟩ := hat9 0 h0
  cases hv9
  cases hg9
  obtain ⟨s0, hs0⟩ : ∃ s0, s0 = ms.getD 0 step00 := ⟨_, rfl⟩
  rw [← hs0] at hd9
  have HS0 : Hid (s0 = ms.getD 0 step00) := hs0
  obtain ⟨A0, n0, k0, hn0⟩ := own_is_slice (HPF.out.own 0 h0)
  have HN0 : Hid (nvs4 0 = .slice A0 n0 k0) := hn0
  rw [hn0] at hd9
  obtain ⟨d0, d1, d2, d3, d4, d5, d6, d7⟩ := box_zero hd9
  have HOWN0 : Hid (w4.ownsRow w.heap.size 3 1 (.slice A0 n0 k0) s0.next.length (s0.next.map (Value.int .i64))) := by
    have := HPF.out.own 0 h0
    rw [hn0] at this
    rwa [← hs0] at this
  have HRD : Hid (∀ {W : World} {g c : Nat} {zs : List Value}, W.ownsRow w.heap.size 43 8 (.slice (some ⟨g, 0, none⟩) (qs.length + 1) c) (qs.length + 1) zs → ∀ j, j < 8 → ∃ u, W.cell? ⟨g, j, none⟩ = some u) := fun {W g c zs} h j hj => by
    have hz : j < zs.length := by rw [h.1]; omega
    exact ⟨zs[j], by rw [h.cellAt _ (by omega)]; exact List.getElem?_eq_getElem hz⟩
  clear hP4 hP4' hb4 cT hat4 hat9 hd9 hs0 hn0 hf9
  have HCT : Hid (∀ O w', (w4.alloc O).grownBy w' (Value.slice (some ⟨g4, 0, none⟩) qs.length c4).ownBlock → w'.cell? ⟨w.heap.size, 0, none⟩ = some (.int .i64 (qs.length : Int))) := fun O w' hg => by
    have h1 : w.heap.size < w4.heap.size := cell_lt cT4
    have h2 : (w4.alloc O).cell? ⟨w.heap.size, 0, none⟩ = w4.cell? ⟨w.heap.size, 0, none⟩ := World.cell?_alloc_lt _ _ _ h1
    refine (hg.cell_far ⟨w.heap.size, 0, none⟩ ?_ ?_).trans (h2.trans cT4)
    · show w.heap.size < (w4.alloc O).heap.size
      rw [World.size_alloc]
      omega
    · intro e
      have e2 : w.heap.size = g4 := Option.some.inj e
      exact hgT e2
  clear HR3 HB3 HTO hsz3 hlt3 hs2 c0 f0
  generalize hN : qs.length = n at *
  have HN : Hid (qs.length = n) := hN
  clear hN
  have hqi : (0 : Int) < (n : Int) := by omega
  go_wp2_with (first
    | (at_builtin; refine wpList_append_lies _ rfl _ _ 26 rfl w.heap.size 43 i1 (.agg #[.int .i64 0, .int .i64 0, .int .i64 0, .int .i64 0, .int .i64 0, .int .i64 0, .int .i64 0, .slice none 0 0]) 8 80 Try.underlying26 hj hy0 hy1 hy2 rfl (by decide) (.slice (some ⟨g4, 0, none⟩) n c4) n xs4 rfl (HPF.out.row.alloc _) ⟨w4.heap.size, 0, none⟩ 1 1 (cells8 s0 (.slice A0 n0 k0)) rfl rfl (cells8_new w4 s0 _ _ rfl) (cells8_one _ _ _ _) (by decide) (by unfold maxLen; omega) (by omega) (by rw [World.size_alloc]; omega) (w4.heap.size + 1) (by rw [World.size_alloc]) ?_; intro g5 cap5 w5 hown5 hgrow5 _ hlt5; have cT5 := HCT.out _ _ hgrow5)
    | (go_at_call 66; refine skipStepO_any (n : Int) _ ?_; intro g6 w6 hg6 hown6 hb6; have hown56 := own_keepB hown5 hb6; obtain ⟨u0, e0⟩ := HRD.out hown56 0 (by decide); obtain ⟨u1, e1⟩ := HRD.out hown56 1 (by decide); obtain ⟨u2, e2⟩ := HRD.out hown56 2 (by decide); obtain ⟨u3, e3⟩ := HRD.out hown56 3 (by decide); obtain ⟨u4, e4⟩ := HRD.out hown56 4 (by decide); obtain ⟨u5, e5⟩ := HRD.out hown56 5 (by decide); obtain ⟨u6, e6⟩ := HRD.out hown56 6 (by decide); obtain ⟨u7, e7⟩ := HRD.out hown56 7 (by decide); have fz := hown56.frozenAt))
  have hgn : w5.heap.size ≤ w6.heap.size := hb6.size
  have hg45 := hgrow5.size
  rw [World.size_alloc] at hg45
  have hw4 := HB4.out.size
  have hPS := (HPF.out.keep (((Below.refl _ _).alloc (Nat.le_refl _) _ : Below w4.heap.size w4 (w4.alloc (.cells #[.int .i64 s0.kind, .int .i64 s0.dst, .int .i64 s0.op, .int .i64 s0.av, .int .i64 s0.an, .int .i64 s0.bv, .int .i64 s0.bn, .slice A0 n0 k0] 43))))).snoc (s := s0) (nv := .slice A0 n0 k0) (HOWN0.out.alloc _) hgrow5 hown5
  have hP6 := hPS.keep hb6
  have hown6' : w6.ownsRow w.heap.size 3 1 (.slice (some ⟨g6, 0, none⟩) 1 1) (skipSt (n : Int)).next.length ((skipSt (n : Int)).next.map (Value.int .i64)) := own_lower hown6 (by omega)
  obtain ⟨ys, hP7⟩ := PF.put8 (i := 0) (o := 0) rfl hP6 (by omega) hown6'
  have hA7 : Apart (fun j => if j = 0 then .slice (some ⟨g6, 0, none⟩) 1 1 else if j = n then .slice A0 n0 k0 else nvs4 j) (n + 1) := by
    have hlt : ∀ j q, j < n → (nvs4 j).ownBlock = some q → q < w5.heap.size := fun j q hj hq => by
      have h1 := HPF.out.nvLt hj hq
      have h2 := hgrow5.size
      rw [World.size_alloc] at h2
      omega
    intro i j q hi hj hij
    have key : ∀ i, i ≠ 0 → i < n + 1 → ∃ i', i' < n ∧ (if i = n then (.slice A0 n0 k0 : Value) else nvs4 i) = nvs4 i' ∧ (i = n → i' = 0) ∧ (i ≠ n → i' = i) := fun i h1 h2 => by
      by_cases e : i = n
      · exact ⟨0, h0, by rw [if_pos e, HN0.out], fun _ => rfl, fun h => absurd e h⟩
      · exact ⟨i, by omega, by rw [if_neg e], fun h => absurd h e, fun _ => rfl⟩
    by_cases e1 : i = 0 <;> by_cases e2 : j = 0
    · omega
    · simp only [if_pos e1, if_neg e2]
      obtain ⟨j', hj', hj2, _, _⟩ := key j e2 hj
      rw [hj2]
      intro hq hq2
      simp [Value.ownBlock] at hq
      have := hlt j' q hj' hq2
      omega
    · simp only [if_neg e1, if_pos e2]
      obtain ⟨i', hi', hi2, _, _⟩ := key i e1 hi
      rw [hi2]
      intro hq hq2
      simp [Value.ownBlock] at hq2
      have := hlt i' q hi' hq
      omega
    · simp only [if_neg e1, if_neg e2]
      obtain ⟨i', hi', hi2, hi3, hi4⟩ := key i e1 hi
      obtain ⟨j', hj', hj2, hj3, hj4⟩ := key j e2 hj
      rw [hi2, hj2]
      refine HAP.out i' j' q hi' hj' ?_
      intro e
      by_cases en : i = n <;> by_cases em : j = n
      · omega
      · have := hi3 en; have := hj4 em; omega
      · have := hi4 en; have := hj3 em; omega
      · have := hi4 en; have := hj4 em; omega
  refine HQ.out (.slice (some ⟨g5, 0, none⟩) (n + 1) cap5) ys (fun j => if j = 0 then .slice (some ⟨g6, 0, none⟩) 1 1 else if j = n then .slice A0 n0 k0 else nvs4 j) _ ?_ ?_
  · have h9 := (hP7.congr (G := firstF qs (n + 1)) ?_).po hA7
    · exact h9
    · intro j hj
      have hms : ∀ q, q < n → ms.getD q step00 = mapNext (endI n) (qs.getD q step00) := fun q hq => by
        have hq2 : q < qs.length := by rw [HN.out]; exact hq
        have e1 : qs.getD q step00 = qs[q] := by simp [List.getD, hq2]
        rw [← HLM.out, e1]
        simp [List.getD, hq2]
      unfold firstF
      rw [HN.out]
      by_cases e : j = 0
      · subst e
        rw [if_neg (by omega), if_pos rfl]
        simp [rotF, HN.out]
      · rw [if_pos (by omega), if_neg e]
        unfold rotF
        rw [if_neg e, HN.out]
        by_cases e2 : j = n
        · rw [if_pos e2, if_pos e2, HS0.out, hms 0 h0]
        · rw [if_neg e2, if_neg e2, hms j (by omega)]
  · have h8 : Below w.heap.size w w5 := (HB4.out.alloc (by have := HB4.out.size; omega) _).grown hgrow5 (by rw [World.size_alloc]; have := HB4.out.size; omega) (fun q hq => by simp [Value.ownBlock] at hq; omega)
    have h10 := set8_below (g := g5) (o := 0) (s := skipSt (n : Int)) (nv := .slice (some ⟨g6, 0, none⟩) 1 1) (h8.trans (hb6.mono h8.size)) (by have := (hown5.lt g5 rfl).1; omega)
    exact h10
end Go.Proofs.Ytancacjnbbdbfaa
