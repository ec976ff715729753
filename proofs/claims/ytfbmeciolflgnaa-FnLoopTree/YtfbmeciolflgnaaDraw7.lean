import Derived.Test.YtfbmeciolflgnaaDraw6
namespace Go.Proofs.Ytfbmeciolflgnaa
open Go.RowKit

theorem lit3_at {n : Int} {z : Nat} (hz : (z : Int) < 3) : ∃ y : Int, (#[Value.int .i64 (-1), .int .i64 n, .int .i64 0] : Array Value)[z]? = some (.int .i64 y) := by
  have e : z = 0 ∨ z = 1 ∨ z = 2 := by omega
  rcases e with rfl | rfl | rfl
  all_goals exact ⟨_, rfl⟩

theorem lit3_ex {n : Int} {z rb : Nat} {W w4 : World} {t : TypeId} (hx : Ex rb (W.alloc (.cells #[.int .i64 (-1), .int .i64 n, .int .i64 0] t)).drew w4) (hr : rb < W.heap.size) (hz : (z : Int) < 3) : ∃ y : Int, w4.cell? ⟨W.heap.size, z, none⟩ = some (.int .i64 y) := by
  have e : z = 0 ∨ z = 1 ∨ z = 2 := by omega
  rcases e with rfl | rfl | rfl
  all_goals exact ⟨_, hx.cell (by show World.cell? (World.alloc _ _) _ = _; simp; rfl) (by show W.heap.size ≠ rb; omega)⟩

set_option maxRecDepth 100000 in
set_option maxHeartbeats 3000000 in
theorem l71Spoil_any {Q : Ending → World → Prop} (rb p : Nat) (v : Value) (ss : List St) (w : World) (h : Rd w rb p) (hp : p + 400 ≤ 1000000) (hS : StepsN w v ss) (h1 : 1 ≤ ss.length) (hl : ss.length ≤ 60) (hls : ∀ s ∈ ss, s.next.length ≤ 60)
    (hQ : ∀ (v' : Value) (ts : List St) (p' : Nat) w', StepsNF (w.heap.size + 2) w' v' ts → ts.length ≤ 61 → (∀ s ∈ ts, s.next.length ≤ 61) → Rd w' rb p' → p' ≤ p + 400 → Ex rb w w' → Q (.returned (.agg #[v'])) w') :
    Calls Try.prog 65 #[.pointer (some ⟨rb, 0, none⟩), .agg #[v]] w Q := by
  have HQ : Hid _ := hQ
  clear hQ
  have hlt := h.lt
  obtain ⟨i1, hj, hy0, hy1, hy2⟩ := info_parts infoStepD
  go_enter Try.func65, Try.ntmps65
  go_wp2_with fail
  have hls' : ∀ s ∈ ss, s.next.length ≤ 1000 := fun s hs => Nat.le_trans (hls s hs) (by decide)
  refine l1Copy_any v ss _ ((hS.keep ((Below.refl _ _).alloc (Nat.le_refl _) _)).keep ((Below.refl _ _).alloc (Nat.le_refl _) _)) (by omega) hls' fun v1 xs nvs w1 hP hb => ?_
  obtain ⟨A, c, rfl, hg⟩ := hP.slice
  obtain ⟨g, rfl, hg1, hg2⟩ := hg 0 (by omega)
  clear hg
  have HLS : Hid (∀ s ∈ ss, s.next.length ≤ 60) := hls
  have e1 : ((w.alloc (.cells #[v] 30)).alloc (.cells #[.slice none 0 0] 30)).heap.size = w.heap.size + 2 := by simp
  rw [e1] at hP hb hg1
  have c0 := (hb.cell (p := ⟨w.heap.size, 0, none⟩) (by show w.heap.size < w.heap.size + 2; omega)).trans (by simp [go_sem] : _ = some v)
  have f0 := (hb.frozen (p := ⟨w.heap.size, 0, none⟩) (by show w.heap.size < w.heap.size + 2; omega)).trans (by simp [go_sem] : _ = false)
  have hr1 : Rd w1 rb p := ((h.alloc _).alloc _).keep (by rw [e1]; exact hb)
  have HP : Hid _ := hP
  have HB : Hid _ := hb
  clear hP hb hS hls hls'
  go_wp2_with fail
  refine pick_any rb p _ _ (hr1.setCell (by show rb < w.heap.size; omega) _) (by omega) (by omega) fun k w2 hk hr2 hx2 => ?_
  have hk2 : k < ss.length := by have := hk (by omega); omega
  have hP2 : POx (w.heap.size + 2) k w2 (.slice (some ⟨g, 0, none⟩) ss.length c) ss xs nvs := ((HP.out.below (by show w.heap.size < w.heap.size + 2; omega) _).but k).ex hx2 (by omega)
  have hS2 := HP.out.cells k ss[k] (List.getElem?_eq_getElem hk2)
  have rd : ∀ j u, (cells8 ss[k] (nvs k))[j]? = some u → w2.cell? ⟨g, k * 8 + j, none⟩ = some u := fun j u hu => by
    have hj : j < 8 := by have := (List.getElem?_eq_some_iff.1 hu).1; simpa [cells8] using this
    rw [hP2.row.cellAt _ (by omega)]
    exact hS2 j u hu
  have d0 := rd 0 _ rfl
  have d1 := rd 1 _ rfl
  have d2 := rd 2 _ rfl
  have d3 := rd 3 _ rfl
  have d4 := rd 4 _ rfl
  have d5 := rd 5 _ rfl
  have d6 := rd 6 _ rfl
  have d7 := rd 7 _ rfl
  rw [Nat.add_zero] at d0
  have RD : Hid _ := rd
  have p0 : w2.cell? ⟨w.heap.size, 0, none⟩ = some (.slice (some ⟨g, 0, none⟩) ss.length c) := hx2.cell (by simp [go_sem, c0]) (by show w.heap.size ≠ rb; omega)
  have s2 := hx2.size
  simp at s2
  have pf : w2.frozen? ⟨w.heap.size, 0, none⟩ = false := (hx2.frozen (p := ⟨w.heap.size, 0, none⟩) (by show w.heap.size < _; simp; omega) (by show w.heap.size ≠ rb; omega)).trans (by simp [go_sem, f0])
  have HP2 : Hid _ := hP2
  have HX2 : Hid _ := hx2
  have hki : (k : Int) < (ss.length : Int) := by omega
  obtain ⟨A7, n7, c7, hn7⟩ : ∃ A n c, nvs k = .slice A n c := by
    rcases (HP.out.own k ss[k] (List.getElem?_eq_getElem hk2)).2 with ⟨e, _⟩ | ⟨g', c', _, e, _⟩
    · exact ⟨_, _, _, e⟩
    · exact ⟨_, _, _, e⟩
  rw [hn7] at d7
  clear rd hS2 hP2 hx2 hk c0 f0
  go_wp2_with fail
  refine pick_any rb (p + 1) _ _ (hr2.alloc _) (by omega) (by omega) fun z w3 hz hr3 hx3 => ?_
  have hz8 : z < 8 := by have := hz (by omega); omega
  have HSI : Hid (SI rb w w3 ss k g c w2.heap.size xs nvs ss[k] (.slice A7 n7 c7) (p + 1 + 1)) := by
    have r2 : w2.cell? ⟨w.heap.size + 1, 0, none⟩ = some (.slice none 0 0) := HX2.out.cell (by rw [cell_setOther _ _ _ _ (by simp)]; exact (HB.out.cell (p := ⟨w.heap.size + 1, 0, none⟩) (by show w.heap.size + 1 < w.heap.size + 2; omega)).trans (by simp [go_sem])) (by show w.heap.size + 1 ≠ rb; omega)
    have r2f : w2.frozen? ⟨w.heap.size + 1, 0, none⟩ = false := (HX2.out.frozen (p := ⟨w.heap.size + 1, 0, none⟩) (by show w.heap.size + 1 < _; simp; omega) (by show w.heap.size + 1 ≠ rb; omega)).trans (by simpa [go_sem] using (HB.out.frozen (p := ⟨w.heap.size + 1, 0, none⟩) (by show w.heap.size + 1 < w.heap.size + 2; omega)))
    have l2 : w.heap.size + 2 ≤ w2.heap.size := by omega
    have own2 := own_ex (ownsRow_setCell_below (HP.out.own k ss[k] (List.getElem?_eq_getElem hk2)) (a := ⟨w.heap.size, 0, none⟩) (by show w.heap.size < w.heap.size + 2; omega) (.slice (some ⟨g, 0, none⟩) ss.length c)) HX2.out (by omega)
    rw [hn7] at own2
    have keep : ∀ {b m n : Nat} {e : TypeId} {y : Value} {ys : List Value}, w2.ownsRow b e m y n ys → y.ownBlock ≠ some w2.heap.size := fun ho e => by have := (ho.lt _ e).2; omega
    refine SI.go (W := w2.alloc _) (p := p + 1) ⟨?_, hr2.alloc _, ⟨HP2.out.row.alloc _, HP2.out.cells, fun i t hi ht => (HP2.out.own i t hi ht).alloc _⟩, ?_, ?_, ?_, ?_, ⟨by simp, by simp, by simp, by simp, by simp, by simp, by simp, by simp⟩, fun j => by simp [go_sem], l2, by simp, own2.alloc _, keep own2, by omega, fun i hi hik => keep (HP2.out.own i ss[i] hik (List.getElem?_eq_getElem hi))⟩ hlt hx3 hr3
    · have := HX2.out
      have b2 : Ex rb w w1 := (((Ex.refl rb w).alloc _).alloc _).trans (Ex.of_below (by rw [e1]; exact HB.out))
      exact ((b2.setCell (Or.inr (by show w.heap.size ≤ w.heap.size; omega)) _).trans HX2.out).alloc _
    · exact cell_keep ((Below.refl _ _).alloc (Nat.le_refl _) _) p0
    · exact (((Below.refl _ _).alloc (Nat.le_refl _) _).frozen (by show w.heap.size < w2.heap.size; omega)).trans pf
    · exact cell_keep ((Below.refl _ _).alloc (Nat.le_refl _) _) r2
    · exact (((Below.refl _ _).alloc (Nat.le_refl _) _).frozen (by show w.heap.size + 1 < w2.heap.size; omega)).trans r2f
  have hn7' : n7 = ss[k].next.length := by
    rcases HSI.out.own.2 with ⟨e, e2⟩ | ⟨g', c', _, e, _⟩
    · cases e
      exact e2.symm
    · cases e
      rfl
  subst hn7'
  have HAP : Hid (∀ i, i < ss.length → i ≠ k → (nvs i).ownBlock = none ∨ (nvs i).ownBlock ≠ (Value.slice A7 ss[k].next.length c7).ownBlock) := by
    intro i hi hik
    rw [← hn7]
    cases e : (nvs i).ownBlock with
    | none => exact Or.inl rfl
    | some b => exact Or.inr (fun e2 => HP.out.apart i k b hi hk2 hik e e2.symm)
  clear hx3 hz d0 d1 d2 d3 d4 d5 d6 d7 p0 pf RD HX2 HP2 HP HB hr1 hr2 hr3
  have HLK : Hid (ss[k].next.length ≤ 60) := HLS.out _ (List.getElem_mem hk2)
  have HALL : Hid (∀ t : St, t.next.length ≤ 61 → ∀ s ∈ ss.set k t, s.next.length ≤ 61) := by
    intro t ht s hs
    rcases List.mem_or_eq_of_mem_set hs with hs | rfl
    · exact Nat.le_trans (HLS.out s hs) (by decide)
    · exact ht
  have hz0 : z = 0 ∨ z = 1 ∨ z = 2 ∨ z = 3 ∨ z = 4 ∨ z = 5 ∨ z = 6 ∨ z = 7 := by omega
  rcases hz0 with rfl | rfl | rfl | rfl | rfl | rfl | rfl | rfl
  · go_wp2_with fail
    refine pick_any rb (p + 1 + 1) _ _ HSI.out.rd (by omega) (by omega) fun z4 w4 hz4 hr4 hx4 => ?_
    have HS4 : Hid (SI rb w w4 ss k g c w2.heap.size xs nvs ss[k] (.slice A7 ss[k].next.length c7) (p + 1 + 1 + 1)) := HSI.out.go hlt hx4 hr4
    clear hx4 hr4 hz4
    have sb1 := HS4.out.sb1
    have hgs : g ≠ w2.heap.size := HS4.out.farG
    have hgw : g ≠ w.heap.size := by omega
    have hgw1 : g ≠ w.heap.size + 1 := by omega
    obtain ⟨a0, a1, a2, a3, a4, a5, a6, a7⟩ := HS4.out.st.zero
    have fz := HS4.out.stF
    have rd : ∀ j, j < 8 → ∃ u, w4.cell? ⟨g, k * 8 + j, none⟩ = some u := fun j hj => by
      have hx : k * 8 + j < xs.length := by rw [HS4.out.po.row.1]; omega
      exact ⟨xs[k * 8 + j], by rw [HS4.out.po.row.cellAt _ (by omega)]; exact List.getElem?_eq_getElem hx⟩
    obtain ⟨u0, d0⟩ := rd 0 (by decide)
    obtain ⟨u1, d1⟩ := rd 1 (by decide)
    obtain ⟨u2, d2⟩ := rd 2 (by decide)
    obtain ⟨u3, d3⟩ := rd 3 (by decide)
    obtain ⟨u4, d4⟩ := rd 4 (by decide)
    obtain ⟨u5, d5⟩ := rd 5 (by decide)
    obtain ⟨u6, d6⟩ := rd 6 (by decide)
    obtain ⟨u7, d7⟩ := rd 7 (by decide)
    rw [Nat.add_zero] at d0
    have gf := HS4.out.po.row.frozenAt
    have p0 := HS4.out.box
    have pf := HS4.out.boxF
    have q0 := HS4.out.res
    have qf := HS4.out.resF
    clear rd
    have HS5 : Hid (SI rb w (w4.setCell ⟨w2.heap.size, 0, none⟩ (.int .i64 z4)) ss k g c w2.heap.size xs nvs { ss[k] with kind := z4 } (.slice A7 ss[k].next.length c7) (p + 1 + 1 + 1)) := HS4.out.set hlt _ _ rfl ⟨by simp [go_sem, a0], by simp [go_sem, a1], by simp [go_sem, a2], by simp [go_sem, a3], by simp [go_sem, a4], by simp [go_sem, a5], by simp [go_sem, a6], by simp [go_sem, a7]⟩
    have HF : Hid _ := HS5.out.fin (x := .slice (some ⟨g, 0, none⟩) ss.length c) hlt hk2
    go_wp2_with fail
    refine bodyPost_ret (v := .agg #[.slice (some ⟨g, 0, none⟩) ss.length c]) (by simp [results, Try.results65, go_sem, q0]) rfl ?_
    exact HQ.out _ _ (p + 1 + 1 + 1) _ HF.out.1 (by rw [List.length_set]; omega) (HALL.out _ (by first | exact Nat.le_trans HLK.out (by decide))) HF.out.2.1 (by omega) HF.out.2.2
  · go_wp2_with fail
    refine pick_any rb (p + 1 + 1) _ _ (HSI.out.rd.alloc _) (by omega) (by omega) fun z4 w4 hz4 hr4 hx4 => ?_
    have h44 : (z4 : Int) < 4 := hz4 (by omega)
    have s3 : w.heap.size + 2 ≤ w3.heap.size := Nat.le_trans HSI.out.sb1 (Nat.le_of_lt HSI.out.sb2)
    obtain ⟨y, hy⟩ : ∃ y, w4.cell? ⟨w3.heap.size, z4, none⟩ = some (.int .i64 y) := by
      have e : z4 = 0 ∨ z4 = 1 ∨ z4 = 2 ∨ z4 = 3 := by omega
      rcases e with rfl | rfl | rfl | rfl
      all_goals exact ⟨_, hx4.cell (by simp; rfl) (by show w3.heap.size ≠ rb; omega)⟩
    have HS4 : Hid (SI rb w w4 ss k g c w2.heap.size xs nvs ss[k] (.slice A7 ss[k].next.length c7) (p + 1 + 1 + 1)) := HSI.out.go hlt (((Ex.refl _ _).alloc _).trans hx4) hr4
    clear hx4 hr4 hz4
    have sb1 := HS4.out.sb1
    have hgs : g ≠ w2.heap.size := HS4.out.farG
    have hgw : g ≠ w.heap.size := by omega
    have hgw1 : g ≠ w.heap.size + 1 := by omega
    obtain ⟨a0, a1, a2, a3, a4, a5, a6, a7⟩ := HS4.out.st.zero
    have fz := HS4.out.stF
    have rd : ∀ j, j < 8 → ∃ u, w4.cell? ⟨g, k * 8 + j, none⟩ = some u := fun j hj => by
      have hx : k * 8 + j < xs.length := by rw [HS4.out.po.row.1]; omega
      exact ⟨xs[k * 8 + j], by rw [HS4.out.po.row.cellAt _ (by omega)]; exact List.getElem?_eq_getElem hx⟩
    obtain ⟨u0, d0⟩ := rd 0 (by decide)
    obtain ⟨u1, d1⟩ := rd 1 (by decide)
    obtain ⟨u2, d2⟩ := rd 2 (by decide)
    obtain ⟨u3, d3⟩ := rd 3 (by decide)
    obtain ⟨u4, d4⟩ := rd 4 (by decide)
    obtain ⟨u5, d5⟩ := rd 5 (by decide)
    obtain ⟨u6, d6⟩ := rd 6 (by decide)
    obtain ⟨u7, d7⟩ := rd 7 (by decide)
    rw [Nat.add_zero] at d0
    have gf := HS4.out.po.row.frozenAt
    have p0 := HS4.out.box
    have pf := HS4.out.boxF
    have q0 := HS4.out.res
    have qf := HS4.out.resF
    clear rd
    have HS5 : Hid (SI rb w (w4.setCell ⟨w2.heap.size, 1, none⟩ (.int .i64 y)) ss k g c w2.heap.size xs nvs { ss[k] with dst := y } (.slice A7 ss[k].next.length c7) (p + 1 + 1 + 1)) := HS4.out.set hlt _ _ rfl ⟨by simp [go_sem, a0], by simp [go_sem, a1], by simp [go_sem, a2], by simp [go_sem, a3], by simp [go_sem, a4], by simp [go_sem, a5], by simp [go_sem, a6], by simp [go_sem, a7]⟩
    have HF : Hid _ := HS5.out.fin (x := .slice (some ⟨g, 0, none⟩) ss.length c) hlt hk2
    go_wp2_with fail
    refine bodyPost_ret (v := .agg #[.slice (some ⟨g, 0, none⟩) ss.length c]) (by simp [results, Try.results65, go_sem, q0]) rfl ?_
    exact HQ.out _ _ (p + 1 + 1 + 1) _ HF.out.1 (by rw [List.length_set]; omega) (HALL.out _ (by first | exact Nat.le_trans HLK.out (by decide))) HF.out.2.1 (by omega) HF.out.2.2
  · go_wp2_with fail
    refine pick_any rb (p + 1 + 1) _ _ HSI.out.rd (by omega) (by omega) fun z4 w4 hz4 hr4 hx4 => ?_
    have HS4 : Hid (SI rb w w4 ss k g c w2.heap.size xs nvs ss[k] (.slice A7 ss[k].next.length c7) (p + 1 + 1 + 1)) := HSI.out.go hlt hx4 hr4
    clear hx4 hr4 hz4
    have sb1 := HS4.out.sb1
    have hgs : g ≠ w2.heap.size := HS4.out.farG
    have hgw : g ≠ w.heap.size := by omega
    have hgw1 : g ≠ w.heap.size + 1 := by omega
    obtain ⟨a0, a1, a2, a3, a4, a5, a6, a7⟩ := HS4.out.st.zero
    have fz := HS4.out.stF
    have rd : ∀ j, j < 8 → ∃ u, w4.cell? ⟨g, k * 8 + j, none⟩ = some u := fun j hj => by
      have hx : k * 8 + j < xs.length := by rw [HS4.out.po.row.1]; omega
      exact ⟨xs[k * 8 + j], by rw [HS4.out.po.row.cellAt _ (by omega)]; exact List.getElem?_eq_getElem hx⟩
    obtain ⟨u0, d0⟩ := rd 0 (by decide)
    obtain ⟨u1, d1⟩ := rd 1 (by decide)
    obtain ⟨u2, d2⟩ := rd 2 (by decide)
    obtain ⟨u3, d3⟩ := rd 3 (by decide)
    obtain ⟨u4, d4⟩ := rd 4 (by decide)
    obtain ⟨u5, d5⟩ := rd 5 (by decide)
    obtain ⟨u6, d6⟩ := rd 6 (by decide)
    obtain ⟨u7, d7⟩ := rd 7 (by decide)
    rw [Nat.add_zero] at d0
    have gf := HS4.out.po.row.frozenAt
    have p0 := HS4.out.box
    have pf := HS4.out.boxF
    have q0 := HS4.out.res
    have qf := HS4.out.resF
    clear rd
    have HS5 : Hid (SI rb w (w4.setCell ⟨w2.heap.size, 2, none⟩ (.int .i64 z4)) ss k g c w2.heap.size xs nvs { ss[k] with op := z4 } (.slice A7 ss[k].next.length c7) (p + 1 + 1 + 1)) := HS4.out.set hlt _ _ rfl ⟨by simp [go_sem, a0], by simp [go_sem, a1], by simp [go_sem, a2], by simp [go_sem, a3], by simp [go_sem, a4], by simp [go_sem, a5], by simp [go_sem, a6], by simp [go_sem, a7]⟩
    have HF : Hid _ := HS5.out.fin (x := .slice (some ⟨g, 0, none⟩) ss.length c) hlt hk2
    go_wp2_with fail
    refine bodyPost_ret (v := .agg #[.slice (some ⟨g, 0, none⟩) ss.length c]) (by simp [results, Try.results65, go_sem, q0]) rfl ?_
    exact HQ.out _ _ (p + 1 + 1 + 1) _ HF.out.1 (by rw [List.length_set]; omega) (HALL.out _ (by first | exact Nat.le_trans HLK.out (by decide))) HF.out.2.1 (by omega) HF.out.2.2
  · go_wp2_with fail
    refine pick_any rb (p + 1 + 1) _ _ HSI.out.rd (by omega) (by omega) fun z4 w4 hz4 hr4 hx4 => ?_
    have HS3 : Hid (SI rb w w4 ss k g c w2.heap.size xs nvs ss[k] (.slice A7 ss[k].next.length c7) (p + 1 + 1 + 1)) := HSI.out.go hlt hx4 hr4
    have h44 : (z4 : Int) < 15 := by have := hz4 (by omega); omega
    go_wp2_with fail
    refine pick_any rb (p + 1 + 1 + 1) _ _ (hr4.alloc _) (by omega) (by omega) fun z5 w5 hz5 hr5 hx5 => ?_
    have h54 : (z5 : Int) < 4 := hz5 (by omega)
    have s3 : w.heap.size + 2 ≤ w4.heap.size := Nat.le_trans HS3.out.sb1 (Nat.le_of_lt HS3.out.sb2)
    obtain ⟨y, hy⟩ : ∃ y, w5.cell? ⟨w4.heap.size, z5, none⟩ = some (.int .i64 y) := by
      have e : z5 = 0 ∨ z5 = 1 ∨ z5 = 2 ∨ z5 = 3 := by omega
      rcases e with rfl | rfl | rfl | rfl
      all_goals exact ⟨_, hx5.cell (by simp; rfl) (by show w4.heap.size ≠ rb; omega)⟩
    have HS4 : Hid (SI rb w w5 ss k g c w2.heap.size xs nvs ss[k] (.slice A7 ss[k].next.length c7) (p + 1 + 1 + 1 + 1)) := HS3.out.go hlt (((Ex.refl _ _).alloc _).trans hx5) hr5
    clear hx4 hr4 hz4 hx5 hr5 hz5 HS3
    have sb1 := HS4.out.sb1
    have hgs : g ≠ w2.heap.size := HS4.out.farG
    have hgw : g ≠ w.heap.size := by omega
    have hgw1 : g ≠ w.heap.size + 1 := by omega
    obtain ⟨a0, a1, a2, a3, a4, a5, a6, a7⟩ := HS4.out.st.zero
    have fz := HS4.out.stF
    have rd : ∀ j, j < 8 → ∃ u, w5.cell? ⟨g, k * 8 + j, none⟩ = some u := fun j hj => by
      have hx : k * 8 + j < xs.length := by rw [HS4.out.po.row.1]; omega
      exact ⟨xs[k * 8 + j], by rw [HS4.out.po.row.cellAt _ (by omega)]; exact List.getElem?_eq_getElem hx⟩
    obtain ⟨u0, d0⟩ := rd 0 (by decide)
    obtain ⟨u1, d1⟩ := rd 1 (by decide)
    obtain ⟨u2, d2⟩ := rd 2 (by decide)
    obtain ⟨u3, d3⟩ := rd 3 (by decide)
    obtain ⟨u4, d4⟩ := rd 4 (by decide)
    obtain ⟨u5, d5⟩ := rd 5 (by decide)
    obtain ⟨u6, d6⟩ := rd 6 (by decide)
    obtain ⟨u7, d7⟩ := rd 7 (by decide)
    rw [Nat.add_zero] at d0
    have gf := HS4.out.po.row.frozenAt
    have p0 := HS4.out.box
    have pf := HS4.out.boxF
    have q0 := HS4.out.res
    have qf := HS4.out.resF
    clear rd
    have HS5 : Hid (SI rb w (w5.setCell ⟨w2.heap.size, 3, none⟩ (.int .i64 ((z4 : Int) - 2))) ss k g c w2.heap.size xs nvs { ss[k] with av := (z4 : Int) - 2 } (.slice A7 ss[k].next.length c7) (p + 1 + 1 + 1 + 1)) := HS4.out.set hlt _ _ rfl ⟨by simp [go_sem, a0], by simp [go_sem, a1], by simp [go_sem, a2], by simp [go_sem, a3], by simp [go_sem, a4], by simp [go_sem, a5], by simp [go_sem, a6], by simp [go_sem, a7]⟩
    have HS6 : Hid (SI rb w ((w5.setCell ⟨w2.heap.size, 3, none⟩ (.int .i64 ((z4 : Int) - 2))).setCell ⟨w2.heap.size, 4, none⟩ (.int .i64 y)) ss k g c w2.heap.size xs nvs { ss[k] with av := (z4 : Int) - 2, an := y } (.slice A7 ss[k].next.length c7) (p + 1 + 1 + 1 + 1)) := HS5.out.set hlt _ _ rfl ⟨by simp [go_sem, a0], by simp [go_sem, a1], by simp [go_sem, a2], by simp [go_sem, a3], by simp [go_sem, a4], by simp [go_sem, a5], by simp [go_sem, a6], by simp [go_sem, a7]⟩
    have HF : Hid _ := HS6.out.fin (x := .slice (some ⟨g, 0, none⟩) ss.length c) hlt hk2
    go_wp2_with fail
    refine bodyPost_ret (v := .agg #[.slice (some ⟨g, 0, none⟩) ss.length c]) (by simp [results, Try.results65, go_sem, q0]) rfl ?_
    exact HQ.out _ _ (p + 1 + 1 + 1 + 1) _ HF.out.1 (by rw [List.length_set]; omega) (HALL.out _ (by first | exact Nat.le_trans HLK.out (by decide))) HF.out.2.1 (by omega) HF.out.2.2
  · go_wp2_with fail
    refine pick_any rb (p + 1 + 1) _ _ HSI.out.rd (by omega) (by omega) fun z4 w4 hz4 hr4 hx4 => ?_
    have HS3 : Hid (SI rb w w4 ss k g c w2.heap.size xs nvs ss[k] (.slice A7 ss[k].next.length c7) (p + 1 + 1 + 1)) := HSI.out.go hlt hx4 hr4
    have h44 : (z4 : Int) < 15 := by have := hz4 (by omega); omega
    go_wp2_with fail
    refine pick_any rb (p + 1 + 1 + 1) _ _ hr4 (by omega) (by omega) fun z5 w5 hz5 hr5 hx5 => ?_
    have HS4 : Hid (SI rb w w5 ss k g c w2.heap.size xs nvs ss[k] (.slice A7 ss[k].next.length c7) (p + 1 + 1 + 1 + 1)) := HS3.out.go hlt hx5 hr5
    clear hx4 hr4 hz4 hx5 hr5 hz5 HS3
    have sb1 := HS4.out.sb1
    have hgs : g ≠ w2.heap.size := HS4.out.farG
    have hgw : g ≠ w.heap.size := by omega
    have hgw1 : g ≠ w.heap.size + 1 := by omega
    obtain ⟨a0, a1, a2, a3, a4, a5, a6, a7⟩ := HS4.out.st.zero
    have fz := HS4.out.stF
    have rd : ∀ j, j < 8 → ∃ u, w5.cell? ⟨g, k * 8 + j, none⟩ = some u := fun j hj => by
      have hx : k * 8 + j < xs.length := by rw [HS4.out.po.row.1]; omega
      exact ⟨xs[k * 8 + j], by rw [HS4.out.po.row.cellAt _ (by omega)]; exact List.getElem?_eq_getElem hx⟩
    obtain ⟨u0, d0⟩ := rd 0 (by decide)
    obtain ⟨u1, d1⟩ := rd 1 (by decide)
    obtain ⟨u2, d2⟩ := rd 2 (by decide)
    obtain ⟨u3, d3⟩ := rd 3 (by decide)
    obtain ⟨u4, d4⟩ := rd 4 (by decide)
    obtain ⟨u5, d5⟩ := rd 5 (by decide)
    obtain ⟨u6, d6⟩ := rd 6 (by decide)
    obtain ⟨u7, d7⟩ := rd 7 (by decide)
    rw [Nat.add_zero] at d0
    have gf := HS4.out.po.row.frozenAt
    have p0 := HS4.out.box
    have pf := HS4.out.boxF
    have q0 := HS4.out.res
    have qf := HS4.out.resF
    clear rd
    have HS5 : Hid (SI rb w (w5.setCell ⟨w2.heap.size, 5, none⟩ (.int .i64 ((z4 : Int) - 2))) ss k g c w2.heap.size xs nvs { ss[k] with bv := (z4 : Int) - 2 } (.slice A7 ss[k].next.length c7) (p + 1 + 1 + 1 + 1)) := HS4.out.set hlt _ _ rfl ⟨by simp [go_sem, a0], by simp [go_sem, a1], by simp [go_sem, a2], by simp [go_sem, a3], by simp [go_sem, a4], by simp [go_sem, a5], by simp [go_sem, a6], by simp [go_sem, a7]⟩
    have HS6 : Hid (SI rb w ((w5.setCell ⟨w2.heap.size, 5, none⟩ (.int .i64 ((z4 : Int) - 2))).setCell ⟨w2.heap.size, 6, none⟩ (.int .i64 z5)) ss k g c w2.heap.size xs nvs { ss[k] with bv := (z4 : Int) - 2, bn := z5 } (.slice A7 ss[k].next.length c7) (p + 1 + 1 + 1 + 1)) := HS5.out.set hlt _ _ rfl ⟨by simp [go_sem, a0], by simp [go_sem, a1], by simp [go_sem, a2], by simp [go_sem, a3], by simp [go_sem, a4], by simp [go_sem, a5], by simp [go_sem, a6], by simp [go_sem, a7]⟩
    have HF : Hid _ := HS6.out.fin (x := .slice (some ⟨g, 0, none⟩) ss.length c) hlt hk2
    go_wp2_with fail
    refine bodyPost_ret (v := .agg #[.slice (some ⟨g, 0, none⟩) ss.length c]) (by simp [results, Try.results65, go_sem, q0]) rfl ?_
    exact HQ.out _ _ (p + 1 + 1 + 1 + 1) _ HF.out.1 (by rw [List.length_set]; omega) (HALL.out _ (by first | exact Nat.le_trans HLK.out (by decide))) HF.out.2.1 (by omega) HF.out.2.2
  · obtain ⟨a0, a1, a2, a3, a4, a5, a6, a7⟩ := HSI.out.st.zero
    have p3 := HSI.out.box
    have hlk : ss[k].next.length ≤ 60 := HLK.out
    have HRD3 : Hid (Rd w3.drew rb (p + 1 + 1)) := ⟨HSI.out.rd.ex, HSI.out.rd.at1, HSI.out.rd.fz⟩
    obtain ⟨i0, hi, hi0, hi1, hi2⟩ := info_parts infoIntD
    go_wp2_with fail
    go_region_law (first
      | (refine step_append_lies _ rfl (.tmp 76) (.tmp 82) 42 rfl (w.heap.size + 2) 3 i0 (.int .i64 0) 1 8 Try.underlying42 hi hi0 hi1 hi2 rfl (by decide) (.slice A7 ss[k].next.length c7) ss[k].next.length (ss[k].next.map (Value.int .i64)) (by simp [Act.eval]) HSB.out.own ⟨w4.heap.size, 0, none⟩ 1 1 [.int .i64 (z4 : Int)] (by simp [Act.eval]) rfl (one_new (by simp [go_sem])) (by intro u hu; rw [List.mem_singleton] at hu; subst hu; rfl) (by decide) (by unfold maxLen; omega) (by omega) (by simp; omega) (w4.heap.size + 1) (by simp) ?_; intro g8 cap8 w8 hown8 hgrow8 hat8 hlt8; obtain ⟨c0, c1, c2, c3, c4, c5, c6, c7'⟩ := (HSB.out.cellsG hgrow8).zero; have c7f := (hgrow8.frozen_far ⟨w2.heap.size, 7, none⟩ HSB.out.sb2 (Ne.symm HSB.out.far)).trans (HSB.out.stF 7))
      | (go_simp; go_wp2_with (go_at_call 63; refine pick_any rb (p + 1 + 1) _ _ HRD3.out (by omega) (by omega) ?_; intro z4 w4 hz4 hr4 hx4; have HS4 : Hid (SI rb w w4 ss k g c w2.heap.size xs nvs ss[k] (.slice A7 ss[k].next.length c7) (p + 1 + 1 + 1)) := HSI.out.go hlt ⟨hx4.os, hx4.tape, hx4.output, hx4.size, hx4.block⟩ hr4; have HSB : Hid (SI rb w (w4.alloc (.cells #[.int .i64 (z4 : Int)] 3)) ss k g c w2.heap.size xs nvs ss[k] (.slice A7 ss[k].next.length c7) (p + 1 + 1 + 1)) := HS4.out.go hlt ((Ex.refl _ _).alloc _) (hr4.alloc _); obtain ⟨b0, b1, b2, b3, b4, b5, b6, b7⟩ := HS4.out.st.zero; have s41 := HS4.out.sb1; have s42 := HS4.out.sb2; clear hz4 hr4 hx4 b0 b1 b2 b3 b4 b5 b6)))
    all_goals
      have HS5 : Hid (SI rb w (w8.setCell ⟨w2.heap.size, 7, none⟩ (.slice (some ⟨g8, 0, none⟩) (ss[k].next.length + 1) cap8)) ss k g c w2.heap.size xs nvs { ss[k] with next := ss[k].next ++ [(z4 : Int)] } (.slice (some ⟨g8, 0, none⟩) (ss[k].next.length + 1) cap8) (p + 1 + 1 + 1)) := HSB.out.push hlt hgrow8 HAP.out hown8 (by simpa using hat8) ⟨by simp [go_sem, c0], by simp [go_sem, c1], by simp [go_sem, c2], by simp [go_sem, c3], by simp [go_sem, c4], by simp [go_sem, c5], by simp [go_sem, c6], by simp [go_sem, c7']⟩
      clear hown8 hgrow8 hat8 c0 c1 c2 c3 c4 c5 c6 c7' c7f HSB HS4 a0 a1 a2 a3 a4 a5 a6 a7 p3 b7
      generalize w8.setCell ⟨w2.heap.size, 7, none⟩ (.slice (some ⟨g8, 0, none⟩) (ss[k].next.length + 1) cap8) = W9 at HS5 ⊢
      have sb1 := HS5.out.sb1
      have hgs : g ≠ w2.heap.size := HS5.out.farG
      have hgw : g ≠ w.heap.size := by omega
      have hgw1 : g ≠ w.heap.size + 1 := by omega
      obtain ⟨a0, a1, a2, a3, a4, a5, a6, a7⟩ := HS5.out.st.zero
      have fz := HS5.out.stF
      have rd : ∀ j, j < 8 → ∃ u, W9.cell? ⟨g, k * 8 + j, none⟩ = some u := fun j hj => by
        have hx : k * 8 + j < xs.length := by rw [HS5.out.po.row.1]; omega
        exact ⟨xs[k * 8 + j], by rw [HS5.out.po.row.cellAt _ (by omega)]; exact List.getElem?_eq_getElem hx⟩
      obtain ⟨u0, d0⟩ := rd 0 (by decide)
      obtain ⟨u1, d1⟩ := rd 1 (by decide)
      obtain ⟨u2, d2⟩ := rd 2 (by decide)
      obtain ⟨u3, d3⟩ := rd 3 (by decide)
      obtain ⟨u4, d4⟩ := rd 4 (by decide)
      obtain ⟨u5, d5⟩ := rd 5 (by decide)
      obtain ⟨u6, d6⟩ := rd 6 (by decide)
      obtain ⟨u7, d7⟩ := rd 7 (by decide)
      rw [Nat.add_zero] at d0
      have gf := HS5.out.po.row.frozenAt
      have p0 := HS5.out.box
      have pf := HS5.out.boxF
      have q0 := HS5.out.res
      have qf := HS5.out.resF
      clear rd
      have HF : Hid _ := HS5.out.fin (x := .slice (some ⟨g, 0, none⟩) ss.length c) hlt hk2
      go_wp2_with fail
      refine bodyPost_ret (v := .agg #[.slice (some ⟨g, 0, none⟩) ss.length c]) (by simp [results, Try.results65, go_sem, q0]) rfl ?_
      exact HQ.out _ _ (p + 1 + 1 + 1) _ HF.out.1 (by rw [List.length_set]; omega) (HALL.out _ (by simp; omega)) HF.out.2.1 (by omega) HF.out.2.2
  · obtain ⟨a0, a1, a2, a3, a4, a5, a6, a7⟩ := HSI.out.st.zero
    have p3 := HSI.out.box
    have f3 := HSI.out.stF 7
    have s31 := HSI.out.sb1
    have s32 := HSI.out.sb2
    have HRA : Hid (Rd (w3.alloc (.cells #[.int .i64 (-1), .int .i64 (ss.length : Int), .int .i64 0] 3)).drew rb (p + 1 + 1)) := ⟨(HSI.out.rd.alloc (.cells #[.int .i64 (-1), .int .i64 (ss.length : Int), .int .i64 0] 3)).ex, (HSI.out.rd.alloc (.cells #[.int .i64 (-1), .int .i64 (ss.length : Int), .int .i64 0] 3)).at1, (HSI.out.rd.alloc (.cells #[.int .i64 (-1), .int .i64 (ss.length : Int), .int .i64 0] 3)).fz⟩
    have HRB : Hid (Rd w3.drew rb (p + 1 + 1)) := ⟨HSI.out.rd.ex, HSI.out.rd.at1, HSI.out.rd.fz⟩
    go_wp2_with fail
    go_region_law (first
      | (go_simp; refine pick_any rb (p + 1 + 1) 3 _ HRA.out (by omega) (by omega) ?_; intro z4 w4 hz4 hr4 hx4; have h44 : (z4 : Int) < 3 := hz4 (by omega); have HSC : Hid (SI rb w w4 ss k g c w2.heap.size xs nvs ss[k] (.slice A7 ss[k].next.length c7) (p + 1 + 1 + 1)) := HSI.out.go hlt (Ex.trans (((Ex.refl rb w3).alloc _).drew) hx4) hr4; obtain ⟨y, hy⟩ := lit3_ex (n := (ss.length : Int)) (W := w3) hx4 (by omega) h44; obtain ⟨b0, b1, b2, b3, b4, b5, b6, b7⟩ := HSC.out.st.zero; have fb := HSC.out.stF 7; have pb := HSC.out.box; have s42 := HSC.out.sb2; clear hz4 hr4 hx4 b0 b1 b2 b3 b4 b5 b6)
      | (go_simp; refine pick_any rb (p + 1 + 1) 3 _ HRB.out (by omega) (by omega) ?_; intro z4 w4 hz4 hr4 hx4; have h44 : (z4 : Int) < 3 := hz4 (by omega); have HSD : Hid (SI rb w w4 ss k g c w2.heap.size xs nvs ss[k] (.slice A7 ss[k].next.length c7) (p + 1 + 1 + 1)) := HSI.out.go hlt ⟨hx4.os, hx4.tape, hx4.output, hx4.size, hx4.block⟩ hr4; have HSC : Hid (SI rb w (w4.alloc (.cells #[.int .i64 (-1), .int .i64 (ss.length : Int), .int .i64 0] 3)) ss k g c w2.heap.size xs nvs ss[k] (.slice A7 ss[k].next.length c7) (p + 1 + 1 + 1)) := HSD.out.go hlt ((Ex.refl _ _).alloc _) (hr4.alloc _); obtain ⟨y, hy⟩ := lit3_at (n := (ss.length : Int)) h44; obtain ⟨b0, b1, b2, b3, b4, b5, b6, b7⟩ := HSD.out.st.zero; have fb := HSD.out.stF 7; have pb := HSD.out.box; have s42 := HSD.out.sb2; clear hz4 hr4 hx4 b0 b1 b2 b3 b4 b5 b6))
    all_goals
      clear a0 a1 a2 a3 a4 a5 a6 a7 b7 fb f3 pb p3
      first
      | (have HSB : Hid (SI rb w ((w4.alloc (.cells #[.int .i64 (-1), .int .i64 (ss.length : Int), .int .i64 0] 3)).alloc (.cells #[.int .i64 y] 3)) ss k g c w2.heap.size xs nvs ss[k] (.slice A7 ss[k].next.length c7) (p + 1 + 1 + 1)) := HSC.out.go hlt ((Ex.refl _ _).alloc _) (HSC.out.rd.alloc _)
         have s43 := HSC.out.sb2
         obtain ⟨a0, a1, a2, a3, a4, a5, a6, a7⟩ := HSB.out.st.zero
         have HS5 : Hid (SI rb w (((w4.alloc (.cells #[.int .i64 (-1), .int .i64 (ss.length : Int), .int .i64 0] 3)).alloc (.cells #[.int .i64 y] 3)).setCell ⟨w2.heap.size, 7, none⟩ (.slice (some ⟨w4.heap.size + 1, 0, none⟩) 1 1)) ss k g c w2.heap.size xs nvs { ss[k] with next := [y] } (.slice (some ⟨w4.heap.size + 1, 0, none⟩) 1 1) (p + 1 + 1 + 1)) := HSB.out.setN hlt ⟨by simp [go_sem, a0], by simp [go_sem, a1], by simp [go_sem, a2], by simp [go_sem, a3], by simp [go_sem, a4], by simp [go_sem, a5], by simp [go_sem, a6], by simp [go_sem, a7]⟩ (by simpa using World.ownsRow_lit (base := w.heap.size + 2) (e := 3) (size := 1) (w4.alloc (.cells #[.int .i64 (-1), .int .i64 (ss.length : Int), .int .i64 0] 3)) #[.int .i64 y] 1 (by first | omega | (simp <;> omega)) (by decide) rfl) (by simp [Value.ownBlock]; omega)
         rw [World.setCell_alloc_past _ _ _ _ (by first | omega | (simp; omega)), World.setCell_alloc_past _ _ _ _ (by first | omega | (simp; omega))] at HS5
         generalize ((w4.setCell ⟨w2.heap.size, 7, none⟩ (.slice (some ⟨w4.heap.size + 1, 0, none⟩) 1 1)).alloc (.cells #[.int .i64 (-1), .int .i64 (ss.length : Int), .int .i64 0] 3)).alloc (.cells #[.int .i64 y] 3) = W9 at HS5 ⊢
         clear HSB a0 a1 a2 a3 a4 a5 a6 a7)
      | (have HSB : Hid (SI rb w (w4.alloc (.cells #[.int .i64 y] 3)) ss k g c w2.heap.size xs nvs ss[k] (.slice A7 ss[k].next.length c7) (p + 1 + 1 + 1)) := HSC.out.go hlt ((Ex.refl _ _).alloc _) (HSC.out.rd.alloc _)
         have s43 := HSC.out.sb2
         obtain ⟨a0, a1, a2, a3, a4, a5, a6, a7⟩ := HSB.out.st.zero
         have HS5 : Hid (SI rb w ((w4.alloc (.cells #[.int .i64 y] 3)).setCell ⟨w2.heap.size, 7, none⟩ (.slice (some ⟨w4.heap.size, 0, none⟩) 1 1)) ss k g c w2.heap.size xs nvs { ss[k] with next := [y] } (.slice (some ⟨w4.heap.size, 0, none⟩) 1 1) (p + 1 + 1 + 1)) := HSB.out.setN hlt ⟨by simp [go_sem, a0], by simp [go_sem, a1], by simp [go_sem, a2], by simp [go_sem, a3], by simp [go_sem, a4], by simp [go_sem, a5], by simp [go_sem, a6], by simp [go_sem, a7]⟩ (by simpa using World.ownsRow_lit (base := w.heap.size + 2) (e := 3) (size := 1) w4 #[.int .i64 y] 1 (by first | omega | (simp <;> omega)) (by decide) rfl) (by simp [Value.ownBlock]; omega)
         rw [World.setCell_alloc_past _ _ _ _ (by first | omega | (simp; omega))] at HS5
         generalize (w4.setCell ⟨w2.heap.size, 7, none⟩ (.slice (some ⟨w4.heap.size, 0, none⟩) 1 1)).alloc (.cells #[.int .i64 y] 3) = W9 at HS5 ⊢
         clear HSB a0 a1 a2 a3 a4 a5 a6 a7)
      have sb1 := HS5.out.sb1
      have hgs : g ≠ w2.heap.size := HS5.out.farG
      have hgw : g ≠ w.heap.size := by omega
      have hgw1 : g ≠ w.heap.size + 1 := by omega
      obtain ⟨a0, a1, a2, a3, a4, a5, a6, a7⟩ := HS5.out.st.zero
      have fz := HS5.out.stF
      have rd : ∀ j, j < 8 → ∃ u, W9.cell? ⟨g, k * 8 + j, none⟩ = some u := fun j hj => by
        have hx : k * 8 + j < xs.length := by rw [HS5.out.po.row.1]; omega
        exact ⟨xs[k * 8 + j], by rw [HS5.out.po.row.cellAt _ (by omega)]; exact List.getElem?_eq_getElem hx⟩
      obtain ⟨u0, d0⟩ := rd 0 (by decide)
      obtain ⟨u1, d1⟩ := rd 1 (by decide)
      obtain ⟨u2, d2⟩ := rd 2 (by decide)
      obtain ⟨u3, d3⟩ := rd 3 (by decide)
      obtain ⟨u4, d4⟩ := rd 4 (by decide)
      obtain ⟨u5, d5⟩ := rd 5 (by decide)
      obtain ⟨u6, d6⟩ := rd 6 (by decide)
      obtain ⟨u7, d7⟩ := rd 7 (by decide)
      rw [Nat.add_zero] at d0
      have gf := HS5.out.po.row.frozenAt
      have p0 := HS5.out.box
      have pf := HS5.out.boxF
      have q0 := HS5.out.res
      have qf := HS5.out.resF
      clear rd
      have HF : Hid _ := HS5.out.fin (x := .slice (some ⟨g, 0, none⟩) ss.length c) hlt hk2
      go_wp2_with fail
      refine bodyPost_ret (v := .agg #[.slice (some ⟨g, 0, none⟩) ss.length c]) (by simp [results, Try.results65, go_sem, q0]) rfl ?_
      exact HQ.out _ _ (p + 1 + 1 + 1) _ HF.out.1 (by rw [List.length_set]; omega) (HALL.out _ (by simp)) HF.out.2.1 (by omega) HF.out.2.2
  · have HLT : Hid (∀ t ∈ ss, t.next.length ≤ 61) := fun t ht => Nat.le_trans (HLS.out t ht) (by decide)
    go_wp2_with fail
    go_loopw [23] (fun _ wr => ∃ (ts : List St) (g' c' : Nat) (ys : List Value) (mvs : Nat → Value) (p' : Nat), k < ts.length ∧ ts.length ≤ 61 ∧ p' ≤ p + 2 + ts.length ∧ SI rb w wr ts k g' c' w2.heap.size ys mvs ss[k] (.slice A7 ss[k].next.length c7) p' ∧ ∀ t ∈ ts, t.next.length ≤ 61) (fun _ wr => 62 - lenAt wr ⟨w.heap.size, 0, none⟩)
    case atStart => exact ⟨ss, g, c, xs, nvs, p + 1 + 1, hk2, by omega, by omega, HSI.out, HLT.out⟩
    case round =>
      clear HSI HAP HALL
      obtain ⟨ts, g', c', ys, mvs, p', hkt, htl, hp', hS, hts⟩ := hrel
      have HS : Hid (SI rb w wr ts k g' c' w2.heap.size ys mvs ss[k] (.slice A7 ss[k].next.length c7) p') := hS
      have HTS : Hid (∀ t ∈ ts, t.next.length ≤ 61) := hts
      have bq := hS.box
      have HRD : Hid (Rd wr.drew rb p') := ⟨hS.rd.ex, hS.rd.at1, hS.rd.fz⟩
      have hm0 : lenAt wr ⟨w.heap.size, 0, none⟩ = ts.length := lenAt_eq bq
      clear hS hts
      go_wp2_with fail
      go_region_law (go_simp; refine pick_any rb p' 2 _ HRD.out (by omega) (by omega) ?_; intro z4 w4 hz4 hr4 hx4; have h44 : (z4 : Int) < 2 := hz4 (by omega); have HS4 : Hid (SI rb w w4 ts k g' c' w2.heap.size ys mvs ss[k] (.slice A7 ss[k].next.length c7) (p' + 1)) := HS.out.go hlt ⟨hx4.os, hx4.tape, hx4.output, hx4.size, hx4.block⟩ hr4; have bq4 := HS4.out.box; clear hz4 hr4 hx4)
      all_goals
        clear HS HRD bq
        have hwr : IntKind.i64.wrap (60 + (z4 : Int)) = 60 + (z4 : Int) := by simp [IntKind.wrap, IntKind.bits, IntKind.signed]; omega
        rw [hwr]
        by_cases hcl : (ts.length : Int) < 60 + (z4 : Int)
        · have bf4 := HS4.out.boxF
          have HSB : Hid (SI rb w (w4.alloc (.cells #[.int .i64 7, .int .i64 0, .int .i64 0, .int .i64 0, .int .i64 0, .int .i64 0, .int .i64 0, .slice none 0 0] 77)) ts k g' c' w2.heap.size ys mvs ss[k] (.slice A7 ss[k].next.length c7) (p' + 1)) := HS4.out.go hlt ((Ex.refl _ _).alloc _) (HS4.out.rd.alloc _)
          have hgl := HSB.out.po.row.lt g' rfl
          have HNR : Hid (some w.heap.size ≠ (Value.slice (some ⟨g', 0, none⟩) ts.length c').ownBlock) := fun e => by simp [Value.ownBlock] at e; omega
          have s41 := HS4.out.sb1
          have s42 := HS4.out.sb2
          go_wp2_with (at_builtin; refine wpList_append_lies _ rfl _ _ 28 rfl (w.heap.size + 2) 77 i1 (.agg #[.int .i64 0, .int .i64 0, .int .i64 0, .int .i64 0, .int .i64 0, .int .i64 0, .int .i64 0, .slice none 0 0]) 8 80 Try.underlying28 hj hy0 hy1 hy2 rfl (by decide) (.slice (some ⟨g', 0, none⟩) ts.length c') ts.length ys rfl HSB.out.po.row ⟨w4.heap.size, 0, none⟩ 1 1 (cells8D ⟨7, 0, 0, 0, 0, 0, 0, []⟩ (.slice none 0 0)) rfl rfl (cells8D_new w4 ⟨7, 0, 0, 0, 0, 0, 0, []⟩ _ _ rfl) (cells8D_one _ _ _ _) (by decide) (by unfold maxLen; omega) (by omega) (by simp; omega) (w4.heap.size + 1) (by simp) ?_; intro g8 cap8 w8 hown8 hgrow8 hat8 hlt8; have bq8 := hgrow8.cell HSB.out.box HNR.out; have bf8 := (hgrow8.frozen_far ⟨w.heap.size, 0, none⟩ (Nat.lt_of_lt_of_le (cell_lt HS4.out.box) (by simp)) HNR.out).trans HSB.out.boxF)
          have HSN : Hid _ := HSB.out.snoc hlt hkt hgrow8 hown8 (by simpa [Value.ownBlock] using hat8)
          have HMN : Hid _ := lenAt_eq HSN.out.box
          clear hown8 hgrow8 hat8 bq8 bf8 HSB HS4
          go_wp2
          go_roundw
          case rel => exact ⟨ts ++ [endS], _, _, _, _, p' + 1, by simp; omega, by simp; omega, by simp; omega, HSN.out, fun t ht => by
            rw [List.mem_append, List.mem_singleton] at ht
            rcases ht with ht | rfl
            · exact HTS.out t ht
            · simp [endS]⟩
          case measure =>
            have h1 := HMN.out
            simp only [List.length_append, List.length_cons, List.length_nil] at h1
            rw [h1, hm0]
            omega
        · have HSX : Hid (SI rb w w4 ts k g' c' w2.heap.size ys mvs ss[k] (.slice A7 ss[k].next.length c7) (p' + 1)) := HS4.out
          clear bq4 HS4
          have sb1 := HSX.out.sb1
          have hgs : g' ≠ w2.heap.size := HSX.out.farG
          have hgw : g' ≠ w.heap.size := by have := (HSX.out.po.row.lt g' rfl).1; omega
          have hgw1 : g' ≠ w.heap.size + 1 := by have := (HSX.out.po.row.lt g' rfl).1; omega
          obtain ⟨a0, a1, a2, a3, a4, a5, a6, a7⟩ := HSX.out.st.zero
          have fz := HSX.out.stF
          have rd : ∀ j, j < 8 → ∃ u, w4.cell? ⟨g', k * 8 + j, none⟩ = some u := fun j hj => by
            have hx : k * 8 + j < ys.length := by rw [HSX.out.po.row.1]; omega
            exact ⟨ys[k * 8 + j], by rw [HSX.out.po.row.cellAt _ (by omega)]; exact List.getElem?_eq_getElem hx⟩
          obtain ⟨u0, d0⟩ := rd 0 (by decide)
          obtain ⟨u1, d1⟩ := rd 1 (by decide)
          obtain ⟨u2, d2⟩ := rd 2 (by decide)
          obtain ⟨u3, d3⟩ := rd 3 (by decide)
          obtain ⟨u4, d4⟩ := rd 4 (by decide)
          obtain ⟨u5, d5⟩ := rd 5 (by decide)
          obtain ⟨u6, d6⟩ := rd 6 (by decide)
          obtain ⟨u7, d7⟩ := rd 7 (by decide)
          rw [Nat.add_zero] at d0
          have gf := HSX.out.po.row.frozenAt
          have p0 := HSX.out.box
          have pf := HSX.out.boxF
          have q0 := HSX.out.res
          have qf := HSX.out.resF
          clear rd
          have HAT : Hid (∀ s ∈ ts.set k ss[k], s.next.length ≤ 61) := by
            intro s hs
            rcases List.mem_or_eq_of_mem_set hs with hs | rfl
            · exact HTS.out s hs
            · exact Nat.le_trans HLK.out (by decide)
          have HF : Hid _ := HSX.out.fin (x := .slice (some ⟨g', 0, none⟩) ts.length c') hlt hkt
          have hkti : (k : Int) < (ts.length : Int) := by omega
          go_wp2_with fail
          refine bodyPost_ret (v := .agg #[.slice (some ⟨g', 0, none⟩) ts.length c']) (by simp [results, Try.results65, go_sem, q0]) rfl ?_
          exact HQ.out _ _ (p' + 1) _ HF.out.1 (by rw [List.length_set]; omega) HAT.out HF.out.2.1 (by omega) HF.out.2.2
end Go.Proofs.Ytfbmeciolflgnaa
