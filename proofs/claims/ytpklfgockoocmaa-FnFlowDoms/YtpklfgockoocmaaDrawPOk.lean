/- The model's DrawPathOk: some program, some row of numbers. -/
import Derived.Test.YtpklfgockoocmaaDrawCh
import Derived.Test.YtpklfgockoocmaaDraw8
import Derived.Test.YtpklfgockoocmaaCode
namespace Go.Proofs.Ytpklfgockoocmaa
open Go.RowKit

theorem infoIntDD : (Try.prog.info? 3).map (fun i => (i.zero, i.size, i.bytes)) = some (some (.int .i64 0), 1, 8) := by kernel_rfl

/-- What is kept while a path is bent: all that was there ahead of it, and its row. -/
structure PD (rb : Nat) (w2 W : World) (pv : Value) (zs : List Int) : Prop where
  ow : W.ownsRow w2.heap.size 3 1 pv zs.length (zs.map (Value.int .i64))
  ex : Ex rb w2 W

theorem PD.go {rb : Nat} {w2 W W' : World} {pv : Value} {zs : List Int} (h : PD rb w2 W pv zs) (hx : Ex rb W W') (hr : rb < w2.heap.size) : PD rb w2 W' pv zs := ⟨own_ex h.ow hx hr, h.ex.trans hx⟩

theorem IntsD.cut {lo : Nat} {w : World} {g c : Nat} {zs : List Int} (h : IntsD lo w (.slice (some ⟨g, 0, none⟩) zs.length c) zs) : IntsD lo w (.slice (some ⟨g, 0, none⟩) (zs.length - 1) c) zs.dropLast := by
  obtain ⟨ao, b, o, cap, e, h0, h1, hb, h2⟩ := h
  cases e
  refine ⟨_, b, o, _, by rw [List.length_dropLast], by rw [List.length_dropLast]; omega, fun hp => h1 (by rw [List.length_dropLast] at hp; omega), hb, fun i hi => ?_⟩
  rw [List.length_dropLast] at hi
  rw [h2 i (by omega), List.getD_eq_getElem?_getD, List.getD_eq_getElem?_getD, List.getElem?_dropLast, if_pos hi]

theorem IntsD.room {lo : Nat} {w : World} {g c : Nat} {zs : List Int} (h : IntsD lo w (.slice (some ⟨g, 0, none⟩) zs.length c) zs) : zs.length ≤ c := by
  obtain ⟨ao, b, o, cap, e, h0, h1, hb, h2⟩ := h
  cases e
  exact h0

set_option maxRecDepth 100000 in
set_option maxHeartbeats 8000000 in
theorem drawPathOk_any {Q : Ending → World → Prop} (v : Value) (w : World) (h : CodeAt w v)
    (hQ : ∀ (sv pv : Value) (ss : List St) (zs : List Int) w', StepsN w' sv ss → ss.length ≤ 61 → (∀ s ∈ ss, s.next.length ≤ 61) → IntsC w' pv zs → zs.length ≤ 201 → Below w.heap.size w w' → Q (.returned (.tuple #[.agg #[sv], pv])) w') :
    Calls Try.prog 5 #[v] w Q := by
  have HQ : Hid _ := hQ
  clear hQ
  obtain ⟨i0, hi', hi0, hi1, hi2⟩ := info_partsW infoIntDD
  go_enter Try.func5, Try.ntmps5
  go_wp2_with fail
  have hb0 : ∀ O, Below w.heap.size w (w.alloc O) := fun O => (Below.refl _ _).alloc (Nat.le_refl _) O
  refine openCode_any v _ (h.keep (hb0 _)) fun w1 hr1 hb1 => ?_
  have e0 : (w.alloc (.cells #[.slice none 0 0] 25)).heap.size = w.heap.size + 1 := by simp
  rw [e0] at hr1 hb1 ⊢
  have hlt := hr1.lt
  have HB1 : Hid (Below w.heap.size w w1) := (hb0 _).trans (hb1.mono (by omega))
  have HQC : Hid (w1.cell? ⟨w.heap.size, 0, none⟩ = some (.slice none 0 0)) := (hb1.cell (p := ⟨w.heap.size, 0, none⟩) (by show w.heap.size < w.heap.size + 1; omega)).trans (by simp [go_sem])
  have HQF : Hid (w1.frozen? ⟨w.heap.size, 0, none⟩ = false) := (hb1.frozen (p := ⟨w.heap.size, 0, none⟩) (by show w.heap.size < w.heap.size + 1; omega)).trans (by simp [go_sem])
  have HR1 : Hid (Rd w1 (w.heap.size + 1) 0) := hr1
  clear hb1 hb0 hr1 h e0
  go_wp2_with fail
  refine l71Any_any (w.heap.size + 1) 0 _ HR1.out (by omega) fun v2 ss p2 w2 hS hl hls hr2 hp2 hx2 => ?_
  obtain ⟨A2, b2, o2, c2, rfl, _⟩ := id hS
  have HLS : Hid (∀ s ∈ ss, s.next.length ≤ 61) := hls
  have HS2 : Hid (StepsNF w1.heap.size w2 (.slice A2 ss.length c2) ss) := hS
  have HR2 : Hid (Rd w2 (w.heap.size + 1) p2) := hr2
  have HX2 : Hid (Ex (w.heap.size + 1) w1 w2) := hx2
  have s2 := hx2.size
  clear hS hls hr2 hx2
  go_wp2_with fail
  have hxa : Ex (w.heap.size + 1) w2 (w2.alloc (.cells #[.slice A2 ss.length c2] 25)) := (Ex.refl _ _).alloc _
  have hn0 : w.heap.size ≠ w.heap.size + 1 := by omega
  have hn5 : w2.heap.size ≠ w.heap.size + 1 := by omega
  have hws : w.heap.size < w1.heap.size := cell_lt HQC.out
  have HBX : Hid ((w2.alloc (.cells #[.slice A2 ss.length c2] 25)).cell? ⟨w2.heap.size, 0, none⟩ = some (.slice A2 ss.length c2)) := by simp [Hid, go_sem]
  have HX1 : Hid (Ex (w.heap.size + 1) w1 (w2.alloc (.cells #[.slice A2 ss.length c2] 25))) := HX2.out.trans hxa
  have HSA : Hid (StepsNF w1.heap.size (w2.alloc (.cells #[.slice A2 ss.length c2] 25)) (.slice A2 ss.length c2) ss) := HS2.out.ex hxa hlt
  have HRA : Hid (Rd (w2.alloc (.cells #[.slice A2 ss.length c2] 25)) (w.heap.size + 1) p2) := HR2.out.alloc _
  have hsa : (w2.alloc (.cells #[.slice A2 ss.length c2] 25)).heap.size = w2.heap.size + 1 := by simp
  generalize w2.alloc (.cells #[.slice A2 ss.length c2] 25) = w2a at *
  have hra : w.heap.size + 1 < w2a.heap.size := by omega
  refine l71Path_any (w.heap.size + 1) p2 w1.heap.size _ ss _ HRA.out (by omega) HSA.out hlt hl HLS.out fun pv zs p3 w3 hown3 hz0 hz1 hr3 hp3 hx3 => ?_
  obtain ⟨g3, c3, hv3, _, _⟩ := hown3.form hz0
  subst hv3
  have hg3 : w2a.heap.size ≤ g3 := (hown3.lt g3 rfl).1
  have HP3 : Hid (PD (w.heap.size + 1) w2a w3 (.slice (some ⟨g3, 0, none⟩) zs.length c3) zs) := ⟨hown3, hx3⟩
  have HR3 : Hid (Rd w3 (w.heap.size + 1) p3) := hr3
  have HCL : Hid (∀ W, Ex (w.heap.size + 1) w2a W → W.cell? ⟨w2.heap.size, 0, none⟩ = some (.slice A2 ss.length c2) ∧ W.cell? ⟨w.heap.size, 0, none⟩ = some (.slice none 0 0) ∧ W.frozen? ⟨w.heap.size, 0, none⟩ = false) := fun W hW =>
    ⟨hW.cell HBX.out hn5, (HX1.out.trans hW).cell HQC.out hn0, ((HX1.out.trans hW).frozen (p := ⟨w.heap.size, 0, none⟩) (cell_lt HQC.out) hn0).trans HQF.out⟩
  have FIN : Hid (∀ (W : World) (pv : Value) (zs : List Int), Ex (w.heap.size + 1) w2a W → IntsD w2a.heap.size W pv zs → zs.length ≤ 201 → Q (.returned (.tuple #[.agg #[.slice A2 ss.length c2], pv])) (W.setCell ⟨w.heap.size, 0, none⟩ (.slice A2 ss.length c2))) := fun W pv zs h2 h3 h4 =>
    HQ.out _ _ ss zs _ ((HSA.out.ex h2 hlt).put (by show w.heap.size < w1.heap.size; omega) _).n hl HLS.out (h3.put (by show w.heap.size < w2a.heap.size; omega) _).c h4 ((HB1.out.trans (((HX1.out.trans h2).below (by omega)).mono (by omega))).setCell (Nat.le_refl _) _)
  clear hown3 hr3 hx3 hxa HX2 HS2 HR2 HRA hsa HQ HB1 HQC HQF HR1 HBX
  go_wp2_with fail
  refine pick_any (w.heap.size + 1) p3 8 _ HR3.out (by omega) (by omega) fun z4 w4 hz4 hr4 hx4 => ?_
  have HP4 : Hid (PD (w.heap.size + 1) w2a w4 (.slice (some ⟨g3, 0, none⟩) zs.length c3) zs) := HP3.out.go hx4 hra
  have HR4 : Hid (Rd w4 (w.heap.size + 1) (p3 + 1)) := hr4
  obtain ⟨bx4, qc4, qf4⟩ := HCL.out w4 HP4.out.ex
  clear hz4 hr4 hx4 HP3 HR3
  have hcase : z4 = 0 ∨ z4 = 1 ∨ z4 = 2 ∨ z4 = 3 ∨ 3 < z4 := by omega
  rcases hcase with rfl | rfl | rfl | rfl | h4
  · go_wp2
    refine bodyPost_ret (v := .tuple #[.agg #[.slice A2 ss.length c2], .slice none 0 0]) (by simp [results, Try.results5, go_sem, qc4]) rfl ?_
    exact FIN.out _ _ [] HP4.out.ex ⟨none, w2a.heap.size, 0, 0, rfl, by simp, fun h => by simp at h, Nat.le_refl _, fun i hi => by simp at hi⟩ (by simp)
  · go_wp2_with fail
    refine pick_any (w.heap.size + 1) (p3 + 1) (zs.length : Int) _ HR4.out (by omega) (by omega) fun z5 w5 hz5 hr5 hx5 => ?_
    have h5 : z5 < zs.length := by have := hz5 (by omega); omega
    have HP5 : Hid (PD (w.heap.size + 1) w2a w5 (.slice (some ⟨g3, 0, none⟩) zs.length c3) zs) := HP4.out.go hx5 hra
    have HR5 : Hid (Rd w5 (w.heap.size + 1) (p3 + 1 + 1)) := hr5
    clear hz5 hr5 hx5 HP4 HR4 bx4 qc4 qf4
    go_wp2_with fail
    refine pick_any (w.heap.size + 1) (p3 + 1 + 1) 20 _ HR5.out (by omega) (by omega) fun z6 w6 hz6 hr6 hx6 => ?_
    have h6 : z6 < 20 := by have := hz6 (by omega); omega
    have HP6 : Hid (PD (w.heap.size + 1) w2a w6 (.slice (some ⟨g3, 0, none⟩) zs.length c3) zs) := HP5.out.go hx6 hra
    obtain ⟨bx6, qc6, qf6⟩ := HCL.out w6 HP6.out.ex
    clear hz6 hr6 hx6 HP5 HR5
    have ck := World.ownsRow.cellAt HP6.out.ow z5 (by omega)
    rw [List.getElem?_map, List.getElem?_eq_getElem h5] at ck
    simp only [Option.map_some] at ck
    have fk := World.ownsRow.frozenAt HP6.out.ow z5
    have hst := (World.ownsRow.stored HP6.out.ow z5 (.int .i64 ((z6 : Int) - 1))).1
    rw [← List.map_set] at hst
    have hwr : IntKind.i64.wrap ((z6 : Int) - 1) = (z6 : Int) - 1 := by simp [IntKind.wrap, IntKind.bits, IntKind.signed]; omega
    have h5i : (z5 : Int) < (zs.length : Int) := by omega
    have ng0 : ¬ g3 = w.heap.size := by omega
    have ng1 : ¬ w.heap.size = g3 := by omega
    have l5 := cell_lt bx6
    have l6 := (World.ownsRow.lt HP6.out.ow g3 rfl).1
    have HG : Hid (w2.heap.size < g3) := by
      rcases Nat.lt_trichotomy w2.heap.size g3 with h1 | h1 | h1
      · exact h1
      · exfalso
        have h2 := World.ownsRow.cellAt HP6.out.ow 0 (by omega)
        rw [← h1, bx6, List.getElem?_map, List.getElem?_eq_getElem hz0] at h2
        cases h2
      · exfalso
        have := cell_lt (HCL.out w2a (Ex.refl _ _)).1
        simp only at this
        omega
    have ng2 : ¬ w2.heap.size = g3 := by have := HG.out; omega
    have ng3 : ¬ g3 = w2.heap.size := by have := HG.out; omega
    have HX7 : Hid (Ex (w.heap.size + 1) w2a (w6.setCell ⟨g3, z5, none⟩ (.int .i64 ((z6 : Int) - 1)))) := HP6.out.ex.setCell (Or.inr hg3) _
    have HST : Hid ((w6.setCell ⟨g3, z5, none⟩ (.int .i64 ((z6 : Int) - 1))).ownsRow w2a.heap.size 3 1 (.slice (some ⟨g3, 0, none⟩) zs.length c3) (zs.set z5 ((z6 : Int) - 1)).length ((zs.set z5 ((z6 : Int) - 1)).map (Value.int .i64))) := by rw [Hid, List.length_set]; exact hst
    have HLN : Hid ((zs.set z5 ((z6 : Int) - 1)).length ≤ 201) := by rw [Hid, List.length_set]; omega
    clear hst
    go_wp2
    refine bodyPost_ret (v := .tuple #[.agg #[.slice A2 ss.length c2], .slice (some ⟨g3, 0, none⟩) zs.length c3]) (by simp [results, Try.results5, go_sem, qc6]) rfl ?_
    exact FIN.out _ _ _ HX7.out (IntsD.of HST.out) HLN.out
  · have hwr : IntKind.i64.wrap ((zs.length : Int) - 1) = (zs.length : Int) - 1 := by simp [IntKind.wrap, IntKind.bits, IntKind.signed]; omega
    have hID := IntsD.of HP4.out.ow
    have hrm := hID.room
    have h1 : (0 : Int) ≤ (zs.length : Int) - 1 := by omega
    have h2 : (zs.length : Int) - 1 ≤ (c3 : Int) := by omega
    have htn : ((zs.length : Int) - 1).toNat = zs.length - 1 := by omega
    have HCT : Hid _ := hID.cut
    have HLN : Hid (zs.dropLast.length ≤ 201) := by rw [Hid, List.length_dropLast]; omega
    have HX4 : Hid _ := HP4.out.ex
    clear hID
    go_wp2
    refine bodyPost_ret (v := .tuple #[.agg #[.slice A2 ss.length c2], .slice (some ⟨g3, 0, none⟩) (zs.length - 1) c3]) (by simp [results, Try.results5, go_sem, qc4]) rfl ?_
    exact FIN.out _ _ _ HX4.out HCT.out HLN.out
  · go_wp2_with fail
    refine pick_any (w.heap.size + 1) (p3 + 1) 3 _ HR4.out (by omega) (by omega) fun z5 w5 hz5 hr5 hx5 => ?_
    have HP5 : Hid (PD (w.heap.size + 1) w2a w5 (.slice (some ⟨g3, 0, none⟩) zs.length c3) zs) := HP4.out.go hx5 hra
    have hs5 := HP5.out.ex.size
    clear hz5 hr5 hx5 HP4 HR4 bx4 qc4 qf4
    go_wp2_with (at_builtin; refine wpList_append_lies _ rfl _ _ 26 rfl w2a.heap.size 3 i0 (.int .i64 0) 1 8 Try.underlying26 hi' hi0 hi1 hi2 rfl (by decide) (.slice (some ⟨g3, 0, none⟩) zs.length c3) zs.length (zs.map (Value.int .i64)) rfl (HP5.out.ow.alloc _) ⟨w5.heap.size, 0, none⟩ 1 1 [.int .i64 (z5 : Int)] rfl rfl (cell_one_new w5 _ _) (int_oneCell _ _) (by decide) (by unfold maxLen; omega) (by omega) (by simp; omega) (w5.heap.size + 1) (by simp) ?_)
    intro g8 c8 w8 hown8 hgrow8 hat8 hlt8
    have HX8 : Hid (Ex (w.heap.size + 1) w2a w8) := (HP5.out.ex.alloc _).grownD hgrow8 (fun k hk => (HP5.out.ow.lt k hk).1)
    have HO8 : Hid (w8.ownsRow w2a.heap.size 3 1 (.slice (some ⟨g8, 0, none⟩) (zs.length + 1) c8) (zs ++ [(z5 : Int)]).length ((zs ++ [(z5 : Int)]).map (Value.int .i64))) := by
      rw [Hid]
      simpa using hown8
    obtain ⟨bx8, qc8, qf8⟩ := HCL.out w8 HX8.out
    have HID : Hid (IntsD w2a.heap.size w8 (.slice (some ⟨g8, 0, none⟩) (zs.length + 1) c8) (zs ++ [(z5 : Int)])) := IntsD.of HO8.out
    have HLN : Hid ((zs ++ [(z5 : Int)]).length ≤ 201) := by simp [Hid]; omega
    clear hown8 hgrow8 hat8 hlt8 HP5 HO8
    go_wp2
    refine bodyPost_ret (v := .tuple #[.agg #[.slice A2 ss.length c2], .slice (some ⟨g8, 0, none⟩) (zs.length + 1) c8]) (by simp [results, Try.results5, go_sem, qc8]) rfl ?_
    exact FIN.out _ _ _ HX8.out HID.out HLN.out
  · have hz4a : ¬ (z4 : Int) = 0 := by omega
    have hz4b : ¬ (z4 : Int) = 1 := by omega
    have hz4c : ¬ (z4 : Int) = 2 := by omega
    have hz4d : ¬ (z4 : Int) = 3 := by omega
    have HX4 : Hid _ := HP4.out.ex
    have HID : Hid _ := IntsD.of HP4.out.ow
    go_wp2
    refine bodyPost_ret (v := .tuple #[.agg #[.slice A2 ss.length c2], .slice (some ⟨g3, 0, none⟩) zs.length c3]) (by simp [results, Try.results5, go_sem, qc4]) rfl ?_
    exact FIN.out _ _ zs HX4.out HID.out (by omega)
end Go.Proofs.Ytpklfgockoocmaa
