/- What the program's folded answers, of any step that is ok. -/
import Derived.Test.YtancacjnbbdbfaaImplFo
namespace Go.Proofs.Ytancacjnbbdbfaa
open Go.RowKit

set_option maxRecDepth 100000 in
set_option maxHeartbeats 2000000 in
theorem folded_d {Q : Ending → World → Prop} (s : St) (nv : Value) (n : Int) (w : World) (hs : stepB s n = true) (hi : IntsAt w nv s.next) (hk : s.kind = 5) (ha : s.av = -1)
    (hQ : ∀ nv' w', Below w.heap.size w w' → FoldRes w w' nv nv' s → Q (.returned (stepV (foldS s) nv')) w') :
    Calls Try.prog 33 #[stepV s nv] w Q := by
  have hb0 : ∀ O O', Below w.heap.size w ((w.alloc O).alloc O') := fun O O' => ((Below.refl _ _).alloc (Nat.le_refl _) O).alloc (by simp) O'
  have HB0 : Hid _ := hb0
  have HSB : Hid (stepB s n = true) := hs
  clear hb0
  have hf : foldS s = skipSt (if s.an = 0 then s.next.getD 1 0 else s.next.getD 0 0) := by unfold foldS; rw [if_neg (by rintro ⟨h, _⟩; omega), if_pos ⟨hk, ha⟩]
  rw [hf] at hQ
  have HL : Hid (s.next.length = 2) := (test_opnd hs hk).2
  have HI : Hid (IntsAt w nv s.next) := hi
  have E1 : Hid (inB (-1) 0 11 = false) := (by decide : inB (-1) 0 11 = false)
  have BZ : Hid (∀ A B C, Below w.heap.size w (((w.alloc A).alloc B).alloc C)) := fun A B C => (((Below.refl _ _).alloc (Nat.le_refl _) _).alloc (by simp) _).alloc (by first | (simp; done) | (simp; omega)) _
  obtain ⟨z, hz⟩ : ∃ z, (if s.an = 0 then s.next.getD 1 0 else s.next.getD 0 0) = z := ⟨_, rfl⟩
  have HIF : Hid ((if s.an = 0 then s.next.getD 1 0 else s.next.getD 0 0) = z) := hz
  have HF : Hid (foldS s = skipSt z) := by rw [Hid, hf, hz]
  rw [hz] at hQ
  have HQ : Hid _ := hQ
  obtain ⟨ao, b, o, cap, rfl, hao, hc⟩ := id hi
  clear hQ hi hf hs hao hc hz
  unfold stepV skipSt at HQ
  unfold stepV
  rw [hk, ha]
  clear hk ha
  go_enter Try.func33, Try.ntmps33
  go_wp2_with (go_at_call 62; refine isVar_any _ _ ?_; rw [E1.out])
  refine behind0_any _ s _ _ (HI.out.keep (BZ.out _ _ _)) HL.out ?_
  rw [HIF.out]
  intro w1 hb1
  have HB1 : Hid (Below w.heap.size w w1) := (BZ.out _ _ _).trans (hb1.mono (by simp; omega))
  have hsz1 : w.heap.size + 1 + 1 + 1 ≤ w1.heap.size := by
    have h9 := hb1.size
    simpa using h9
  have e0 : w1.cell? ⟨w.heap.size + 1, 0, none⟩ = some (.int .i64 0) := cell_keep hb1 (by simp [go_sem])
  have e1 : w1.cell? ⟨w.heap.size + 1, 1, none⟩ = some (.int .i64 0) := cell_keep hb1 (by simp [go_sem])
  have e2 : w1.cell? ⟨w.heap.size + 1, 2, none⟩ = some (.int .i64 0) := cell_keep hb1 (by simp [go_sem])
  have e3 : w1.cell? ⟨w.heap.size + 1, 3, none⟩ = some (.int .i64 0) := cell_keep hb1 (by simp [go_sem])
  have e4 : w1.cell? ⟨w.heap.size + 1, 4, none⟩ = some (.int .i64 0) := cell_keep hb1 (by simp [go_sem])
  have e5 : w1.cell? ⟨w.heap.size + 1, 5, none⟩ = some (.int .i64 0) := cell_keep hb1 (by simp [go_sem])
  have e6 : w1.cell? ⟨w.heap.size + 1, 6, none⟩ = some (.int .i64 0) := cell_keep hb1 (by simp [go_sem])
  have e7 : w1.cell? ⟨w.heap.size + 1, 7, none⟩ = some (.slice none 0 0) := cell_keep hb1 (by simp [go_sem])
  have fz1 : ∀ j, w1.frozen? ⟨w.heap.size + 1, j, none⟩ = false := fun j => (hb1.frozen (by simp)).trans (by simp [go_sem])
  clear hb1
  go_wp2_with fail
  refine skipStepN_any _ _ ?_
  intro g w2 hg hown hb2
  have i0 := cell_keep hb2 e0
  have i1 := cell_keep hb2 e1
  have i2 := cell_keep hb2 e2
  have i3 := cell_keep hb2 e3
  have i4 := cell_keep hb2 e4
  have i5 := cell_keep hb2 e5
  have i6 := cell_keep hb2 e6
  have i7 := cell_keep hb2 e7
  have fz2 : ∀ j, w2.frozen? ⟨w.heap.size + 1, j, none⟩ = false := fun j => (hb2.frozen (p := ⟨w.heap.size + 1, j, none⟩) (by show w.heap.size + 1 < w1.heap.size; omega)).trans (fz1 j)
  have HB2 : Hid (Below w.heap.size w w2) := HB1.out.trans (hb2.mono (by omega))
  have HO : Hid (w2.ownsRow w1.heap.size 3 1 (.slice (some ⟨g, 0, none⟩) 1 1) 1 [.int .i64 z]) := hown
  clear hb2 hown
  go_wp2
  refine bodyPost_ret (v := .agg #[.int .i64 6, .int .i64 0, .int .i64 0, .int .i64 0, .int .i64 0, .int .i64 0, .int .i64 0, .slice (some ⟨g, 0, none⟩) 1 1]) (by simp [results, Try.results33, go_sem, i0, i1, i2, i3, i4, i5, i6, i7]) rfl ?_
  refine HQ.out (.slice (some ⟨g, 0, none⟩) 1 1) _ (below_res HB2.out _ _ _ _ _ _ _ _) (Or.inr ⟨g, by omega, rfl, by rw [HF.out]; rfl, ?_⟩)
  rw [HF.out]
  exact own_lower (own_res HO.out (by omega) _ _ _ _ _ _ _ _) (by omega)

theorem folded_any {Q : Ending → World → Prop} (s : St) (nv : Value) (n : Int) (w : World) (hs : stepB s n = true) (hi : IntsAt w nv s.next)
    (hQ : ∀ nv' w', Below w.heap.size w w' → FoldRes w w' nv nv' s → Q (.returned (stepV (foldS s) nv')) w') :
    Calls Try.prog 33 #[stepV s nv] w Q := by
  by_cases h1 : s.kind = 1
  · by_cases ha : s.av = -1
    · by_cases hb : s.bv = -1
      · exact folded_a s nv n w hs hi h1 ha hb hQ
      · exact folded_c s nv n w hs hi h1 ha hb hQ
    · exact folded_b s nv n w hs hi h1 ha hQ
  · by_cases h5 : s.kind = 5
    · by_cases ha : s.av = -1
      · exact folded_d s nv n w hs hi h5 ha hQ
      · exact folded_e s nv n w hs hi h5 ha hQ
    · exact folded_f s nv n w hs hi h1 h5 hQ
end Go.Proofs.Ytancacjnbbdbfaa
