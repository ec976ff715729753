/- What the model's l71Any draws: a program of at most 61 steps, with at most 61 ways each. -/
import Derived.Test.YtljlgffkhocgkaaDoorDraw8L
import Derived.Test.YtljlgffkhocgkaaDoorDraw67
import Derived.Test.YtljlgffkhocgkaaDoorSpecTidyM
import Derived.Test.YtljlgffkhocgkaaDoorTidy26
namespace Go.Proofs.YtljlgffkhocgkaaDoor
open Go.RowKit

set_option maxHeartbeats 4000000 in
theorem l71Any_any {Q : Ending → World → Prop} (rb p : Nat) (w : World) (h : Rd w rb p) (hp : p + 900 ≤ 1000000)
    (hQ : ∀ (v : Value) (ss : List St) (p' : Nat) w', StepsNF w.heap.size w' v ss → ss.length ≤ 61 → (∀ s ∈ ss, s.next.length ≤ 61) → Rd w' rb p' → p' ≤ p + 900 → Ex rb w w' → Q (.returned (.agg #[v])) w') :
    Calls Tryd.prog 46 #[.pointer (some ⟨rb, 0, none⟩)] w Q := by
  have HQ : Hid _ := hQ
  clear hQ
  have hlt := h.lt
  go_enter Tryd.func46, Tryd.ntmps46
  go_wp2_with fail
  refine l71Prog_any rb p _ (h.alloc _) (by omega) fun v1 ss p1 w1 hok hl15 hS1 hr1 hp1 hx1 => ?_
  obtain ⟨A1, b1, o1, c1, rfl, hS1'⟩ := id hS1
  clear hS1'
  have sz1 := hx1.size
  simp at sz1
  have hne : w.heap.size ≠ rb := by omega
  have hne1 : w1.heap.size ≠ rb := by omega
  have qr1 : w1.cell? ⟨w.heap.size, 0, none⟩ = some (.slice none 0 0) := hx1.cell (by simp [go_sem]) hne
  have fr1 : w1.frozen? ⟨w.heap.size, 0, none⟩ = false := (hx1.frozen (p := ⟨w.heap.size, 0, none⟩) (by show w.heap.size < _; simp) hne).trans (by simp [go_sem])
  have HXA : Hid (Ex rb w w1) := ((Ex.refl rb w).alloc _).trans hx1
  have HOK : Hid (okB ss = true) := hok
  have e0 : (w.alloc (.cells #[.slice none 0 0] 34)).heap.size + 2 = w.heap.size + 3 := by simp
  rw [e0] at hS1
  have HS1 : Hid (StepsNF (w.heap.size + 3) w1 (.slice A1 ss.length c1) ss) := hS1
  clear hS1 hx1 hok
  go_wp2_with fail
  refine pick_any rb p1 3 _ (hr1.alloc _) (by omega) (by omega) fun z2 w2 hz2 hr2 hx2 => ?_
  have sz2 := hx2.size
  simp at sz2
  have qr2 := hx2.cell (cell_keep ((Below.refl _ _).alloc (Nat.le_refl _) _) qr1) hne
  have fr2 := ((hx2.frozen (p := ⟨w.heap.size, 0, none⟩) (by show w.heap.size < _; simp; omega) hne).trans (((Below.refl _ _).alloc (Nat.le_refl _) _).frozen (by show w.heap.size < w1.heap.size; omega))).trans fr1
  have pb2 : w2.cell? ⟨w1.heap.size, 0, none⟩ = some (.slice A1 ss.length c1) := hx2.cell (by simp [go_sem]) hne1
  have pf2 : w2.frozen? ⟨w1.heap.size, 0, none⟩ = false := (hx2.frozen (p := ⟨w1.heap.size, 0, none⟩) (by show w1.heap.size < _; simp) hne1).trans (by simp [go_sem])
  have HXB : Hid (Ex rb w w2) := (HXA.out.alloc _).trans hx2
  have HS2 : Hid (StepsNF (w.heap.size + 3) w2 (.slice A1 ss.length c1) ss) := HS1.out.ex (((Ex.refl _ _).alloc _).trans hx2) (by omega)
  clear hx2 HXA HS1 qr1 fr1 hr1 hz2
  by_cases hz : z2 = 0
  · subst hz
    go_wp2_with fail
    refine specTidy_any _ ss _ HS2.out.n.at (by omega) (fun s hs => Nat.le_trans (ok_many HOK.out s hs) (by decide)) fun v3 ts b3 xs3 nv3 w3 hb3 hT hP3 => ?_
    obtain ⟨A3, c3, rfl, _⟩ := hP3.slice
    have okT := tidyOr_small HOK.out hl15 hT
    have sz3 := hb3.size
    have qr3 := cell_keep hb3 qr2
    have fr3 := (hb3.frozen (p := ⟨w.heap.size, 0, none⟩) (by show w.heap.size < w2.heap.size; omega)).trans fr2
    have pb3 := cell_keep hb3 pb2
    have pf3 := (hb3.frozen (p := ⟨w1.heap.size, 0, none⟩) (by show w1.heap.size < w2.heap.size; omega)).trans pf2
    have HXC : Hid (Ex rb w w3) := HXB.out.trans (Ex.of_below hb3)
    have hr3 := hr2.keep hb3
    have HSC : Hid (StepsNF w2.heap.size w3 (.slice A3 ts.length c3) ts) := hP3.nf
    have HOT : Hid (okB ts = true) := okT
    clear hb3 hT hP3 okT qr2 fr2 pb2 pf2 HXB HS2 hr2
    go_wp2_with fail
    refine pick_any rb (p1 + 1) 8 _ (hr3.setCell (by show rb < w1.heap.size; omega) _) (by omega) (by omega) fun z4 w4 hz4 hr4 hx4 => ?_
    have sz4 := hx4.size
    simp at sz4
    have HX4 : Hid (Ex rb w w4) := (HXC.out.setCell (Or.inr (by show w.heap.size ≤ w1.heap.size; omega)) _).trans hx4
    have HS4 : Hid (StepsNF w2.heap.size w4 (.slice A3 ts.length c3) ts) := (HSC.out.put (by show w1.heap.size < w2.heap.size; omega) _).ex hx4 (by omega)
    have q4 : w4.cell? ⟨w.heap.size, 0, none⟩ = some (.slice none 0 0) := hx4.cell (by rw [cell_setOther _ _ _ _ (by show w.heap.size ≠ w1.heap.size; omega)]; exact qr3) hne
    have f4 : w4.frozen? ⟨w.heap.size, 0, none⟩ = false := (hx4.frozen (p := ⟨w.heap.size, 0, none⟩) (by show w.heap.size < _; simp; omega) hne).trans (by simpa [go_sem] using fr3)
    have b4 : w4.cell? ⟨w1.heap.size, 0, none⟩ = some (.slice A3 ts.length c3) := hx4.cell (by simp [go_sem, pb3]) hne1
    clear hx4 hz4
    obtain ⟨n1, n2⟩ := ok_len HOT.out
    by_cases hz4 : z4 = 0
    · subst hz4
      go_wp2_with fail
      refine l71Spoil_any rb (p1 + 1 + 1) _ ts _ hr4 (by omega) HS4.out.n n1 n2 (ok_many HOT.out) fun v5 us p5 w5 hS5 hul hus hr5 hp5 hx5 => ?_
      obtain ⟨A5, b5, o5, c5, rfl, hS5'⟩ := id hS5
      clear hS5'
      have q5 := hx5.cell q4 hne
      have f5 := (hx5.frozen (p := ⟨w.heap.size, 0, none⟩) (by show w.heap.size < w4.heap.size; omega) hne).trans f4
      have HF : Hid (StepsNF w.heap.size (w5.setCell ⟨w.heap.size, 0, none⟩ (.slice A5 us.length c5)) (.slice A5 us.length c5) us) := (hS5.put (by show w.heap.size < w4.heap.size + 2; omega) _).mono (by omega)
      have HX5 : Hid (Ex rb w (w5.setCell ⟨w.heap.size, 0, none⟩ (.slice A5 us.length c5))) := (HX4.out.trans hx5).setCell (Or.inr (Nat.le_refl _)) _
      have HR5 : Hid (Rd (w5.setCell ⟨w.heap.size, 0, none⟩ (.slice A5 us.length c5)) rb p5) := hr5.setCell hlt _
      have HUS : Hid (∀ s ∈ us, s.next.length ≤ 61) := hus
      clear hS5 hx5 hr5 hus HS4 b4 q4 f4
      go_wp2_with fail
      refine bodyPost_ret (v := .agg #[.slice A5 us.length c5]) (by simp [results, Tryd.results46, go_sem, q5]) rfl ?_
      exact HQ.out _ us p5 _ HF.out hul HUS.out HR5.out (by omega) HX5.out
    · have hzi : ((z4 : Int) == 0) = false := by simp [hz4]
      have HF : Hid (StepsNF w.heap.size (w4.setCell ⟨w.heap.size, 0, none⟩ (.slice A3 ts.length c3)) (.slice A3 ts.length c3) ts) := (HS4.out.put (by show w.heap.size < w2.heap.size; omega) _).mono (by omega)
      have HX5 : Hid (Ex rb w (w4.setCell ⟨w.heap.size, 0, none⟩ (.slice A3 ts.length c3))) := HX4.out.setCell (Or.inr (Nat.le_refl _)) _
      have HR5 : Hid (Rd (w4.setCell ⟨w.heap.size, 0, none⟩ (.slice A3 ts.length c3)) rb (p1 + 1 + 1)) := hr4.setCell hlt _
      clear HS4
      go_wp2_with fail
      refine bodyPost_ret (v := .agg #[.slice A3 ts.length c3]) (by simp [results, Tryd.results46, go_sem, q4]) rfl ?_
      exact HQ.out _ ts (p1 + 1 + 1) _ HF.out (by omega) (fun s hs => Nat.le_trans (ok_many HOT.out s hs) (by decide)) HR5.out (by omega) HX5.out
  · have hzi : ((z2 : Int) == 0) = false := by simp [hz]
    go_wp2_with fail
    refine pick_any rb (p1 + 1) 8 _ hr2 (by omega) (by omega) fun z4 w4 hz4 hr4 hx4 => ?_
    have sz4 := hx4.size
    have HX4 : Hid (Ex rb w w4) := HXB.out.trans hx4
    have HS4 : Hid (StepsNF (w.heap.size + 3) w4 (.slice A1 ss.length c1) ss) := HS2.out.ex hx4 (by omega)
    have q4 : w4.cell? ⟨w.heap.size, 0, none⟩ = some (.slice none 0 0) := hx4.cell qr2 hne
    have f4 : w4.frozen? ⟨w.heap.size, 0, none⟩ = false := (hx4.frozen (p := ⟨w.heap.size, 0, none⟩) (by show w.heap.size < _; omega) hne).trans fr2
    have b4 : w4.cell? ⟨w1.heap.size, 0, none⟩ = some (.slice A1 ss.length c1) := hx4.cell pb2 hne1
    clear hx4 hz4
    obtain ⟨n1, n2⟩ := ok_len HOK.out
    by_cases hz4 : z4 = 0
    · subst hz4
      go_wp2_with fail
      refine l71Spoil_any rb (p1 + 1 + 1) _ ss _ hr4 (by omega) HS4.out.n n1 n2 (ok_many HOK.out) fun v5 us p5 w5 hS5 hul hus hr5 hp5 hx5 => ?_
      obtain ⟨A5, b5, o5, c5, rfl, hS5'⟩ := id hS5
      clear hS5'
      have q5 := hx5.cell q4 hne
      have f5 := (hx5.frozen (p := ⟨w.heap.size, 0, none⟩) (by show w.heap.size < w4.heap.size; omega) hne).trans f4
      have HF : Hid (StepsNF w.heap.size (w5.setCell ⟨w.heap.size, 0, none⟩ (.slice A5 us.length c5)) (.slice A5 us.length c5) us) := (hS5.put (by show w.heap.size < w4.heap.size + 2; omega) _).mono (by omega)
      have HX5 : Hid (Ex rb w (w5.setCell ⟨w.heap.size, 0, none⟩ (.slice A5 us.length c5))) := (HX4.out.trans hx5).setCell (Or.inr (Nat.le_refl _)) _
      have HR5 : Hid (Rd (w5.setCell ⟨w.heap.size, 0, none⟩ (.slice A5 us.length c5)) rb p5) := hr5.setCell hlt _
      have HUS : Hid (∀ s ∈ us, s.next.length ≤ 61) := hus
      clear hS5 hx5 hr5 hus HS4 b4 q4 f4
      go_wp2_with fail
      refine bodyPost_ret (v := .agg #[.slice A5 us.length c5]) (by simp [results, Tryd.results46, go_sem, q5]) rfl ?_
      exact HQ.out _ us p5 _ HF.out hul HUS.out HR5.out (by omega) HX5.out
    · have hzi : ((z4 : Int) == 0) = false := by simp [hz4]
      have HF : Hid (StepsNF w.heap.size (w4.setCell ⟨w.heap.size, 0, none⟩ (.slice A1 ss.length c1)) (.slice A1 ss.length c1) ss) := (HS4.out.put (by show w.heap.size < (w.heap.size + 3); omega) _).mono (by omega)
      have HX5 : Hid (Ex rb w (w4.setCell ⟨w.heap.size, 0, none⟩ (.slice A1 ss.length c1))) := HX4.out.setCell (Or.inr (Nat.le_refl _)) _
      have HR5 : Hid (Rd (w4.setCell ⟨w.heap.size, 0, none⟩ (.slice A1 ss.length c1)) rb (p1 + 1 + 1)) := hr4.setCell hlt _
      clear HS4
      go_wp2_with fail
      refine bodyPost_ret (v := .agg #[.slice A1 ss.length c1]) (by simp [results, Tryd.results46, go_sem, q4]) rfl ?_
      exact HQ.out _ ss (p1 + 1 + 1) _ HF.out (by omega) (fun s hs => Nat.le_trans (ok_many HOK.out s hs) (by decide)) HR5.out (by omega) HX5.out
end Go.Proofs.YtljlgffkhocgkaaDoor
