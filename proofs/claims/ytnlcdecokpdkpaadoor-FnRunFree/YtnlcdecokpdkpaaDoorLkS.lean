/- Whether two programs say the same: the laws' lkSame. -/
import Derived.Test.YtnlcdecokpdkpaaDoorLkR
import Derived.Test.YtnlcdecokpdkpaaDoorLkG
namespace Go.Proofs.YtnlcdecokpdkpaaDoor
open Go.RowKit

set_option maxRecDepth 100000 in
set_option maxHeartbeats 4000000 in
theorem lkSame_any {Q : Ending → World → Prop} (pv qv iv : Value) (ss qs : List St) (inp : List Int) (most : Int) (a0 a1 a2 : Addr) (w : World) (hp : PW w pv iv ss inp a0 a1 a2) (hq : PW w qv iv qs inp a0 a1 a2) (hl : ss.length ≤ 61) (hls : ∀ s ∈ ss, s.next.length ≤ 61) (hm : qs.length ≤ 61) (hms : ∀ s ∈ qs, s.next.length ≤ 61) (hil : inp.length ≤ 20)
    (hs : (runOfR ss inp most).code = 9 ∨ ((runOfR ss inp most).code = 1 ∧ (runOfR ss inp most).outs <+: (runOfR qs inp 600).outs) ∨ ((runOfR ss inp most).code ≠ 9 ∧ (runOfR ss inp most).code ≠ 1 ∧ (runOfR qs inp 600).code = (runOfR ss inp most).code ∧ (runOfR qs inp 600).outs = (runOfR ss inp most).outs))
    (hQ : ∀ w', Below w.heap.size w w' → Q (.returned (.bool true)) w') :
    Calls Tryd.prog 32 #[.agg #[pv], .agg #[qv], iv, .int .i64 most] w Q := by
  have HQ : Hid _ := hQ
  have HP : Hid (PW w pv iv ss inp a0 a1 a2) := hp
  have HM : Hid (PW w qv iv qs inp a0 a1 a2) := hq
  have HLS : Hid _ := hls
  have HMS : Hid _ := hms
  have HS : Hid _ := hs
  clear hQ hp hq hls hms hs
  obtain ⟨hrp, hro⟩ := runOfR_len ss inp most
  obtain ⟨hxp, hxo⟩ := runOfR_len qs inp 600
  go_enter Tryd.func32, Tryd.ntmps32
  go_wp2_with fail
  have HB0 : Hid (∀ O O', Below w.heap.size w ((w.alloc O).alloc O')) := fun O O' => ((Below.refl _ _).alloc (Nat.le_refl _) O).alloc (by simp) O'
  refine implRun_w most _ (HP.out.keep (HB0.out _ _)) hl HLS.out hil fun v1 w1 hb1 hr1 => ?_
  obtain ⟨A5, c5, A6, c6, hv1⟩ := hr1.form
  subst hv1
  have HB1 : Hid (Below w.heap.size w w1) := (HB0.out _ _).trans (hb1.mono (by simp; omega))
  have HR1 : Hid _ := hr1
  have q1 : w1.cell? ⟨w.heap.size + 1, 0, none⟩ = some qv := cell_keep hb1 (by simp [go_sem])
  have HX1 : Hid (∀ O, Below w1.heap.size w1 (w1.alloc O)) := fun O => (Below.refl _ _).alloc (Nat.le_refl _) O
  have hk1 : w.heap.size + 1 < w1.heap.size := cell_lt q1
  clear hb1 hr1
  go_wp2_with fail
  refine implRun_w 600 _ (HM.out.keep (HB1.out.trans ((HX1.out _).mono HB1.out.size))) hm HMS.out hil fun v2 w2 hb2 hr2 => ?_
  obtain ⟨A7, c7, A8, c8, hv2⟩ := hr2.form
  subst hv2
  have HB2' : Hid (Below w1.heap.size w1 w2) := (HX1.out _).trans (hb2.mono (by simp))
  have HB2 : Hid (Below w.heap.size w w2) := HB1.out.trans (HB2'.out.mono HB1.out.size)
  have HR2 : Hid _ := hr2
  have HR1' : Hid _ := ResA.keep HR1.out HB2'.out
  have r0 : w2.cell? ⟨w1.heap.size, 0, none⟩ = some (.int .i64 ((runOfR ss inp most).code : Int)) := cell_keep hb2 (by simp [go_sem])
  have r1 : w2.cell? ⟨w1.heap.size, 1, none⟩ = some (.slice A5 (runOfR ss inp most).outs.length c5) := cell_keep hb2 (by simp [go_sem])
  have hk2 : w1.heap.size < w2.heap.size := cell_lt r0
  have hk2' : w1.heap.size ≠ w2.heap.size := by omega
  have HX2 : Hid (∀ O, Below w2.heap.size w2 (w2.alloc O)) := fun O => (Below.refl _ _).alloc (Nat.le_refl _) O
  have HX2' : Hid (∀ O, Below w.heap.size w (w2.alloc O)) := fun O => HB2.out.trans ((HX2.out O).mono HB2.out.size)
  obtain ⟨ov, pv', eV, L1, _⟩ := HR1'.out
  cases eV
  obtain ⟨ov', pv'', eV', L2, _⟩ := HR2.out
  cases eV'
  have HL1 : Hid (IntsL w2 (.slice A5 (runOfR ss inp most).outs.length c5) (runOfR ss inp most).outs) := L1
  have HL2 : Hid (IntsL w2 (.slice A7 (runOfR qs inp 600).outs.length c7) (runOfR qs inp 600).outs) := L2
  clear hb2 hr2 q1 HR1 L1 L2 HR1' HR2
  rcases HS.out with h9 | ⟨h1, hpre⟩ | ⟨h9, h1, hcd, hou⟩
  · rw [h9] at r0
    clear HS h9
    go_wp2
    exact HQ.out _ (HX2'.out _)
  · rw [h1] at r0
    have HPRE : Hid _ := hpre
    clear HS h1 hpre
    go_wp2_with fail
    refine lkBegins_any _ _ _ _ _ (HL2.out.keep (HX2.out _)) (HL1.out.keep (HX2.out _)) HPRE.out (by omega) fun w3 hb3 => ?_
    have HB3 : Hid (Below w.heap.size w w3) := (HX2'.out _).trans (hb3.mono (HX2'.out _).size)
    clear hb3
    go_wp2
    exact HQ.out _ HB3.out
  · have h9b : (((runOfR ss inp most).code : Int) == 9) = false := by simp; omega
    have h1b : (((runOfR ss inp most).code : Int) == 1) = false := by simp; omega
    rw [hcd, hou]
    rw [hou] at HL2 hxo
    clear HS h9 h1 hcd hou
    generalize runOfR ss inp most = R at *
    go_wp2_with fail
    refine lkInts_any _ _ R.outs _ (HL1.out.keep (HX2.out _)).at (HL2.out.keep (HX2.out _)).at (by omega) fun w3 hb3 => ?_
    have HB3 : Hid (Below w.heap.size w w3) := (HX2'.out _).trans (hb3.mono (HX2'.out _).size)
    clear hb3
    go_wp2
    exact HQ.out _ HB3.out
end Go.Proofs.YtnlcdecokpdkpaaDoor
