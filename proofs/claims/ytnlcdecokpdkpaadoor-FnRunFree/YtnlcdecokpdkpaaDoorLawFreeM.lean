/-
  FnRunFree: a variable that nobody has to do with does not matter.
-/
import Derived.Test.YtnlcdecokpdkpaaDoorRows
import Derived.Test.YtnlcdecokpdkpaaDoorCards
import Derived.Test.YtnlcdecokpdkpaaDoorTie
import Derived.Test.YtnlcdecokpdkpaaDoorSents
import Derived.Test.YtnlcdecokpdkpaaDoorLkR
import Derived.Test.YtnlcdecokpdkpaaDoorLkG
import Derived.Test.YtnlcdecokpdkpaaDoorRunA
import Derived.Test.YtnlcdecokpdkpaaDoorLkH
import Derived.Test.YtnlcdecokpdkpaaDoorLkA
import Derived.OpenShut
import Derived.ShutString
import Derived.ChangeOld
import Derived.Below
import Derived.OpenVars
import Derived.Lay
import Derived.SevenTiedAt
import Derived.Stop.Joined
namespace Go.Proofs.YtnlcdecokpdkpaaDoor
open Go.RowKit

theorem ren_ok {s : St} {n : Nat} (h : stepB s n = true) : stepB (ren n s) ((n : Int) + 1) = true := by
  simp only [stepB, Bool.and_eq_true, decide_eq_true_eq, List.all_eq_true] at h ⊢
  refine ⟨⟨by simpa [ren] using h.1.1, fun x hx => ?_⟩, h.2⟩
  simp only [ren, List.mem_map] at hx
  obtain ⟨y, hy, rfl⟩ := hx
  have h9 := h.1.2 y hy
  simp only [inB, Bool.and_eq_true, decide_eq_true_eq] at h9 ⊢
  split <;> omega

theorem copy_ok (n : Nat) : stepB (copySt n) ((n : Int) + 1) = true := by
  simp [stepB, copySt, many, restB, inB, opndB, noneB]

theorem ahead_ok {ss : List St} (hok : okB ss = true) (hl : ss.length < 60) : okB (aheadL ss) = true := by
  have hok' := hok
  simp only [okB, Bool.and_eq_true, decide_eq_true_eq, List.all_eq_true] at hok
  obtain ⟨⟨h1, _⟩, h3⟩ := hok
  have el := ahead_len (ss := ss) (by omega)
  simp only [okB, Bool.and_eq_true, decide_eq_true_eq, List.all_eq_true]
  refine ⟨⟨by omega, by omega⟩, fun s hs => ?_⟩
  rw [el, Int.natCast_add, Int.natCast_one]
  simp only [aheadL, List.mem_append, List.mem_cons, List.mem_map, List.not_mem_nil, or_false] at hs
  rcases hs with (rfl | ⟨t, ht, rfl⟩) | rfl
  · exact copy_ok _
  · exact ren_ok (h3 t (List.mem_of_mem_tail ht))
  · exact ren_ok (ok_at hok' (by omega))

theorem run_same {ss : List St} (hl : ss.length < 60) (hf : ∀ s ∈ ss, hasB s 11 = false) (inp : List Int) :
    (runOfR ss inp 300).code = 9 ∨ ((runOfR ss inp 300).code = 1 ∧ (runOfR ss inp 300).outs <+: (runOfR (aheadL ss) inp 600).outs) ∨ ((runOfR ss inp 300).code ≠ 9 ∧ (runOfR ss inp 300).code ≠ 1 ∧ (runOfR (aheadL ss) inp 600).code = (runOfR ss inp 300).code ∧ (runOfR (aheadL ss) inp 600).outs = (runOfR ss inp 300).outs) := by
  by_cases hc : canB ss inp 300 = true
  · have eA : runOfR ss inp 300 = runR ss 300 0 vars0 inp [] [] := by simp [runOfR, hc]
    have hok : okB ss = true := by simp only [canB, Bool.and_eq_true] at hc; exact hc.1.1
    have hn1 : 0 < ss.length := by simp only [okB, Bool.and_eq_true, decide_eq_true_eq] at hok; omega
    have hcB : canB (aheadL ss) inp 600 = true := by
      simp only [canB, Bool.and_eq_true] at hc ⊢
      exact ⟨⟨ahead_ok hok hl, by decide⟩, hc.2⟩
    have eB : runOfR (aheadL ss) inp 600 = runR (aheadL ss) (299 + 300 + 1) 0 vars0 inp [] [] := by simp [runOfR, hcB]
    have e0 : (aheadL ss).getD 0 st0 = copySt ss.length := rfl
    have hs0 : stopR ((aheadL ss).getD 0 st0) inp = none := by rw [e0]; rfl
    rw [runR_go hs0, e0, show nextR (copySt ss.length) vars0 = ply ss.length 0 from by simp [nextR, copySt, ply], show varsR (copySt ss.length) vars0 inp = vars0.set 11 5 from rfl, show inR (copySt ss.length) inp = inp from rfl, show outsR (copySt ss.length) vars0 [] = [] from rfl, Nat.add_comm 299 300] at eB
    obtain ⟨f1, f2⟩ := runR_free hok hf 300 0 vars0 inp [] [] ([] ++ [((0 : Nat) : Int)]) hn1
    rw [eA, eB]
    by_cases h9 : (runR ss 300 0 vars0 inp [] []).code = 9
    · exact Or.inl h9
    · by_cases h1 : (runR ss 300 0 vars0 inp [] []).code = 1
      · refine Or.inr (Or.inl ⟨h1, ?_⟩)
        rw [← f2]
        exact (runR_long (aheadL ss) 299 300 _ _ _ _ _ (f1.trans h1)).1
      · refine Or.inr (Or.inr ⟨h9, h1, ?_⟩)
        rw [runR_more (aheadL ss) 299 300 _ _ _ _ _ (by rw [f1]; exact h1)]
        exact ⟨f1, f2⟩
  · have e : runOfR ss inp 300 = ⟨9, [], []⟩ := by simp [runOfR, hc]
    rw [e]
    exact Or.inl rfl

set_option maxRecDepth 100000 in
set_option maxHeartbeats 4000000 in
theorem lkSame_any {Q : Ending → World → Prop} (pv qv iv : Value) (ss qs : List St) (inp : List Int) (most : Int) (a0 a1 a2 : Addr) (w : World) (hp : PW w pv iv ss inp a0 a1 a2) (hq : PW w qv iv qs inp a0 a1 a2) (hl : ss.length ≤ 61) (hls : ∀ s ∈ ss, s.next.length ≤ 61) (hm : qs.length ≤ 61) (hms : ∀ s ∈ qs, s.next.length ≤ 61) (hil : inp.length ≤ 20)
    (hs : (runOfR ss inp most).code = 9 ∨ ((runOfR ss inp most).code = 1 ∧ (runOfR ss inp most).outs <+: (runOfR qs inp 600).outs) ∨ ((runOfR ss inp most).code ≠ 9 ∧ (runOfR ss inp most).code ≠ 1 ∧ (runOfR qs inp 600).code = (runOfR ss inp most).code ∧ (runOfR qs inp 600).outs = (runOfR ss inp most).outs))
    (hQ : ∀ w', Below w.heap.size w w' → Q (.returned (.bool true)) w') :
    Calls Tryd.prog 32 #[.agg #[pv], .agg #[qv], iv, .int .i64 most] w Q := by
  have HQ : Hid _ := hQ
  have HP : Hid (PW w pv iv ss inp a0 a1 a2) := hp
  have HM : Hid (PW w qv iv qs inp a0 a1 a2) := hq
  have HLS : Hid _ := hls
  have HMS : Hid _ := hms
  have HS : Hid _ := hs
  clear hQ hp hq hls hms hs
  obtain ⟨hrp, hro⟩ := runOfR_len ss inp most
  obtain ⟨hxp, hxo⟩ := runOfR_len qs inp 600
  go_enter Tryd.func32, Tryd.ntmps32
  go_wp2_with fail
  have HB0 : Hid (∀ O O', Below w.heap.size w ((w.alloc O).alloc O')) := fun O O' => ((Below.refl _ _).alloc (Nat.le_refl _) O).alloc (by simp) O'
  refine implRun_w most _ (HP.out.keep (HB0.out _ _)) hl HLS.out hil fun v1 w1 hb1 hr1 => ?_
  obtain ⟨A5, c5, A6, c6, hv1⟩ := hr1.form
  subst hv1
  have HB1 : Hid (Below w.heap.size w w1) := (HB0.out _ _).trans (hb1.mono (by simp; omega))
  have HR1 : Hid _ := hr1
  have q1 : w1.cell? ⟨w.heap.size + 1, 0, none⟩ = some qv := cell_keep hb1 (by simp [go_sem])
  have HX1 : Hid (∀ O, Below w1.heap.size w1 (w1.alloc O)) := fun O => (Below.refl _ _).alloc (Nat.le_refl _) O
  have hk1 : w.heap.size + 1 < w1.heap.size := cell_lt q1
  clear hb1 hr1
  go_wp2_with fail
  refine implRun_w 600 _ (HM.out.keep (HB1.out.trans ((HX1.out _).mono HB1.out.size))) hm HMS.out hil fun v2 w2 hb2 hr2 => ?_
  obtain ⟨A7, c7, A8, c8, hv2⟩ := hr2.form
  subst hv2
  have HB2' : Hid (Below w1.heap.size w1 w2) := (HX1.out _).trans (hb2.mono (by simp))
  have HB2 : Hid (Below w.heap.size w w2) := HB1.out.trans (HB2'.out.mono HB1.out.size)
  have HR2 : Hid _ := hr2
  have HR1' : Hid _ := ResA.keep HR1.out HB2'.out
  have r0 : w2.cell? ⟨w1.heap.size, 0, none⟩ = some (.int .i64 ((runOfR ss inp most).code : Int)) := cell_keep hb2 (by simp [go_sem])
  have r1 : w2.cell? ⟨w1.heap.size, 1, none⟩ = some (.slice A5 (runOfR ss inp most).outs.length c5) := cell_keep hb2 (by simp [go_sem])
  have hk2 : w1.heap.size < w2.heap.size := cell_lt r0
  have hk2' : w1.heap.size ≠ w2.heap.size := by omega
  have HX2 : Hid (∀ O, Below w2.heap.size w2 (w2.alloc O)) := fun O => (Below.refl _ _).alloc (Nat.le_refl _) O
  have HX2' : Hid (∀ O, Below w.heap.size w (w2.alloc O)) := fun O => HB2.out.trans ((HX2.out O).mono HB2.out.size)
  obtain ⟨ov, pv', eV, L1, _⟩ := HR1'.out
  cases eV
  obtain ⟨ov', pv'', eV', L2, _⟩ := HR2.out
  cases eV'
  have HL1 : Hid (IntsL w2 (.slice A5 (runOfR ss inp most).outs.length c5) (runOfR ss inp most).outs) := L1
  have HL2 : Hid (IntsL w2 (.slice A7 (runOfR qs inp 600).outs.length c7) (runOfR qs inp 600).outs) := L2
  clear hb2 hr2 q1 HR1 L1 L2 HR1' HR2
  rcases HS.out with h9 | ⟨h1, hpre⟩ | ⟨h9, h1, hcd, hou⟩
  · rw [h9] at r0
    clear HS h9
    go_wp2
    exact HQ.out _ (HX2'.out _)
  · rw [h1] at r0
    have HPRE : Hid _ := hpre
    clear HS h1 hpre
    go_wp2_with fail
    refine lkBegins_any _ _ _ _ _ (HL2.out.keep (HX2.out _)) (HL1.out.keep (HX2.out _)) HPRE.out (by omega) fun w3 hb3 => ?_
    have HB3 : Hid (Below w.heap.size w w3) := (HX2'.out _).trans (hb3.mono (HX2'.out _).size)
    clear hb3
    go_wp2
    exact HQ.out _ HB3.out
  · have h9b : (((runOfR ss inp most).code : Int) == 9) = false := by simp; omega
    have h1b : (((runOfR ss inp most).code : Int) == 1) = false := by simp; omega
    rw [hcd, hou]
    rw [hou] at HL2 hxo
    clear HS h9 h1 hcd hou
    generalize runOfR ss inp most = R at *
    go_wp2_with fail
    refine lkInts_any _ _ R.outs _ (HL1.out.keep (HX2.out _)).at (HL2.out.keep (HX2.out _)).at (by omega) fun w3 hb3 => ?_
    have HB3 : Hid (Below w.heap.size w w3) := (HX2'.out _).trans (hb3.mono (HX2'.out _).size)
    clear hb3
    go_wp2
    exact HQ.out _ HB3.out
end Go.Proofs.YtnlcdecokpdkpaaDoor

namespace Go.Proofs.YtnlcdecokpdkpaaDoor
open Go.ChangeShapes Go.WideShapes Go.ChangeAt Go.RowKit

theorem ahead_next {ss : List St} (h : ∀ s ∈ ss, s.next.length ≤ 61) (h0 : 0 < ss.length) : ∀ s ∈ aheadL ss, s.next.length ≤ 61 := by
  intro s hs
  simp only [aheadL, List.mem_append, List.mem_cons, List.mem_map, List.not_mem_nil, or_false] at hs
  rcases hs with (rfl | ⟨t, ht, rfl⟩) | rfl
  · simp [copySt]
  · simpa [ren] using h t (List.mem_of_mem_tail ht)
  · simpa [ren] using h (ss.getD 0 st0) (by simp [List.getD, h0])

set_option maxRecDepth 100000 in
set_option maxHeartbeats 8000000 in
theorem law_walk (v : Value) (w : World) (a0 a1 a2 : Addr) (hs : Sen w a0 a1 a2) (h : CodeAt w v) {Q : Ending → World → Prop} (hQ : ∀ w', Below w.heap.size w w' → Q (.returned (.bool true)) w') :
    Calls Tryd.prog 8 #[v] w Q := by
  have HQ : Hid (∀ w', Below w.heap.size w w' → Q (.returned (.bool true)) w') := hQ
  have HSEN : Hid (Sen w a0 a1 a2) := hs
  clear hQ hs
  have HC : Hid _ := h
  obtain ⟨ao, bb, bo, bl, cap, rfl, h1, h2, h3, h4, h5⟩ := h
  clear h3 h4 h5
  by_cases hbl : 1048576 < bl
  · go_enter Tryd.func8, Tryd.ntmps8
    go_wp2
    exact HQ.out _ (Below.refl _ _)
  go_enter Tryd.func8, Tryd.ntmps8
  go_wp2_with fail
  refine drawRunOf_any _ _ HC.out fun sv iv ss inp most w1 hS hl hls hI hN hil hb1 => ?_
  clear HC
  obtain ⟨A1, b1, o1, c1, rfl, hS'⟩ := id hS
  obtain ⟨A2, b2, o2, c2, rfl, hI'⟩ := id hI
  have HP : Hid (PW w1 (.slice A1 ss.length c1) (.slice A2 inp.length c2) ss inp a0 a1 a2) := ⟨hS.at, hI, HSEN.out.keep hb1⟩
  have HLS : Hid (∀ s ∈ ss, s.next.length ≤ 61) := hls
  have HNI : Hid (Nice (.slice A2 inp.length c2)) := hN
  have HB1 : Hid (Below w.heap.size w w1) := hb1
  have hil' : inp.length ≤ 20 := by omega
  have HSN : Hid (StepsN w1 (.slice A1 ss.length c1) ss) := hS
  clear hS hS' hI hI' hls hb1 hN
  obtain ⟨hrp, hro⟩ := runOfR_len ss inp most
  have hb0 : ∀ (W : World) O, Below W.heap.size W (W.alloc O) := fun W O => (Below.refl _ _).alloc (Nat.le_refl _) O
  go_wp2_with fail
  refine specRun_w most _ (HP.out.keep (hb0 _ _)) hl HLS.out hil' fun v2 w2 hb2 hr2 => ?_
  have HBA : Hid (Below w1.heap.size w1 w2) := (hb0 _ _).trans (hb2.mono (by simp))
  have p2 : w2.cell? ⟨w1.heap.size, 0, none⟩ = some (.slice A1 ss.length c1) := cell_keep hb2 (by simp [go_sem])
  have k12 : w1.heap.size < w2.heap.size := cell_lt p2
  have k12' : w1.heap.size ≠ w2.heap.size := by omega
  obtain ⟨A3, c3, A4, c4, hv2⟩ := hr2.form
  subst hv2
  have HR2 : Hid (ResA w2 (.agg #[.int .i64 ((runOfR ss inp most).code : Int), .slice A3 (runOfR ss inp most).outs.length c3, .slice A4 (runOfR ss inp most).path.length c4]) (runOfR ss inp most)) := hr2
  clear hb2 hr2
  go_wp2_with fail
  refine implRun_w most _ ((HP.out.keep HBA.out).keep (hb0 _ _)) hl HLS.out hil' fun v3 w3 hb3 hr3 => ?_
  have HBB : Hid (Below w2.heap.size w2 w3) := (hb0 _ _).trans (hb3.mono (by simp))
  have p3 := cell_keep HBB.out p2
  have s0 : w3.cell? ⟨w2.heap.size, 0, none⟩ = some (.int .i64 ((runOfR ss inp most).code : Int)) := cell_keep hb3 (by simp [go_sem])
  have s1 : w3.cell? ⟨w2.heap.size, 1, none⟩ = some (.slice A3 (runOfR ss inp most).outs.length c3) := cell_keep hb3 (by simp [go_sem])
  have s2 : w3.cell? ⟨w2.heap.size, 2, none⟩ = some (.slice A4 (runOfR ss inp most).path.length c4) := cell_keep hb3 (by simp [go_sem])
  have k13 : w1.heap.size < w3.heap.size := cell_lt p3
  have k13' : w1.heap.size ≠ w3.heap.size := by omega
  have k23 : w2.heap.size < w3.heap.size := cell_lt s0
  have k23' : w2.heap.size ≠ w3.heap.size := by omega
  obtain ⟨A5, c5, A6, c6, hv3⟩ := hr3.form
  subst hv3
  have HR3 : Hid (ResA w3 (.agg #[.int .i64 ((runOfR ss inp most).code : Int), .slice A5 (runOfR ss inp most).outs.length c5, .slice A6 (runOfR ss inp most).path.length c6]) (runOfR ss inp most)) := hr3
  clear hb3 hr3 p2
  go_wp2_with fail
  refine lkResult_any _ _ (runOfR ss inp most) _ (HR3.out.keep (hb0 _ _)) ((HR2.out.keep HBB.out).keep (hb0 _ _)) (by omega) (by omega) fun w4 hb4 => ?_
  have HBC : Hid (Below w3.heap.size w3 w4) := (hb0 _ _).trans (hb4.mono (by simp))
  have p4 := cell_keep HBC.out p3
  have e0 := cell_keep HBC.out s0
  have e1 := cell_keep HBC.out s1
  have e2 := cell_keep HBC.out s2
  have t0 : w4.cell? ⟨w3.heap.size, 0, none⟩ = some (.int .i64 ((runOfR ss inp most).code : Int)) := cell_keep hb4 (by simp [go_sem])
  have t1 : w4.cell? ⟨w3.heap.size, 1, none⟩ = some (.slice A5 (runOfR ss inp most).outs.length c5) := cell_keep hb4 (by simp [go_sem])
  have t2 : w4.cell? ⟨w3.heap.size, 2, none⟩ = some (.slice A6 (runOfR ss inp most).path.length c6) := cell_keep hb4 (by simp [go_sem])
  have HP4 : Hid (PW w4 (.slice A1 ss.length c1) (.slice A2 inp.length c2) ss inp a0 a1 a2) := ((HP.out.keep HBA.out).keep HBB.out).keep HBC.out
  have HR4 : Hid (ResA w4 (.agg #[.int .i64 ((runOfR ss inp most).code : Int), .slice A5 (runOfR ss inp most).outs.length c5, .slice A6 (runOfR ss inp most).path.length c6]) (runOfR ss inp most)) := HR3.out.keep HBC.out
  have HW4 : Hid (ResA w4 (.agg #[.int .i64 ((runOfR ss inp most).code : Int), .slice A3 (runOfR ss inp most).outs.length c3, .slice A4 (runOfR ss inp most).path.length c4]) (runOfR ss inp most)) := (HR2.out.keep HBB.out).keep HBC.out
  have HB4 : Hid (Below w.heap.size w w4) := HB1.out.trans (((HBA.out.trans (HBB.out.mono HBA.out.size)).trans (HBC.out.mono (Nat.le_trans HBA.out.size HBB.out.size))).mono HB1.out.size)
  have k34 : w3.heap.size < w4.heap.size := cell_lt t0
  have HSN4 : Hid (StepsN w4 (.slice A1 ss.length c1) ss) := ((HSN.out.keep HBA.out).keep HBB.out).keep HBC.out
  clear HSN hb4 p3 s0 s1 s2 HR2 HR3 HBA HBB HBC HP HB1 HSEN

  have HSQ : Hid (StepsAt w4 (.slice A1 ss.length c1) ss) := HP4.out.st
  have hl1 : ss.length ≤ 1048576 := by omega
  have HLS1 : Hid (∀ s ∈ ss, s.next.length ≤ 1048576) := fun s hs => Nat.le_trans (HLS.out s hs) (by decide)
  go_wp2_with fail
  refine specOk_any _ ss _ HSQ.out hl1 HLS1.out fun w5 hb5 => ?_
  have HB5 : Hid (Below w4.heap.size w4 w5) := hb5
  have HBW5 : Hid (Below w.heap.size w w5) := HB4.out.trans (hb5.mono HB4.out.size)
  have p5 := cell_keep hb5 p4
  have d0 := cell_keep hb5 e0
  have d1 := cell_keep hb5 e1
  have d2 := cell_keep hb5 e2
  have q0 := cell_keep hb5 t0
  have q1 := cell_keep hb5 t1
  have q2 := cell_keep hb5 t2
  have HR5 : Hid (ResA w5 (.agg #[.int .i64 ((runOfR ss inp most).code : Int), .slice A5 (runOfR ss inp most).outs.length c5, .slice A6 (runOfR ss inp most).path.length c6]) (runOfR ss inp most)) := HR4.out.keep hb5
  have HW5 : Hid (ResA w5 (.agg #[.int .i64 ((runOfR ss inp most).code : Int), .slice A3 (runOfR ss inp most).outs.length c3, .slice A4 (runOfR ss inp most).path.length c4]) (runOfR ss inp most)) := HW4.out.keep hb5
  have HP5 : Hid (PW w5 (.slice A1 ss.length c1) (.slice A2 inp.length c2) ss inp a0 a1 a2) := HP4.out.keep hb5
  have HSN5 : Hid (StepsN w5 (.slice A1 ss.length c1) ss) := HSN4.out.keep hb5
  clear HSN4 hb5 p4 e0 e1 e2 t0 t1 t2 HR4 HW4 HP4 HSQ
  have HAG : Hid (∀ {QQ : Ending → World → Prop}, (∀ w', Below w.heap.size w w' → QQ (.returned (.bool true)) w') → Calls Tryd.prog 25 #[.agg #[.int .i64 ((runOfR ss inp most).code : Int), .slice A5 (runOfR ss inp most).outs.length c5, .slice A6 (runOfR ss inp most).path.length c6], .agg #[.int .i64 ((runOfR ss inp most).code : Int), .slice A3 (runOfR ss inp most).outs.length c3, .slice A4 (runOfR ss inp most).path.length c4]] w5 QQ) := fun hQQ =>
    lkResult_any _ _ (runOfR ss inp most) _ HR5.out HW5.out (by omega) (by omega) fun w6 hb6 => hQQ _ (HBW5.out.trans (hb6.mono HBW5.out.size))
  cases hok : okB ss
  · go_wp2_with fail
    refine HAG.out fun w6 hb6 => ?_
    have HB6 : Hid (Below w.heap.size w w6) := hb6
    clear hb6
    go_wp2
    exact HQ.out _ HB6.out
  by_cases hlen : 60 ≤ ss.length
  · have hli : (60 : Int) ≤ (ss.length : Int) := by omega
    clear hok
    go_wp2_with fail
    refine HAG.out fun w6 hb6 => ?_
    have HB6 : Hid (Below w.heap.size w w6) := hb6
    clear hb6
    go_wp2
    exact HQ.out _ HB6.out
  have hli : ¬ ((60 : Int) ≤ (ss.length : Int)) := by omega
  have hn1 : 0 < ss.length := by have := hok; simp only [okB, Bool.and_eq_true, decide_eq_true_eq] at this; omega
  have HOK : Hid (okB ss = true) := hok
  obtain ⟨ao7, sb, so, cap7, e7, ha7, hc7⟩ := HP5.out.st
  cases e7
  obtain rfl := ha7 hn1
  have HC7 : Hid _ := hc7
  have l15 : w1.heap.size < w5.heap.size := cell_lt p5
  have l15' : w1.heap.size ≠ w5.heap.size := by omega
  clear hc7 ha7 hok HAG HW5 d0 d1 d2 q0 q1 q2 HR5
  go_wp2_with fail
  go_loopw [8] (fun i wr => ∃ k : Nat, k ≤ ss.length ∧ i = .int .i64 (k : Int) ∧ Below w5.heap.size w5 wr ∧ ∀ j, j < k → hasB (ss.getD j st0) 11 = false) (fun i _ => ss.length - (intOf i).toNat)
  case atStart => exact ⟨0, Nat.zero_le _, rfl, Below.refl _ _, fun j hj => by omega⟩
  case round =>
    obtain ⟨k, hk, rfl, hb, hno⟩ := hrel
    have HNO : Hid (∀ j, j < k → hasB (ss.getD j st0) 11 = false) := hno
    have HBR : Hid (Below w5.heap.size w5 wr) := hb
    have HBF : Hid (Below w.heap.size w wr) := HBW5.out.trans (hb.mono HBW5.out.size)
    have x0 := cell_keep hb p5
    clear hno
    by_cases hkl : k < ss.length
    · have hki : (k : Int) < (ss.length : Int) := by omega
      obtain ⟨nv, cs, hin⟩ := HC7.out k (ss.getD k st0) (by simp [List.getD, hkl])
      have HIN : Hid (IntsAt wr nv (ss.getD k st0).next) := hin.keep hb
      obtain ⟨y0, y1, y2, y3, y4, y5, y6, y7⟩ := cs.keep hb
      obtain ⟨A9, b9, o9, c9, rfl, _⟩ := hin
      generalize hst : ss.getD k st0 = st at *
      have HST : Hid (ss.getD k st0 = st) := hst
      clear cs hb hst
      go_wp2_with fail
      refine lkHas_any st _ 11 _ HIN.out fun w6 hb6 => ?_
      have HB6 : Hid (Below w5.heap.size w5 w6) := HBR.out.trans (hb6.mono HBR.out.size)
      have HB6' : Hid (Below w.heap.size w w6) := HBF.out.trans (hb6.mono HBF.out.size)
      clear hb6
      cases hh : hasB st 11
      · have HH : Hid (hasB st 11 = false) := hh
        clear hh
        go_wp2
        go_roundw
        case rel => exact ⟨k + 1, by omega, by go_num, HB6.out, fun j hj => by
          by_cases e : j = k
          · subst e
            rw [HST.out]
            exact HH.out
          · exact HNO.out j (by omega)⟩
        case measure => simp [intOf]; omega
      · clear hh
        go_wp2
        exact HQ.out _ HB6'.out
    · have hki : ¬ ((k : Int) < (ss.length : Int)) := by omega
      obtain rfl : k = ss.length := by omega
      have HFR : Hid (∀ s ∈ ss, hasB s 11 = false) := fun s hs => by
        obtain ⟨j, hj, e⟩ := List.mem_iff_getElem.1 hs
        have h9 := HNO.out j hj
        rwa [show ss.getD j st0 = s by simp [List.getD, hj, e]] at h9
      have HLS2 : Hid (∀ s ∈ ss, s.next.length ≤ 100) := fun s hs => Nat.le_trans (HLS.out s hs) (by decide)
      have HPr : Hid _ := HP5.out.keep hb
      clear hb
      go_wp2_with fail
      refine lkAhead_any _ ss ⟨2, 11, 0, -1, 5, 0, 0, []⟩ _ (HSN5.out.keep HBR.out) hn1 (by omega) HLS2.out fun v6 w6 hst6 hb6 => ?_
      have hst6' : StepsAt w6 v6 (aheadL ss) := hst6
      have HP6 : Hid (PW w6 (.slice (some ⟨sb, so, none⟩) ss.length c1) (.slice A2 inp.length c2) ss inp a0 a1 a2) := PW.keep HPr.out hb6
      have HQ6 : Hid (PW w6 v6 (.slice A2 inp.length c2) (aheadL ss) inp a0 a1 a2) := ⟨hst6', HP6.out.ints, HP6.out.sen⟩
      have HB6 : Hid (Below w.heap.size w w6) := HBF.out.trans (hb6.mono HBF.out.size)
      have x6 := cell_keep hb6 x0
      have l16 : w1.heap.size < w6.heap.size := cell_lt x6
      have l16' : w1.heap.size ≠ w6.heap.size := by omega
      have el := ahead_len (ss := ss) hn1
      have hlE : (aheadL ss).length ≤ 61 := by omega
      have HLE : Hid (∀ s ∈ aheadL ss, s.next.length ≤ 61) := ahead_next HLS.out hn1
      have HLE1 : Hid (∀ s ∈ aheadL ss, s.next.length ≤ 1048576) := fun s hs => Nat.le_trans (HLE.out s hs) (by decide)
      have HOK6 : Hid (okB (aheadL ss) = true) := ahead_ok HOK.out (by omega)
      have HSM : Hid _ := run_same (by omega) HFR.out inp
      have HX6 : Hid (∀ O, Below w6.heap.size w6 (w6.alloc O)) := fun O => (Below.refl _ _).alloc (Nat.le_refl _) O
      obtain ⟨A8, b8, o8, c8, rfl, _⟩ := hst6'
      clear hst6 hb6 el
      go_wp2_with fail
      refine implOk_any _ (aheadL ss) _ (HQ6.out.keep (HX6.out _)).st (by omega) HLE1.out fun w7 hb7 => ?_
      have hb7' : Below w6.heap.size w6 w7 := (HX6.out _).trans (hb7.mono (by simp))
      have HB67 : Hid (Below w6.heap.size w6 w7) := hb7'
      have HB7 : Hid (Below w.heap.size w w7) := HB6.out.trans (hb7'.mono HB6.out.size)
      have x7 := cell_keep hb7' x6
      have z7 : w7.cell? ⟨w6.heap.size, 0, none⟩ = some (.slice A8 (aheadL ss).length c8) := cell_keep hb7 (by simp [go_sem])
      rw [HOK6.out]
      clear hb7 hb7'
      go_wp2_with fail
      refine lkSame_any _ _ _ ss (aheadL ss) inp 300 a0 a1 a2 _ (HP6.out.keep HB67.out) (HQ6.out.keep HB67.out) hl HLS.out hlE HLE.out hil' HSM.out fun w8 hb8 => ?_
      have HB8 : Hid (Below w.heap.size w w8) := HB7.out.trans (hb8.mono HB7.out.size)
      clear hb8
      go_wp2
      exact HQ.out _ HB8.out

set_option maxRecDepth 100000 in
theorem contract (H : Type) (enc : TypeId × Value → H) (W : World) (base : Nat) (args : Array Value) (ds gs : List (DataW H)) (before : List MemPlace)
    (hval : ∀ (j : Nat) t v, Tryd.f8.params[j]? = some t → args[j]? = some v → Value.okWide Tryd.prog W .any base t v)
    (hW : DataW.Whole enc Tryd.prog Tryd.f8.params.toList Rows.fnRunFreeSpec.vars false W args.toList ds gs before) (hL : laidMetH Tryd.prog Rows.fnRunFreeRow.laid W) :
    Calls Tryd.prog 8 args W fun e W' => ∃ v, e = .returned v ∧ Rows.fnRunFreeSpec.post enc Tryd.prog Tryd.f8 false true false false W args v W' := by
  have hW' := hW
  obtain ⟨p, q, hA0, hV, rfl, hfz, hnd⟩ := hW
  have hA : DataW.TrodAll enc Tryd.prog W 0 (fun _ => true) true Tryd.f8.params.toList args.toList ds p := hA0
  rw [Tryd.params8] at hA hval
  obtain ⟨v0, vs0, d0, ds0, p0, q0, hargs, rfl, rfl, h0, r0⟩ := trodAll_cons hA
  obtain ⟨rfl, rfl, rfl⟩ := trodAll_nil r0
  obtain rfl : args = #[v0] := by cases args; simp_all
  obtain ⟨y1, y2, y3, rfl⟩ := vars3 hV
  obtain ⟨a0, a1, a2, hs⟩ := sen_of_laid hL
  have k0 := h0
  have lt0 : ∀ x ∈ p0, x.block < W.heap.size := by obtain ⟨m, hm⟩ := k0; exact DataW.trod_lt m _ _ _ hm
  have c0 := open_code (hval 0 42 v0 rfl rfl) h0
  clear hA0
  refine law_walk v0 W a0 a1 a2 hs c0 fun W' bel => ?_
  exact ⟨_, rfl, _, _, _, [], _, q, hW', trodAll_mk1 (shut_bool Tryd.underlying4 _), (trodAll_cons_mk (Below.trod laidOut (by kernel_rfl) (of_decide_eq_true (by kernel_rfl)) k0 bel lt0) trodAll_mk0), bel.trodVars laidOut (by kernel_rfl) hV, bel.frame _, fun h => by cases h⟩

set_option maxRecDepth 100000 in
theorem lifted (os : Os) (started : os.Started) (H : Type) (enc : TypeId × Value → H) :
    ReturnsInHanded {} Tryd.checked os 8 .any (fun w args => (Rows.fnRunFreeSpec.pre enc Tryd.prog Tryd.f8 Rows.fnRunFreeRow.domain false w args ∧ laidMetH Tryd.prog Rows.fnRunFreeRow.laid w) ∧ sizedMet enc Tryd.prog Tryd.f8 (OpenSpec.ofChange Rows.fnRunFreeSpec) false w args)
      (Rows.fnRunFreeSpec.post enc Tryd.prog Tryd.f8 false true false false) := by
  refine returnsInHanded_of_change_and (C := Tryd.checked) (X := fun w _ => laidMetH Tryd.prog Rows.fnRunFreeRow.laid w) (fun _ _ _ hh h => h.of_heap hh) own started (by kernel_rfl) Tryd.func8
    (ChangeSpec.witness_shaped (enc := enc) (C := Tryd.checked) (os := os) (X := fun w _ => laidMetH Tryd.prog Rows.fnRunFreeRow.laid w) false (World.laidAll Tryd.prog os Rows.fnRunFreeRow.laid) #[.slice none 0 0] 8 (World.laidAll_os _ _ _)
      (World.shaped_of_ZipB (by kernel_rfl) (by kernel_rfl)) (by kernel_rfl) (by kernel_rfl) (by kernel_rfl)
      (by rw [MakeChecks.laidMetH_plain _ _ _ (by kernel_rfl)]; exact laidMet_laidAll _ (by kernel_rfl) (by kernel_rfl))) ?_
  intro W base args ds gs before hval0 hW _ _ hL _
  exact contract H enc W base args ds gs before hval0 hW hL

theorem said : Rows.FnRunFreeSaid :=
  OpenClaim.holds_of_wide 8 Tryd.f8 rfl rfl rfl rfl rfl rfl rfl ⟨rfl, rfl, rfl, rfl, rfl⟩ rfl rfl rfl rfl rfl (by kernel_rfl) Tryd.func8 (by kernel_rfl)
    (of_decide_eq_true (by kernel_rfl)) (by unfold Func.isWrapper; first | (rw [if_pos (by decide +kernel)]; kernel_rfl) | (rw [if_neg (by decide +kernel)]; exact ⟨rfl, rfl⟩))
    (fun os started H enc _ => lifted os started H enc)

theorem plain (f : FuncId) (fn : Func) (hf : Tryd.pinned.checked.prog.funcNamed Rows.fnRunFreeRow.func = some f) (hfn : Tryd.pinned.checked.prog.funcs[f]? = some fn) :
    true = Tryd.pinned.checked.prog.looks [] ∧ ∀ (j : Nat) t, fn.params[j]? = some t → Tryd.pinned.checked.prog.wantsStandIn t = false := by
  obtain rfl : f = 8 := Option.some.inj ((show Tryd.prog.funcNamed Rows.fnRunFreeRow.func = some 8 by kernel_rfl).symm.trans hf) |>.symm
  obtain rfl : fn = Tryd.f8 := (Option.some.inj (Tryd.func8.symm.trans hfn)).symm
  refine ⟨by kernel_rfl, fun j t ht => ?_⟩
  rw [Tryd.params8] at ht
  obtain rfl : t = 42 := by simpa using Array.mem_of_getElem? ht
  exact (show Tryd.prog.wantsStandIn 42 = false by kernel_rfl)

theorem fnRunFree_card : Rows.FnRunFreeCardSaid :=
  Claim7.holds_tied_plain_at .later [] _ _ _ _ said (fun _ h => by cases h) (by kernel_rfl) (fun _ h => by cases h) fnRunFree_row_tie rfl ⟨rfl, rfl⟩ (by kernel_rfl) rfl plain (by kernel_rfl)
#print axioms fnRunFree_card
end Go.Proofs.YtnlcdecokpdkpaaDoor
