/-
  For every code of bytes, a step more that nobody leads to changes nothing of what a run of the program that is drawn from it says: the law FnProgEnd answers true. No condition.
-/
import Derived.Test.YtnlcdecokpdkpaaDoorRows
import Derived.Test.YtnlcdecokpdkpaaDoorCards
import Derived.Test.YtnlcdecokpdkpaaDoorTie
import Derived.Test.YtnlcdecokpdkpaaDoorSents
import Derived.Test.YtnlcdecokpdkpaaDoorLkR
import Derived.Test.YtnlcdecokpdkpaaDoorLkG
import Derived.Test.YtnlcdecokpdkpaaDoorRunA
import Derived.OpenShut
import Derived.ShutString
import Derived.ChangeOld
import Derived.Below
import Derived.OpenVars
import Derived.Lay
import Derived.SevenTiedAt
import Derived.Stop.Joined
namespace Go.Proofs.YtnlcdecokpdkpaaDoor
open Go.ChangeShapes Go.WideShapes Go.ChangeAt Go.RowKit

def endSt : St := ⟨7, 0, 0, 0, 0, 0, 0, []⟩

theorem stepB_more {s : St} {n : Nat} (h : stepB s n = true) : stepB s ((n + 1 : Nat) : Int) = true := by
  simp only [stepB, Bool.and_eq_true, List.all_eq_true, inB, decide_eq_true_eq] at h ⊢
  exact ⟨⟨h.1.1, fun x hx => ⟨(h.1.2 x hx).1, by have := (h.1.2 x hx).2; omega⟩⟩, h.2⟩

theorem end_ok {ss : List St} (h : okB ss = true) (hl : ss.length < 60) : okB (ss ++ [endSt]) = true := by
  simp only [okB, Bool.and_eq_true, decide_eq_true_eq, List.all_eq_true] at h ⊢
  have hlen : (ss ++ [endSt]).length = ss.length + 1 := by simp
  rw [hlen]
  refine ⟨⟨by omega, by omega⟩, fun s hs => ?_⟩
  rcases List.mem_append.1 hs with hs | hs
  · exact stepB_more (h.2 s hs)
  · rw [List.mem_singleton] at hs
    subst hs
    simp [stepB, endSt, many, restB, noneB]

theorem getD_end {ss : List St} {i : Nat} (hi : i < ss.length) : (ss ++ [endSt]).getD i st0 = ss.getD i st0 := by
  simp [List.getD, List.getElem?_append_left hi]

theorem runR_end {ss : List St} (hok : okB ss = true) : ∀ (n i : Nat) (vs inp outs path : List Int), i < ss.length → runR (ss ++ [endSt]) n i vs inp outs path = runR ss n i vs inp outs path := by
  intro n
  induction n with
  | zero => intro i vs inp outs path _; rfl
  | succ n ih =>
    intro i vs inp outs path hi
    have e := getD_end hi
    cases hs : stopR (ss.getD i st0) inp with
    | some c => rw [runR_stop hs, runR_stop (c := c) (by rw [e]; exact hs)]
    | none =>
      rw [runR_go hs, runR_go (by rw [e]; exact hs), e]
      exact ih _ _ _ _ _ (next_lt hok hi (stop_none hs) vs)

theorem run_end {ss : List St} (inp : List Int) (most : Int) (hok : okB ss = true) (hl : ss.length < 60) : runOfR (ss ++ [endSt]) inp most = runOfR ss inp most := by
  have hn1 : 0 < ss.length := by have := hok; simp only [okB, Bool.and_eq_true, decide_eq_true_eq] at this; omega
  have e : canB (ss ++ [endSt]) inp most = canB ss inp most := by simp [canB, hok, end_ok hok hl]
  unfold runOfR
  rw [e]
  split
  · exact runR_end hok _ _ _ _ _ _ hn1
  · rfl

/-- The cells of the first n steps. -/
def flatK (ss : List St) (nvs : Nat → Value) : Nat → List Value
  | 0 => []
  | n + 1 => flatK ss nvs n ++ cells8 (ss.getD n st0) (nvs n)

theorem flatK_len (ss : List St) (nvs : Nat → Value) : ∀ n, (flatK ss nvs n).length = n * 8
  | 0 => rfl
  | n + 1 => by rw [flatK, List.length_append, flatK_len ss nvs n]; simp [cells8]; omega

theorem flatK_get (ss : List St) (nvs : Nat → Value) : ∀ (n i j : Nat), i < n → j < 8 → (flatK ss nvs n)[i * 8 + j]? = (cells8 (ss.getD i st0) (nvs i))[j]?
  | 0, i, j, hi, _ => by omega
  | n + 1, i, j, hi, hj => by
    rw [flatK]
    have hlen := flatK_len ss nvs n
    by_cases e : i = n
    · subst e
      rw [List.getElem?_append_right (by omega), hlen, show i * 8 + j - i * 8 = j by omega]
    · rw [List.getElem?_append_left (by omega)]
      exact flatK_get ss nvs n i j (by omega) hj

theorem cells8_in {s : St} {nv : Value} {w : World} {b o : Nat} (h : StepCells w b o s nv) : ∀ j u, (cells8 s nv)[j]? = some u → w.cell? ⟨b, o + j, none⟩ = some u := by
  intro j u hu
  have hj : j < 8 := by have := (List.getElem?_eq_some_iff.1 hu).1; simpa [cells8] using this
  rcases (by omega : j = 0 ∨ j = 1 ∨ j = 2 ∨ j = 3 ∨ j = 4 ∨ j = 5 ∨ j = 6 ∨ j = 7) with rfl | rfl | rfl | rfl | rfl | rfl | rfl | rfl
  all_goals
    simp [cells8] at hu
    subst hu
  · exact h.c0
  · exact h.c1
  · exact h.c2
  · exact h.c3
  · exact h.c4
  · exact h.c5
  · exact h.c6
  · exact h.c7

theorem addr_add (b o k : Nat) : (⟨b, o, none⟩ : Addr).add k = ⟨b, o + k, none⟩ := by unfold Addr.add; split <;> simp_all

/-- A program's cells as they lie. -/
theorem flat_in {w : World} {ss : List St} {b o : Nat} {nvs : Nat → Value} (h : ∀ i, i < ss.length → StepCells w b (o + i * 8) (ss.getD i st0) (nvs i)) : ∀ k u, (flatK ss nvs ss.length)[k]? = some u → w.cell? ((⟨b, o, none⟩ : Addr).add k) = some u := by
  intro k u hu
  have hk : k < ss.length * 8 := by have := (List.getElem?_eq_some_iff.1 hu).1; rwa [flatK_len] at this
  rw [addr_add, show k = (k / 8) * 8 + k % 8 by omega] at *
  rw [flatK_get ss nvs ss.length (k / 8) (k % 8) (by omega) (by omega)] at hu
  have := cells8_in (h (k / 8) (by omega)) _ _ hu
  rwa [Nat.add_assoc] at this

theorem flat_one {ss : List St} {nvs : Nat → Value} (h : ∀ i, i < ss.length → ∃ A n c, nvs i = .slice A n c) : ∀ u ∈ flatK ss nvs ss.length, u.oneCell' = true := by
  intro u hu
  obtain ⟨k, hk, e⟩ := List.mem_iff_getElem.1 hu
  have hk' : k < ss.length * 8 := by rwa [flatK_len] at hk
  have hg := flatK_get ss nvs ss.length (k / 8) (k % 8) (by omega) (by omega)
  rw [show (k / 8) * 8 + k % 8 = k by omega, List.getElem?_eq_getElem hk, e] at hg
  obtain ⟨A, n, c, hn⟩ := h (k / 8) (by omega)
  rw [hn] at hg
  have hm : k % 8 < 8 := Nat.mod_lt _ (by decide)
  generalize k % 8 = j at hg hm
  rcases (by omega : j = 0 ∨ j = 1 ∨ j = 2 ∨ j = 3 ∨ j = 4 ∨ j = 5 ∨ j = 6 ∨ j = 7) with rfl | rfl | rfl | rfl | rfl | rfl | rfl | rfl
  all_goals
    simp [cells8] at hg
    subst hg
    rfl

/-- The steps and one more, in a row of the call's own. -/
theorem steps_end {w : World} {ss : List St} {nvs : Nat → Value} {lo g cap : Nat} (hrow : w.ownsRow lo 50 8 (.slice (some ⟨g, 0, none⟩) (ss.length + 1) cap) (ss.length + 1) (flatK ss nvs ss.length ++ cells8 endSt (.slice none 0 0)))
    (hn : ∀ i, i < ss.length → IntsAt w (nvs i) (ss.getD i st0).next) : StepsAt w (.slice (some ⟨g, 0, none⟩) (ss.length + 1) cap) (ss ++ [endSt]) := by
  refine ⟨_, g, 0, cap, by simp, fun _ => rfl, fun i s hs => ?_⟩
  have hi := (List.getElem?_eq_some_iff.1 hs).1
  simp at hi
  have hlen := flatK_len ss nvs ss.length
  have rd : ∀ j, j < 8 → w.cell? ⟨g, 0 + i * 8 + j, none⟩ = (flatK ss nvs ss.length ++ cells8 endSt (.slice none 0 0))[i * 8 + j]? := fun j hj => by rw [Nat.zero_add]; exact hrow.cellAt _ (by omega)
  by_cases e : i = ss.length
  · subst e
    have es : s = endSt := by simpa using hs.symm
    subst es
    have rd2 : ∀ j, j < 8 → w.cell? ⟨g, 0 + ss.length * 8 + j, none⟩ = (cells8 endSt (.slice none 0 0))[j]? := fun j hj => by
      rw [rd j hj, List.getElem?_append_right (by omega), hlen, show ss.length * 8 + j - ss.length * 8 = j by omega]
    exact ⟨.slice none 0 0, ⟨rd2 0 (by omega), rd2 1 (by omega), rd2 2 (by omega), rd2 3 (by omega), rd2 4 (by omega), rd2 5 (by omega), rd2 6 (by omega), rd2 7 (by omega)⟩, none, 0, 0, 0, rfl, fun h => by simp [endSt] at h, fun k hk => by simp [endSt] at hk⟩
  · have hi' : i < ss.length := by omega
    have es : s = ss.getD i st0 := by
      rw [List.getElem?_append_left hi'] at hs
      simp [List.getD, hs]
    subst es
    have rd2 : ∀ j, j < 8 → w.cell? ⟨g, 0 + i * 8 + j, none⟩ = (cells8 (ss.getD i st0) (nvs i))[j]? := fun j hj => by
      rw [rd j hj, List.getElem?_append_left (by omega), flatK_get ss nvs ss.length i j hi' hj]
    exact ⟨nvs i, ⟨rd2 0 (by omega), rd2 1 (by omega), rd2 2 (by omega), rd2 3 (by omega), rd2 4 (by omega), rd2 5 (by omega), rd2 6 (by omega), rd2 7 (by omega)⟩, hn i hi'⟩

set_option maxRecDepth 100000 in
set_option maxHeartbeats 8000000 in
theorem law_walk (v : Value) (w : World) (a0 a1 a2 : Addr) (hs : Sen w a0 a1 a2) (h : CodeAt w v) {Q : Ending → World → Prop} (hQ : ∀ w', Below w.heap.size w w' → Q (.returned (.bool true)) w') :
    Calls Tryd.prog 10 #[v] w Q := by
  have HQ : Hid (∀ w', Below w.heap.size w w' → Q (.returned (.bool true)) w') := hQ
  have HSEN : Hid (Sen w a0 a1 a2) := hs
  clear hQ hs
  have HC : Hid _ := h
  obtain ⟨ao, bb, bo, bl, cap, rfl, h1, h2, h3, h4, h5⟩ := h
  clear h3 h4 h5
  by_cases hbl : 1048576 < bl
  · go_enter Tryd.func10, Tryd.ntmps10
    go_wp2
    exact HQ.out _ (Below.refl _ _)
  go_enter Tryd.func10, Tryd.ntmps10
  go_wp2_with fail
  refine drawRunOf_any _ _ HC.out fun sv iv ss inp most w1 hS hl hls hI hN hil hb1 => ?_
  clear HC
  obtain ⟨A1, b1, o1, c1, rfl, hS'⟩ := id hS
  obtain ⟨A2, b2, o2, c2, rfl, hI'⟩ := id hI
  have HP : Hid (PW w1 (.slice A1 ss.length c1) (.slice A2 inp.length c2) ss inp a0 a1 a2) := ⟨hS.at, hI, HSEN.out.keep hb1⟩
  have HLS : Hid (∀ s ∈ ss, s.next.length ≤ 61) := hls
  have HNI : Hid (Nice (.slice A2 inp.length c2)) := hN
  have HB1 : Hid (Below w.heap.size w w1) := hb1
  have hil' : inp.length ≤ 20 := by omega
  clear hS hS' hI hI' hls hb1 hN
  obtain ⟨hrp, hro⟩ := runOfR_len ss inp most
  have hb0 : ∀ (W : World) O, Below W.heap.size W (W.alloc O) := fun W O => (Below.refl _ _).alloc (Nat.le_refl _) O
  go_wp2_with fail
  refine specRun_w most _ (HP.out.keep (hb0 _ _)) hl HLS.out hil' fun v2 w2 hb2 hr2 => ?_
  have HBA : Hid (Below w1.heap.size w1 w2) := (hb0 _ _).trans (hb2.mono (by simp))
  have p2 : w2.cell? ⟨w1.heap.size, 0, none⟩ = some (.slice A1 ss.length c1) := cell_keep hb2 (by simp [go_sem])
  have k12 : w1.heap.size < w2.heap.size := cell_lt p2
  have k12' : w1.heap.size ≠ w2.heap.size := by omega
  obtain ⟨A3, c3, A4, c4, hv2⟩ := hr2.form
  subst hv2
  have HR2 : Hid (ResA w2 (.agg #[.int .i64 ((runOfR ss inp most).code : Int), .slice A3 (runOfR ss inp most).outs.length c3, .slice A4 (runOfR ss inp most).path.length c4]) (runOfR ss inp most)) := hr2
  clear hb2 hr2
  go_wp2_with fail
  refine implRun_w most _ ((HP.out.keep HBA.out).keep (hb0 _ _)) hl HLS.out hil' fun v3 w3 hb3 hr3 => ?_
  have HBB : Hid (Below w2.heap.size w2 w3) := (hb0 _ _).trans (hb3.mono (by simp))
  have p3 := cell_keep HBB.out p2
  have s0 : w3.cell? ⟨w2.heap.size, 0, none⟩ = some (.int .i64 ((runOfR ss inp most).code : Int)) := cell_keep hb3 (by simp [go_sem])
  have s1 : w3.cell? ⟨w2.heap.size, 1, none⟩ = some (.slice A3 (runOfR ss inp most).outs.length c3) := cell_keep hb3 (by simp [go_sem])
  have s2 : w3.cell? ⟨w2.heap.size, 2, none⟩ = some (.slice A4 (runOfR ss inp most).path.length c4) := cell_keep hb3 (by simp [go_sem])
  have k13 : w1.heap.size < w3.heap.size := cell_lt p3
  have k13' : w1.heap.size ≠ w3.heap.size := by omega
  have k23 : w2.heap.size < w3.heap.size := cell_lt s0
  have k23' : w2.heap.size ≠ w3.heap.size := by omega
  obtain ⟨A5, c5, A6, c6, hv3⟩ := hr3.form
  subst hv3
  have HR3 : Hid (ResA w3 (.agg #[.int .i64 ((runOfR ss inp most).code : Int), .slice A5 (runOfR ss inp most).outs.length c5, .slice A6 (runOfR ss inp most).path.length c6]) (runOfR ss inp most)) := hr3
  clear hb3 hr3 p2
  go_wp2_with fail
  refine lkResult_any _ _ (runOfR ss inp most) _ (HR3.out.keep (hb0 _ _)) ((HR2.out.keep HBB.out).keep (hb0 _ _)) (by omega) (by omega) fun w4 hb4 => ?_
  have HBC : Hid (Below w3.heap.size w3 w4) := (hb0 _ _).trans (hb4.mono (by simp))
  have p4 := cell_keep HBC.out p3
  have e0 := cell_keep HBC.out s0
  have e1 := cell_keep HBC.out s1
  have e2 := cell_keep HBC.out s2
  have t0 : w4.cell? ⟨w3.heap.size, 0, none⟩ = some (.int .i64 ((runOfR ss inp most).code : Int)) := cell_keep hb4 (by simp [go_sem])
  have t1 : w4.cell? ⟨w3.heap.size, 1, none⟩ = some (.slice A5 (runOfR ss inp most).outs.length c5) := cell_keep hb4 (by simp [go_sem])
  have t2 : w4.cell? ⟨w3.heap.size, 2, none⟩ = some (.slice A6 (runOfR ss inp most).path.length c6) := cell_keep hb4 (by simp [go_sem])
  have HP4 : Hid (PW w4 (.slice A1 ss.length c1) (.slice A2 inp.length c2) ss inp a0 a1 a2) := ((HP.out.keep HBA.out).keep HBB.out).keep HBC.out
  have HR4 : Hid (ResA w4 (.agg #[.int .i64 ((runOfR ss inp most).code : Int), .slice A5 (runOfR ss inp most).outs.length c5, .slice A6 (runOfR ss inp most).path.length c6]) (runOfR ss inp most)) := HR3.out.keep HBC.out
  have HW4 : Hid (ResA w4 (.agg #[.int .i64 ((runOfR ss inp most).code : Int), .slice A3 (runOfR ss inp most).outs.length c3, .slice A4 (runOfR ss inp most).path.length c4]) (runOfR ss inp most)) := (HR2.out.keep HBB.out).keep HBC.out
  have HB4 : Hid (Below w.heap.size w w4) := HB1.out.trans (((HBA.out.trans (HBB.out.mono HBA.out.size)).trans (HBC.out.mono (Nat.le_trans HBA.out.size HBB.out.size))).mono HB1.out.size)
  have k34 : w3.heap.size < w4.heap.size := cell_lt t0
  clear hb4 p3 s0 s1 s2 HR2 HR3 HBA HBB HBC HP HB1 HSEN

  have HSQ : Hid (StepsAt w4 (.slice A1 ss.length c1) ss) := HP4.out.st
  have hl1 : ss.length ≤ 1048576 := by omega
  have HLS1 : Hid (∀ s ∈ ss, s.next.length ≤ 1048576) := fun s hs => Nat.le_trans (HLS.out s hs) (by decide)
  go_wp2_with fail
  refine specOk_any _ ss _ HSQ.out hl1 HLS1.out fun w5 hb5 => ?_
  have HB5 : Hid (Below w4.heap.size w4 w5) := hb5
  have HBW5 : Hid (Below w.heap.size w w5) := HB4.out.trans (hb5.mono HB4.out.size)
  have p5 := cell_keep hb5 p4
  have d0 := cell_keep hb5 e0
  have d1 := cell_keep hb5 e1
  have d2 := cell_keep hb5 e2
  have q0 := cell_keep hb5 t0
  have q1 := cell_keep hb5 t1
  have q2 := cell_keep hb5 t2
  have HR5 : Hid (ResA w5 (.agg #[.int .i64 ((runOfR ss inp most).code : Int), .slice A5 (runOfR ss inp most).outs.length c5, .slice A6 (runOfR ss inp most).path.length c6]) (runOfR ss inp most)) := HR4.out.keep hb5
  have HW5 : Hid (ResA w5 (.agg #[.int .i64 ((runOfR ss inp most).code : Int), .slice A3 (runOfR ss inp most).outs.length c3, .slice A4 (runOfR ss inp most).path.length c4]) (runOfR ss inp most)) := HW4.out.keep hb5
  have HP5 : Hid (PW w5 (.slice A1 ss.length c1) (.slice A2 inp.length c2) ss inp a0 a1 a2) := HP4.out.keep hb5
  clear hb5 p4 e0 e1 e2 t0 t1 t2 HR4 HW4 HP4 HSQ
  have HAG : Hid (∀ {QQ : Ending → World → Prop}, (∀ w', Below w.heap.size w w' → QQ (.returned (.bool true)) w') → Calls Tryd.prog 25 #[.agg #[.int .i64 ((runOfR ss inp most).code : Int), .slice A5 (runOfR ss inp most).outs.length c5, .slice A6 (runOfR ss inp most).path.length c6], .agg #[.int .i64 ((runOfR ss inp most).code : Int), .slice A3 (runOfR ss inp most).outs.length c3, .slice A4 (runOfR ss inp most).path.length c4]] w5 QQ) := fun hQQ =>
    lkResult_any _ _ (runOfR ss inp most) _ HR5.out HW5.out (by omega) (by omega) fun w6 hb6 => hQQ _ (HBW5.out.trans (hb6.mono HBW5.out.size))
  cases hok : okB ss
  · go_wp2_with fail
    refine HAG.out fun w6 hb6 => ?_
    have HB6 : Hid (Below w.heap.size w w6) := hb6
    clear hb6
    go_wp2
    exact HQ.out _ HB6.out
  by_cases hlen : 60 ≤ ss.length
  · have hli : (60 : Int) ≤ (ss.length : Int) := by omega
    clear hok
    go_wp2_with fail
    refine HAG.out fun w6 hb6 => ?_
    have HB6 : Hid (Below w.heap.size w w6) := hb6
    clear hb6
    go_wp2
    exact HQ.out _ HB6.out
  have hli : ¬ ((60 : Int) ≤ (ss.length : Int)) := by omega
  have hn1 : 0 < ss.length := by have := hok; simp only [okB, Bool.and_eq_true, decide_eq_true_eq] at this; omega
  have HEND : Hid (runOfR (ss ++ [endSt]) inp most = runOfR ss inp most) := run_end inp most hok (by omega)
  have HOKE : Hid (okB (ss ++ [endSt]) = true) := end_ok hok (by omega)
  obtain ⟨ao7, sb, so, cap7, e7, ha7, hc7⟩ := HP5.out.st
  cases e7
  obtain rfl := ha7 hn1
  have HNV : ∃ nvs : Nat → Value, ∀ i, i < ss.length → StepCells w5 sb (so + i * 8) (ss.getD i st0) (nvs i) ∧ IntsAt w5 (nvs i) (ss.getD i st0).next := by
    have h1 : ∀ i : Nat, ∃ nv, i < ss.length → StepCells w5 sb (so + i * 8) (ss.getD i st0) nv ∧ IntsAt w5 nv (ss.getD i st0).next := fun i => by
      by_cases hi : i < ss.length
      · obtain ⟨nv, h1, h2⟩ := hc7 i ss[i] (by simp [hi])
        have e : ss.getD i st0 = ss[i] := by simp [List.getD, hi]
        exact ⟨nv, fun _ => by rw [e]; exact ⟨h1, h2⟩⟩
      · exact ⟨.nilIface, fun h => absurd h hi⟩
    exact ⟨fun i => Classical.choose (h1 i), fun i hi => Classical.choose_spec (h1 i) hi⟩
  obtain ⟨nvs, hnvs⟩ := HNV
  have HNVS : Hid (∀ i, i < ss.length → StepCells w5 sb (so + i * 8) (ss.getD i st0) (nvs i) ∧ IntsAt w5 (nvs i) (ss.getD i st0).next) := hnvs
  have HONE : Hid (∀ u ∈ flatK ss nvs ss.length, u.oneCell' = true) := flat_one fun i hi => by obtain ⟨A, b, o, c, e, _⟩ := (hnvs i hi).2; exact ⟨_, _, _, e⟩
  obtain ⟨i1, hj, hy0, hy1, hy2⟩ := info_parts infoStep1
  have HE5 : Hid ((w5.alloc (.cells #[] 50)).ownsRow w5.heap.size 50 8 (.slice (some ⟨w5.heap.size, 0, none⟩) 0 0) 0 []) := World.ownsRow_lit _ #[] 0 (Nat.le_refl _) (by decide) (by simp)
  have l15 : w1.heap.size < w5.heap.size := cell_lt p5
  have l15' : w1.heap.size ≠ w5.heap.size := by omega
  clear hnvs hc7 ha7 hok HAG HW5 d0 d1 d2
  go_wp2_with (at_builtin; refine wpList_append_lies _ rfl _ _ 30 rfl w5.heap.size 50 i1 (.agg #[.int .i64 0, .int .i64 0, .int .i64 0, .int .i64 0, .int .i64 0, .int .i64 0, .int .i64 0, .slice none 0 0]) 8 80 Tryd.underlying30 hj hy0 hy1 hy2 rfl (by decide) (.slice (some ⟨w5.heap.size, 0, none⟩) 0 0) 0 [] rfl HE5.out ⟨sb, so, none⟩ ss.length c1 (flatK ss nvs ss.length) rfl (flatK_len _ _ _) (flat_in fun i hi => (HNVS.out i hi).1.keep ((Below.refl _ _).alloc (Nat.le_refl _) _)) HONE.out hn1 (by unfold maxLen; omega) (by omega) (by simp) (w5.heap.size + 1) (by simp) ?_)
  intro g6 cap6 w6 hown6 hgrow6 hat6 hlt6
  have HB6 : Hid (Below w5.heap.size w5 w6) := ((Below.refl _ _).alloc (Nat.le_refl _) _).trans ⟨hgrow6.os, hgrow6.tape, hgrow6.output, hgrow6.size, fun k hk => hgrow6.block k (by simp; omega) (fun e => by simp [Value.ownBlock] at e; omega)⟩
  have hs6 : w5.heap.size ≤ w6.heap.size := HB6.out.size
  have h6 : w6.ownsRow w5.heap.size 50 8 (.slice (some ⟨g6, 0, none⟩) ss.length cap6) ss.length (flatK ss nvs ss.length) := by simpa using hown6
  have HO6 : Hid (w6.ownsRow w5.heap.size 50 8 (.slice (some ⟨g6, 0, none⟩) ss.length cap6) ss.length (flatK ss nvs ss.length)) := h6
  clear h6 hown6 hgrow6 hat6 hlt6 HE5
  go_wp2_with (at_builtin; refine wpList_append_lies _ rfl _ _ 30 rfl w5.heap.size 50 i1 (.agg #[.int .i64 0, .int .i64 0, .int .i64 0, .int .i64 0, .int .i64 0, .int .i64 0, .int .i64 0, .slice none 0 0]) 8 80 Tryd.underlying30 hj hy0 hy1 hy2 rfl (by decide) (.slice (some ⟨g6, 0, none⟩) ss.length cap6) ss.length (flatK ss nvs ss.length) rfl (HO6.out.alloc _) ⟨w6.heap.size, 0, none⟩ 1 1 (cells8 endSt (.slice none 0 0)) rfl rfl (cells8D_new w6 endSt (.slice none 0 0) 50 rfl) (cells8D_one endSt none 0 0) (by decide) (by unfold maxLen; omega) (by omega) (by simp; omega) (w6.heap.size + 1) (by simp) ?_)
  intro g7 cap7 w7 hown7 hgrow7 hat7 hlt7
  have HB7 : Hid (Below w5.heap.size w5 w7) := HB6.out.trans (((Below.refl _ _).alloc hs6 _).trans ⟨hgrow7.os, hgrow7.tape, hgrow7.output, hgrow7.size, fun k hk => hgrow7.block k (by simp; omega) (fun e => by have := (HO6.out.lt k e.symm).1; omega)⟩)
  have hst7 : StepsAt w7 (.slice (some ⟨g7, 0, none⟩) (ss.length + 1) cap7) (ss ++ [endSt]) := steps_end hown7 fun i hi => (HNVS.out i hi).2.keep HB7.out
  have HP7 : Hid (PW w7 (.slice (some ⟨g7, 0, none⟩) (ss.length + 1) cap7) (.slice A2 inp.length c2) (ss ++ [endSt]) inp a0 a1 a2) := ⟨hst7, (HP5.out.keep HB7.out).ints, (HP5.out.keep HB7.out).sen⟩
  have HR7 : Hid (ResA w7 (.agg #[.int .i64 ((runOfR ss inp most).code : Int), .slice A5 (runOfR ss inp most).outs.length c5, .slice A6 (runOfR ss inp most).path.length c6]) (runOfR ss inp most)) := HR5.out.keep HB7.out
  have HBW7 : Hid (Below w.heap.size w w7) := HBW5.out.trans (HB7.out.mono HBW5.out.size)
  have r0 := cell_keep HB7.out q0
  have r1 := cell_keep HB7.out q1
  have r2 := cell_keep HB7.out q2
  have hlE : (ss ++ [endSt]).length ≤ 61 := by simp; omega
  have HLSE : Hid (∀ s ∈ ss ++ [endSt], s.next.length ≤ 61) := fun s hs => by
    rcases List.mem_append.1 hs with hs | hs
    · exact HLS.out s hs
    · rw [List.mem_singleton] at hs; subst hs; simp [endSt]
  have HLSE1 : Hid (∀ s ∈ ss ++ [endSt], s.next.length ≤ 1048576) := fun s hs => Nat.le_trans (HLSE.out s hs) (by decide)
  have hlE1 : (ss ++ [endSt]).length ≤ 1048576 := by omega
  have HB8 : Hid (∀ O, Below w7.heap.size w7 (w7.alloc O)) := fun O => (Below.refl _ _).alloc (Nat.le_refl _) O
  have l37 : w3.heap.size < w7.heap.size := cell_lt r0
  have l37' : w3.heap.size ≠ w7.heap.size := by omega
  clear hown7 hgrow7 hat7 hlt7 hst7 HO6 HB6 HB7 p5 q0 q1 q2 HR5 HP5
  generalize ss ++ [endSt] = ss2 at *
  go_wp2_with fail
  go_region_held3 (fun wx => wx.cell? ⟨w7.heap.size, 0, none⟩ = some (.slice (some ⟨g7, 0, none⟩) (ss.length + 1) cap7) ∧ wx.cell? ⟨w3.heap.size, 0, none⟩ = some (.int .i64 ((runOfR ss inp most).code : Int)) ∧ wx.cell? ⟨w3.heap.size, 1, none⟩ = some (.slice A5 (runOfR ss inp most).outs.length c5) ∧ wx.cell? ⟨w3.heap.size, 2, none⟩ = some (.slice A6 (runOfR ss inp most).path.length c6)) (go_keep) (first | (go_at_call 31; refine implOk_any _ ss2 _ ((HP7.out.keep (((HB8.out _).drew))).st) hlE1 HLSE1.out ?_; intro w9 hb9; rw [HOKE.out]; have hbw9 : Below w7.heap.size w7 w9 := ((HB8.out _).drew).trans (hb9.mono (by simp)); have y0 : w9.cell? ⟨w7.heap.size, 0, none⟩ = some (.slice (some ⟨g7, 0, none⟩) (ss.length + 1) cap7) := cell_keep hb9 (by simp [go_sem]); have y1 := cell_keep hbw9 r0; have y2 := cell_keep hbw9 r1; have y3 := cell_keep hbw9 r2; clear hb9) | (go_at_call 16; refine implRun_w most _ (HP7.out.keep hbw9) hlE HLSE.out hil' ?_; intro v10 w10 hb10 hr10; have hbw10 : Below w7.heap.size w7 w10 := hbw9.trans (hb10.mono hbw9.size); have z0 := cell_keep hb10 y0; have z1 := cell_keep hbw10 r0; have z2 := cell_keep hbw10 r1; have z3 := cell_keep hbw10 r2; rw [HEND.out] at hr10; obtain ⟨A8, c8, A8', c8', hv10⟩ := hr10.form; subst hv10; have HR10 : Hid _ := hr10; clear hb10 hr10) | (go_at_call 25; refine lkResult_any _ _ (runOfR ss inp most) _ HR10.out (HR7.out.keep hbw10) (by omega) (by omega) ?_; intro w11 hb11; have hbw11 : Below w7.heap.size w7 w11 := hbw10.trans (hb11.mono hbw10.size); have x0 := cell_keep hb11 z0; have x1 := cell_keep hbw11 r0; have x2 := cell_keep hbw11 r1; have x3 := cell_keep hbw11 r2; clear hb11))
  all_goals
    have HBZ : Hid (Below w.heap.size w w11) := HBW7.out.trans (hbw11.mono HBW7.out.size)
    clear x0 x1 x2 x3 y0 y1 y2 y3 z0 z1 z2 z3 hbw9 hbw10 hbw11
    go_wp2
    exact HQ.out _ HBZ.out

set_option maxRecDepth 100000 in
theorem contract (H : Type) (enc : TypeId × Value → H) (W : World) (base : Nat) (args : Array Value) (ds gs : List (DataW H)) (before : List MemPlace)
    (hval : ∀ (j : Nat) t v, Tryd.f10.params[j]? = some t → args[j]? = some v → Value.okWide Tryd.prog W .any base t v)
    (hW : DataW.Whole enc Tryd.prog Tryd.f10.params.toList Rows.fnProgEndSpec.vars false W args.toList ds gs before) (hL : laidMetH Tryd.prog Rows.fnProgEndRow.laid W) :
    Calls Tryd.prog 10 args W fun e W' => ∃ v, e = .returned v ∧ Rows.fnProgEndSpec.post enc Tryd.prog Tryd.f10 false true false false W args v W' := by
  have hW' := hW
  obtain ⟨p, q, hA0, hV, rfl, hfz, hnd⟩ := hW
  have hA : DataW.TrodAll enc Tryd.prog W 0 (fun _ => true) true Tryd.f10.params.toList args.toList ds p := hA0
  rw [Tryd.params10] at hA hval
  obtain ⟨v0, vs0, d0, ds0, p0, q0, hargs, rfl, rfl, h0, r0⟩ := trodAll_cons hA
  obtain ⟨rfl, rfl, rfl⟩ := trodAll_nil r0
  obtain rfl : args = #[v0] := by cases args; simp_all
  obtain ⟨y1, y2, y3, rfl⟩ := vars3 hV
  obtain ⟨a0, a1, a2, hs⟩ := sen_of_laid hL
  have k0 := h0
  have lt0 : ∀ x ∈ p0, x.block < W.heap.size := by obtain ⟨m, hm⟩ := k0; exact DataW.trod_lt m _ _ _ hm
  have c0 := open_code (hval 0 42 v0 rfl rfl) h0
  clear hA0
  refine law_walk v0 W a0 a1 a2 hs c0 fun W' bel => ?_
  exact ⟨_, rfl, _, _, _, [], _, q, hW', trodAll_mk1 (shut_bool Tryd.underlying4 _), (trodAll_cons_mk (Below.trod laidOut (by kernel_rfl) (of_decide_eq_true (by kernel_rfl)) k0 bel lt0) trodAll_mk0), bel.trodVars laidOut (by kernel_rfl) hV, bel.frame _, fun h => by cases h⟩

set_option maxRecDepth 100000 in
theorem lifted (os : Os) (started : os.Started) (H : Type) (enc : TypeId × Value → H) :
    ReturnsInHanded {} Tryd.checked os 10 .any (fun w args => (Rows.fnProgEndSpec.pre enc Tryd.prog Tryd.f10 Rows.fnProgEndRow.domain false w args ∧ laidMetH Tryd.prog Rows.fnProgEndRow.laid w) ∧ sizedMet enc Tryd.prog Tryd.f10 (OpenSpec.ofChange Rows.fnProgEndSpec) false w args)
      (Rows.fnProgEndSpec.post enc Tryd.prog Tryd.f10 false true false false) := by
  refine returnsInHanded_of_change_and (C := Tryd.checked) (X := fun w _ => laidMetH Tryd.prog Rows.fnProgEndRow.laid w) (fun _ _ _ hh h => h.of_heap hh) own started (by kernel_rfl) Tryd.func10
    (ChangeSpec.witness_shaped (enc := enc) (C := Tryd.checked) (os := os) (X := fun w _ => laidMetH Tryd.prog Rows.fnProgEndRow.laid w) false (World.laidAll Tryd.prog os Rows.fnProgEndRow.laid) #[.slice none 0 0] 8 (World.laidAll_os _ _ _)
      (World.shaped_of_ZipB (by kernel_rfl) (by kernel_rfl)) (by kernel_rfl) (by kernel_rfl) (by kernel_rfl)
      (by rw [MakeChecks.laidMetH_plain _ _ _ (by kernel_rfl)]; exact laidMet_laidAll _ (by kernel_rfl) (by kernel_rfl))) ?_
  intro W base args ds gs before hval0 hW _ _ hL _
  exact contract H enc W base args ds gs before hval0 hW hL

theorem said : Rows.FnProgEndSaid :=
  OpenClaim.holds_of_wide 10 Tryd.f10 rfl rfl rfl rfl rfl rfl rfl ⟨rfl, rfl, rfl, rfl, rfl⟩ rfl rfl rfl rfl rfl (by kernel_rfl) Tryd.func10 (by kernel_rfl)
    (of_decide_eq_true (by kernel_rfl)) (by unfold Func.isWrapper; first | (rw [if_pos (by decide +kernel)]; kernel_rfl) | (rw [if_neg (by decide +kernel)]; exact ⟨rfl, rfl⟩))
    (fun os started H enc _ => lifted os started H enc)

theorem plain (f : FuncId) (fn : Func) (hf : Tryd.pinned.checked.prog.funcNamed Rows.fnProgEndRow.func = some f) (hfn : Tryd.pinned.checked.prog.funcs[f]? = some fn) :
    true = Tryd.pinned.checked.prog.looks [] ∧ ∀ (j : Nat) t, fn.params[j]? = some t → Tryd.pinned.checked.prog.wantsStandIn t = false := by
  obtain rfl : f = 10 := Option.some.inj ((show Tryd.prog.funcNamed Rows.fnProgEndRow.func = some 10 by kernel_rfl).symm.trans hf) |>.symm
  obtain rfl : fn = Tryd.f10 := (Option.some.inj (Tryd.func10.symm.trans hfn)).symm
  refine ⟨by kernel_rfl, fun j t ht => ?_⟩
  rw [Tryd.params10] at ht
  obtain rfl : t = 42 := by simpa using Array.mem_of_getElem? ht
  exact (show Tryd.prog.wantsStandIn 42 = false by kernel_rfl)

theorem fnProgEnd_card : Rows.FnProgEndCardSaid :=
  Claim7.holds_tied_plain_at .later [] _ _ _ _ said (fun _ h => by cases h) (by kernel_rfl) (fun _ h => by cases h) fnProgEnd_row_tie rfl ⟨rfl, rfl⟩ (by kernel_rfl) rfl plain (by kernel_rfl)
#print axioms fnProgEnd_card
end Go.Proofs.YtnlcdecokpdkpaaDoor
