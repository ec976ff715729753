/-
  At every program that comes in, however made, LoopFront answers as the model does, changes nothing of what came in, and its answer is memory of its own: the law FnExactLoopFront answers true. The row lists one table of the library (laid), and the card ties it to the program's text: no other condition.
-/
import Derived.Test.YtljlgffkhocgkaaDoorCards
import Derived.Test.YtljlgffkhocgkaaDoorTie
import Derived.Test.YtljlgffkhocgkaaDoorSz
import Derived.Test.YtljlgffkhocgkaaDoorTo
import Derived.Test.YtljlgffkhocgkaaDoorEq
import Derived.Test.YtljlgffkhocgkaaDoorMarkP
import Derived.Test.YtljlgffkhocgkaaDoorOpen
import Derived.Test.YtljlgffkhocgkaaDoorSpecLF
import Derived.Test.YtljlgffkhocgkaaDoorImplLF
import Derived.Test.YtljlgffkhocgkaaDoorAnsII
import Derived.OpenShut
import Derived.ShutString
import Derived.ChangeOld
import Derived.Below
import Derived.Deep.DeepHandedRow
import Derived.Lib.LaidTab
namespace Go.Proofs.YtljlgffkhocgkaaDoor
open Go.ChangeShapes Go.WideShapes Go.ChangeAt Go.RowKit

theorem own : ownKnob Tryd.prog.godebug = none := by kernel_rfl
theorem laidOut : laidOutB Tryd.prog = true := by kernel_rfl

set_option maxRecDepth 100000 in
set_option maxHeartbeats 8000000 in
theorem law_walk (v : Value) (ss : List St) (w : World) (h : StepsAt w v ss) (hT : ∀ W, Below w.heap.size w W → Tab W ∧ 0 < W.heap.size) (hl : ss.length ≤ 9223372036854775807) (hls : ∀ s ∈ ss, s.next.length ≤ 9223372036854775807) {Q : Ending → World → Prop}
    (hQ : ∀ w', Below w.heap.size w w' → Q (.returned (.bool true)) w') :
    Calls Tryd.prog 4 #[.agg #[v]] w Q := by
  have HQ : Hid (∀ w', Below w.heap.size w w' → Q (.returned (.bool true)) w') := hQ
  have HTK : Hid (∀ W, Below w.heap.size w W → Tab W ∧ 0 < W.heap.size) := hT
  clear hQ hT
  obtain ⟨ao, b, o, cap, rfl, ha, hc⟩ := id h
  have HH : Hid (StepsAt w (.slice ao ss.length cap) ss) := h
  have HL : Hid (∀ s ∈ ss, s.next.length ≤ 9223372036854775807) := hls
  clear ha hc h hls
  go_enter Tryd.func4, Tryd.ntmps4
  go_wp2_with fail
  have hb0 : ∀ O, Below w.heap.size w (w.alloc O) := fun O => (Below.refl _ _).alloc (Nat.le_refl _) O
  refine szProg_any (.slice ao ss.length cap) ss 1048576 _ (HH.out.keep (hb0 _)) hl HL.out (by omega) (by omega) fun r w1 hr hz hb1 => ?_
  have hbA : Below w.heap.size w w1 := (hb0 _).trans (hb1.mono (by simp))
  have q1 : w1.cell? ⟨w.heap.size, 0, none⟩ = some (.slice ao ss.length cap) := cell_keep hb1 (by simp [go_sem])
  have HZ : Hid (0 ≤ r → ss.length ≤ (1048576 : Int) ∧ ∀ s ∈ ss, s.next.length ≤ (1048576 : Int)) := hz
  clear hb1 hb0 hz
  by_cases hneg : r < 0
  · go_wp2
    exact HQ.out _ hbA
  have hn : ss.length ≤ 1048576 := by have := (HZ.out (by omega)).1; omega
  have HN : Hid (∀ s ∈ ss, s.next.length ≤ 1048576) := fun s hs => by have := (HZ.out (by omega)).2 s hs; omega
  clear HZ HL hl
  go_wp2_with fail
  refine toProg_any (.slice ao ss.length cap) ss _ (HH.out.keep hbA) hn HN.out fun v2 w2 hs2 hb2 => ?_
  have hbB : Below w.heap.size w w2 := hbA.trans (hb2.mono hbA.size)
  have q2 := cell_keep hb2 q1
  obtain ⟨ao2, b2, o2, cap2, hv2, _, _, _⟩ := id hs2
  subst hv2
  have HS2 : Hid (StepsAt w2 (.slice ao2 ss.length cap2) ss) := hs2.at
  clear hb2 hs2 q1 hbA
  go_wp2_with fail
  refine specLoopFront_any _ ss _ HS2.out hn HN.out fun v3 rs w3 hb3 hrs hown3 => ?_
  have hbC : Below w.heap.size w w3 := hbB.trans (hb3.mono hbB.size)
  have q3 := cell_keep hb3 q2
  have s3 : w.heap.size < w3.heap.size := cell_lt q3
  have B3 : RowsI w2.heap.size w3.heap.size w3 v3 rs := hown3
  have HRS : Hid (FrontOr ss rs) := hrs
  obtain ⟨hrl, hrls⟩ := FrontOr.bound hrs
  have HRLS : Hid _ := hrls
  clear hrls
  obtain ⟨A3, c3, hv3⟩ := B3.slice
  subst hv3
  have HB3 : Hid (RowsI w2.heap.size w3.heap.size w3 (.slice A3 rs.length c3) rs) := B3
  clear hb3 HS2 q2 hbB hrs hown3 B3
  go_wp2_with fail
  refine toProg_own (.slice ao ss.length cap) ss _ (HH.out.keep hbC) hn HN.out fun v4 w4 hs4 hb4 => ?_
  have hbD : Below w.heap.size w w4 := hbC.trans (hb4.mono hbC.size)
  have q4 := cell_keep hb4 q3
  have s34 : w3.heap.size ≤ w4.heap.size := hb4.size
  have HB4 : Hid (RowsI w2.heap.size w3.heap.size w4 (.slice A3 rs.length c3) rs) := HB3.out.keep hb4
  obtain ⟨b4, f4, hv4, _⟩ := id hs4
  subst hv4
  have HS4 : Hid (StepsOwn w3.heap.size w4 (.slice (some ⟨b4, 0, none⟩) ss.length ss.length) ss) := hs4
  clear hb4 hs4 q3 hbC HB3
  go_wp2_with fail
  have hb5 : ∀ O, Below w4.heap.size w4 (w4.alloc O) := fun O => (Below.refl _ _).alloc (Nat.le_refl _) O
  have hT5 : ∀ O, Below w.heap.size w (w4.alloc O) := fun O => hbD.trans ((hb5 O).mono hbD.size)
  refine implLoopFront_any _ ss _ (HS4.out.at.keep (hb5 _)) (HTK.out _ (hT5 _)).1 (HTK.out _ (hT5 _)).2 hn HN.out fun v6 rs6 w6 hb6 hrs6 hown6 => ?_
  obtain rfl : rs6 = rs := hrs6.unique HRS.out
  have hb46 : Below w4.heap.size w4 w6 := (hb5 _).trans (hb6.mono (by simp))
  have hbE : Below w.heap.size w w6 := hbD.trans (hb46.mono (by omega))
  have q6 := cell_keep hb46 q4
  have x6 : w6.cell? ⟨w4.heap.size, 0, none⟩ = some (.slice (some ⟨b4, 0, none⟩) ss.length ss.length) := cell_keep hb6 (by simp [go_sem])
  have hown6' := hown6.lower (show w4.heap.size + 1 ≤ _ by simp)
  have B6 : RowsI (w4.heap.size + 1) w6.heap.size w6 v6 rs6 := hown6'
  obtain ⟨A6, c6, hv6⟩ := B6.slice
  subst hv6
  have HB6 : Hid (RowsI (w4.heap.size + 1) w6.heap.size w6 (.slice A6 rs6.length c6) rs6) := B6
  have HA6 : Hid (RowsI w2.heap.size w3.heap.size w6 (.slice A3 rs6.length c3) rs6) := HB4.out.keep hb46
  have HS6 : Hid (StepsOwn w3.heap.size w6 (.slice (some ⟨b4, 0, none⟩) ss.length ss.length) ss) := HS4.out.keep hb46
  have HM6 : Hid (StepsMay w3.heap.size w4.heap.size w6 (.slice (some ⟨b4, 0, none⟩) ss.length ss.length) (ss.map (fun s => s.next.length))) := HS4.out.may.keep hb46
  have HP6 : Hid (StepsAt w6 (.slice ao ss.length cap) ss) := HH.out.keep hbE
  have s6 : w4.heap.size < w6.heap.size := cell_lt x6
  clear hT5 hb6 hb46 hb5 hbD q4 HS4 HB4 hrs6 hown6 hown6' B6
  go_wp2_with fail
  refine eqIntSS_any _ _ rs6 _ _ _ _ _ HB6.out HA6.out hrl HRLS.out fun w7 hb7 => ?_
  have hbF : Below w.heap.size w w7 := hbE.trans (hb7.mono hbE.size)
  have q7 := cell_keep hb7 q6
  have x7 := cell_keep hb7 x6
  have s7 : w6.heap.size ≤ w7.heap.size := hb7.size
  have HB7 : Hid (RowsI (w4.heap.size + 1) w6.heap.size w7 (.slice A6 rs6.length c6) rs6) := HB6.out.keep hb7
  have HA7 : Hid (RowsI w2.heap.size w3.heap.size w7 (.slice A3 rs6.length c3) rs6) := HA6.out.keep hb7
  have HS7 : Hid (StepsAt w7 (.slice (some ⟨b4, 0, none⟩) ss.length ss.length) ss) := HS6.out.at.keep hb7
  have HM7 : Hid (StepsMay w3.heap.size w4.heap.size w7 (.slice (some ⟨b4, 0, none⟩) ss.length ss.length) (ss.map (fun s => s.next.length))) := HM6.out.keep hb7
  have HP7 : Hid (StepsAt w7 (.slice ao ss.length cap) ss) := HP6.out.keep hb7
  clear hb7 q6 x6 HB6 HA6 HS6 HM6 HP6 hbE
  go_wp2_with fail
  go_region_with (first | (go_at_call 8; refine toProg_any (.slice ao ss.length cap) ss _ (HP7.out.keep (below_drewN (Below.refl _ _) 1)) hn HN.out ?_; intro v8 w8 hs8 hb8; have hb78 : Below w7.heap.size w7 w8 := ⟨hb8.os, hb8.tape, hb8.output, hb8.size, hb8.block⟩; have x8 := cell_keep hb78 x7) | (go_at_call 12; refine eqProg_any _ _ ss _ (HS7.out.keep hb78) hs8.at hn HN.out ?_; intro w9 hb9))
  all_goals
    have hb79 : Below w7.heap.size w7 w9 := hb78.trans (hb9.mono hb78.size)
    have q9 := cell_keep hb79 q7
    have x9 := cell_keep hb79 x7
    have s9 : w7.heap.size ≤ w9.heap.size := hb79.size
    have hbG : Below w.heap.size w w9 := hbF.trans (hb79.mono hbF.size)
    have HB9 : Hid (RowsI (w4.heap.size + 1) w6.heap.size w9 (.slice A6 rs6.length c6) rs6) := HB7.out.keep hb79
    have HA9 : Hid (RowsI w2.heap.size w3.heap.size w9 (.slice A3 rs6.length c3) rs6) := HA7.out.keep hb79
    have HM9 : Hid (StepsMay w3.heap.size w4.heap.size w9 (.slice (some ⟨b4, 0, none⟩) ss.length ss.length) (ss.map (fun s => s.next.length))) := HM7.out.keep hb79
    clear hb8 hs8 hb78 hb9 hb79 x8 q7 x7 HB7 HA7 HS7 HM7 HP7 hbF
    go_wp2_with fail
    refine markProg_may _ _ _ _ _ HM9.out (by simpa using hn) (by intro n hn; simp only [List.mem_map] at hn; obtain ⟨s, hs, rfl⟩ := hn; exact HN.out s hs) fun k1 w10 hk1 ho1 => ?_
    have q10 := ho1.cell q9 (Or.inl (by show w.heap.size < w3.heap.size; omega))
    have s10 : w9.heap.size ≤ w10.heap.size := ho1.size
    have hbI : Below w.heap.size w w10 := hbG.trans (ho1.below (by omega) (by omega))
    have HB10 : Hid (RowsI (w4.heap.size + 1) w6.heap.size w10 (.slice A6 rs6.length c6) rs6) := HB9.out.out ho1 (Or.inr (by omega))
    have HA10 : Hid (RowsI w2.heap.size w3.heap.size w10 (.slice A3 rs6.length c3) rs6) := HA9.out.out ho1 (Or.inl (by omega))
    have hk0 : ¬ (k1 : Int) < 0 := by omega
    clear ho1 q9 x9 HB9 HA9 HM9 hbG
    go_wp2_with fail
    refine eqIntSS_any _ _ rs6 _ _ _ _ _ HB10.out HA10.out hrl HRLS.out fun w11 hb11 => ?_
    have hbJ : Below w.heap.size w w11 := hbI.trans (hb11.mono hbI.size)
    have q11 := cell_keep hb11 q10
    have s11 : w10.heap.size ≤ w11.heap.size := hb11.size
    have HB11 : Hid (RowsI (w4.heap.size + 1) w6.heap.size w11 (.slice A6 rs6.length c6) rs6) := HB10.out.keep hb11
    have HA11 : Hid (RowsI w2.heap.size w3.heap.size w11 (.slice A3 rs6.length c3) rs6) := HA10.out.keep hb11
    clear hb11 q10 HB10 HA10 hbI
    go_wp2_with fail
    refine markIntSS_any _ rs6 1 _ _ _ HB11.out (by omega) hrl HRLS.out fun w12 ho12 hm12 => ?_
    have q12 := ho12.cell q11 (Or.inl (by show w.heap.size < w4.heap.size + 1; omega))
    have s12 : w11.heap.size ≤ w12.heap.size := ho12.size
    have hbK : Below w.heap.size w w12 := hbJ.trans (ho12.below (by omega) (by omega))
    have HA12 : Hid (RowsI w2.heap.size w3.heap.size w12 (.slice A3 rs6.length c3) rs6) := HA11.out.out ho12 (Or.inl (by omega))
    have HM12 : Hid (RowsI (w4.heap.size + 1) w6.heap.size w12 (.slice A6 rs6.length c6) (marksI 1 rs6)) := hm12
    clear ho12 hm12 q11 HB11 HA11 hbJ
    go_wp2_with fail
    refine heldIntSS_any _ 1 rs6 _ _ _ HM12.out (by omega) hrl HRLS.out fun w13 hb13 => ?_
    have q13 := cell_keep hb13 q12
    have hbL : Below w.heap.size w w13 := hbK.trans (hb13.mono hbK.size)
    have HA13 : Hid (RowsI w2.heap.size w3.heap.size w13 (.slice A3 rs6.length c3) rs6) := HA12.out.keep hb13
    have HM13 : Hid (RowsI (w4.heap.size + 1) w6.heap.size w13 (.slice A6 rs6.length c6) (marksI 1 rs6)) := HM12.out.keep hb13
    clear hb13 q12 HA12 HM12 hbK
    go_wp2_with fail
    refine toProg_any (.slice ao ss.length cap) ss _ (HH.out.keep hbL) hn HN.out fun v14 w14 hs14 hb14 => ?_
    have q14 := cell_keep hb14 q13
    have hbM : Below w.heap.size w w14 := hbL.trans (hb14.mono hbL.size)
    have HA14 : Hid (RowsI w2.heap.size w3.heap.size w14 (.slice A3 rs6.length c3) rs6) := HA13.out.keep hb14
    have HM14 : Hid (RowsI (w4.heap.size + 1) w6.heap.size w14 (.slice A6 rs6.length c6) (marksI 1 rs6)) := HM13.out.keep hb14
    obtain ⟨ao14, b14, o14, cap14, hv14, _, _, _⟩ := id hs14
    subst hv14
    have HS14 : Hid (StepsAt w14 (.slice ao14 ss.length cap14) ss) := hs14.at
    clear hb14 hs14 q13 HA13 HM13 hbL
    go_wp2_with fail
    refine implLoopFront_any _ ss _ HS14.out (HTK.out _ hbM).1 (HTK.out _ hbM).2 hn HN.out fun v15 rs15 w15 hb15 hrs15 hown15 => ?_
    obtain rfl : rs15 = rs6 := hrs15.unique HRS.out
    have hbN : Below w.heap.size w w15 := hbM.trans (hb15.mono hbM.size)
    have HA15 : Hid (RowsI w2.heap.size w3.heap.size w15 (.slice A3 rs15.length c3) rs15) := HA14.out.keep hb15
    have HM15 : Hid (RowsI (w4.heap.size + 1) w6.heap.size w15 (.slice A6 rs15.length c6) (marksI 1 rs15)) := HM14.out.keep hb15
    have B15 : RowsI w14.heap.size w15.heap.size w15 v15 rs15 := hown15
    obtain ⟨A15, c15, hv15⟩ := B15.slice
    subst hv15
    have HB15 : Hid (RowsI w14.heap.size w15.heap.size w15 (.slice A15 rs15.length c15) rs15) := B15
    clear hb15 hrs15 hown15 B15 HS14 HA14 HM14 hbM q14
    go_wp2_with fail
    refine eqIntSS_any _ _ rs15 _ _ _ _ _ HB15.out HA15.out hrl HRLS.out fun w16 hb16 => ?_
    have hbO : Below w.heap.size w w16 := hbN.trans (hb16.mono hbN.size)
    have HM16 : Hid (RowsI (w4.heap.size + 1) w6.heap.size w16 (.slice A6 rs15.length c6) (marksI 1 rs15)) := HM15.out.keep hb16
    clear hb16 HB15 HA15 HM15 hbN
    go_wp2_with fail
    refine heldIntSS_any _ 1 rs15 _ _ _ HM16.out (by omega) hrl HRLS.out fun w17 hb17 => ?_
    have hbP : Below w.heap.size w w17 := hbO.trans (hb17.mono hbO.size)
    clear hb17 HM16 hbO
    go_wp2
    exact HQ.out _ hbP

theorem gTab : Tryd.prog.globalNamed "math/bits.deBruijn64tab" = some 0 := by kernel_rfl
theorem gTabType : (Tryd.prog.globals[0]?).map (·.type) = some 148 := by kernel_rfl

theorem tab_of_laid {W : World} (h : laidMetH Tryd.prog Rows.fnExactLoopFrontRow.laid W) : Tab W := by
  have h1 := laidMetH.filter (fun x => x.1 == "math/bits.deBruijn64tab") h
  have h2 : Lib.TabIs Tryd.prog W "math/bits.deBruijn64tab" .u8 (Lib.deBruijn64tab.map Int.ofNat) := Lib.tabIs_of_head (rest := []) gTab gTabType Tryd.underlying148 Tryd.underlying5 (by kernel_rfl) (by kernel_rfl) h1
  intro j hj
  have h3 := h2.cell gTab j (by simpa using hj)
  rw [h3]
  simp only [List.getD, List.getElem?_map]
  cases Lib.deBruijn64tab[j]? <;> rfl

theorem Tab.lt {W : World} (h : Tab W) : 0 < W.heap.size := cell_lt (h 0 (by decide))

/-- The numbers of a table, as cells. -/
def tableCells : DataW Unit → Array Value
  | .agg l => (l.map fun | .lit (.int k n) => Value.int k n | _ => Value.int .i64 0).toArray
  | _ => #[]

/-- A world whose first blocks hold the library's tables. -/
def withTables (W : World) : World :=
  { W with heap := W.heap.modify 0 fun
      | .cells _ t frozen => .cells (tableCells Rows.laid_math_bits_deBruijn64tab) t frozen
      | o => o }

theorem laid_met (os : Os) : laidMet Tryd.prog Rows.fnExactLoopFrontRow.laid ((withTables (World.holding Tryd.prog os ⟨#[], #[], []⟩)).forCall (fun _ _ => 0) ⟨#[], #[.agg #[.slice none 0 0]], []⟩).memory :=
  laidMet_of_run' 8 (by kernel_rfl) (by kernel_rfl)
theorem reads (os : Os) {H : Type} (enc : TypeId × Value → H) : ∃ places, DataW.whole enc Tryd.prog ((withTables (World.holding Tryd.prog os ⟨#[], #[], []⟩)).forCall (fun _ _ => 0) ⟨#[], #[.agg #[.slice none 0 0]], []⟩).memory Tryd.f4.params.toList Rows.fnExactLoopFrontSpec.vars false #[Value.agg #[.slice none 0 0]].toList 8 = some ([.agg [.nil]], [], places) :=
  ⟨[], by kernel_rfl⟩

set_option maxRecDepth 100000 in
theorem contract (H : Type) (enc : TypeId × Value → H) (W : World) (base : Nat) (args : Array Value) (ds gs : List (DataW H)) (before : List MemPlace)
    (hval : ∀ (j : Nat) t v, Tryd.f4.params[j]? = some t → args[j]? = some v → Value.okWide Tryd.prog W .any base t v)
    (hW : DataW.Whole enc Tryd.prog Tryd.f4.params.toList Rows.fnExactLoopFrontSpec.vars false W args.toList ds gs before) (hL : laidMetH Tryd.prog Rows.fnExactLoopFrontRow.laid W) :
    Calls Tryd.prog 4 args W fun e W' => ∃ v, e = .returned v ∧ Rows.fnExactLoopFrontSpec.post enc Tryd.prog Tryd.f4 false true false false W args v W' := by
  have hW' := hW
  obtain ⟨p, q, hA0, hV, rfl, hfz, hnd⟩ := hW
  have hA : DataW.TrodAll enc Tryd.prog W 0 (fun _ => true) true Tryd.f4.params.toList args.toList ds p := hA0
  rw [Tryd.params4] at hA hval
  obtain ⟨v0, vs0, d0, ds0, p0, q0, hargs, rfl, rfl, h0, r0⟩ := trodAll_cons hA
  obtain ⟨rfl, rfl, rfl⟩ := trodAll_nil r0
  obtain rfl : args = #[v0] := by cases args; simp_all
  obtain ⟨rfl, rfl⟩ := trodVars_none hV
  have k0 := h0
  have lt0 : ∀ x ∈ p0, x.block < W.heap.size := by obtain ⟨m, hm⟩ := k0; exact DataW.trod_lt m _ _ _ hm
  obtain ⟨u, ss, hv0, hs, hl, hls⟩ := open_prog (hval 0 24 v0 rfl rfl) h0
  subst hv0
  clear hA0
  refine law_walk u ss W hs (fun X hX => ⟨(tab_of_laid hL).keep hX, Nat.lt_of_lt_of_le (Tab.lt (tab_of_laid hL)) hX.size⟩) hl hls fun W' bel => ?_
  exact ⟨_, rfl, _, _, _, [], _, [], hW', trodAll_mk1 (shut_bool Tryd.underlying4 _), (trodAll_cons_mk (Below.trod laidOut (by kernel_rfl) (of_decide_eq_true (by kernel_rfl)) k0 bel lt0) trodAll_mk0), rfl, bel.frame _, fun h => by cases h⟩

set_option maxRecDepth 100000 in
theorem lifted (os : Os) (started : os.Started) (H : Type) (enc : TypeId × Value → H) (F : Stop.Interp) :
    ReturnsInHanded {} Tryd.checked os 4 .any ((OpenSpec.ofChange Rows.fnExactLoopFrontSpec).preRow enc Tryd.prog Tryd.f4 Rows.fnExactLoopFrontRow.domain false Rows.fnExactLoopFrontRow.laid) (((OpenSpec.ofChange Rows.fnExactLoopFrontSpec).at F).post enc Tryd.prog Tryd.f4 false true false false) := by
  obtain ⟨places, hx⟩ := reads os enc
  refine returnsInHanded_of_row (C := Tryd.checked) (s := OpenSpec.ofChange Rows.fnExactLoopFrontSpec) own started (by kernel_rfl) Tryd.func4
    (witness_row_at (enc := enc) (C := Tryd.checked) false (withTables (World.holding Tryd.prog os ⟨#[], #[], []⟩)) #[.agg #[.slice none 0 0]] rfl (by kernel_rfl) (by kernel_rfl) (by kernel_rfl)
      (OpenSpec.preRow_of_cond 8 hx (by kernel_rfl) (fun k hk => by cases hk) (by kernel_rfl) (laid_met os))) ?_
  intro W base args ds gs before hval hW _ _ _ hL _ _
  exact contract H enc W base args ds gs before hval hW hL

theorem said : Rows.FnExactLoopFrontSaid :=
  OpenClaim.holds_of_cond 4 Tryd.f4 rfl rfl rfl rfl rfl rfl rfl ⟨rfl, rfl, rfl, rfl, rfl⟩ rfl rfl rfl rfl rfl (by kernel_rfl) Tryd.func4 (by kernel_rfl)
    (of_decide_eq_true (by kernel_rfl)) (by unfold Func.isWrapper; first | (rw [if_pos (by decide +kernel)]; kernel_rfl) | (rw [if_neg (by decide +kernel)]; exact ⟨rfl, rfl⟩))
    (fun os started H enc _ F => by rw [OpenClaim.pre_eq_preRow]; exact lifted os started H enc F)

theorem plain (f : FuncId) (fn : Func) (hf : Tryd.pinned.checked.prog.funcNamed Rows.fnExactLoopFrontRow.func = some f) (hfn : Tryd.pinned.checked.prog.funcs[f]? = some fn) :
    false = Tryd.pinned.checked.prog.looks [] ∧ ∀ (j : Nat) t, fn.params[j]? = some t → Tryd.pinned.checked.prog.wantsStandIn t = false := by
  obtain rfl : f = 4 := Option.some.inj ((show Tryd.prog.funcNamed Rows.fnExactLoopFrontRow.func = some 4 by kernel_rfl).symm.trans hf) |>.symm
  obtain rfl : fn = Tryd.f4 := (Option.some.inj (Tryd.func4.symm.trans hfn)).symm
  refine ⟨by kernel_rfl, fun j t ht => ?_⟩
  rw [Tryd.params4] at ht
  obtain rfl : t = 24 := by simpa using Array.mem_of_getElem? ht
  exact (show Tryd.prog.wantsStandIn 24 = false by kernel_rfl)

theorem fnExactLoopFront_card : Rows.FnExactLoopFrontCardSaid :=
  Claim7.holds_tied_plain_at .later [] _ _ _ _ said (fun _ h => by cases h) (by kernel_rfl) (fun _ h => by cases h) fnExactLoopFront_row_tie rfl ⟨rfl, rfl⟩ (by kernel_rfl) rfl plain (by kernel_rfl)
#print axioms fnExactLoopFront_card
end Go.Proofs.YtljlgffkhocgkaaDoor
