/-
  For every code of bytes, with more steps a run of the program that is drawn from it goes on: what it let out, and did, is the beginning of what it does then, and one that ended stays: the law FnRunMore answers true. No condition.
-/
import Derived.Test.YtnlcdecokpdkpaaDoorRows
import Derived.Test.YtnlcdecokpdkpaaDoorCards
import Derived.Test.YtnlcdecokpdkpaaDoorTie
import Derived.Test.YtnlcdecokpdkpaaDoorSents
import Derived.Test.YtnlcdecokpdkpaaDoorLkR
import Derived.Test.YtnlcdecokpdkpaaDoorLkG
import Derived.Test.YtnlcdecokpdkpaaDoorRunA
import Derived.OpenShut
import Derived.ShutString
import Derived.ChangeOld
import Derived.Below
import Derived.OpenVars
import Derived.Lay
import Derived.SevenTiedAt
import Derived.Stop.Joined
namespace Go.Proofs.YtnlcdecokpdkpaaDoor
open Go.ChangeShapes Go.WideShapes Go.ChangeAt Go.RowKit

set_option maxRecDepth 100000 in
set_option maxHeartbeats 8000000 in
theorem law_walk (v : Value) (w : World) (a0 a1 a2 : Addr) (hs : Sen w a0 a1 a2) (h : CodeAt w v) {Q : Ending → World → Prop} (hQ : ∀ w', Below w.heap.size w w' → Q (.returned (.bool true)) w') :
    Calls Tryd.prog 4 #[v] w Q := by
  have HQ : Hid (∀ w', Below w.heap.size w w' → Q (.returned (.bool true)) w') := hQ
  have HSEN : Hid (Sen w a0 a1 a2) := hs
  clear hQ hs
  have HC : Hid _ := h
  obtain ⟨ao, bb, bo, bl, cap, rfl, h1, h2, h3, h4, h5⟩ := h
  clear h3 h4 h5
  by_cases hbl : 1048576 < bl
  · go_enter Tryd.func4, Tryd.ntmps4
    go_wp2
    exact HQ.out _ (Below.refl _ _)
  go_enter Tryd.func4, Tryd.ntmps4
  go_wp2_with fail
  refine drawRunOf_any _ _ HC.out fun sv iv ss inp most w1 hS hl hls hI hN hil hb1 => ?_
  clear HC
  obtain ⟨A1, b1, o1, c1, rfl, hS'⟩ := id hS
  obtain ⟨A2, b2, o2, c2, rfl, hI'⟩ := id hI
  have HP : Hid (PW w1 (.slice A1 ss.length c1) (.slice A2 inp.length c2) ss inp a0 a1 a2) := ⟨hS.at, hI, HSEN.out.keep hb1⟩
  have HLS : Hid (∀ s ∈ ss, s.next.length ≤ 61) := hls
  have HNI : Hid (Nice (.slice A2 inp.length c2)) := hN
  have HB1 : Hid (Below w.heap.size w w1) := hb1
  have hil' : inp.length ≤ 20 := by omega
  clear hS hS' hI hI' hls hb1 hN
  obtain ⟨hrp, hro⟩ := runOfR_len ss inp most
  have hb0 : ∀ (W : World) O, Below W.heap.size W (W.alloc O) := fun W O => (Below.refl _ _).alloc (Nat.le_refl _) O
  go_wp2_with fail
  refine specRun_w most _ (HP.out.keep (hb0 _ _)) hl HLS.out hil' fun v2 w2 hb2 hr2 => ?_
  have HBA : Hid (Below w1.heap.size w1 w2) := (hb0 _ _).trans (hb2.mono (by simp))
  have p2 : w2.cell? ⟨w1.heap.size, 0, none⟩ = some (.slice A1 ss.length c1) := cell_keep hb2 (by simp [go_sem])
  have k12 : w1.heap.size < w2.heap.size := cell_lt p2
  have k12' : w1.heap.size ≠ w2.heap.size := by omega
  obtain ⟨A3, c3, A4, c4, hv2⟩ := hr2.form
  subst hv2
  have HR2 : Hid (ResA w2 (.agg #[.int .i64 ((runOfR ss inp most).code : Int), .slice A3 (runOfR ss inp most).outs.length c3, .slice A4 (runOfR ss inp most).path.length c4]) (runOfR ss inp most)) := hr2
  clear hb2 hr2
  go_wp2_with fail
  refine implRun_w most _ ((HP.out.keep HBA.out).keep (hb0 _ _)) hl HLS.out hil' fun v3 w3 hb3 hr3 => ?_
  have HBB : Hid (Below w2.heap.size w2 w3) := (hb0 _ _).trans (hb3.mono (by simp))
  have p3 := cell_keep HBB.out p2
  have s0 : w3.cell? ⟨w2.heap.size, 0, none⟩ = some (.int .i64 ((runOfR ss inp most).code : Int)) := cell_keep hb3 (by simp [go_sem])
  have s1 : w3.cell? ⟨w2.heap.size, 1, none⟩ = some (.slice A3 (runOfR ss inp most).outs.length c3) := cell_keep hb3 (by simp [go_sem])
  have s2 : w3.cell? ⟨w2.heap.size, 2, none⟩ = some (.slice A4 (runOfR ss inp most).path.length c4) := cell_keep hb3 (by simp [go_sem])
  have k13 : w1.heap.size < w3.heap.size := cell_lt p3
  have k13' : w1.heap.size ≠ w3.heap.size := by omega
  have k23 : w2.heap.size < w3.heap.size := cell_lt s0
  have k23' : w2.heap.size ≠ w3.heap.size := by omega
  obtain ⟨A5, c5, A6, c6, hv3⟩ := hr3.form
  subst hv3
  have HR3 : Hid (ResA w3 (.agg #[.int .i64 ((runOfR ss inp most).code : Int), .slice A5 (runOfR ss inp most).outs.length c5, .slice A6 (runOfR ss inp most).path.length c6]) (runOfR ss inp most)) := hr3
  clear hb3 hr3 p2
  go_wp2_with fail
  refine lkResult_any _ _ (runOfR ss inp most) _ (HR3.out.keep (hb0 _ _)) ((HR2.out.keep HBB.out).keep (hb0 _ _)) (by omega) (by omega) fun w4 hb4 => ?_
  have HBC : Hid (Below w3.heap.size w3 w4) := (hb0 _ _).trans (hb4.mono (by simp))
  have p4 := cell_keep HBC.out p3
  have e0 := cell_keep HBC.out s0
  have e1 := cell_keep HBC.out s1
  have e2 := cell_keep HBC.out s2
  have t0 : w4.cell? ⟨w3.heap.size, 0, none⟩ = some (.int .i64 ((runOfR ss inp most).code : Int)) := cell_keep hb4 (by simp [go_sem])
  have t1 : w4.cell? ⟨w3.heap.size, 1, none⟩ = some (.slice A5 (runOfR ss inp most).outs.length c5) := cell_keep hb4 (by simp [go_sem])
  have t2 : w4.cell? ⟨w3.heap.size, 2, none⟩ = some (.slice A6 (runOfR ss inp most).path.length c6) := cell_keep hb4 (by simp [go_sem])
  have HP4 : Hid (PW w4 (.slice A1 ss.length c1) (.slice A2 inp.length c2) ss inp a0 a1 a2) := ((HP.out.keep HBA.out).keep HBB.out).keep HBC.out
  have HR4 : Hid (ResA w4 (.agg #[.int .i64 ((runOfR ss inp most).code : Int), .slice A5 (runOfR ss inp most).outs.length c5, .slice A6 (runOfR ss inp most).path.length c6]) (runOfR ss inp most)) := HR3.out.keep HBC.out
  have HW4 : Hid (ResA w4 (.agg #[.int .i64 ((runOfR ss inp most).code : Int), .slice A3 (runOfR ss inp most).outs.length c3, .slice A4 (runOfR ss inp most).path.length c4]) (runOfR ss inp most)) := (HR2.out.keep HBB.out).keep HBC.out
  have HB4 : Hid (Below w.heap.size w w4) := HB1.out.trans (((HBA.out.trans (HBB.out.mono HBA.out.size)).trans (HBC.out.mono (Nat.le_trans HBA.out.size HBB.out.size))).mono HB1.out.size)
  have k34 : w3.heap.size < w4.heap.size := cell_lt t0
  clear hb4 p3 s0 s1 s2 HR2 HR3 HBA HBB HBC HP HB1 HSEN

  by_cases h9 : (runOfR ss inp most).code = 9
  · have hbad := more_bad h9
    have HBAD : Hid (runOfR ss inp most = ⟨9, [], []⟩) := hbad
    rw [hbad] at t0 t1 t2 e0 e1 e2 HR4 HW4
    clear hbad h9
    go_wp2_with fail
    refine lkResult_any _ _ ⟨9, [], []⟩ _ HR4.out HW4.out (by simp) (by simp) fun w5 hb5 => ?_
    have HB5 : Hid (Below w.heap.size w w5) := HB4.out.trans (hb5.mono HB4.out.size)
    have r0 := cell_keep hb5 t0
    have r1 := cell_keep hb5 t1
    have r2 := cell_keep hb5 t2
    clear hb5
    go_wp2
    exact HQ.out _ HB5.out
  have h9b : (((runOfR ss inp most).code : Int) == 9) = false := by simp; omega
  obtain ⟨hxp, hxo⟩ := runOfR_len ss inp 600
  go_wp2_with fail
  refine implRun_w 600 _ HP4.out hl HLS.out hil' fun v5 w5 hb5 hr5 => ?_
  have HB5 : Hid (Below w.heap.size w w5) := HB4.out.trans (hb5.mono HB4.out.size)
  obtain ⟨A7, c7, A8, c8, hv5⟩ := hr5.form
  subst hv5
  have HR5 : Hid (ResA w5 (.agg #[.int .i64 ((runOfR ss inp 600).code : Int), .slice A7 (runOfR ss inp 600).outs.length c7, .slice A8 (runOfR ss inp 600).path.length c8]) (runOfR ss inp 600)) := hr5
  have HR4' : Hid (ResA w5 (.agg #[.int .i64 ((runOfR ss inp most).code : Int), .slice A5 (runOfR ss inp most).outs.length c5, .slice A6 (runOfR ss inp most).path.length c6]) (runOfR ss inp most)) := HR4.out.keep hb5
  have q0 := cell_keep hb5 t0
  have q1 := cell_keep hb5 t1
  have q2 := cell_keep hb5 t2
  have HBX : Hid (∀ O, Below w.heap.size w (w5.alloc O)) := fun O => HB5.out.alloc HB5.out.size O
  have k35 : w3.heap.size < w5.heap.size := cell_lt q0
  have k35' : w3.heap.size ≠ w5.heap.size := by omega
  clear hb5 hr5 t0 t1 t2 e0 e1 e2 p4 HP4
  by_cases h1 : (runOfR ss inp most).code = 1
  · obtain ⟨g1, g2, g3⟩ := more_goes h1
    have G1 : Hid ((runOfR ss inp most).outs <+: (runOfR ss inp 600).outs) := g1
    have G2 : Hid ((runOfR ss inp most).path <+: (runOfR ss inp 600).path) := g2
    have G3 : Hid (((runOfR ss inp most).path.length : Int) = most) := g3
    rw [h1] at q0
    obtain ⟨ov, pv, eV, L1, L2⟩ := HR5.out
    cases eV
    obtain ⟨ov', pv', eV', L3, L4⟩ := HR4'.out
    cases eV'
    have HL1 : Hid (IntsL w5 (.slice A7 (runOfR ss inp 600).outs.length c7) (runOfR ss inp 600).outs) := L1
    have HL2 : Hid (IntsL w5 (.slice A8 (runOfR ss inp 600).path.length c8) (runOfR ss inp 600).path) := L2
    have HL3 : Hid (IntsL w5 (.slice A5 (runOfR ss inp most).outs.length c5) (runOfR ss inp most).outs) := L3
    have HL4 : Hid (IntsL w5 (.slice A6 (runOfR ss inp most).path.length c6) (runOfR ss inp most).path) := L4
    clear g1 g2 g3 h1 h9 h9b L1 L2 L3 L4
    generalize (runOfR ss inp 600).code = cc at *
    go_wp2_with fail
    refine lkBegins_any _ _ _ _ _ (HL1.out.keep (hb0 _ _)) (HL3.out.keep (hb0 _ _)) G1.out (by omega) fun w6 hb6 => ?_
    have HB6 : Hid (Below w5.heap.size w5 w6) := (hb0 _ _).trans (hb6.mono (by simp))
    have HB6' : Hid (Below w.heap.size w w6) := HB5.out.trans (HB6.out.mono HB5.out.size)
    have x2 : w6.cell? ⟨w5.heap.size, 2, none⟩ = some (.slice A8 (runOfR ss inp 600).path.length c8) := cell_keep hb6 (by simp [go_sem])
    have r2 := cell_keep HB6.out q2
    clear hb6
    go_wp2_with fail
    refine lkBegins_any _ _ _ _ _ (HL2.out.keep HB6.out) (HL4.out.keep HB6.out) G2.out (by omega) fun w7 hb7 => ?_
    have HB7 : Hid (Below w.heap.size w w7) := HB6'.out.trans (hb7.mono HB6'.out.size)
    have y2 := cell_keep hb7 r2
    clear hb7
    rw [show (most : Int) = ((runOfR ss inp most).path.length : Int) from G3.out.symm]
    go_wp2
    exact HQ.out _ HB7.out
  · have h1b : (((runOfR ss inp most).code : Int) == 1) = false := by simp; omega
    have hE := more_ends h9 h1
    rw [hE] at HR5
    rw [hE]
    clear hE h1
    generalize runOfR ss inp most = R at *
    go_wp2_with fail
    refine lkResult_any _ _ R _ (HR5.out.keep (hb0 _ _)) (HR4'.out.keep (hb0 _ _)) (by omega) (by omega) fun w6 hb6 => ?_
    have HB6 : Hid (Below w.heap.size w w6) := (HBX.out _).trans (hb6.mono (HBX.out _).size)
    clear hb6
    go_wp2
    exact HQ.out _ HB6.out

set_option maxRecDepth 100000 in
theorem contract (H : Type) (enc : TypeId × Value → H) (W : World) (base : Nat) (args : Array Value) (ds gs : List (DataW H)) (before : List MemPlace)
    (hval : ∀ (j : Nat) t v, Tryd.f4.params[j]? = some t → args[j]? = some v → Value.okWide Tryd.prog W .any base t v)
    (hW : DataW.Whole enc Tryd.prog Tryd.f4.params.toList Rows.fnRunMoreSpec.vars false W args.toList ds gs before) (hL : laidMetH Tryd.prog Rows.fnRunMoreRow.laid W) :
    Calls Tryd.prog 4 args W fun e W' => ∃ v, e = .returned v ∧ Rows.fnRunMoreSpec.post enc Tryd.prog Tryd.f4 false true false false W args v W' := by
  have hW' := hW
  obtain ⟨p, q, hA0, hV, rfl, hfz, hnd⟩ := hW
  have hA : DataW.TrodAll enc Tryd.prog W 0 (fun _ => true) true Tryd.f4.params.toList args.toList ds p := hA0
  rw [Tryd.params4] at hA hval
  obtain ⟨v0, vs0, d0, ds0, p0, q0, hargs, rfl, rfl, h0, r0⟩ := trodAll_cons hA
  obtain ⟨rfl, rfl, rfl⟩ := trodAll_nil r0
  obtain rfl : args = #[v0] := by cases args; simp_all
  obtain ⟨y1, y2, y3, rfl⟩ := vars3 hV
  obtain ⟨a0, a1, a2, hs⟩ := sen_of_laid hL
  have k0 := h0
  have lt0 : ∀ x ∈ p0, x.block < W.heap.size := by obtain ⟨m, hm⟩ := k0; exact DataW.trod_lt m _ _ _ hm
  have c0 := open_code (hval 0 42 v0 rfl rfl) h0
  clear hA0
  refine law_walk v0 W a0 a1 a2 hs c0 fun W' bel => ?_
  exact ⟨_, rfl, _, _, _, [], _, q, hW', trodAll_mk1 (shut_bool Tryd.underlying4 _), (trodAll_cons_mk (Below.trod laidOut (by kernel_rfl) (of_decide_eq_true (by kernel_rfl)) k0 bel lt0) trodAll_mk0), bel.trodVars laidOut (by kernel_rfl) hV, bel.frame _, fun h => by cases h⟩

set_option maxRecDepth 100000 in
theorem lifted (os : Os) (started : os.Started) (H : Type) (enc : TypeId × Value → H) :
    ReturnsInHanded {} Tryd.checked os 4 .any (fun w args => (Rows.fnRunMoreSpec.pre enc Tryd.prog Tryd.f4 Rows.fnRunMoreRow.domain false w args ∧ laidMetH Tryd.prog Rows.fnRunMoreRow.laid w) ∧ sizedMet enc Tryd.prog Tryd.f4 (OpenSpec.ofChange Rows.fnRunMoreSpec) false w args)
      (Rows.fnRunMoreSpec.post enc Tryd.prog Tryd.f4 false true false false) := by
  refine returnsInHanded_of_change_and (C := Tryd.checked) (X := fun w _ => laidMetH Tryd.prog Rows.fnRunMoreRow.laid w) (fun _ _ _ hh h => h.of_heap hh) own started (by kernel_rfl) Tryd.func4
    (ChangeSpec.witness_shaped (enc := enc) (C := Tryd.checked) (os := os) (X := fun w _ => laidMetH Tryd.prog Rows.fnRunMoreRow.laid w) false (World.laidAll Tryd.prog os Rows.fnRunMoreRow.laid) #[.slice none 0 0] 8 (World.laidAll_os _ _ _)
      (World.shaped_of_ZipB (by kernel_rfl) (by kernel_rfl)) (by kernel_rfl) (by kernel_rfl) (by kernel_rfl)
      (by rw [MakeChecks.laidMetH_plain _ _ _ (by kernel_rfl)]; exact laidMet_laidAll _ (by kernel_rfl) (by kernel_rfl))) ?_
  intro W base args ds gs before hval0 hW _ _ hL _
  exact contract H enc W base args ds gs before hval0 hW hL

theorem said : Rows.FnRunMoreSaid :=
  OpenClaim.holds_of_wide 4 Tryd.f4 rfl rfl rfl rfl rfl rfl rfl ⟨rfl, rfl, rfl, rfl, rfl⟩ rfl rfl rfl rfl rfl (by kernel_rfl) Tryd.func4 (by kernel_rfl)
    (of_decide_eq_true (by kernel_rfl)) (by unfold Func.isWrapper; first | (rw [if_pos (by decide +kernel)]; kernel_rfl) | (rw [if_neg (by decide +kernel)]; exact ⟨rfl, rfl⟩))
    (fun os started H enc _ => lifted os started H enc)

theorem plain (f : FuncId) (fn : Func) (hf : Tryd.pinned.checked.prog.funcNamed Rows.fnRunMoreRow.func = some f) (hfn : Tryd.pinned.checked.prog.funcs[f]? = some fn) :
    true = Tryd.pinned.checked.prog.looks [] ∧ ∀ (j : Nat) t, fn.params[j]? = some t → Tryd.pinned.checked.prog.wantsStandIn t = false := by
  obtain rfl : f = 4 := Option.some.inj ((show Tryd.prog.funcNamed Rows.fnRunMoreRow.func = some 4 by kernel_rfl).symm.trans hf) |>.symm
  obtain rfl : fn = Tryd.f4 := (Option.some.inj (Tryd.func4.symm.trans hfn)).symm
  refine ⟨by kernel_rfl, fun j t ht => ?_⟩
  rw [Tryd.params4] at ht
  obtain rfl : t = 42 := by simpa using Array.mem_of_getElem? ht
  exact (show Tryd.prog.wantsStandIn 42 = false by kernel_rfl)

theorem fnRunMore_card : Rows.FnRunMoreCardSaid :=
  Claim7.holds_tied_plain_at .later [] _ _ _ _ said (fun _ h => by cases h) (by kernel_rfl) (fun _ h => by cases h) fnRunMore_row_tie rfl ⟨rfl, rfl⟩ (by kernel_rfl) rfl plain (by kernel_rfl)
#print axioms fnRunMore_card
end Go.Proofs.YtnlcdecokpdkpaaDoor
