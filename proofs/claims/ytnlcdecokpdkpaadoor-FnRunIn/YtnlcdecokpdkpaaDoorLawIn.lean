/-
  For every two codes of bytes, input that is not asked for does not matter to a run of the program that is drawn from the first one: the law FnRunIn answers true. No condition.
-/
import Derived.Test.YtnlcdecokpdkpaaDoorRows
import Derived.Test.YtnlcdecokpdkpaaDoorCards
import Derived.Test.YtnlcdecokpdkpaaDoorTie
import Derived.Test.YtnlcdecokpdkpaaDoorSents
import Derived.Test.YtnlcdecokpdkpaaDoorLkR
import Derived.Test.YtnlcdecokpdkpaaDoorLkG
import Derived.Test.YtnlcdecokpdkpaaDoorRunA
import Derived.OpenShut
import Derived.ShutString
import Derived.ChangeOld
import Derived.Below
import Derived.OpenVars
import Derived.Lay
import Derived.SevenTiedAt
import Derived.Stop.Joined
namespace Go.Proofs.YtnlcdecokpdkpaaDoor
open Go.ChangeShapes Go.WideShapes Go.ChangeAt Go.RowKit

set_option maxRecDepth 100000 in
set_option maxHeartbeats 8000000 in
theorem law_walk (v x : Value) (w : World) (a0 a1 a2 : Addr) (hs : Sen w a0 a1 a2) (h : CodeAt w v) (hx : CodeAt w x) {Q : Ending → World → Prop} (hQ : ∀ w', Below w.heap.size w w' → Q (.returned (.bool true)) w') :
    Calls Tryd.prog 6 #[v, x] w Q := by
  have HQ : Hid (∀ w', Below w.heap.size w w' → Q (.returned (.bool true)) w') := hQ
  have HSEN : Hid (Sen w a0 a1 a2) := hs
  clear hQ hs
  have HC : Hid _ := h
  obtain ⟨ao, bb, bo, bl, cap, rfl, h1, h2, h3, h4, h5⟩ := h
  obtain ⟨aox, bbx, box, blx, capx, rfl, h1x, h2x, h3x, h4x, h5x⟩ := hx
  clear h3 h4 h5 h3x h4x h5x
  by_cases hbl : 1048576 < bl
  · go_enter Tryd.func6, Tryd.ntmps6
    go_wp2
    exact HQ.out _ (Below.refl _ _)
  by_cases hblx : 1048576 < blx
  · go_enter Tryd.func6, Tryd.ntmps6
    go_wp2
    exact HQ.out _ (Below.refl _ _)
  go_enter Tryd.func6, Tryd.ntmps6
  go_wp2_with fail
  refine drawRunOf_any _ _ HC.out fun sv iv ss inp most w1 hS hl hls hI hN hil hb1 => ?_
  clear HC
  obtain ⟨A1, b1, o1, c1, rfl, hS'⟩ := id hS
  obtain ⟨A2, b2, o2, c2, rfl, hI'⟩ := id hI
  have HP : Hid (PW w1 (.slice A1 ss.length c1) (.slice A2 inp.length c2) ss inp a0 a1 a2) := ⟨hS.at, hI, HSEN.out.keep hb1⟩
  have HLS : Hid (∀ s ∈ ss, s.next.length ≤ 61) := hls
  have HNI : Hid (Nice (.slice A2 inp.length c2)) := hN
  have HB1 : Hid (Below w.heap.size w w1) := hb1
  have hil' : inp.length ≤ 20 := by omega
  clear hS hS' hI hI' hls hb1 hN
  obtain ⟨hrp, hro⟩ := runOfR_len ss inp most
  have hb0 : ∀ (W : World) O, Below W.heap.size W (W.alloc O) := fun W O => (Below.refl _ _).alloc (Nat.le_refl _) O
  go_wp2_with fail
  refine specRun_w most _ (HP.out.keep (hb0 _ _)) hl HLS.out hil' fun v2 w2 hb2 hr2 => ?_
  have HBA : Hid (Below w1.heap.size w1 w2) := (hb0 _ _).trans (hb2.mono (by simp))
  have p2 : w2.cell? ⟨w1.heap.size, 0, none⟩ = some (.slice A1 ss.length c1) := cell_keep hb2 (by simp [go_sem])
  have k12 : w1.heap.size < w2.heap.size := cell_lt p2
  have k12' : w1.heap.size ≠ w2.heap.size := by omega
  obtain ⟨A3, c3, A4, c4, hv2⟩ := hr2.form
  subst hv2
  have HR2 : Hid (ResA w2 (.agg #[.int .i64 ((runOfR ss inp most).code : Int), .slice A3 (runOfR ss inp most).outs.length c3, .slice A4 (runOfR ss inp most).path.length c4]) (runOfR ss inp most)) := hr2
  clear hb2 hr2
  go_wp2_with fail
  refine implRun_w most _ ((HP.out.keep HBA.out).keep (hb0 _ _)) hl HLS.out hil' fun v3 w3 hb3 hr3 => ?_
  have HBB : Hid (Below w2.heap.size w2 w3) := (hb0 _ _).trans (hb3.mono (by simp))
  have p3 := cell_keep HBB.out p2
  have s0 : w3.cell? ⟨w2.heap.size, 0, none⟩ = some (.int .i64 ((runOfR ss inp most).code : Int)) := cell_keep hb3 (by simp [go_sem])
  have s1 : w3.cell? ⟨w2.heap.size, 1, none⟩ = some (.slice A3 (runOfR ss inp most).outs.length c3) := cell_keep hb3 (by simp [go_sem])
  have s2 : w3.cell? ⟨w2.heap.size, 2, none⟩ = some (.slice A4 (runOfR ss inp most).path.length c4) := cell_keep hb3 (by simp [go_sem])
  have k13 : w1.heap.size < w3.heap.size := cell_lt p3
  have k13' : w1.heap.size ≠ w3.heap.size := by omega
  have k23 : w2.heap.size < w3.heap.size := cell_lt s0
  have k23' : w2.heap.size ≠ w3.heap.size := by omega
  obtain ⟨A5, c5, A6, c6, hv3⟩ := hr3.form
  subst hv3
  have HR3 : Hid (ResA w3 (.agg #[.int .i64 ((runOfR ss inp most).code : Int), .slice A5 (runOfR ss inp most).outs.length c5, .slice A6 (runOfR ss inp most).path.length c6]) (runOfR ss inp most)) := hr3
  clear hb3 hr3 p2
  go_wp2_with fail
  refine lkResult_any _ _ (runOfR ss inp most) _ (HR3.out.keep (hb0 _ _)) ((HR2.out.keep HBB.out).keep (hb0 _ _)) (by omega) (by omega) fun w4 hb4 => ?_
  have HBC : Hid (Below w3.heap.size w3 w4) := (hb0 _ _).trans (hb4.mono (by simp))
  have p4 := cell_keep HBC.out p3
  have e0 := cell_keep HBC.out s0
  have e1 := cell_keep HBC.out s1
  have e2 := cell_keep HBC.out s2
  have t0 : w4.cell? ⟨w3.heap.size, 0, none⟩ = some (.int .i64 ((runOfR ss inp most).code : Int)) := cell_keep hb4 (by simp [go_sem])
  have t1 : w4.cell? ⟨w3.heap.size, 1, none⟩ = some (.slice A5 (runOfR ss inp most).outs.length c5) := cell_keep hb4 (by simp [go_sem])
  have t2 : w4.cell? ⟨w3.heap.size, 2, none⟩ = some (.slice A6 (runOfR ss inp most).path.length c6) := cell_keep hb4 (by simp [go_sem])
  have HP4 : Hid (PW w4 (.slice A1 ss.length c1) (.slice A2 inp.length c2) ss inp a0 a1 a2) := ((HP.out.keep HBA.out).keep HBB.out).keep HBC.out
  have HR4 : Hid (ResA w4 (.agg #[.int .i64 ((runOfR ss inp most).code : Int), .slice A5 (runOfR ss inp most).outs.length c5, .slice A6 (runOfR ss inp most).path.length c6]) (runOfR ss inp most)) := HR3.out.keep HBC.out
  have HW4 : Hid (ResA w4 (.agg #[.int .i64 ((runOfR ss inp most).code : Int), .slice A3 (runOfR ss inp most).outs.length c3, .slice A4 (runOfR ss inp most).path.length c4]) (runOfR ss inp most)) := (HR2.out.keep HBB.out).keep HBC.out
  have HB4 : Hid (Below w.heap.size w w4) := HB1.out.trans (((HBA.out.trans (HBB.out.mono HBA.out.size)).trans (HBC.out.mono (Nat.le_trans HBA.out.size HBB.out.size))).mono HB1.out.size)
  have k34 : w3.heap.size < w4.heap.size := cell_lt t0
  clear hb4 p3 s0 s1 s2 HR2 HR3 HBA HBB HBC HP HB1 HSEN

  by_cases h9 : (runOfR ss inp most).code = 9
  · have hbad := more_bad h9
    rw [hbad] at t0 t1 t2 e0 e1 e2 HR4 HW4
    clear hbad h9
    go_wp2_with fail
    refine lkResult_any _ _ ⟨9, [], []⟩ _ HR4.out HW4.out (by simp) (by simp) fun w5 hb5 => ?_
    have HB5 : Hid (Below w.heap.size w w5) := HB4.out.trans (hb5.mono HB4.out.size)
    clear hb5
    go_wp2
    exact HQ.out _ HB5.out
  have h9b : (((runOfR ss inp most).code : Int) == 9) = false := by simp; omega
  by_cases h2 : (runOfR ss inp most).code = 2
  · have t0' : w4.cell? ⟨w3.heap.size, 0, none⟩ = some (.int .i64 2) := by rw [t0, h2]; rfl
    have e0' : w4.cell? ⟨w2.heap.size, 0, none⟩ = some (.int .i64 2) := by rw [e0, h2]; rfl
    have HR5 : Hid (ResA w4 (.agg #[.int .i64 2, .slice A5 (runOfR ss inp most).outs.length c5, .slice A6 (runOfR ss inp most).path.length c6]) (runOfR ss inp most)) := by have := HR4.out; rw [h2] at this; exact this
    have HW5 : Hid (ResA w4 (.agg #[.int .i64 2, .slice A3 (runOfR ss inp most).outs.length c3, .slice A4 (runOfR ss inp most).path.length c4]) (runOfR ss inp most)) := by have := HW4.out; rw [h2] at this; exact this
    clear t0 e0 h2 h9 h9b HR4 HW4
    go_wp2_with fail
    refine lkResult_any _ _ (runOfR ss inp most) _ HR5.out HW5.out (by omega) (by omega) fun w5 hb5 => ?_
    have HB5 : Hid (Below w.heap.size w w5) := HB4.out.trans (hb5.mono HB4.out.size)
    clear hb5
    go_wp2
    exact HQ.out _ HB5.out
  have h2b : (((runOfR ss inp most).code : Int) == 2) = false := by simp; omega
  have hmod : (blx : Int).tmod 9 = ((blx % 9 : Nat) : Int) := rfl
  have HY : Hid (runOfR ss (inp ++ [((blx % 9 : Nat) : Int)]) most = runOfR ss inp most) := run_in h2 h9 (by simp [inB]; omega)
  obtain ⟨i0, hi', hi0, hi1, hi2⟩ := info_parts infoInt2
  have HE4 : Hid ((w4.alloc (.cells #[] 3)).ownsRow w4.heap.size 3 1 (.slice (some ⟨w4.heap.size, 0, none⟩) 0 0) 0 []) := World.ownsRow_lit _ #[] 0 (Nat.le_refl _) (by decide) (by simp)
  clear h2 h9
  go_wp2_with (at_builtin; refine wpList_append_ints _ rfl _ _ 25 rfl w4.heap.size 3 i0 Tryd.underlying25 hi' hi0 hi1 hi2 (.slice (some ⟨w4.heap.size, 0, none⟩) 0 0) 0 [] rfl HE4.out A2 c2 inp rfl ((HP4.out.ints.keep (hb0 _ _)).at) HNI.out (by omega) (by simp) ?_)
  intro v5 w5 hown5 hgrow5 hat5
  have HB5 : Hid (Below w4.heap.size w4 w5) := ((Below.refl _ _).alloc (Nat.le_refl _) _).trans ⟨hgrow5.os, hgrow5.tape, hgrow5.output, hgrow5.size, fun k hk => hgrow5.block k (by simp; omega) (fun e => by simp [Value.ownBlock] at e; omega)⟩
  have hs5 : w4.heap.size ≤ w5.heap.size := HB5.out.size
  obtain ⟨A9, c9, hv5⟩ := own_form hown5
  subst hv5
  have HO5 : Hid (w5.ownsRow w4.heap.size 3 1 (.slice A9 inp.length c9) inp.length (inp.map (Value.int .i64))) := hown5
  clear hown5 hgrow5 hat5
  go_wp2_with (at_builtin; refine wpList_append_lies _ rfl _ _ 25 rfl w4.heap.size 3 i0 (.int .i64 0) 1 8 Tryd.underlying25 hi' hi0 hi1 hi2 rfl (by decide) (.slice A9 inp.length c9) inp.length (inp.map (Value.int .i64)) rfl (HO5.out.alloc _) ⟨w5.heap.size, 0, none⟩ 1 1 [.int .i64 ((blx % 9 : Nat) : Int)] rfl rfl (cell_one_new w5 _ _) (int_oneCell _ _) (by decide) (by unfold maxLen; omega) (by omega) (by simp; omega) (w5.heap.size + 1) (by simp) ?_)
  intro g6 cap6 w6 hown6 hgrow6 hat6 hlt6
  have HB6 : Hid (Below w4.heap.size w4 w6) := HB5.out.trans (((Below.refl _ _).alloc hs5 _).trans ⟨hgrow6.os, hgrow6.tape, hgrow6.output, hgrow6.size, fun k hk => hgrow6.block k (by simp; omega) (fun e => by have := (HO5.out.lt k e.symm).1; omega)⟩)
  have HX6 : Hid (IntsL w6 (.slice (some ⟨g6, 0, none⟩) (inp.length + 1) cap6) (inp ++ [((blx % 9 : Nat) : Int)])) := ownsL (base := w4.heap.size) (by simpa using hown6)
  have HP6 : Hid (PW w6 (.slice A1 ss.length c1) (.slice (some ⟨g6, 0, none⟩) (inp.length + 1) cap6) ss (inp ++ [((blx % 9 : Nat) : Int)]) a0 a1 a2) := ⟨(HP4.out.keep HB6.out).st, HX6.out, (HP4.out.keep HB6.out).sen⟩
  have HR6 : Hid (ResA w6 (.agg #[.int .i64 ((runOfR ss inp most).code : Int), .slice A5 (runOfR ss inp most).outs.length c5, .slice A6 (runOfR ss inp most).path.length c6]) (runOfR ss inp most)) := HR4.out.keep HB6.out
  have p6 := cell_keep HB6.out p4
  have r0 := cell_keep HB6.out t0
  have r1 := cell_keep HB6.out t1
  have r2 := cell_keep HB6.out t2
  have HBW : Hid (Below w.heap.size w w6) := HB4.out.trans (HB6.out.mono HB4.out.size)
  have hil2 : (inp ++ [((blx % 9 : Nat) : Int)]).length ≤ 20 := by simp; omega
  clear hown6 hgrow6 hat6 hlt6 HO5 HB5 HE4 hmod p4 t0 t1 t2 e0 e1 e2 HX6
  generalize hyy : inp ++ [((blx % 9 : Nat) : Int)] = inp2 at *
  have HYY : Hid (inp2.length = inp.length + 1) := by rw [Hid, ← hyy]; simp
  clear hyy
  go_wp2_with fail
  go_region_held3 (fun wx => wx.cell? ⟨w1.heap.size, 0, none⟩ = some (.slice A1 ss.length c1) ∧ wx.cell? ⟨w3.heap.size, 0, none⟩ = some (.int .i64 ((runOfR ss inp most).code : Int)) ∧ wx.cell? ⟨w3.heap.size, 1, none⟩ = some (.slice A5 (runOfR ss inp most).outs.length c5) ∧ wx.cell? ⟨w3.heap.size, 2, none⟩ = some (.slice A6 (runOfR ss inp most).path.length c6)) (go_keep) (first | (go_at_call 16; refine implRun_w most _ (HP6.out.keep ((Below.refl _ _).drew)) hl HLS.out hil2 ?_; intro v7 w7 hb7 hr7; have hbw7 : Below w6.heap.size w6 w7 := ((Below.refl _ _).drew).trans (hb7.mono (by simp)); have y0 := cell_keep hbw7 p6; have y1 := cell_keep hbw7 r0; have y2 := cell_keep hbw7 r1; have y3 := cell_keep hbw7 r2; obtain ⟨A8, c8, A8', c8', hv7⟩ := hr7.form; rw [HY.out] at hr7; rw [HY.out] at hv7; subst hv7; have HR7 : Hid _ := hr7; clear hb7 hr7) | (go_at_call 25; refine lkResult_any _ _ (runOfR ss inp most) _ HR7.out (HR6.out.keep hbw7) (by omega) (by omega) ?_; intro w8 hb8; have hbw8 : Below w6.heap.size w6 w8 := hbw7.trans (hb8.mono hbw7.size); have z0 := cell_keep hbw8 p6; have z1 := cell_keep hbw8 r0; have z2 := cell_keep hbw8 r1; have z3 := cell_keep hbw8 r2; clear hb8))
  all_goals
    have HBZ : Hid (Below w.heap.size w w8) := HBW.out.trans (hbw8.mono HBW.out.size)
    clear z0 z1 z2 z3 y0 y1 y2 y3 hbw7 hbw8
    go_wp2
    exact HQ.out _ HBZ.out

set_option maxRecDepth 100000 in
theorem contract (H : Type) (enc : TypeId × Value → H) (W : World) (base : Nat) (args : Array Value) (ds gs : List (DataW H)) (before : List MemPlace)
    (hval : ∀ (j : Nat) t v, Tryd.f6.params[j]? = some t → args[j]? = some v → Value.okWide Tryd.prog W .any base t v)
    (hW : DataW.Whole enc Tryd.prog Tryd.f6.params.toList Rows.fnRunInSpec.vars false W args.toList ds gs before) (hL : laidMetH Tryd.prog Rows.fnRunInRow.laid W) :
    Calls Tryd.prog 6 args W fun e W' => ∃ v, e = .returned v ∧ Rows.fnRunInSpec.post enc Tryd.prog Tryd.f6 false true false false W args v W' := by
  have hW' := hW
  obtain ⟨p, q, hA0, hV, rfl, hfz, hnd⟩ := hW
  have hA : DataW.TrodAll enc Tryd.prog W 0 (fun _ => true) true Tryd.f6.params.toList args.toList ds p := hA0
  rw [Tryd.params6] at hA hval
  obtain ⟨v0, vs0, d0, ds0, p0, q0, hargs, rfl, rfl, h0, r0⟩ := trodAll_cons hA
  obtain ⟨v1, vs1, d1, ds1, p1, q1, rfl, rfl, rfl, h1, r1⟩ := trodAll_cons r0
  obtain ⟨rfl, rfl, rfl⟩ := trodAll_nil r1
  obtain rfl : args = #[v0, v1] := by cases args; simp_all
  obtain ⟨y1, y2, y3, rfl⟩ := vars3 hV
  obtain ⟨a0, a1, a2, hs⟩ := sen_of_laid hL
  have k0 := h0
  have lt0 : ∀ x ∈ p0, x.block < W.heap.size := by obtain ⟨m, hm⟩ := k0; exact DataW.trod_lt m _ _ _ hm
  have c0 := open_code (hval 0 42 v0 rfl rfl) h0
  have k1 := h1
  have lt1 : ∀ x ∈ p1, x.block < W.heap.size := by obtain ⟨m, hm⟩ := k1; exact DataW.trod_lt m _ _ _ hm
  have c1 := open_code (hval 1 42 v1 rfl rfl) h1
  clear hA0
  refine law_walk v0 v1 W a0 a1 a2 hs c0 c1 fun W' bel => ?_
  exact ⟨_, rfl, _, _, _, [], _, q, hW', trodAll_mk1 (shut_bool Tryd.underlying4 _), (trodAll_cons_mk (Below.trod laidOut (by kernel_rfl) (of_decide_eq_true (by kernel_rfl)) k0 bel lt0) (trodAll_cons_mk (Below.trod laidOut (by kernel_rfl) (of_decide_eq_true (by kernel_rfl)) k1 bel lt1) trodAll_mk0)), bel.trodVars laidOut (by kernel_rfl) hV, bel.frame _, fun h => by cases h⟩

set_option maxRecDepth 100000 in
theorem lifted (os : Os) (started : os.Started) (H : Type) (enc : TypeId × Value → H) :
    ReturnsInHanded {} Tryd.checked os 6 .any (fun w args => (Rows.fnRunInSpec.pre enc Tryd.prog Tryd.f6 Rows.fnRunInRow.domain false w args ∧ laidMetH Tryd.prog Rows.fnRunInRow.laid w) ∧ sizedMet enc Tryd.prog Tryd.f6 (OpenSpec.ofChange Rows.fnRunInSpec) false w args)
      (Rows.fnRunInSpec.post enc Tryd.prog Tryd.f6 false true false false) := by
  refine returnsInHanded_of_change_and (C := Tryd.checked) (X := fun w _ => laidMetH Tryd.prog Rows.fnRunInRow.laid w) (fun _ _ _ hh h => h.of_heap hh) own started (by kernel_rfl) Tryd.func6
    (ChangeSpec.witness_shaped (enc := enc) (C := Tryd.checked) (os := os) (X := fun w _ => laidMetH Tryd.prog Rows.fnRunInRow.laid w) false (World.laidAll Tryd.prog os Rows.fnRunInRow.laid) #[.slice none 0 0, .slice none 0 0] 8 (World.laidAll_os _ _ _)
      (World.shaped_of_ZipB (by kernel_rfl) (by kernel_rfl)) (by kernel_rfl) (by kernel_rfl) (by kernel_rfl)
      (by rw [MakeChecks.laidMetH_plain _ _ _ (by kernel_rfl)]; exact laidMet_laidAll _ (by kernel_rfl) (by kernel_rfl))) ?_
  intro W base args ds gs before hval0 hW _ _ hL _
  exact contract H enc W base args ds gs before hval0 hW hL

theorem said : Rows.FnRunInSaid :=
  OpenClaim.holds_of_wide 6 Tryd.f6 rfl rfl rfl rfl rfl rfl rfl ⟨rfl, rfl, rfl, rfl, rfl⟩ rfl rfl rfl rfl rfl (by kernel_rfl) Tryd.func6 (by kernel_rfl)
    (of_decide_eq_true (by kernel_rfl)) (by unfold Func.isWrapper; first | (rw [if_pos (by decide +kernel)]; kernel_rfl) | (rw [if_neg (by decide +kernel)]; exact ⟨rfl, rfl⟩))
    (fun os started H enc _ => lifted os started H enc)

theorem plain (f : FuncId) (fn : Func) (hf : Tryd.pinned.checked.prog.funcNamed Rows.fnRunInRow.func = some f) (hfn : Tryd.pinned.checked.prog.funcs[f]? = some fn) :
    true = Tryd.pinned.checked.prog.looks [] ∧ ∀ (j : Nat) t, fn.params[j]? = some t → Tryd.pinned.checked.prog.wantsStandIn t = false := by
  obtain rfl : f = 6 := Option.some.inj ((show Tryd.prog.funcNamed Rows.fnRunInRow.func = some 6 by kernel_rfl).symm.trans hf) |>.symm
  obtain rfl : fn = Tryd.f6 := (Option.some.inj (Tryd.func6.symm.trans hfn)).symm
  refine ⟨by kernel_rfl, fun j t ht => ?_⟩
  rw [Tryd.params6] at ht
  obtain rfl : t = 42 := by simpa using Array.mem_of_getElem? ht
  exact (show Tryd.prog.wantsStandIn 42 = false by kernel_rfl)

theorem fnRunIn_card : Rows.FnRunInCardSaid :=
  Claim7.holds_tied_plain_at .later [] _ _ _ _ said (fun _ h => by cases h) (by kernel_rfl) (fun _ h => by cases h) fnRunIn_row_tie rfl ⟨rfl, rfl⟩ (by kernel_rfl) rfl plain (by kernel_rfl)
#print axioms fnRunIn_card
end Go.Proofs.YtnlcdecokpdkpaaDoor
