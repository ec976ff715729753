/-
  For every code of bytes, a run of no steps of the program that is drawn from it does nothing: the law FnRunNull answers true. No condition.
-/
import Derived.Test.YtnlcdecokpdkpaaDoorRows
import Derived.Test.YtnlcdecokpdkpaaDoorCards
import Derived.Test.YtnlcdecokpdkpaaDoorTie
import Derived.Test.YtnlcdecokpdkpaaDoorSents
import Derived.Test.YtnlcdecokpdkpaaDoorLkR
import Derived.Test.YtnlcdecokpdkpaaDoorLkG
import Derived.Test.YtnlcdecokpdkpaaDoorRunA
import Derived.OpenShut
import Derived.ShutString
import Derived.ChangeOld
import Derived.Below
import Derived.OpenVars
import Derived.Lay
import Derived.SevenTiedAt
import Derived.Stop.Joined
namespace Go.Proofs.YtnlcdecokpdkpaaDoor
open Go.ChangeShapes Go.WideShapes Go.ChangeAt Go.RowKit

theorem run_null (ss : List St) (inp : List Int) : runOfR ss inp 0 = ⟨1, [], []⟩ ∨ runOfR ss inp 0 = ⟨9, [], []⟩ := by
  unfold runOfR
  split
  · exact Or.inl rfl
  · exact Or.inr rfl

set_option maxRecDepth 100000 in
set_option maxHeartbeats 8000000 in
theorem law_walk (v : Value) (w : World) (a0 a1 a2 : Addr) (hs : Sen w a0 a1 a2) (h : CodeAt w v) {Q : Ending → World → Prop} (hQ : ∀ w', Below w.heap.size w w' → Q (.returned (.bool true)) w') :
    Calls Tryd.prog 9 #[v] w Q := by
  have HQ : Hid (∀ w', Below w.heap.size w w' → Q (.returned (.bool true)) w') := hQ
  have HSEN : Hid (Sen w a0 a1 a2) := hs
  clear hQ hs
  have HC : Hid _ := h
  obtain ⟨ao, bb, bo, bl, cap, rfl, h1, h2, h3, h4, h5⟩ := h
  clear h3 h4 h5
  by_cases hbl : 1048576 < bl
  · go_enter Tryd.func9, Tryd.ntmps9
    go_wp2
    exact HQ.out _ (Below.refl _ _)
  go_enter Tryd.func9, Tryd.ntmps9
  go_wp2_with fail
  refine drawRunOf_any _ _ HC.out fun sv iv ss inp most w1 hS hl hls hI _ hil hb1 => ?_
  clear HC
  obtain ⟨A1, b1, o1, c1, rfl, hS'⟩ := id hS
  obtain ⟨A2, b2, o2, c2, rfl, hI'⟩ := id hI
  have HP : Hid (PW w1 (.slice A1 ss.length c1) (.slice A2 inp.length c2) ss inp a0 a1 a2) := ⟨hS.at, hI, HSEN.out.keep hb1⟩
  have HLS : Hid (∀ s ∈ ss, s.next.length ≤ 61) := hls
  have HB1 : Hid (Below w.heap.size w w1) := hb1
  have hil' : inp.length ≤ 20 := by omega
  clear hS hS' hI hI' hls hb1
  obtain ⟨hrp, hro⟩ := runOfR_len ss inp most
  have hb0 : ∀ O, Below w1.heap.size w1 (w1.alloc O) := fun O => (Below.refl _ _).alloc (Nat.le_refl _) O
  go_wp2_with fail
  refine implRun_w 0 _ (HP.out.keep (hb0 _)) hl HLS.out hil' fun v3 w3 hb3 hr3 => ?_
  have HBA : Hid (Below w1.heap.size w1 w3) := (hb0 _).trans (hb3.mono (by simp))
  have p3 : w3.cell? ⟨w1.heap.size, 0, none⟩ = some (.slice A1 ss.length c1) := cell_keep hb3 (by simp [go_sem])
  have hlt : w1.heap.size < w3.heap.size := cell_lt p3
  have hlt' : w1.heap.size ≠ w3.heap.size := by omega
  clear hb3 hb0
  have HB4 : Hid (∀ O, Below w3.heap.size w3 (w3.alloc O)) := fun O => (Below.refl _ _).alloc (Nat.le_refl _) O
  rcases run_null ss inp with e0 | e0
  · rw [e0] at hr3
    obtain ⟨A3, c3, A3', c3', hv3⟩ := hr3.form
    subst hv3
    have HR4 : Hid (ResA (w3.alloc (.cells #[.int .i64 1, .slice A3 0 c3, .slice A3' 0 c3'] 28)) (.agg #[.int .i64 1, .slice A3 0 c3, .slice A3' 0 c3']) ⟨1, [], []⟩) := hr3.keep (HB4.out _)
    have HE : Hid (runOfR ss inp 0 = ⟨1, [], []⟩) := e0
    have HP4 : Hid (PW (w3.alloc (.cells #[.int .i64 1, .slice A3 0 c3, .slice A3' 0 c3'] 28)) (.slice A1 ss.length c1) (.slice A2 inp.length c2) ss inp a0 a1 a2) := (HP.out.keep HBA.out).keep (HB4.out _)
    have HBW : Hid (Below w.heap.size w (w3.alloc (.cells #[.int .i64 1, .slice A3 0 c3, .slice A3' 0 c3'] 28))) := HB1.out.trans ((HBA.out.trans ((HB4.out _).mono HBA.out.size)).mono HB1.out.size)
    have p4 : (w3.alloc (.cells #[.int .i64 1, .slice A3 0 c3, .slice A3' 0 c3'] 28)).cell? ⟨w1.heap.size, 0, none⟩ = some (.slice A1 ss.length c1) := cell_keep (HB4.out _) p3
    have t0 : (w3.alloc (.cells #[.int .i64 1, .slice A3 0 c3, .slice A3' 0 c3'] 28)).cell? ⟨w3.heap.size, 0, none⟩ = some (.int .i64 1) := by simp [go_sem]
    have t1 : (w3.alloc (.cells #[.int .i64 1, .slice A3 0 c3, .slice A3' 0 c3'] 28)).cell? ⟨w3.heap.size, 1, none⟩ = some (.slice A3 0 c3) := by simp [go_sem]
    have t2 : (w3.alloc (.cells #[.int .i64 1, .slice A3 0 c3, .slice A3' 0 c3'] 28)).cell? ⟨w3.heap.size, 2, none⟩ = some (.slice A3' 0 c3') := by simp [go_sem]
    clear hr3 e0 HP HBA HB1 p3
    go_wp2_with fail
    generalize (w3.alloc (.cells #[.int .i64 1, .slice A3 0 c3, .slice A3' 0 c3'] 28)) = w4 at *
    go_region_held3 (fun wx => wx.cell? ⟨w1.heap.size, 0, none⟩ = some (.slice A1 ss.length c1) ∧ wx.cell? ⟨w3.heap.size, 0, none⟩ = some (.int .i64 1) ∧ wx.cell? ⟨w3.heap.size, 1, none⟩ = some (.slice A3 0 c3) ∧ wx.cell? ⟨w3.heap.size, 2, none⟩ = some (.slice A3' 0 c3')) (go_keep) (first | (go_at_call_of 13 (Value.int .i64 0); refine specRun_w 0 _ (HP4.out.keep ((Below.refl _ _).drew)) hl HLS.out hil' ?_; intro v5 w5 hb5 hr5; have hbw5 : Below w4.heap.size w4 w5 := ((Below.refl _ _).drew).trans (hb5.mono (by simp)); have k50 := cell_keep hbw5 p4; have k51 := cell_keep hbw5 t0; have k52 := cell_keep hbw5 t1; have k53 := cell_keep hbw5 t2; rw [HE.out] at hr5; obtain ⟨A5, c5, A5', c5', hv5⟩ := hr5.form; subst hv5; have HR5 : Hid _ := hr5; clear hb5 hr5) | (go_at_call 25; refine lkResult_any _ _ ⟨1, [], []⟩ _ (HR4.out.keep hbw5) HR5.out (by simp) (by simp) ?_; intro w6 hb6; have hbw6 : Below w4.heap.size w4 w6 := hbw5.trans (hb6.mono hbw5.size); have k60 := cell_keep hbw6 p4; have k61 := cell_keep hbw6 t0; have k62 := cell_keep hbw6 t1; have k63 := cell_keep hbw6 t2; clear hb6) | (go_at_call 16; refine implRun_w most _ (HP4.out.keep hbw6) hl HLS.out hil' ?_; intro v7 w7 hb7 hr7; have hbw7 : Below w4.heap.size w4 w7 := hbw6.trans (hb7.mono hbw6.size); have k70 := cell_keep hbw7 p4; have k71 := cell_keep hbw7 t0; have k72 := cell_keep hbw7 t1; have k73 := cell_keep hbw7 t2; obtain ⟨A7, c7, A7', c7', hv7⟩ := hr7.form; subst hv7; have HR7 : Hid _ := hr7; clear hb7 hr7) | (go_at_call 13; refine specRun_w most _ (HP4.out.keep hbw7) hl HLS.out hil' ?_; intro v8 w8 hb8 hr8; have hb78 : Below w7.heap.size w7 w8 := hb8; have hbw8 : Below w4.heap.size w4 w8 := hbw7.trans (hb8.mono hbw7.size); have k80 := cell_keep hbw8 p4; have k81 := cell_keep hbw8 t0; have k82 := cell_keep hbw8 t1; have k83 := cell_keep hbw8 t2; obtain ⟨A8, c8, A8', c8', hv8⟩ := hr8.form; subst hv8; have HR8 : Hid _ := hr8; clear hb8 hr8) | (go_at_call 25; refine lkResult_any _ _ (runOfR ss inp most) _ (ResA.keep HR7.out hb78) HR8.out (by omega) (by omega) ?_; intro w9 hb9; have hbw9 : Below w4.heap.size w4 w9 := hbw8.trans (hb9.mono hbw8.size); have k90 := cell_keep hbw9 p4; have k91 := cell_keep hbw9 t0; have k92 := cell_keep hbw9 t1; have k93 := cell_keep hbw9 t2; clear hb9))
    all_goals
      have HBZ : Hid (Below w.heap.size w w9) := HBW.out.trans (hbw9.mono HBW.out.size)
      clear hbw5 hbw6 hbw7 hbw8 hbw9 hb78 k50 k51 k52 k53 k60 k61 k62 k63 k70 k71 k72 k73 k80 k81 k82 k83
      go_wp2
      exact HQ.out _ HBZ.out
  · rw [e0] at hr3
    obtain ⟨A3, c3, A3', c3', hv3⟩ := hr3.form
    subst hv3
    have HR4 : Hid (ResA (w3.alloc (.cells #[.int .i64 9, .slice A3 0 c3, .slice A3' 0 c3'] 28)) (.agg #[.int .i64 9, .slice A3 0 c3, .slice A3' 0 c3']) ⟨9, [], []⟩) := hr3.keep (HB4.out _)
    have HE : Hid (runOfR ss inp 0 = ⟨9, [], []⟩) := e0
    have HP4 : Hid (PW (w3.alloc (.cells #[.int .i64 9, .slice A3 0 c3, .slice A3' 0 c3'] 28)) (.slice A1 ss.length c1) (.slice A2 inp.length c2) ss inp a0 a1 a2) := (HP.out.keep HBA.out).keep (HB4.out _)
    have HBW : Hid (Below w.heap.size w (w3.alloc (.cells #[.int .i64 9, .slice A3 0 c3, .slice A3' 0 c3'] 28))) := HB1.out.trans ((HBA.out.trans ((HB4.out _).mono HBA.out.size)).mono HB1.out.size)
    have p4 : (w3.alloc (.cells #[.int .i64 9, .slice A3 0 c3, .slice A3' 0 c3'] 28)).cell? ⟨w1.heap.size, 0, none⟩ = some (.slice A1 ss.length c1) := cell_keep (HB4.out _) p3
    have t0 : (w3.alloc (.cells #[.int .i64 9, .slice A3 0 c3, .slice A3' 0 c3'] 28)).cell? ⟨w3.heap.size, 0, none⟩ = some (.int .i64 9) := by simp [go_sem]
    have t1 : (w3.alloc (.cells #[.int .i64 9, .slice A3 0 c3, .slice A3' 0 c3'] 28)).cell? ⟨w3.heap.size, 1, none⟩ = some (.slice A3 0 c3) := by simp [go_sem]
    have t2 : (w3.alloc (.cells #[.int .i64 9, .slice A3 0 c3, .slice A3' 0 c3'] 28)).cell? ⟨w3.heap.size, 2, none⟩ = some (.slice A3' 0 c3') := by simp [go_sem]
    clear hr3 e0 HP HBA HB1 p3
    go_wp2_with fail
    generalize (w3.alloc (.cells #[.int .i64 9, .slice A3 0 c3, .slice A3' 0 c3'] 28)) = w4 at *
    go_region_held3 (fun wx => wx.cell? ⟨w1.heap.size, 0, none⟩ = some (.slice A1 ss.length c1) ∧ wx.cell? ⟨w3.heap.size, 0, none⟩ = some (.int .i64 9) ∧ wx.cell? ⟨w3.heap.size, 1, none⟩ = some (.slice A3 0 c3) ∧ wx.cell? ⟨w3.heap.size, 2, none⟩ = some (.slice A3' 0 c3')) (go_keep) (first | (go_at_call_of 13 (Value.int .i64 0); refine specRun_w 0 _ (HP4.out.keep ((Below.refl _ _).drew)) hl HLS.out hil' ?_; intro v5 w5 hb5 hr5; have hbw5 : Below w4.heap.size w4 w5 := ((Below.refl _ _).drew).trans (hb5.mono (by simp)); have k50 := cell_keep hbw5 p4; have k51 := cell_keep hbw5 t0; have k52 := cell_keep hbw5 t1; have k53 := cell_keep hbw5 t2; rw [HE.out] at hr5; obtain ⟨A5, c5, A5', c5', hv5⟩ := hr5.form; subst hv5; have HR5 : Hid _ := hr5; clear hb5 hr5) | (go_at_call 25; refine lkResult_any _ _ ⟨9, [], []⟩ _ (HR4.out.keep hbw5) HR5.out (by simp) (by simp) ?_; intro w6 hb6; have hbw6 : Below w4.heap.size w4 w6 := hbw5.trans (hb6.mono hbw5.size); have k60 := cell_keep hbw6 p4; have k61 := cell_keep hbw6 t0; have k62 := cell_keep hbw6 t1; have k63 := cell_keep hbw6 t2; clear hb6) | (go_at_call 16; refine implRun_w most _ (HP4.out.keep hbw6) hl HLS.out hil' ?_; intro v7 w7 hb7 hr7; have hbw7 : Below w4.heap.size w4 w7 := hbw6.trans (hb7.mono hbw6.size); have k70 := cell_keep hbw7 p4; have k71 := cell_keep hbw7 t0; have k72 := cell_keep hbw7 t1; have k73 := cell_keep hbw7 t2; obtain ⟨A7, c7, A7', c7', hv7⟩ := hr7.form; subst hv7; have HR7 : Hid _ := hr7; clear hb7 hr7) | (go_at_call 13; refine specRun_w most _ (HP4.out.keep hbw7) hl HLS.out hil' ?_; intro v8 w8 hb8 hr8; have hb78 : Below w7.heap.size w7 w8 := hb8; have hbw8 : Below w4.heap.size w4 w8 := hbw7.trans (hb8.mono hbw7.size); have k80 := cell_keep hbw8 p4; have k81 := cell_keep hbw8 t0; have k82 := cell_keep hbw8 t1; have k83 := cell_keep hbw8 t2; obtain ⟨A8, c8, A8', c8', hv8⟩ := hr8.form; subst hv8; have HR8 : Hid _ := hr8; clear hb8 hr8) | (go_at_call 25; refine lkResult_any _ _ (runOfR ss inp most) _ (ResA.keep HR7.out hb78) HR8.out (by omega) (by omega) ?_; intro w9 hb9; have hbw9 : Below w4.heap.size w4 w9 := hbw8.trans (hb9.mono hbw8.size); have k90 := cell_keep hbw9 p4; have k91 := cell_keep hbw9 t0; have k92 := cell_keep hbw9 t1; have k93 := cell_keep hbw9 t2; clear hb9))
    all_goals
      have HBZ : Hid (Below w.heap.size w w9) := HBW.out.trans (hbw9.mono HBW.out.size)
      clear hbw5 hbw6 hbw7 hbw8 hbw9 hb78 k50 k51 k52 k53 k60 k61 k62 k63 k70 k71 k72 k73 k80 k81 k82 k83
      go_wp2
      exact HQ.out _ HBZ.out

set_option maxRecDepth 100000 in
theorem contract (H : Type) (enc : TypeId × Value → H) (W : World) (base : Nat) (args : Array Value) (ds gs : List (DataW H)) (before : List MemPlace)
    (hval : ∀ (j : Nat) t v, Tryd.f9.params[j]? = some t → args[j]? = some v → Value.okWide Tryd.prog W .any base t v)
    (hW : DataW.Whole enc Tryd.prog Tryd.f9.params.toList Rows.fnRunNullSpec.vars false W args.toList ds gs before) (hL : laidMetH Tryd.prog Rows.fnRunNullRow.laid W) :
    Calls Tryd.prog 9 args W fun e W' => ∃ v, e = .returned v ∧ Rows.fnRunNullSpec.post enc Tryd.prog Tryd.f9 false true false false W args v W' := by
  have hW' := hW
  obtain ⟨p, q, hA0, hV, rfl, hfz, hnd⟩ := hW
  have hA : DataW.TrodAll enc Tryd.prog W 0 (fun _ => true) true Tryd.f9.params.toList args.toList ds p := hA0
  rw [Tryd.params9] at hA hval
  obtain ⟨v0, vs0, d0, ds0, p0, q0, hargs, rfl, rfl, h0, r0⟩ := trodAll_cons hA
  obtain ⟨rfl, rfl, rfl⟩ := trodAll_nil r0
  obtain rfl : args = #[v0] := by cases args; simp_all
  obtain ⟨y1, y2, y3, rfl⟩ := vars3 hV
  obtain ⟨a0, a1, a2, hs⟩ := sen_of_laid hL
  have k0 := h0
  have lt0 : ∀ x ∈ p0, x.block < W.heap.size := by obtain ⟨m, hm⟩ := k0; exact DataW.trod_lt m _ _ _ hm
  have c0 := open_code (hval 0 42 v0 rfl rfl) h0
  clear hA0
  refine law_walk v0 W a0 a1 a2 hs c0 fun W' bel => ?_
  exact ⟨_, rfl, _, _, _, [], _, q, hW', trodAll_mk1 (shut_bool Tryd.underlying4 _), (trodAll_cons_mk (Below.trod laidOut (by kernel_rfl) (of_decide_eq_true (by kernel_rfl)) k0 bel lt0) trodAll_mk0), bel.trodVars laidOut (by kernel_rfl) hV, bel.frame _, fun h => by cases h⟩

set_option maxRecDepth 100000 in
theorem lifted (os : Os) (started : os.Started) (H : Type) (enc : TypeId × Value → H) :
    ReturnsInHanded {} Tryd.checked os 9 .any (fun w args => (Rows.fnRunNullSpec.pre enc Tryd.prog Tryd.f9 Rows.fnRunNullRow.domain false w args ∧ laidMetH Tryd.prog Rows.fnRunNullRow.laid w) ∧ sizedMet enc Tryd.prog Tryd.f9 (OpenSpec.ofChange Rows.fnRunNullSpec) false w args)
      (Rows.fnRunNullSpec.post enc Tryd.prog Tryd.f9 false true false false) := by
  refine returnsInHanded_of_change_and (C := Tryd.checked) (X := fun w _ => laidMetH Tryd.prog Rows.fnRunNullRow.laid w) (fun _ _ _ hh h => h.of_heap hh) own started (by kernel_rfl) Tryd.func9
    (ChangeSpec.witness_shaped (enc := enc) (C := Tryd.checked) (os := os) (X := fun w _ => laidMetH Tryd.prog Rows.fnRunNullRow.laid w) false (World.laidAll Tryd.prog os Rows.fnRunNullRow.laid) #[.slice none 0 0] 8 (World.laidAll_os _ _ _)
      (World.shaped_of_ZipB (by kernel_rfl) (by kernel_rfl)) (by kernel_rfl) (by kernel_rfl) (by kernel_rfl)
      (by rw [MakeChecks.laidMetH_plain _ _ _ (by kernel_rfl)]; exact laidMet_laidAll _ (by kernel_rfl) (by kernel_rfl))) ?_
  intro W base args ds gs before hval0 hW _ _ hL _
  exact contract H enc W base args ds gs before hval0 hW hL

theorem said : Rows.FnRunNullSaid :=
  OpenClaim.holds_of_wide 9 Tryd.f9 rfl rfl rfl rfl rfl rfl rfl ⟨rfl, rfl, rfl, rfl, rfl⟩ rfl rfl rfl rfl rfl (by kernel_rfl) Tryd.func9 (by kernel_rfl)
    (of_decide_eq_true (by kernel_rfl)) (by unfold Func.isWrapper; first | (rw [if_pos (by decide +kernel)]; kernel_rfl) | (rw [if_neg (by decide +kernel)]; exact ⟨rfl, rfl⟩))
    (fun os started H enc _ => lifted os started H enc)

theorem plain (f : FuncId) (fn : Func) (hf : Tryd.pinned.checked.prog.funcNamed Rows.fnRunNullRow.func = some f) (hfn : Tryd.pinned.checked.prog.funcs[f]? = some fn) :
    true = Tryd.pinned.checked.prog.looks [] ∧ ∀ (j : Nat) t, fn.params[j]? = some t → Tryd.pinned.checked.prog.wantsStandIn t = false := by
  obtain rfl : f = 9 := Option.some.inj ((show Tryd.prog.funcNamed Rows.fnRunNullRow.func = some 9 by kernel_rfl).symm.trans hf) |>.symm
  obtain rfl : fn = Tryd.f9 := (Option.some.inj (Tryd.func9.symm.trans hfn)).symm
  refine ⟨by kernel_rfl, fun j t ht => ?_⟩
  rw [Tryd.params9] at ht
  obtain rfl : t = 42 := by simpa using Array.mem_of_getElem? ht
  exact (show Tryd.prog.wantsStandIn 42 = false by kernel_rfl)

theorem fnRunNull_card : Rows.FnRunNullCardSaid :=
  Claim7.holds_tied_plain_at .later [] _ _ _ _ said (fun _ h => by cases h) (by kernel_rfl) (fun _ h => by cases h) fnRunNull_row_tie rfl ⟨rfl, rfl⟩ (by kernel_rfl) rfl plain (by kernel_rfl)
#print axioms fnRunNull_card
end Go.Proofs.YtnlcdecokpdkpaaDoor
