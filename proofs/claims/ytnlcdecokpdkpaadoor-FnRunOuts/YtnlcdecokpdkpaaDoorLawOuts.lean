/-
  For every code of bytes, a run of the program that is drawn from it lets out as much as it comes to steps that do so: the law FnRunOuts answers true. No condition.
-/
import Derived.Test.YtnlcdecokpdkpaaDoorRows
import Derived.Test.YtnlcdecokpdkpaaDoorCards
import Derived.Test.YtnlcdecokpdkpaaDoorTie
import Derived.Test.YtnlcdecokpdkpaaDoorSents
import Derived.Test.YtnlcdecokpdkpaaDoorLkR
import Derived.Test.YtnlcdecokpdkpaaDoorLkG
import Derived.Test.YtnlcdecokpdkpaaDoorRunA
import Derived.OpenShut
import Derived.ShutString
import Derived.ChangeOld
import Derived.Below
import Derived.OpenVars
import Derived.Lay
import Derived.SevenTiedAt
import Derived.Stop.Joined
namespace Go.Proofs.YtnlcdecokpdkpaaDoor
open Go.ChangeShapes Go.WideShapes Go.ChangeAt Go.RowKit

theorem runR_places (ss : List St) (hok : okB ss = true) : ∀ (n i : Nat) (vs inp outs path : List Int), i < ss.length → ∃ P : List Nat, (runR ss n i vs inp outs path).path = path ++ P.map (fun k : Nat => (k : Int)) ∧ (∀ k ∈ P, k < ss.length) := by
  intro n
  induction n with
  | zero => intro i vs inp outs path _; exact ⟨[], by simp [runR], by simp⟩
  | succ n ih =>
    intro i vs inp outs path hi
    cases hs : stopR (ss.getD i st0) inp with
    | some c => exact ⟨[i], by simp [runR_stop hs], by simp [hi]⟩
    | none =>
      rw [runR_go hs]
      obtain ⟨P, h1, h2⟩ := ih (nextR (ss.getD i st0) vs) (varsR (ss.getD i st0) vs inp) (inR (ss.getD i st0) inp) (outsR (ss.getD i st0) vs outs) (path ++ [(i : Int)]) (next_lt hok hi (stop_none hs) vs)
      exact ⟨i :: P, by rw [h1]; simp, by intro k hk; rcases List.mem_cons.1 hk with rfl | hk; exact hi; exact h2 k hk⟩

theorem cast_inj {P P' : List Nat} (h : P.map (fun k : Nat => (k : Int)) = P'.map (fun k : Nat => (k : Int))) : P = P' := by
  have : (P.map (fun k : Nat => (k : Int))).map Int.toNat = (P'.map (fun k : Nat => (k : Int))).map Int.toNat := by rw [h]
  simpa [List.map_map, Function.comp_def] using this

theorem run_outs (ss : List St) (inp : List Int) (most : Int) : ∃ P : List Nat, (runOfR ss inp most).path = P.map (fun k : Nat => (k : Int)) ∧ (∀ k ∈ P, k < ss.length) ∧ (runOfR ss inp most).outs.length = P.countP (fun k => decide ((ss.getD k st0).kind = 4)) := by
  by_cases hc : canB ss inp most = true
  · have e : runOfR ss inp most = runR ss most.toNat 0 vars0 inp [] [] := by simp [runOfR, hc]
    have hok : okB ss = true := by simp only [canB, Bool.and_eq_true] at hc; exact hc.1.1
    have hn1 : 0 < ss.length := by simp only [okB, Bool.and_eq_true, decide_eq_true_eq] at hok; omega
    obtain ⟨P, h1, h2⟩ := runR_places ss hok most.toNat 0 vars0 inp [] [] hn1
    obtain ⟨P', h3, h4⟩ := runR_outs ss most.toNat 0 vars0 inp [] []
    rw [List.nil_append] at h1 h3
    have : P' = P := cast_inj (h3.symm.trans h1)
    subst this
    rw [e]
    exact ⟨P', h1, h2, by rw [h4]; simp⟩
  · have e : runOfR ss inp most = ⟨9, [], []⟩ := by simp [runOfR, hc]
    rw [e]
    exact ⟨[], rfl, by simp, rfl⟩

set_option maxRecDepth 100000 in
set_option maxHeartbeats 8000000 in
theorem law_walk (v : Value) (w : World) (a0 a1 a2 : Addr) (hs : Sen w a0 a1 a2) (h : CodeAt w v) {Q : Ending → World → Prop} (hQ : ∀ w', Below w.heap.size w w' → Q (.returned (.bool true)) w') :
    Calls Tryd.prog 7 #[v] w Q := by
  have HQ : Hid (∀ w', Below w.heap.size w w' → Q (.returned (.bool true)) w') := hQ
  have HSEN : Hid (Sen w a0 a1 a2) := hs
  clear hQ hs
  have HC : Hid _ := h
  obtain ⟨ao, bb, bo, bl, cap, rfl, h1, h2, h3, h4, h5⟩ := h
  clear h3 h4 h5
  by_cases hbl : 1048576 < bl
  · go_enter Tryd.func7, Tryd.ntmps7
    go_wp2
    exact HQ.out _ (Below.refl _ _)
  go_enter Tryd.func7, Tryd.ntmps7
  go_wp2_with fail
  refine drawRunOf_any _ _ HC.out fun sv iv ss inp most w1 hS hl hls hI hN hil hb1 => ?_
  clear HC
  obtain ⟨A1, b1, o1, c1, rfl, hS'⟩ := id hS
  obtain ⟨A2, b2, o2, c2, rfl, hI'⟩ := id hI
  have HP : Hid (PW w1 (.slice A1 ss.length c1) (.slice A2 inp.length c2) ss inp a0 a1 a2) := ⟨hS.at, hI, HSEN.out.keep hb1⟩
  have HLS : Hid (∀ s ∈ ss, s.next.length ≤ 61) := hls
  have HNI : Hid (Nice (.slice A2 inp.length c2)) := hN
  have HB1 : Hid (Below w.heap.size w w1) := hb1
  have hil' : inp.length ≤ 20 := by omega
  clear hS hS' hI hI' hls hb1 hN
  obtain ⟨hrp, hro⟩ := runOfR_len ss inp most
  have hb0 : ∀ (W : World) O, Below W.heap.size W (W.alloc O) := fun W O => (Below.refl _ _).alloc (Nat.le_refl _) O
  go_wp2_with fail
  refine specRun_w most _ (HP.out.keep (hb0 _ _)) hl HLS.out hil' fun v2 w2 hb2 hr2 => ?_
  have HBA : Hid (Below w1.heap.size w1 w2) := (hb0 _ _).trans (hb2.mono (by simp))
  have p2 : w2.cell? ⟨w1.heap.size, 0, none⟩ = some (.slice A1 ss.length c1) := cell_keep hb2 (by simp [go_sem])
  have k12 : w1.heap.size < w2.heap.size := cell_lt p2
  have k12' : w1.heap.size ≠ w2.heap.size := by omega
  obtain ⟨A3, c3, A4, c4, hv2⟩ := hr2.form
  subst hv2
  have HR2 : Hid (ResA w2 (.agg #[.int .i64 ((runOfR ss inp most).code : Int), .slice A3 (runOfR ss inp most).outs.length c3, .slice A4 (runOfR ss inp most).path.length c4]) (runOfR ss inp most)) := hr2
  clear hb2 hr2
  go_wp2_with fail
  refine implRun_w most _ ((HP.out.keep HBA.out).keep (hb0 _ _)) hl HLS.out hil' fun v3 w3 hb3 hr3 => ?_
  have HBB : Hid (Below w2.heap.size w2 w3) := (hb0 _ _).trans (hb3.mono (by simp))
  have p3 := cell_keep HBB.out p2
  have s0 : w3.cell? ⟨w2.heap.size, 0, none⟩ = some (.int .i64 ((runOfR ss inp most).code : Int)) := cell_keep hb3 (by simp [go_sem])
  have s1 : w3.cell? ⟨w2.heap.size, 1, none⟩ = some (.slice A3 (runOfR ss inp most).outs.length c3) := cell_keep hb3 (by simp [go_sem])
  have s2 : w3.cell? ⟨w2.heap.size, 2, none⟩ = some (.slice A4 (runOfR ss inp most).path.length c4) := cell_keep hb3 (by simp [go_sem])
  have k13 : w1.heap.size < w3.heap.size := cell_lt p3
  have k13' : w1.heap.size ≠ w3.heap.size := by omega
  have k23 : w2.heap.size < w3.heap.size := cell_lt s0
  have k23' : w2.heap.size ≠ w3.heap.size := by omega
  obtain ⟨A5, c5, A6, c6, hv3⟩ := hr3.form
  subst hv3
  have HR3 : Hid (ResA w3 (.agg #[.int .i64 ((runOfR ss inp most).code : Int), .slice A5 (runOfR ss inp most).outs.length c5, .slice A6 (runOfR ss inp most).path.length c6]) (runOfR ss inp most)) := hr3
  clear hb3 hr3 p2
  go_wp2_with fail
  refine lkResult_any _ _ (runOfR ss inp most) _ (HR3.out.keep (hb0 _ _)) ((HR2.out.keep HBB.out).keep (hb0 _ _)) (by omega) (by omega) fun w4 hb4 => ?_
  have HBC : Hid (Below w3.heap.size w3 w4) := (hb0 _ _).trans (hb4.mono (by simp))
  have p4 := cell_keep HBC.out p3
  have e0 := cell_keep HBC.out s0
  have e1 := cell_keep HBC.out s1
  have e2 := cell_keep HBC.out s2
  have t0 : w4.cell? ⟨w3.heap.size, 0, none⟩ = some (.int .i64 ((runOfR ss inp most).code : Int)) := cell_keep hb4 (by simp [go_sem])
  have t1 : w4.cell? ⟨w3.heap.size, 1, none⟩ = some (.slice A5 (runOfR ss inp most).outs.length c5) := cell_keep hb4 (by simp [go_sem])
  have t2 : w4.cell? ⟨w3.heap.size, 2, none⟩ = some (.slice A6 (runOfR ss inp most).path.length c6) := cell_keep hb4 (by simp [go_sem])
  have HP4 : Hid (PW w4 (.slice A1 ss.length c1) (.slice A2 inp.length c2) ss inp a0 a1 a2) := ((HP.out.keep HBA.out).keep HBB.out).keep HBC.out
  have HR4 : Hid (ResA w4 (.agg #[.int .i64 ((runOfR ss inp most).code : Int), .slice A5 (runOfR ss inp most).outs.length c5, .slice A6 (runOfR ss inp most).path.length c6]) (runOfR ss inp most)) := HR3.out.keep HBC.out
  have HW4 : Hid (ResA w4 (.agg #[.int .i64 ((runOfR ss inp most).code : Int), .slice A3 (runOfR ss inp most).outs.length c3, .slice A4 (runOfR ss inp most).path.length c4]) (runOfR ss inp most)) := (HR2.out.keep HBB.out).keep HBC.out
  have HB4 : Hid (Below w.heap.size w w4) := HB1.out.trans (((HBA.out.trans (HBB.out.mono HBA.out.size)).trans (HBC.out.mono (Nat.le_trans HBA.out.size HBB.out.size))).mono HB1.out.size)
  have k34 : w3.heap.size < w4.heap.size := cell_lt t0
  clear hb4 p3 s0 s1 s2 HR2 HR3 HBA HBB HBC HP HB1 HSEN

  obtain ⟨P, hP1, hP2, hP3⟩ := run_outs ss inp most
  have hpl : (runOfR ss inp most).path.length = P.length := by rw [hP1]; simp
  obtain ⟨ov, pv, eV, L1, L2⟩ := HR4.out
  cases eV
  obtain ⟨ao6, pb, po, cap6, e6, _, ha6, hc6⟩ := L2
  cases e6
  obtain ⟨ao7, sb, so, cap7, e7, ha7, hc7⟩ := HP4.out.st
  cases e7
  have HPC : Hid (∀ k (hk : k < P.length), A6 = some ⟨pb, po, none⟩ ∧ w4.cell? ⟨pb, po + k, none⟩ = some (.int .i64 ((P[k] : Nat) : Int))) := fun k hk => by
    refine ⟨ha6 (by omega), ?_⟩
    rw [hc6 k (by omega)]
    simp only [hP1, List.getD, List.getElem?_map, List.getElem?_eq_getElem hk, Option.map_some, Option.getD_some]
  have HSC : Hid (∀ k, k < ss.length → A1 = some ⟨sb, so, none⟩ ∧ w4.cell? ⟨sb, so + k * 8, none⟩ = some (.int .i64 (ss.getD k st0).kind)) := fun k hk => by
    obtain ⟨nv, cs, _⟩ := hc7 k ss[k] (by simp [hk])
    refine ⟨ha7 (by omega), ?_⟩
    rw [cs.c0]
    simp [List.getD, hk]
  have HP2 : Hid (∀ k ∈ P, k < ss.length) := hP2
  have HP3 : Hid ((runOfR ss inp most).outs.length = P.countP (fun k => decide ((ss.getD k st0).kind = 4))) := hP3
  have hPl6 : P.length ≤ 600 := by omega
  rw [hpl] at t2
  generalize (runOfR ss inp most).outs.length = ol at *
  clear hP1 hP2 hP3 ha6 hc6 ha7 hc7 L1 HP4 HR4 HW4 e0 e1 e2
  go_wp2_with fail
  go_loopw [8, 9] (fun n i wr => ∃ k : Nat, k ≤ P.length ∧ i = .int .i64 (k : Int) ∧ n = .int .i64 (((P.take k).countP (fun k => decide ((ss.getD k st0).kind = 4)) : Nat) : Int) ∧ Below w4.heap.size w4 wr) (fun _ i _ => P.length - (intOf i).toNat)
  case atStart => exact ⟨0, Nat.zero_le _, rfl, by simp, Below.refl _ _⟩
  case round =>
    obtain ⟨k, hk, rfl, rfl, hb⟩ := hrel
    have x2 := cell_keep hb t2
    have x1 := cell_keep hb t1
    have xp := cell_keep hb p4
    have HBR : Hid (Below w4.heap.size w4 wr) := hb
    have HBF : Hid (Below w.heap.size w wr) := HB4.out.trans (hb.mono HB4.out.size)
    by_cases hkl : k < P.length
    · have hki : (k : Int) < (P.length : Int) := by omega
      obtain ⟨rfl, hcp⟩ := HPC.out k hkl
      have hPk : P[k] < ss.length := HP2.out _ (List.getElem_mem hkl)
      obtain ⟨rfl, hcs⟩ := HSC.out P[k] hPk
      have y1 := cell_keep hb hcp
      have y2 := cell_keep hb hcs
      have hPi : ((P[k] : Nat) : Int) < (ss.length : Int) := by omega
      have hcnt : (P.take (k + 1)).countP (fun k => decide ((ss.getD k st0).kind = 4)) = (P.take k).countP (fun k => decide ((ss.getD k st0).kind = 4)) + if (ss.getD P[k] st0).kind = 4 then 1 else 0 := by
        rw [List.take_succ_eq_append_getElem hkl, List.countP_append, List.countP_cons, List.countP_nil]
        by_cases h4 : (ss.getD P[k] st0).kind = 4
        · rw [if_pos h4, if_pos (decide_eq_true h4)]
        · rw [if_neg h4, if_neg (by rw [decide_eq_false h4]; decide)]
      have HCNT : Hid _ := hcnt
      have hcle : (P.take k).countP (fun k => decide ((ss.getD k st0).kind = 4)) ≤ 600 := Nat.le_trans List.countP_le_length (by simp; omega)
      clear hcp hcs hb hcnt
      generalize hcc : (P.take k).countP (fun k => decide ((ss.getD k st0).kind = 4)) = cc at *
      by_cases h4 : (ss.getD P[k] st0).kind = 4
      · rw [h4] at y2
        have HN : Hid ((P.take (k + 1)).countP (fun k => decide ((ss.getD k st0).kind = 4)) = cc + 1) := by rw [Hid, HCNT.out, if_pos h4]
        clear h4 HCNT hcc
        generalize P[k] = pk at *
        go_wp2_with fail
        go_quiet (fail)
        go_wp2
        go_roundw
        case rel => exact ⟨k + 1, by omega, by go_num, by rw [HN.out]; go_num, below_drewN HBR.out _⟩
        case measure => simp [intOf]; omega
      · have HN : Hid ((P.take (k + 1)).countP (fun k => decide ((ss.getD k st0).kind = 4)) = cc) := by rw [Hid, HCNT.out, if_neg h4]; rfl
        have h4b : ((ss.getD P[k] st0).kind == 4) = false := by simpa using h4
        clear h4 HCNT hcc
        generalize (ss.getD P[k] st0).kind = kd at *
        generalize P[k] = pk at *
        go_wp2_with fail
        go_quiet (fail)
        go_wp2
        go_roundw
        case rel => exact ⟨k + 1, by omega, by go_num, by rw [HN.out], below_drewN HBR.out _⟩
        case measure => simp [intOf]; omega
    · have hki : ¬ ((k : Int) < (P.length : Int)) := by omega
      obtain rfl : k = P.length := by omega
      have hE : (P.take P.length).countP (fun k => decide ((ss.getD k st0).kind = 4)) = ol := by rw [List.take_length, HP3.out]
      rw [hE]
      clear hb hE
      go_wp2
      exact HQ.out _ HBF.out

set_option maxRecDepth 100000 in
theorem contract (H : Type) (enc : TypeId × Value → H) (W : World) (base : Nat) (args : Array Value) (ds gs : List (DataW H)) (before : List MemPlace)
    (hval : ∀ (j : Nat) t v, Tryd.f7.params[j]? = some t → args[j]? = some v → Value.okWide Tryd.prog W .any base t v)
    (hW : DataW.Whole enc Tryd.prog Tryd.f7.params.toList Rows.fnRunOutsSpec.vars false W args.toList ds gs before) (hL : laidMetH Tryd.prog Rows.fnRunOutsRow.laid W) :
    Calls Tryd.prog 7 args W fun e W' => ∃ v, e = .returned v ∧ Rows.fnRunOutsSpec.post enc Tryd.prog Tryd.f7 false true false false W args v W' := by
  have hW' := hW
  obtain ⟨p, q, hA0, hV, rfl, hfz, hnd⟩ := hW
  have hA : DataW.TrodAll enc Tryd.prog W 0 (fun _ => true) true Tryd.f7.params.toList args.toList ds p := hA0
  rw [Tryd.params7] at hA hval
  obtain ⟨v0, vs0, d0, ds0, p0, q0, hargs, rfl, rfl, h0, r0⟩ := trodAll_cons hA
  obtain ⟨rfl, rfl, rfl⟩ := trodAll_nil r0
  obtain rfl : args = #[v0] := by cases args; simp_all
  obtain ⟨y1, y2, y3, rfl⟩ := vars3 hV
  obtain ⟨a0, a1, a2, hs⟩ := sen_of_laid hL
  have k0 := h0
  have lt0 : ∀ x ∈ p0, x.block < W.heap.size := by obtain ⟨m, hm⟩ := k0; exact DataW.trod_lt m _ _ _ hm
  have c0 := open_code (hval 0 42 v0 rfl rfl) h0
  clear hA0
  refine law_walk v0 W a0 a1 a2 hs c0 fun W' bel => ?_
  exact ⟨_, rfl, _, _, _, [], _, q, hW', trodAll_mk1 (shut_bool Tryd.underlying4 _), (trodAll_cons_mk (Below.trod laidOut (by kernel_rfl) (of_decide_eq_true (by kernel_rfl)) k0 bel lt0) trodAll_mk0), bel.trodVars laidOut (by kernel_rfl) hV, bel.frame _, fun h => by cases h⟩

set_option maxRecDepth 100000 in
theorem lifted (os : Os) (started : os.Started) (H : Type) (enc : TypeId × Value → H) :
    ReturnsInHanded {} Tryd.checked os 7 .any (fun w args => (Rows.fnRunOutsSpec.pre enc Tryd.prog Tryd.f7 Rows.fnRunOutsRow.domain false w args ∧ laidMetH Tryd.prog Rows.fnRunOutsRow.laid w) ∧ sizedMet enc Tryd.prog Tryd.f7 (OpenSpec.ofChange Rows.fnRunOutsSpec) false w args)
      (Rows.fnRunOutsSpec.post enc Tryd.prog Tryd.f7 false true false false) := by
  refine returnsInHanded_of_change_and (C := Tryd.checked) (X := fun w _ => laidMetH Tryd.prog Rows.fnRunOutsRow.laid w) (fun _ _ _ hh h => h.of_heap hh) own started (by kernel_rfl) Tryd.func7
    (ChangeSpec.witness_shaped (enc := enc) (C := Tryd.checked) (os := os) (X := fun w _ => laidMetH Tryd.prog Rows.fnRunOutsRow.laid w) false (World.laidAll Tryd.prog os Rows.fnRunOutsRow.laid) #[.slice none 0 0] 8 (World.laidAll_os _ _ _)
      (World.shaped_of_ZipB (by kernel_rfl) (by kernel_rfl)) (by kernel_rfl) (by kernel_rfl) (by kernel_rfl)
      (by rw [MakeChecks.laidMetH_plain _ _ _ (by kernel_rfl)]; exact laidMet_laidAll _ (by kernel_rfl) (by kernel_rfl))) ?_
  intro W base args ds gs before hval0 hW _ _ hL _
  exact contract H enc W base args ds gs before hval0 hW hL

theorem said : Rows.FnRunOutsSaid :=
  OpenClaim.holds_of_wide 7 Tryd.f7 rfl rfl rfl rfl rfl rfl rfl ⟨rfl, rfl, rfl, rfl, rfl⟩ rfl rfl rfl rfl rfl (by kernel_rfl) Tryd.func7 (by kernel_rfl)
    (of_decide_eq_true (by kernel_rfl)) (by unfold Func.isWrapper; first | (rw [if_pos (by decide +kernel)]; kernel_rfl) | (rw [if_neg (by decide +kernel)]; exact ⟨rfl, rfl⟩))
    (fun os started H enc _ => lifted os started H enc)

theorem plain (f : FuncId) (fn : Func) (hf : Tryd.pinned.checked.prog.funcNamed Rows.fnRunOutsRow.func = some f) (hfn : Tryd.pinned.checked.prog.funcs[f]? = some fn) :
    true = Tryd.pinned.checked.prog.looks [] ∧ ∀ (j : Nat) t, fn.params[j]? = some t → Tryd.pinned.checked.prog.wantsStandIn t = false := by
  obtain rfl : f = 7 := Option.some.inj ((show Tryd.prog.funcNamed Rows.fnRunOutsRow.func = some 7 by kernel_rfl).symm.trans hf) |>.symm
  obtain rfl : fn = Tryd.f7 := (Option.some.inj (Tryd.func7.symm.trans hfn)).symm
  refine ⟨by kernel_rfl, fun j t ht => ?_⟩
  rw [Tryd.params7] at ht
  obtain rfl : t = 42 := by simpa using Array.mem_of_getElem? ht
  exact (show Tryd.prog.wantsStandIn 42 = false by kernel_rfl)

theorem fnRunOuts_card : Rows.FnRunOutsCardSaid :=
  Claim7.holds_tied_plain_at .later [] _ _ _ _ said (fun _ h => by cases h) (by kernel_rfl) (fun _ h => by cases h) fnRunOuts_row_tie rfl ⟨rfl, rfl⟩ (by kernel_rfl) rfl plain (by kernel_rfl)
#print axioms fnRunOuts_card
end Go.Proofs.YtnlcdecokpdkpaaDoor
