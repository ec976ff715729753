/-
  For every code of bytes, of the program and the reckoning that are drawn from it, no step that reckons it reckons it with its operands turned about, unless they are alike, by what ExprComp answers, which is as the model's: the law FnExprTurn answers true. The row lists one table of the library (laid), and the card ties it to the program's text: no other condition.
-/
import Derived.Test.YthaiiegofofnmaaDoorCards
import Derived.Test.YthaiiegofofnmaaDoorTie
import Derived.Test.YthaiiegofofnmaaDoorDrawEC
import Derived.Test.YthaiiegofofnmaaDoorLkB
import Derived.Test.YthaiiegofofnmaaDoorExprU
import Derived.Test.YthaiiegofofnmaaDoorOpndH
import Derived.OpenShut
import Derived.ShutString
import Derived.ChangeOld
import Derived.Below
import Derived.Deep.DeepHandedRow
import Derived.Lib.LaidTab
namespace Go.Proofs.YthaiiegofofnmaaDoor
open Go.ChangeShapes Go.WideShapes Go.ChangeAt Go.RowKit

theorem own : ownKnob Tryd.prog.godebug = none := by kernel_rfl
theorem laidOut : laidOutB Tryd.prog = true := by kernel_rfl

theorem exprB_turn (e : E5) : exprB ⟨e.op, e.bv, e.bn, e.av, e.an⟩ = exprB e := by
  unfold exprB
  simp only [Bool.and_assoc]
  rw [Bool.and_comm (opndB e.bv e.bn)]

set_option maxRecDepth 100000 in
set_option maxHeartbeats 8000000 in
theorem law_walk (v : Value) (w : World) (h : CodeAt w v) (hT : ∀ W, Below w.heap.size w W → Tab W ∧ 0 < W.heap.size) {Q : Ending → World → Prop} (hQ : ∀ w', Below w.heap.size w w' → Q (.returned (.bool true)) w') :
    Calls Tryd.prog 6 #[v] w Q := by
  have HQ : Hid (∀ w', Below w.heap.size w w' → Q (.returned (.bool true)) w') := hQ
  have HTK : Hid (∀ W, Below w.heap.size w W → Tab W ∧ 0 < W.heap.size) := hT
  clear hQ hT
  have HC : Hid _ := h
  obtain ⟨ao, bb, bo, bl, cap, rfl, h1, h2, h3, h4, h5⟩ := h
  clear h3 h4 h5
  by_cases hbl : 1048576 < bl
  · go_enter Tryd.func6, Tryd.ntmps6
    go_wp2
    exact HQ.out _ (Below.refl _ _)
  go_enter Tryd.func6, Tryd.ntmps6
  go_wp2_with fail
  refine drawExprComp_any _ _ HC.out fun v1 ss e w1 hS1 hl hls hb1 => ?_
  clear HC
  obtain ⟨A1, b1, o1, c1, rfl, hA1, hC1⟩ := id hS1
  have HS1 : Hid (StepsAt w1 (.slice A1 ss.length c1) ss) := hS1.at
  have HLS : Hid (∀ s ∈ ss, s.next.length ≤ 1048576) := fun s hs => Nat.le_trans (hls s hs) (by decide)
  have HB1 : Hid (Below w.heap.size w w1) := hb1
  clear hA1 hC1 hS1 hls hb1
  go_wp2_with fail
  have hb0 : Below w1.heap.size w1 ((w1.alloc (.cells #[.slice A1 ss.length c1] 25)).alloc (.cells #[.int .i64 e.op, .int .i64 e.av, .int .i64 e.an, .int .i64 e.bv, .int .i64 e.bn] 32)) := ((Below.refl _ _).alloc (Nat.le_refl _) _).alloc (by simp) _
  have hbx := BoxE.new w1 A1 ss.length c1 e 25 32
  generalize hW2 : (w1.alloc (.cells #[.slice A1 ss.length c1] 25)).alloc (.cells #[.int .i64 e.op, .int .i64 e.av, .int .i64 e.an, .int .i64 e.bv, .int .i64 e.bn] 32) = W2 at *
  clear hW2
  refine specComp_u _ ss e _ (HS1.out.keep hb0) (by omega) HLS.out fun v2 rs w2 hb2 hrs hown2 => ?_
  have HB12 : Hid (Below w1.heap.size w1 w2) := hb0.trans (hb2.mono hb0.size)
  have HX2 : Hid (BoxE w2 w1.heap.size A1 ss.length c1 e) := hbx.keep hb2
  have HRS : Hid (RowOr compB ss e rs) := hrs
  obtain ⟨A2, c2, hv2⟩ := (BoolsOwn.of hown2).slice
  subst hv2
  have HO2 : Hid (BoolsOwn W2.heap.size w2.heap.size w2 (.slice A2 rs.length c2) rs) := BoolsOwn.of hown2
  have HBW2 : Hid (Below w.heap.size w w2) := HB1.out.trans (HB12.out.mono HB1.out.size)
  have hrl : rs.length ≤ 1048576 := hrs.bound (by omega)
  have p2 := HX2.out.p
  have x20 := HX2.out.c0
  have x21 := HX2.out.c1
  have x22 := HX2.out.c2
  have x23 := HX2.out.c3
  have x24 := HX2.out.c4
  clear hb2 hrs hown2 hb0 hbx
  go_wp2_with fail
  refine implComp_u _ ss e _ (HS1.out.keep HB12.out) (HTK.out _ HBW2.out).1 (HTK.out _ HBW2.out).2 (by omega) HLS.out fun v3 rs3 w3 hb3 hrs3 hown3 => ?_
  obtain rfl : rs3 = rs := hrs3.unique HRS.out
  have HB13 : Hid (Below w1.heap.size w1 w3) := HB12.out.trans (hb3.mono HB12.out.size)
  have HX3 : Hid (BoxE w3 w1.heap.size A1 ss.length c1 e) := HX2.out.keep hb3
  obtain ⟨A3, c3, hv3⟩ := (BoolsOwn.of hown3).slice
  subst hv3
  have HO3 : Hid (BoolsOwn w2.heap.size w3.heap.size w3 (.slice A3 rs3.length c3) rs3) := BoolsOwn.of hown3
  have HO23 : Hid (BoolsOwn W2.heap.size w2.heap.size w3 (.slice A2 rs3.length c2) rs3) := HO2.out.keep hb3
  have HBW3 : Hid (Below w.heap.size w w3) := HB1.out.trans (HB13.out.mono HB1.out.size)
  have p3 := HX3.out.p
  have x30 := HX3.out.c0
  have x31 := HX3.out.c1
  have x32 := HX3.out.c2
  have x33 := HX3.out.c3
  have x34 := HX3.out.c4
  clear hb3 hrs3 hown3 p2 x20 x21 x22 x23 x24 HX2 HO2 HB12 HBW2
  go_wp2_with fail
  refine implComp_u _ ss ⟨e.op, e.bv, e.bn, e.av, e.an⟩ _ (HS1.out.keep HB13.out) (HTK.out _ HBW3.out).1 (HTK.out _ HBW3.out).2 (by omega) HLS.out fun v4 ts w4 hb4 hts hown4 => ?_
  have hlen : ts.length = rs3.length := by
    have e1 := hts
    have e2 := HRS.out
    rw [RowOr, exprB_turn] at e1
    rw [RowOr] at e2
    rw [e1, e2]
    split <;> simp
  have HTS : Hid (RowOr compB ss ⟨e.op, e.bv, e.bn, e.av, e.an⟩ ts) := hts
  have HB14 : Hid (Below w1.heap.size w1 w4) := HB13.out.trans (hb4.mono HB13.out.size)
  have HX4 : Hid (BoxE w4 w1.heap.size A1 ss.length c1 e) := HX3.out.keep hb4
  obtain ⟨A4, c4, hv4⟩ := (BoolsOwn.of hown4).slice
  subst hv4
  have HO4 : Hid (BoolsOwn w3.heap.size w4.heap.size w4 (.slice A4 ts.length c4) ts) := BoolsOwn.of hown4
  have HO34 : Hid (BoolsOwn w2.heap.size w3.heap.size w4 (.slice A3 rs3.length c3) rs3) := HO3.out.keep hb4
  have HO24 : Hid (BoolsOwn W2.heap.size w2.heap.size w4 (.slice A2 rs3.length c2) rs3) := HO23.out.keep hb4
  clear hb4 hts hown4 p3 x30 x31 x32 x33 x34 HX3 HO3 HO23 HB13 HBW3
  have hlI : (rs3.length : Int) = (ts.length : Int) := by omega
  rw [← hlen] at hrl
  go_wp2_with fail
  refine lkBools_any _ _ rs3 _ _ _ _ _ HO34.out HO24.out (by omega) fun w5 hb5 => ?_
  have HB15 : Hid (Below w1.heap.size w1 w5) := HB14.out.trans (hb5.mono HB14.out.size)
  have HX5 : Hid (BoxE w5 w1.heap.size A1 ss.length c1 e) := HX4.out.keep hb5
  have HO35 : Hid (BoolsOwn w2.heap.size w3.heap.size w5 (.slice A3 rs3.length c3) rs3) := HO34.out.keep hb5
  have HO45 : Hid (BoolsOwn w3.heap.size w4.heap.size w5 (.slice A4 ts.length c4) ts) := HO4.out.keep hb5
  have HBW5 : Hid (Below w.heap.size w w5) := HB1.out.trans (HB15.out.mono HB1.out.size)
  clear hb5 HX4 HO34 HO24 HO4 HB14
  obtain ⟨ao3, g3, cap3, hv3, hrow3⟩ := HO35.out.read
  obtain ⟨ao4, g4, cap4, hv4, hrow4⟩ := HO45.out.read
  cases hv3
  cases hv4
  have hbn : rs3.length ≤ 1048576 := by omega
  rcases Nat.eq_zero_or_pos rs3.length with hz | hpos
  · have hzi : ¬ (0 : Int) < (rs3.length : Int) := by omega
    clear hlI
    go_wp2_with fail
    go_loopw [8] (fun i wr => i = .int .i64 0 ∧ Below w5.heap.size w5 wr) (fun _ _ => 0)
    case atStart => exact ⟨rfl, Below.refl _ _⟩
    case round =>
      obtain ⟨rfl, hb⟩ := hrel
      have HF : Hid (Below w.heap.size w wr) := HBW5.out.trans (hb.mono HBW5.out.size)
      clear hb
      go_wp2
      exact HQ.out _ HF.out
  · obtain ⟨hok, he⟩ : okB ss = true ∧ exprB e = true := by
      refine Classical.byContradiction fun hn => ?_
      have := HRS.out.none hn
      rw [this] at hpos
      simp at hpos
    obtain ⟨hl1, hg1⟩ := HRS.out.get hok he
    obtain ⟨hl2, hg2⟩ := HTS.out.get hok (by rw [exprB_turn]; exact he)
    obtain rfl := (hrow3 0 hpos).1
    obtain rfl := (hrow4 0 (by omega)).1
    obtain ⟨_, ⟨ea, eb, ec, ed⟩, ⟨fa, fb, fc, fd⟩⟩ := exprB_small he
    have HC3 : Hid (∀ i, i < rs3.length → w5.cell? ⟨g3, i, none⟩ = some (.bool (rs3.getD i false)) ∧ w5.cell? ⟨g4, i, none⟩ = some (.bool (ts.getD i false))) := fun i hi => ⟨(hrow3 i hi).2.1, (hrow4 i (by omega)).2.1⟩
    have HG : Hid (∀ i, i < rs3.length → (rs3.getD i false = true → ts.getD i false = decide (e.av = e.bv ∧ e.an = e.bn))) := fun i hi h => by
      rw [hg1 i (by omega)] at h
      rw [hg2 i (by omega)]
      unfold compB at *
      simp only [Bool.and_eq_true, decide_eq_true_eq] at h
      rw [h.1, h.2]
      cases e
      simp only [E5.mk.injEq, true_and, decide_true, Bool.true_and]
      rw [decide_eq_decide]
      constructor
      · rintro ⟨h1, h2, h3, h4⟩; exact ⟨h1, h2⟩
      · rintro ⟨h1, h2⟩; exact ⟨h1, h2, h1.symm, h2.symm⟩
    have HEQ : Hid (∀ w, (Go.binOp .eql 30 (.agg #[.int .i64 e.av, .int .i64 e.an]) (.agg #[.int .i64 e.bv, .int .i64 e.bn])).run Tryd.prog w = .ok (.bool (decide (e.av = e.bv ∧ e.an = e.bn))) w) := fun w => binRunO (by omega) (by omega) (by omega) (by omega) w
    clear hrow3 hrow4 hg1 hg2 hl1 hl2 hok he ea eb ec ed fa fb fc fd
    go_wp2_with fail
    go_loopw [8] (fun i wr => ∃ x : Nat, x ≤ rs3.length ∧ i = .int .i64 x ∧ Below w5.heap.size w5 wr) (fun i _ => rs3.length - (intOf i).toNat)
    case atStart => exact ⟨0, Nat.zero_le _, rfl, Below.refl _ _⟩
    case round =>
      obtain ⟨x, hx, rfl, hb⟩ := hrel
      have HF : Hid (Below w.heap.size w wr) := HBW5.out.trans (hb.mono HBW5.out.size)
      have HBR : Hid (Below w5.heap.size w5 wr) := hb
      by_cases hxl : x < rs3.length
      · have hxi : (x : Int) < (rs3.length : Int) := by omega
        obtain ⟨a1, a2⟩ := HC3.out x hxl
        have d1 := cell_keep hb a1
        have d2 := cell_keep hb a2
        have hxr := HX5.out.keep hb
        have y1 := hxr.c1
        have y2 := hxr.c2
        have y3 := hxr.c3
        have y4 := hxr.c4
        have HGX : Hid _ := HG.out x hxl
        clear a1 a2 hb hxr
        cases h1 : rs3.getD x false
        · rw [h1] at d1
          clear h1 HGX
          go_wp2_with fail
          go_quiet (fail)
          all_goals
            go_wp2
            go_roundw
            case rel => exact ⟨x + 1, by omega, by go_num, below_drewN HBR.out _⟩
            case measure => simp [intOf]; omega
        · have h2 := HGX.out h1
          rw [h1] at d1
          rw [h2] at d2
          clear h1 h2 HGX
          have hgd := guardRunO (.tmp 59) (.tmp 61) #[.int .i64 e.av, .int .i64 e.an] #[.int .i64 e.bv, .int .i64 e.bn]
          by_cases hd : e.av = e.bv ∧ e.an = e.bn
          · have hq := HEQ.out
            rw [decide_eq_true hd] at hq d2
            clear hd
            go_wp2_with fail
            go_quiet (fail)
            all_goals
              go_wp2
              go_roundw
              case rel => exact ⟨x + 1, by omega, by go_num, below_drewN HBR.out _⟩
              case measure => simp [intOf]; omega
          · have hq := HEQ.out
            rw [decide_eq_false hd] at hq d2
            clear hd
            go_wp2_with fail
            go_quiet (fail)
            all_goals
              go_wp2
              go_roundw
              case rel => exact ⟨x + 1, by omega, by go_num, below_drewN HBR.out _⟩
              case measure => simp [intOf]; omega
      · have hxi : ¬ (x : Int) < (rs3.length : Int) := by omega
        clear hb
        go_wp2
        exact HQ.out _ HF.out

theorem gTab : Tryd.prog.globalNamed "math/bits.deBruijn64tab" = some 0 := by kernel_rfl
theorem gTabType : (Tryd.prog.globals[0]?).map (·.type) = some 135 := by kernel_rfl

theorem tab_of_laid {W : World} (h : laidMetH Tryd.prog Rows.fnExprTurnRow.laid W) : Tab W := by
  have h1 := laidMetH.filter (fun x => x.1 == "math/bits.deBruijn64tab") h
  have h2 : Lib.TabIs Tryd.prog W "math/bits.deBruijn64tab" .u8 (Lib.deBruijn64tab.map Int.ofNat) := Lib.tabIs_of_head (rest := []) gTab gTabType Tryd.underlying135 Tryd.underlying5 (by kernel_rfl) (by kernel_rfl) h1
  intro j hj
  have h3 := h2.cell gTab j (by simpa using hj)
  rw [h3]
  simp only [List.getD, List.getElem?_map]
  cases Lib.deBruijn64tab[j]? <;> rfl

theorem Tab.lt {W : World} (h : Tab W) : 0 < W.heap.size := cell_lt (h 0 (by decide))

/-- The numbers of a table, as cells. -/
def tableCells : DataW Unit → Array Value
  | .agg l => (l.map fun | .lit (.int k n) => Value.int k n | _ => Value.int .i64 0).toArray
  | _ => #[]

/-- A world whose first blocks hold the library's tables. -/
def withTables (W : World) : World :=
  { W with heap := W.heap.modify 0 fun
      | .cells _ t frozen => .cells (tableCells Rows.laid_math_bits_deBruijn64tab) t frozen
      | o => o }

theorem laid_met (os : Os) : laidMet Tryd.prog Rows.fnExprTurnRow.laid ((withTables (World.holding Tryd.prog os ⟨#[], #[], []⟩)).forCall (fun _ _ => 0) ⟨#[], #[.slice none 0 0], []⟩).memory :=
  laidMet_of_run' 8 (by kernel_rfl) (by kernel_rfl)
theorem reads (os : Os) {H : Type} (enc : TypeId × Value → H) : ∃ places, DataW.whole enc Tryd.prog ((withTables (World.holding Tryd.prog os ⟨#[], #[], []⟩)).forCall (fun _ _ => 0) ⟨#[], #[.slice none 0 0], []⟩).memory Tryd.f6.params.toList Rows.fnExprTurnSpec.vars false #[Value.slice none 0 0].toList 8 = some ([.nil], [], places) :=
  ⟨[], by kernel_rfl⟩

set_option maxRecDepth 100000 in
theorem contract (H : Type) (enc : TypeId × Value → H) (W : World) (base : Nat) (args : Array Value) (ds gs : List (DataW H)) (before : List MemPlace)
    (hval : ∀ (j : Nat) t v, Tryd.f6.params[j]? = some t → args[j]? = some v → Value.okWide Tryd.prog W .any base t v)
    (hW : DataW.Whole enc Tryd.prog Tryd.f6.params.toList Rows.fnExprTurnSpec.vars false W args.toList ds gs before) (hL : laidMetH Tryd.prog Rows.fnExprTurnRow.laid W) :
    Calls Tryd.prog 6 args W fun e W' => ∃ v, e = .returned v ∧ Rows.fnExprTurnSpec.post enc Tryd.prog Tryd.f6 false true false false W args v W' := by
  have hW' := hW
  obtain ⟨p, q, hA0, hV, rfl, hfz, hnd⟩ := hW
  have hA : DataW.TrodAll enc Tryd.prog W 0 (fun _ => true) true Tryd.f6.params.toList args.toList ds p := hA0
  rw [Tryd.params6] at hA hval
  obtain ⟨v0, vs0, d0, ds0, p0, q0, hargs, rfl, rfl, h0, r0⟩ := trodAll_cons hA
  obtain ⟨rfl, rfl, rfl⟩ := trodAll_nil r0
  obtain rfl : args = #[v0] := by cases args; simp_all
  obtain ⟨rfl, rfl⟩ := trodVars_none hV
  have k0 := h0
  have lt0 : ∀ x ∈ p0, x.block < W.heap.size := by obtain ⟨m, hm⟩ := k0; exact DataW.trod_lt m _ _ _ hm
  have c0 := open_code (hval 0 22 v0 rfl rfl) h0
  clear hA0
  refine law_walk v0 W c0 (fun X hX => ⟨(tab_of_laid hL).keep hX, Nat.lt_of_lt_of_le (Tab.lt (tab_of_laid hL)) hX.size⟩) fun W' bel => ?_
  exact ⟨_, rfl, _, _, _, [], _, [], hW', trodAll_mk1 (shut_bool Tryd.underlying4 _), (trodAll_cons_mk (Below.trod laidOut (by kernel_rfl) (of_decide_eq_true (by kernel_rfl)) k0 bel lt0) trodAll_mk0), rfl, bel.frame _, fun h => by cases h⟩

set_option maxRecDepth 100000 in
theorem lifted (os : Os) (started : os.Started) (H : Type) (enc : TypeId × Value → H) (F : Stop.Interp) :
    ReturnsInHanded {} Tryd.checked os 6 .any ((OpenSpec.ofChange Rows.fnExprTurnSpec).preRow enc Tryd.prog Tryd.f6 Rows.fnExprTurnRow.domain false Rows.fnExprTurnRow.laid) (((OpenSpec.ofChange Rows.fnExprTurnSpec).at F).post enc Tryd.prog Tryd.f6 false true false false) := by
  obtain ⟨places, hx⟩ := reads os enc
  refine returnsInHanded_of_row (C := Tryd.checked) (s := OpenSpec.ofChange Rows.fnExprTurnSpec) own started (by kernel_rfl) Tryd.func6
    (witness_row_at (enc := enc) (C := Tryd.checked) false (withTables (World.holding Tryd.prog os ⟨#[], #[], []⟩)) #[.slice none 0 0] rfl (by kernel_rfl) (by kernel_rfl) (by kernel_rfl)
      (OpenSpec.preRow_of_cond 8 hx (by kernel_rfl) (fun k hk => by cases hk) (by kernel_rfl) (laid_met os))) ?_
  intro W base args ds gs before hval hW _ _ _ hL _ _
  exact contract H enc W base args ds gs before hval hW hL

theorem said : Rows.FnExprTurnSaid :=
  OpenClaim.holds_of_cond 6 Tryd.f6 rfl rfl rfl rfl rfl rfl rfl ⟨rfl, rfl, rfl, rfl, rfl⟩ rfl rfl rfl rfl rfl (by kernel_rfl) Tryd.func6 (by kernel_rfl)
    (of_decide_eq_true (by kernel_rfl)) (by unfold Func.isWrapper; first | (rw [if_pos (by decide +kernel)]; kernel_rfl) | (rw [if_neg (by decide +kernel)]; exact ⟨rfl, rfl⟩))
    (fun os started H enc _ F => by rw [OpenClaim.pre_eq_preRow]; exact lifted os started H enc F)

theorem plain (f : FuncId) (fn : Func) (hf : Tryd.pinned.checked.prog.funcNamed Rows.fnExprTurnRow.func = some f) (hfn : Tryd.pinned.checked.prog.funcs[f]? = some fn) :
    false = Tryd.pinned.checked.prog.looks [] ∧ ∀ (j : Nat) t, fn.params[j]? = some t → Tryd.pinned.checked.prog.wantsStandIn t = false := by
  obtain rfl : f = 6 := Option.some.inj ((show Tryd.prog.funcNamed Rows.fnExprTurnRow.func = some 6 by kernel_rfl).symm.trans hf) |>.symm
  obtain rfl : fn = Tryd.f6 := (Option.some.inj (Tryd.func6.symm.trans hfn)).symm
  refine ⟨by kernel_rfl, fun j t ht => ?_⟩
  rw [Tryd.params6] at ht
  obtain rfl : t = 22 := by simpa using Array.mem_of_getElem? ht
  exact (show Tryd.prog.wantsStandIn 22 = false by kernel_rfl)

theorem fnExprTurn_card : Rows.FnExprTurnCardSaid :=
  Claim7.holds_tied_plain_at .later [] _ _ _ _ said (fun _ h => by cases h) (by kernel_rfl) (fun _ h => by cases h) fnExprTurn_row_tie rfl ⟨rfl, rfl⟩ (by kernel_rfl) rfl plain (by kernel_rfl)
#print axioms fnExprTurn_card
end Go.Proofs.YthaiiegofofnmaaDoor
