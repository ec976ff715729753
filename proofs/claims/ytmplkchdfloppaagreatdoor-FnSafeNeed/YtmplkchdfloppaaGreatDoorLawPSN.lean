/-
  For every code of bytes, of the program, the reckoning and the path that are drawn from it, SafeEarly answers as the model does, and each place of the path that reckons it has an earliest place at it or ahead, and nothing changes between, by what ExprComp and ExprKeeps tell: the law FnSafeNeed answers true. The row lists one table of the library (laid), and the card ties it to the program's text: no other condition.
-/
import Derived.Test.YtmplkchdfloppaaGreatDoorCards
import Derived.Test.YtmplkchdfloppaaGreatDoorTie
import Derived.Test.YtmplkchdfloppaaGreatDoorDrawPBe
import Derived.Test.YtmplkchdfloppaaGreatDoorLkB
import Derived.Test.YtmplkchdfloppaaGreatDoorEachPG
import Derived.Test.YtmplkchdfloppaaGreatDoorSpecSSG
import Derived.Test.YtmplkchdfloppaaGreatDoorSpecPath
import Derived.Test.YtmplkchdfloppaaGreatDoorPathPG
import Derived.Test.YtmplkchdfloppaaGreatDoorLkSv
import Derived.Test.YtmplkchdfloppaaGreatDoorSafeT
import Derived.OpenShut
import Derived.ShutString
import Derived.ChangeOld
import Derived.Below
import Derived.Deep.DeepHandedRow
import Derived.Lib.LaidTab
import Derived.BigQuiet
namespace Go.Proofs.YtmplkchdfloppaaGreatDoor
open Go.ChangeShapes Go.WideShapes Go.ChangeAt Go.RowKit

theorem own : ownKnob Tryz.prog.godebug = none := by kernel_rfl
theorem laidOut : laidOutB Tryz.prog = true := by kernel_rfl

theorem SafeOr.yes {P : List St → E5 → List Bool → (Nat → Bool) → Prop} {ss : List St} {e : E5} {bs : List Bool} (h : SafeOr P ss e bs) (hp : 0 < bs.length) : okB ss = true ∧ exprB e = true ∧ ∃ rs f, IsReach ss rs ∧ P ss e rs f ∧ bs = (List.range ss.length).map f := by
  rcases h with h | ⟨_, rfl⟩
  · exact h
  · simp at hp

theorem SafeOr.same {P : List St → E5 → List Bool → (Nat → Bool) → Prop} {ss : List St} {e : E5} {bs rs : List Bool} (h : SafeOr P ss e bs) (hok : okB ss = true) (hex : exprB e = true) (hre : IsReach ss rs) : ∃ f, P ss e rs f ∧ bs = (List.range ss.length).map f := by
  rcases h with ⟨_, _, rs', f, h1, h2, h3⟩ | ⟨h1, _⟩
  · obtain rfl := h1.unique hre
    exact ⟨f, h2, h3⟩
  · exact absurd ⟨hok, hex⟩ h1

set_option maxRecDepth 100000 in
set_option maxHeartbeats 8000000 in
theorem law_walk (v : Value) (w : World) (h : CodeAt w v) (hT : ∀ W, Below w.heap.size w W → Tab W ∧ 0 < W.heap.size) {Q : Ending → World → Prop} (hQ : ∀ w', Below w.heap.size w w' → Q (.returned (.bool true)) w') :
    Calls Tryz.prog 3 #[v] w Q := by
  have HQ : Hid (∀ w', Below w.heap.size w w' → Q (.returned (.bool true)) w') := hQ
  have HTK : Hid (∀ W, Below w.heap.size w W → Tab W ∧ 0 < W.heap.size) := hT
  clear hQ hT
  have HC : Hid _ := h
  obtain ⟨ao, bb, bo, bl, cap, rfl, h1, h2, h3, h4, h5⟩ := h
  clear h3 h4 h5
  by_cases hbl : 1048576 < bl
  · go_enter Tryz.func3, Tryz.ntmps3
    go_wp2
    exact HQ.out _ (Below.refl _ _)
  go_enter Tryz.func3, Tryz.ntmps3
  go_wp2_with fail
  refine drawPathBest_any _ _ HC.out fun v1 yv ss e zs w1 hS1 hl hls hz1 hzl hb1 => ?_
  clear HC
  obtain ⟨A1, b1, o1, c1, rfl, hA1, hC1⟩ := id hS1
  obtain ⟨yo, yb, yof, ycap, rfl, _, hya, hyc⟩ := id hz1
  have HS1 : Hid (StepsAt w1 (.slice A1 ss.length c1) ss) := hS1.at
  have HLS : Hid (∀ s ∈ ss, s.next.length ≤ 1048576) := fun s hs => Nat.le_trans (hls s hs) (by decide)
  have HZ1 : Hid (IntsC w1 (.slice yo zs.length ycap) zs) := hz1
  have HB1 : Hid (Below w.heap.size w w1) := hb1
  have HYA : Hid _ := hya
  have HYC : Hid _ := hyc
  clear hA1 hC1 hS1 hls hb1 hz1 hya hyc
  go_wp2_with fail
  have hb0 : Below w1.heap.size w1 ((w1.alloc (.cells #[.slice A1 ss.length c1] 25)).alloc (.cells #[.int .i64 e.op, .int .i64 e.av, .int .i64 e.an, .int .i64 e.bv, .int .i64 e.bn] 29)) := ((Below.refl _ _).alloc (Nat.le_refl _) _).alloc (by simp) _
  have hbx := BoxE.new w1 A1 ss.length c1 e 25 29
  generalize hW2 : (w1.alloc (.cells #[.slice A1 ss.length c1] 25)).alloc (.cells #[.int .i64 e.op, .int .i64 e.av, .int .i64 e.an, .int .i64 e.bv, .int .i64 e.bn] 29) = W2 at *
  clear hW2
  refine specSafeEarly_any _ ss e _ (HS1.out.keep hb0) (by omega) HLS.out fun v2 rs w2 hb2 hrs hown2 => ?_
  have HB12 : Hid (Below w1.heap.size w1 w2) := hb0.trans (hb2.mono hb0.size)
  have HX2 : Hid (BoxE w2 w1.heap.size A1 ss.length c1 e) := hbx.keep hb2
  have HRS : Hid (SafeOr IsEarly ss e rs) := hrs
  obtain ⟨A2, c2, hv2⟩ := (BoolsOwn.of hown2).slice
  subst hv2
  have HO2 : Hid (BoolsOwn W2.heap.size w2.heap.size w2 (.slice A2 rs.length c2) rs) := BoolsOwn.of hown2
  have HBW2 : Hid (Below w.heap.size w w2) := HB1.out.trans (HB12.out.mono HB1.out.size)
  have hrl : rs.length ≤ 1048576 := hrs.bound (by omega)
  have p2 := HX2.out.p
  have x20 := HX2.out.c0
  have x21 := HX2.out.c1
  have x22 := HX2.out.c2
  have x23 := HX2.out.c3
  have x24 := HX2.out.c4
  clear hb2 hrs hown2 hb0 hbx
  go_wp2_with fail
  refine implSafeEarly_any _ ss e _ (HS1.out.keep HB12.out) (by omega) HLS.out fun v3 rs3 w3 hb3 hrs3 hown3 => ?_
  obtain rfl : rs3 = rs := SafeOr.unique IsEarly.unique hrs3 HRS.out
  have HB13 : Hid (Below w1.heap.size w1 w3) := HB12.out.trans (hb3.mono HB12.out.size)
  have HX3 : Hid (BoxE w3 w1.heap.size A1 ss.length c1 e) := HX2.out.keep hb3
  obtain ⟨A3, c3, hv3⟩ := (BoolsOwn.of hown3).slice
  subst hv3
  have HO3 : Hid (BoolsOwn w2.heap.size w3.heap.size w3 (.slice A3 rs3.length c3) rs3) := BoolsOwn.of hown3
  have HO23 : Hid (BoolsOwn W2.heap.size w2.heap.size w3 (.slice A2 rs3.length c2) rs3) := HO2.out.keep hb3
  have p3 := HX3.out.p
  have x30 := HX3.out.c0
  have x31 := HX3.out.c1
  have x32 := HX3.out.c2
  have x33 := HX3.out.c3
  have x34 := HX3.out.c4
  clear hb3 hrs3 hown3 p2 x20 x21 x22 x23 x24 HX2 HO2 HB12 HBW2
  go_wp2_with fail
  refine lkBools_any _ _ rs3 _ _ _ _ _ HO3.out HO23.out (by omega) fun w4 hb4 => ?_
  have HB14 : Hid (Below w1.heap.size w1 w4) := HB13.out.trans (hb4.mono HB13.out.size)
  have HX4 : Hid (BoxE w4 w1.heap.size A1 ss.length c1 e) := HX3.out.keep hb4
  have HO34 : Hid (BoolsOwn w2.heap.size w3.heap.size w4 (.slice A3 rs3.length c3) rs3) := HO3.out.keep hb4
  have HO24 : Hid (BoolsOwn W2.heap.size w2.heap.size w4 (.slice A2 rs3.length c2) rs3) := HO23.out.keep hb4
  have HBW4 : Hid (Below w.heap.size w w4) := HB1.out.trans (HB14.out.mono HB1.out.size)
  have p4 := HX4.out.p
  have x40 := HX4.out.c0
  have x41 := HX4.out.c1
  have x42 := HX4.out.c2
  have x43 := HX4.out.c3
  have x44 := HX4.out.c4
  clear hb4 HX3 HO3 HO23 HB13 p3 x30 x31 x32 x33 x34
  rcases Nat.eq_zero_or_pos rs3.length with hz | hpos
  · obtain rfl : rs3 = [] := List.eq_nil_of_length_eq_zero hz
    go_wp2_with fail
    refine lkBools_any _ _ [] _ _ _ _ _ HO34.out HO24.out (by omega) fun w5 hb5 => ?_
    have HF : Hid (Below w.heap.size w w5) := HBW4.out.trans (hb5.mono HBW4.out.size)
    clear hb5
    go_wp2
    exact HQ.out _ HF.out
  have hpi : ¬ (rs3.length : Int) = 0 := by omega
  have hpi2 : ((rs3.length : Int) == 0) = false := beq_eq_false_iff_ne.2 hpi
  obtain ⟨hok, he, rr, E, hre, hE, hEe⟩ := HRS.out.yes hpos
  have hlen : rs3.length = ss.length := by rw [hEe]; simp
  have HRE : Hid (IsReach ss rr) := hre
  have HOK : Hid (okB ss = true) := hok
  have HEX : Hid (exprB e = true) := he
  clear hok he hre
  have hsp : ¬ (ss.length : Int) = 0 := by omega
  have hsp2 : ((ss.length : Int) == 0) = false := beq_eq_false_iff_ne.2 hsp
  have hsn : ¬ ss.length = 0 := by omega
  have HU4 : Hid (BoolsOwn w2.heap.size w3.heap.size w4 (.slice A3 rs3.length c3) rs3) := HO34.out
  have HV4 : Hid (BoolsOwn W2.heap.size w2.heap.size w4 (.slice A2 rs3.length c2) rs3) := HO24.out
  clear HO34 HO24
  go_wp2_with fail
  refine specPathOk_any _ _ ss zs _ (HS1.out.keep HB14.out) (by omega) HLS.out (HZ1.out.keep HB14.out).at (by omega) fun ok5 w5 hb5 hq5 => ?_
  have HB15 : Hid (Below w1.heap.size w1 w5) := HB14.out.trans (hb5.mono HB14.out.size)
  have HX5 : Hid (BoxE w5 w1.heap.size A1 ss.length c1 e) := HX4.out.keep hb5
  have HU5 : Hid (BoolsOwn w2.heap.size w3.heap.size w5 (.slice A3 rs3.length c3) rs3) := HU4.out.keep hb5
  have HV5 : Hid (BoolsOwn W2.heap.size w2.heap.size w5 (.slice A2 rs3.length c2) rs3) := HV4.out.keep hb5
  have HBW5 : Hid (Below w.heap.size w w5) := HB1.out.trans (HB15.out.mono HB1.out.size)
  have p5 := HX5.out.p
  have x50 := HX5.out.c0
  have x51 := HX5.out.c1
  have x52 := HX5.out.c2
  have x53 := HX5.out.c3
  have x54 := HX5.out.c4
  cases ok5
  · clear hb5 hq5 HX4 p4 x40 x41 x42 x43 x44 HU4 HV4
    go_wp2_with fail
    refine lkBools_any _ _ rs3 _ _ _ _ _ (by rw [← hlen]; exact HU5.out) (by rw [← hlen]; exact HV5.out) (by omega) fun w9 hb9 => ?_
    have HF : Hid (Below w.heap.size w w9) := HBW5.out.trans (hb9.mono HBW5.out.size)
    clear hb9
    go_wp2
    exact HQ.out _ HF.out
  have HIP : Hid (IsPath ss zs) := (hq5.1 rfl).2
  clear hb5 hq5 HX4 p4 x40 x41 x42 x43 x44 HU4 HV4 HBW4
  obtain ⟨ao_rs3, g_rs3, cap_rs3, hv_rs3, hrow_rs3⟩ := HU5.out.read
  cases hv_rs3
  obtain rfl := (hrow_rs3 0 (by omega)).1
  have hget : ∀ (f : Nat → Bool) (bs : List Bool), bs = (List.range ss.length).map f → ∀ i, i < ss.length → bs.getD i false = f i := fun f bs h i hi => by
    rw [h, List.getD_eq_getElem?_getD, List.getElem?_map, List.getElem?_range hi]
    rfl
  have HEA : Hid (IsEarly ss e rr E) := hE
  have HFC : Hid (∀ i, i < ss.length → w5.cell? ⟨g_rs3, i, none⟩ = some (.bool (E i))) := fun i hi => by
    have h3 := (hrow_rs3 i (by omega)).2.1
    rw [hget E _ hEe i hi] at h3
    exact h3
  have HTK5 : Hid (∀ W, Below w5.heap.size w5 W → Tab W ∧ 0 < W.heap.size) := fun W hW => HTK.out W (HB1.out.trans ((HB15.out.trans (hW.mono HB15.out.size)).mono HB1.out.size))
  obtain ⟨hz0, _⟩ := HIP.out.first
  clear hget hrow_rs3 hE hEe
  go_wp2_with fail
  obtain ⟨D, U, hD, hU, hDU⟩ := HEA.out
  refine lkServed_any A1 c1 ss e _ ycap zs g_rs3 _ _ E (fun k => D (onP zs k) = true ∨ U (onP zs k) = true) _ (HS1.out.keep HB15.out) HTK5.out (by omega) HLS.out HOK.out HEX.out HIP.out (HZ1.out.keep HB15.out).at (by omega) (by first | rfl | exact hlen) HFC.out (fun k hk hc => Or.inl (IsDown.of_comp HOK.out HRE.out hD HIP.out hk hc)) (fun k hk hp hf => IsEarly.on HOK.out HRE.out hD hU hDU HIP.out hk hp hf) fun w6 hb6 => ?_
  have HF : Hid (Below w.heap.size w w6) := HBW5.out.trans (hb6.mono HBW5.out.size)
  clear hb6
  go_wp2
  exact HQ.out _ HF.out

theorem gTab : Tryz.prog.globalNamed "math/bits.deBruijn64tab" = some 0 := by kernel_rfl
theorem gTabType : (Tryz.prog.globals[0]?).map (·.type) = some 144 := by kernel_rfl

theorem tab_of_laid {W : World} (h : laidMetH Tryz.prog Rows.fnSafeNeedRow.laid W) : Tab W := by
  have h1 := laidMetH.filter (fun x => x.1 == "math/bits.deBruijn64tab") h
  have h2 : Lib.TabIs Tryz.prog W "math/bits.deBruijn64tab" .u8 (Lib.deBruijn64tab.map Int.ofNat) := Lib.tabIs_of_head (rest := []) gTab gTabType Tryz.underlying144 Tryz.underlying5 (by kernel_rfl) (by kernel_rfl) h1
  intro j hj
  have h3 := h2.cell gTab j (by simpa using hj)
  rw [h3]
  simp only [List.getD, List.getElem?_map]
  cases Lib.deBruijn64tab[j]? <;> rfl

theorem Tab.lt {W : World} (h : Tab W) : 0 < W.heap.size := cell_lt (h 0 (by decide))

/-- The numbers of a table, as cells. -/
def tableCells : DataW Unit → Array Value
  | .agg l => (l.map fun | .lit (.int k n) => Value.int k n | _ => Value.int .i64 0).toArray
  | _ => #[]

/-- A world whose first blocks hold the library's tables. -/
def withTables (W : World) : World :=
  { W with heap := W.heap.modify 0 fun
      | .cells _ t frozen => .cells (tableCells Rows.laid_math_bits_deBruijn64tab) t frozen
      | o => o }

theorem laid_met (os : Os) : laidMet Tryz.prog Rows.fnSafeNeedRow.laid ((withTables (World.holding Tryz.prog os ⟨#[], #[], []⟩)).forCall (fun _ _ => 0) ⟨#[], #[.slice none 0 0], []⟩).memory :=
  laidMet_of_run' 8 (by kernel_rfl) (by kernel_rfl)
theorem reads (os : Os) {H : Type} (enc : TypeId × Value → H) : ∃ places, DataW.whole enc Tryz.prog ((withTables (World.holding Tryz.prog os ⟨#[], #[], []⟩)).forCall (fun _ _ => 0) ⟨#[], #[.slice none 0 0], []⟩).memory Tryz.f3.params.toList Rows.fnSafeNeedSpec.vars false #[Value.slice none 0 0].toList 8 = some ([.nil], [], places) :=
  ⟨[], by kernel_rfl⟩

set_option maxRecDepth 100000 in
theorem contract (H : Type) (enc : TypeId × Value → H) (W : World) (base : Nat) (args : Array Value) (ds gs : List (DataW H)) (before : List MemPlace)
    (hval : ∀ (j : Nat) t v, Tryz.f3.params[j]? = some t → args[j]? = some v → Value.okWide Tryz.prog W .any base t v)
    (hW : DataW.Whole enc Tryz.prog Tryz.f3.params.toList Rows.fnSafeNeedSpec.vars false W args.toList ds gs before) (hL : laidMetH Tryz.prog Rows.fnSafeNeedRow.laid W) :
    Calls Tryz.prog 3 args W fun e W' => ∃ v, e = .returned v ∧ Rows.fnSafeNeedSpec.post enc Tryz.prog Tryz.f3 false true false false W args v W' := by
  have hW' := hW
  obtain ⟨p, q, hA0, hV, rfl, hfz, hnd⟩ := hW
  have hA : DataW.TrodAll enc Tryz.prog W 0 (fun _ => true) true Tryz.f3.params.toList args.toList ds p := hA0
  rw [Tryz.params3] at hA hval
  obtain ⟨v0, vs0, d0, ds0, p0, q0, hargs, rfl, rfl, h0, r0⟩ := trodAll_cons hA
  obtain ⟨rfl, rfl, rfl⟩ := trodAll_nil r0
  obtain rfl : args = #[v0] := by cases args; simp_all
  obtain ⟨rfl, rfl⟩ := trodVars_none hV
  have k0 := h0
  have lt0 : ∀ x ∈ p0, x.block < W.heap.size := by obtain ⟨m, hm⟩ := k0; exact DataW.trod_lt m _ _ _ hm
  have c0 := open_code (hval 0 22 v0 rfl rfl) h0
  clear hA0
  refine law_walk v0 W c0 (fun X hX => ⟨(tab_of_laid hL).keep hX, Nat.lt_of_lt_of_le (Tab.lt (tab_of_laid hL)) hX.size⟩) fun W' bel => ?_
  exact ⟨_, rfl, _, _, _, [], _, [], hW', trodAll_mk1 (shut_bool Tryz.underlying4 _), (trodAll_cons_mk (Below.trod laidOut (by kernel_rfl) (of_decide_eq_true (by kernel_rfl)) k0 bel lt0) trodAll_mk0), rfl, bel.frame _, fun h => by cases h⟩

set_option maxRecDepth 100000 in
theorem lifted (os : Os) (started : os.Started) (H : Type) (enc : TypeId × Value → H) (F : Stop.Interp) :
    ReturnsInHanded {} Tryz.checked os 3 .any ((OpenSpec.ofChange Rows.fnSafeNeedSpec).preRow enc Tryz.prog Tryz.f3 Rows.fnSafeNeedRow.domain false Rows.fnSafeNeedRow.laid) (((OpenSpec.ofChange Rows.fnSafeNeedSpec).at F).post enc Tryz.prog Tryz.f3 false true false false) := by
  obtain ⟨places, hx⟩ := reads os enc
  refine returnsInHanded_of_row (C := Tryz.checked) (s := OpenSpec.ofChange Rows.fnSafeNeedSpec) own started (by kernel_rfl) Tryz.func3
    (witness_row_at (enc := enc) (C := Tryz.checked) false (withTables (World.holding Tryz.prog os ⟨#[], #[], []⟩)) #[.slice none 0 0] rfl (by kernel_rfl) (by kernel_rfl) (by kernel_rfl)
      (OpenSpec.preRow_of_cond 8 hx (by kernel_rfl) (fun k hk => by cases hk) (by kernel_rfl) (laid_met os))) ?_
  intro W base args ds gs before hval hW _ _ _ hL _ _
  exact contract H enc W base args ds gs before hval hW hL

theorem said : Rows.FnSafeNeedSaid :=
  OpenClaim.holds_of_cond 3 Tryz.f3 rfl rfl rfl rfl rfl rfl rfl ⟨rfl, rfl, rfl, rfl, rfl⟩ rfl rfl rfl rfl rfl (by kernel_rfl) Tryz.func3 (by kernel_rfl)
    (of_decide_eq_true (by kernel_rfl)) (by unfold Func.isWrapper; first | (rw [if_pos (by decide +kernel)]; kernel_rfl) | (rw [if_neg (by decide +kernel)]; exact ⟨rfl, rfl⟩))
    (fun os started H enc _ F => by rw [OpenClaim.pre_eq_preRow]; exact lifted os started H enc F)

theorem plain (f : FuncId) (fn : Func) (hf : Tryz.pinned.checked.prog.funcNamed Rows.fnSafeNeedRow.func = some f) (hfn : Tryz.pinned.checked.prog.funcs[f]? = some fn) :
    false = Tryz.pinned.checked.prog.looks [] ∧ ∀ (j : Nat) t, fn.params[j]? = some t → Tryz.pinned.checked.prog.wantsStandIn t = false := by
  obtain rfl : f = 3 := Option.some.inj ((show Tryz.prog.funcNamed Rows.fnSafeNeedRow.func = some 3 by kernel_rfl).symm.trans hf) |>.symm
  obtain rfl : fn = Tryz.f3 := (Option.some.inj (Tryz.func3.symm.trans hfn)).symm
  refine ⟨by kernel_rfl, fun j t ht => ?_⟩
  rw [Tryz.params3] at ht
  obtain rfl : t = 22 := by simpa using Array.mem_of_getElem? ht
  exact (show Tryz.prog.wantsStandIn 22 = false by kernel_rfl)

theorem fnSafeNeed_card : Rows.FnSafeNeedCardSaid :=
  Claim7.holds_tied_plain_at .later [] _ _ _ _ said (fun _ h => by cases h) (by kernel_rfl) (fun _ h => by cases h) fnSafeNeed_row_tie rfl ⟨rfl, rfl⟩ (by kernel_rfl) rfl plain (by kernel_rfl)
#print axioms fnSafeNeed_card
end Go.Proofs.YtmplkchdfloppaaGreatDoor
