/- What the program's ExprComp answers. What the program's ExprComp answers. -/
import Derived.Test.YthaiiegofofnmaaDoorImplEB
import Derived.Test.YthaiiegofofnmaaDoorImplOk
import Derived.Test.YthaiiegofofnmaaDoorExprO
import Derived.Test.YthaiiegofofnmaaDoorRowS
import Derived.Deep.RegionHeld3
namespace Go.Proofs.YthaiiegofofnmaaDoor
open Go.RowKit Go.Maps

/-- The steps that reckon it, as a word of bits. -/
def CompW (ss : List St) (e : E5) (b : BitVec 64) : Prop := ∀ j, j < 64 → (b.getLsbD j = true ↔ ∃ s, ss[j]? = some s ∧ s.kind = 1 ∧ eOf s = e)

theorem CompW.get {ss : List St} {e : E5} {b : BitVec 64} (h : CompW ss e b) {j : Nat} (hl : j < ss.length) (hj : j < 64) : b.getLsbD j = compB e ss[j] := by
  have key : b.getLsbD j = true ↔ compB e ss[j] = true := by
    rw [h j hj]
    unfold compB
    simp only [Bool.and_eq_true, decide_eq_true_eq]
    constructor
    · rintro ⟨s, h1, h2, h3⟩
      rw [List.getElem?_eq_getElem hl] at h1
      cases h1
      exact ⟨h2, h3⟩
    · rintro ⟨h1, h2⟩
      exact ⟨ss[j], List.getElem?_eq_getElem hl, h1, h2⟩
  cases e1 : b.getLsbD j <;> cases e2 : compB e ss[j] <;> simp_all

theorem CompW.lt {ss : List St} {e : E5} {b : BitVec 64} (h : CompW ss e b) {j : Nat} (hj : j < 64) (hb : b.getLsbD j = true) : j < ss.length := by
  obtain ⟨s, h1, _⟩ := (h j hj).1 hb
  exact (List.getElem?_eq_some_iff.1 h1).1

set_option maxRecDepth 100000 in
set_option maxHeartbeats 1000000 in
theorem reckonedSteps_any {Q : Ending → World → Prop} (lo M R : Nat) (hRl : R < lo) (W : World) (ss : List St) (bs : List (BitVec 64)) (D : DataW Unit) (lv sv : Value) (h : RS lo M R W (exprsOf ss) bs D lv sv) (hlo : lo ≤ W.heap.size) (hcb : CB ss ss.length (exprsOf ss) bs) (e : E5) (he : exprB e = true)
    (hQ : ∀ b W', CompW ss e b → Below W.heap.size W W' → Q (.returned (.int .u64 (b.toNat : Int))) W') :
    Calls Tryd.prog 36 #[.pointer (some ⟨R, 0, none⟩), exV e] W Q := by
  have HQ : Hid _ := hQ
  clear hQ
  have HCB : Hid (CB ss ss.length (exprsOf ss) bs) := hcb
  have HE : Hid (exprB e = true) := he
  have hex : exV e = .agg #[.int .i64 e.op, .int .i64 e.av, .int .i64 e.an, .int .i64 e.bv, .int .i64 e.bn] := rfl
  have hRW : R < W.heap.size := by omega
  have hkey := keyE he
  rw [hex] at hkey ⊢
  clear hex hcb
  obtain ⟨W1, hW1⟩ : ∃ W1, W.alloc (.cells #[.int .i64 e.op, .int .i64 e.av, .int .i64 e.an, .int .i64 e.bv, .int .i64 e.bn] 32) = W1 := ⟨_, rfl⟩
  have hbW : Below W.heap.size W W1 := hW1 ▸ (Below.refl _ _).alloc (Nat.le_refl _) _
  have h1 := h.keep hbW
  obtain ⟨A, c, hsv⟩ := own_form h.stp
  subst hsv
  obtain ⟨cc, hrunN, HC0⟩ : ∃ cc : Int, (∀ n, (Instr.lookup 53 (.map (some M)) (.agg #[.int .i64 e.op, .int .i64 e.av, .int .i64 e.an, .int .i64 e.bv, .int .i64 e.bn]) true).run Tryd.prog (W1.drewN n) = .ok (.tuple #[.int .i64 cc, .bool (decide (e ∈ exprsOf ss))]) (W1.drewN n)) ∧ D.atKey (klE e) (.lit (.int .i64 0)) = .lit (.int .i64 cc) := by
    obtain ⟨v, ps, hrun, hRv⟩ := h1.map.look_ok lawE Tryd.underlying53 (zeroInt _) (plainElem_int Tryd.underlying3 (by decide)) hkey
    obtain ⟨cc, rfl, hc, _⟩ := plainElem_int_inv Tryd.underlying3 hRv
    refine ⟨cc, fun n => ?_, congrArg Prod.fst hc⟩
    have h1n : (W1.drewN n).ownsMap Tryd.prog 32 (plainElem Tryd.prog 3) M (exprsOf ss).length D := h1.map
    obtain ⟨v', ps', hrun', hRv'⟩ := h1n.look_ok lawE Tryd.underlying53 (zeroInt _) (plainElem_int Tryd.underlying3 (by decide)) hkey
    obtain ⟨c', rfl, hc', _⟩ := plainElem_int_inv Tryd.underlying3 hRv'
    have e1 : c' = cc := by
      have a1 : D.atKey (klE e) (.lit (.int .i64 0)) = .lit (.int .i64 cc) := congrArg Prod.fst hc
      have a2 : D.atKey (klE e) (.lit (.int .i64 0)) = .lit (.int .i64 c') := congrArg Prod.fst hc'
      have a3 := a2.symm.trans a1
      simpa using a3
    rw [(h.agr e he).1] at hrun'
    rw [hrun', e1]
  have c0 : W1.cell? ⟨R, 0, none⟩ = some (.map (some M)) := h1.row.cell (i := 0) (by omega)
  have c2 : W1.cell? ⟨R, 2, none⟩ = some (.slice A bs.length c) := h1.row.cell (i := 2) (by omega)
  have z0 : W1.cell? ⟨W.heap.size, 0, none⟩ = some (.int .i64 e.op) := by rw [← hW1]; simp [go_sem]
  have z1 : W1.cell? ⟨W.heap.size, 1, none⟩ = some (.int .i64 e.av) := by rw [← hW1]; simp [go_sem]
  have z2 : W1.cell? ⟨W.heap.size, 2, none⟩ = some (.int .i64 e.an) := by rw [← hW1]; simp [go_sem]
  have z3 : W1.cell? ⟨W.heap.size, 3, none⟩ = some (.int .i64 e.bv) := by rw [← hW1]; simp [go_sem]
  have z4 : W1.cell? ⟨W.heap.size, 4, none⟩ = some (.int .i64 e.bn) := by rw [← hW1]; simp [go_sem]
  have HH1 : Hid (RS lo M R W1 (exprsOf ss) bs D lv (.slice A bs.length c)) := h1
  have HBW : Hid (Below W.heap.size W W1) := hbW
  have HC : Hid (D.atKey (klE e) (.lit (.int .i64 0)) = .lit (.int .i64 cc)) := HC0
  clear h h1 hbW HC0
  go_enter Tryd.func36, Tryd.ntmps36
  go_wp2_with fail
  go_quiet (fail)
  by_cases hm : e ∈ exprsOf ss
  · obtain ⟨i, hi⟩ := List.mem_iff_getElem?.1 hm
    have hci : cc = (i : Int) := by
      have h2 := (HH1.out.agr e HE.out).2 i hi
      have h3 := HC.out.symm.trans h2
      simpa using h3
    subst hci
    obtain ⟨b, hb1, hb2⟩ := HCB.out i e hi
    have hil : i < bs.length := (List.getElem?_eq_some_iff.1 hb1).1
    obtain ⟨g, cap5, hsv, _, _⟩ := HH1.out.stp.form (by omega)
    simp only [Value.slice.injEq, true_and] at hsv
    obtain ⟨rfl, rfl⟩ := hsv
    have ci : (W1.drewN nq).cell? ⟨g, i, none⟩ = some (.int .u64 (b.toNat : Int)) := by
      show W1.cell? ⟨g, i, none⟩ = _
      rw [HH1.out.stp.cellAt i (by omega), List.getElem?_map, hb1]
      rfl
    have HCW : Hid (CompW ss e b) := fun j hj => (hb2 j hj).trans ⟨fun h => h.2, fun ⟨s, h1, h2⟩ => ⟨(List.getElem?_eq_some_iff.1 h1).1, s, h1, h2⟩⟩
    have hii : (i : Int) < (bs.length : Int) := by omega
    have c2' : (W1.drewN nq).cell? ⟨R, 2, none⟩ = some (.slice (some ⟨g, 0, none⟩) bs.length c) := c2
    simp only [hm, decide_true]
    have HBN : Hid (Below W.heap.size W (W1.drewN nq)) := below_drewN HBW.out _
    clear hm hrunN hi hb1 hb2 HH1 HBW c0 c2 z0 z1 z2 z3 z4 hW1
    generalize W1.drewN nq = W2 at *
    go_wp2
    exact HQ.out b _ HCW.out HBN.out
  · have HCW : Hid (CompW ss e 0#64) := fun j hj => by
      simp only [BitVec.getLsbD_zero, Bool.false_eq_true, false_iff]
      rintro ⟨s, h1, h2, h3⟩
      have := mem_exTo (ss := ss) (k := ss.length) (e := e)
      rw [exTo_all] at this
      exact hm (this.2 ⟨j, s, (List.getElem?_eq_some_iff.1 h1).1, h1, h2, h3⟩)
    simp only [hm, decide_false]
    have HBN : Hid (Below W.heap.size W (W1.drewN nq)) := below_drewN HBW.out _
    clear hm hrunN
    go_wp2
    exact HQ.out 0#64 _ HCW.out HBN.out
end Go.Proofs.YthaiiegofofnmaaDoor
namespace Go.Proofs.YthaiiegofofnmaaDoor
open Go.RowKit Go.Maps

theorem CompW.row {ss : List St} {e : E5} {b : BitVec 64} (h : CompW ss e b) (hn : ss.length ≤ 60) : (List.range ss.length).map (fun j => Value.bool (b.getLsbD j)) = (ss.map (compB e)).map Value.bool := by
  apply List.ext_getElem
  · simp
  · intro i h1 h2
    simp at h1 h2
    simp only [List.getElem_map, List.getElem_range]
    rw [h.get h1 (by omega)]

set_option maxRecDepth 100000 in
set_option maxHeartbeats 4000000 in
theorem implComp_any {Q : Ending → World → Prop} (v : Value) (ss : List St) (e : E5) (w : World) (h : StepsAt w v ss) (hT : Tab w) (hg : 0 < w.heap.size) (hl : ss.length ≤ 1048576) (hls : ∀ s ∈ ss, s.next.length ≤ 1048576)
    (hQ : ∀ v' rs w', Below w.heap.size w w' → RowOr compB ss e rs → w'.ownsRow w.heap.size 4 1 v' rs.length (rs.map Value.bool) → Q (.returned v') w') :
    Calls Tryd.prog 12 #[.agg #[v], exV e] w Q := by
  have HQ : Hid _ := hQ
  clear hQ
  obtain ⟨ao, b, o, cap, rfl, ha, hc⟩ := id h
  clear ha hc
  have HH : Hid (StepsAt w (.slice ao ss.length cap) ss) := h
  have HL : Hid (∀ s ∈ ss, s.next.length ≤ 1048576) := hls
  have HT : Hid (∀ X, Below w.heap.size w X → Tab X ∧ 0 < X.heap.size) := fun X hX => ⟨hT.keep hX, Nat.lt_of_lt_of_le hg hX.size⟩
  clear hls h hT hg
  have hb0 : ∀ O O', Below w.heap.size w ((w.alloc O).alloc O') := fun O O' => ((Below.refl _ _).alloc (Nat.le_refl _) O).alloc (by simp) O'
  have hexv : exV e = .agg #[.int .i64 e.op, .int .i64 e.av, .int .i64 e.an, .int .i64 e.bv, .int .i64 e.bn] := rfl
  have HXV : Hid (exV e = .agg #[.int .i64 e.op, .int .i64 e.av, .int .i64 e.an, .int .i64 e.bv, .int .i64 e.bn]) := rfl
  rw [hexv]
  clear hexv
  go_enter Tryd.func12, Tryd.ntmps12
  go_wp2_with fail
  refine implOk_any _ ss _ (HH.out.keep (hb0 _ _)) hl HL.out fun w2 hb2 => ?_
  have hbB : Below w.heap.size w w2 := (hb0 _ _).trans (hb2.mono (by simp; omega))
  have q2 : w2.cell? ⟨w.heap.size, 0, none⟩ = some (.slice ao ss.length cap) := cell_keep hb2 (by simp [go_sem])
  have x0 : w2.cell? ⟨w.heap.size + 1, 0, none⟩ = some (.int .i64 e.op) := cell_keep hb2 (by simp [go_sem])
  have x1 : w2.cell? ⟨w.heap.size + 1, 1, none⟩ = some (.int .i64 e.av) := cell_keep hb2 (by simp [go_sem])
  have x2 : w2.cell? ⟨w.heap.size + 1, 2, none⟩ = some (.int .i64 e.an) := cell_keep hb2 (by simp [go_sem])
  have x3 : w2.cell? ⟨w.heap.size + 1, 3, none⟩ = some (.int .i64 e.bv) := cell_keep hb2 (by simp [go_sem])
  have x4 : w2.cell? ⟨w.heap.size + 1, 4, none⟩ = some (.int .i64 e.bn) := cell_keep hb2 (by simp [go_sem])
  have HB2 : Hid (Below w.heap.size w w2) := hbB
  clear hb2 hb0 hbB
  cases hok : okB ss
  · have HR : Hid (RowOr compB ss e []) := by simp [Hid, RowOr, hok]
    clear hok
    go_wp2
    exact HQ.out _ [] _ HB2.out HR.out (World.ownsRow_nil _ _ _ _)
  have HOK : Hid (okB ss = true) := hok
  have hn2 : ss.length ≤ 60 := (ok_len hok).2
  clear hok
  go_wp2_with fail
  rw [← HXV.out]
  refine implExprOk_any e _ fun w3 hb3 => ?_
  rw [HXV.out]
  have q3 := cell_keep hb3 q2
  have y0 := cell_keep hb3 x0
  have y1 := cell_keep hb3 x1
  have y2 := cell_keep hb3 x2
  have y3 := cell_keep hb3 x3
  have y4 := cell_keep hb3 x4
  have HB3 : Hid (Below w.heap.size w w3) := HB2.out.trans (hb3.mono HB2.out.size)
  clear hb3 q2 x0 x1 x2 x3 x4 HB2
  cases hex : exprB e
  · have HR : Hid (RowOr compB ss e []) := by simp [Hid, RowOr, hex]
    clear hex
    go_wp2
    exact HQ.out _ [] _ HB3.out HR.out (World.ownsRow_nil _ _ _ _)
  have HEX : Hid (exprB e = true) := hex
  have HR : Hid (RowOr compB ss e (ss.map (compB e))) := by simp [Hid, RowOr, HOK.out, hex]
  clear hex
  go_wp2_with fail
  go_region_held3 (fun wx => wx.cell? ⟨w.heap.size, 0, none⟩ = some (.slice ao ss.length cap) ∧ wx.cell? ⟨w.heap.size + 1, 0, none⟩ = some (.int .i64 e.op) ∧ wx.cell? ⟨w.heap.size + 1, 1, none⟩ = some (.int .i64 e.av) ∧ wx.cell? ⟨w.heap.size + 1, 2, none⟩ = some (.int .i64 e.an) ∧ wx.cell? ⟨w.heap.size + 1, 3, none⟩ = some (.int .i64 e.bv) ∧ wx.cell? ⟨w.heap.size + 1, 4, none⟩ = some (.int .i64 e.bn)) (go_keep) (first
    | (go_at_call 33; refine reckonedBy_any _ ss _ (HH.out.keep (HB3.out.drew)) HOK.out ?_; intro W4 es bs D lv sv hRS hb4 hs4 hes hcb; subst hes; have q4 := cell_keep hb4 q3; have z0 := cell_keep hb4 y0; have z1 := cell_keep hb4 y1; have z2 := cell_keep hb4 y2; have z3 := cell_keep hb4 y3; have z4 := cell_keep hb4 y4; have HB4 : Hid (Below w.heap.size w W4) := HB3.out.drew.trans (hb4.mono HB3.out.size))
    | (go_at_call 36; rw [← HXV.out]; refine reckonedSteps_any _ _ _ (Nat.lt_succ_self _) W4 ss bs D lv sv hRS hs4 hcb e HEX.out ?_; intro bb W5 hcw hb5; rw [HXV.out]; have q5 := cell_keep hb5 q4; have u0 := cell_keep hb5 z0; have u1 := cell_keep hb5 z1; have u2 := cell_keep hb5 z2; have u3 := cell_keep hb5 z3; have u4 := cell_keep hb5 z4; have HB5 : Hid (Below w.heap.size w W5) := HB4.out.trans (hb5.mono HB4.out.size))
    | (go_at_call 37; refine row_any ss.length (by omega) bb (fun j hj hb => hcw.lt hj hb) _ (HT.out _ HB5.out).1 (HT.out _ HB5.out).2 ?_; intro W6 hb6 hr6; have q6 := cell_keep hb6 q5; have t0 := cell_keep hb6 u0; have t1 := cell_keep hb6 u1; have t2 := cell_keep hb6 u2; have t3 := cell_keep hb6 u3; have t4 := cell_keep hb6 u4))
  all_goals
    have hs5 := HB5.out.size
    have HB6 : Hid (Below w.heap.size w W6) := HB5.out.trans (hb6.mono hs5)
    have HOWN : Hid (W6.ownsRow w.heap.size 4 1 (.slice (some ⟨W5.heap.size, 0, none⟩) ss.length ss.length) (ss.map (compB e)).length ((ss.map (compB e)).map Value.bool)) := by
      rw [Hid, ← hcw.row hn2, List.length_map]
      exact rowIs_own hr6 hs5 (by omega)
    clear hRS hcb hb4 hb5 hb6 hr6 hcw
    go_wp2
    exact HQ.out _ _ _ HB6.out HR.out HOWN.out
end Go.Proofs.YthaiiegofofnmaaDoor
