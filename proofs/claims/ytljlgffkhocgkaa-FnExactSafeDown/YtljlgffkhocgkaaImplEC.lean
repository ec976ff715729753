/- What the program's ExprComp answers. -/
import Derived.Test.YtljlgffkhocgkaaImplEB
import Derived.Test.YtljlgffkhocgkaaImplOk
import Derived.Test.YtljlgffkhocgkaaExprO
import Derived.Test.YtljlgffkhocgkaaOnB
import Derived.Test.YtljlgffkhocgkaaBits
namespace Go.Proofs.Ytljlgffkhocgkaa
open Go.RowKit Go.Maps

/-- The steps that reckon it, as a word of bits. -/
def CompW (ss : List St) (e : E5) (b : BitVec 64) : Prop := ∀ j, j < 64 → (b.getLsbD j = true ↔ ∃ s, ss[j]? = some s ∧ s.kind = 1 ∧ eOf s = e)

theorem CompW.get {ss : List St} {e : E5} {b : BitVec 64} (h : CompW ss e b) {j : Nat} (hl : j < ss.length) (hj : j < 64) : b.getLsbD j = compB e ss[j] := by
  have key : b.getLsbD j = true ↔ compB e ss[j] = true := by
    rw [h j hj]
    unfold compB
    simp only [Bool.and_eq_true, decide_eq_true_eq]
    constructor
    · rintro ⟨s, h1, h2, h3⟩
      rw [List.getElem?_eq_getElem hl] at h1
      cases h1
      exact ⟨h2, h3⟩
    · rintro ⟨h1, h2⟩
      exact ⟨ss[j], List.getElem?_eq_getElem hl, h1, h2⟩
  cases e1 : b.getLsbD j <;> cases e2 : compB e ss[j] <;> simp_all

theorem CompW.lt {ss : List St} {e : E5} {b : BitVec 64} (h : CompW ss e b) {j : Nat} (hj : j < 64) (hb : b.getLsbD j = true) : j < ss.length := by
  obtain ⟨s, h1, _⟩ := (h j hj).1 hb
  exact (List.getElem?_eq_some_iff.1 h1).1

set_option maxRecDepth 100000 in
set_option maxHeartbeats 1000000 in
theorem reckonedSteps_any {Q : Ending → World → Prop} (lo M R : Nat) (hRl : R < lo) (W : World) (ss : List St) (bs : List (BitVec 64)) (D : DataW Unit) (lv sv : Value) (h : RS lo M R W (exprsOf ss) bs D lv sv) (hlo : lo ≤ W.heap.size) (hcb : CB ss ss.length (exprsOf ss) bs) (e : E5) (he : exprB e = true)
    (hQ : ∀ b W', CompW ss e b → Below W.heap.size W W' → Q (.returned (.int .u64 (b.toNat : Int))) W') :
    Calls Try.prog 64 #[.pointer (some ⟨R, 0, none⟩), exV e] W Q := by
  have HQ : Hid _ := hQ
  clear hQ
  have HCB : Hid (CB ss ss.length (exprsOf ss) bs) := hcb
  have HE : Hid (exprB e = true) := he
  have hex : exV e = .agg #[.int .i64 e.op, .int .i64 e.av, .int .i64 e.an, .int .i64 e.bv, .int .i64 e.bn] := rfl
  have hRW : R < W.heap.size := by omega
  have hkey := keyE he
  rw [hex] at hkey ⊢
  clear hex hcb
  obtain ⟨W1, hW1⟩ : ∃ W1, W.alloc (.cells #[.int .i64 e.op, .int .i64 e.av, .int .i64 e.an, .int .i64 e.bv, .int .i64 e.bn] 38) = W1 := ⟨_, rfl⟩
  have hbW : Below W.heap.size W W1 := hW1 ▸ (Below.refl _ _).alloc (Nat.le_refl _) _
  have h1 := h.keep hbW
  obtain ⟨A, c, hsv⟩ := own_form h.stp
  subst hsv
  obtain ⟨cc, hrunN, HC0⟩ : ∃ cc : Int, (∀ n, (Instr.lookup 111 (.map (some M)) (.agg #[.int .i64 e.op, .int .i64 e.av, .int .i64 e.an, .int .i64 e.bv, .int .i64 e.bn]) true).run Try.prog (W1.drewN n) = .ok (.tuple #[.int .i64 cc, .bool (decide (e ∈ exprsOf ss))]) (W1.drewN n)) ∧ D.atKey (klE e) (.lit (.int .i64 0)) = .lit (.int .i64 cc) := by
    obtain ⟨v, ps, hrun, hRv⟩ := h1.map.look_ok lawE Try.underlying111 (zeroInt _) (plainElem_int Try.underlying3 (by decide)) hkey
    obtain ⟨cc, rfl, hc, _⟩ := plainElem_int_inv Try.underlying3 hRv
    refine ⟨cc, fun n => ?_, congrArg Prod.fst hc⟩
    have h1n : (W1.drewN n).ownsMap Try.prog 38 (plainElem Try.prog 3) M (exprsOf ss).length D := h1.map
    obtain ⟨v', ps', hrun', hRv'⟩ := h1n.look_ok lawE Try.underlying111 (zeroInt _) (plainElem_int Try.underlying3 (by decide)) hkey
    obtain ⟨c', rfl, hc', _⟩ := plainElem_int_inv Try.underlying3 hRv'
    have e1 : c' = cc := by
      have a1 : D.atKey (klE e) (.lit (.int .i64 0)) = .lit (.int .i64 cc) := congrArg Prod.fst hc
      have a2 : D.atKey (klE e) (.lit (.int .i64 0)) = .lit (.int .i64 c') := congrArg Prod.fst hc'
      have a3 := a2.symm.trans a1
      simpa using a3
    rw [(h.agr e he).1] at hrun'
    rw [hrun', e1]
  have c0 : W1.cell? ⟨R, 0, none⟩ = some (.map (some M)) := h1.row.cell (i := 0) (by omega)
  have c2 : W1.cell? ⟨R, 2, none⟩ = some (.slice A bs.length c) := h1.row.cell (i := 2) (by omega)
  have z0 : W1.cell? ⟨W.heap.size, 0, none⟩ = some (.int .i64 e.op) := by rw [← hW1]; simp [go_sem]
  have z1 : W1.cell? ⟨W.heap.size, 1, none⟩ = some (.int .i64 e.av) := by rw [← hW1]; simp [go_sem]
  have z2 : W1.cell? ⟨W.heap.size, 2, none⟩ = some (.int .i64 e.an) := by rw [← hW1]; simp [go_sem]
  have z3 : W1.cell? ⟨W.heap.size, 3, none⟩ = some (.int .i64 e.bv) := by rw [← hW1]; simp [go_sem]
  have z4 : W1.cell? ⟨W.heap.size, 4, none⟩ = some (.int .i64 e.bn) := by rw [← hW1]; simp [go_sem]
  have HH1 : Hid (RS lo M R W1 (exprsOf ss) bs D lv (.slice A bs.length c)) := h1
  have HBW : Hid (Below W.heap.size W W1) := hbW
  have HC : Hid (D.atKey (klE e) (.lit (.int .i64 0)) = .lit (.int .i64 cc)) := HC0
  clear h h1 hbW HC0
  go_enter Try.func64, Try.ntmps64
  go_wp2_with fail
  go_quiet (fail)
  by_cases hm : e ∈ exprsOf ss
  · obtain ⟨i, hi⟩ := List.mem_iff_getElem?.1 hm
    have hci : cc = (i : Int) := by
      have h2 := (HH1.out.agr e HE.out).2 i hi
      have h3 := HC.out.symm.trans h2
      simpa using h3
    subst hci
    obtain ⟨b, hb1, hb2⟩ := HCB.out i e hi
    have hil : i < bs.length := (List.getElem?_eq_some_iff.1 hb1).1
    obtain ⟨g, cap5, hsv, _, _⟩ := HH1.out.stp.form (by omega)
    simp only [Value.slice.injEq, true_and] at hsv
    obtain ⟨rfl, rfl⟩ := hsv
    have ci : (W1.drewN nq).cell? ⟨g, i, none⟩ = some (.int .u64 (b.toNat : Int)) := by
      show W1.cell? ⟨g, i, none⟩ = _
      rw [HH1.out.stp.cellAt i (by omega), List.getElem?_map, hb1]
      rfl
    have HCW : Hid (CompW ss e b) := fun j hj => (hb2 j hj).trans ⟨fun h => h.2, fun ⟨s, h1, h2⟩ => ⟨(List.getElem?_eq_some_iff.1 h1).1, s, h1, h2⟩⟩
    have hii : (i : Int) < (bs.length : Int) := by omega
    have c2' : (W1.drewN nq).cell? ⟨R, 2, none⟩ = some (.slice (some ⟨g, 0, none⟩) bs.length c) := c2
    simp only [hm, decide_true]
    have HBN : Hid (Below W.heap.size W (W1.drewN nq)) := below_drewN HBW.out _
    clear hm hrunN hi hb1 hb2 HH1 HBW c0 c2 z0 z1 z2 z3 z4 hW1
    generalize W1.drewN nq = W2 at *
    go_wp2
    exact HQ.out b _ HCW.out HBN.out
  · have HCW : Hid (CompW ss e 0#64) := fun j hj => by
      simp only [BitVec.getLsbD_zero, Bool.false_eq_true, false_iff]
      rintro ⟨s, h1, h2, h3⟩
      have := mem_exTo (ss := ss) (k := ss.length) (e := e)
      rw [exTo_all] at this
      exact hm (this.2 ⟨j, s, (List.getElem?_eq_some_iff.1 h1).1, h1, h2, h3⟩)
    simp only [hm, decide_false]
    have HBN : Hid (Below W.heap.size W (W1.drewN nq)) := below_drewN HBW.out _
    clear hm hrunN
    go_wp2
    exact HQ.out 0#64 _ HCW.out HBN.out
end Go.Proofs.Ytljlgffkhocgkaa
