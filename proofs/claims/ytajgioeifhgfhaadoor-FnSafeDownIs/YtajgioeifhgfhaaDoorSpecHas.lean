/- The model's l11Has. -/
import Derived.Test.YtajgioeifhgfhaaDoorSpecEH
namespace Go.Proofs.YtajgioeifhgfhaaDoor
open Go.RowKit Go.Maps

set_option maxRecDepth 100000 in
set_option maxHeartbeats 1000000 in
theorem l11Has_any {Q : Ending → World → Prop} (v : Value) (es : List E5) (e : E5) (lo : Nat) (w : World) (h : w.ownsRow lo 29 5 v es.length (es.flatMap exC)) (hes : ∀ x ∈ es, exprB x = true) (he : exprB e = true) (hl : es.length ≤ 1000)
    (hQ : ∀ w', Below w.heap.size w w' → Q (.returned (.bool (decide (e ∈ es)))) w') :
    Calls Tryd.prog 66 #[v, exV e] w Q := by
  have HQ : Hid _ := hQ
  clear hQ
  obtain ⟨A, g, c, rfl, ha, hc⟩ := own_exprs h rfl
  have HA : Hid (0 < es.length → A = some ⟨g, 0, none⟩) := ha
  have HC : Hid _ := hc
  have HES : Hid (∀ x ∈ es, exprB x = true) := hes
  have HE : Hid (exprB e = true) := he
  have hex : exV e = .agg #[.int .i64 e.op, .int .i64 e.av, .int .i64 e.an, .int .i64 e.bv, .int .i64 e.bn] := rfl
  have hgE := guardE
  rw [hex]
  clear ha hc hes hex h
  go_enter Tryd.func66, Tryd.ntmps66
  go_wp2
  have hb0 : Below w.heap.size w (w.alloc (.cells #[.int .i64 e.op, .int .i64 e.av, .int .i64 e.an, .int .i64 e.bv, .int .i64 e.bn] 29)) := (Below.refl _ _).alloc (Nat.le_refl _) _
  go_loopw [5] (fun i wr => ∃ k : Nat, k ≤ es.length ∧ i = .int .i64 k ∧ Below (w.heap.size + 1) (w.alloc (.cells #[.int .i64 e.op, .int .i64 e.av, .int .i64 e.an, .int .i64 e.bv, .int .i64 e.bn] 29)) wr ∧ ∀ j (hj : j < es.length), j < k → es[j] ≠ e) (fun i _ => es.length - (intOf i).toNat)
  case atStart => exact ⟨0, Nat.zero_le _, rfl, Below.refl _ _, fun j _ h => by omega⟩
  case round =>
    obtain ⟨k, hk, rfl, hB, hno⟩ := hrel
    have HNO : Hid (∀ j (hj : j < es.length), j < k → es[j] ≠ e) := hno
    have HBW : Hid (Below w.heap.size w wr) := hb0.trans (hB.mono (by omega))
    have HB : Hid (Below (w.heap.size + 1) (w.alloc (.cells #[.int .i64 e.op, .int .i64 e.av, .int .i64 e.an, .int .i64 e.bv, .int .i64 e.bn] 29)) wr) := hB
    have z0 : wr.cell? ⟨w.heap.size, 0, none⟩ = some (.int .i64 e.op) := (hB.cell (p := ⟨w.heap.size, 0, none⟩) (by simp)).trans (by simp [go_sem])
    have z1 : wr.cell? ⟨w.heap.size, 1, none⟩ = some (.int .i64 e.av) := (hB.cell (p := ⟨w.heap.size, 1, none⟩) (by simp)).trans (by simp [go_sem])
    have z2 : wr.cell? ⟨w.heap.size, 2, none⟩ = some (.int .i64 e.an) := (hB.cell (p := ⟨w.heap.size, 2, none⟩) (by simp)).trans (by simp [go_sem])
    have z3 : wr.cell? ⟨w.heap.size, 3, none⟩ = some (.int .i64 e.bv) := (hB.cell (p := ⟨w.heap.size, 3, none⟩) (by simp)).trans (by simp [go_sem])
    have z4 : wr.cell? ⟨w.heap.size, 4, none⟩ = some (.int .i64 e.bn) := (hB.cell (p := ⟨w.heap.size, 4, none⟩) (by simp)).trans (by simp [go_sem])
    clear hno hB
    by_cases hkl : k < es.length
    · have hki : (k : Int) < (es.length : Int) := by omega
      obtain rfl := HA.out (by omega)
      obtain ⟨a0, a1, a2, a3, a4⟩ := HC.out k hkl
      have y0 := cell_keep HBW.out a0
      have y1 := cell_keep HBW.out a1
      have y2 := cell_keep HBW.out a2
      have y3 := cell_keep HBW.out a3
      have y4 := cell_keep HBW.out a4
      have hq := binRun (HES.out _ (List.getElem_mem hkl)) HE.out
      have hg := guardRun (.tmp 15) (.tmp 16) #[.int .i64 es[k].op, .int .i64 es[k].av, .int .i64 es[k].an, .int .i64 es[k].bv, .int .i64 es[k].bn] #[.int .i64 e.op, .int .i64 e.av, .int .i64 e.an, .int .i64 e.bv, .int .i64 e.bn]
      have HKE : Hid (es[k] = e → e ∈ es) := fun q => q ▸ List.getElem_mem hkl
      have HST : Hid (es[k] ≠ e → ∀ j (hj : j < es.length), j < k + 1 → es[j] ≠ e) := fun q j hj h => by
        by_cases e1 : j = k
        · subst e1; exact q
        · exact HNO.out j hj (by omega)
      clear a0 a1 a2 a3 a4
      generalize es[k] = x at *
      go_wp2_with fail
      go_quiet (fail)
      by_cases hx : x = e
      · have HM : Hid (e ∈ es) := HKE.out hx
        rw [show decide (e ∈ es) = true from decide_eq_true HM.out] at HQ
        simp only [hx, decide_true]
        go_wp2
        exact HQ.out _ (below_drewN HBW.out _)
      · have HN : Hid _ := HST.out hx
        simp only [hx, decide_false]
        go_wp2
        go_roundw
        case rel => exact ⟨k + 1, by omega, by go_num, below_drewN HB.out _, HN.out⟩
        case measure => simp [intOf]; omega
    · have hki : ¬ (k : Int) < (es.length : Int) := by omega
      have hno : e ∉ es := fun q => by
        obtain ⟨j, hj, q2⟩ := List.getElem_of_mem q
        exact HNO.out j hj (by omega) q2
      rw [show decide (e ∈ es) = false from decide_eq_false hno] at HQ
      clear hno
      go_wp2
      exact HQ.out _ HBW.out
end Go.Proofs.YtajgioeifhgfhaaDoor
