/- Answers that are reckonings: held against each other, marked, and found as they were marked. -/
import Derived.Test.YtdgghpklhkgknaaSpecEH
import Derived.Test.YtdgghpklhkgknaaEq
import Derived.Laws.OwnMore
import Derived.Deep.RegionHeld3
namespace Go.Proofs.Ytdgghpklhkgknaa
open Go.RowKit

def ExprsO (lo hi : Nat) (w : World) (v : Value) (es : List E5) : Prop :=
  w.ownsRow lo 29 5 v es.length (es.flatMap exC) ∧ ∀ k, v.ownBlock = some k → k < hi

theorem ExprsO.of {lo : Nat} {w : World} {v : Value} {es : List E5} (h : w.ownsRow lo 29 5 v es.length (es.flatMap exC)) : ExprsO lo w.heap.size w v es := ⟨h, fun k hk => (h.lt k hk).2⟩

theorem ExprsO.keep {lo hi : Nat} {w w' : World} {v : Value} {es : List E5} (h : ExprsO lo hi w v es) (hb : Below w.heap.size w w') : ExprsO lo hi w' v es :=
  ⟨ownsRow_out h.1 (Out.of_below (lo := 0) (hi := 0) hb) (fun _ _ => Or.inr (Nat.zero_le _)), h.2⟩

theorem ExprsO.out {lo hi lo' hi' : Nat} {w w' : World} {v : Value} {es : List E5} (h : ExprsO lo hi w v es) (ho : Out lo' hi' w w') (hr : hi ≤ lo' ∨ hi' ≤ lo) : ExprsO lo hi w' v es :=
  ⟨ownsRow_out h.1 ho (fun k hk => by have h1 := h.2 k hk; have h2 := (h.1.lt k hk).1; omega), h.2⟩

theorem ExprsO.slice {lo hi : Nat} {w : World} {v : Value} {es : List E5} (h : ExprsO lo hi w v es) : ∃ A c, v = .slice A es.length c := own_form h.1

def markE (k n : Nat) : List E5 := (List.range n).map (fun j => ⟨((k + j * 5 : Nat) : Int), ((k + j * 5 + 1 : Nat) : Int), ((k + j * 5 + 2 : Nat) : Int), ((k + j * 5 + 3 : Nat) : Int), ((k + j * 5 + 4 : Nat) : Int)⟩)

theorem length_markE (k n : Nat) : (markE k n).length = n := by simp [markE]

theorem set5 (A B : List Value) (a0 a1 a2 a3 a4 b0 b1 b2 b3 b4 : Value) (n : Nat) (hn : A.length = n) :
    (((((A ++ ([a0, a1, a2, a3, a4] ++ B)).set n b0).set (n + 1) b1).set (n + 2) b2).set (n + 3) b3).set (n + 4) b4 = A ++ ([b0, b1, b2, b3, b4] ++ B) := by
  subst hn
  simp

theorem mark_step (k j : Nat) (es : List E5) (hj : j < es.length) :
    ((((((markE k j ++ es.drop j).flatMap exC).set (j * 5) (.int .i64 ((k + j * 5 : Nat) : Int))).set (j * 5 + 1) (.int .i64 ((k + j * 5 + 1 : Nat) : Int))).set (j * 5 + 2) (.int .i64 ((k + j * 5 + 2 : Nat) : Int))).set (j * 5 + 3) (.int .i64 ((k + j * 5 + 3 : Nat) : Int))).set (j * 5 + 4) (.int .i64 ((k + j * 5 + 4 : Nat) : Int)) = (markE k (j + 1) ++ es.drop (j + 1)).flatMap exC := by
  rw [List.drop_eq_getElem_cons hj, List.flatMap_append, List.flatMap_cons]
  have e1 : markE k (j + 1) = markE k j ++ [⟨((k + j * 5 : Nat) : Int), ((k + j * 5 + 1 : Nat) : Int), ((k + j * 5 + 2 : Nat) : Int), ((k + j * 5 + 3 : Nat) : Int), ((k + j * 5 + 4 : Nat) : Int)⟩] := by
    unfold markE
    rw [List.range_succ, List.map_append]
    rfl
  rw [e1, List.append_assoc, List.flatMap_append]
  exact set5 ((markE k j).flatMap exC) ((es.drop (j + 1)).flatMap exC) _ _ _ _ _ _ _ _ _ _ (j * 5) (by rw [length_exC, length_markE])

set_option maxHeartbeats 1000000 in
theorem eqExpr_same {Q : Ending → World → Prop} (e : E5) (w : World) (hQ : ∀ w', Below w.heap.size w w' → Q (.returned (.bool true)) w') :
    Calls Try.prog 29 #[.agg #[.int .i64 e.op, .int .i64 e.av, .int .i64 e.an, .int .i64 e.bv, .int .i64 e.bn], .agg #[.int .i64 e.op, .int .i64 e.av, .int .i64 e.an, .int .i64 e.bv, .int .i64 e.bn]] w Q := by
  have HQ : Hid _ := hQ
  clear hQ
  have HB : Hid (∀ O O', Below w.heap.size w ((w.alloc O).alloc O')) := fun O O' => ((Below.refl _ _).alloc (Nat.le_refl _) O).alloc (by simp) O'
  go_enter Try.func29, Try.ntmps29
  go_wp2_with fail
  refine eqOpnd_any _ _ _ fun w1 hb1 => ?_
  have d3 : w1.cell? ⟨w.heap.size, 3, none⟩ = some (.int .i64 e.bv) := cell_keep hb1 (by simp [go_sem])
  have d4 : w1.cell? ⟨w.heap.size, 4, none⟩ = some (.int .i64 e.bn) := cell_keep hb1 (by simp [go_sem])
  have f3 : w1.cell? ⟨w.heap.size + 1, 3, none⟩ = some (.int .i64 e.bv) := cell_keep hb1 (by simp [go_sem])
  have f4 : w1.cell? ⟨w.heap.size + 1, 4, none⟩ = some (.int .i64 e.bn) := cell_keep hb1 (by simp [go_sem])
  have hbA : Below w.heap.size w w1 := (HB.out _ _).trans (hb1.mono (by simp; omega))
  clear hb1 HB
  go_wp2_with fail
  refine eqOpnd_any _ _ _ fun w2 hb2 => ?_
  have hbB : Below w.heap.size w w2 := hbA.trans (hb2.mono hbA.size)
  clear hb2 hbA
  go_wp2
  exact HQ.out _ hbB

set_option maxRecDepth 100000 in
set_option maxHeartbeats 1000000 in
theorem eqExprS_any {Q : Ending → World → Prop} (u v : Value) (es : List E5) (lo hi lo' hi' : Nat) (w : World) (hu : ExprsO lo hi w u es) (hv : ExprsO lo' hi' w v es) (hl : es.length ≤ 1048576)
    (hQ : ∀ w', Below w.heap.size w w' → Q (.returned (.bool true)) w') :
    Calls Try.prog 12 #[u, v] w Q := by
  have HQ : Hid _ := hQ
  clear hQ
  obtain ⟨A, g, c, rfl, ha, hc⟩ := own_exprs hu.1 rfl
  obtain ⟨A', g', c', rfl, ha', hc'⟩ := own_exprs hv.1 rfl
  have HA : Hid (0 < es.length → A = some ⟨g, 0, none⟩) := ha
  have HA' : Hid (0 < es.length → A' = some ⟨g', 0, none⟩) := ha'
  have HC : Hid _ := hc
  have HC' : Hid _ := hc'
  clear ha ha' hc hc' hu hv
  go_enter Try.func12, Try.ntmps12
  go_wp2
  go_loopw [5] (fun i wr => ∃ k : Nat, k ≤ es.length ∧ i = .int .i64 k ∧ Below w.heap.size w wr) (fun i _ => es.length - (intOf i).toNat)
  case atStart => exact ⟨0, Nat.zero_le _, rfl, Below.refl _ _⟩
  case round =>
    obtain ⟨k, hk, rfl, hb⟩ := hrel
    by_cases hkl : k < es.length
    · have hki : (k : Int) < (es.length : Int) := by omega
      obtain rfl := HA.out (by omega)
      obtain rfl := HA'.out (by omega)
      obtain ⟨a0, a1, a2, a3, a4⟩ := HC.out k hkl
      obtain ⟨b0, b1, b2, b3, b4⟩ := HC'.out k hkl
      have d0 := cell_keep hb a0
      have d1 := cell_keep hb a1
      have d2 := cell_keep hb a2
      have d3 := cell_keep hb a3
      have d4 := cell_keep hb a4
      have e0 := cell_keep hb b0
      have e1 := cell_keep hb b1
      have e2 := cell_keep hb b2
      have e3 := cell_keep hb b3
      have e4 := cell_keep hb b4
      have HB : Hid (Below w.heap.size w wr) := hb
      clear a0 a1 a2 a3 a4 b0 b1 b2 b3 b4 hb
      generalize es[k] = e at *
      go_wp2_with fail
      go_region_held3 (fun wx => wx.cell? ⟨g, k * 5, none⟩ = some (.int .i64 e.op) ∧ wx.cell? ⟨g, k * 5 + 1, none⟩ = some (.int .i64 e.av) ∧ wx.cell? ⟨g, k * 5 + 2, none⟩ = some (.int .i64 e.an) ∧ wx.cell? ⟨g, k * 5 + 3, none⟩ = some (.int .i64 e.bv) ∧ wx.cell? ⟨g, k * 5 + 4, none⟩ = some (.int .i64 e.bn) ∧ wx.cell? ⟨g', k * 5, none⟩ = some (.int .i64 e.op) ∧ wx.cell? ⟨g', k * 5 + 1, none⟩ = some (.int .i64 e.av) ∧ wx.cell? ⟨g', k * 5 + 2, none⟩ = some (.int .i64 e.an) ∧ wx.cell? ⟨g', k * 5 + 3, none⟩ = some (.int .i64 e.bv) ∧ wx.cell? ⟨g', k * 5 + 4, none⟩ = some (.int .i64 e.bn)) (go_keep) (first | (go_at_call 29; refine eqExpr_same e _ ?_; intro w5 hb5; have x0 := cell_keep hb5 d0; have y0 := cell_keep hb5 e0; have x1 := cell_keep hb5 d1; have y1 := cell_keep hb5 e1; have x2 := cell_keep hb5 d2; have y2 := cell_keep hb5 e2; have x3 := cell_keep hb5 d3; have y3 := cell_keep hb5 e3; have x4 := cell_keep hb5 d4; have y4 := cell_keep hb5 e4))
      all_goals
        have HB5 : Hid (Below w.heap.size w w5) := HB.out.drew.trans (hb5.mono HB.out.size)
        clear hb5
        go_wp2
        go_roundw
        case rel => exact ⟨k + 1, by omega, by go_num, HB5.out⟩
        case measure => simp [intOf]; omega
    · have hki : ¬ (k : Int) < (es.length : Int) := by omega
      go_wp2
      exact HQ.out _ hb

set_option maxRecDepth 100000 in
set_option maxHeartbeats 2000000 in
theorem markExprS_any {Q : Ending → World → Prop} (v : Value) (es : List E5) (k lo hi : Nat) (w : World) (h : ExprsO lo hi w v es) (hk : k ≤ 2199023255552) (hl : es.length ≤ 1048576)
    (hQ : ∀ w', Out lo hi w w' → ExprsO lo hi w' v (markE k es.length) → Q (.returned (.int .i64 ((k + es.length * 5 : Nat) : Int))) w') :
    Calls Try.prog 15 #[v, .int .i64 (k : Int)] w Q := by
  have HQ : Hid _ := hQ
  clear hQ
  rcases Nat.eq_zero_or_pos es.length with h0 | h0
  · obtain ⟨A, c, hv⟩ := h.slice
    subst hv
    have e0 : es = [] := List.length_eq_zero_iff.1 h0
    subst e0
    have HH : Hid _ := h
    clear h
    go_enter Try.func15, Try.ntmps15
    go_wp2
    go_loopw [1, 5] (fun kk i wr => kk = .int .i64 (k : Int) ∧ i = .int .i64 0 ∧ wr = w) (fun _ _ _ => 0)
    case atStart => exact ⟨rfl, rfl, rfl⟩
    case round =>
      obtain ⟨rfl, rfl, rfl⟩ := hrel
      go_wp2
      exact HQ.out _ (Out.refl _ _ _) HH.out
  · obtain ⟨g, c, hv, hg1, hg2⟩ := h.1.form h0
    subst hv
    have hgh : g < hi := h.2 g rfl
    have H1 : Hid (w.ownsRow lo 29 5 (.slice (some ⟨g, 0, none⟩) es.length c) es.length (es.flatMap exC)) := h.1
    have H2 : Hid (∀ k, (Value.slice (some ⟨g, 0, none⟩) es.length c).ownBlock = some k → k < hi) := h.2
    clear h
    go_enter Try.func15, Try.ntmps15
    go_wp2
    go_loopw [1, 5] (fun kk i wr => ∃ j : Nat, j ≤ es.length ∧ kk = .int .i64 ((k + j * 5 : Nat) : Int) ∧ i = .int .i64 j ∧ Out lo hi w wr ∧ wr.ownsRow lo 29 5 (.slice (some ⟨g, 0, none⟩) es.length c) es.length ((markE k j ++ es.drop j).flatMap exC)) (fun _ i _ => es.length - (intOf i).toNat)
    case atStart => exact ⟨0, Nat.zero_le _, by simp, rfl, Out.refl _ _ _, H1.out⟩
    case round =>
      obtain ⟨j, hj, rfl, rfl, hO, hown⟩ := hrel
      by_cases hjl : j < es.length
      · have hji : (j : Int) < (es.length : Int) := by omega
        have hlen : ((markE k j ++ es.drop j).flatMap exC).length = es.length * 5 := hown.1
        have hcell : ∀ i, i < 5 → ∃ u, wr.cell? ⟨g, j * 5 + i, none⟩ = some u := fun i hi => by
          rw [hown.cellAt (j * 5 + i) (by omega)]
          exact ⟨_, List.getElem?_eq_getElem (by omega)⟩
        obtain ⟨u0, c0⟩ := hcell 0 (by omega)
        rw [Nat.add_zero] at c0
        obtain ⟨u1, c1⟩ := hcell 1 (by omega)
        obtain ⟨u2, c2⟩ := hcell 2 (by omega)
        obtain ⟨u3, c3⟩ := hcell 3 (by omega)
        obtain ⟨u4, c4⟩ := hcell 4 (by omega)
        have f0 := hown.frozenAt (j * 5)
        have f1 := hown.frozenAt (j * 5 + 1)
        have f2 := hown.frozenAt (j * 5 + 2)
        have f3 := hown.frozenAt (j * 5 + 3)
        have f4 := hown.frozenAt (j * 5 + 4)
        have HS := ((((hown.stored (j * 5) (.int .i64 ((k + j * 5 : Nat) : Int))).1.stored (j * 5 + 1) (.int .i64 ((k + j * 5 + 1 : Nat) : Int))).1.stored (j * 5 + 2) (.int .i64 ((k + j * 5 + 2 : Nat) : Int))).1.stored (j * 5 + 3) (.int .i64 ((k + j * 5 + 3 : Nat) : Int))).1.stored (j * 5 + 4) (.int .i64 ((k + j * 5 + 4 : Nat) : Int))
        have HN : Hid ((((((wr.setCell ⟨g, j * 5, none⟩ (.int .i64 ((k + j * 5 : Nat) : Int))).setCell ⟨g, j * 5 + 1, none⟩ (.int .i64 ((k + j * 5 + 1 : Nat) : Int))).setCell ⟨g, j * 5 + 2, none⟩ (.int .i64 ((k + j * 5 + 2 : Nat) : Int))).setCell ⟨g, j * 5 + 3, none⟩ (.int .i64 ((k + j * 5 + 3 : Nat) : Int))).setCell ⟨g, j * 5 + 4, none⟩ (.int .i64 ((k + j * 5 + 4 : Nat) : Int))).ownsRow lo 29 5 (.slice (some ⟨g, 0, none⟩) es.length c) es.length ((markE k (j + 1) ++ es.drop (j + 1)).flatMap exC)) := by
          rw [Hid, ← mark_step k j es hjl]
          exact HS.1
        have HON : Hid (Out lo hi w (((((wr.setCell ⟨g, j * 5, none⟩ (.int .i64 ((k + j * 5 : Nat) : Int))).setCell ⟨g, j * 5 + 1, none⟩ (.int .i64 ((k + j * 5 + 1 : Nat) : Int))).setCell ⟨g, j * 5 + 2, none⟩ (.int .i64 ((k + j * 5 + 2 : Nat) : Int))).setCell ⟨g, j * 5 + 3, none⟩ (.int .i64 ((k + j * 5 + 3 : Nat) : Int))).setCell ⟨g, j * 5 + 4, none⟩ (.int .i64 ((k + j * 5 + 4 : Nat) : Int)))) := ((((hO.setCell (p := ⟨g, j * 5, none⟩) hg1 hgh _).setCell (p := ⟨g, j * 5 + 1, none⟩) hg1 hgh _).setCell (p := ⟨g, j * 5 + 2, none⟩) hg1 hgh _).setCell (p := ⟨g, j * 5 + 3, none⟩) hg1 hgh _).setCell (p := ⟨g, j * 5 + 4, none⟩) hg1 hgh _
        clear HS hcell hlen hown hO
        have e1 : IntKind.i64.wrap (((k + j * 5 : Nat) : Int) + 1) = ((k + j * 5 + 1 : Nat) : Int) := by simp [IntKind.wrap, IntKind.bits, IntKind.signed]; omega
        have e2 : IntKind.i64.wrap (((k + j * 5 + 1 : Nat) : Int) + 1) = ((k + j * 5 + 2 : Nat) : Int) := by simp [IntKind.wrap, IntKind.bits, IntKind.signed]; omega
        have e3 : IntKind.i64.wrap (((k + j * 5 + 2 : Nat) : Int) + 1) = ((k + j * 5 + 3 : Nat) : Int) := by simp [IntKind.wrap, IntKind.bits, IntKind.signed]; omega
        have e4 : IntKind.i64.wrap (((k + j * 5 + 3 : Nat) : Int) + 1) = ((k + j * 5 + 4 : Nat) : Int) := by simp [IntKind.wrap, IntKind.bits, IntKind.signed]; omega
        have e5 : IntKind.i64.wrap (((k + j * 5 + 4 : Nat) : Int) + 1) = ((k + (j + 1) * 5 : Nat) : Int) := by simp [IntKind.wrap, IntKind.bits, IntKind.signed]; omega
        obtain ⟨n0, hn0⟩ : ∃ n, ((k + j * 5 : Nat) : Int) = n := ⟨_, rfl⟩
        obtain ⟨n1, hn1⟩ : ∃ n, ((k + j * 5 + 1 : Nat) : Int) = n := ⟨_, rfl⟩
        obtain ⟨n2, hn2⟩ : ∃ n, ((k + j * 5 + 2 : Nat) : Int) = n := ⟨_, rfl⟩
        obtain ⟨n3, hn3⟩ : ∃ n, ((k + j * 5 + 3 : Nat) : Int) = n := ⟨_, rfl⟩
        obtain ⟨n4, hn4⟩ : ∃ n, ((k + j * 5 + 4 : Nat) : Int) = n := ⟨_, rfl⟩
        obtain ⟨n5, hn5⟩ : ∃ n, ((k + (j + 1) * 5 : Nat) : Int) = n := ⟨_, rfl⟩
        have HN5 : Hid (((k + (j + 1) * 5 : Nat) : Int) = n5) := hn5
        rw [hn0, hn1, hn2, hn3, hn4] at HN HON
        rw [hn0, hn1] at e1
        rw [hn1, hn2] at e2
        rw [hn2, hn3] at e3
        rw [hn3, hn4] at e4
        rw [hn4, hn5] at e5
        rw [hn0]
        clear hn0 hn1 hn2 hn3 hn4 hn5
        go_wp2
        go_roundw
        case rel => exact ⟨j + 1, by omega, by rw [HN5.out], by go_num, HON.out, HN.out⟩
        case measure => simp [intOf]; omega
      · have hji : ¬ (j : Int) < (es.length : Int) := by omega
        obtain rfl : j = es.length := by omega
        have HF : Hid (ExprsO lo hi wr (.slice (some ⟨g, 0, none⟩) es.length c) (markE k es.length)) := by
          rw [List.drop_length, List.append_nil] at hown
          refine ⟨?_, H2.out⟩
          rw [length_markE]
          exact hown
        clear hown
        go_wp2
        exact HQ.out _ hO HF.out

set_option maxRecDepth 100000 in
set_option maxHeartbeats 2000000 in
theorem heldExprS_any {Q : Ending → World → Prop} (v : Value) (k n lo hi : Nat) (w : World) (h : ExprsO lo hi w v (markE k n)) (hk : k ≤ 2199023255552) (hl : n ≤ 1048576)
    (hQ : ∀ w', Below w.heap.size w w' → Q (.returned (.int .i64 ((k + n * 5 : Nat) : Int))) w') :
    Calls Try.prog 16 #[v, .int .i64 (k : Int)] w Q := by
  have HQ : Hid _ := hQ
  clear hQ
  obtain ⟨A, g, c, hv, ha, hc⟩ := own_exprs h.1 rfl
  rw [length_markE] at hv ha
  subst hv
  have HA : Hid (0 < n → A = some ⟨g, 0, none⟩) := ha
  have HC : Hid (∀ j, j < n → w.cell? ⟨g, j * 5, none⟩ = some (.int .i64 ((k + j * 5 : Nat) : Int)) ∧ w.cell? ⟨g, j * 5 + 1, none⟩ = some (.int .i64 ((k + j * 5 + 1 : Nat) : Int)) ∧ w.cell? ⟨g, j * 5 + 2, none⟩ = some (.int .i64 ((k + j * 5 + 2 : Nat) : Int)) ∧ w.cell? ⟨g, j * 5 + 3, none⟩ = some (.int .i64 ((k + j * 5 + 3 : Nat) : Int)) ∧ w.cell? ⟨g, j * 5 + 4, none⟩ = some (.int .i64 ((k + j * 5 + 4 : Nat) : Int))) := fun j hj => by
    have h1 := hc j (by rw [length_markE]; exact hj)
    have e1 : (markE k n)[j]'(by rw [length_markE]; exact hj) = ⟨((k + j * 5 : Nat) : Int), ((k + j * 5 + 1 : Nat) : Int), ((k + j * 5 + 2 : Nat) : Int), ((k + j * 5 + 3 : Nat) : Int), ((k + j * 5 + 4 : Nat) : Int)⟩ := by simp [markE]
    rw [e1] at h1
    exact h1
  clear ha hc h
  go_enter Try.func16, Try.ntmps16
  go_wp2
  go_loopw [1, 5] (fun kk i wr => ∃ j : Nat, j ≤ n ∧ kk = .int .i64 ((k + j * 5 : Nat) : Int) ∧ i = .int .i64 j ∧ Below w.heap.size w wr) (fun _ i _ => n - (intOf i).toNat)
  case atStart => exact ⟨0, Nat.zero_le _, by simp, rfl, Below.refl _ _⟩
  case round =>
    obtain ⟨j, hj, rfl, rfl, hb⟩ := hrel
    by_cases hjl : j < n
    · have hji : (j : Int) < (n : Int) := by omega
      obtain rfl := HA.out (by omega)
      obtain ⟨a0, a1, a2, a3, a4⟩ := HC.out j hjl
      have d0 := cell_keep hb a0
      have d1 := cell_keep hb a1
      have d2 := cell_keep hb a2
      have d3 := cell_keep hb a3
      have d4 := cell_keep hb a4
      have HB : Hid (Below w.heap.size w wr) := hb
      clear a0 a1 a2 a3 a4 hb
      have e1 : IntKind.i64.wrap (((k + j * 5 : Nat) : Int) + 1) = ((k + j * 5 + 1 : Nat) : Int) := by simp [IntKind.wrap, IntKind.bits, IntKind.signed]; omega
      have e2 : IntKind.i64.wrap (((k + j * 5 + 1 : Nat) : Int) + 1) = ((k + j * 5 + 2 : Nat) : Int) := by simp [IntKind.wrap, IntKind.bits, IntKind.signed]; omega
      have e3 : IntKind.i64.wrap (((k + j * 5 + 2 : Nat) : Int) + 1) = ((k + j * 5 + 3 : Nat) : Int) := by simp [IntKind.wrap, IntKind.bits, IntKind.signed]; omega
      have e4 : IntKind.i64.wrap (((k + j * 5 + 3 : Nat) : Int) + 1) = ((k + j * 5 + 4 : Nat) : Int) := by simp [IntKind.wrap, IntKind.bits, IntKind.signed]; omega
      have e5 : IntKind.i64.wrap (((k + j * 5 + 4 : Nat) : Int) + 1) = ((k + (j + 1) * 5 : Nat) : Int) := by simp [IntKind.wrap, IntKind.bits, IntKind.signed]; omega
      obtain ⟨n0, hn0⟩ : ∃ n, ((k + j * 5 : Nat) : Int) = n := ⟨_, rfl⟩
      obtain ⟨n1, hn1⟩ : ∃ n, ((k + j * 5 + 1 : Nat) : Int) = n := ⟨_, rfl⟩
      obtain ⟨n2, hn2⟩ : ∃ n, ((k + j * 5 + 2 : Nat) : Int) = n := ⟨_, rfl⟩
      obtain ⟨n3, hn3⟩ : ∃ n, ((k + j * 5 + 3 : Nat) : Int) = n := ⟨_, rfl⟩
      obtain ⟨n4, hn4⟩ : ∃ n, ((k + j * 5 + 4 : Nat) : Int) = n := ⟨_, rfl⟩
      obtain ⟨n5, hn5⟩ : ∃ n, ((k + (j + 1) * 5 : Nat) : Int) = n := ⟨_, rfl⟩
      have HN5 : Hid (((k + (j + 1) * 5 : Nat) : Int) = n5) := hn5
      rw [hn0] at d0
      rw [hn1] at d1
      rw [hn2] at d2
      rw [hn3] at d3
      rw [hn4] at d4
      rw [hn0, hn1] at e1
      rw [hn1, hn2] at e2
      rw [hn2, hn3] at e3
      rw [hn3, hn4] at e4
      rw [hn4, hn5] at e5
      rw [hn0]
      clear hn0 hn1 hn2 hn3 hn4 hn5
      go_wp2
      go_roundw
      case rel => exact ⟨j + 1, by omega, by rw [HN5.out], by go_num, HB.out⟩
      case measure => simp [intOf]; omega
    · have hji : ¬ (j : Int) < (n : Int) := by omega
      obtain rfl : j = n := by omega
      go_wp2
      exact HQ.out _ hb
end Go.Proofs.Ytdgghpklhkgknaa
