/- What the model's ExprComp answers. -/
import Derived.Test.YtljlgffkhocgkaaSpecEK
import Derived.Test.YtljlgffkhocgkaaSpecEH
import Derived.Deep.RegionHeld3
namespace Go.Proofs.Ytljlgffkhocgkaa
open Go.RowKit Go.Maps

theorem l11Of_u {Q : Ending → World → Prop} (s : St) (A : Option Addr) (n c : Nat) (w : World)
    (hQ : ∀ w', Below w.heap.size w w' → Q (.returned (.agg #[.int .i64 s.op, .int .i64 s.av, .int .i64 s.an, .int .i64 s.bv, .int .i64 s.bn])) w') :
    Calls Try.prog 35 #[.agg #[.int .i64 s.kind, .int .i64 s.dst, .int .i64 s.op, .int .i64 s.av, .int .i64 s.an, .int .i64 s.bv, .int .i64 s.bn, .slice A n c]] w Q := l11Of_any s A n c w hQ

set_option maxRecDepth 100000 in
set_option maxHeartbeats 4000000 in
theorem specComp_any {Q : Ending → World → Prop} (v : Value) (ss : List St) (e : E5) (w : World) (h : StepsAt w v ss) (hl : ss.length ≤ 1048576) (hls : ∀ s ∈ ss, s.next.length ≤ 1048576)
    (hQ : ∀ v' rs w', Below w.heap.size w w' → RowOr compB ss e rs → w'.ownsRow w.heap.size 4 1 v' rs.length (rs.map Value.bool) → Q (.returned v') w') :
    Calls Try.prog 20 #[.agg #[v], exV e] w Q := by
  have HQ : Hid _ := hQ
  clear hQ
  obtain ⟨ao, b, o, cap, rfl, ha, hc⟩ := id h
  have HA : Hid (0 < ss.length → ao = some ⟨b, o, none⟩) := ha
  have HC : Hid (∀ i s, ss[i]? = some s → ∃ nv, StepCells w b (o + i * 8) s nv ∧ IntsAt w nv s.next) := hc
  have HH : Hid (StepsAt w (.slice ao ss.length cap) ss) := h
  have HL : Hid (∀ s ∈ ss, s.next.length ≤ 1048576) := hls
  clear ha hc hls h
  obtain ⟨i0, hi, hz0, hz1, hz2⟩ := info_partsE infoBoolE
  have hb0 : ∀ O O' O'', Below w.heap.size w (((w.alloc O).alloc O').alloc O'') := fun O O' O'' => (((Below.refl _ _).alloc (Nat.le_refl _) O).alloc (by simp) O').alloc (by simp; omega) O''
  have hexv : ∀ W : World, exV e = .agg #[.int .i64 e.op, .int .i64 e.av, .int .i64 e.an, .int .i64 e.bv, .int .i64 e.bn] := fun _ => rfl
  rw [hexv w]
  go_enter Try.func20, Try.ntmps20
  go_wp2_with fail
  have e0 := fun c c' : Array Value => World.ownsRow_lit (base := w.heap.size + 2) (e := 4) (size := 1) ((w.alloc (.cells c 34)).alloc (.cells c' 38)) #[] 0 (by simp) (by decide) (by simp)
  refine specOk_any _ ss _ (HH.out.keep (hb0 _ _ _)) hl HL.out fun w2 hb2 => ?_
  have hbB : Below w.heap.size w w2 := (hb0 _ _ _).trans (hb2.mono (by simp; omega))
  have q2 : w2.cell? ⟨w.heap.size, 0, none⟩ = some (.slice ao ss.length cap) := cell_keep hb2 (by simp [go_sem])
  have x0 : w2.cell? ⟨w.heap.size + 1, 0, none⟩ = some (.int .i64 e.op) := cell_keep hb2 (by simp [go_sem])
  have x1 : w2.cell? ⟨w.heap.size + 1, 1, none⟩ = some (.int .i64 e.av) := cell_keep hb2 (by simp [go_sem])
  have x2 : w2.cell? ⟨w.heap.size + 1, 2, none⟩ = some (.int .i64 e.an) := cell_keep hb2 (by simp [go_sem])
  have x3 : w2.cell? ⟨w.heap.size + 1, 3, none⟩ = some (.int .i64 e.bv) := cell_keep hb2 (by simp [go_sem])
  have x4 : w2.cell? ⟨w.heap.size + 1, 4, none⟩ = some (.int .i64 e.bn) := cell_keep hb2 (by simp [go_sem])
  have e2 : w2.ownsRow (w.heap.size + 2) 4 1 (.slice (some ⟨w.heap.size + 2, 0, none⟩) 0 0) 0 [] := by
    have h1 := ownsRow_out (e0 _ _) (Out.of_below (lo := 0) (hi := 0) hb2) (fun _ _ => Or.inr (Nat.zero_le _))
    simpa using h1
  have HB2 : Hid (Below w.heap.size w w2) := hbB
  have HE2 : Hid (w2.ownsRow (w.heap.size + 2) 4 1 (.slice (some ⟨w.heap.size + 2, 0, none⟩) 0 0) 0 []) := e2
  have hsz2 := (e2.lt _ rfl).2
  clear hb2 hb0 e0 hbB e2
  cases hok : okB ss
  · have HR : Hid (RowOr compB ss e []) := by simp [Hid, RowOr, hok]
    clear hok
    go_wp2
    exact HQ.out _ [] _ HB2.out HR.out (own_lower HE2.out (by omega))
  have HOK : Hid (okB ss = true) := hok
  have hn2 : ss.length ≤ 60 := by have := hok; unfold okB at this; simp only [Bool.and_eq_true, decide_eq_true_eq] at this; omega
  clear hok
  go_wp2_with fail
  rw [← hexv w]
  refine specExprOk_any e _ fun w3 hb3 => ?_
  have q3 := cell_keep hb3 q2
  have y0 := cell_keep hb3 x0
  have y1 := cell_keep hb3 x1
  have y2 := cell_keep hb3 x2
  have y3 := cell_keep hb3 x3
  have y4 := cell_keep hb3 x4
  have HB3 : Hid (Below w.heap.size w w3) := HB2.out.trans (hb3.mono HB2.out.size)
  have HE3 : Hid (w3.ownsRow (w.heap.size + 2) 4 1 (.slice (some ⟨w.heap.size + 2, 0, none⟩) 0 0) 0 []) := ownsRow_out HE2.out (Out.of_below (lo := 0) (hi := 0) hb3) (fun _ _ => Or.inr (Nat.zero_le _))
  have hsz3 : w2.heap.size ≤ w3.heap.size := hb3.size
  clear hb3 q2 x0 x1 x2 x3 x4 HE2 HB2
  cases hex : exprB e
  · have HR : Hid (RowOr compB ss e []) := by simp [Hid, RowOr, hex]
    clear hex
    go_wp2
    exact HQ.out _ [] _ HB3.out HR.out (own_lower HE3.out (by omega))
  have HEX : Hid (exprB e = true) := hex
  clear hex
  go_wp2_with fail
  go_loopw [5, 6] (fun ov i wr => ∃ k : Nat, k ≤ ss.length ∧ i = .int .i64 k ∧ wr.ownsRow (w.heap.size + 2) 4 1 ov k ((ss.take k).map (fun s => .bool (compB e s))) ∧ Below (w.heap.size + 2) w3 wr) (fun _ i _ => ss.length - (intOf i).toNat)
  case atStart => exact ⟨0, Nat.zero_le _, rfl, HE3.out, Below.refl _ _⟩
  case round =>
    obtain ⟨k, hk, rfl, hown, hB⟩ := hrel
    have HOW : Hid (wr.ownsRow (w.heap.size + 2) 4 1 u5 k ((ss.take k).map (fun s => .bool (compB e s)))) := hown
    have HB : Hid (Below (w.heap.size + 2) w3 wr) := hB
    have hsz : w3.heap.size ≤ wr.heap.size := hB.size
    have qr : wr.cell? ⟨w.heap.size, 0, none⟩ = some (.slice ao ss.length cap) := (hB.cell (p := ⟨w.heap.size, 0, none⟩) (by show w.heap.size < w.heap.size + 2; omega)).trans q3
    have z0 : wr.cell? ⟨w.heap.size + 1, 0, none⟩ = some (.int .i64 e.op) := (hB.cell (p := ⟨w.heap.size + 1, 0, none⟩) (by show w.heap.size + 1 < w.heap.size + 2; omega)).trans y0
    have z1 : wr.cell? ⟨w.heap.size + 1, 1, none⟩ = some (.int .i64 e.av) := (hB.cell (p := ⟨w.heap.size + 1, 1, none⟩) (by show w.heap.size + 1 < w.heap.size + 2; omega)).trans y1
    have z2 : wr.cell? ⟨w.heap.size + 1, 2, none⟩ = some (.int .i64 e.an) := (hB.cell (p := ⟨w.heap.size + 1, 2, none⟩) (by show w.heap.size + 1 < w.heap.size + 2; omega)).trans y2
    have z3 : wr.cell? ⟨w.heap.size + 1, 3, none⟩ = some (.int .i64 e.bv) := (hB.cell (p := ⟨w.heap.size + 1, 3, none⟩) (by show w.heap.size + 1 < w.heap.size + 2; omega)).trans y3
    have z4 : wr.cell? ⟨w.heap.size + 1, 4, none⟩ = some (.int .i64 e.bn) := (hB.cell (p := ⟨w.heap.size + 1, 4, none⟩) (by show w.heap.size + 1 < w.heap.size + 2; omega)).trans y4
    by_cases hkn : k < ss.length
    · have hki : (k : Int) < (ss.length : Int) := by omega
      have hbw : Below w.heap.size w wr := HB3.out.trans (hB.mono (by omega))
      obtain rfl := HA.out (by omega)
      obtain ⟨nu, cu, iu⟩ := HC.out k ss[k] (by simp [hkn])
      obtain ⟨nao, nb, no, ncap, rfl, _, _⟩ := id iu
      have cw := cu.keep hbw
      have d0 := cw.c0
      have d1 := cw.c1
      have d2 := cw.c2
      have d3 := cw.c3
      have d4 := cw.c4
      have d5 := cw.c5
      have d6 := cw.c6
      have d7 := cw.c7
      have HSN : Hid ((ss.take (k + 1)).map (fun s => Value.bool (compB e s)) = (ss.take k).map (fun s => Value.bool (compB e s)) ++ [Value.bool (compB e ss[k])]) := take_snoc hkn _
      clear cu iu cw hown hB hbw
      have HEK : Hid (ss[k].kind = 1 → exprB (eOf ss[k]) = true) := fun h => ok_expr HOK.out (List.getElem_mem hkn) h
      have hbl : b < w.heap.size := by
        obtain ⟨nu, cu, _⟩ := HC.out k ss[k] (by simp [hkn])
        exact cell_lt cu.c0
      generalize ss[k] = s at *
      by_cases h1 : s.kind = 1
      · obtain ⟨kd, ds, op, av, an, bv, bn, nx⟩ := s
        simp only at h1 d0 d1 d2 d3 d4 d5 d6 d7
        subst h1
        have HEKs := HEK.out rfl
        have hq : ∀ W : World, (Go.binOp .eql 38 (.agg #[.int .i64 op, .int .i64 av, .int .i64 an, .int .i64 bv, .int .i64 bn]) (.agg #[.int .i64 e.op, .int .i64 e.av, .int .i64 e.an, .int .i64 e.bv, .int .i64 e.bn])).run Try.prog W = .ok (.bool (decide (eOf ⟨1, ds, op, av, an, bv, bn, nx⟩ = e))) W := fun W => binRun HEKs HEX.out W
        have hgd := guardRun (.tmp 38) (.tmp 39) #[.int .i64 op, .int .i64 av, .int .i64 an, .int .i64 bv, .int .i64 bn] #[.int .i64 e.op, .int .i64 e.av, .int .i64 e.an, .int .i64 e.bv, .int .i64 e.bn]
        have HX : Hid (compB e ⟨1, ds, op, av, an, bv, bn, nx⟩ = decide (eOf ⟨1, ds, op, av, an, bv, bn, nx⟩ = e)) := by simp [Hid, compB]
        have HEE : Hid (decide (eOf ⟨1, ds, op, av, an, bv, bn, nx⟩ = e) = decide (eOf ⟨1, ds, op, av, an, bv, bn, nx⟩ = e)) := rfl
        generalize decide (eOf ⟨1, ds, op, av, an, bv, bn, nx⟩ = e) = x at *
        clear HEK HEKs HEE
        go_wp2_with fail
        first
          | (go_region_held3 (fun wx => wx.cell? ⟨w.heap.size, 0, none⟩ = some (.slice (some ⟨b, o, none⟩) ss.length cap) ∧ wx.cell? ⟨b, o + k * 8, none⟩ = some (.int .i64 1) ∧ wx.cell? ⟨b, o + k * 8 + 1, none⟩ = some (.int .i64 ds) ∧ wx.cell? ⟨b, o + k * 8 + 2, none⟩ = some (.int .i64 op) ∧ wx.cell? ⟨b, o + k * 8 + 3, none⟩ = some (.int .i64 av) ∧ wx.cell? ⟨b, o + k * 8 + 4, none⟩ = some (.int .i64 an) ∧ wx.cell? ⟨b, o + k * 8 + 5, none⟩ = some (.int .i64 bv) ∧ wx.cell? ⟨b, o + k * 8 + 6, none⟩ = some (.int .i64 bn) ∧ wx.cell? ⟨b, o + k * 8 + 7, none⟩ = some (.slice nao nx.length ncap) ∧ wx.cell? ⟨w.heap.size + 1, 0, none⟩ = some (.int .i64 e.op) ∧ wx.cell? ⟨w.heap.size + 1, 1, none⟩ = some (.int .i64 e.av) ∧ wx.cell? ⟨w.heap.size + 1, 2, none⟩ = some (.int .i64 e.an) ∧ wx.cell? ⟨w.heap.size + 1, 3, none⟩ = some (.int .i64 e.bv) ∧ wx.cell? ⟨w.heap.size + 1, 4, none⟩ = some (.int .i64 e.bn)) (go_keep) (first
          | (go_at_call 35; refine l11Of_u ⟨1, ds, op, av, an, bv, bn, nx⟩ nao nx.length ncap _ ?_; intro w5 hb5; have HB5 : Hid (Below (w.heap.size + 2) w3 w5) := HB.out.drew.trans (hb5.mono (by show w.heap.size + 2 ≤ wr.heap.size; omega)); have HK5 : Hid (w5.ownsRow (w.heap.size + 2) 4 1 u5 k ((ss.take k).map (fun s => .bool (compB e s)))) := ownsRow_out (w := wr.drew) HOW.out (Out.of_below (lo := 0) (hi := 0) hb5) (fun _ _ => Or.inr (Nat.zero_le _)); have hs5 : wr.heap.size ≤ w5.heap.size := hb5.size; have aq := cell_keep hb5 qr; have a0 := cell_keep hb5 d0; have a1 := cell_keep hb5 d1; have a2 := cell_keep hb5 d2; have a3 := cell_keep hb5 d3; have a4 := cell_keep hb5 d4; have a5 := cell_keep hb5 d5; have a6 := cell_keep hb5 d6; have a7 := cell_keep hb5 d7; have v0 := cell_keep hb5 z0; have v1 := cell_keep hb5 z1; have v2 := cell_keep hb5 z2; have v3 := cell_keep hb5 z3; have v4 := cell_keep hb5 z4)
          | (refine step_append_lies _ rfl (.tmp 24) (.tmp 42) 30 rfl (w.heap.size + 2) 4 i0 (.bool false) 1 1 Try.underlying30 hi hz0 hz1 hz2 rfl (by decide) u5 k ((ss.take k).map (fun t => .bool (compB e t))) (by simp [Act.eval]) ((show World.ownsRow w5 (w.heap.size + 2) 4 1 u5 k ((ss.take k).map (fun t => .bool (compB e t))) from HK5.out).alloc _) ⟨w5.heap.size, 0, none⟩ 1 1 [.bool x] (by simp [Act.eval]) rfl (cell_one_new w5 _ _) (bool_oneCellE _) (by decide) (by unfold maxLen; omega) (by omega) (by simp; omega) (w5.heap.size + 1) (by simp) ?_; intro g8 cap8 w8 hown8 hgrow8 hat8 hlt8; have pq := cell_far (W := w5.alloc _) (cell_keep (w := w5) ((Below.refl _ _).alloc (Nat.le_refl _) _) aq) hgrow8 (own_ne HK5.out (show w.heap.size < w.heap.size + 2 by omega)); have p0 := cell_far (W := w5.alloc _) (cell_keep (w := w5) ((Below.refl _ _).alloc (Nat.le_refl _) _) a0) hgrow8 (own_ne HK5.out (show b < w.heap.size + 2 by omega)); have p1 := cell_far (W := w5.alloc _) (cell_keep (w := w5) ((Below.refl _ _).alloc (Nat.le_refl _) _) a1) hgrow8 (own_ne HK5.out (show b < w.heap.size + 2 by omega)); have p2 := cell_far (W := w5.alloc _) (cell_keep (w := w5) ((Below.refl _ _).alloc (Nat.le_refl _) _) a2) hgrow8 (own_ne HK5.out (show b < w.heap.size + 2 by omega)); have p3 := cell_far (W := w5.alloc _) (cell_keep (w := w5) ((Below.refl _ _).alloc (Nat.le_refl _) _) a3) hgrow8 (own_ne HK5.out (show b < w.heap.size + 2 by omega)); have p4 := cell_far (W := w5.alloc _) (cell_keep (w := w5) ((Below.refl _ _).alloc (Nat.le_refl _) _) a4) hgrow8 (own_ne HK5.out (show b < w.heap.size + 2 by omega)); have p5 := cell_far (W := w5.alloc _) (cell_keep (w := w5) ((Below.refl _ _).alloc (Nat.le_refl _) _) a5) hgrow8 (own_ne HK5.out (show b < w.heap.size + 2 by omega)); have p6 := cell_far (W := w5.alloc _) (cell_keep (w := w5) ((Below.refl _ _).alloc (Nat.le_refl _) _) a6) hgrow8 (own_ne HK5.out (show b < w.heap.size + 2 by omega)); have p7 := cell_far (W := w5.alloc _) (cell_keep (w := w5) ((Below.refl _ _).alloc (Nat.le_refl _) _) a7) hgrow8 (own_ne HK5.out (show b < w.heap.size + 2 by omega)); have m0 := cell_far (W := w5.alloc _) (cell_keep (w := w5) ((Below.refl _ _).alloc (Nat.le_refl _) _) v0) hgrow8 (own_ne HK5.out (show w.heap.size + 1 < w.heap.size + 2 by omega)); have m1 := cell_far (W := w5.alloc _) (cell_keep (w := w5) ((Below.refl _ _).alloc (Nat.le_refl _) _) v1) hgrow8 (own_ne HK5.out (show w.heap.size + 1 < w.heap.size + 2 by omega)); have m2 := cell_far (W := w5.alloc _) (cell_keep (w := w5) ((Below.refl _ _).alloc (Nat.le_refl _) _) v2) hgrow8 (own_ne HK5.out (show w.heap.size + 1 < w.heap.size + 2 by omega)); have m3 := cell_far (W := w5.alloc _) (cell_keep (w := w5) ((Below.refl _ _).alloc (Nat.le_refl _) _) v3) hgrow8 (own_ne HK5.out (show w.heap.size + 1 < w.heap.size + 2 by omega)); have m4 := cell_far (W := w5.alloc _) (cell_keep (w := w5) ((Below.refl _ _).alloc (Nat.le_refl _) _) v4) hgrow8 (own_ne HK5.out (show w.heap.size + 1 < w.heap.size + 2 by omega)))))
          | fail
        all_goals
          have hlow : ∀ q, (Value.ownBlock u5) = some q → w.heap.size + 2 ≤ q := fun q hq => (HOW.out.lt q hq).1
          have HBN : Hid (Below (w.heap.size + 2) w3 w8) := (HB5.out.alloc (by omega) _).grown hgrow8 (by simp; omega) (fun q hq => hlow q hq)
          have HOWN : Hid (w8.ownsRow (w.heap.size + 2) 4 1 (.slice (some ⟨g8, 0, none⟩) (k + 1) cap8) (k + 1) ((ss.take (k + 1)).map (fun s => .bool (compB e s)))) := by
            rw [Hid, HSN.out, HX.out]
            exact hown8
          clear hown8 hgrow8 hat8 hb5 aq pq
          go_wp2
          go_roundw
          case rel => exact ⟨k + 1, by omega, by go_num, HOWN.out, HBN.out⟩
          case measure => simp [intOf]; omega
      · have HX : Hid (compB e s = false) := by simp [Hid, compB, h1]
        have h1b : (s.kind == 1) = false := by simp [h1]
        clear HEK
        go_wp2_with fail
        first | (go_region_law (first | (refine step_append_lies _ rfl (.tmp 24) (.tmp 42) 30 rfl (w.heap.size + 2) 4 i0 (.bool false) 1 1 Try.underlying30 hi hz0 hz1 hz2 rfl (by decide) u5 k ((ss.take k).map (fun t => .bool (compB e t))) (by simp [Act.eval]) ((show World.ownsRow wr.drew (w.heap.size + 2) 4 1 u5 k ((ss.take k).map (fun t => .bool (compB e t))) from HOW.out).alloc _) ⟨wr.drew.heap.size, 0, none⟩ 1 1 [.bool false] (by simp [Act.eval]) rfl (cell_one_new wr.drew _ _) (bool_oneCellE _) (by decide) (by unfold maxLen; omega) (by omega) (by simp; omega) (wr.drew.heap.size + 1) (by simp) ?_; intro g8 cap8 w8 hown8 hgrow8 hat8 hlt8))) | fail
        all_goals
          have hlow : ∀ q, (Value.ownBlock u5) = some q → w.heap.size + 2 ≤ q := fun q hq => (HOW.out.lt q hq).1
          have HBN : Hid (Below (w.heap.size + 2) w3 w8) := (HB.out.drew.alloc (by show w.heap.size + 2 ≤ wr.heap.size; omega) _).grown hgrow8 (by simp; omega) (fun q hq => hlow q hq)
          have HOWN : Hid (w8.ownsRow (w.heap.size + 2) 4 1 (.slice (some ⟨g8, 0, none⟩) (k + 1) cap8) (k + 1) ((ss.take (k + 1)).map (fun s => .bool (compB e s)))) := by
            rw [Hid, HSN.out, HX.out]
            exact hown8
          clear hown8 hgrow8 hat8
          go_wp2
          go_roundw
          case rel => exact ⟨k + 1, by omega, by go_num, HOWN.out, HBN.out⟩
          case measure => simp [intOf]; omega
    · have hki : ¬ (k : Int) < (ss.length : Int) := by omega
      obtain rfl : k = ss.length := by omega
      have HR : Hid (RowOr compB ss e (ss.map (compB e))) := by simp [Hid, RowOr, HOK.out, HEX.out]
      have HFIN : Hid (wr.ownsRow w.heap.size 4 1 u5 (ss.map (compB e)).length ((ss.map (compB e)).map Value.bool)) := by
        rw [List.take_length] at hown
        rw [Hid, List.length_map, List.map_map]
        exact own_lower hown (by omega)
      clear hown hB
      go_wp2
      exact HQ.out _ _ _ (HB3.out.trans (HB.out.mono (by omega))) HR.out HFIN.out
end Go.Proofs.Ytljlgffkhocgkaa
