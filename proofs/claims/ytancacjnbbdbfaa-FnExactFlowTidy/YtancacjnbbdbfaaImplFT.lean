/- What the program's FlowTidy answers, of any program. -/
import Derived.Test.YtancacjnbbdbfaaImplPW
namespace Go.Proofs.Ytancacjnbbdbfaa
open Go.RowKit

theorem tidy_cut {ss : List St} {rs : List Bool} (hok : okB ss = true) (hr : IsReach ss rs) : okB (tidyQ ss rs) = decide ((tidyQ ss rs).length ≤ 60) := by
  by_cases h : (tidyQ ss rs).length ≤ 60
  · rw [decide_eq_true h]
    exact tidy_ok hok hr h
  · rw [decide_eq_false h]
    cases e : okB (tidyQ ss rs)
    · rfl
    · exact absurd (ok_len e).2 h

set_option maxRecDepth 100000 in
set_option maxHeartbeats 4000000 in
theorem implTidy_yes {Q : Ending → World → Prop} (v : Value) (ss : List St) (w : World) (h : StepsAt w v ss) (hok : okB ss = true)
    (hN : ∀ rs w', Below w.heap.size w w' → IsReach ss rs → okB (tidyQ ss rs) = false → Q (.returned (.tuple #[.agg #[.slice none 0 0], .bool false])) w')
    (hY : ∀ v' rs xs nvs w', Below w.heap.size w w' → IsReach ss rs → okB (tidyQ ss rs) = true → PO w.heap.size w' v' (tidyQ ss rs) xs nvs → Q (.returned (.tuple #[.agg #[v'], .bool true])) w') :
    Calls Try.prog 19 #[.agg #[v]] w Q := by
  have HN : Hid _ := hN
  have HY : Hid _ := hY
  clear hN hY
  obtain ⟨hn1, hn2⟩ := ok_len hok
  have HOK : Hid (okB ss = true) := hok
  obtain ⟨ao, b, o, cap, rfl, _, _⟩ := id h
  have HH : Hid (StepsAt w (.slice ao ss.length cap) ss) := h
  clear h hok
  have hb0 : ∀ O O', Below w.heap.size w ((w.alloc O).alloc O') := fun O O' => ((Below.refl _ _).alloc (Nat.le_refl _) O).alloc (by simp) O'
  have HB0 : Hid _ := hb0
  go_enter Try.func19, Try.ntmps19
  go_wp2_with fail
  refine implOk_any _ ss _ (HH.out.keep (HB0.out _ _)) (by omega) (fun s hs => Nat.le_trans ((ok_fitN HOK.out).1 s hs) (by decide)) fun w1 hb1 => ?_
  rw [HOK.out]
  have hs1 := hb1.size
  simp only [World.size_alloc] at hs1
  have hbA : Below w.heap.size w w1 := (HB0.out _ _).trans (hb1.mono (by simp; omega))
  have q0 : w1.cell? ⟨w.heap.size, 0, none⟩ = some (.slice ao ss.length cap) := cell_keep hb1 (by simp [go_sem])
  have q1 : w1.cell? ⟨w.heap.size + 1, 0, none⟩ = some (.slice none 0 0) := cell_keep hb1 (by simp [go_sem])
  have f1 : w1.frozen? ⟨w.heap.size + 1, 0, none⟩ = false := (hb1.frozen (by simp)).trans (by simp [go_sem])
  have HB1 : Hid (Below w.heap.size w w1) := hbA
  clear hb1 hbA
  go_wp2_with fail
  refine reached_any _ ss _ (HH.out.keep HB1.out) HOK.out fun v2 rs xs2 nvs2 w2 hrs hP2 hb2 => ?_
  have HRS : Hid (IsReach ss rs) := hrs
  obtain ⟨g1, l1, m1⟩ := prune_fit HOK.out hrs
  obtain ⟨g2, l2, m2⟩ := first_fit g1 l1
  have HF1 : Hid _ := g1
  have HF2 : Hid _ := g2
  have HP2 : Hid (PO w1.heap.size w2 v2 (pruneK ss rs ss.length) xs2 nvs2) := hP2
  have q12 := cell_keep hb2 q1
  have f12 := (hb2.frozen (p := ⟨w.heap.size + 1, 0, none⟩) (cell_lt q1)).trans f1
  have HB2 : Hid (Below w.heap.size w w2) := HB1.out.trans (hb2.mono (by omega))
  have hs2 := hb2.size
  clear hrs g1 g2 hP2 hb2
  go_wp2_with fail
  refine wayCounts_any _ (pruneK ss rs ss.length) _ HP2.out.at (fitN_fit HF1.out (by omega)) fun w3 hb3 hrow3 => ?_
  have q3 := cell_keep hb3 q12
  have f3 := (hb3.frozen (p := ⟨w.heap.size + 1, 0, none⟩) (cell_lt q12)).trans f12
  have HB3 : Hid (Below w.heap.size w w3) := HB2.out.trans (hb3.mono (by omega))
  have HP3 : Hid (PO w1.heap.size w3 v2 (pruneK ss rs ss.length) xs2 nvs2) := HP2.out.keep hb3
  have hs3 := hb3.size
  have c3 : w3.cell? ⟨w2.heap.size, 0, none⟩ = some (.int .i64 ((ways (pruneK ss rs ss.length) 0 : Nat) : Int)) := hrow3.cell l1
  have HTQ : Hid (partL (firstL (pruneK ss rs ss.length)) = tidyQ ss rs) := rfl
  generalize pruneK ss rs ss.length = ps at *
  have hnel : ¬ ps = [] := by intro e; rw [e] at l1; simp at l1
  have hqi : (0 : Int) < (ps.length : Int) := by omega
  have hsq : w.heap.size + 1 < w1.heap.size := cell_lt q1
  clear hb3 hrow3 q12 f12 HP2
  by_cases hw : ways ps 0 = 0
  · have HFL : Hid (firstL ps = ps) := by rw [Hid, firstL, if_pos hw]
    rw [hw] at c3
    have HPQ : Hid (PO w1.heap.size w3 v2 (firstL ps) xs2 nvs2) := by rw [Hid, HFL.out]; exact HP3.out
    have HBW : Hid (Below w.heap.size w w3) := HB3.out
    have CQW : Hid _ := q3
    have CFW : Hid _ := f3
    go_wp2_with fail
    refine partWays_any w1.heap.size _ (firstL ps) xs2 nvs2 _ HPQ.out (by omega) l2 (by omega) HF2.out fun v5 xs5 nvs5 w5 hP5 hb5 => ?_
    have HP5 : Hid (PO w1.heap.size w5 v5 (tidyQ ss rs) xs5 nvs5) := by
      have e := hP5
      rw [HTQ.out] at e
      exact e
    have HB5 : Hid (Below w.heap.size w w5) := HBW.out.trans (hb5.mono (by omega))
    have q5 := (hb5.cell (p := ⟨w.heap.size + 1, 0, none⟩) (by show w.heap.size + 1 < w1.heap.size; omega)).trans CQW.out
    have f5 := (hb5.frozen (p := ⟨w.heap.size + 1, 0, none⟩) (by show w.heap.size + 1 < w1.heap.size; omega)).trans CFW.out
    have hl5 := tidy_len HOK.out HRS.out
    obtain ⟨A5, c5, hv5, _⟩ := hP5.slice
    rw [HTQ.out] at hv5
    subst hv5
    have HCUT : Hid (okB (tidyQ ss rs) = decide ((tidyQ ss rs).length ≤ 60)) := tidy_cut HOK.out HRS.out
    have hl5b : (tidyQ ss rs).length ≤ 1000 := by omega
    clear hP5 hb5 hl5
    generalize htq : tidyQ ss rs = tq at *
    have HTT : Hid (tidyQ ss rs = tq) := htq
    clear htq
    by_cases hc : tq.length ≤ 60
    · have hci : ¬ (60 : Int) < (tq.length : Int) := by omega
      have HO : Hid (okB tq = true) := by rw [Hid, HCUT.out]; exact decide_eq_true hc
      go_wp2
      refine bodyPost_ret (v := .tuple #[.agg #[.slice A5 tq.length c5], .bool true]) (by simp [results, Try.results19, go_sem, q5]) rfl ?_
      exact HY.out _ rs xs5 nvs5 _ (HB5.out.setCell (by simp) _) HRS.out (by rw [HTT.out]; exact HO.out) (by rw [HTT.out]; exact (HP5.out.below (a := ⟨w.heap.size + 1, 0, none⟩) (by show w.heap.size + 1 < w1.heap.size; omega) _).lower (by omega))
    · have hci : (60 : Int) < (tq.length : Int) := by omega
      have HO : Hid (okB tq = false) := by rw [Hid, HCUT.out]; exact decide_eq_false hc
      go_wp2
      refine bodyPost_ret (v := .tuple #[.agg #[.slice none 0 0], .bool false]) (by simp [results, Try.results19, go_sem, q5]) rfl ?_
      exact HN.out rs _ (HB5.out.setCell (by simp) _) HRS.out (by rw [HTT.out]; exact HO.out)
  · have HFL : Hid (firstL ps = (List.range (ps.length + 1)).map (firstF ps (ps.length + 1))) := by rw [Hid, firstL, if_neg hw]
    have hwi : (0 : Int) < ((ways ps 0 : Nat) : Int) := by omega
    clear hw
    go_wp2_with fail
    refine freeFirst_any _ ps _ HP3.out.at HF1.out l1 (by omega) fun v4 xs4 nvs4 w4 hP4 hb4 => ?_
    have hlo3 : w1.heap.size ≤ w3.heap.size := by omega
    have HPQ : Hid (PO w3.heap.size w4 v4 (firstL ps) xs4 nvs4) := by rw [Hid, HFL.out]; exact hP4
    have HBW : Hid (Below w.heap.size w w4) := HB3.out.trans (hb4.mono (by omega))
    have q4 := cell_keep hb4 q3
    have f4 := (hb4.frozen (p := ⟨w.heap.size + 1, 0, none⟩) (cell_lt q3)).trans f3
    have CQW : Hid _ := q4
    have CFW : Hid _ := f4
    have hs4 := hb4.size
    clear hP4 hb4 q3 f3 c3
    go_wp2_with fail
    refine partWays_any w3.heap.size _ (firstL ps) xs4 nvs4 _ HPQ.out (by omega) l2 (by omega) HF2.out fun v5 xs5 nvs5 w5 hP5 hb5 => ?_
    have HP5 : Hid (PO w3.heap.size w5 v5 (tidyQ ss rs) xs5 nvs5) := by
      have e := hP5
      rw [HTQ.out] at e
      exact e
    have HB5 : Hid (Below w.heap.size w w5) := HBW.out.trans (hb5.mono (by omega))
    have q5 := (hb5.cell (p := ⟨w.heap.size + 1, 0, none⟩) (by show w.heap.size + 1 < w3.heap.size; omega)).trans CQW.out
    have f5 := (hb5.frozen (p := ⟨w.heap.size + 1, 0, none⟩) (by show w.heap.size + 1 < w3.heap.size; omega)).trans CFW.out
    have hl5 := tidy_len HOK.out HRS.out
    obtain ⟨A5, c5, hv5, _⟩ := hP5.slice
    rw [HTQ.out] at hv5
    subst hv5
    have HCUT : Hid (okB (tidyQ ss rs) = decide ((tidyQ ss rs).length ≤ 60)) := tidy_cut HOK.out HRS.out
    have hl5b : (tidyQ ss rs).length ≤ 1000 := by omega
    clear hP5 hb5 hl5
    generalize htq : tidyQ ss rs = tq at *
    have HTT : Hid (tidyQ ss rs = tq) := htq
    clear htq
    by_cases hc : tq.length ≤ 60
    · have hci : ¬ (60 : Int) < (tq.length : Int) := by omega
      have HO : Hid (okB tq = true) := by rw [Hid, HCUT.out]; exact decide_eq_true hc
      go_wp2
      refine bodyPost_ret (v := .tuple #[.agg #[.slice A5 tq.length c5], .bool true]) (by simp [results, Try.results19, go_sem, q5]) rfl ?_
      exact HY.out _ rs xs5 nvs5 _ (HB5.out.setCell (by simp) _) HRS.out (by rw [HTT.out]; exact HO.out) (by rw [HTT.out]; exact (HP5.out.below (a := ⟨w.heap.size + 1, 0, none⟩) (by show w.heap.size + 1 < w3.heap.size; omega) _).lower (by omega))
    · have hci : (60 : Int) < (tq.length : Int) := by omega
      have HO : Hid (okB tq = false) := by rw [Hid, HCUT.out]; exact decide_eq_false hc
      go_wp2
      refine bodyPost_ret (v := .tuple #[.agg #[.slice none 0 0], .bool false]) (by simp [results, Try.results19, go_sem, q5]) rfl ?_
      exact HN.out rs _ (HB5.out.setCell (by simp) _) HRS.out (by rw [HTT.out]; exact HO.out)

set_option maxHeartbeats 1000000 in
theorem implTidy_no {Q : Ending → World → Prop} (v : Value) (ss : List St) (w : World) (h : StepsAt w v ss) (hl : ss.length ≤ 1048576) (hls : ∀ s ∈ ss, s.next.length ≤ 1048576) (hok : okB ss = false)
    (hQ : ∀ w', Below w.heap.size w w' → Q (.returned (.tuple #[.agg #[.slice none 0 0], .bool false])) w') :
    Calls Try.prog 19 #[.agg #[v]] w Q := by
  have HQ : Hid _ := hQ
  clear hQ
  obtain ⟨ao, b, o, cap, rfl, ha, hc⟩ := id h
  clear ha hc
  have HH : Hid (StepsAt w (.slice ao ss.length cap) ss) := h
  have HL : Hid _ := hls
  clear hls h
  have hb0 : ∀ O O', Below w.heap.size w ((w.alloc O).alloc O') := fun O O' => ((Below.refl _ _).alloc (Nat.le_refl _) O).alloc (by simp) O'
  go_enter Try.func19, Try.ntmps19
  go_wp2_with fail
  refine implOk_any _ ss _ (HH.out.keep (hb0 _ _)) hl HL.out fun w1 hb1 => ?_
  rw [hok]
  have hbA : Below w.heap.size w w1 := (hb0 _ _).trans (hb1.mono (by simp; omega))
  have r1 : w1.cell? ⟨w.heap.size + 1, 0, none⟩ = some (.slice none 0 0) := cell_keep hb1 (by simp [go_sem])
  have rf1 : w1.frozen? ⟨w.heap.size + 1, 0, none⟩ = false := (hb1.frozen (by simp)).trans (by simp [go_sem])
  clear hb1 hb0
  go_wp2
  exact bodyPost_ret (v := .tuple #[.agg #[.slice none 0 0], .bool false]) (by simp [results, Try.results19, go_sem, r1]) rfl (HQ.out _ (hbA.setCell (by simp) _))

theorem implTidy_any {Q : Ending → World → Prop} (v : Value) (ss : List St) (w : World) (h : StepsAt w v ss) (hl : ss.length ≤ 1048576) (hls : ∀ s ∈ ss, s.next.length ≤ 1048576)
    (hQ : ∀ v' ts b xs nvs w', Below w.heap.size w w' → TidyOr ss ts b → PO w.heap.size w' v' ts xs nvs → Q (.returned (.tuple #[.agg #[v'], .bool b])) w') :
    Calls Try.prog 19 #[.agg #[v]] w Q := by
  cases hok : okB ss
  · exact implTidy_no v ss w h hl hls hok fun w' h1 => hQ _ [] false [] (fun _ => .slice none 0 0) w' h1 (Or.inl ⟨rfl, rfl, Or.inl hok⟩) (PO.nil _ _ _)
  · exact implTidy_yes v ss w h hok (fun rs w' h1 h2 h3 => hQ _ [] false [] (fun _ => .slice none 0 0) w' h1 (Or.inl ⟨rfl, rfl, Or.inr ⟨rs, hok, h2, h3⟩⟩) (PO.nil _ _ _)) (fun v' rs xs nvs w' h1 h2 h3 h4 => hQ v' _ true xs nvs w' h1 (Or.inr ⟨rfl, rs, hok, h2, rfl, h3⟩) h4)
end Go.Proofs.Ytancacjnbbdbfaa
