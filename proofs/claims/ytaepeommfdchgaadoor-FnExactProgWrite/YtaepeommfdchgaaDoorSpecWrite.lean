/- What the model's ProgWrite writes: nothing of a program that is not ok, else a line for each step. -/
import Derived.Test.YtaepeommfdchgaaDoorLine
import Derived.Test.YtaepeommfdchgaaDoorSpecOk
namespace Go.Proofs.YtaepeommfdchgaaDoor
open Go.RowKit

theorem step_parts {s : St} {n : Int} (h : stepB s n = true) (hn : n ≤ 1048576) : (s.next.length : Int) = many s.kind ∧ s.next.length ≤ 2 ∧ (∀ x ∈ s.next, 0 ≤ x ∧ x ≤ 1048576) ∧ restB s = true ∧ many s.kind ≠ -1 := by
  simp only [stepB, Bool.and_eq_true, decide_eq_true_eq, List.all_eq_true] at h
  obtain ⟨⟨h1, h2⟩, h3⟩ := h
  have hm : many s.kind ≠ -1 := by omega
  refine ⟨h1, ?_, fun x hx => ?_, h3, hm⟩
  · have : many s.kind ≤ 2 := by rcases many_cases hm with e | e | e | e | e | e | e <;> rw [e] <;> decide
    omega
  · have := h2 x hx
    simp [inB] at this
    omega

theorem l1Line_any {Q : Ending → World → Prop} (nv : Value) (s : St) (n : Int) (w : World) (h : IntsAt w nv s.next) (hs : stepB s n = true) (hn : n ≤ 1048576)
    (hQ : ∀ w', Below w.heap.size w w' → Q (.returned (.string ⟨(lineT s).toArray⟩)) w') :
    Calls Tryd.prog 11 #[stepV s nv] w Q := by
  obtain ⟨_, hl, hxs, hr, hm⟩ := step_parts hs hn
  obtain ⟨kind, dst, op, av, an, bv, bn, next⟩ := s
  simp only at hl hxs hr hm h hQ
  rcases many_cases hm with rfl | rfl | rfl | rfl | rfl | rfl | rfl
  · simp [restB, inB] at hr
    exact line1_any nv dst op av an bv bn next w h hl hxs (by omega) (by simp [inB]; omega) hr.2.1.2 hr.2.2 hQ
  · simp [restB, inB] at hr
    exact line2_any nv dst op av an bv bn next w h hl hxs (by omega) hr.2.1.2 hQ
  · simp [restB, inB] at hr
    exact line3_any nv dst op av an bv bn next w h hl hxs (by omega) hQ
  · simp [restB] at hr
    exact line4_any nv dst op av an bv bn next w h hl hxs hr.2.1.2 hQ
  · simp [restB] at hr
    exact line5_any nv dst op av an bv bn next w h hl hxs hr.2.1.2 hQ
  · exact line6_any nv dst op av an bv bn next w h hl hxs hQ
  · exact line7_any nv dst op av an bv bn next w h hl hxs hQ

theorem headT_len {s : St} (hr : restB s = true) (hm : many s.kind ≠ -1) : (headT s).length ≤ 100 := by
  obtain ⟨kind, dst, op, av, an, bv, bn, next⟩ := s
  simp only at hr hm
  rcases many_cases hm with rfl | rfl | rfl | rfl | rfl | rfl | rfl
  · simp [restB, inB] at hr
    have h1 := varT_len (x := dst) (by omega)
    have h2 := sayT_len hr.2.1.2
    have h3 := sayT_len hr.2.2
    have h4 : (signT op).length ≤ 1 := by unfold signT; (repeat' split) <;> simp
    simp [headT]; omega
  · simp [restB, inB] at hr
    have h1 := varT_len (x := dst) (by omega)
    have h2 := sayT_len hr.2.1.2
    simp [headT]; omega
  · simp [restB, inB] at hr
    have h1 := varT_len (x := dst) (by omega)
    simp [headT]; omega
  · simp [restB] at hr
    have h2 := sayT_len hr.2.1.2
    simp [headT]; omega
  · simp [restB] at hr
    have h2 := sayT_len hr.2.1.2
    simp [headT]; omega
  · simp [headT]
  · simp [headT]

theorem lineT_len {s : St} {n : Int} (hs : stepB s n = true) (hn : n ≤ 1048576) : (lineT s).length ≤ 201 := by
  obtain ⟨_, hl, hxs, hr, hm⟩ := step_parts hs hn
  have h1 := acc_len (k := s.next.length) (headT_len hr hm) hl hxs
  rw [List.take_of_length_le (Nat.le_refl _)] at h1
  simp only [lineT, List.length_append, List.length_cons, List.length_nil] at h1 ⊢
  omega

theorem textT_len {n : Int} (hn : n ≤ 1048576) : ∀ (ss : List St), (∀ s ∈ ss, stepB s n = true) → (textT ss).length ≤ 201 * ss.length
  | [], _ => by simp [textT]
  | s :: r, h => by
    have h1 := lineT_len (h s (by simp)) hn
    have h2 := textT_len hn r (fun x hx => h x (by simp [hx]))
    simp only [textT, List.flatMap_cons, List.length_append, List.length_cons] at h2 ⊢
    omega

theorem ok_each {ss : List St} (h : okB ss = true) : ss.length ≤ 60 ∧ 1 ≤ ss.length ∧ ∀ s ∈ ss, stepB s ss.length = true := by
  simp only [okB, Bool.and_eq_true, decide_eq_true_eq, List.all_eq_true] at h
  exact ⟨h.1.2, h.1.1, h.2⟩

set_option maxHeartbeats 2000000 in
theorem specWrite_any {Q : Ending → World → Prop} (v : Value) (ss : List St) (w : World) (h : StepsAt w v ss) (hl : ss.length ≤ 1048576) (hls : ∀ s ∈ ss, s.next.length ≤ 1048576)
    (hQ : ∀ w', Below w.heap.size w w' → Q (.returned (.string ⟨(if okB ss = true then textT ss else []).toArray⟩)) w') :
    Calls Tryd.prog 5 #[.agg #[v]] w Q := by
  have HQ : Hid (∀ w', Below w.heap.size w w' → Q (.returned (.string ⟨(if okB ss = true then textT ss else []).toArray⟩)) w') := hQ
  clear hQ
  obtain ⟨ao, b, o, cap, rfl, ha, hc⟩ := id h
  have HA : Hid _ := ha
  have HC : Hid _ := hc
  have HL : Hid _ := hls
  clear ha hc hls
  have hb0 : ∀ O, Below w.heap.size w (w.alloc O) := fun O => (Below.refl _ _).alloc (Nat.le_refl _) O
  go_enter Tryd.func5, Tryd.ntmps5
  go_wp2_with fail
  refine specOk_any _ ss _ (h.keep (hb0 _)) hl HL.out fun w1 hb1 => ?_
  have hbA : Below w.heap.size w w1 := (hb0 _).trans (hb1.mono (by simp))
  have q1 : w1.cell? ⟨w.heap.size, 0, none⟩ = some (.slice ao ss.length cap) := cell_keep hb1 (by simp [go_sem])
  have hz1 := cell_lt q1
  clear hb1 hb0 h
  cases hok : okB ss
  · rw [hok] at HQ
    go_wp2
    exact HQ.out _ hbA
  · obtain ⟨h60, h1, hst⟩ := ok_each hok
    rw [hok, if_pos rfl] at HQ
    have HST : Hid (∀ s ∈ ss, stepB s ss.length = true) := hst
    clear hst hok
    obtain rfl := HA.out (by omega)
    go_wp2
    go_loopw [3, 4] (fun ov i wr => ∃ k : Nat, k ≤ ss.length ∧ i = .int .i64 k ∧ ov = .string ⟨(textT (ss.take k)).toArray⟩ ∧ Below w.heap.size w wr ∧ wr.cell? ⟨w.heap.size, 0, none⟩ = some (.slice (some ⟨b, o, none⟩) ss.length cap)) (fun _ i _ => ss.length - (intOf i).toNat)
    case atStart => exact ⟨0, Nat.zero_le _, rfl, rfl, hbA, q1⟩
    case round =>
      obtain ⟨k, hk, rfl, rfl, hb, q0⟩ := hrel
      have hsz := cell_lt q0
      by_cases hkl : k < ss.length
      · obtain ⟨nu, cu, iu⟩ := HC.out k ss[k] (by simp [hkl])
        obtain ⟨c0, c1, c2, c3, c4, c5, c6, c7⟩ := cu.keep hb
        have hm : ss[k] ∈ ss := List.getElem_mem hkl
        have hl1 := lineT_len (HST.out _ hm) (by omega)
        have hl2 := textT_len (n := ss.length) (by omega) (ss.take k) (fun s hs => HST.out s (List.mem_of_mem_take hs))
        have hl3 : (ss.take k).length ≤ 60 := by simp; omega
        have HE : Hid (textT (ss.take (k + 1)) = textT (ss.take k) ++ lineT ss[k]) := by
          rw [Hid, textT, textT, List.take_succ_eq_append_getElem hkl, List.flatMap_append]; simp only [List.flatMap_cons, List.flatMap_nil, List.append_nil]
        have IU : Hid (IntsAt wr nu ss[k].next) := iu.keep hb
        have HM : Hid (stepB ss[k] ss.length = true) := HST.out _ hm
        obtain ⟨lk, hlk⟩ : ∃ t, lineT ss[k] = t := ⟨_, rfl⟩
        obtain ⟨ac, hac⟩ : ∃ t, textT (ss.take k) = t := ⟨_, rfl⟩
        rw [hlk, hac] at HE
        rw [hlk] at hl1
        rw [hac] at hl2 ⊢
        have HLK : Hid (lineT ss[k] = lk) := hlk
        have HE2 : Hid ((⟨ac.toArray⟩ ++ ⟨lk.toArray⟩ : ByteArray) = ⟨(textT (ss.take (k + 1))).toArray⟩) := by rw [Hid, ByteArray.mk_append_mk, HE.out]
        have hlac : ac.length ≤ 20000 := by omega
        clear hac hlk hm hl2 hl3 cu iu
        go_wp2_with fail
        refine l1Line_any nu ss[k] ss.length _ IU.out HM.out (by omega) fun w2 hb2 => ?_
        rw [HLK.out]
        have hbw : Below w.heap.size w w2 := hb.trans (hb2.mono hb.size)
        have q2 := cell_keep hb2 q0
        clear hb2 q0 c0 c1 c2 c3 c4 c5 c6 c7
        go_wp2
        go_roundw
        case rel => exact ⟨k + 1, by omega, by go_num, by rw [HE2.out], hbw, q2⟩
        case measure => simp [intOf]; omega
      · obtain rfl : k = ss.length := by omega
        rw [List.take_of_length_le (Nat.le_refl _)]
        go_wp2
        exact HQ.out _ hb
end Go.Proofs.YtaepeommfdchgaaDoor
