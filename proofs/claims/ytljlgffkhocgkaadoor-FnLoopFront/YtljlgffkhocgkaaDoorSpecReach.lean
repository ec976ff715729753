/- What the model's FlowReach answers. -/
import Derived.Test.YtljlgffkhocgkaaDoorSpecOk
import Derived.Test.YtljlgffkhocgkaaDoorReach
import Derived.Test.YtljlgffkhocgkaaDoorKit
namespace Go.Proofs.YtljlgffkhocgkaaDoor
open Go.RowKit

theorem infoBool : (Tryd.prog.info? 4).map (fun i => (i.zero, i.size, i.bytes)) = some (some (.bool false), 1, 1) := by kernel_rfl

theorem ok_nexts {ss : List St} (h : okB ss = true) : ∀ s ∈ ss, s.next.length ≤ 1048576 := by
  intro s hs
  obtain ⟨i, hi, rfl⟩ := List.mem_iff_getElem.1 hs
  have := step_many (ok_step h (List.getElem?_eq_getElem hi))
  omega

/-- What the round of FlowReach has. -/
structure RInv (ss : List St) (w wr : World) (B : Nat) (pv : Value) (m : Nat → Bool) : Prop where
  below : Below w.heap.size w wr
  cell : wr.cell? ⟨w.heap.size, 0, none⟩ = some pv
  row : wr.rowIs B 4 ss.length (fun j => .bool (m j))
  first : m 0 = true
  reach : ∀ j, m j = true → Reaches ss j

/-- Closed: from each of the first k that is so, all ways lead to such. -/
def Closed (ss : List St) (m : Nat → Bool) (k : Nat) : Prop := ∀ (a j : Nat) (s : St), a < k → m a = true → ss[a]? = some s → (j : Int) ∈ s.next → m j = true

set_option maxHeartbeats 4000000 in
theorem specReach_yes {Q : Ending → World → Prop} (v : Value) (ss : List St) (w : World) (h : StepsAt w v ss) (hok : okB ss = true)
    (hQ : ∀ v' rs w', Below w.heap.size w w' → IsReach ss rs → w'.ownsRow w.heap.size 4 1 v' ss.length (rs.map Value.bool) → Q (.returned v') w') :
    Calls Tryd.prog 65 #[.agg #[v]] w Q := by
  have HQ : Hid _ := hQ
  clear hQ
  obtain ⟨hn1, hn2⟩ := ok_len hok
  have HOK : Hid _ := hok
  obtain ⟨ao, b, o, cap, rfl, ha, hc⟩ := id h
  obtain rfl := ha (by omega)
  have HC : Hid _ := hc
  have HH : Hid (StepsAt w (.slice (some ⟨b, o, none⟩) ss.length cap) ss) := h
  clear ha hc h
  go_enter Tryd.func65, Tryd.ntmps65
  go_wp2_with fail
  have hb0 : ∀ O, Below w.heap.size w (w.alloc O) := fun O => (Below.refl _ _).alloc (Nat.le_refl _) O
  refine specOk_any _ ss _ (HH.out.keep (hb0 _)) (by omega) (ok_nexts HOK.out) fun w1 hb1 => ?_
  rw [hok]
  have hbA : Below w.heap.size w w1 := (hb0 _).trans (hb1.mono (by simp))
  have q1 : w1.cell? ⟨w.heap.size, 0, none⟩ = some (.slice (some ⟨b, o, none⟩) ss.length cap) := cell_keep hb1 (by simp [go_sem])
  have hz1 : w.heap.size < w1.heap.size := cell_lt q1
  clear hb1 hb0 hok HH
  go_wp2_with (at_make; refine wpList_make_is _ rfl _ _ 30 rfl 4 (.bool false) 1 Tryd.underlying30 infoBool rfl .i64 .i64 ss.length rfl rfl (by omega) (by omega) ?_; intro w2 hrow2 hb2 hz2; have q2 := cell_keep hb2 q1; have c2 := hrow2.cell (i := 0) (by omega); have f2 := hrow2.frozen 0)
  have HROW : Hid (w2.rowIs w1.heap.size 4 ss.length (fun _ => .bool false)) := hrow2
  have HB2 : Hid (Below w.heap.size w w2) := hbA.trans (hb2.mono hbA.size)
  clear hrow2 hb2 hbA q1 c2 f2
  generalize hB : w1.heap.size = B at *
  clear hB
  go_loopw [4] (fun again wr => ∃ (m : Nat → Bool) (ag : Bool), again = .bool ag ∧ RInv ss w wr B (.slice (some ⟨b, o, none⟩) ss.length cap) m ∧ (ag = false → Closed ss m ss.length)) (fun again wr => 2 * (ss.length - cnt (trueAt wr B) ss.length) + (match again with | .bool true => 1 | _ => 0))
  case atStart =>
    refine ⟨fun j => decide (j = 0), true, rfl, ⟨HB2.out.setCell (by simp; omega) _, by simp [go_sem, q2], (HROW.out.set 0 _).congr fun i hi => ?_, by simp, fun j hj => ?_⟩, by simp⟩
    · by_cases e : i = 0 <;> simp [e]
    · simp at hj; subst hj; exact Reaches.first ss
  case round =>
    obtain ⟨m, ag, rfl, hI, hcl⟩ := hrel
    have HCL : Hid _ := hcl
    have HI : Hid _ := hI
    have HM : Hid (cnt (trueAt wr B) ss.length = cnt m ss.length) := cnt_same fun j hj => trueAt_row hI.row hj
    clear hcl hI
    cases ag
    · go_wp2
      refine HQ.out _ _ _ HI.out.below (reach_of HI.out.first HI.out.reach fun a j s h1 h2 h3 => HCL.out (by simp) a j s (List.getElem?_eq_some_iff.1 h2).1 h1 h2 h3) ?_
      rw [map_boolV]
      exact rowIs_own HI.out.row (by omega) (by omega)
    · clear HCL
      go_wp2
      go_loopw [4, 5] (fun again i wr => ∃ (k : Nat) (m' : Nat → Bool) (ag : Bool), again = .bool ag ∧ i = .int .i64 k ∧ k ≤ ss.length ∧ RInv ss w wr B (.slice (some ⟨b, o, none⟩) ss.length cap) m' ∧ cnt m ss.length ≤ cnt m' ss.length ∧ (ag = true → cnt m ss.length < cnt m' ss.length) ∧ (ag = false → Closed ss m' k)) (fun _ i _ => ss.length - (intOf i).toNat)
      case atStart => exact ⟨0, m, false, rfl, rfl, Nat.zero_le _, HI.out, Nat.le_refl _, by simp, fun _ a j s h => by omega⟩
      case round =>
        obtain ⟨k, m', ag, rfl, rfl, hk, hI', hle, hlt, hcl⟩ := hrel
        have q3 := hI'.cell
        by_cases hkn : k < ss.length
        · have hki : (k : Int) < (ss.length : Int) := by omega
          obtain ⟨nu, cu, iu⟩ := HC.out k ss[k] (by simp [hkn])
          obtain ⟨nao, nb, no, ncap, rfl, hna, hnc⟩ := id iu
          have HNA : Hid _ := hna
          have HNC : Hid _ := hnc
          have C7 : Hid _ := cu.c7
          have HI2 : Hid _ := hI'
          have HLT : Hid _ := hlt
          have HCL : Hid _ := hcl
          have hs2 := step_many (ok_step HOK.out (List.getElem?_eq_getElem hkn))
          clear cu iu hna hnc hI' hlt hcl
          go_wp2
          go_loopw [4, 6] (fun again kk wr => ∃ (t : Nat) (m2 : Nat → Bool) (ag : Bool), again = .bool ag ∧ kk = .int .i64 t ∧ t ≤ ss[k].next.length ∧ RInv ss w wr B (.slice (some ⟨b, o, none⟩) ss.length cap) m2 ∧ cnt m ss.length ≤ cnt m2 ss.length ∧ (ag = true → cnt m ss.length < cnt m2 ss.length) ∧ (ag = false → Closed ss m2 k ∧ ∀ t' j, t' < t → ss[k].next.getD t' 0 = ((j : Nat) : Int) → m2 j = true)) (fun _ kk _ => ss[k].next.length - (intOf kk).toNat)
          case atStart => exact ⟨0, m', ag, rfl, rfl, Nat.zero_le _, HI2.out, hle, HLT.out, fun e => ⟨HCL.out e, fun t' j h => by omega⟩⟩
          case round =>
            obtain ⟨t, m2, ag2, rfl, rfl, ht, hI3, hle3, hlt3, hcl3⟩ := hrel
            have q4 := hI3.cell
            have c7 := cell_keep hI3.below C7.out
            have rk := hI3.row.cell hkn
            have HI3 : Hid _ := hI3
            have HLT3 : Hid _ := hlt3
            have HCL3 : Hid _ := hcl3
            clear hI3 hlt3 hcl3
            by_cases htl : t < ss[k].next.length
            · have hti : (t : Int) < (ss[k].next.length : Int) := by omega
              by_cases hmk : m2 k = true
              · obtain ⟨x, hx, hxn, hxm⟩ := ok_next HOK.out (List.getElem?_eq_getElem hkn) htl
                obtain rfl := HNA.out (by omega)
                have cx := cell_keep HI3.out.below (HNC.out t htl)
                rw [hx] at cx
                have rx := HI3.out.row.cell hxn
                have fx := HI3.out.row.frozen x
                have hxi : (x : Int) < (ss.length : Int) := by omega
                have HX : Hid _ := hx
                have HXM : Hid _ := hxm
                rw [hmk] at rk
                clear hx hxm
                cases hmx : m2 x
                · rw [hmx] at rx
                  go_wp2
                  go_roundw
                  case rel =>
                    have hc1 := cnt_set (m := m2) hxn hmx
                    refine ⟨t + 1, fun j => if j = x then true else m2 j, true, rfl, by go_num, by omega, ⟨HI3.out.below.setCell (by simp; omega) _, ?_, (HI3.out.row.set x _).congr fun i hi => ?_, ?_, fun j hj => ?_⟩, by omega, fun _ => by omega, by simp⟩
                    · rw [cell_setOther _ _ _ _ (by simp; omega)]; exact HI3.out.cell
                    · by_cases e : i = x <;> simp [e]
                    · simp [HI3.out.first]
                    · by_cases e : j = x
                      · subst e
                        exact Reaches.on (HI3.out.reach k hmk) (List.getElem?_eq_getElem hkn) HXM.out
                      · exact HI3.out.reach j (by simpa [e] using hj)
                  case measure => simp [intOf]; omega
                · rw [hmx] at rx
                  go_wp2
                  go_roundw
                  case rel =>
                    refine ⟨t + 1, m2, ag2, rfl, by go_num, by omega, HI3.out, hle3, HLT3.out, fun e => ⟨(HCL3.out e).1, fun t' j h1 h2 => ?_⟩⟩
                    by_cases e2 : t' = t
                    · subst e2
                      rw [HX.out] at h2
                      have : x = j := by omega
                      subst this
                      exact hmx
                    · exact (HCL3.out e).2 t' j (by omega) h2
                  case measure => simp [intOf]; omega
              · have hmf : m2 k = false := by simpa using hmk
                rw [hmf] at rk
                go_wp2
                go_roundw
                case rel =>
                  refine ⟨k + 1, m2, ag2, rfl, by go_num, by omega, HI3.out, hle3, HLT3.out, fun e a j s h1 h2 h3 h4 => ?_⟩
                  by_cases e2 : a = k
                  · subst e2; rw [hmf] at h2; cases h2
                  · exact (HCL3.out e).1 a j s (by omega) h2 h3 h4
                case measure => simp [intOf]; omega
            · have hti : ¬ (t : Int) < (ss[k].next.length : Int) := by omega
              go_wp2
              go_roundw
              case rel =>
                refine ⟨k + 1, m2, ag2, rfl, by go_num, by omega, HI3.out, hle3, HLT3.out, fun e a j s h1 h2 h3 h4 => ?_⟩
                by_cases e2 : a = k
                · subst e2
                  rw [List.getElem?_eq_getElem hkn] at h3
                  cases h3
                  obtain ⟨t', ht', e3⟩ := mem_getD h4
                  exact (HCL3.out e).2 t' j (by omega) e3
                · exact (HCL3.out e).1 a j s (by omega) h2 h3 h4
              case measure => simp [intOf]; omega
        · have hki : ¬ (k : Int) < (ss.length : Int) := by omega
          obtain rfl : k = ss.length := by omega
          have HI2 : Hid _ := hI'
          have HLT : Hid _ := hlt
          have HCL : Hid _ := hcl
          have HM2 : Hid (cnt (trueAt wr B) ss.length = cnt m' ss.length) := cnt_same fun j hj => trueAt_row hI'.row hj
          clear hI' hlt hcl
          go_wp2
          go_roundw
          case rel => exact ⟨m', ag, rfl, HI2.out, HCL.out⟩
          case measure =>
            have hle2 := cnt_le m' ss.length
            have hle0 := cnt_le m ss.length
            have e1 := HM.out
            have e2 := HM2.out
            cases ag
            · simp [e1, e2]; omega
            · have := HLT.out rfl
              simp [e1, e2]; omega

/-- What is told of which steps can be come to, of any program. -/
def ReachOr (ss : List St) (rs : List Bool) : Prop := (okB ss = true ∧ IsReach ss rs) ∨ (okB ss = false ∧ rs = [])

theorem ReachOr.unique {ss : List St} {a b : List Bool} (ha : ReachOr ss a) (hb : ReachOr ss b) : a = b := by
  rcases ha with ⟨h1, h2⟩ | ⟨h1, h2⟩ <;> rcases hb with ⟨h3, h4⟩ | ⟨h3, h4⟩
  · exact h2.unique h4
  · rw [h1] at h3; cases h3
  · rw [h1] at h3; cases h3
  · rw [h2, h4]

theorem ReachOr.bound {ss : List St} {a : List Bool} (ha : ReachOr ss a) (hn : ss.length ≤ 1048576) : a.length ≤ 1048576 := by
  rcases ha with ⟨_, h2⟩ | ⟨_, h2⟩
  · rw [h2.1]; exact hn
  · rw [h2]; simp

set_option maxHeartbeats 1000000 in
theorem specReach_no {Q : Ending → World → Prop} (v : Value) (ss : List St) (w : World) (h : StepsAt w v ss) (hl : ss.length ≤ 1048576) (hls : ∀ s ∈ ss, s.next.length ≤ 1048576) (hok : okB ss = false)
    (hQ : ∀ v' w', Below w.heap.size w w' → w'.ownsRow w.heap.size 4 1 v' 0 [] → Q (.returned v') w') :
    Calls Tryd.prog 65 #[.agg #[v]] w Q := by
  have HQ : Hid _ := hQ
  clear hQ
  obtain ⟨ao, b, o, cap, rfl, ha, hc⟩ := id h
  clear ha hc
  have HL : Hid _ := hls
  clear hls
  have hb0 : ∀ O, Below w.heap.size w (w.alloc O) := fun O => (Below.refl _ _).alloc (Nat.le_refl _) O
  go_enter Tryd.func65, Tryd.ntmps65
  go_wp2_with fail
  refine specOk_any _ ss _ (h.keep (hb0 _)) hl HL.out fun w1 hb1 => ?_
  rw [hok]
  have hbA : Below w.heap.size w w1 := (hb0 _).trans (hb1.mono (by simp))
  clear hb1 hb0
  go_wp2
  exact HQ.out _ _ (hbA.alloc hbA.size _) (World.ownsRow_lit _ #[] 0 hbA.size (by decide) (by simp))

theorem specReach_any {Q : Ending → World → Prop} (v : Value) (ss : List St) (w : World) (h : StepsAt w v ss) (hl : ss.length ≤ 1048576) (hls : ∀ s ∈ ss, s.next.length ≤ 1048576)
    (hQ : ∀ v' rs w', Below w.heap.size w w' → ReachOr ss rs → w'.ownsRow w.heap.size 4 1 v' rs.length (rs.map Value.bool) → Q (.returned v') w') :
    Calls Tryd.prog 65 #[.agg #[v]] w Q := by
  cases hok : okB ss
  · exact specReach_no v ss w h hl hls hok fun v' w' h1 h2 => hQ v' [] w' h1 (Or.inr ⟨hok, rfl⟩) h2
  · exact specReach_yes v ss w h hok fun v' rs w' h1 h2 h3 => hQ v' rs w' h1 (Or.inl ⟨hok, h2⟩) (by rw [h2.1]; exact h3)
end Go.Proofs.YtljlgffkhocgkaaDoor
