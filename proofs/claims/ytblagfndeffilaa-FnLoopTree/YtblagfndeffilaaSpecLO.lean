/- What the model's LoopOver answers. -/
import Derived.Test.YtblagfndeffilaaLoopP
import Derived.Test.YtblagfndeffilaaSpecDoms
import Derived.Test.YtblagfndeffilaaMatR
namespace Go.Proofs.Ytblagfndeffilaa
open Go.RowKit

set_option maxRecDepth 100000 in
set_option maxHeartbeats 4000000 in
theorem specLoopOver_any {Q : Ending → World → Prop} (v : Value) (ss : List St) (w : World) (h : StepsAt w v ss) (hl : ss.length ≤ 1048576) (hls : ∀ s ∈ ss, s.next.length ≤ 1048576)
    (hQ : ∀ v' zs w', Below w.heap.size w w' → OverOr ss zs → w'.ownsRow w.heap.size 3 1 v' zs.length (zs.map (Value.int .i64)) → Q (.returned v') w') :
    Calls Try.prog 32 #[.agg #[v]] w Q := by
  have HQ : Hid _ := hQ
  clear hQ
  obtain ⟨ao, b, o, cap, rfl, ha, hc⟩ := id h
  clear ha hc
  have HH : Hid (StepsAt w (.slice ao ss.length cap) ss) := h
  have HL : Hid _ := hls
  clear hls h
  obtain ⟨i0, hi, hz0, hz1, hz2⟩ := info_parts infoInt2
  have hb0 : ∀ O O', Below w.heap.size w ((w.alloc O).alloc O') := fun O O' => ((Below.refl _ _).alloc (Nat.le_refl _) O).alloc (by simp) O'
  go_enter Try.func32, Try.ntmps32
  go_wp2_with fail
  have e0 := fun c : Array Value => World.ownsRow_lit (base := w.heap.size + 1) (e := 3) (size := 1) (w.alloc (.cells c 30)) #[] 0 (by simp) (by decide) (by simp)
  refine specDoms_any _ ss _ (HH.out.keep (hb0 _ _)) hl HL.out fun v2 zss w2 hb2 hzs hown2 => ?_
  have hbB : Below w.heap.size w w2 := (hb0 _ _).trans (hb2.mono (by simp; omega))
  have e2 : w2.ownsRow (w.heap.size + 1) 3 1 (.slice (some ⟨w.heap.size + 1, 0, none⟩) 0 0) 0 [] := by
    have h1 := ownsRow_out (e0 _) (Out.of_below (lo := 0) (hi := 0) hb2) (fun _ _ => Or.inr (Nat.zero_le _))
    simpa using h1
  have HB2 : Hid (Below w.heap.size w w2) := hbB
  have HE2 : Hid (w2.ownsRow (w.heap.size + 1) 3 1 (.slice (some ⟨w.heap.size + 1, 0, none⟩) 0 0) 0 []) := e2
  have hsz2 := (e2.lt _ rfl).2
  clear hb2 hb0 e0 hbB e2
  rcases hzs with ⟨hok, m, hdm, rfl⟩ | ⟨hok, rfl⟩
  · obtain ⟨hn1, hn2⟩ := ok_len hok
    have HOK : Hid (okB ss = true) := hok
    have HDM : Hid (DomsM ss m) := hdm
    obtain ⟨g, gcap, gs, cs, rfl, hmr, hgl0⟩ := MatR.ofLow hown2 hn1
    have hgl : w.heap.size + 2 ≤ g ∧ ∀ i, i < ss.length → w.heap.size + 2 ≤ gs i := by simpa using hgl0
    have HMR : Hid (MatR w2 g ss.length gs cs m) := hmr
    have HGL : Hid (w.heap.size + 2 ≤ g ∧ ∀ i, i < ss.length → w.heap.size + 2 ≤ gs i) := hgl
    clear hok hdm hmr hown2 hgl hgl0
    go_wp2_with fail
    go_loopw [3, 5] (fun ov i wr => ∃ (k : Nat) (f : Nat → Option Nat), k ≤ ss.length ∧ i = .int .i64 k ∧ (∀ i, i < k → IsNear ss i (f i)) ∧ wr.ownsRow (w.heap.size + 1) 3 1 ov k ((List.range k).map (fun i => .int .i64 (ovI (f i)))) ∧ Out (w.heap.size + 1) (w.heap.size + 2) w2 wr ∧ ∀ q, ov.ownBlock = some q → q = w.heap.size + 1 ∨ w2.heap.size ≤ q) (fun _ i _ => ss.length - (intOf i).toNat)
    case atStart => exact ⟨0, fun _ => none, Nat.zero_le _, rfl, fun i hi => by omega, HE2.out, Out.refl _ _ _, fun q hq => by simp [Value.ownBlock] at hq; omega⟩
    case round =>
      obtain ⟨k, f, hk, rfl, hf, hown, hO, hov⟩ := hrel
      have HF : Hid (∀ i, i < k → IsNear ss i (f i)) := hf
      have HOW : Hid (wr.ownsRow (w.heap.size + 1) 3 1 u3 k ((List.range k).map (fun i => .int .i64 (ovI (f i))))) := hown
      have HO : Hid (Out (w.heap.size + 1) (w.heap.size + 2) w2 wr) := hO
      have HOV : Hid (∀ q, u3.ownBlock = some q → q = w.heap.size + 1 ∨ w2.heap.size ≤ q) := hov
      have hsz : w2.heap.size ≤ wr.heap.size := hO.size
      have HMW : Hid (MatR wr g ss.length gs cs m) := ⟨fun i hi => hO.cell (HMR.out.row i hi) (Or.inr (HGL.out.1)), fun i j hi hj => hO.cell (HMR.out.cell i j hi hj) (Or.inr (HGL.out.2 i hi))⟩
      clear hf hov hO
      by_cases hkn : k < ss.length
      · have hki : (k : Int) < (ss.length : Int) := by omega
        clear hown
        go_wp2_with fail
        go_loop [6, 7] (fun bb kk => ∃ (t : Nat) (o : Option Nat), t ≤ ss.length ∧ kk = .int .i64 t ∧ bb = .int .i64 (ovI o) ∧ NearK ss k t o) (fun _ kk => ss.length - (intOf kk).toNat)
        case atStart => exact ⟨0, none, Nat.zero_le _, rfl, rfl, fun d hd => by omega⟩
        case round =>
          obtain ⟨t, o, ht, rfl, rfl, hnk⟩ := hrel
          have HNK : Hid (NearK ss k t o) := hnk
          clear hnk
          by_cases htl : t < ss.length
          · have hti : (t : Int) < (ss.length : Int) := by omega
            by_cases htk : t = k
            · subst htk
              have HN : Hid (NearK ss t (t + 1) o) := HNK.out.skip (Or.inl rfl)
              go_wp2
              go_round
              case rel => exact ⟨t + 1, o, by omega, by go_num, rfl, HN.out⟩
              case measure => simp [intOf]; omega
            · have htkb : ((t : Int) == (k : Int)) = false := by simp; omega
              have htkn : ¬ (t : Int) = (k : Int) := by omega
              have r1 := HMW.out.row k hkn
              have e1 := HMW.out.cell k t hkn htl
              have HD1 : Hid (m k t = true ↔ Dom ss t k) := HDM.out k t hkn htl
              cases h1 : m k t
              · rw [h1] at e1
                have HN : Hid (NearK ss k (t + 1) o) := HNK.out.skip (Or.inr fun hd => by have := HD1.out.2 hd; rw [h1] at this; cases this)
                clear h1
                go_wp2
                go_round
                case rel => exact ⟨t + 1, o, by omega, by go_num, rfl, HN.out⟩
                case measure => simp [intOf]; omega
              · rw [h1] at e1
                have HDT : Hid (Dom ss t k) := HD1.out.1 h1
                clear h1
                cases o with
                | none =>
                  simp only [ovI]
                  have HN : Hid (NearK ss k (t + 1) (some t)) := NearK.first HNK.out htk HDT.out
                  go_wp2
                  go_round
                  case rel => exact ⟨t + 1, some t, by omega, by go_num, rfl, HN.out⟩
                  case measure => simp [intOf]; omega
                | some b =>
                  simp only [ovI]
                  have hbl := reach_lt HOK.out (HNK.out.2.1).reach
                  have hbi : (b : Int) < (ss.length : Int) := by omega
                  have hb0 : ¬ (b : Int) < 0 := by omega
                  have r2 := HMW.out.row t htl
                  have e2 := HMW.out.cell t b htl hbl
                  have HD2 : Hid (m t b = true ↔ Dom ss b t) := HDM.out t b htl hbl
                  cases h2 : m t b
                  · rw [h2] at e2
                    have HN : Hid (NearK ss k (t + 1) (some b)) := NearK.leave HNK.out HDT.out (fun hd => by have := HD2.out.2 hd; rw [h2] at this; cases this)
                    clear h2
                    go_wp2
                    go_round
                    case rel => exact ⟨t + 1, some b, by omega, by go_num, rfl, HN.out⟩
                    case measure => simp [intOf]; omega
                  · rw [h2] at e2
                    have HN : Hid (NearK ss k (t + 1) (some t)) := NearK.take HNK.out htk HDT.out (HD2.out.1 h2)
                    clear h2
                    go_wp2
                    go_round
                    case rel => exact ⟨t + 1, some t, by omega, by go_num, rfl, HN.out⟩
                    case measure => simp [intOf]; omega
          · have hti : ¬ (t : Int) < (ss.length : Int) := by omega
            obtain rfl : t = ss.length := by omega
            have HNF : Hid (IsNear ss k o) := HNK.out.fin HOK.out
            generalize hz : ovI o = z at *
            have HZ : Hid (ovI o = z) := hz
            clear hz
            go_wp2_with (at_builtin; refine wpList_append_lies _ rfl _ _ 42 rfl (w.heap.size + 1) 3 i0 (.int .i64 0) 1 8 Try.underlying42 hi hz0 hz1 hz2 rfl (by decide) u3 k ((List.range k).map (fun i => .int .i64 (ovI (f i)))) rfl (HOW.out.alloc _) ⟨wr.heap.size, 0, none⟩ 1 1 [.int .i64 z] rfl rfl (cell_one_new wr _ _) (int_oneCell _ _) (by decide) (by unfold maxLen; omega) (by omega) (by simp; omega) (wr.heap.size + 1) (by simp) ?_; intro g8 cap8 w8 hown8 hgrow8 hat8 hlt8)
            have hs8 : wr.heap.size + 1 ≤ w8.heap.size := Nat.le_trans (by simp) hgrow8.size
            have HOWN : Hid (w8.ownsRow (w.heap.size + 1) 3 1 (.slice (some ⟨g8, 0, none⟩) (k + 1) cap8) (k + 1) ((List.range (k + 1)).map (fun i => .int .i64 (ovI (if i = k then o else f i))))) := by
              have e : (List.range (k + 1)).map (fun i => Value.int .i64 (ovI (if i = k then o else f i))) = (List.range k).map (fun i => .int .i64 (ovI (f i))) ++ [.int .i64 z] := by
                rw [List.range_succ, List.map_append]
                congr 1
                · apply List.map_congr_left
                  intro i hi
                  simp at hi
                  rw [if_neg (by omega)]
                · simp [HZ.out]
              rw [Hid, e]
              exact hown8
            have HOutN : Hid (Out (w.heap.size + 1) (w.heap.size + 2) w2 w8) := by
              refine ⟨hgrow8.os.trans HO.out.os, hgrow8.tape.trans HO.out.tape, hgrow8.output.trans HO.out.output, by omega, fun q hq hr => ?_⟩
              have h7 : (wr.alloc (.cells #[.int .i64 z] 3)).heap[q]? = wr.heap[q]? := Below.heap_alloc _ _ _ (by omega)
              refine ((hgrow8.block q (by simp; omega) (fun e => ?_)).trans h7).trans (HO.out.block q hq hr)
              have := HOV.out q e.symm
              omega
            have HOVN : Hid (∀ q, (Value.slice (some ⟨g8, 0, none⟩) (k + 1) cap8).ownBlock = some q → q = w.heap.size + 1 ∨ w2.heap.size ≤ q) := by
              intro q hq
              simp [Value.ownBlock] at hq
              subst hq
              rcases hat8 with e | e
              · exact HOV.out _ e
              · omega
            clear hown8 hgrow8 hat8
            go_wp2
            go_roundw
            case rel =>
              refine ⟨k + 1, fun i => if i = k then o else f i, by omega, by go_num, fun i hi => ?_, HOWN.out, HOutN.out, HOVN.out⟩
              by_cases e : i = k
              · simp only [e, if_true]; exact HNF.out
              · simp only [if_neg e]; exact HF.out i (by omega)
            case measure => simp [intOf]; omega
      · have hki : ¬ (k : Int) < (ss.length : Int) := by omega
        obtain rfl : k = ss.length := by omega
        have HFIN : Hid (wr.ownsRow w.heap.size 3 1 u3 ((List.range ss.length).map (fun i => ovI (f i))).length (((List.range ss.length).map (fun i => ovI (f i))).map (Value.int .i64))) := by
          rw [Hid, List.map_map]
          simp only [List.length_map, List.length_range]
          exact own_lower hown (by omega)
        clear hown
        go_wp2
        exact HQ.out _ _ _ (HB2.out.trans (HO.out.below (by omega) (by omega))) (Or.inl ⟨HOK.out, f, HF.out, rfl⟩) HFIN.out
  · obtain ⟨A2, c2, hv2⟩ := hown2.slice
    subst hv2
    have HOK : Hid (okB ss = false) := hok
    clear hown2 hok
    go_wp2_with fail
    go_loop [3, 5] (fun ov i => ov = .slice (some ⟨w.heap.size + 1, 0, none⟩) 0 0 ∧ i = .int .i64 0) (fun _ _ => 0)
    case atStart => exact ⟨rfl, rfl⟩
    case round =>
      obtain ⟨rfl, rfl⟩ := hrel
      go_wp2
      exact HQ.out _ [] _ HB2.out (Or.inr ⟨HOK.out, rfl⟩) (own_lower HE2.out (by omega))
end Go.Proofs.Ytblagfndeffilaa
