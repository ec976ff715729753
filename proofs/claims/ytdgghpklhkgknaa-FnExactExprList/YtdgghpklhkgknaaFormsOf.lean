/- formsOf of a program, and the program's own ProgOk. -/
import Derived.Test.YtdgghpklhkgknaaFormAll
import Derived.OwnWalk
namespace Go.Proofs.Ytdgghpklhkgknaa
open Go.RowKit

theorem ownsRow_keep {w w' : World} {base : Nat} {e : TypeId} {size : Nat} {v : Value} {n : Nat} {xs : List Value} (h : w.ownsRow base e size v n xs) (hb : Below w.heap.size w w') : w'.ownsRow base e size v n xs := by
  obtain ⟨h1, h2⟩ := h
  refine ⟨h1, ?_⟩
  rcases h2 with h2 | ⟨g, cap, cur, hv, hg, hh, r⟩
  · exact Or.inl h2
  · obtain ⟨hlt, _⟩ := Array.getElem?_eq_some_iff.1 hh
    exact Or.inr ⟨g, cap, cur, hv, hg, (hb.block g hlt).trans hh, r⟩

theorem ownsRow_lower {w : World} {base base' : Nat} {e : TypeId} {size : Nat} {v : Value} {n : Nat} {xs : List Value} (h : w.ownsRow base e size v n xs) (hb : base' ≤ base) : w.ownsRow base' e size v n xs := by
  obtain ⟨h1, h2⟩ := h
  refine ⟨h1, ?_⟩
  rcases h2 with h2 | ⟨g, cap, cur, hv, hg, r⟩
  · exact Or.inl h2
  · exact Or.inr ⟨g, cap, cur, hv, by omega, r⟩

theorem infoForm : (Try.prog.info? 86).map (fun i => (i.zero, i.size, i.bytes)) = some (some .nilIface, 1, 16) := by kernel_rfl

theorem formV_one (s : St) : ∃ T v, formV s = .iface T v := by
  unfold formV
  repeat' split
  all_goals exact ⟨_, _, rfl⟩

set_option maxHeartbeats 4000000 in
theorem formsOf_any {Q : Ending → World → Prop} (v : Value) (ss : List St) (w : World) (h : StepsAt w v ss) (hl : ss.length ≤ 1048576) (hls : ∀ s ∈ ss, s.next.length ≤ 1048576)
    (hno : ∀ w', Below w.heap.size w w' → okB ss = false → Q (.returned (.tuple #[.slice none 0 0, .bool false])) w')
    (hyes : ∀ fv w', Below w.heap.size w w' → okB ss = true → w'.ownsRow w.heap.size 86 1 fv ss.length (ss.map formV) → Q (.returned (.tuple #[fv, .bool true])) w') :
    Calls Try.prog 37 #[.agg #[v]] w Q := by
  have HN : Hid (∀ w', Below w.heap.size w w' → okB ss = false → Q (.returned (.tuple #[.slice none 0 0, .bool false])) w') := hno
  have HY : Hid (∀ fv w', Below w.heap.size w w' → okB ss = true → w'.ownsRow w.heap.size 86 1 fv ss.length (ss.map formV) → Q (.returned (.tuple #[fv, .bool true])) w') := hyes
  clear hno hyes
  obtain ⟨ao, b, o, cap, rfl, ha, hc⟩ := h
  have HA : Hid _ := ha
  have HC : Hid _ := hc
  have HL : Hid _ := hls
  clear ha hc hls
  by_cases h1 : ss.length < 1
  · have HF : Hid (okB ss = false) := by simp [Hid, okB]; omega
    have g1 : (ss.length : Int) < 1 := by omega
    go_enter Try.func37, Try.ntmps37
    go_wp2
    try go_ret2
    exact HN.out _ ((Below.refl _ _).alloc (Nat.le_refl _) _) HF.out
  by_cases h2 : 60 < ss.length
  · have HF : Hid (okB ss = false) := by simp [Hid, okB]; omega
    have g1 : ¬ (ss.length : Int) < 1 := by omega
    have g2 : (60 : Int) < (ss.length : Int) := by omega
    go_enter Try.func37, Try.ntmps37
    go_wp2
    try go_ret2
    exact HN.out _ ((Below.refl _ _).alloc (Nat.le_refl _) _) HF.out
  have HS : Hid (okB ss = ss.all (fun s => stepB s ss.length)) := by
    simp only [Hid, okB, show 1 ≤ ss.length by omega, show ss.length ≤ 60 by omega, decide_true, Bool.true_and]
  have g1 : ¬ (ss.length : Int) < 1 := by omega
  have g2 : ¬ (60 : Int) < (ss.length : Int) := by omega
  obtain rfl := HA.out (by omega)
  obtain ⟨i0, hi, hz0, hz1, hz2⟩ := info_parts infoForm
  have hq : ∀ wx, Below (w.heap.size + 1) (w.alloc (.cells #[.slice (some ⟨b, o, none⟩) ss.length cap] 40)) wx → wx.cell? ⟨w.heap.size, 0, none⟩ = some (.slice (some ⟨b, o, none⟩) ss.length cap) := fun wx hx => (hx.cell (by simp)).trans (by simp [go_sem])
  have HQ : Hid _ := hq
  clear hq
  go_enter Try.func37, Try.ntmps37
  go_wp2_with (at_make; refine wpList_make_own _ rfl _ _ 73 rfl (w.heap.size + 1) 86 i0 .nilIface 1 Try.underlying73 hi hz0 hz1 .i64 .i64 _ ss.length rfl rfl (by omega) (by rw [hz2]; omega) (by unfold maxLen; omega) (by simp) ?_; intro w0 hown0 hgrow0; have hb0 : Below (w.heap.size + 1) (w.alloc (.cells #[.slice (some ⟨b, o, none⟩) ss.length cap] 40)) w0 := (Below.refl _ _).grown hgrow0 (by simp) (by simp); have q0 := HQ.out w0 hb0; clear hgrow0)
  have HB0 : Hid (Below (w.heap.size + 1) (w.alloc (.cells #[.slice (some ⟨b, o, none⟩) ss.length cap] 40)) w0) := hb0
  have HO0 : Hid (w0.ownsRow (w.heap.size + 1) 86 1 (.slice (some ⟨w.heap.size + 1, 0, none⟩) 0 ss.length) 0 []) := by simpa [Hid] using hown0
  clear hb0 hown0 q0
  go_loopw [5, 24] (fun fv i wr => ∃ k : Nat, k ≤ ss.length ∧ i = .int .i64 k ∧ Below (w.heap.size + 1) (w.alloc (.cells #[.slice (some ⟨b, o, none⟩) ss.length cap] 40)) wr ∧ wr.ownsRow (w.heap.size + 1) 86 1 fv k ((ss.take k).map formV) ∧ ∀ j s, j < k → ss[j]? = some s → stepB s ss.length = true) (fun _ i _ => ss.length - (intOf i).toNat)
  case atStart => exact ⟨0, Nat.zero_le _, rfl, HB0.out, by simpa using HO0.out, by omega⟩
  case round =>
    obtain ⟨k, hk, rfl, hb, hown, hall⟩ := hrel
    have HALL : Hid _ := hall
    have HB : Hid (Below (w.heap.size + 1) (w.alloc (.cells #[.slice (some ⟨b, o, none⟩) ss.length cap] 40)) wr) := hb
    have hbw : Below w.heap.size w wr := ((Below.refl _ _).alloc (Nat.le_refl _) _).trans (hb.mono (by omega))
    have hsz : w.heap.size + 1 ≤ wr.heap.size := by simpa using hb.size
    clear hall hb
    by_cases hkl : k < ss.length
    · have hki : (k : Int) < (ss.length : Int) := by omega
      obtain ⟨nu, cu, iu⟩ := HC.out k ss[k] (by simp [hkl])
      obtain ⟨c0, c1, c2, c3, c4, c5, c6, c7⟩ := cu.keep hbw
      have IU : Hid (IntsAt wr nu ss[k].next) := iu.keep hbw
      obtain ⟨nao, nb, no, ncap, hnu, _, _⟩ := id iu
      subst hnu
      have HO : Hid (wr.ownsRow (w.heap.size + 1) 86 1 _ k ((ss.take k).map formV)) := hown
      have hm : Hid (ss[k] ∈ ss) := List.getElem_mem hkl
      clear cu iu hown
      go_wp2_with fail
      have hbx : ∀ O, Below wr.heap.size wr (wr.alloc O) := fun O => (Below.refl _ _).alloc (Nat.le_refl _) O
      refine formOf_any (.slice nao ss[k].next.length ncap) ss[k] ss.length _ (IU.out.keep (hbx _)) (HL.out _ hm.out) ?_ ?_
      · intro f w1 hb1 hfalse hf
        have hb2 : Below w.heap.size w w1 := hbw.trans (((hbx _).trans (hb1.mono (by simp))).mono (by omega))
        have HF : Hid (okB ss = false) := by
          refine HS.out.trans ?_
          rw [List.all_eq_false]
          exact ⟨_, hm.out, by simp [hfalse]⟩
        clear hb1 hbx hfalse c0 c1 c2 c3 c4 c5 c6 c7 hbw
        rcases hf with rfl | ⟨T, fv, rfl⟩
        · go_wp2
          try go_ret2
          exact HN.out _ hb2 HF.out
        · go_wp2
          try go_ret2
          exact HN.out _ hb2 HF.out
      · intro w1 hb1 hfit
        have hb2 : Below wr.heap.size wr w1 := (hbx _).trans (hb1.mono (by simp))
        obtain ⟨T, fval, fn, hfv, hmeth, hent, hcall⟩ := hfit
        have HFV : Hid (formV ss[k] = .iface T fval) := hfv
        have HCALL : Hid (∀ (Q : Ending → World → Prop) wx, (∀ w', Below wx.heap.size wx w' → Q (.returned (.bool (stepB ss[k] ss.length))) w') → Calls Try.prog fn #[fval, .int .i64 (ss.length : Int)] wx Q) := hcall
        simp [nameAt, Try.underlying85] at hmeth
        rw [hfv]
        clear hb1 hbx hfv hcall c0 c1 c2 c3 c4 c5 c6 c7
        go_wp2_with fail
        refine HCALL.out _ _ fun w2 hb3 => ?_
        have hb4 : Below wr.heap.size wr w2 := hb2.trans (hb3.mono hb2.size)
        clear hb3 hb2 hmeth hent HCALL
        cases hst : stepB ss[k] ss.length
        · have HF : Hid (okB ss = false) := by
            refine HS.out.trans ?_
            rw [List.all_eq_false]
            exact ⟨_, hm.out, by simp [hst]⟩
          have hb5 : Below w.heap.size w w2 := hbw.trans (hb4.mono (by omega))
          clear hb4 hbw
          go_wp2
          try go_ret2
          exact HN.out _ hb5 HF.out
        · have hown2 := ownsRow_keep HO.out hb4
          have hsz2 : w.heap.size + 1 ≤ w2.heap.size := Nat.le_trans hsz hb4.size
          go_wp2_with (at_builtin; refine wpList_append_own _ rfl _ _ 73 rfl (w.heap.size + 1) 86 i0 .nilIface 1 16 Try.underlying73 hi hz0 hz1 hz2 rfl (by decide) _ k _ rfl (hown2.alloc _) ⟨w2.heap.size, 0, none⟩ 1 1 [.iface T fval] rfl rfl ?c1 ?c2 ?c3 ?c4 ?c5 ?_)
          case c1 =>
            intro j u hj
            match j, hj with
            | 0, hj => simp at hj; subst hj; simp [Addr.add, go_sem]
          case c2 => intro u hu; simp at hu; subst hu; rfl
          case c3 => unfold maxLen; omega
          case c4 => omega
          case c5 => simp; omega
          · intro v' w3 hown3 hgrow3 _
            have hbz : Below (w.heap.size + 1) w2 w3 := ((Below.refl _ _).alloc (by omega) _).grown hgrow3 (by simp; omega) (fun g hg => by rcases hown2.2 with ⟨e, _⟩ | ⟨g', _, _, e, hg', _⟩ <;> (rw [e] at hg; simp [Value.ownBlock] at hg) <;> omega)
            have hb6 : Below (w.heap.size + 1) (w.alloc (.cells #[.slice (some ⟨b, o, none⟩) ss.length cap] 40)) w3 := (HB.out.trans (hb4.mono hsz)).trans hbz
            have HO3 : Hid (w3.ownsRow (w.heap.size + 1) 86 1 v' (k + 1) ((ss.take (k + 1)).map formV)) := by
              have e1 : (ss.take (k + 1)).map formV = (ss.take k).map formV ++ [.iface T fval] := by
                rw [List.take_succ_eq_append_getElem hkl, List.map_append]
                simp [HFV.out]
              rw [Hid, e1]
              simpa [List.map_take] using hown3
            clear hown3 hgrow3 hown2 hb4 hbw hbz
            go_wp2
            go_roundw
            case rel =>
              refine ⟨k + 1, by omega, by go_num, hb6, HO3.out, fun j s hj hs => ?_⟩
              by_cases hjk : j = k
              · subst hjk
                rw [List.getElem?_eq_getElem hkl] at hs
                cases hs
                exact hst
              · exact HALL.out j s (by omega) hs
            case measure => simp [intOf]; omega
    · have HT : Hid (okB ss = true) := by
        refine HS.out.trans ?_
        rw [List.all_eq_true]
        intro s hs
        obtain ⟨j, hj, rfl⟩ := List.mem_iff_getElem.1 hs
        exact HALL.out j _ (by omega) (List.getElem?_eq_getElem hj)
      obtain rfl : k = ss.length := by omega
      rw [List.take_of_length_le (Nat.le_refl _)] at hown
      have HO : Hid _ := hown
      clear hown
      go_wp2
      try go_ret2
      exact HY.out _ _ hbw HT.out (ownsRow_lower HO.out (by omega))

end Go.Proofs.Ytdgghpklhkgknaa
