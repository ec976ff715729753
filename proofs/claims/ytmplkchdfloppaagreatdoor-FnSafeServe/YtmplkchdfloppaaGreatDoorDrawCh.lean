/- What the model draws of choices, and of paths. -/
import Derived.Test.YtmplkchdfloppaaGreatDoorDrawA
import Derived.Test.YtmplkchdfloppaaGreatDoorSpecPOf
import Derived.Deep.AppendLies
import Derived.Deep.RegionHeld3
namespace Go.Proofs.YtmplkchdfloppaaGreatDoor
open Go.RowKit

theorem bool_oneD (x : Bool) : ∀ u ∈ [Value.bool x], u.oneCell' = true := by
  intro u hu
  simp only [List.mem_singleton] at hu
  subst hu
  rfl
theorem infoBoolD : (Tryz.prog.info? 4).map (fun i => (i.zero, i.size, i.bytes)) = some (some (.bool false), 1, 1) := by kernel_rfl

theorem Ex.grownD {rb : Nat} {a w w' : World} {row : Option Nat} (h : Ex rb a w) (hg : w.grownBy w' row) (hr : ∀ k, row = some k → a.heap.size ≤ k) : Ex rb a w' :=
  ⟨hg.os.trans h.os, hg.tape.trans h.tape, hg.output.trans h.output, Nat.le_trans h.size hg.size, fun k hk hne => (hg.block k (Nat.lt_of_lt_of_le hk h.size) (fun e => by have := hr k e.symm; omega)).trans (h.block k hk hne)⟩

/-- What is kept while choices are drawn. -/
structure NBD (rb : Nat) (w wr : World) (v : Value) (cs : List Bool) (p : Nat) : Prop where
  rd : Rd wr rb p
  ex : Ex rb w wr
  own : wr.ownsRow w.heap.size 4 1 v cs.length (cs.map Value.bool)

theorem NBD.form {rb p : Nat} {w wr : World} {v : Value} {cs : List Bool} (h : NBD rb w wr v cs p) : ∃ A c, v = .slice A cs.length c := by
  rcases h.own.2 with ⟨e, e2⟩ | ⟨g', c, _, e, _⟩
  · exact ⟨none, 0, by rw [e2]; exact e⟩
  · exact ⟨_, _, e⟩

theorem NBD.go {rb p q : Nat} {w wr wr' : World} {v : Value} {cs : List Bool} (h : NBD rb w wr v cs p) (hlt : rb < w.heap.size) (hx : Ex rb wr wr') (hr : Rd wr' rb q) : NBD rb w wr' v cs q :=
  ⟨hr, h.ex.trans hx, own_ex h.own hx hlt⟩

theorem NBD.snoc {rb p g cap : Nat} {w wr w' : World} {O : Obj} {v : Value} {cs : List Bool} {y : Bool} (h : NBD rb w wr v cs p) (hlt : rb < w.heap.size) (hg : (wr.alloc O).grownBy w' v.ownBlock)
    (hown : w'.ownsRow w.heap.size 4 1 (.slice (some ⟨g, 0, none⟩) (cs.length + 1) cap) (cs.length + 1) (cs.map Value.bool ++ [.bool y])) : NBD rb w w' (.slice (some ⟨g, 0, none⟩) (cs.length + 1) cap) (cs ++ [y]) p :=
  ⟨(h.rd.alloc O).grown hg (fun k hk => by have := (h.own.lt k hk).1; omega), (h.ex.alloc O).grownD hg (fun k hk => (h.own.lt k hk).1), by simpa using hown⟩

set_option maxRecDepth 100000 in
set_option maxHeartbeats 4000000 in
theorem l71Choices_any {Q : Ending → World → Prop} (rb p : Nat) (w : World) (h : Rd w rb p) (hp : p + 30 ≤ 1000000)
    (hQ : ∀ (v : Value) (cs : List Bool) (p' : Nat) w', w'.ownsRow w.heap.size 4 1 v cs.length (cs.map Value.bool) → cs.length ≤ 20 → Rd w' rb p' → p' ≤ p + 25 → Ex rb w w' → Q (.returned v) w') :
    Calls Tryz.prog 58 #[.pointer (some ⟨rb, 0, none⟩)] w Q := by
  have HQ : Hid _ := hQ
  clear hQ
  have hlt := h.lt
  obtain ⟨i0, hi', hi0, hi1, hi2⟩ := info_partsW infoBoolD
  go_enter Tryz.func58, Tryz.ntmps58
  go_wp2_with fail
  refine pick_any rb p 20 _ (h.alloc _) (by omega) (by omega) fun z w1 hz hr1 hx1 => ?_
  have hz20 : (z : Int) < 20 := hz (by omega)
  have hz20' : z < 20 := by omega
  have HN1 : Hid (NBD rb w w1 (.slice (some ⟨w.heap.size, 0, none⟩) 0 0) [] (p + 1)) := ⟨hr1, ((Ex.refl _ _).alloc _).trans hx1, own_ex (World.ownsRow_lit (base := w.heap.size) (e := 4) (size := 1) w #[] 0 (Nat.le_refl _) (by decide) (by simp)) hx1 hlt⟩
  clear hz hr1 hx1 h
  go_wp2_with fail
  go_loopw [3, 4] (fun v n wr => ∃ (cs : List Bool) (k : Nat), n = .int .i64 (k : Int) ∧ cs.length + k ≤ 19 ∧ NBD rb w wr v cs (p + 1 + cs.length)) (fun _ n _ => (intOf n).toNat)
  case atStart => exact ⟨[], z, rfl, by simp; omega, HN1.out⟩
  case round =>
    obtain ⟨cs, k, rfl, hk, hN⟩ := hrel
    obtain ⟨A, c, rfl⟩ := hN.form
    have HN : Hid (NBD rb w wr (.slice A cs.length c) cs (p + 1 + cs.length)) := hN
    have hle := hN.ex.size
    have hzl : cs.length ≤ 19 := by omega
    clear hN
    by_cases hk0 : 0 < k
    · have hki : (0 : Int) < (k : Int) := by omega
      go_wp2_with fail
      refine pick_any rb (p + 1 + cs.length) 2 _ HN.out.rd (by omega) (by omega) fun z2 w2 hz2 hr2 hx2 => ?_
      have HN2 : Hid (NBD rb w w2 (.slice A cs.length c) cs (p + 1 + cs.length + 1)) := HN.out.go hlt hx2 hr2
      have hs2 : w.heap.size ≤ w2.heap.size := HN2.out.ex.size
      clear hz2 hr2 hx2
      by_cases hz0 : z2 = 0
      · subst hz0
        go_wp2_with (at_builtin; refine wpList_append_lies _ rfl _ _ 33 rfl w.heap.size 4 i0 (.bool false) 1 1 Tryz.underlying33 hi' hi0 hi1 hi2 rfl (by decide) (.slice A cs.length c) cs.length (cs.map Value.bool) rfl (HN2.out.own.alloc _) ⟨w2.heap.size, 0, none⟩ 1 1 [.bool true] rfl rfl (cell_one_new w2 _ _) (bool_oneD _) (by decide) (by unfold maxLen; omega) (by omega) (by simp; omega) (w2.heap.size + 1) (by simp) ?_)
        intro g8 cap8 w8 hown8 hgrow8 hat8 hlt8
        have HN3 : Hid (NBD rb w w8 (.slice (some ⟨g8, 0, none⟩) (cs.length + 1) cap8) (cs ++ [true]) (p + 1 + cs.length + 1)) := HN2.out.snoc hlt hgrow8 hown8
        clear hown8 hgrow8 hat8 hlt8
        go_wp2
        go_roundw
        case rel => exact ⟨cs ++ [true], k - 1, by first | go_num | (congr 1; omega) | (simp; omega), by simp; omega, by simpa [Nat.add_assoc] using HN3.out⟩
        case measure => simp [intOf]; omega
      · have hzb : ((z2 : Int) == 0) = false := by simp; omega
        go_wp2_with (at_builtin; refine wpList_append_lies _ rfl _ _ 33 rfl w.heap.size 4 i0 (.bool false) 1 1 Tryz.underlying33 hi' hi0 hi1 hi2 rfl (by decide) (.slice A cs.length c) cs.length (cs.map Value.bool) rfl (HN2.out.own.alloc _) ⟨w2.heap.size, 0, none⟩ 1 1 [.bool false] rfl rfl (cell_one_new w2 _ _) (bool_oneD _) (by decide) (by unfold maxLen; omega) (by omega) (by simp; omega) (w2.heap.size + 1) (by simp) ?_)
        intro g8 cap8 w8 hown8 hgrow8 hat8 hlt8
        have HN3 : Hid (NBD rb w w8 (.slice (some ⟨g8, 0, none⟩) (cs.length + 1) cap8) (cs ++ [false]) (p + 1 + cs.length + 1)) := HN2.out.snoc hlt hgrow8 hown8
        clear hown8 hgrow8 hat8 hlt8
        go_wp2
        go_roundw
        case rel => exact ⟨cs ++ [false], k - 1, by first | go_num | (congr 1; omega) | (simp; omega), by simp; omega, by simpa [Nat.add_assoc] using HN3.out⟩
        case measure => simp [intOf]; omega
    · have hki : ¬ ((0 : Int) < (k : Int)) := by omega
      go_wp2
      exact HQ.out _ _ _ _ HN.out.own (by omega) HN.out.rd (by omega) HN.out.ex

/-- A row of numbers with its room, in a block from lo on. -/
def IntsD (lo : Nat) (w : World) (v : Value) (zs : List Int) : Prop :=
  ∃ ao b o cap, v = .slice ao zs.length cap ∧ zs.length ≤ cap ∧ (0 < zs.length → ao = some ⟨b, o, none⟩) ∧ lo ≤ b ∧ ∀ i, i < zs.length → w.cell? ⟨b, o + i, none⟩ = some (.int .i64 (zs.getD i 0))

theorem IntsD.c {lo : Nat} {w : World} {v : Value} {zs : List Int} (h : IntsD lo w v zs) : IntsC w v zs := by
  obtain ⟨ao, b, o, cap, e, h0, h1, _, h2⟩ := h
  exact ⟨ao, b, o, cap, e, h0, h1, h2⟩

theorem IntsD.put {lo : Nat} {w : World} {v : Value} {zs : List Int} (h : IntsD lo w v zs) {a : Addr} (ha : a.block < lo) (u : Value) : IntsD lo (w.setCell a u) v zs := by
  obtain ⟨ao, b, o, cap, e, h0, h1, hb, h2⟩ := h
  exact ⟨ao, b, o, cap, e, h0, h1, hb, fun i hi => by rw [cell_setOther _ _ _ _ (by show b ≠ a.block; omega)]; exact h2 i hi⟩

theorem IntsD.ex {lo rb : Nat} {w w' : World} {v : Value} {zs : List Int} (h : IntsD lo w v zs) (hx : Ex rb w w') (hr : rb < lo) : IntsD lo w' v zs := by
  obtain ⟨ao, b, o, cap, e, h0, h1, hb, h2⟩ := h
  exact ⟨ao, b, o, cap, e, h0, h1, hb, fun i hi => hx.cell (h2 i hi) (by show b ≠ rb; omega)⟩

theorem IntsD.of {lo : Nat} {w : World} {v : Value} {zs : List Int} (h : w.ownsRow lo 3 1 v zs.length (zs.map (Value.int .i64))) : IntsD lo w v zs := by
  have h1 : IntsO lo w.heap.size w v zs := IntsO.of h
  rcases id h.2 with ⟨e, e2⟩ | ⟨g, cap, cur, e, hg, _, hcap, _⟩
  · exact ⟨none, lo, 0, 0, by rw [e2]; exact e, by omega, fun hp => by omega, Nat.le_refl _, fun i hi => by omega⟩
  · obtain ⟨ao, g', cap', hv, hc⟩ := h1.read
    rw [e] at hv
    cases hv
    exact ⟨_, g, 0, cap, e, by first | exact hcap | omega, fun _ => rfl, (h.lt g (by rw [e]; rfl)).1, fun i hi => by obtain ⟨e3, c3, _⟩ := hc i hi; cases e3; rw [Nat.zero_add]; exact c3⟩

set_option maxRecDepth 100000 in
set_option maxHeartbeats 4000000 in
theorem l71Path_any {Q : Ending → World → Prop} (rb p lo : Nat) (v : Value) (ss : List St) (w : World) (h : Rd w rb p) (hp : p + 200 ≤ 1000000) (hS : StepsNF lo w v ss) (hlo : rb < lo) (hl : ss.length ≤ 61) (hls : ∀ s ∈ ss, s.next.length ≤ 61)
    (hQ : ∀ (v' : Value) (zs : List Int) (p' : Nat) w', w'.ownsRow w.heap.size 3 1 v' zs.length (zs.map (Value.int .i64)) → 0 < zs.length → zs.length ≤ 200 → Rd w' rb p' → p' ≤ p + 100 → Ex rb w w' → Q (.returned v') w') :
    Calls Tryz.prog 24 #[.pointer (some ⟨rb, 0, none⟩), .agg #[v]] w Q := by
  have HQ : Hid _ := hQ
  clear hQ
  have hlt := h.lt
  obtain ⟨A, sb, so, c, rfl, _⟩ := id hS
  have HS : Hid (StepsNF lo w (.slice A ss.length c) ss) := hS
  have HL : Hid (∀ s ∈ ss, s.next.length ≤ 61) := hls
  have HR0 : Hid (Rd w rb p) := h
  clear hS hls h
  go_enter Tryz.func24, Tryz.ntmps24
  go_wp2_with fail
  go_loopw [5] (fun n wr => ∃ (k p' : Nat), n = .int .i64 (k : Int) ∧ k ≤ 4 ∧ Rd wr rb p' ∧ p' ≤ p + 25 * k ∧ Ex rb w wr ∧ wr.cell? ⟨w.heap.size, 0, none⟩ = some (.slice A ss.length c)) (fun n _ => 4 - (intOf n).toNat)
  case atStart => exact ⟨0, p, rfl, by omega, HR0.out.alloc _, by omega, (Ex.refl _ _).alloc _, by simp [go_sem]⟩
  case round =>
    obtain ⟨k, p', rfl, hk, hrd, hp', hex, q0⟩ := hrel
    have HR : Hid (Rd wr rb p') := hrd
    have HX : Hid (Ex rb w wr) := hex
    have hsz : w.heap.size < wr.heap.size := cell_lt q0
    have hne : w.heap.size ≠ rb := by omega
    clear hrd hex
    by_cases hk4 : k < 4
    · have hki : (k : Int) < 4 := by omega
      have HSR : Hid (StepsNF lo wr (.slice A ss.length c) ss) := HS.out.ex HX.out hlo
      go_wp2_with fail
      go_region_held3 (fun wx => wx.cell? ⟨w.heap.size, 0, none⟩ = some (.slice A ss.length c)) (go_keep) (first
        | (go_at_call 58; refine l71Choices_any rb p' _ (HR.out.drewN 1) (by omega) ?_; intro cv cs p2 w2 hown2 hcl hr2 hp2 hx2; have hx12 : Ex rb wr w2 := (Ex.refl _ _).drew.trans hx2; have q2 := hx12.cell q0 hne; obtain ⟨Ac, cc, hcv⟩ := (BoolsOwn.of hown2).slice; subst hcv)
        | (go_at_call 57; refine specPathOf_any _ _ ss cs _ (HSR.out.ex hx12 hlo).n.at (by omega) (fun s hs => Nat.le_trans (HL.out s hs) (by decide)) (BoolsOwn.of hown2).at (by omega) ?_; intro pv zs bb w3 hb3 hpo hown3; have q3 := cell_keep hb3 q2; obtain ⟨Ap, cp, hpv⟩ := (IntsO.of hown3).slice; subst hpv))
      all_goals
        have HX3 : Hid (Ex rb w w3) := (HX.out.trans hx12).trans (Ex.of_below hb3)
        have HR3 : Hid (Rd w3 rb p2) := hr2.keep hb3
        have hpl := hpo.len
        have HOW : Hid (w3.ownsRow w.heap.size 3 1 (.slice Ap zs.length cp) zs.length (zs.map (Value.int .i64))) := own_lower hown3 (by have := (HX.out.trans hx12).size; omega)
        cases bb
        · clear hown2 hown3 hb3 hx2 hx12 hpo hr2 q2
          go_wp2
          go_roundw
          case rel => exact ⟨k + 1, p2, by go_num, by omega, HR3.out, by omega, HX3.out, q3⟩
          case measure => simp [intOf]; omega
        · have h0 : 0 < zs.length := by
            obtain ⟨_, r, e, _⟩ := hpo.path
            rw [e]
            simp
          clear hown2 hown3 hb3 hx2 hx12 hpo hr2 q2
          go_wp2
          exact HQ.out _ _ _ _ HOW.out h0 hpl HR3.out (by omega) HX3.out
    · have hki : ¬ (k : Int) < 4 := by omega
      have hlit := World.ownsRow_lit (base := w.heap.size) (e := 3) (size := 1) wr #[.int .i64 0] 1 (by omega) (by decide) (by simp)
      have HO1 : Hid ((wr.alloc (.cells #[.int .i64 0] 3)).ownsRow w.heap.size 3 1 (.slice (some ⟨wr.heap.size, 0, none⟩) 1 1) 1 [.int .i64 0]) := hlit
      clear hlit
      go_wp2
      exact HQ.out _ [0] _ _ HO1.out (by simp) (by simp) (HR.out.alloc _) (by omega) (HX.out.alloc _)
end Go.Proofs.YtmplkchdfloppaaGreatDoor
