/- Answers that are rows of numbers: held against each other, marked, and found as they were marked. -/
import Derived.Test.YtljlgffkhocgkaaDoorAnsI
import Derived.Deep.RegionWith
namespace Go.Proofs.YtljlgffkhocgkaaDoor
open Go.RowKit

set_option maxHeartbeats 1000000 in
theorem eqIntSS_any {Q : Ending → World → Prop} (u v : Value) (zss : List (List Int)) (lo hi lo' hi' : Nat) (w : World) (hu : RowsI lo hi w u zss) (hv : RowsI lo' hi' w v zss) (hl : zss.length ≤ 1000) (hls : ∀ zs ∈ zss, zs.length ≤ 1000)
    (hQ : ∀ w', Below w.heap.size w w' → Q (.returned (.bool true)) w') :
    Calls Tryd.prog 18 #[u, v] w Q := by
  have HQ : Hid _ := hQ
  clear hQ
  obtain ⟨ao, b, cap, rfl, hc⟩ := hu.read
  obtain ⟨ao', b', cap', rfl, hc'⟩ := hv.read
  have HC : Hid _ := hc
  have HC' : Hid _ := hc'
  have HL : Hid _ := hls
  clear hc hc' hu hv hls
  go_enter Tryd.func18, Tryd.ntmps18
  go_wp2
  go_loopw [5] (fun i wr => ∃ k : Nat, k ≤ zss.length ∧ i = .int .i64 k ∧ Below w.heap.size w wr) (fun i _ => zss.length - (intOf i).toNat)
  case atStart => exact ⟨0, Nat.zero_le _, rfl, Below.refl _ _⟩
  case round =>
    obtain ⟨k, hk, rfl, hb⟩ := hrel
    by_cases hkl : k < zss.length
    · obtain ⟨x, A, c, rfl, c1, rfl, ho1⟩ := HC.out k zss[k] (List.getElem?_eq_getElem hkl)
      obtain ⟨y, A', c', rfl, c2, rfl, ho2⟩ := HC'.out k zss[k] (List.getElem?_eq_getElem hkl)
      have d1 := cell_keep hb c1
      have d2 := cell_keep hb c2
      have hki : (k : Int) < (zss.length : Int) := by omega
      have HO1 : Hid (IntsO lo hi w (.slice A zss[k].length c) zss[k]) := ho1
      have HO2 : Hid (IntsO lo' hi' w (.slice A' zss[k].length c') zss[k]) := ho2
      have HB : Hid (Below w.heap.size w wr) := hb
      have hlk := HL.out _ (List.getElem_mem hkl)
      clear c1 c2 ho1 ho2 hb
      go_wp2_with fail
      go_region_with (go_at_call 43; refine eqInts_any _ _ zss[k] lo hi lo' hi' _ (HO1.out.keep (HB.out.trans (by exact ⟨rfl, rfl, rfl, Nat.le_refl _, fun _ _ => rfl⟩))) (HO2.out.keep (HB.out.trans (by exact ⟨rfl, rfl, rfl, Nat.le_refl _, fun _ _ => rfl⟩))) (by omega) ?_; intro w1 hb1)
      all_goals
        have hbw : Below w.heap.size w w1 := HB.out.trans ((show Below wr.heap.size wr w1 from ⟨hb1.os, hb1.tape, hb1.output, hb1.size, hb1.block⟩).mono HB.out.size)
        clear hb1
        go_wp2
        go_roundw
        case rel => exact ⟨k + 1, by omega, by go_num, hbw⟩
        case measure => simp [intOf]; omega
    · go_wp2
      exact HQ.out _ hb

/-- How many lie in the first i rows. -/
def preI (zss : List (List Int)) (i : Nat) : Nat := ((zss.take i).map List.length).sum

theorem preI_succ {zss : List (List Int)} {i : Nat} (hi : i < zss.length) : preI zss (i + 1) = preI zss i + zss[i].length := by
  unfold preI
  rw [List.take_succ_eq_append_getElem hi, List.map_append, List.sum_append]
  simp only [List.map_cons, List.map_nil, List.sum_cons, List.sum_nil, Nat.add_zero]

theorem preI_le {zss : List (List Int)} (h : ∀ zs ∈ zss, zs.length ≤ 1000) (i : Nat) : preI zss i ≤ 1000 * i := by
  induction i with
  | zero => simp [preI]
  | succ i ih =>
    by_cases hi : i < zss.length
    · rw [preI_succ hi]
      have := h _ (List.getElem_mem hi)
      omega
    · have e : preI zss (i + 1) = preI zss i := by
        unfold preI
        rw [List.take_of_length_le (by omega), List.take_of_length_le (by omega)]
      omega

/-- What marks are laid, from k on. -/
def marksI (k : Nat) (zss : List (List Int)) : List (List Int) := (List.range zss.length).map (fun i => markN (k + preI zss i) (zss.getD i []).length)

theorem marksI_get {k : Nat} {zss : List (List Int)} {i : Nat} (hi : i < zss.length) : (marksI k zss)[i]? = some (markN (k + preI zss i) zss[i].length) := by
  simp [marksI, hi]

theorem length_marksI (k : Nat) (zss : List (List Int)) : (marksI k zss).length = zss.length := by simp [marksI]

set_option maxHeartbeats 1000000 in
theorem markIntSS_any {Q : Ending → World → Prop} (v : Value) (zss : List (List Int)) (k lo hi : Nat) (w : World) (h : RowsI lo hi w v zss) (hk : k ≤ 1048576) (hl : zss.length ≤ 1000) (hls : ∀ zs ∈ zss, zs.length ≤ 1000)
    (hQ : ∀ w', Out lo hi w w' → RowsI lo hi w' v (marksI k zss) → Q (.returned (.int .i64 ((k + preI zss zss.length : Nat) : Int))) w') :
    Calls Tryd.prog 19 #[v, .int .i64 (k : Int)] w Q := by
  have HQ : Hid _ := hQ
  have HL : Hid _ := hls
  clear hQ hls
  obtain ⟨vs, h1, h2, h3, h4, h5⟩ := h
  have HOW : Hid (w.ownsRow lo 55 1 v zss.length vs) := h2
  have H3 : Hid _ := h3
  have H4 : Hid (∀ (i : Nat) (x : Value) (zs : List Int), vs[i]? = some x → zss[i]? = some zs → IntsO lo hi w x zs) := h4
  have H5 : Hid _ := h5
  obtain ⟨ao, g, cap, hv, hgl, hgc⟩ : ∃ ao g cap, v = .slice ao zss.length cap ∧ (0 < zss.length → ao = some ⟨g, 0, none⟩) ∧ (0 < zss.length → lo ≤ g ∧ g < hi) := by
    rcases id h2.2 with ⟨e, e2⟩ | ⟨g, cap, cur, e, _⟩
    · exact ⟨none, 0, 0, by rw [e2]; exact e, by omega, by omega⟩
    · exact ⟨_, g, cap, e, fun _ => rfl, fun _ => ⟨(h2.lt g (by rw [e]; rfl)).1, h3 g (by rw [e]; rfl)⟩⟩
  have HGL : Hid _ := hgl
  subst hv
  clear h2 h3 h4 h5 hgl hgc
  go_enter Tryd.func19, Tryd.ntmps19
  go_wp2
  go_loopw [1, 5] (fun kk i wr => ∃ j : Nat, j ≤ zss.length ∧ i = .int .i64 j ∧ kk = .int .i64 ((k + preI zss j : Nat) : Int) ∧ Out lo hi w wr ∧ wr.ownsRow lo 55 1 (.slice ao zss.length cap) zss.length vs ∧ (∀ (i : Nat) (x : Value), vs[i]? = some x → i < j → IntsO lo hi wr x (markN (k + preI zss i) (zss.getD i []).length)) ∧ (∀ (i : Nat) (x : Value), vs[i]? = some x → j ≤ i → IntsO lo hi wr x (zss.getD i []))) (fun _ i _ => zss.length - (intOf i).toNat)
  case atStart =>
    refine ⟨0, Nat.zero_le _, rfl, by simp [preI], Out.refl _ _ _, HOW.out, by omega, fun i x hx _ => ?_⟩
    have hi := (List.getElem?_eq_some_iff.1 hx).1
    exact H4.out i x _ hx (by simp [List.getD, show i < zss.length by omega])
  case round =>
    obtain ⟨j, hj, rfl, rfl, ho, hw, hm, hr⟩ := hrel
    have HO : Hid (Out lo hi w wr) := ho
    have HW : Hid (wr.ownsRow lo 55 1 (.slice ao zss.length cap) zss.length vs) := hw
    have HM : Hid (∀ (i : Nat) (x : Value), vs[i]? = some x → i < j → IntsO lo hi wr x (markN (k + preI zss i) (zss.getD i []).length)) := hm
    have HR : Hid (∀ (i : Nat) (x : Value), vs[i]? = some x → j ≤ i → IntsO lo hi wr x (zss.getD i [])) := hr
    have hpl := preI_le HL.out j
    by_cases hjl : j < zss.length
    · obtain rfl := HGL.out (by omega)
      have hji : (j : Int) < (zss.length : Int) := by omega
      have hxj : vs[j]? = some vs[j] := List.getElem?_eq_getElem (by omega)
      have c1 := hw.cellAt j (by omega)
      rw [hxj] at c1
      have hoj := hr j _ hxj (Nat.le_refl _)
      have ez : zss.getD j [] = zss[j] := by simp [List.getD, hjl]
      rw [ez] at hoj
      have hlj := HL.out _ (List.getElem_mem hjl)
      have HXJ : Hid (vs[j]? = some vs[j]) := hxj
      have HOJ : Hid (IntsO lo hi wr vs[j] zss[j]) := hoj
      have HS : Hid _ := preI_succ hjl
      have HEZ : Hid _ := ez
      obtain ⟨A, c, hsl⟩ := hoj.slice
      have HSL : Hid (vs[j] = .slice A zss[j].length c) := hsl
      rw [hsl] at c1
      clear ho hw hm hr hxj hoj ez hsl
      go_wp2_with fail
      refine markInts_own _ zss[j] (k + preI zss j) lo hi _ (by have := HOJ.out; rw [HSL.out] at this; exact this) (by omega) (by omega) fun w1 ho1 hm1 hg1 => ?_
      have HO1 : Hid (Out lo hi w w1) := HO.out.trans ho1
      have HW1 : Hid (w1.ownsRow lo 55 1 (.slice (some ⟨g, 0, none⟩) zss.length cap) zss.length vs) := by
        refine HW.out.kept hg1 (Or.inr fun e => ?_)
        have hp := HW.out.2
        have hq := HOJ.out.1.2
        rw [HSL.out] at hq
        rcases hp with ⟨hp, _⟩ | ⟨g1, cap1, cur1, hp, _, hp2, _⟩
        · cases hp
        · rcases hq with ⟨hq, _⟩ | ⟨g2, cap2, cur2, hq, _, hq2, _⟩
          · rw [hq] at e; cases e
          · rw [hq] at e
            cases hp
            simp [Value.ownBlock] at e
            subst e
            rw [hp2] at hq2
            simp at hq2
      have hkeep : ∀ (i : Nat) (x : Value) (zs : List Int), vs[i]? = some x → i ≠ j → IntsO lo hi wr x zs → IntsO lo hi w1 x zs := by
        intro i x zs hx hij hx2
        refine ⟨hx2.1.kept hg1 ?_, hx2.2⟩
        cases hob : x.ownBlock with
        | none => exact Or.inl rfl
        | some q =>
          refine Or.inr fun e => ?_
          have h6 := H5.out i j x vs[j] q hx HXJ.out hij hob
          rw [HSL.out] at h6
          exact h6 e.symm
      have HM1 : Hid (∀ (i : Nat) (x : Value), vs[i]? = some x → i < j + 1 → IntsO lo hi w1 x (markN (k + preI zss i) (zss.getD i []).length)) := by
        intro i x hx hij
        by_cases e : i = j
        · subst e
          rw [HXJ.out] at hx
          cases hx
          rw [HEZ.out, HSL.out]
          exact hm1
        · exact hkeep i x _ hx e (HM.out i x hx (by omega))
      have HR1 : Hid (∀ (i : Nat) (x : Value), vs[i]? = some x → j + 1 ≤ i → IntsO lo hi w1 x (zss.getD i [])) := fun i x hx hij => hkeep i x _ hx (by omega) (HR.out i x hx (by omega))
      clear ho1 hm1 hg1 hkeep
      go_wp2
      go_roundw
      case rel =>
        refine ⟨j + 1, by omega, by go_num, ?_, HO1.out, HW1.out, HM1.out, HR1.out⟩
        have e := HS.out
        exact congrArg (Value.int .i64) (by omega)
      case measure => simp [intOf]; omega
    · have hji : ¬ (j : Int) < (zss.length : Int) := by omega
      obtain rfl : j = zss.length := by omega
      clear ho hw hm hr
      go_wp2
      refine HQ.out _ HO.out ⟨vs, by rw [length_marksI]; exact h1, by rw [length_marksI]; exact HW.out, H3.out, fun i x zs hx hz => ?_, H5.out⟩
      have hi := (List.getElem?_eq_some_iff.1 hx).1
      rw [marksI_get (by omega)] at hz
      cases hz
      have := HM.out i x hx (by omega)
      have ez : zss.getD i [] = zss[i] := by simp [List.getD, show i < zss.length by omega]
      rw [ez] at this
      exact this

set_option maxHeartbeats 1000000 in
theorem heldIntSS_any {Q : Ending → World → Prop} (v : Value) (k : Nat) (zss : List (List Int)) (lo hi : Nat) (w : World) (h : RowsI lo hi w v (marksI k zss)) (hk : k ≤ 1048576) (hl : zss.length ≤ 1000) (hls : ∀ zs ∈ zss, zs.length ≤ 1000)
    (hQ : ∀ w', Below w.heap.size w w' → Q (.returned (.int .i64 ((k + preI zss zss.length : Nat) : Int))) w') :
    Calls Tryd.prog 20 #[v, .int .i64 (k : Int)] w Q := by
  have HQ : Hid _ := hQ
  have HL : Hid _ := hls
  clear hQ hls
  obtain ⟨ao, g, cap, rfl, hc⟩ := h.read
  rw [length_marksI]
  have HC : Hid _ := hc
  clear hc h
  go_enter Tryd.func20, Tryd.ntmps20
  go_wp2
  go_loopw [1, 5] (fun kk i wr => ∃ j : Nat, j ≤ zss.length ∧ i = .int .i64 j ∧ kk = .int .i64 ((k + preI zss j : Nat) : Int) ∧ Below w.heap.size w wr) (fun _ i _ => zss.length - (intOf i).toNat)
  case atStart => exact ⟨0, Nat.zero_le _, rfl, by simp [preI], Below.refl _ _⟩
  case round =>
    obtain ⟨j, hj, rfl, rfl, hb⟩ := hrel
    have hpl := preI_le HL.out j
    have HB : Hid (Below w.heap.size w wr) := hb
    by_cases hjl : j < zss.length
    · obtain ⟨x, A, c, rfl, c1, rfl, ho1⟩ := HC.out j _ (marksI_get hjl)
      have c2 := cell_keep hb c1
      have HO1 : Hid _ := ho1.keep hb
      have hji : (j : Int) < (zss.length : Int) := by omega
      have hlj := HL.out _ (List.getElem_mem hjl)
      have HS : Hid _ := preI_succ hjl
      clear c1 ho1 hb
      go_wp2_with fail
      refine heldInts_any _ (k + preI zss j) zss[j].length lo hi _ HO1.out (by omega) (by omega) fun w1 hb1 => ?_
      have hbw : Below w.heap.size w w1 := HB.out.trans (hb1.mono HB.out.size)
      have hnn : ¬ ((k + preI zss j + zss[j].length : Nat) : Int) < 0 := by omega
      clear hb1 HO1
      go_wp2
      go_roundw
      case rel =>
        refine ⟨j + 1, by omega, by go_num, ?_, hbw⟩
        have e := HS.out
        exact congrArg (Value.int .i64) (by omega)
      case measure => simp [intOf]; omega
    · have hji : ¬ (j : Int) < (zss.length : Int) := by omega
      obtain rfl : j = zss.length := by omega
      clear hb
      go_wp2
      exact HQ.out _ HB.out
end Go.Proofs.YtljlgffkhocgkaaDoor
