/- markProg writes into the program that it is handed, and nowhere else. -/
import Derived.Test.YtljlgffkhocgkaaDoorTo
import Derived.Test.YtljlgffkhocgkaaDoorKit
namespace Go.Proofs.YtljlgffkhocgkaaDoor
open Go.RowKit

/-- A slice of n cells of its own, in a block from lo on, below hi, another one than b. -/
def RowMay (lo hi b : Nat) (w : World) (v : Value) (n : Nat) : Prop :=
  ∃ ao nb cap, v = .slice ao n cap ∧ (0 < n → ao = some ⟨nb, 0, none⟩ ∧ lo ≤ nb ∧ nb < hi ∧ nb ≠ b ∧ ∃ N f, n ≤ N ∧ w.rowIs nb 3 N f)

/-- Steps of a program's own, and the lists behind them. -/
def StepsMay (lo hi : Nat) (w : World) (v : Value) (ns : List Nat) : Prop :=
  ∃ ao b cap, v = .slice ao ns.length cap ∧ (0 < ns.length → ao = some ⟨b, 0, none⟩ ∧ lo ≤ b ∧ b < hi ∧ ∃ N f, ns.length * 8 ≤ N ∧ w.rowIs b 62 N f ∧ ∀ i n, ns[i]? = some n → RowMay lo hi b w (f (i * 8 + 7)) n)

theorem IntsOwn.may {lo hi b : Nat} {w : World} {v : Value} {zs : List Int} (h : IntsOwn lo w v zs) (hb : b < lo) (hh : w.heap.size ≤ hi) : RowMay lo hi b w v zs.length := by
  obtain ⟨nb, hv, hlo, hr⟩ := h
  exact ⟨_, nb, _, hv, fun _ => ⟨rfl, hlo, Nat.lt_of_lt_of_le hr.lt hh, by omega, _, _, Nat.le_refl _, hr⟩⟩

theorem RowMay.mono {lo lo' hi b : Nat} {w : World} {v : Value} {n : Nat} (h : RowMay lo hi b w v n) (hl : lo' ≤ lo) : RowMay lo' hi b w v n := by
  obtain ⟨ao, nb, cap, h1, h2⟩ := h
  exact ⟨ao, nb, cap, h1, fun hp => by obtain ⟨a1, a2, a3⟩ := h2 hp; exact ⟨a1, by omega, a3⟩⟩

theorem StepsOwn.may {lo : Nat} {w : World} {v : Value} {ss : List St} (h : StepsOwn lo w v ss) : StepsMay lo w.heap.size w v (ss.map (fun s => s.next.length)) := by
  obtain ⟨b, f, hv, hlo, hr, hall⟩ := h
  refine ⟨_, b, _, by simpa using hv, fun _ => ⟨rfl, hlo, hr.lt, _, f, by simp, hr, fun i n hn => ?_⟩⟩
  simp only [List.getElem?_map, Option.map_eq_some_iff] at hn
  obtain ⟨s, hs, rfl⟩ := hn
  obtain ⟨nv, hf, hi⟩ := hall i s hs
  rw [hf.2.2.2.2.2.2.2]
  exact (hi.may (b := b) (by omega) (Nat.le_refl _)).mono (by omega)

theorem RowMay.set {lo hi b : Nat} {w : World} {v : Value} {n : Nat} (h : RowMay lo hi b w v n) {a : Addr} (ha : a.spot = none) (u : Value) : RowMay lo hi b (w.setCell a u) v n := by
  obtain ⟨ao, nb, cap, h1, h2⟩ := h
  refine ⟨ao, nb, cap, h1, fun hp => ?_⟩
  obtain ⟨a1, a2, a3, a4, N, f, a5, a6⟩ := h2 hp
  refine ⟨a1, a2, a3, a4, N, ?_⟩
  by_cases e : nb = a.block
  · obtain ⟨ab, ao2, as2⟩ := a
    simp only at e ha
    subst e ha
    exact ⟨_, a5, a6.set ao2 u⟩
  · exact ⟨f, a5, a6.setOther e u⟩

theorem RowMay.block {lo hi b : Nat} {w w' : World} {v : Value} {n : Nat} (h : RowMay lo hi b w v n) (hb : Below w.heap.size w w') : RowMay lo hi b w' v n := by
  obtain ⟨ao, nb, cap, h1, h2⟩ := h
  refine ⟨ao, nb, cap, h1, fun hp => ?_⟩
  obtain ⟨a1, a2, a3, a4, N, f, a5, a6⟩ := h2 hp
  exact ⟨a1, a2, a3, a4, N, f, a5, a6.of_block (hb.block _ a6.lt)⟩

/-- One row was written: each other one is as it was. -/
theorem RowMay.turned {lo hi b : Nat} {w w' : World} {v : Value} {n : Nat} (h : RowMay lo hi b w v n) {nb N : Nat} {f' : Nat → Value} (hg : w.grownBy w' (some nb)) (hr : w'.rowIs nb 3 N f') (hN : ∀ N' g, w.rowIs nb 3 N' g → N' = N) : RowMay lo hi b w' v n := by
  obtain ⟨ao, nb2, cap, h1, h2⟩ := h
  refine ⟨ao, nb2, cap, h1, fun hp => ?_⟩
  obtain ⟨a1, a2, a3, a4, N2, f2, a5, a6⟩ := h2 hp
  by_cases e : nb2 = nb
  · subst e
    have := hN _ _ a6
    subst this
    exact ⟨a1, a2, a3, a4, N2, f', a5, hr⟩
  · exact ⟨a1, a2, a3, a4, N2, f2, a5, a6.of_block (hg.block _ a6.lt (by simpa using e))⟩

theorem StepsMay.keep {lo hi : Nat} {w w' : World} {v : Value} {ns : List Nat} (h : StepsMay lo hi w v ns) (hb : Below w.heap.size w w') : StepsMay lo hi w' v ns := by
  obtain ⟨ao, b, cap, h1, h2⟩ := h
  refine ⟨ao, b, cap, h1, fun hp => ?_⟩
  obtain ⟨a1, a2, a3, N, f, a4, a5, a6⟩ := h2 hp
  exact ⟨a1, a2, a3, N, f, a4, a5.of_block (hb.block _ a5.lt), fun i n hn => (a6 i n hn).block hb⟩

theorem rowIs_size {w : World} {b n n' : Nat} {t : TypeId} {f g : Nat → Value} (h : w.rowIs b t n f) (h' : w.rowIs b t n' g) : n' = n := by
  obtain ⟨c, h1, h2, _⟩ := h
  obtain ⟨c', h1', h2', _⟩ := h'
  rw [h1] at h1'
  cases h1'
  omega

set_option maxHeartbeats 1000000 in
theorem markIntS_may {Q : Ending → World → Prop} (v : Value) (n k lo hi b : Nat) (w : World) (h : RowMay lo hi b w v n) (hk : k ≤ 2199023255552) (hn : n ≤ 1048576)
    (hQ : ∀ w', (w' = w ∨ ∃ nb N f f', lo ≤ nb ∧ nb < hi ∧ nb ≠ b ∧ w.rowIs nb 3 N f ∧ w'.rowIs nb 3 N f' ∧ w.grownBy w' (some nb)) → Q (.returned (.int .i64 ((k + n : Nat) : Int))) w') :
    Calls Tryd.prog 44 #[v, .int .i64 (k : Int)] w Q := by
  have HQ : Hid _ := hQ
  clear hQ
  obtain ⟨ao, nb, cap, rfl, ha⟩ := h
  by_cases hn0 : n = 0
  · subst hn0
    go_enter Tryd.func44, Tryd.ntmps44
    go_wp2
    go_loop [1, 5] (fun kk i => i = .int .i64 0 ∧ kk = .int .i64 (k : Int)) (fun _ _ => 0)
    case atStart => exact ⟨rfl, rfl⟩
    case round =>
      obtain ⟨rfl, rfl⟩ := hrel
      go_wp2
      exact HQ.out _ (Or.inl rfl)
  · obtain ⟨rfl, h1, h2, h3, N, f, h4, h5⟩ := ha (by omega)
    have HR : Hid (w.rowIs nb 3 N f) := h5
    clear ha h5
    go_enter Tryd.func44, Tryd.ntmps44
    go_wp2
    go_loopw [1, 5] (fun kk i wr => ∃ (j : Nat) (f' : Nat → Value), j ≤ n ∧ i = .int .i64 j ∧ kk = .int .i64 ((k + j : Nat) : Int) ∧ wr.rowIs nb 3 N f' ∧ w.grownBy wr (some nb)) (fun _ i _ => n - (intOf i).toNat)
    case atStart => exact ⟨0, f, Nat.zero_le _, rfl, rfl, HR.out, World.grownBy.refl _ _⟩
    case round =>
      obtain ⟨j, f', hj, rfl, rfl, hr, hg⟩ := hrel
      have HR2 : Hid (wr.rowIs nb 3 N f') := hr
      have HG2 : Hid (w.grownBy wr (some nb)) := hg
      by_cases hjn : j < n
      · have hji : (j : Int) < (n : Int) := by omega
        have c1 := hr.cell (i := j) (by omega)
        have f1 := hr.frozen j
        clear hr hg
        go_wp2
        go_roundw
        case rel =>
          refine ⟨j + 1, _, by omega, by go_num, by go_num, HR2.out.set j _, ?_⟩
          have hg := HG2.out
          exact ⟨hg.os, hg.tape, hg.output, by simpa [World.setCell] using hg.size, fun m hm hne => (Below.heap_setCell wr _ _ m (by intro e; exact hne (by simp [e]))).trans (hg.block m hm hne)⟩
        case measure => simp [intOf]; omega
      · have hji : ¬ (j : Int) < (n : Int) := by omega
        obtain rfl : j = n := by omega
        clear hr hg
        go_wp2
        exact HQ.out _ (Or.inr ⟨nb, N, f, f', h1, h2, h3, HR.out, HR2.out, HG2.out⟩)

set_option maxHeartbeats 2000000 in
theorem markStepS_may {Q : Ending → World → Prop} (v : Value) (ns : List Nat) (k lo hi : Nat) (w : World) (h : StepsMay lo hi w v ns) (hk : k ≤ 1048576) (hl : ns.length ≤ 1048576) (hns : ∀ n ∈ ns, n ≤ 1048576)
    (hQ : ∀ (k' : Nat) w', k' ≤ 2199023255552 → Out lo hi w w' → Q (.returned (.int .i64 (k' : Int))) w') :
    Calls Tryd.prog 37 #[v, .int .i64 (k : Int)] w Q := by
  have HQ : Hid _ := hQ
  have HNS : Hid _ := hns
  clear hQ hns
  obtain ⟨ao, b, cap, rfl, ha⟩ := h
  by_cases hn0 : ns.length = 0
  · rw [hn0]
    go_enter Tryd.func37, Tryd.ntmps37
    go_wp2
    go_loop [1, 5] (fun kk i => i = .int .i64 0 ∧ kk = .int .i64 (k : Int)) (fun _ _ => 0)
    case atStart => exact ⟨rfl, rfl⟩
    case round =>
      obtain ⟨rfl, rfl⟩ := hrel
      go_wp2
      exact HQ.out _ _ (by omega) (Out.refl _ _ _)
  · obtain ⟨rfl, h1, h2, N, f, h3, h4, h5⟩ := ha (by omega)
    have HR : Hid (w.rowIs b 62 N f) := h4
    have HM : Hid (∀ i n, ns[i]? = some n → RowMay lo hi b w (f (i * 8 + 7)) n) := h5
    clear ha h4 h5
    go_enter Tryd.func37, Tryd.ntmps37
    go_wp2
    go_loopw [1, 5] (fun kk i wr => ∃ (j x : Nat) (f' : Nat → Value), j ≤ ns.length ∧ i = .int .i64 j ∧ kk = .int .i64 (x : Int) ∧ x ≤ 1048576 + j * 1048583 ∧ wr.rowIs b 62 N f' ∧ Out lo hi w wr ∧ (∀ i, f' (i * 8 + 7) = f (i * 8 + 7)) ∧ ∀ i n, ns[i]? = some n → RowMay lo hi b wr (f (i * 8 + 7)) n) (fun _ i _ => ns.length - (intOf i).toNat)
    case atStart => exact ⟨0, k, f, Nat.zero_le _, rfl, rfl, by omega, HR.out, Out.refl _ _ _, fun _ => rfl, HM.out⟩
    case round =>
      obtain ⟨j, x, f', hj, rfl, rfl, hx, hr, ho, hf, hm⟩ := hrel
      have HR2 : Hid (wr.rowIs b 62 N f') := hr
      have HO : Hid (Out lo hi w wr) := ho
      have HF : Hid _ := hf
      have HM2 : Hid _ := hm
      by_cases hjn : j < ns.length
      · have hji : (j : Int) < (ns.length : Int) := by omega
        have e0 := hr.cell (i := j * 8) (by omega)
        have e1 := hr.cell (i := j * 8 + 1) (by omega)
        have e2 := hr.cell (i := j * 8 + 2) (by omega)
        have e3 := hr.cell (i := j * 8 + 3) (by omega)
        have e4 := hr.cell (i := j * 8 + 4) (by omega)
        have e5 := hr.cell (i := j * 8 + 5) (by omega)
        have e6 := hr.cell (i := j * 8 + 6) (by omega)
        have e7 := hr.cell (i := j * 8 + 7) (by omega)
        have hfz := hr.frozen
        rw [hf j] at e7
        have hmj := hm j ns[j] (List.getElem?_eq_getElem hjn)
        obtain ⟨nao, nnb, ncap, hnv, _⟩ := id hmj
        rw [hnv] at e7
        have HNV : Hid (f (j * 8 + 7) = .slice nao ns[j] ncap) := hnv
        have hnj := HNS.out _ (List.getElem_mem hjn)
        clear hr ho hf hm hmj hnv
        go_wp2_with fail
        have hm7 : ∀ (v0 v1 v2 v3 v4 v5 v6 : Value) i n, ns[i]? = some n → RowMay lo hi b (((((((wr.setCell ⟨b, j * 8, none⟩ v0).setCell ⟨b, j * 8 + 1, none⟩ v1).setCell ⟨b, j * 8 + 2, none⟩ v2).setCell ⟨b, j * 8 + 3, none⟩ v3).setCell ⟨b, j * 8 + 3 + 1, none⟩ v4).setCell ⟨b, j * 8 + 5, none⟩ v5).setCell ⟨b, j * 8 + 5 + 1, none⟩ v6) (f (i * 8 + 7)) n := by
          intro v0 v1 v2 v3 v4 v5 v6 i n hn
          exact RowMay.set (RowMay.set (RowMay.set (RowMay.set (RowMay.set (RowMay.set (RowMay.set (HM2.out i n hn) rfl _) rfl _) rfl _) rfl _) rfl _) rfl _) rfl _
        have hr7 := (((((((HR2.out.set (j * 8) (.int .i64 (x : Int))).set (j * 8 + 1) (.int .i64 ((x : Int) + 1))).set (j * 8 + 2) (.int .i64 ((x : Int) + 1 + 1))).set (j * 8 + 3) (.int .i64 ((x : Int) + 1 + 1 + 1))).set (j * 8 + 3 + 1) (.int .i64 ((x : Int) + 1 + 1 + 1 + 1))).set (j * 8 + 5) (.int .i64 ((x : Int) + 1 + 1 + 1 + 1 + 1))).set (j * 8 + 5 + 1) (.int .i64 ((x : Int) + 1 + 1 + 1 + 1 + 1 + 1)))
        have ho7 := (((((((HO.out.setCell (p := ⟨b, j * 8, none⟩) h1 h2 (.int .i64 (x : Int))).setCell (p := ⟨b, j * 8 + 1, none⟩) h1 h2 (.int .i64 ((x : Int) + 1))).setCell (p := ⟨b, j * 8 + 2, none⟩) h1 h2 (.int .i64 ((x : Int) + 1 + 1))).setCell (p := ⟨b, j * 8 + 3, none⟩) h1 h2 (.int .i64 ((x : Int) + 1 + 1 + 1))).setCell (p := ⟨b, j * 8 + 3 + 1, none⟩) h1 h2 (.int .i64 ((x : Int) + 1 + 1 + 1 + 1))).setCell (p := ⟨b, j * 8 + 5, none⟩) h1 h2 (.int .i64 ((x : Int) + 1 + 1 + 1 + 1 + 1))).setCell (p := ⟨b, j * 8 + 5 + 1, none⟩) h1 h2 (.int .i64 ((x : Int) + 1 + 1 + 1 + 1 + 1 + 1)))
        have hm7' := hm7 (.int .i64 (x : Int)) (.int .i64 ((x : Int) + 1)) (.int .i64 ((x : Int) + 1 + 1)) (.int .i64 ((x : Int) + 1 + 1 + 1)) (.int .i64 ((x : Int) + 1 + 1 + 1 + 1)) (.int .i64 ((x : Int) + 1 + 1 + 1 + 1 + 1)) (.int .i64 ((x : Int) + 1 + 1 + 1 + 1 + 1 + 1))
        have hf7 : ∀ (v0 v1 v2 v3 v4 v5 v6 : Value) (i : Nat), (if i * 8 + 7 = j * 8 + 5 + 1 then v6 else if i * 8 + 7 = j * 8 + 5 then v5 else if i * 8 + 7 = j * 8 + 3 + 1 then v4 else if i * 8 + 7 = j * 8 + 3 then v3 else if i * 8 + 7 = j * 8 + 2 then v2 else if i * 8 + 7 = j * 8 + 1 then v1 else if i * 8 + 7 = j * 8 then v0 else f' (i * 8 + 7)) = f (i * 8 + 7) := by
          intro v0 v1 v2 v3 v4 v5 v6 i
          rw [if_neg (by omega), if_neg (by omega), if_neg (by omega), if_neg (by omega), if_neg (by omega), if_neg (by omega), if_neg (by omega)]
          exact HF.out i
        have HR7 : Hid _ := hr7
        have HO7 : Hid _ := ho7
        have HM7 : Hid _ := hm7'
        have HF7 : Hid _ := hf7
        clear hm7 hr7 ho7 hm7' hf7 e0 e1 e2 e3 e4 e5 e6 e7 hfz
        refine markIntS_may _ ns[j] (x + 7) lo hi b _ (by have := HM7.out j ns[j] (List.getElem?_eq_getElem hjn); rw [HNV.out] at this; exact this) (by omega) hnj ?_
        intro w8 hw8
        have HE : Hid (∃ f8, w8.rowIs b 62 N f8 ∧ Out lo hi w w8 ∧ (∀ i, f8 (i * 8 + 7) = f (i * 8 + 7)) ∧ ∀ i n, ns[i]? = some n → RowMay lo hi b w8 (f (i * 8 + 7)) n) := by
          rcases hw8 with rfl | ⟨nb, N8, g, g', a1, a2, a3, a4, a5, a6⟩
          · exact ⟨_, HR7.out, HO7.out, fun i => HF7.out _ _ _ _ _ _ _ i, HM7.out⟩
          · refine ⟨_, World.rowIs.of_block HR7.out (a6.block b (World.rowIs.lt HR7.out) (by simpa using fun e => a3 e.symm)), HO7.out.trans (Out.grown a6 fun k hk => by cases hk; exact ⟨a1, a2⟩), fun i => HF7.out _ _ _ _ _ _ _ i, fun i n hn => ?_⟩
            exact (HM7.out i n hn).turned a6 a5 fun N' g2 h => rowIs_size a4 h
        clear hw8 HR7 HO7 HM7 HF7
        go_wp2
        go_roundw
        case rel =>
          obtain ⟨f8, b1, b2, b3, b4⟩ := HE.out
          exact ⟨j + 1, x + 7 + ns[j], f8, by omega, by go_num, rfl, by omega, b1, b2, b3, b4⟩
        case measure => simp [intOf]; omega
      · have hji : ¬ (j : Int) < (ns.length : Int) := by omega
        clear hr ho hf hm
        go_wp2
        exact HQ.out _ _ (by omega) HO.out

set_option maxHeartbeats 1000000 in
theorem markProg_may {Q : Ending → World → Prop} (v : Value) (ns : List Nat) (lo hi : Nat) (w : World) (h : StepsMay lo hi w v ns) (hl : ns.length ≤ 1048576) (hns : ∀ n ∈ ns, n ≤ 1048576)
    (hQ : ∀ (k' : Nat) w', k' ≤ 2199023255552 → Out lo hi w w' → Q (.returned (.int .i64 (k' : Int))) w') :
    Calls Tryd.prog 13 #[.agg #[v], .int .i64 1] w Q := by
  have HQ : Hid _ := hQ
  clear hQ
  obtain ⟨ao, b, cap, rfl, ha⟩ := id h
  have hb0 : ∀ O, Below w.heap.size w (w.alloc O) := fun O => (Below.refl _ _).alloc (Nat.le_refl _) O
  have hm : ∀ O, StepsMay lo hi (w.alloc O) (.slice ao ns.length cap) ns := by
    intro O
    refine ⟨ao, b, cap, rfl, fun hp => ?_⟩
    obtain ⟨h1, h2, h3, N, f, h4, h5, h6⟩ := ha hp
    exact ⟨h1, h2, h3, N, f, h4, h5.alloc O, fun i n hn => (h6 i n hn).block (hb0 O)⟩
  have HM : Hid _ := hm
  have HNS : Hid _ := hns
  clear ha hm h hns
  go_enter Tryd.func13, Tryd.ntmps13
  go_wp2_with fail
  refine markStepS_may _ ns 1 lo hi _ (HM.out _) (by omega) hl HNS.out fun k' w1 hk ho => ?_
  have HO : Hid (Out lo hi w w1) := (Out.of_below (hb0 _)).trans ho
  clear ho
  go_wp2
  exact HQ.out k' _ hk HO.out
end Go.Proofs.YtljlgffkhocgkaaDoor
