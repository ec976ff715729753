/- Answers that are programs: marked, and found as they were marked. -/
import Derived.Test.YtancacjnbbdbfaaAnsI
import Derived.Test.YtancacjnbbdbfaaSpecTidyM
namespace Go.Proofs.Ytancacjnbbdbfaa
open Go.RowKit

/-- A program of the call's own, in blocks from lo on, below hi. -/
def PB (lo hi : Nat) (w : World) (v : Value) (ss : List St) : Prop := ∃ xs nvs, PO lo w v ss xs nvs ∧ (∀ k, v.ownBlock = some k → k < hi) ∧ ∀ i k, i < ss.length → (nvs i).ownBlock = some k → k < hi

theorem PB.of {lo : Nat} {w : World} {v : Value} {ss : List St} {xs : List Value} {nvs : Nat → Value} (h : PO lo w v ss xs nvs) : PB lo w.heap.size w v ss :=
  ⟨xs, nvs, h, fun k hk => (h.row.lt k hk).2, fun _ _ hi hk => (((h.pf step00).own _ hi).lt _ hk).2⟩

theorem PB.keep {lo hi : Nat} {w w' : World} {v : Value} {ss : List St} (h : PB lo hi w v ss) (hb : Below w.heap.size w w') : PB lo hi w' v ss := by
  obtain ⟨xs, nvs, h1, h2, h3⟩ := h
  exact ⟨xs, nvs, h1.keep hb, h2, h3⟩

theorem PB.lower {lo lo' hi : Nat} {w : World} {v : Value} {ss : List St} (h : PB lo hi w v ss) (hl : lo' ≤ lo) : PB lo' hi w v ss := by
  obtain ⟨xs, nvs, h1, h2, h3⟩ := h
  exact ⟨xs, nvs, h1.lower hl, h2, h3⟩

theorem PB.out {lo hi lo' hi' : Nat} {w w' : World} {v : Value} {ss : List St} (h : PB lo hi w v ss) (ho : Out lo' hi' w w') (hr : hi ≤ lo' ∨ hi' ≤ lo) : PB lo hi w' v ss := by
  obtain ⟨xs, nvs, h1, h2, h3⟩ := h
  refine ⟨xs, nvs, ⟨ownsRow_out h1.row ho fun k hk => ?_, h1.cells, fun i s hs => ownsRow_out (h1.own i s hs) ho fun k hk => ?_, h1.apart⟩, h2, h3⟩
  · have a := h2 k hk
    have b := (h1.row.lt k hk).1
    omega
  · have hi := (List.getElem?_eq_some_iff.1 hs).1
    have a := h3 i k hi hk
    have b := ((h1.own i s hs).lt k hk).1
    omega

theorem PB.at {lo hi : Nat} {w : World} {v : Value} {ss : List St} (h : PB lo hi w v ss) : StepsAt w v ss := by
  obtain ⟨xs, nvs, h1, _, _⟩ := h
  exact h1.at

theorem PB.slice {lo hi : Nat} {w : World} {v : Value} {ss : List St} (h : PB lo hi w v ss) : ∃ A c, v = .slice A ss.length c := by
  obtain ⟨xs, nvs, h1, _, _⟩ := h
  obtain ⟨A, c, e, _⟩ := h1.slice
  exact ⟨A, c, e⟩

/-- How many marks lie ahead of a step. -/
def preS (ss : List St) (j : Nat) : Nat := ((ss.take j).map (fun s => 7 + s.next.length)).sum

theorem preS_zero (ss : List St) : preS ss 0 = 0 := by simp [preS]

theorem preS_succ {ss : List St} {j : Nat} (hj : j < ss.length) : preS ss (j + 1) = preS ss j + 7 + ss[j].next.length := by
  unfold preS
  rw [List.take_succ_eq_append_getElem hj, List.map_append, List.sum_append]
  simp
  omega

theorem preS_le {ss : List St} (h : ∀ s ∈ ss, s.next.length ≤ 1000) (j : Nat) : preS ss j ≤ 1007 * j := by
  induction j with
  | zero => simp [preS]
  | succ j ih =>
    by_cases hj : j < ss.length
    · rw [preS_succ hj]
      have := h _ (List.getElem_mem hj)
      omega
    · have e : preS ss (j + 1) = preS ss j := by
        unfold preS
        rw [List.take_of_length_le (by omega), List.take_of_length_le (by omega)]
      omega

/-- A step's marks, from x on. -/
def markSt (x : Nat) (n : Nat) : St := ⟨(x : Int), (x : Int) + 1, (x : Int) + 1 + 1, (x : Int) + 1 + 1 + 1, (x : Int) + 1 + 1 + 1 + 1, (x : Int) + 1 + 1 + 1 + 1 + 1, (x : Int) + 1 + 1 + 1 + 1 + 1 + 1, markN (x + 7) n⟩

def markF (k : Nat) (ss : List St) (i : Nat) : St := markSt (k + preS ss i) (ss.getD i step00).next.length

def markSs (k : Nat) (ss : List St) : List St := (List.range ss.length).map (markF k ss)

/-- Seven cells marked. -/
def W7 (w : World) (g j : Nat) (x : Int) : World := ((((((w.setCell ⟨g, j * 8, none⟩ (.int .i64 x)).setCell ⟨g, j * 8 + 1, none⟩ (.int .i64 (x + 1))).setCell ⟨g, j * 8 + 2, none⟩ (.int .i64 (x + 1 + 1))).setCell ⟨g, j * 8 + 3, none⟩ (.int .i64 (x + 1 + 1 + 1))).setCell ⟨g, j * 8 + 3 + 1, none⟩ (.int .i64 (x + 1 + 1 + 1 + 1))).setCell ⟨g, j * 8 + 5, none⟩ (.int .i64 (x + 1 + 1 + 1 + 1 + 1))).setCell ⟨g, j * 8 + 5 + 1, none⟩ (.int .i64 (x + 1 + 1 + 1 + 1 + 1 + 1))

theorem W7_out {lo hi : Nat} {a w : World} {g j : Nat} {x : Int} (h : Out lo hi a w) (h1 : lo ≤ g) (h2 : g < hi) : Out lo hi a (W7 w g j x) :=
  ((((((h.setCell (p := ⟨g, j * 8, none⟩) h1 h2 _).setCell (p := ⟨g, j * 8 + 1, none⟩) h1 h2 _).setCell (p := ⟨g, j * 8 + 2, none⟩) h1 h2 _).setCell (p := ⟨g, j * 8 + 3, none⟩) h1 h2 _).setCell (p := ⟨g, j * 8 + 3 + 1, none⟩) h1 h2 _).setCell (p := ⟨g, j * 8 + 5, none⟩) h1 h2 _).setCell (p := ⟨g, j * 8 + 5 + 1, none⟩) h1 h2 _

theorem PF.put7 {lo N g c j : Nat} {w : World} {F : Nat → St} {xs : List Value} {nvs : Nat → Value} (h : PF lo w (.slice (some ⟨g, 0, none⟩) N c) N F xs nvs) (hj : j < N) (x : Int) :
    ∃ ys, PF lo (W7 w g j x) (.slice (some ⟨g, 0, none⟩) N c) N (fun i => if i = j then ⟨x, x + 1, x + 1 + 1, x + 1 + 1 + 1, x + 1 + 1 + 1 + 1, x + 1 + 1 + 1 + 1 + 1, x + 1 + 1 + 1 + 1 + 1 + 1, (F j).next⟩ else F i) ys nvs := by
  have kept : ∀ {w : World} {xs : List Value} {b q : Nat} {y u : Value} {n : Nat} {ys : List Value}, w.ownsRow lo 43 8 (.slice (some ⟨g, 0, none⟩) N c) N xs → w.ownsRow b 3 1 y n ys → (w.setCell ⟨g, q, none⟩ u).ownsRow b 3 1 y n ys := by
    intro w xs b q y u n ys hr hy
    exact own_store hy hr (by decide)
  have hlen : xs.length = N * 8 := h.row.1
  have r0 := h.row
  have r1 := (r0.stored (j * 8) (.int .i64 x)).1
  have r2 := (r1.stored (j * 8 + 1) (.int .i64 (x + 1))).1
  have r3 := (r2.stored (j * 8 + 2) (.int .i64 (x + 1 + 1))).1
  have r4 := (r3.stored (j * 8 + 3) (.int .i64 (x + 1 + 1 + 1))).1
  have r5 := (r4.stored (j * 8 + 3 + 1) (.int .i64 (x + 1 + 1 + 1 + 1))).1
  have r6 := (r5.stored (j * 8 + 5) (.int .i64 (x + 1 + 1 + 1 + 1 + 1))).1
  have r7 := (r6.stored (j * 8 + 5 + 1) (.int .i64 (x + 1 + 1 + 1 + 1 + 1 + 1))).1
  have all : ∀ {b : Nat} {y : Value} {n : Nat} {ys : List Value}, w.ownsRow b 3 1 y n ys → (W7 w g j x).ownsRow b 3 1 y n ys := fun hy => kept r6 (kept r5 (kept r4 (kept r3 (kept r2 (kept r1 (kept r0 hy))))))
  refine ⟨_, r7, fun i hi => ?_, fun i hi => ?_⟩
  · by_cases e : i = j
    · subst e
      rw [if_pos rfl]
      have h7 := (h.cells i hi).cells.2.2.2.2.2.2.2
      intro q u hu
      have hq : q < 8 := by have := (List.getElem?_eq_some_iff.1 hu).1; simpa [cells8] using this
      rcases (by omega : q = 0 ∨ q = 1 ∨ q = 2 ∨ q = 3 ∨ q = 4 ∨ q = 5 ∨ q = 6 ∨ q = 7) with rfl | rfl | rfl | rfl | rfl | rfl | rfl | rfl
      case inr.inr.inr.inr.inr.inr.inr =>
        simp [cells8] at hu
        subst hu
        rw [List.getElem?_set_ne (by omega), List.getElem?_set_ne (by omega), List.getElem?_set_ne (by omega), List.getElem?_set_ne (by omega), List.getElem?_set_ne (by omega), List.getElem?_set_ne (by omega), List.getElem?_set_ne (by omega)]
        exact h7
      all_goals (simp [cells8] at hu; subst hu; simp only [List.getElem?_set, List.length_set, hlen, Nat.add_zero]; repeat (first | rw [if_pos trivial] | rw [if_neg (by omega)] | rw [if_pos (by omega)]))
    · rw [if_neg e]
      intro q u hu
      have hq : q < 8 := by have := (List.getElem?_eq_some_iff.1 hu).1; simpa [cells8] using this
      rw [List.getElem?_set_ne (by omega), List.getElem?_set_ne (by omega), List.getElem?_set_ne (by omega), List.getElem?_set_ne (by omega), List.getElem?_set_ne (by omega), List.getElem?_set_ne (by omega), List.getElem?_set_ne (by omega)]
      exact h.cells i hi q u hu
  · by_cases e : i = j
    · subst e
      rw [if_pos rfl]
      exact all (h.own i hi)
    · rw [if_neg e]
      exact all (h.own i hi)

/-- One list's numbers made others, as many. -/
theorem PF.relist {lo N j : Nat} {w w' : World} {v : Value} {F : Nat → St} {xs : List Value} {nvs : Nat → Value} {zs : List Int} (h : PF lo w v N F xs nvs) (ap : Apart nvs N) (hj : j < N) (hg : w.grownBy w' (nvs j).ownBlock) (hown : w'.ownsRow lo 3 1 (nvs j) zs.length (zs.map (Value.int .i64))) :
    PF lo w' v N (fun i => if i = j then { F j with next := zs } else F i) xs nvs := by
  refine ⟨own_grow h.row (h.own j hj) (by decide) hg, fun i hi => ?_, fun i hi => ?_⟩
  · by_cases e : i = j
    · subst e
      rw [if_pos rfl]
      exact h.cells i hi
    · rw [if_neg e]
      exact h.cells i hi
  · by_cases e : i = j
    · subst e
      rw [if_pos rfl]
      exact hown
    · rw [if_neg e]
      refine (h.own i hi).kept hg ?_
      cases hb : (nvs i).ownBlock with
      | none => exact Or.inl rfl
      | some q => exact Or.inr fun e2 => ap i j q hi hj e hb e2.symm

def markedF (k : Nat) (ss : List St) (j i : Nat) : St := if i < j then markF k ss i else ss.getD i step00

set_option maxRecDepth 100000 in
set_option maxHeartbeats 2000000 in
theorem markSteps_any {Q : Ending → World → Prop} (v : Value) (ss : List St) (k lo hi : Nat) (w : World) (h : PB lo hi w v ss) (hk : k ≤ 1048576) (hl : ss.length ≤ 1000) (hls : ∀ s ∈ ss, s.next.length ≤ 1000)
    (hQ : ∀ w', Out lo hi w w' → PB lo hi w' v (markSs k ss) → Q (.returned (.int .i64 ((k + preS ss ss.length : Nat) : Int))) w') :
    Calls Try.prog 35 #[v, .int .i64 (k : Int)] w Q := by
  have HQ : Hid _ := hQ
  have HL : Hid _ := hls
  clear hQ hls
  obtain ⟨xs, nvs, hP, hv, hn⟩ := h
  have HPF : Hid (PF lo w v ss.length (markedF k ss 0) xs nvs) := (hP.pf step00).congr fun i _ => by simp [markedF]
  have HAP : Hid (Apart nvs ss.length) := hP.apart
  have HN : Hid _ := hn
  obtain ⟨A, c, rfl, hA⟩ := hP.slice
  have HA : Hid (∀ i, i < ss.length → ∃ g, A = some ⟨g, 0, none⟩ ∧ lo ≤ g ∧ g < hi) := fun i hi => by
    obtain ⟨g, rfl, h1, _⟩ := hA i hi
    exact ⟨g, rfl, h1, hv g rfl⟩
  have HV : Hid _ := hv
  clear hP hA hn hv
  go_enter Try.func35, Try.ntmps35
  go_wp2
  go_loopw [1, 5] (fun kk i wr => ∃ (j : Nat) (xs : List Value), j ≤ ss.length ∧ i = .int .i64 j ∧ kk = .int .i64 ((k + preS ss j : Nat) : Int) ∧ Out lo hi w wr ∧ PF lo wr (.slice A ss.length c) ss.length (markedF k ss j) xs nvs) (fun _ i _ => ss.length - (intOf i).toNat)
  case atStart => exact ⟨0, xs, Nat.zero_le _, rfl, by rw [preS_zero]; rfl, Out.refl _ _ _, HPF.out⟩
  case round =>
    clear HPF
    obtain ⟨j, xs, hj, rfl, rfl, ho, hP⟩ := hrel
    have HO : Hid (Out lo hi w wr) := ho
    have HP : Hid (PF lo wr (.slice A ss.length c) ss.length (markedF k ss j) xs nvs) := hP
    have hple := preS_le HL.out j
    by_cases hjl : j < ss.length
    · obtain ⟨g, rfl, hg1, hg2⟩ := HA.out j hjl
      have hji : (j : Int) < (ss.length : Int) := by omega
      have HSU : Hid _ := preS_succ hjl
      have hlj := HL.out _ (List.getElem_mem hjl)
      obtain ⟨x, hx⟩ : ∃ x, k + preS ss j = x := ⟨_, rfl⟩
      have HX : Hid (k + preS ss j = x) := hx
      obtain ⟨A9, c9, hv9, hat9⟩ := hP.at
      obtain ⟨g9, hg9, _, _, hd9, hfz⟩ := hat9 j hjl
      cases hv9
      cases hg9
      obtain ⟨e0, e1, e2, e3, e4, e5, e6, e7⟩ := hd9
      obtain ⟨A0, n0, k0, hn0⟩ := own_is_slice (hP.own j hjl)
      have HN0 : Hid (nvs j = .slice A0 n0 k0) := hn0
      rw [hn0] at e7
      obtain ⟨ys, h7⟩ := hP.put7 hjl (x : Int)
      have H7 : Hid _ := h7
      have HO7 : Hid (Out lo hi w (W7 wr g j (x : Int))) := W7_out ho hg1 hg2
      have hxb : x ≤ 4194304 := by omega
      rw [hx]
      clear ho hP hat9 hn0 h7 hx hple
      go_wp2_with fail
      have HIN : Hid (IntsO lo hi (W7 wr g j (x : Int)) (.slice A0 n0 k0) ss[j].next) := by
        have h1 := H7.out.own j hjl
        rw [if_pos rfl, HN0.out] at h1
        have e : (markedF k ss j j).next = ss[j].next := by simp [markedF, List.getD, hjl]
        dsimp only at h1
        rw [e] at h1
        exact ⟨h1, fun q hq => HN.out j q hjl (by rw [HN0.out]; exact hq)⟩
      refine markInts_own _ ss[j].next (x + 7) lo hi _ HIN.out (by omega) (by omega) fun w8 ho8 hi8 hg8 => ?_
      have HO8 : Hid (Out lo hi w w8) := HO7.out.trans ho8
      have h8 : PF lo w8 (.slice (some ⟨g, 0, none⟩) ss.length c) ss.length _ ys nvs := H7.out.relist (zs := markN (x + 7) ss[j].next.length) HAP.out hjl (by rw [HN0.out]; exact hg8) (by rw [HN0.out]; exact hi8.1)
      have HP8 : Hid (PF lo w8 (.slice (some ⟨g, 0, none⟩) ss.length c) ss.length (markedF k ss (j + 1)) ys nvs) := h8.congr fun i hi => by
        unfold markedF
        by_cases e : i = j
        · subst e
          rw [if_pos (Nat.lt_succ_self _), if_pos rfl, if_pos rfl]
          unfold markF markSt
          rw [HX.out]
          simp [List.getD, hjl]
        · rw [if_neg e, if_neg e]
          by_cases e2 : i < j
          · rw [if_pos (by omega), if_pos e2]
          · rw [if_neg (by omega), if_neg e2]
      clear ho8 hi8 hg8 h8 H7 HO7 HIN e0 e1 e2 e3 e4 e5 e6 e7
      go_wp2
      go_roundw
      case rel => exact ⟨j + 1, ys, by omega, by go_num, by rw [HSU.out, ← HX.out]; congr 2; omega, HO8.out, HP8.out⟩
      case measure => simp [intOf]; omega
    · have hji : ¬ (j : Int) < (ss.length : Int) := by omega
      obtain rfl : j = ss.length := by omega
      clear ho hP
      go_wp2
      refine HQ.out _ HO.out ⟨xs, nvs, ?_, HV.out, by simpa [markSs] using HN.out⟩
      have h1 := HP.out.po HAP.out
      have e : (List.range ss.length).map (markedF k ss ss.length) = markSs k ss := by
        unfold markSs
        refine List.map_congr_left fun i hi => ?_
        have := List.mem_range.1 hi
        simp [markedF, this]
      rwa [e] at h1

set_option maxRecDepth 100000 in
set_option maxHeartbeats 2000000 in
theorem heldSteps_any {Q : Ending → World → Prop} (v : Value) (ss : List St) (k lo hi : Nat) (w : World) (h : PB lo hi w v (markSs k ss)) (hk : k ≤ 1048576) (hl : ss.length ≤ 1000) (hls : ∀ s ∈ ss, s.next.length ≤ 1000)
    (hQ : ∀ w', Below w.heap.size w w' → Q (.returned (.int .i64 ((k + preS ss ss.length : Nat) : Int))) w') :
    Calls Try.prog 36 #[v, .int .i64 (k : Int)] w Q := by
  have HQ : Hid _ := hQ
  have HL : Hid _ := hls
  clear hQ hls
  obtain ⟨xs, nvs, hP, hv, hn⟩ := h
  have hlen : (markSs k ss).length = ss.length := by simp [markSs]
  have HPF : Hid (PF lo w v ss.length (markF k ss) xs nvs) := by
    have h1 := hP.pf step00
    rw [hlen] at h1
    exact h1.congr fun i hi => by simp [markSs, List.getD, hi]
  rw [hlen] at hn
  have HN : Hid (∀ i k, i < ss.length → (nvs i).ownBlock = some k → k < hi) := hn
  obtain ⟨A, c, hvs, hA⟩ := hP.slice
  rw [hlen] at hvs hA
  subst hvs
  have HA : Hid (∀ i, i < ss.length → ∃ g, A = some ⟨g, 0, none⟩) := fun i hi => by
    obtain ⟨g, rfl, _, _⟩ := hA i hi
    exact ⟨g, rfl⟩
  clear hP hA hn hv hlen
  go_enter Try.func36, Try.ntmps36
  go_wp2
  go_loopw [1, 5] (fun kk i wr => ∃ j : Nat, j ≤ ss.length ∧ i = .int .i64 j ∧ kk = .int .i64 ((k + preS ss j : Nat) : Int) ∧ Below w.heap.size w wr) (fun _ i _ => ss.length - (intOf i).toNat)
  case atStart => exact ⟨0, Nat.zero_le _, rfl, by rw [preS_zero]; rfl, Below.refl _ _⟩
  case round =>
    obtain ⟨j, hj, rfl, rfl, hb⟩ := hrel
    have HB : Hid (Below w.heap.size w wr) := hb
    have hple := preS_le HL.out j
    by_cases hjl : j < ss.length
    · obtain ⟨g, rfl⟩ := HA.out j hjl
      have hji : (j : Int) < (ss.length : Int) := by omega
      have HSU : Hid _ := preS_succ hjl
      have hlj := HL.out _ (List.getElem_mem hjl)
      obtain ⟨x, hx⟩ : ∃ x, k + preS ss j = x := ⟨_, rfl⟩
      have HX : Hid (k + preS ss j = x) := hx
      have hP := HPF.out.keep hb
      obtain ⟨A9, c9, hv9, hat9⟩ := hP.at
      obtain ⟨g9, hg9, _, _, hd9, _⟩ := hat9 j hjl
      cases hv9
      cases hg9
      obtain ⟨A0, n0, k0, hn0⟩ := own_is_slice (hP.own j hjl)
      have hM : markF k ss j = markSt x ss[j].next.length := by
        unfold markF
        rw [hx]
        simp [List.getD, hjl]
      have HIN : Hid (IntsO lo hi wr (.slice A0 n0 k0) (markN (x + 7) ss[j].next.length)) := by
        have h1 := hP.own j hjl
        rw [hM, hn0] at h1
        exact ⟨h1, fun q hq => HN.out j q hjl (by rw [hn0]; exact hq)⟩
      rw [hM, hn0] at hd9
      unfold markSt at hd9
      obtain ⟨e0, e1, e2, e3, e4, e5, e6, e7⟩ := hd9
      have hxb : x ≤ 4194304 := by omega
      rw [hx]
      clear hP hat9 hn0 hx hple hM hb
      go_wp2_with fail
      refine heldInts_any _ (x + 7) ss[j].next.length lo hi _ HIN.out (by omega) (by omega) fun w8 hb8 => ?_
      have HB8 : Hid (Below w.heap.size w w8) := HB.out.trans (hb8.mono HB.out.size)
      have hnn : ¬ ((x + 7 + ss[j].next.length : Nat) : Int) < 0 := by omega
      clear hb8 e0 e1 e2 e3 e4 e5 e6 e7
      go_wp2
      go_roundw
      case rel => exact ⟨j + 1, by omega, by go_num, by rw [HSU.out, ← HX.out]; congr 2; omega, HB8.out⟩
      case measure => simp [intOf]; omega
    · have hji : ¬ (j : Int) < (ss.length : Int) := by omega
      obtain rfl : j = ss.length := by omega
      clear hb
      go_wp2
      exact HQ.out _ HB.out

theorem markProg_any {Q : Ending → World → Prop} (v : Value) (ss : List St) (lo hi : Nat) (w : World) (h : PB lo hi w v ss) (hl : ss.length ≤ 1000) (hls : ∀ s ∈ ss, s.next.length ≤ 1000)
    (hQ : ∀ w', Out lo hi w w' → PB lo hi w' v (markSs 1 ss) → Q (.returned (.int .i64 ((1 + preS ss ss.length : Nat) : Int))) w') :
    Calls Try.prog 14 #[.agg #[v], .int .i64 1] w Q := by
  have HQ : Hid _ := hQ
  clear hQ
  have HH : Hid (PB lo hi w v ss) := h
  have HL : Hid _ := hls
  obtain ⟨A, c, rfl⟩ := h.slice
  clear h hls
  go_enter Try.func14, Try.ntmps14
  go_wp2_with fail
  have hb0 : ∀ O, Below w.heap.size w (w.alloc O) := fun O => (Below.refl _ _).alloc (Nat.le_refl _) O
  refine markSteps_any _ ss 1 lo hi _ (HH.out.keep (hb0 _)) (by decide) hl HL.out fun w1 ho1 hP1 => ?_
  have HO1 : Hid (Out lo hi w w1) := (Out.of_below (hb0 _)).trans ho1
  have HP1 : Hid (PB lo hi w1 (.slice A ss.length c) (markSs 1 ss)) := hP1
  clear ho1 hP1 hb0
  go_wp2
  exact HQ.out _ HO1.out HP1.out

theorem heldProg_any {Q : Ending → World → Prop} (v : Value) (ss : List St) (lo hi : Nat) (w : World) (h : PB lo hi w v (markSs 1 ss)) (hl : ss.length ≤ 1000) (hls : ∀ s ∈ ss, s.next.length ≤ 1000)
    (hQ : ∀ w', Below w.heap.size w w' → Q (.returned (.int .i64 ((1 + preS ss ss.length : Nat) : Int))) w') :
    Calls Try.prog 15 #[.agg #[v], .int .i64 1] w Q := by
  have HQ : Hid _ := hQ
  clear hQ
  have HH : Hid (PB lo hi w v (markSs 1 ss)) := h
  have HL : Hid _ := hls
  obtain ⟨A, c, hv⟩ := h.slice
  have hlen : (markSs 1 ss).length = ss.length := by simp [markSs]
  rw [hlen] at hv
  subst hv
  clear h hls hlen
  have hple := preS_le HL.out ss.length
  go_enter Try.func15, Try.ntmps15
  go_wp2_with fail
  have hb0 : ∀ O, Below w.heap.size w (w.alloc O) := fun O => (Below.refl _ _).alloc (Nat.le_refl _) O
  refine heldSteps_any _ ss 1 lo hi _ (HH.out.keep (hb0 _)) (by decide) hl HL.out fun w1 hb1 => ?_
  have HB1 : Hid (Below w.heap.size w w1) := (hb0 _).trans (hb1.mono (by simp))
  have hnn : ¬ ((1 + preS ss ss.length : Nat) : Int) < 0 := by omega
  clear hb1 hb0
  go_wp2
  exact HQ.out _ HB1.out
end Go.Proofs.Ytancacjnbbdbfaa
