/- What the program's samePlaces, led and copied answer: steps in new memory, each way led elsewhere. -/
import Derived.Test.YtancacjnbbdbfaaSpecTidyM
namespace Go.Proofs.Ytancacjnbbdbfaa
open Go.RowKit

theorem madeStep_get {n j q : Nat} (hj : j < n) (hq : q < 8) : (madeCells (Value.agg #[.int .i64 0, .int .i64 0, .int .i64 0, .int .i64 0, .int .i64 0, .int .i64 0, .int .i64 0, .slice none 0 0]).cells (n * 8)).toList[j * 8 + q]? = (cells8 step00 (.slice none 0 0))[q]? := by
  have hz : (Value.agg #[.int .i64 0, .int .i64 0, .int .i64 0, .int .i64 0, .int .i64 0, .int .i64 0, .int .i64 0, .slice none 0 0]).cells = #[.int .i64 0, .int .i64 0, .int .i64 0, .int .i64 0, .int .i64 0, .int .i64 0, .int .i64 0, .slice none 0 0] := by simp [go_sem]
  rw [hz]
  have h1 : j * 8 + q < n * 8 := by omega
  have h2 : (j * 8 + q) % 8 = q := by omega
  have e1 : (madeCells #[Value.int .i64 0, .int .i64 0, .int .i64 0, .int .i64 0, .int .i64 0, .int .i64 0, .int .i64 0, .slice none 0 0] (n * 8)).toList[j * 8 + q]? = some (#[Value.int .i64 0, .int .i64 0, .int .i64 0, .int .i64 0, .int .i64 0, .int .i64 0, .int .i64 0, .slice none 0 0][(j * 8 + q) % 8]!) := by
    rw [Array.getElem?_toList]
    simp [madeCells, h1]
  rw [e1, h2]
  rcases (by omega : q = 0 ∨ q = 1 ∨ q = 2 ∨ q = 3 ∨ q = 4 ∨ q = 5 ∨ q = 6 ∨ q = 7) with rfl | rfl | rfl | rfl | rfl | rfl | rfl | rfl <;> rfl

/-- 'make([]Step, n)'. -/
theorem wpList_make_steps {P : Program} (w : World) {ops : Array Oper} {rest : List Oper} {o : Oper} {a : Act} {Q : Exit → Act → World → Prop}
    (hg : o.guard = none) (l c : Operand) (t : TypeId) (hop : o.op = Op.makeSlice t l c)
    (ht : P.underlying t = some (.slice 43)) (hinfo : (P.info? 43).map (fun i => (i.zero, i.size, i.bytes)) = some (some (.agg #[.int .i64 0, .int .i64 0, .int .i64 0, .int .i64 0, .int .i64 0, .int .i64 0, .int .i64 0, .slice none 0 0]), 8, 80))
    (kl kc : IntKind) (n : Nat) (hl : a.eval l = .int kl (n : Int)) (hc : a.eval c = .int kc (n : Int)) (hn : n ≤ 1048576)
    (hK : ∀ w' xs, PF w.heap.size w' (.slice (some ⟨w.heap.size, 0, none⟩) n n) n (fun _ => step00) xs (fun _ => .slice none 0 0) → Below w.heap.size w w' → w'.heap.size = w.heap.size + 1 → wpList P ops Q rest (a.put o.dst (.slice (some ⟨w.heap.size, 0, none⟩) n n)) w') :
    wpList P ops Q (o :: rest) a w := by
  obtain ⟨i, hi, hz, hs, hb⟩ := info_parts hinfo
  refine wpList_plain hg fun K hK' => ?_
  have hb' : (i.bytes : Int) * (n : Int) ≤ 281474976710656 := by
    rw [hb]
    omega
  have hr := run_make (P := P) w t 43 i _ ht hi hz kl kc (n : Int) (n : Int) (by omega) (Int.le_refl _) hb' (by omega)
  simp only [Int.toNat_natCast, hs] at hr
  unfold Oper.wp
  simp [execOp, hop, hl, hc, hr, Result.andThen]
  have hrow := World.ownsRow_lit (base := w.heap.size) (e := 43) (size := 8) w (madeCells (Value.agg #[.int .i64 0, .int .i64 0, .int .i64 0, .int .i64 0, .int .i64 0, .int .i64 0, .int .i64 0, .slice none 0 0]).cells (n * 8)) n (Nat.le_refl _) (by unfold maxLen; omega) (size_madeCells _ _)
  refine hK' _ _ (hK _ _ ⟨hrow, fun i hi q u hu => ?_, fun i hi => World.ownsRow_nil _ _ _ _⟩ ((Below.refl _ _).alloc (Nat.le_refl _) _) (by simp))
  have hq : q < 8 := by have := (List.getElem?_eq_some_iff.1 hu).1; simpa [cells8] using this
  rw [madeStep_get hi hq]
  exact hu

set_option maxRecDepth 100000 in
set_option maxHeartbeats 4000000 in
theorem samePlaces_any {Q : Ending → World → Prop} (n : Nat) (w : World) (hn : n ≤ 1000)
    (hQ : ∀ w', Below w.heap.size w w' → w'.rowIs w.heap.size 3 n (fun j => .int .i64 (j : Int)) → w'.heap.size = w.heap.size + 1 → Q (.returned (.slice (some ⟨w.heap.size, 0, none⟩) n n)) w') :
    Calls Try.prog 71 #[.int .i64 (n : Int)] w Q := by
  have HQ : Hid _ := hQ
  clear hQ
  go_enter Try.func71, Try.ntmps71
  go_wp2_with (at_make; refine wpList_make_is _ rfl (.tmp 5) (.tmp 5) 41 rfl 3 (.int .i64 0) 8 Try.underlying41 infoInt2 rfl .i64 .i64 n rfl rfl (by omega) (by omega) ?_; intro w1 hrow1 hb1 hs1)
  have HR1 : Hid (w1.rowIs w.heap.size 3 n (fun _ => .int .i64 0)) := hrow1
  have HB1 : Hid (Below w.heap.size w w1) := hb1
  have HS1 : Hid (w1.heap.size = w.heap.size + 1) := hs1
  clear hrow1 hb1 hs1
  go_loopw [9] (fun i wr => ∃ k : Nat, k ≤ n ∧ i = .int .i64 k ∧ Below w.heap.size w wr ∧ wr.rowIs w.heap.size 3 n (fun j => .int .i64 (if j < k then (j : Int) else 0)) ∧ Hid (wr.heap.size = w.heap.size + 1)) (fun i _ => n - (intOf i).toNat)
  case atStart => exact ⟨0, Nat.zero_le _, rfl, HB1.out, HR1.out.congr fun i _ => by simp, HS1⟩
  case round =>
    obtain ⟨k, hk, rfl, hb, hrow, hs⟩ := hrel
    have HB : Hid (Below w.heap.size w wr) := hb
    have HROW : Hid (wr.rowIs w.heap.size 3 n (fun j => .int .i64 (if j < k then (j : Int) else 0))) := hrow
    by_cases hkl : k < n
    · have hki : (k : Int) < (n : Int) := by omega
      have rm := hrow.cell hkl
      have fm := hrow.frozen k
      clear hb hrow
      go_wp2
      go_roundw
      case rel =>
        refine ⟨k + 1, by omega, by go_num, HB.out.setCell (Nat.le_refl _) _, (HROW.out.set k _).congr fun j hj => ?_, ?_⟩
        · by_cases e : j = k
          · subst e; simp
          · by_cases e2 : j < k
            · simp [e, e2, show j < k + 1 by omega]
            · simp [e, e2, show ¬ j < k + 1 by omega]
        · have := hs.out
          simp only [Hid, World.setCell]
          simpa [World.setCell] using this
      case measure => simp [intOf]; omega
    · have hki : ¬ (k : Int) < (n : Int) := by omega
      obtain rfl : k = n := by omega
      clear hb hrow
      go_wp2
      exact HQ.out _ HB.out (HROW.out.congr fun j hj => by simp [hj]) hs.out

theorem PF.nvLt {lo N : Nat} {w : World} {v : Value} {F : Nat → St} {xs : List Value} {nvs : Nat → Value} (h : PF lo w v N F xs nvs) {i k : Nat} (hi : i < N) (hk : (nvs i).ownBlock = some k) : k < w.heap.size := ((h.own i hi).lt k hk).2

/-- A number more at the end of one step's list. -/
theorem PF.app {lo N i g c q cap H n1 : Nat} {W w' : World} {F : Nat → St} {xs : List Value} {nvs : Nat → Value} {x : Int} {s : St} (h : PF lo W (.slice (some ⟨g, 0, none⟩) N c) N F xs nvs) (hs : F i = s) (hn1 : s.next.length = n1) (ap : Apart nvs N) (hi : i < N) (hH : ∀ j k, j < N → (nvs j).ownBlock = some k → k < H)
    (hg : W.grownBy w' (nvs i).ownBlock) (hown : w'.ownsRow lo 3 1 (.slice (some ⟨q, 0, none⟩) (n1 + 1) cap) (n1 + 1) (s.next.map (Value.int .i64) ++ [.int .i64 x])) (hat : (nvs i).ownBlock = some q ∨ q = H) :
    ∃ ys, PF lo (w'.setCell ⟨g, i * 8 + 7, none⟩ (.slice (some ⟨q, 0, none⟩) (n1 + 1) cap)) (.slice (some ⟨g, 0, none⟩) N c) N (fun j => if j = i then { s with next := s.next ++ [x] } else F j) ys (fun j => if j = i then .slice (some ⟨q, 0, none⟩) (n1 + 1) cap else nvs j) ∧
      Apart (fun j => if j = i then .slice (some ⟨q, 0, none⟩) (n1 + 1) cap else nvs j) N := by
  subst hs hn1
  have hrow : w'.ownsRow lo 43 8 (.slice (some ⟨g, 0, none⟩) N c) N xs := own_grow h.row (h.own i hi) (by decide) hg
  obtain ⟨s1, s2⟩ := hrow.stored (i * 8 + 7) (.slice (some ⟨q, 0, none⟩) ((F i).next.length + 1) cap)
  have kept : ∀ {b : Nat} {y : Value} {n : Nat} {ys : List Value}, w'.ownsRow b 3 1 y n ys → (w'.setCell ⟨g, i * 8 + 7, none⟩ (.slice (some ⟨q, 0, none⟩) ((F i).next.length + 1) cap)).ownsRow b 3 1 y n ys := fun hy => own_store hy hrow (by decide)
  have hlen : xs.length = N * 8 := h.row.1
  have hne : ∀ j, j < N → j ≠ i → (nvs j).ownBlock ≠ some q := by
    intro j hj hji e
    rcases hat with a | a
    · exact ap i j q hi hj (Ne.symm hji) a e
    · have := hH j q hj e
      omega
  refine ⟨_, ⟨s1, fun j hj => ?_, fun j hj => ?_⟩, fun a b k ha hb hab => ?_⟩
  · by_cases e : j = i
    · subst e
      rw [if_pos rfl, if_pos rfl]
      intro p u hu
      have hp : p < 8 := by have := (List.getElem?_eq_some_iff.1 hu).1; simpa [cells8] using this
      by_cases e7 : p = 7
      · subst e7
        simp [cells8] at hu
        subst hu
        rw [List.getElem?_set_self (by omega)]
      · rw [List.getElem?_set_ne (by omega)]
        refine h.cells j hj p u ?_
        rw [← hu]
        rcases (by omega : p = 0 ∨ p = 1 ∨ p = 2 ∨ p = 3 ∨ p = 4 ∨ p = 5 ∨ p = 6) with rfl | rfl | rfl | rfl | rfl | rfl | rfl <;> rfl
    · rw [if_neg e, if_neg e]
      intro p u hu
      have hp : p < 8 := by have := (List.getElem?_eq_some_iff.1 hu).1; simpa [cells8] using this
      rw [List.getElem?_set_ne (by omega)]
      exact h.cells j hj p u hu
  · by_cases e : j = i
    · subst e
      rw [if_pos rfl, if_pos rfl]
      simp only [List.length_append, List.length_singleton, List.map_append]
      exact kept hown
    · rw [if_neg e, if_neg e]
      refine kept ((h.own j hj).kept hg ?_)
      cases hb : (nvs j).ownBlock with
      | none => exact Or.inl rfl
      | some k => exact Or.inr fun e2 => ap j i k hj hi e hb e2.symm
  · by_cases e1 : a = i <;> by_cases e2 : b = i
    · omega
    · simp only [if_pos e1, if_neg e2]
      intro hk
      simp [Value.ownBlock] at hk
      subst hk
      exact hne b hb e2
    · simp only [if_neg e1, if_pos e2]
      intro hk hk2
      simp [Value.ownBlock] at hk2
      subst hk2
      exact hne a ha e1 hk
    · simp only [if_neg e1, if_neg e2]
      exact ap a b k ha hb hab

/-- A step written in another one's place, without ways. -/
theorem PF.fresh {lo N i g c o : Nat} {w : World} {F : Nat → St} {xs : List Value} {nvs : Nat → Value} (ho : i * 8 = o) (h : PF lo w (.slice (some ⟨g, 0, none⟩) N c) N F xs nvs) (hi : i < N) (s : St) (nv : Value) (O : Obj) :
    ∃ ys, PF lo (((set8 w g o s nv).setCell ⟨g, o + 7, none⟩ (.slice none 0 0)).alloc O) (.slice (some ⟨g, 0, none⟩) N c) N (fun j => if j = i then { s with next := [] } else F j) ys (fun j => if j = i then .slice none 0 0 else nvs j) := by
  subst ho
  have kept : ∀ {w : World} {xs : List Value} {b q : Nat} {y u : Value} {n : Nat} {ys : List Value}, w.ownsRow lo 43 8 (.slice (some ⟨g, 0, none⟩) N c) N xs → w.ownsRow b 3 1 y n ys → (w.setCell ⟨g, q, none⟩ u).ownsRow b 3 1 y n ys := by
    intro w xs b q y u n ys hr hy
    exact own_store hy hr (by decide)
  have hlen : xs.length = N * 8 := h.row.1
  have r0 := h.row
  have r1 := (r0.stored (i * 8) (.int .i64 s.kind)).1
  have r2 := (r1.stored (i * 8 + 1) (.int .i64 s.dst)).1
  have r3 := (r2.stored (i * 8 + 2) (.int .i64 s.op)).1
  have r4 := (r3.stored (i * 8 + 3) (.int .i64 s.av)).1
  have r5 := (r4.stored (i * 8 + 4) (.int .i64 s.an)).1
  have r6 := (r5.stored (i * 8 + 5) (.int .i64 s.bv)).1
  have r7 := (r6.stored (i * 8 + 6) (.int .i64 s.bn)).1
  have r8 := (r7.stored (i * 8 + 7) nv).1
  have r9 := (r8.stored (i * 8 + 7) (.slice none 0 0)).1
  refine ⟨_, World.ownsRow.alloc r9 O, fun j hj => ?_, fun j hj => ?_⟩
  · by_cases e : j = i
    · subst e
      rw [if_pos rfl, if_pos rfl]
      intro q u hu
      have hq : q < 8 := by have := (List.getElem?_eq_some_iff.1 hu).1; simpa [cells8] using this
      rcases (by omega : q = 0 ∨ q = 1 ∨ q = 2 ∨ q = 3 ∨ q = 4 ∨ q = 5 ∨ q = 6 ∨ q = 7) with rfl | rfl | rfl | rfl | rfl | rfl | rfl | rfl <;> (simp [cells8] at hu; subst hu; simp [List.getElem?_set, hlen]; omega)
    · rw [if_neg e, if_neg e]
      intro q u hu
      have hq : q < 8 := by have := (List.getElem?_eq_some_iff.1 hu).1; simpa [cells8] using this
      rw [List.getElem?_set_ne (by omega), List.getElem?_set_ne (by omega), List.getElem?_set_ne (by omega), List.getElem?_set_ne (by omega), List.getElem?_set_ne (by omega), List.getElem?_set_ne (by omega), List.getElem?_set_ne (by omega), List.getElem?_set_ne (by omega), List.getElem?_set_ne (by omega)]
      exact h.cells j hj q u hu
  · by_cases e : j = i
    · subst e
      rw [if_pos rfl, if_pos rfl]
      exact World.ownsRow_nil _ _ _ _
    · rw [if_neg e, if_neg e]
      exact (kept r8 (kept r7 (kept r6 (kept r5 (kept r4 (kept r3 (kept r2 (kept r1 (kept r0 (h.own j hj))))))))) : ((set8 w g (i * 8) s nv).setCell ⟨g, i * 8 + 7, none⟩ (.slice none 0 0)).ownsRow _ _ _ _ _ _).alloc O

end Go.Proofs.Ytancacjnbbdbfaa
