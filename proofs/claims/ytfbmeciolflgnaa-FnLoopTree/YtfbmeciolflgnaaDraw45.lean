/- The model's drawing of a program. What the model's l71Prog draws: a program that is ok. -/
import Derived.Test.YtfbmeciolflgnaaDraw3
import Derived.Deep.AppendLies
import Derived.Deep.RegionLaw
namespace Go.Proofs.Ytfbmeciolflgnaa
open Go.RowKit

/-- Steps in memory, all of it in blocks from lo on; lists, if nil, without room. -/
def StepsNF (lo : Nat) (w : World) (v : Value) (ss : List St) : Prop :=
  ∃ ao b o cap, v = .slice ao ss.length cap ∧ (0 < ss.length → ao = some ⟨b, o, none⟩) ∧ lo ≤ b ∧
    ∀ (i : Nat) (s : St), ss[i]? = some s → ∃ nv, StepCells w b (o + i * 8) s nv ∧ IntsFrom lo w nv s.next ∧ Nice nv

theorem StepsNF.n {lo : Nat} {w : World} {v : Value} {ss : List St} (h : StepsNF lo w v ss) : StepsN w v ss := by
  obtain ⟨ao, b, o, cap, hv, ha, _, hc⟩ := h
  refine ⟨ao, b, o, cap, hv, ha, fun i s hs => ?_⟩
  obtain ⟨nv, h1, h2, h3⟩ := hc i s hs
  exact ⟨nv, h1, h2.at, h3⟩

theorem StepsNF.ex {lo rb : Nat} {w w' : World} {v : Value} {ss : List St} (h : StepsNF lo w v ss) (hx : Ex rb w w') (hr : rb < lo) : StepsNF lo w' v ss := by
  obtain ⟨ao, b, o, cap, hv, ha, hb, hc⟩ := h
  refine ⟨ao, b, o, cap, hv, ha, hb, fun i s hs => ?_⟩
  obtain ⟨nv, h1, h2, h3⟩ := hc i s hs
  exact ⟨nv, h1.ex hx (by omega), h2.ex hx hr, h3⟩

/-- The eight cells of a step, as a list. -/
def cells8D (s : St) (nv : Value) : List Value := [.int .i64 s.kind, .int .i64 s.dst, .int .i64 s.op, .int .i64 s.av, .int .i64 s.an, .int .i64 s.bv, .int .i64 s.bn, nv]

/-- What has been drawn: a row of steps, and lists that lie in none of its cells. -/
def DrawnL (lo : Nat) (w : World) (ov : Value) (xs : List Value) (ss : List St) : Prop :=
  ∀ (i : Nat) (s : St), ss[i]? = some s → ∃ nv b, (∀ j u, (cells8D s nv)[j]? = some u → xs[i * 8 + j]? = some u) ∧ (∃ ao o cap, nv = .slice ao s.next.length cap ∧ (0 < s.next.length → ao = some ⟨b, o, none⟩ ∧ lo ≤ b ∧ b < w.heap.size ∧ ov.ownBlock ≠ some b ∧ ∀ t, t < s.next.length → w.cell? ⟨b, o + t, none⟩ = some (.int .i64 (s.next.getD t 0)))) ∧ Nice nv

theorem DrawnL.keep {lo : Nat} {w w' : World} {ov : Value} {xs : List Value} {ss : List St} (h : DrawnL lo w ov xs ss) (hs : w.heap.size ≤ w'.heap.size) (hc : ∀ (p : Addr) (v : Value), w.cell? p = some v → lo ≤ p.block → ov.ownBlock ≠ some p.block → w'.cell? p = some v) : DrawnL lo w' ov xs ss := by
  intro i s hsi
  obtain ⟨nv, b, h1, ⟨ao, o, cap, h2, h3⟩, h4⟩ := h i s hsi
  refine ⟨nv, b, h1, ⟨ao, o, cap, h2, fun hp => ?_⟩, h4⟩
  obtain ⟨a1, a2, a3, a4, a5⟩ := h3 hp
  exact ⟨a1, a2, by omega, a4, fun t ht => hc _ _ (a5 t ht) a2 a4⟩

theorem DrawnL.snoc {lo H g n c : Nat} {w w' : World} {ov : Value} {xs : List Value} {ss : List St} {s : St} {nv : Value} (h : DrawnL lo w ov xs ss) (hxl : xs.length = ss.length * 8) (hI : IntsFrom lo w nv s.next) (hlt : ∀ (b o : Nat) (cap : Nat), nv = .slice (some ⟨b, o, none⟩) s.next.length cap → 0 < s.next.length → b < w.heap.size ∧ ov.ownBlock ≠ some b) (hN : Nice nv)
    (hH : H = w.heap.size) (hs : w.heap.size ≤ w'.heap.size) (hat : ov.ownBlock = some g ∨ H ≤ g) (hc : ∀ (p : Addr) (v : Value), w.cell? p = some v → ov.ownBlock ≠ some p.block → w'.cell? p = some v) : DrawnL lo w' (.slice (some ⟨g, 0, none⟩) n c) (xs ++ cells8D s nv) (ss ++ [s]) := by
  have hne : ∀ b, b < w.heap.size → ov.ownBlock ≠ some b → (Value.slice (some ⟨g, 0, none⟩) n c).ownBlock ≠ some b := by
    intro b hb hn e
    simp [Value.ownBlock] at e
    subst e
    rcases hat with a | a
    · exact hn a
    · omega
  intro i t ht
  by_cases hi : i < ss.length
  · rw [List.getElem?_append_left hi] at ht
    obtain ⟨mv, b, h1, ⟨ao, o, cap, h2, h3⟩, h4⟩ := h i t ht
    refine ⟨mv, b, fun j u hu => ?_, ⟨ao, o, cap, h2, fun hp => ?_⟩, h4⟩
    · have hj : j < 8 := by have := (List.getElem?_eq_some_iff.1 hu).1; simpa [cells8D] using this
      rw [List.getElem?_append_left (by omega)]
      exact h1 j u hu
    · obtain ⟨a1, a2, a3, a4, a5⟩ := h3 hp
      exact ⟨a1, a2, by omega, hne b a3 a4, fun q hq => hc _ _ (a5 q hq) a4⟩
  · have l := (List.getElem?_eq_some_iff.1 ht).1
    simp at l
    have e : i = ss.length := by omega
    subst e
    simp at ht
    subst ht
    obtain ⟨ao, b, o, cap, h1, h2, h3, h4⟩ := hI
    refine ⟨nv, b, fun j u hu => ?_, ⟨ao, o, cap, h1, fun hp => ?_⟩, hN⟩
    · rw [List.getElem?_append_right (by omega), hxl]
      rwa [show ss.length * 8 + j - ss.length * 8 = j by omega]
    · have hao := h2 hp
      rw [hao] at h1
      obtain ⟨b1, b2⟩ := hlt b o cap h1 hp
      exact ⟨hao, h3, by omega, hne b b1 b2, fun q hq => hc _ _ (h4 q hq) b2⟩

theorem DrawnL.steps {lo : Nat} {w : World} {ov : Value} {xs : List Value} {ss : List St} (h : DrawnL lo w ov xs ss) (hrow : w.ownsRow lo 77 8 ov ss.length xs) : StepsNF lo w ov ss := by
  rcases id hrow.2 with ⟨e, e2⟩ | ⟨g, cap, cur, e, hg, _⟩
  · refine ⟨none, lo, 0, 0, by rw [e2]; exact e, fun hp => by omega, Nat.le_refl _, fun i s hs => ?_⟩
    have := (List.getElem?_eq_some_iff.1 hs).1
    omega
  · refine ⟨_, g, 0, cap, e, fun _ => rfl, hg, fun i s hs => ?_⟩
    have hi := (List.getElem?_eq_some_iff.1 hs).1
    obtain ⟨nv, b, h1, ⟨ao, o, cap2, h2, h3⟩, h4⟩ := h i s hs
    rw [e] at hrow
    have rd : ∀ j u, (cells8D s nv)[j]? = some u → w.cell? ⟨g, i * 8 + j, none⟩ = some u := fun j u hu => by
      have hj : j < 8 := by have := (List.getElem?_eq_some_iff.1 hu).1; simpa [cells8D] using this
      rw [hrow.cellAt _ (by omega)]
      exact h1 j u hu
    refine ⟨nv, ?_, ?_, h4⟩
    · rw [Nat.zero_add]
      exact ⟨rd 0 _ rfl, rd 1 _ rfl, rd 2 _ rfl, rd 3 _ rfl, rd 4 _ rfl, rd 5 _ rfl, rd 6 _ rfl, rd 7 _ rfl⟩
    · by_cases hp : 0 < s.next.length
      · obtain ⟨a1, a2, a3, a4, a5⟩ := h3 hp
        exact ⟨ao, b, o, cap2, h2, fun _ => a1, a2, a5⟩
      · exact ⟨ao, lo, o, cap2, h2, fun h => absurd h hp, Nat.le_refl _, fun q hq => by omega⟩
end Go.Proofs.Ytfbmeciolflgnaa
namespace Go.Proofs.Ytfbmeciolflgnaa
open Go.RowKit

theorem infoStepD : (Try.prog.info? 77).map (fun i => (i.zero, i.size, i.bytes)) = some (some (.agg #[.int .i64 0, .int .i64 0, .int .i64 0, .int .i64 0, .int .i64 0, .int .i64 0, .int .i64 0, .slice none 0 0]), 8, 80) := by kernel_rfl

theorem cells8D_one (s : St) (A : Option Addr) (n c : Nat) : ∀ u ∈ cells8D s (.slice A n c), u.oneCell' = true := by
  intro u hu
  simp [cells8D] at hu
  rcases hu with rfl | rfl | rfl | rfl | rfl | rfl | rfl | rfl <;> rfl

theorem cells8D_new (W : World) (s : St) (nv : Value) (t : TypeId) {k : Nat} (hk : k = W.heap.size) : ∀ j x, (cells8D s nv)[j]? = some x → (W.alloc (.cells #[.int .i64 s.kind, .int .i64 s.dst, .int .i64 s.op, .int .i64 s.av, .int .i64 s.an, .int .i64 s.bv, .int .i64 s.bn, nv] t)).cell? ((⟨k, 0, none⟩ : Addr).add j) = some x := by
  subst hk
  intro j x hj
  match j, hj with
  | 0, hj => simp [cells8D] at hj; subst hj; simp [Addr.add]
  | 1, hj => simp [cells8D] at hj; subst hj; simp [Addr.add]
  | 2, hj => simp [cells8D] at hj; subst hj; simp [Addr.add]
  | 3, hj => simp [cells8D] at hj; subst hj; simp [Addr.add]
  | 4, hj => simp [cells8D] at hj; subst hj; simp [Addr.add]
  | 5, hj => simp [cells8D] at hj; subst hj; simp [Addr.add]
  | 6, hj => simp [cells8D] at hj; subst hj; simp [Addr.add]
  | 7, hj => simp [cells8D] at hj; subst hj; simp [Addr.add]
  | j + 8, hj => simp [cells8D] at hj

theorem own_ex {rb base m n : Nat} {e : TypeId} {w w' : World} {v : Value} {xs : List Value} (h : w.ownsRow base e m v n xs) (hx : Ex rb w w') (hr : rb < base) : w'.ownsRow base e m v n xs := by
  obtain ⟨h1, h2⟩ := h
  refine ⟨h1, ?_⟩
  rcases h2 with h2 | ⟨g, cap, cur, hv, hg, hh, r⟩
  · exact Or.inl h2
  · obtain ⟨hlt, _⟩ := Array.getElem?_eq_some_iff.1 hh
    exact Or.inr ⟨g, cap, cur, hv, hg, (hx.block g hlt (by omega)).trans hh, r⟩

/-- What is kept while a program is drawn: the two boxes, the reader, the rows. -/
structure DI (rb p : Nat) (w wr : World) (ov : Value) (xs : List Value) (ss : List St) (p' : Nat) : Prop where
  ex : Ex rb w wr
  rd : Rd wr rb p'
  le : p' ≤ p + 1 + 20 * ss.length
  res : wr.cell? ⟨w.heap.size, 0, none⟩ = some (.slice none 0 0)
  resF : wr.frozen? ⟨w.heap.size, 0, none⟩ = false
  box : wr.cell? ⟨w.heap.size + 1, 0, none⟩ = some ov
  boxF : wr.frozen? ⟨w.heap.size + 1, 0, none⟩ = false
  row : wr.ownsRow (w.heap.size + 2) 77 8 ov ss.length xs
  drawn : DrawnL (w.heap.size + 2) wr ov xs ss

theorem Rd.grown {w w' : World} {rb p : Nat} {row : Option Nat} (h : Rd w rb p) (hg : w.grownBy w' row) (hr : ∀ k, row = some k → rb < k) : Rd w' rb p := by
  obtain ⟨ao, bb, bo, bl, cap, h0, h1, h2, h3, h4⟩ := h.ex
  have hne : ∀ k, k ≤ rb → some k ≠ row := fun k hk e => by have := hr k e.symm; omega
  refine ⟨⟨ao, bb, bo, bl, cap, hg.cell h0 (hne _ (Nat.le_refl _)), h1, h2, h3, fun i hi => ?_⟩, hg.cell h.at1 (hne _ (Nat.le_refl _)), (hg.frozen_far ⟨rb, 1, none⟩ h.lt (hne _ (Nat.le_refl _))).trans h.fz⟩
  obtain ⟨z, hz, hc⟩ := h4 i hi
  exact ⟨z, hz, hg.cell hc (hne _ (Nat.le_of_lt (h2 (by omega))))⟩

/-- One step more is drawn. -/
theorem DI.snoc {rb p p' p6 g8 cap8 : Nat} {w wr w6 w8 : World} {A : Option Addr} {n0 c : Nat} {xs : List Value} {ss : List St} {s : St} {nv : Value} {O : Obj} (hrb : rb < w.heap.size)
    (h : DI rb p w wr (.slice A n0 c) xs ss p') (hx : Ex rb wr w6) (hr6 : Rd w6 rb p6) (hp6 : p6 ≤ p' + 20) (hI : IntsFrom wr.heap.size w6 nv s.next) (hN : Nice nv)
    (hg : (w6.alloc O).grownBy w8 (Value.slice A n0 c).ownBlock) (hown : w8.ownsRow (w.heap.size + 2) 77 8 (.slice (some ⟨g8, 0, none⟩) (ss.length + 1) cap8) (ss.length + 1) (xs ++ cells8D s nv)) (hat : (Value.slice A n0 c).ownBlock = some g8 ∨ g8 = w6.heap.size + 1) :
    DI rb p w (w8.setCell ⟨w.heap.size + 1, 0, none⟩ (.slice (some ⟨g8, 0, none⟩) (ss.length + 1) cap8)) (.slice (some ⟨g8, 0, none⟩) (ss.length + 1) cap8) (xs ++ cells8D s nv) (ss ++ [s]) p6 := by
  have hbl : w.heap.size + 1 < wr.heap.size := cell_lt h.box
  have s6 := hx.size
  have hle := h.le
  have own : ∀ k, (Value.slice A n0 c).ownBlock = some k → w.heap.size + 2 ≤ k ∧ k < wr.heap.size := fun k hk => h.row.lt k hk
  have s8 : w6.heap.size ≤ w8.heap.size := Nat.le_trans (by simp) hg.size
  have hcell : ∀ (q : Addr) (v : Value), w6.cell? q = some v → (Value.slice A n0 c).ownBlock ≠ some q.block → w8.cell? q = some v := fun q v hc hn => hg.cell (cell_keep ((Below.refl _ _).alloc (Nat.le_refl _) O) hc) (Ne.symm hn)
  have hlow : ∀ k, k < w.heap.size + 2 → (Value.slice A n0 c).ownBlock ≠ some k := fun k hk e => by have := (own k e).1; omega
  refine ⟨?_, ?_, by simp; omega, ?_, ?_, ?_, ?_, ?_, ?_⟩
  · refine Ex.setCell ⟨?_, ?_, ?_, ?_, fun k hk hr => ?_⟩ (Or.inr (by show w.heap.size ≤ w.heap.size + 1; omega)) _
    · exact hg.os.trans (hx.os.trans h.ex.os)
    · exact hg.tape.trans (hx.tape.trans h.ex.tape)
    · exact hg.output.trans (hx.output.trans h.ex.output)
    · omega
    · have a1 := hg.block k (Nat.lt_of_lt_of_le (by omega : k < w6.heap.size) (by simp)) (Ne.symm (hlow k (by omega)))
      have a2 : (w6.alloc O).heap[k]? = w6.heap[k]? := Below.heap_alloc _ _ _ (by omega)
      exact ((a1.trans a2).trans (hx.block k (by omega) hr)).trans (h.ex.block k hk hr)
  · refine Rd.setCell ?_ (by show rb < w.heap.size + 1; omega) _
    exact (hr6.alloc O).grown hg (fun k hk => by have := (own k hk).1; omega)
  · rw [cell_setOther _ _ _ _ (by simp)]
    exact hcell _ _ (hx.cell h.res (by show w.heap.size ≠ rb; omega)) (hlow _ (by show w.heap.size < w.heap.size + 2; omega))
  · refine (World.frozen?_of_block (w := w8) (a := ⟨w.heap.size, 0, none⟩) (Below.heap_setCell w8 _ _ _ (by simp))).trans ?_
    refine (hg.frozen_far ⟨w.heap.size, 0, none⟩ (Nat.lt_of_lt_of_le (by show w.heap.size < w6.heap.size; omega) (by simp)) (Ne.symm (hlow w.heap.size (by omega)))).trans ?_
    refine (((Below.refl _ _).alloc (Nat.le_refl _) O).frozen (by show w.heap.size < w6.heap.size; omega)).trans ?_
    exact (hx.frozen (p := ⟨w.heap.size, 0, none⟩) (by show w.heap.size < wr.heap.size; omega) (by show w.heap.size ≠ rb; omega)).trans h.resF
  · have b6 := hx.cell h.box (by show w.heap.size + 1 ≠ rb; omega)
    have b8 := hcell _ _ b6 (hlow _ (by show w.heap.size + 1 < w.heap.size + 2; omega))
    simp [go_sem, b8]
  · have f8 : w8.frozen? ⟨w.heap.size + 1, 0, none⟩ = false := by
      refine (hg.frozen_far ⟨w.heap.size + 1, 0, none⟩ (Nat.lt_of_lt_of_le (by show w.heap.size + 1 < w6.heap.size; omega) (by simp)) (Ne.symm (hlow (w.heap.size + 1) (by omega)))).trans ?_
      refine (((Below.refl _ _).alloc (Nat.le_refl _) O).frozen (by show w.heap.size + 1 < w6.heap.size; omega)).trans ?_
      exact (hx.frozen (p := ⟨w.heap.size + 1, 0, none⟩) hbl (by show w.heap.size + 1 ≠ rb; omega)).trans h.boxF
    simpa [go_sem] using f8
  · have := ownsRow_setCell_below hown (a := ⟨w.heap.size + 1, 0, none⟩) (by show w.heap.size + 1 < w.heap.size + 2; omega) (.slice (some ⟨g8, 0, none⟩) (ss.length + 1) cap8)
    simpa using this
  · have d6 : DrawnL (w.heap.size + 2) w6 (.slice A n0 c) xs ss := h.drawn.keep s6 (fun q v hc hl _ => hx.cell hc (by omega))
    have d8 := d6.snoc (H := w6.heap.size) (g := g8) (n := ss.length + 1) (c := cap8) (w' := w8) h.row.1 (hI.mono (by omega)) (fun b o cap hv hp => by
      obtain ⟨ao, b', o', cap', e1, e2, e3, e4⟩ := hI
      have e5 := e2 hp
      rw [e5] at e1
      rw [e1] at hv
      cases hv
      have e6 := cell_lt (e4 0 hp)
      exact ⟨e6, fun e => by have := (own _ e).2; omega⟩) hN rfl s8 (by
        rcases hat with a | a
        · exact Or.inl a
        · exact Or.inr (by omega)) hcell
    refine d8.keep (by simp [World.setCell]) (fun q v hc hl _ => ?_)
    rw [cell_setOther _ _ _ _ (by show q.block ≠ w.heap.size + 1; omega)]
    exact hc

/-- What was drawn stays when the answer is laid down. -/
theorem DI.last {rb p p' : Nat} {w W : World} {v x : Value} {xs : List Value} {ss : List St} (hrb : rb < w.heap.size) (D : DI rb p w W v xs ss p') :
    StepsNF (w.heap.size + 2) (W.setCell ⟨w.heap.size, 0, none⟩ x) v ss ∧ Rd (W.setCell ⟨w.heap.size, 0, none⟩ x) rb p' ∧ Ex rb w (W.setCell ⟨w.heap.size, 0, none⟩ x) := by
  refine ⟨?_, D.rd.setCell (by show rb < w.heap.size; omega) _, D.ex.setCell (Or.inr (by show w.heap.size ≤ w.heap.size; omega)) _⟩
  obtain ⟨ao, b, o, cap, hv, ha, hb, hc⟩ := D.drawn.steps D.row
  have key : ∀ (q : Addr) (v : Value), W.cell? q = some v → w.heap.size + 2 ≤ q.block → (W.setCell ⟨w.heap.size, 0, none⟩ x).cell? q = some v := fun q v hc hl => by
    rw [cell_setOther _ _ _ _ (by show q.block ≠ w.heap.size; omega)]
    exact hc
  refine ⟨ao, b, o, cap, hv, ha, hb, fun i s hsi => ?_⟩
  obtain ⟨nv, h1, ⟨ao2, b2, o2, cap2, e1, e2, e3, e4⟩, h3⟩ := hc i s hsi
  obtain ⟨c0, c1, c2, c3, c4, c5, c6, c7⟩ := h1
  exact ⟨nv, ⟨key _ _ c0 hb, key _ _ c1 hb, key _ _ c2 hb, key _ _ c3 hb, key _ _ c4 hb, key _ _ c5 hb, key _ _ c6 hb, key _ _ c7 hb⟩, ⟨ao2, b2, o2, cap2, e1, e2, e3, fun t ht => key _ _ (e4 t ht) e3⟩, h3⟩

set_option maxRecDepth 100000 in
set_option maxHeartbeats 1500000 in
theorem l71Prog_any {Q : Ending → World → Prop} (rb p : Nat) (w : World) (h : Rd w rb p) (hp : p + 400 ≤ 1000000)
    (hQ : ∀ (v : Value) (ss : List St) (p' : Nat) w', okB ss = true → ss.length ≤ 15 → StepsNF (w.heap.size + 2) w' v ss → Rd w' rb p' → p' ≤ p + 400 → Ex rb w w' → Q (.returned (.agg #[v])) w') :
    Calls Try.prog 62 #[.pointer (some ⟨rb, 0, none⟩)] w Q := by
  have HQ : Hid _ := hQ
  clear hQ
  have hlt := h.lt
  obtain ⟨i1, hj, hy0, hy1, hy2⟩ := info_parts infoStepD
  go_enter Try.func62, Try.ntmps62
  go_wp2_with fail
  refine pick_any rb p _ _ ((h.alloc _).alloc _) (by omega) (by omega) fun z w1 hz hr1 hx1 => ?_
  have hz14 : (z : Int) < 14 := hz (by omega)
  have hDI : DI rb p w w1 (.slice none 0 0) [] [] (p + 1) := by
    have hl2 : rb ≠ w.heap.size := by omega
    have hl3 : rb ≠ w.heap.size + 1 := by omega
    refine ⟨(((Ex.refl _ _).alloc _).alloc _).trans hx1, hr1, by simp, hx1.cell (by simp [go_sem]) (Ne.symm hl2), ?_, hx1.cell (by simp [go_sem]) (Ne.symm hl3), ?_, World.ownsRow_nil _ _ _ _, by intro i s hs; simp at hs⟩
    · exact (hx1.frozen (p := ⟨w.heap.size, 0, none⟩) (by simp; omega) (Ne.symm hl2)).trans (by simp [go_sem])
    · exact (hx1.frozen (p := ⟨w.heap.size + 1, 0, none⟩) (by simp) (Ne.symm hl3)).trans (by simp [go_sem])
  have HDI : Hid (DI rb p w w1 (.slice none 0 0) [] [] (p + 1)) := hDI
  clear hDI hr1 hx1 hz
  go_wp2_with fail
  go_loopw [5] (fun i wr => ∃ (ss : List St) (ov : Value) (xs : List Value) (p' : Nat), ss.length + 1 ≤ 2 + z ∧ i = .int .i64 (ss.length : Int) ∧ DI rb p w wr ov xs ss p' ∧ ∀ s ∈ ss, stepB s ((2 + z : Nat) : Int) = true) (fun i _ => 2 + z - (intOf i).toNat)
  case atStart => exact ⟨[], _, [], p + 1, by simp; omega, rfl, HDI.out, by simp⟩
  case round =>
    clear HDI
    obtain ⟨ss, ov, xs, p', hsl, rfl, hD, hst⟩ := hrel
    have HD : Hid (DI rb p w wr ov xs ss p') := hD
    have HST : Hid (∀ s ∈ ss, stepB s ((2 + z : Nat) : Int) = true) := hst
    have bq := hD.box
    have bf := hD.boxF
    have hle := hD.le
    have hbl : w.heap.size + 1 < wr.heap.size := cell_lt bq
    obtain ⟨A, n0, c, hov⟩ : ∃ A n c, ov = .slice A n c := by
      rcases hD.row.2 with ⟨e, _⟩ | ⟨g, cap, cur, e, _⟩
      · exact ⟨_, _, _, e⟩
      · exact ⟨_, _, _, e⟩
    subst hov
    clear hD hst
    by_cases hkl : ss.length + 1 < 2 + z
    · have hki : (ss.length : Int) + 1 < 2 + (z : Int) := by omega
      have HNE : Hid (w.heap.size + 1 ≠ rb) := by rw [Hid]; omega
      have HNR : Hid (some (w.heap.size + 1) ≠ (Value.slice A n0 c).ownBlock) := fun e => by have h9 := (HD.out.row.lt _ e.symm).1; omega
      have HRD : Hid (Rd wr.drew rb p') := ⟨HD.out.rd.ex, HD.out.rd.at1, HD.out.rd.fz⟩
      go_wp2_with fail
      go_region_law (first | (refine step_append_lies _ rfl (.tmp 17) (.tmp 22) 28 rfl (w.heap.size + 2) 77 i1 (.agg #[.int .i64 0, .int .i64 0, .int .i64 0, .int .i64 0, .int .i64 0, .int .i64 0, .int .i64 0, .slice none 0 0]) 8 80 Try.underlying28 hj hy0 hy1 hy2 rfl (by decide) (.slice A n0 c) ss.length xs (by simp [Act.eval]) (HR6.out.alloc _) ⟨w6.heap.size, 0, none⟩ 1 1 (cells8D s (.slice ao6 s.next.length c6)) (by simp [Act.eval]) rfl (cells8D_new w6 s _ _ rfl) (cells8D_one _ _ _ _) (by decide) (by unfold maxLen; omega) (by omega) (by simp; omega) (w6.heap.size + 1) (by simp) ?_; intro g8 cap8 w8 hown8 hgrow8 hat8 hlt8; have bq8 := hgrow8.cell (HA6.out _) HNR.out; have bf8 := (hgrow8.frozen_far ⟨w.heap.size + 1, 0, none⟩ (HS6.out _) HNR.out).trans (HF6.out _)) | (go_simp; go_wp2_with (go_at_call 78; refine l71Step_any rb p' ss.length (2 + z) _ HRD.out (by omega) (by omega) (by omega) (by omega) ?_; intro s nv p6 w6 hs6 hI6 hN6 hr6 hp6 hx6; have hx6' : Ex rb wr w6 := ⟨hx6.os, hx6.tape, hx6.output, hx6.size, hx6.block⟩; have HR6 : Hid (w6.ownsRow (w.heap.size + 2) 77 8 (.slice A n0 c) ss.length xs) := own_ex HD.out.row hx6' (by omega); have bq6 := hx6'.cell bq HNE.out; have bf6 := (hx6'.frozen (p := ⟨w.heap.size + 1, 0, none⟩) hbl HNE.out).trans bf; have s6 := hx6'.size; obtain ⟨ao6, b6, o6, c6, hv6, hq6⟩ := id hI6; subst hv6; have HA6 : Hid (∀ O, (w6.alloc O).cell? ⟨w.heap.size + 1, 0, none⟩ = some (.slice A n0 c)) := fun O => cell_keep ((Below.refl _ _).alloc (Nat.le_refl _) O) bq6; have HF6 : Hid (∀ O, (w6.alloc O).frozen? ⟨w.heap.size + 1, 0, none⟩ = false) := fun O => (((Below.refl _ _).alloc (Nat.le_refl _) O).frozen (cell_lt bq6)).trans bf6; have HS6 : Hid (∀ O, w.heap.size + 1 < (w6.alloc O).heap.size) := fun O => Nat.lt_of_lt_of_le (cell_lt bq6) (by simp); have l6 : w.heap.size + 1 < w6.heap.size := cell_lt bq6; unfold stepV)))
      all_goals
        have HDN : Hid _ := DI.snoc hlt HD.out hx6' hr6 hp6 hI6 hN6 hgrow8 hown8 hat8
        have HSN : Hid (∀ t ∈ ss ++ [s], stepB t ((2 + z : Nat) : Int) = true) := by
          intro t ht
          rw [List.mem_append, List.mem_singleton] at ht
          rcases ht with ht | rfl
          · exact HST.out t ht
          · exact hs6
        clear hown8 hgrow8 hat8 bq8 bf8 bq6 bf6 hx6 hx6' hq6 hI6 hr6
        go_wp2
        go_roundw
        case rel => exact ⟨ss ++ [s], _, _, p6, by simp; omega, by simp, HDN.out, HSN.out⟩
        case measure => simp [intOf]; omega
    · have hki : ¬ ((ss.length : Int) + 1 < 2 + (z : Int)) := by omega
      have HNR : Hid (some (w.heap.size + 1) ≠ (Value.slice A n0 c).ownBlock) := fun e => by have h9 := (HD.out.row.lt _ e.symm).1; omega
      have HOK : Hid (okB (ss ++ [⟨7, 0, 0, 0, 0, 0, 0, []⟩]) = true) := by
        have e : ((ss ++ [(⟨7, 0, 0, 0, 0, 0, 0, []⟩ : St)]).length : Int) = ((2 + z : Nat) : Int) := by simp; omega
        rw [Hid, okB, Bool.and_eq_true, Bool.and_eq_true, decide_eq_true_eq, decide_eq_true_eq, List.all_eq_true]
        refine ⟨⟨by simp, by simp; omega⟩, fun t ht => ?_⟩
        rw [e]
        rw [List.mem_append, List.mem_singleton] at ht
        rcases ht with ht | rfl
        · exact HST.out t ht
        · rfl
      have HNS : Hid (some w.heap.size ≠ (Value.slice A n0 c).ownBlock) := fun e => by have h9 := (HD.out.row.lt _ e.symm).1; omega
      have rq := HD.out.res
      have rf := HD.out.resF
      have hrl : w.heap.size < wr.heap.size := by omega
      have HL : Hid (p' ≤ p + 400) := by rw [Hid]; omega
      go_wp2_with (at_builtin; refine wpList_append_lies _ rfl _ _ 28 rfl (w.heap.size + 2) 77 i1 (.agg #[.int .i64 0, .int .i64 0, .int .i64 0, .int .i64 0, .int .i64 0, .int .i64 0, .int .i64 0, .slice none 0 0]) 8 80 Try.underlying28 hj hy0 hy1 hy2 rfl (by decide) (.slice A n0 c) ss.length xs rfl (HD.out.row.alloc _) ⟨wr.heap.size, 0, none⟩ 1 1 (cells8D ⟨7, 0, 0, 0, 0, 0, 0, []⟩ (.slice none 0 0)) rfl rfl (cells8D_new wr ⟨7, 0, 0, 0, 0, 0, 0, []⟩ _ _ rfl) (cells8D_one _ _ _ _) (by decide) (by unfold maxLen; omega) (by omega) (by simp; omega) (wr.heap.size + 1) (by simp) ?_; intro g8 cap8 w8 hown8 hgrow8 hat8 hlt8; have bq8 := hgrow8.cell (cell_keep ((Below.refl _ _).alloc (Nat.le_refl _) _) bq) HNR.out; have bf8 := (hgrow8.frozen_far ⟨w.heap.size + 1, 0, none⟩ (Nat.lt_of_lt_of_le hbl (by simp)) HNR.out).trans ((((Below.refl _ _).alloc (Nat.le_refl _) _).frozen hbl).trans bf); have rq8 := hgrow8.cell (cell_keep ((Below.refl _ _).alloc (Nat.le_refl _) _) rq) HNS.out; have rf8 := (hgrow8.frozen_far ⟨w.heap.size, 0, none⟩ (Nat.lt_of_lt_of_le hrl (by simp)) HNS.out).trans ((((Below.refl _ _).alloc (Nat.le_refl _) _).frozen hrl).trans rf))
      have HDN : Hid _ := DI.snoc (s := ⟨7, 0, 0, 0, 0, 0, 0, []⟩) (nv := .slice none 0 0) hlt HD.out (Ex.refl rb wr) HD.out.rd (by omega) ⟨none, wr.heap.size, 0, 0, rfl, by simp, Nat.le_refl _, by simp⟩ nice_none hgrow8 hown8 hat8
      clear hown8 hgrow8 hat8
      have HF : Hid _ := HDN.out.last (x := .slice (some ⟨g8, 0, none⟩) (ss.length + 1) cap8) hlt
      go_wp2
      refine bodyPost_ret (v := .agg #[.slice (some ⟨g8, 0, none⟩) (ss.length + 1) cap8]) (by simp [results, Try.results62, go_sem, rq8]) rfl ?_
      exact HQ.out _ _ p' _ HOK.out (by simp; omega) HF.out.1 HF.out.2.1 HL.out HF.out.2.2
end Go.Proofs.Ytfbmeciolflgnaa
