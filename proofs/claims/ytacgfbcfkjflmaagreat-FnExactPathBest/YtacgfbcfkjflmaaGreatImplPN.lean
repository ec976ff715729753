/- The program's ways of moving: moves told by a view, made a Place; PlaceNone. -/
import Derived.Test.YtacgfbcfkjflmaaGreatSafeT
import Derived.Test.YtacgfbcfkjflmaaGreatPlaceB
import Derived.Deep.AppendLies
namespace Go.Proofs.YtacgfbcfkjflmaaGreat
open Go.RowKit

set_option maxRecDepth 100000 in
set_option maxHeartbeats 1000000 in
theorem noMoves_any {Q : Ending → World → Prop} {w : World} {V : Nat} {ss : List St} {e : E5} {ord : List Nat} {rs : List Bool} {A : Option Addr} {c og oc : Nat} {pv : Value} {bc bk : BitVec 64} (h : VS w V ss e ord rs A c og oc pv bc bk) (hok : okB ss = true)
    (hQ : ∀ W', Below w.heap.size w W' → w.heap.size < W'.heap.size → MRow W' w.heap.size 103 ss.length (fun _ => false) (fun _ => false) → Q (.returned (.slice (some ⟨w.heap.size, 0, none⟩) ss.length ss.length)) W') :
    Calls Tryz.prog 67 #[.pointer (some ⟨V, 0, none⟩)] w Q := by
  have HQ : Hid _ := hQ
  clear hQ
  have c0 := h.c0
  have hn := (ok_len hok).2
  clear h hok
  go_enter Tryz.func67, Tryz.ntmps67
  go_wp2_with (at_make; refine wpList_make_moves _ rfl (.tmp 7) (.tmp 7) 79 rfl 103 2 Tryz.underlying79 infoMove .i64 .i64 ss.length rfl rfl (by omega) (by omega) ?_)
  intro w1 hrow1 hb1 hs1
  have HR : Hid _ := hrow1
  have HB : Hid (Below w.heap.size w w1) := hb1
  have hs : w.heap.size < w1.heap.size := by omega
  clear hrow1 hb1 hs1
  go_wp2
  exact HQ.out _ HB.out hs HR.out

/-- What a way of looking at a view answers that tells moves. -/
def TellsM (ss : List St) (e : E5) (g : Nat) (P : List Bool → (Nat → Bool) → (Nat → Bool) → Prop) : Prop :=
  ∀ (w : World) (V : Nat) (ord : List Nat) (rs : List Bool) (A : Option Addr) (c og oc : Nat) (pv : Value) (bc bk : BitVec 64), VS w V ss e ord rs A c og oc pv bc bk → ∀ {Q : Ending → World → Prop},
    (∀ f t B W', Below w.heap.size w W' → w.heap.size ≤ B → P rs f t → MRow W' B 103 ss.length f t → Q (.returned (.slice (some ⟨B, 0, none⟩) ss.length ss.length)) W') → Calls Tryz.prog g #[.pointer (some ⟨V, 0, none⟩)] w Q

theorem none_tells {ss : List St} {e : E5} (hok : okB ss = true) : TellsM ss e 67 (IsNone ss e) := fun _ _ _ _ _ _ _ _ _ _ _ h _ hQ => noMoves_any h hok fun W' hb _ hr => hQ _ _ _ W' hb (Nat.le_refl _) (fun _ => ⟨rfl, rfl⟩) hr

/-- Moves of a program and a reckoning that are ok; else nothing. -/
def MovesOr (P : List St → E5 → List Bool → (Nat → Bool) → (Nat → Bool) → Prop) (ss : List St) (e : E5) (lo : Nat) (w : World) (v : Value) : Prop :=
  (okB ss = true ∧ exprB e = true ∧ ∃ rs f t B, IsReach ss rs ∧ P ss e rs f t ∧ v = .slice (some ⟨B, 0, none⟩) ss.length ss.length ∧ lo ≤ B ∧ MRow w B 103 ss.length f t) ∨ (¬ (okB ss = true ∧ exprB e = true) ∧ v = .slice none 0 0)

set_option maxRecDepth 100000 in
set_option maxHeartbeats 2000000 in
theorem seenM_any {Q : Ending → World → Prop} (P : List St → E5 → List Bool → (Nat → Bool) → (Nat → Bool) → Prop) (g : Nat) (eg : ∀ args w, (callFunc g args).run Tryz.prog w = .ok (.enter g args) w) (v : Value) (ss : List St) (e : E5) (w : World) (h : StepsAt w v ss) (hl : ss.length ≤ 1048576) (hls : ∀ s ∈ ss, s.next.length ≤ 1048576)
    (ht : okB ss = true → exprB e = true → TellsM ss e g (P ss e))
    (hQ : ∀ v' w', Below w.heap.size w w' → MovesOr P ss e w.heap.size w' v' → Q (.returned v') w') :
    Calls Tryz.prog 66 #[.agg #[v], .agg #[.int .i64 e.op, .int .i64 e.av, .int .i64 e.an, .int .i64 e.bv, .int .i64 e.bn], .func (.func g) #[] #[]] w Q := by
  have HQ : Hid _ := hQ
  obtain ⟨ao, b, o, cap, rfl, ha, hc⟩ := id h
  clear ha hc
  have HH : Hid (StepsAt w (.slice ao ss.length cap) ss) := h
  have HL : Hid (∀ s ∈ ss, s.next.length ≤ 1048576) := hls
  have HT : Hid (okB ss = true → exprB e = true → TellsM ss e g (P ss e)) := @ht
  clear hQ h hls ht
  have hb0 : ∀ O O', Below w.heap.size w ((w.alloc O).alloc O') := fun O O' => ((Below.refl _ _).alloc (Nat.le_refl _) O).alloc (by simp) O'
  have HXV : Hid (exV e = .agg #[.int .i64 e.op, .int .i64 e.av, .int .i64 e.an, .int .i64 e.bv, .int .i64 e.bn]) := rfl
  go_enter Tryz.func66, Tryz.ntmps66
  go_wp2_with fail
  refine implOk_any _ ss _ (HH.out.keep (hb0 _ _)) hl HL.out fun w2 hb2 => ?_
  have HB2 : Hid (Below w.heap.size w w2) := (hb0 _ _).trans (hb2.mono (by simp; omega))
  have q2 : w2.cell? ⟨w.heap.size, 0, none⟩ = some (.slice ao ss.length cap) := cell_keep hb2 (by simp [go_sem])
  have x0 : w2.cell? ⟨w.heap.size + 1, 0, none⟩ = some (.int .i64 e.op) := cell_keep hb2 (by simp [go_sem])
  have x1 : w2.cell? ⟨w.heap.size + 1, 1, none⟩ = some (.int .i64 e.av) := cell_keep hb2 (by simp [go_sem])
  have x2 : w2.cell? ⟨w.heap.size + 1, 2, none⟩ = some (.int .i64 e.an) := cell_keep hb2 (by simp [go_sem])
  have x3 : w2.cell? ⟨w.heap.size + 1, 3, none⟩ = some (.int .i64 e.bv) := cell_keep hb2 (by simp [go_sem])
  have x4 : w2.cell? ⟨w.heap.size + 1, 4, none⟩ = some (.int .i64 e.bn) := cell_keep hb2 (by simp [go_sem])
  clear hb2 hb0
  cases hok : okB ss
  · have HR : Hid (∀ X, MovesOr P ss e w.heap.size X (.slice none 0 0)) := fun _ => Or.inr ⟨by simp [hok], rfl⟩
    clear hok
    go_wp2
    exact HQ.out _ _ HB2.out (HR.out _)
  have HOK : Hid (okB ss = true) := hok
  have hn2 : ss.length ≤ 60 := (ok_len hok).2
  clear hok
  go_wp2_with fail
  rw [← HXV.out]
  refine implExprOk_any e _ fun w3 hb3 => ?_
  rw [HXV.out]
  have q3 := cell_keep hb3 q2
  have y0 := cell_keep hb3 x0
  have y1 := cell_keep hb3 x1
  have y2 := cell_keep hb3 x2
  have y3 := cell_keep hb3 x3
  have y4 := cell_keep hb3 x4
  have HB3 : Hid (Below w.heap.size w w3) := HB2.out.trans (hb3.mono HB2.out.size)
  clear hb3 q2 x0 x1 x2 x3 x4 HB2
  cases hex : exprB e
  · have HR : Hid (∀ X, MovesOr P ss e w.heap.size X (.slice none 0 0)) := fun _ => Or.inr ⟨by simp [hex], rfl⟩
    clear hex
    go_wp2
    exact HQ.out _ _ HB3.out (HR.out _)
  have HEX : Hid (exprB e = true) := hex
  clear hex
  go_wp2_with fail
  refine viewOf_any ao cap ss e _ (HH.out.keep HB3.out) HOK.out HEX.out fun V ord rs og oc pv bc bk w4 hb4 hv4 => ?_
  have HV4 : Hid _ := hv4
  have HB4 : Hid (Below w.heap.size w w4) := HB3.out.trans (hb4.mono HB3.out.size)
  clear hb4 hv4 q3 y0 y1 y2 y3 y4
  go_wp2_with fail
  refine HT.out HOK.out HEX.out w4 V ord rs ao cap og oc pv bc bk HV4.out fun f tt B w5 hb5 hB hP hr => ?_
  have HB5 : Hid (Below w.heap.size w w5) := HB4.out.trans (hb5.mono HB4.out.size)
  have HS : Hid (MovesOr P ss e w.heap.size w5 (.slice (some ⟨B, 0, none⟩) ss.length ss.length)) := Or.inl ⟨HOK.out, HEX.out, rs, f, tt, B, HV4.out.re, hP, rfl, Nat.le_trans HB4.out.size hB, hr⟩
  clear hb5 hB hP hr
  go_wp2
  exact HQ.out _ _ HB5.out HS.out

/-- A Place that is made of moves, one after the other. -/
structure PT (w wr : World) (n m : Nat) (f t : Nat → Bool) (pv tv : Value) : Prop where
  res : BoxP wr w.heap.size (.slice none 0 0) (.slice none 0 0)
  box : BoxP wr (w.heap.size + 1) pv tv
  bel : Below w.heap.size w wr
  o1 : wr.ownsRow (w.heap.size + 2) 4 1 pv n ((List.range n).map fun j => .bool (f j))
  o2 : wr.ownsRow (w.heap.size + 2) 4 1 tv m ((List.range m).map fun j => .bool (t j))
  ap : ∀ q, pv.ownBlock = some q → tv.ownBlock ≠ some q

theorem own_keep {lo : Nat} {w w' : World} {v : Value} {n : Nat} {xs : List Value} (h : w.ownsRow lo 4 1 v n xs) (hb : Below w.heap.size w w') : w'.ownsRow lo 4 1 v n xs := ownsRow_out h (Out.of_below (lo := 0) (hi := 0) hb) (fun _ _ => Or.inr (Nat.zero_le _))

theorem PT.keep {w wr wr' : World} {n m : Nat} {f t : Nat → Bool} {pv tv : Value} (h : PT w wr n m f t pv tv) (hb : Below wr.heap.size wr wr') : PT w wr' n m f t pv tv :=
  ⟨h.res.keep hb, h.box.keep hb, h.bel.trans (hb.mono h.bel.size), own_keep h.o1 hb, own_keep h.o2 hb, h.ap⟩

theorem PT.alloc {w wr : World} {n m : Nat} {f t : Nat → Bool} {pv tv : Value} (h : PT w wr n m f t pv tv) (O : Obj) : PT w (wr.alloc O) n m f t pv tv := h.keep ((Below.refl _ _).alloc (Nat.le_refl _) O)

theorem BoxP.grown {W W' : World} {B : Nat} {a b : Value} {row : Option Nat} (h : BoxP W B a b) (hg : W.grownBy W' row) (hr : row ≠ some B) : BoxP W' B a b := by
  have hk := hg.block B h.lt (fun e => hr e.symm)
  exact ⟨(World.cell?_of_block (w := W) (a := ⟨B, 0, none⟩) hk).trans h.c0, (World.cell?_of_block (w := W) (a := ⟨B, 1, none⟩) hk).trans h.c1, (World.frozen?_of_block (w := W) (a := ⟨B, 0, none⟩) hk).trans h.f0, (World.frozen?_of_block (w := W) (a := ⟨B, 1, none⟩) hk).trans h.f1⟩

theorem BoxP.set0 {W : World} {B : Nat} {a b u : Value} (h : BoxP W B a b) : BoxP (W.setCell ⟨B, 0, none⟩ u) B u b := by
  have := h.c0; have := h.c1; have := h.f0; have := h.f1
  exact ⟨by simp [go_sem, *], by simp [go_sem, *], by simp [go_sem, *], by simp [go_sem, *]⟩
theorem BoxP.set1 {W : World} {B : Nat} {a b u : Value} (h : BoxP W B a b) : BoxP (W.setCell ⟨B, 1, none⟩ u) B a u := by
  have := h.c0; have := h.c1; have := h.f0; have := h.f1
  exact ⟨by simp [go_sem, *], by simp [go_sem, *], by simp [go_sem, *], by simp [go_sem, *]⟩
theorem BoxP.far {W : World} {B : Nat} {a b u : Value} {p : Addr} (h : BoxP W B a b) (hp : B ≠ p.block) : BoxP (W.setCell p u) B a b := by
  have hk := Below.heap_setCell W p u B hp
  exact ⟨(World.cell?_of_block (w := W) (a := ⟨B, 0, none⟩) hk).trans h.c0, (World.cell?_of_block (w := W) (a := ⟨B, 1, none⟩) hk).trans h.c1, (World.frozen?_of_block (w := W) (a := ⟨B, 0, none⟩) hk).trans h.f0, (World.frozen?_of_block (w := W) (a := ⟨B, 1, none⟩) hk).trans h.f1⟩

theorem PT.grown {w wr w8 : World} {n m : Nat} {f t : Nat → Bool} {pv tv : Value} (h : PT w wr n m f t pv tv) {row : Option Nat} (hg : wr.grownBy w8 row) (hr : ∀ k, row = some k → w.heap.size + 2 ≤ k) : BoxP w8 w.heap.size (.slice none 0 0) (.slice none 0 0) ∧ BoxP w8 (w.heap.size + 1) pv tv ∧ Below w.heap.size w w8 :=
  ⟨h.res.grown hg fun e => by have := hr _ e; omega, h.box.grown hg fun e => by have := hr _ e; omega, h.bel.grown hg (by have := h.bel.size; omega) fun k hk => by have := hr k hk; omega⟩

theorem PT.put1 {w wr w8 : World} {n m : Nat} {f t : Nat → Bool} {pv tv : Value} (h : PT w wr n m f t pv tv) {g8 cap8 : Nat} (hg : wr.grownBy w8 pv.ownBlock)
    (hown : w8.ownsRow (w.heap.size + 2) 4 1 (.slice (some ⟨g8, 0, none⟩) (n + 1) cap8) (n + 1) (((List.range n).map fun j => .bool (f j)) ++ [.bool (f n)])) (hat : pv.ownBlock = some g8 ∨ wr.heap.size ≤ g8) :
    PT w (w8.setCell ⟨w.heap.size + 1, 0, none⟩ (.slice (some ⟨g8, 0, none⟩) (n + 1) cap8)) (n + 1) m f t (.slice (some ⟨g8, 0, none⟩) (n + 1) cap8) tv := by
  obtain ⟨b1, b2, b3⟩ := h.grown hg fun k hk => (h.o1.lt k hk).1
  have hgl := (World.ownsRow.lt hown g8 rfl).1
  have ho2 : w8.ownsRow (w.heap.size + 2) 4 1 tv m ((List.range m).map fun j => .bool (t j)) := h.o2.kept hg (by
    cases hb : tv.ownBlock with
    | none => exact Or.inl rfl
    | some q => exact Or.inr fun e2 => h.ap q e2.symm hb)
  refine ⟨b1.far (by show w.heap.size ≠ w.heap.size + 1; omega), b2.set0, b3.setCell (by show w.heap.size ≤ w.heap.size + 1; omega) _, ?_, ownsRow_setCell_below ho2 (by show w.heap.size + 1 < _; omega) _, fun q hq hq2 => ?_⟩
  · rw [List.range_succ, List.map_append]
    exact ownsRow_setCell_below hown (by show w.heap.size + 1 < _; omega) _
  · simp [Value.ownBlock] at hq
    subst hq
    rcases hat with h1 | h1
    · exact h.ap _ h1 hq2
    · have := (h.o2.lt _ hq2).2
      omega

theorem PT.put2 {w wr w8 : World} {n m : Nat} {f t : Nat → Bool} {pv tv : Value} (h : PT w wr n m f t pv tv) {g8 cap8 : Nat} (hg : wr.grownBy w8 tv.ownBlock)
    (hown : w8.ownsRow (w.heap.size + 2) 4 1 (.slice (some ⟨g8, 0, none⟩) (m + 1) cap8) (m + 1) (((List.range m).map fun j => .bool (t j)) ++ [.bool (t m)])) (hat : tv.ownBlock = some g8 ∨ wr.heap.size ≤ g8) :
    PT w (w8.setCell ⟨w.heap.size + 1, 1, none⟩ (.slice (some ⟨g8, 0, none⟩) (m + 1) cap8)) n (m + 1) f t pv (.slice (some ⟨g8, 0, none⟩) (m + 1) cap8) := by
  obtain ⟨b1, b2, b3⟩ := h.grown hg fun k hk => (h.o2.lt k hk).1
  have hgl := (World.ownsRow.lt hown g8 rfl).1
  have ho1 : w8.ownsRow (w.heap.size + 2) 4 1 pv n ((List.range n).map fun j => .bool (f j)) := h.o1.kept hg (by
    cases hb : pv.ownBlock with
    | none => exact Or.inl rfl
    | some q => exact Or.inr fun e2 => h.ap q hb e2.symm)
  refine ⟨b1.far (by show w.heap.size ≠ w.heap.size + 1; omega), b2.set1, b3.setCell (by show w.heap.size ≤ w.heap.size + 1; omega) _, ownsRow_setCell_below ho1 (by show w.heap.size + 1 < _; omega) _, ?_, fun q hq hq2 => ?_⟩
  · rw [List.range_succ, List.map_append]
    exact ownsRow_setCell_below hown (by show w.heap.size + 1 < _; omega) _
  · simp [Value.ownBlock] at hq2
    subst hq2
    rcases hat with h1 | h1
    · exact h.ap _ hq h1
    · have := (h.o1.lt _ hq).2
      omega

theorem PT.form1 {w wr : World} {n m : Nat} {f t : Nat → Bool} {pv tv : Value} (h : PT w wr n m f t pv tv) : ∃ A c, pv = .slice A n c := by
  rcases h.o1.2 with ⟨e, e2⟩ | ⟨g', c, _, e, _⟩
  · exact ⟨none, 0, by rw [e2]; exact e⟩
  · exact ⟨_, _, e⟩
theorem PT.form2 {w wr : World} {n m : Nat} {f t : Nat → Bool} {pv tv : Value} (h : PT w wr n m f t pv tv) : ∃ A c, tv = .slice A m c := by
  rcases h.o2.2 with ⟨e, e2⟩ | ⟨g', c, _, e, _⟩
  · exact ⟨none, 0, by rw [e2]; exact e⟩
  · exact ⟨_, _, e⟩

theorem bool_oneCell (b : Bool) : ∀ u ∈ [Value.bool b], u.oneCell' = true := by
  intro u hu; simp at hu; subst hu; rfl

theorem PT.place {w wr : World} {n : Nat} {f t : Nat → Bool} {pv tv : Value} (h : PT w wr n n f t pv tv) (u u' : Value) : PlaceO w.heap.size ((wr.setCell ⟨w.heap.size, 0, none⟩ u).setCell ⟨w.heap.size, 1, none⟩ u').heap.size ((wr.setCell ⟨w.heap.size, 0, none⟩ u).setCell ⟨w.heap.size, 1, none⟩ u') (.agg #[pv, tv]) ((List.range n).map f) ((List.range n).map t) := by
  have a1 := ownsRow_setCell_below (ownsRow_setCell_below h.o1 (by show w.heap.size < _; omega) u (a := ⟨w.heap.size, 0, none⟩)) (by show w.heap.size < _; omega) u' (a := ⟨w.heap.size, 1, none⟩)
  have a2 := ownsRow_setCell_below (ownsRow_setCell_below h.o2 (by show w.heap.size < _; omega) u (a := ⟨w.heap.size, 0, none⟩)) (by show w.heap.size < _; omega) u' (a := ⟨w.heap.size, 1, none⟩)
  refine ⟨_, _, rfl, BoolsOwn.of ?_, BoolsOwn.of ?_, h.ap⟩
  · rw [List.length_map, List.length_range, List.map_map]
    exact own_lower a1 (by omega)
  · rw [List.length_map, List.length_range, List.map_map]
    exact own_lower a2 (by omega)

set_option maxRecDepth 100000 in
set_option maxHeartbeats 4000000 in
theorem placeOf_any {Q : Ending → World → Prop} (w : World) (B n : Nat) (f t : Nat → Bool) (hr : MRow w B 103 n f t) (hn : n ≤ 60)
    (hQ : ∀ v' W', Below w.heap.size w W' → PlaceO w.heap.size W'.heap.size W' v' ((List.range n).map f) ((List.range n).map t) → Q (.returned v') W') :
    Calls Tryz.prog 65 #[.slice (some ⟨B, 0, none⟩) n n] w Q := by
  have HQ : Hid _ := hQ
  have HR : Hid (MRow w B 103 n f t) := hr
  clear hQ hr
  obtain ⟨i0, hi, hz0, hz1, hz2⟩ := info_partsK infoBoolK
  go_enter Tryz.func65, Tryz.ntmps65
  go_wp2_with fail
  have hpt : PT w ((w.alloc (.cells #[.slice none 0 0, .slice none 0 0] 49)).alloc (.cells #[.slice none 0 0, .slice none 0 0] 49)) 0 0 f t (.slice none 0 0) (.slice none 0 0) := by
    have h1 := BoxP.new w (.slice none 0 0) (.slice none 0 0) 49
    have h2 := BoxP.new (w.alloc (.cells #[.slice none 0 0, .slice none 0 0] 49)) (.slice none 0 0) (.slice none 0 0) 49
    rw [World.size_alloc] at h2
    exact ⟨h1.keep ((Below.refl _ _).alloc (Nat.le_refl _) _), h2, ((Below.refl _ _).alloc (Nat.le_refl _) _).alloc (by simp) _, World.ownsRow_nil _ _ _ _, World.ownsRow_nil _ _ _ _, fun q hq => by simp [Value.ownBlock] at hq⟩
  have HPT : Hid _ := hpt
  have hb0 := hpt.bel
  have hz : ((w.alloc (.cells #[.slice none 0 0, .slice none 0 0] 49)).alloc (.cells #[.slice none 0 0, .slice none 0 0] 49)).heap.size = w.heap.size + 2 := by simp
  generalize (w.alloc (.cells #[.slice none 0 0, .slice none 0 0] 49)).alloc (.cells #[.slice none 0 0, .slice none 0 0] 49) = W0 at *
  clear hpt hb0
  go_loopw [5, 8] (fun _ i wr => ∃ k pv tv, k ≤ n ∧ i = .int .i64 (k : Nat) ∧ PT w wr k k f t pv tv) (fun _ i _ => n - (intOf i).toNat)
  case atStart => exact ⟨0, _, _, Nat.zero_le _, rfl, HPT.out⟩
  case round =>
    clear HPT
    obtain ⟨k, pv, tv, hk, rfl, hpt⟩ := hrel
    have HP : Hid (PT w wr k k f t pv tv) := hpt
    obtain ⟨A1, a1, e1⟩ := hpt.form1
    obtain ⟨A2, a2, e2⟩ := hpt.form2
    subst e1
    subst e2
    have hsw := hpt.box.lt
    clear hpt
    by_cases hkn : k < n
    · have hki : (k : Int) < (n : Int) := by omega
      have cp := cell_keep HP.out.bel (HR.out.put hkn)
      have ct := cell_keep HP.out.bel (HR.out.take hkn)
      have b0 := HP.out.box.c0
      have b1 := HP.out.box.c1
      have hsw2 : w.heap.size + 2 ≤ wr.heap.size := by omega
      obtain ⟨fk, hfk⟩ : ∃ b, f k = b := ⟨_, rfl⟩
      obtain ⟨tk, htk⟩ : ∃ b, t k = b := ⟨_, rfl⟩
      rw [hfk] at cp
      rw [htk] at ct
      have HFK : Hid (f k = fk) := hfk
      have HTK : Hid (t k = tk) := htk
      have HP2 : Hid (PT w ((wr.alloc (.cells #[.bool fk, .bool tk] 103)).alloc (.cells #[.bool fk] 4)) k k f t (.slice A1 k a1) (.slice A2 k a2)) := (HP.out.alloc _).alloc _
      have HM2 : Hid (BoxP ((wr.alloc (.cells #[.bool fk, .bool tk] 103)).alloc (.cells #[.bool fk] 4)) wr.heap.size (.bool fk) (.bool tk)) := (BoxP.new wr _ _ _).keep ((Below.refl _ _).alloc (Nat.le_refl _) _)
      have HL1 : Hid (∀ q, (Value.slice A1 k a1).ownBlock = some q → q < wr.heap.size) := fun q hq => (HP.out.o1.lt q hq).2
      clear hfk htk
      go_upto_region 6 with (at_builtin; refine wpList_append_lies _ rfl _ _ 44 rfl (w.heap.size + 2) 4 i0 (.bool false) 1 1 Tryz.underlying44 hi hz0 hz1 hz2 rfl (by decide) (.slice A1 k a1) k ((List.range k).map fun j => .bool (f j)) rfl HP2.out.o1 ⟨wr.heap.size + 1, 0, none⟩ 1 1 [.bool fk] rfl rfl (cell_one_at (wr.alloc (.cells #[.bool fk, .bool tk] 103)) (.bool fk) 4 (by simp)) (bool_oneCell _) (by decide) (by unfold maxLen; omega) (by omega) (by simp; omega) (wr.heap.size + 2) (by simp) ?_; intro g8 cap8 w8 hown8 hgrow8 hat8 hlt8; have hg3 := HP2.out.grown hgrow8 (fun q hq => (HP2.out.o1.lt q hq).1); have e0 := hg3.2.1.c0; have e2 := hg3.2.1.f0)
      have hq8 := hgrow8.size
      simp only [World.size_alloc] at hq8
      have HP9 : Hid (PT w (w8.setCell ⟨w.heap.size + 1, 0, none⟩ (.slice (some ⟨g8, 0, none⟩) (k + 1) cap8)) (k + 1) k f t (.slice (some ⟨g8, 0, none⟩) (k + 1) cap8) (.slice A2 k a2)) := HP2.out.put1 hgrow8 (by rw [HFK.out]; exact hown8) (by
        rcases hat8 with h | h
        · exact Or.inl h
        · right; simp only [World.size_alloc]; omega)
      have HM9 : Hid (BoxP (w8.setCell ⟨w.heap.size + 1, 0, none⟩ (.slice (some ⟨g8, 0, none⟩) (k + 1) cap8)) wr.heap.size (.bool fk) (.bool tk)) := (HM2.out.grown hgrow8 (fun e => by have := HL1.out _ e; omega)).far (by show wr.heap.size ≠ w.heap.size + 1; omega)
      have HS9 : Hid (wr.heap.size + 2 ≤ (w8.setCell ⟨w.heap.size + 1, 0, none⟩ (.slice (some ⟨g8, 0, none⟩) (k + 1) cap8)).heap.size) := by rw [Hid, World.size_setCell]; omega
      clear hq8 hg3 e0 e2 hown8 hgrow8 hat8 hlt8 HP2 HM2 HL1 b0 b1 cp ct HP
      generalize w8.setCell ⟨w.heap.size + 1, 0, none⟩ (.slice (some ⟨g8, 0, none⟩) (k + 1) cap8) = w9 at *
      have c1 := HP9.out.box.c1
      have m1 := HM9.out.c1
      have hs9 : wr.heap.size + 2 ≤ w9.heap.size := HS9.out
      have hs10 : w.heap.size + 1 < w9.heap.size := HP9.out.box.lt
      have HP10 : Hid (PT w (w9.alloc (.cells #[.bool tk] 4)) (k + 1) k f t (.slice (some ⟨g8, 0, none⟩) (k + 1) cap8) (.slice A2 k a2)) := HP9.out.alloc _
      go_wp2_with (at_builtin; refine wpList_append_lies _ rfl _ _ 44 rfl (w.heap.size + 2) 4 i0 (.bool false) 1 1 Tryz.underlying44 hi hz0 hz1 hz2 rfl (by decide) (.slice A2 k a2) k ((List.range k).map fun j => .bool (t j)) rfl HP10.out.o2 ⟨w9.heap.size, 0, none⟩ 1 1 [.bool tk] rfl rfl (cell_one_new w9 _ _) (bool_oneCell _) (by decide) (by unfold maxLen; omega) (by omega) (by simp; omega) (w9.heap.size + 1) (by simp) ?_; intro g9 cap9 w10 hown9 hgrow9 hat9 hlt9; have hg4 := HP10.out.grown hgrow9 (fun q hq => (HP10.out.o2.lt q hq).1); have e1 := hg4.2.1.c1; have e3 := hg4.2.1.f1)
      go_roundw
      case rel =>
        refine ⟨k + 1, _, _, by omega, by go_num, HP10.out.put2 hgrow9 (by rw [HTK.out]; exact hown9) (by
          rcases hat9 with h | h
          · exact Or.inl h
          · right; simp only [World.size_alloc]; omega)⟩
      case measure => simp [intOf]; omega
    · have hki : ¬ (k : Int) < (n : Int) := by omega
      obtain rfl : k = n := by omega
      have r0 := HP.out.res.c0
      have r1 := HP.out.res.c1
      have r2 := HP.out.res.f0
      have r3 := HP.out.res.f1
      have b0 := HP.out.box.c0
      have b1 := HP.out.box.c1
      have HB : Hid (∀ u u', Below w.heap.size w ((wr.setCell ⟨w.heap.size, 0, none⟩ u).setCell ⟨w.heap.size, 1, none⟩ u')) := fun u u' => (HP.out.bel.setCell (Nat.le_refl _) u).setCell (Nat.le_refl _) u'
      have HO : Hid _ := HP.out.place
      go_wp2
      refine bodyPost_ret (v := .agg #[.slice A1 k a1, .slice A2 k a2]) (by simp [results, Tryz.results65, go_sem, r0, r1]) rfl ?_
      exact HQ.out _ _ (HB.out _ _) (HO.out _ _)

set_option maxRecDepth 100000 in
set_option maxHeartbeats 2000000 in
theorem placeOf_nil {Q : Ending → World → Prop} (w : World)
    (hQ : ∀ v' W', Below w.heap.size w W' → PlaceO w.heap.size W'.heap.size W' v' [] [] → Q (.returned v') W') :
    Calls Tryz.prog 65 #[.slice none 0 0] w Q := by
  have HQ : Hid _ := hQ
  clear hQ
  go_enter Tryz.func65, Tryz.ntmps65
  go_wp2_with fail
  have hpt : PT w ((w.alloc (.cells #[.slice none 0 0, .slice none 0 0] 49)).alloc (.cells #[.slice none 0 0, .slice none 0 0] 49)) 0 0 (fun _ => false) (fun _ => false) (.slice none 0 0) (.slice none 0 0) := by
    have h1 := BoxP.new w (.slice none 0 0) (.slice none 0 0) 49
    have h2 := BoxP.new (w.alloc (.cells #[.slice none 0 0, .slice none 0 0] 49)) (.slice none 0 0) (.slice none 0 0) 49
    rw [World.size_alloc] at h2
    exact ⟨h1.keep ((Below.refl _ _).alloc (Nat.le_refl _) _), h2, ((Below.refl _ _).alloc (Nat.le_refl _) _).alloc (by simp) _, World.ownsRow_nil _ _ _ _, World.ownsRow_nil _ _ _ _, fun q hq => by simp [Value.ownBlock] at hq⟩
  have HPT : Hid _ := hpt
  generalize (w.alloc (.cells #[.slice none 0 0, .slice none 0 0] 49)).alloc (.cells #[.slice none 0 0, .slice none 0 0] 49) = W0 at *
  clear hpt
  go_loopw [5, 8] (fun _ i wr => i = .int .i64 0 ∧ PT w wr 0 0 (fun _ => false) (fun _ => false) (.slice none 0 0) (.slice none 0 0)) (fun _ _ _ => 0)
  case atStart => exact ⟨rfl, HPT.out⟩
  case round =>
    clear HPT
    obtain ⟨rfl, hpt⟩ := hrel
    have r0 := hpt.res.c0
    have r1 := hpt.res.c1
    have r2 := hpt.res.f0
    have r3 := hpt.res.f1
    have b0 := hpt.box.c0
    have b1 := hpt.box.c1
    have HB : Hid (∀ u u', Below w.heap.size w ((wr.setCell ⟨w.heap.size, 0, none⟩ u).setCell ⟨w.heap.size, 1, none⟩ u')) := fun u u' => (hpt.bel.setCell (Nat.le_refl _) u).setCell (Nat.le_refl _) u'
    clear hpt
    go_wp2
    refine bodyPost_ret (v := .agg #[.slice none 0 0, .slice none 0 0]) (by simp [results, Tryz.results65, go_sem, r0, r1]) rfl ?_
    exact HQ.out _ _ (HB.out _ _) (PlaceO.nil _ _ _)

theorem PlaceO.high {lo hi hi' : Nat} {w : World} {v : Value} {ps ts : List Bool} (h : PlaceO lo hi w v ps ts) (hh : hi ≤ hi') : PlaceO lo hi' w v ps ts := by
  obtain ⟨ov, pv, e, h1, h2, h3⟩ := h
  exact ⟨ov, pv, e, ⟨h1.1, fun k hk => Nat.lt_of_lt_of_le (h1.2 k hk) hh⟩, ⟨h2.1, fun k hk => Nat.lt_of_lt_of_le (h2.2 k hk) hh⟩, h3⟩

set_option maxRecDepth 100000 in
set_option maxHeartbeats 2000000 in
theorem implPlaceNone_any {Q : Ending → World → Prop} (v : Value) (ss : List St) (e : E5) (w : World) (h : StepsAt w v ss) (hl : ss.length ≤ 1048576) (hls : ∀ s ∈ ss, s.next.length ≤ 1048576)
    (hQ : ∀ v' ps ts w', Below w.heap.size w w' → PlOr IsNone ss e ps ts → PlaceO w.heap.size w'.heap.size w' v' ps ts → Q (.returned v') w') :
    Calls Tryz.prog 30 #[.agg #[v], .agg #[.int .i64 e.op, .int .i64 e.av, .int .i64 e.an, .int .i64 e.bv, .int .i64 e.bn]] w Q := by
  have HQ : Hid _ := hQ
  clear hQ
  obtain ⟨ao, b, o, cap, rfl, ha, hc⟩ := id h
  have HH : Hid (StepsAt w (.slice ao ss.length cap) ss) := h
  have HL : Hid (∀ s ∈ ss, s.next.length ≤ 1048576) := hls
  clear ha hc h hls
  go_enter Tryz.func30, Tryz.ntmps30
  go_wp2_with fail
  have hb0 : Below w.heap.size w (((w.alloc (.cells #[.slice ao ss.length cap] 34)).alloc (.cells #[.int .i64 e.op, .int .i64 e.av, .int .i64 e.an, .int .i64 e.bv, .int .i64 e.bn] 38)).alloc (.cells #[.slice none 0 0, .slice none 0 0] 49)) := (((Below.refl _ _).alloc (Nat.le_refl _) _).alloc (by simp) _).alloc (by simp; omega) _
  have hbp := BoxP.new ((w.alloc (.cells #[.slice ao ss.length cap] 34)).alloc (.cells #[.int .i64 e.op, .int .i64 e.av, .int .i64 e.an, .int .i64 e.bv, .int .i64 e.bn] 38)) (.slice none 0 0) (.slice none 0 0) 49
  rw [show ((w.alloc (.cells #[.slice ao ss.length cap] 34)).alloc (.cells #[.int .i64 e.op, .int .i64 e.av, .int .i64 e.an, .int .i64 e.bv, .int .i64 e.bn] 38)).heap.size = w.heap.size + 1 + 1 by simp] at hbp
  generalize ((w.alloc (.cells #[.slice ao ss.length cap] 34)).alloc (.cells #[.int .i64 e.op, .int .i64 e.av, .int .i64 e.an, .int .i64 e.bv, .int .i64 e.bn] 38)).alloc (.cells #[.slice none 0 0, .slice none 0 0] 49) = W0 at *
  refine seenM_any IsNone 67 (enters_of Tryz.func67 (by kernel_rfl) rfl) _ ss e _ (HH.out.keep hb0) hl HL.out (fun hok _ => none_tells hok) fun v1 w1 hb1 hm1 => ?_
  have HB1 : Hid (Below w.heap.size w w1) := hb0.trans (hb1.mono hb0.size)
  have HP1 : Hid (BoxP w1 (w.heap.size + 1 + 1) (.slice none 0 0) (.slice none 0 0)) := hbp.keep hb1
  clear hb0 hbp hb1
  have key : ∀ (v2 : Value) (ps ts : List Bool) (w2 : World), Below w1.heap.size w1 w2 → PlOr IsNone ss e ps ts → PlaceO w1.heap.size w2.heap.size w2 v2 ps ts → ∃ A1 a1 A2 a2, v2 = .agg #[.slice A1 ps.length a1, .slice A2 ts.length a2] ∧ w2.cell? ⟨w.heap.size + 1 + 1, 0, none⟩ = some (.slice none 0 0) ∧ w2.cell? ⟨w.heap.size + 1 + 1, 1, none⟩ = some (.slice none 0 0) ∧ w2.frozen? ⟨w.heap.size + 1 + 1, 0, none⟩ = false ∧ w2.frozen? ⟨w.heap.size + 1 + 1, 1, none⟩ = false ∧
      Hid (∀ u u', Q (.returned (.agg #[.slice A1 ps.length a1, .slice A2 ts.length a2])) ((w2.setCell ⟨w.heap.size + 1 + 1, 0, none⟩ u).setCell ⟨w.heap.size + 1 + 1, 1, none⟩ u')) := fun v2 ps ts w2 hb2 hpl hpo => by
    obtain ⟨A1, a1, A2, a2, e1⟩ := hpo.form
    subst e1
    have hp2 := HP1.out.keep hb2
    have hlt := HP1.out.lt
    refine ⟨A1, a1, A2, a2, rfl, hp2.c0, hp2.c1, hp2.f0, hp2.f1, fun u u' => ?_⟩
    have hbw : Below w.heap.size w w2 := HB1.out.trans (hb2.mono HB1.out.size)
    have hou : Out (w.heap.size + 1 + 1) (w.heap.size + 1 + 1 + 1) w2 ((w2.setCell ⟨w.heap.size + 1 + 1, 0, none⟩ u).setCell ⟨w.heap.size + 1 + 1, 1, none⟩ u') := ((Out.refl _ _ _).setCell (p := ⟨w.heap.size + 1 + 1, 0, none⟩) (Nat.le_refl _) (Nat.lt_succ_self _) _).setCell (p := ⟨w.heap.size + 1 + 1, 1, none⟩) (Nat.le_refl _) (Nat.lt_succ_self _) _
    exact HQ.out _ ps ts _ (hbw.trans (hou.below (by omega) hbw.size)) hpl (((hpo.out hou (Or.inr (by omega))).lower (by omega)).high hou.size)
  rcases hm1 with ⟨hok, hex, rs, f, t, B, hre, hp, rfl, hB, hr⟩ | ⟨hno, rfl⟩
  · have hn := (ok_len hok).2
    have HPL : Hid (PlOr IsNone ss e ((List.range ss.length).map f) ((List.range ss.length).map t)) := Or.inl ⟨hok, hex, rs, f, t, hre, hp, rfl, rfl⟩
    have HR : Hid _ := hr
    clear hok hex hre hp hr
    go_wp2_with fail
    refine placeOf_any _ B ss.length f t HR.out hn fun v2 w2 hb2 hpo => ?_
    obtain ⟨A1, a1, A2, a2, e1, c0, c1, f0, f1, HF⟩ := key v2 _ _ w2 hb2 HPL.out hpo
    subst e1
    clear key hpo hb2
    go_wp2
    refine bodyPost_ret (v := .agg #[.slice A1 ((List.range ss.length).map f).length a1, .slice A2 ((List.range ss.length).map t).length a2]) (by simp [results, Tryz.results30, go_sem, c0, c1]) rfl ?_
    exact HF.out _ _
  · have HPL : Hid (PlOr IsNone ss e [] []) := Or.inr ⟨hno, rfl, rfl⟩
    clear hno
    go_wp2_with fail
    refine placeOf_nil _ fun v2 w2 hb2 hpo => ?_
    obtain ⟨A1, a1, A2, a2, e1, c0, c1, f0, f1, HF⟩ := key v2 _ _ w2 hb2 HPL.out hpo
    subst e1
    clear key hpo hb2
    go_wp2
    refine bodyPost_ret (v := .agg #[.slice A1 0 a1, .slice A2 0 a2]) (by simp [results, Tryz.results30, go_sem, c0, c1]) rfl ?_
    exact HF.out _ _
end Go.Proofs.YtacgfbcfkjflmaaGreat
