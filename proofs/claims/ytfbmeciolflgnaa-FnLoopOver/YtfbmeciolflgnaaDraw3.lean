/- The model's drawing of a step. -/
import Derived.Test.YtfbmeciolflgnaaDraw2
import Derived.Test.YtfbmeciolflgnaaPure
import Derived.Test.YtfbmeciolflgnaaNiceOwn
import Derived.Deep.RegionLawGrows
import Derived.OwnWalk
import Derived.Laws.OwnMore
namespace Go.Proofs.Ytfbmeciolflgnaa
open Go.RowKit

theorem opndB_of {v n : Int} (h : OpndD v n) : opndB v n = true := by
  unfold opndB inB
  rcases h with ⟨rfl, h1, h2⟩ | ⟨h1, h2, rfl⟩
  · simp [h1, h2]
  · rw [if_neg (by omega)]; simp [h1, h2]

theorem StepCells.ex {rb : Nat} {w w' : World} {b o : Nat} {s : St} {nv : Value} (h : StepCells w b o s nv) (hx : Ex rb w w') (hb : b ≠ rb) : StepCells w' b o s nv :=
  ⟨hx.cell h.c0 hb, hx.cell h.c1 hb, hx.cell h.c2 hb, hx.cell h.c3 hb, hx.cell h.c4 hb, hx.cell h.c5 hb, hx.cell h.c6 hb, hx.cell h.c7 hb⟩

theorem StepCells.zero {w : World} {b : Nat} {s : St} {nv : Value} (h : StepCells w b 0 s nv) :
    w.cell? ⟨b, 0, none⟩ = some (.int .i64 s.kind) ∧ w.cell? ⟨b, 1, none⟩ = some (.int .i64 s.dst) ∧ w.cell? ⟨b, 2, none⟩ = some (.int .i64 s.op) ∧ w.cell? ⟨b, 3, none⟩ = some (.int .i64 s.av) ∧ w.cell? ⟨b, 4, none⟩ = some (.int .i64 s.an) ∧ w.cell? ⟨b, 5, none⟩ = some (.int .i64 s.bv) ∧ w.cell? ⟨b, 6, none⟩ = some (.int .i64 s.bn) ∧ w.cell? ⟨b, 7, none⟩ = some nv :=
  ⟨h.c0, h.c1, h.c2, h.c3, h.c4, h.c5, h.c6, h.c7⟩

theorem Ex.frozen0 {rb : Nat} {w w' : World} (hx : Ex rb w w') {b : Nat} (hf : ∀ j, w.frozen? ⟨b, j, none⟩ = false) (hb : b < w.heap.size) (hr : b ≠ rb) : ∀ j, w'.frozen? ⟨b, j, none⟩ = false :=
  fun j => (hx.frozen (p := ⟨b, j, none⟩) hb hr).trans (hf j)

def step0 : St := ⟨0, 0, 0, 0, 0, 0, 0, []⟩

theorem IntsFrom.ex {rb lo : Nat} {w w' : World} {v : Value} {zs : List Int} (h : IntsFrom lo w v zs) (hx : Ex rb w w') (hr : rb < lo) : IntsFrom lo w' v zs := by
  obtain ⟨ao, b, o, cap, hv, ha, hlo, hc⟩ := h
  exact ⟨ao, b, o, cap, hv, ha, hlo, fun i hi => hx.cell (hc i hi) (by show b ≠ rb; omega)⟩

theorem IntsFrom.setOther {lo : Nat} {w : World} {zs : List Int} {b o cap : Nat} (h : ∀ i, i < zs.length → w.cell? ⟨b, o + i, none⟩ = some (.int .i64 (zs.getD i 0))) (hlo : lo ≤ b) : IntsFrom lo w (.slice (some ⟨b, o, none⟩) zs.length cap) zs :=
  ⟨_, b, o, cap, rfl, fun _ => rfl, hlo, h⟩

theorem one_int {lo : Nat} {w : World} {b : Nat} {x : Int} (h : w.cell? ⟨b, 0, none⟩ = some (.int .i64 x)) (hlo : lo ≤ b) : IntsFrom lo w (.slice (some ⟨b, 0, none⟩) 1 1) [x] := by
  refine ⟨_, b, 0, 1, rfl, fun _ => rfl, hlo, fun i hi => ?_⟩
  obtain rfl : i = 0 := by simpa using hi
  exact h

theorem frozen_alloc_lt {w : World} {o : Obj} {a : Addr} (h : a.block < w.heap.size) : (w.alloc o).frozen? a = w.frozen? a := World.frozen?_of_block (w := w) (Below.heap_alloc w o a.block h)

theorem Rd.alloc {w : World} {rb p : Nat} (h : Rd w rb p) (o : Obj) : Rd (w.alloc o) rb p := h.keep ((Below.refl _ _).alloc (Nat.le_refl _) _)

theorem infoIntD : (Try.prog.info? 3).map (fun i => (i.zero, i.size, i.bytes)) = some (some (.int .i64 0), 1, 8) := by kernel_rfl

theorem info_parts {t : TypeId} {z : Value} {n k : Nat} (h : (Try.prog.info? t).map (fun i => (i.zero, i.size, i.bytes)) = some (some z, n, k)) : ∃ i, Try.prog.info? t = some i ∧ i.zero = some z ∧ i.size = n ∧ i.bytes = k := by
  obtain ⟨i, hi, hz⟩ := Option.map_eq_some_iff.1 h
  simp only [Prod.mk.injEq] at hz
  exact ⟨i, hi, hz.1, hz.2.1, hz.2.2⟩

theorem one_old {w : World} {a : Addr} {x : Value} (h : w.cell? a = some x) : ∀ b, some a = some b → ∀ j u, [x][j]? = some u → w.cell? (b.add j) = some u := by
  intro b hb j u hu
  cases hb
  cases j with
  | zero => simp at hu; subst hu; exact h
  | succ j => simp at hu

theorem one_new {w : World} {a : Addr} {x : Value} (h : w.cell? a = some x) : ∀ j u, [x][j]? = some u → w.cell? (a.add j) = some u := one_old h a rfl

theorem own2 {w : World} {lo : Nat} {e : TypeId} {v : Value} {x y : Value} (h : w.ownsRow lo e 1 v (1 + 1) ([x] ++ [y])) :
    ∃ g cap, v = .slice (some ⟨g, 0, none⟩) 2 cap ∧ lo ≤ g ∧ w.cell? ⟨g, 0, none⟩ = some x ∧ w.cell? ⟨g, 1, none⟩ = some y := by
  rcases id h.2 with ⟨_, h0⟩ | ⟨g, cap, cur, hv, hg, _⟩
  · omega
  · subst hv
    exact ⟨g, cap, rfl, hg, h.cellAt 0 (by omega), h.cellAt 1 (by omega)⟩

theorem two_ints {lo : Nat} {w : World} {g cap : Nat} {x y : Int} (h0 : w.cell? ⟨g, 0, none⟩ = some (.int .i64 x)) (h1 : w.cell? ⟨g, 1, none⟩ = some (.int .i64 y)) (hlo : lo ≤ g) : IntsFrom lo w (.slice (some ⟨g, 0, none⟩) 2 cap) [x, y] := by
  refine ⟨_, g, 0, cap, rfl, fun _ => rfl, hlo, fun i hi => ?_⟩
  rcases (by simp at hi; omega : i = 0 ∨ i = 1) with rfl | rfl
  · exact h0
  · exact h1

theorem ex_grown {rb : Nat} {a w w' : World} {o : Obj} (h : Ex rb a w) (hb : Below (w.heap.size + 1) (w.alloc o) w') : Ex rb a w' := (h.alloc o).trans (Ex.of_below (by simpa using hb))

theorem rd_grown {rb p : Nat} {w w' : World} {o : Obj} (h : Rd w rb p) (hb : Below (w.heap.size + 1) (w.alloc o) w') : Rd w' rb p := (h.alloc o).keep (by simpa using hb)

theorem nil_ints {lo : Nat} {w : World} : IntsFrom lo w (.slice none 0 0) [] := ⟨none, lo, 0, 0, rfl, by simp, Nat.le_refl _, by simp⟩

set_option maxHeartbeats 4000000 in
set_option maxRecDepth 100000 in
theorem l71Step_any {Q : Ending → World → Prop} (rb p at0 n : Nat) (w : World) (h : Rd w rb p) (hp : p + 20 ≤ 1000000) (hn : 0 < n) (hn' : n ≤ 1000) (hat : at0 ≤ 1000)
    (hQ : ∀ (s : St) (nv : Value) (p' : Nat) w', stepB s n = true → IntsFrom w.heap.size w' nv s.next → Nice nv → Rd w' rb p' → p' ≤ p + 20 → Ex rb w w' → Q (.returned (stepV s nv)) w') :
    Calls Try.prog 78 #[.pointer (some ⟨rb, 0, none⟩), .int .i64 at0, .int .i64 n] w Q := by
  have HQ : Hid _ := hQ
  clear hQ
  have hlt := h.lt
  go_enter Try.func78, Try.ntmps78
  go_wp2_with fail
  refine l71Next_any rb p at0 n _ (h.keep ((Below.refl _ _).alloc (Nat.le_refl _) _)) (by omega) hn hn' hat fun v p1 w1 hv hr1 hp1 hx1 => ?_
  have e6 : StepCells w1 w.heap.size 0 step0 (.slice none 0 0) := StepCells.ex (w := w.alloc (.cells #[.int .i64 0, .int .i64 0, .int .i64 0, .int .i64 0, .int .i64 0, .int .i64 0, .int .i64 0, .slice none 0 0] 77)) ⟨by simp [go_sem, step0], by simp [go_sem, step0], by simp [go_sem, step0], by simp [go_sem, step0], by simp [go_sem, step0], by simp [go_sem, step0], by simp [go_sem, step0], by simp [go_sem]⟩ hx1 (by omega)
  have f6 : ∀ j, w1.frozen? ⟨w.heap.size, j, none⟩ = false := Ex.frozen0 hx1 (by simp [go_sem]) (by simp) (by omega)
  have hxA : Ex rb w w1 := ((Ex.refl _ _).alloc _).trans hx1
  have hs1 : w.heap.size < w1.heap.size := Nat.lt_of_lt_of_le (by simp) hx1.size
  clear hx1
  go_wp2_with fail
  have hbB : ∀ O1 O2, Below w1.heap.size w1 ((w1.alloc O1).alloc O2) := fun O1 O2 => ((Below.refl _ _).alloc (Nat.le_refl _) _).alloc (by simp) _
  refine pick_any rb p1 _ _ ((hr1.keep ((Below.refl _ _).alloc (Nat.le_refl _) _)).keep ((Below.refl _ _).alloc (Nat.le_refl _) _)) (by omega) (by omega) fun z w2 hz hr2 hx2 => ?_
  have e62 : StepCells w2 w.heap.size 0 step0 (.slice none 0 0) := StepCells.ex (e6.keep (hbB _ _)) hx2 (by omega)
  have f62 : ∀ j, w2.frozen? ⟨w.heap.size, j, none⟩ = false := Ex.frozen0 hx2 (fun j => ((hbB _ _).frozen (by simp; omega)).trans (f6 j)) (by simp; omega) (by omega)
  have e72 : StepCells w2 (w1.heap.size + 1) 0 ⟨1, 0, 0, 0, 0, 0, 0, [(v : Int)]⟩ (.slice (some ⟨w1.heap.size, 0, none⟩) 1 1) := StepCells.ex (w := (w1.alloc (.cells #[.int .i64 (v : Int)] 3)).alloc (.cells #[.int .i64 1, .int .i64 0, .int .i64 0, .int .i64 0, .int .i64 0, .int .i64 0, .int .i64 0, .slice (some ⟨w1.heap.size, 0, none⟩) 1 1] 77)) ⟨by simp [go_sem], by simp [go_sem], by simp [go_sem], by simp [go_sem], by simp [go_sem], by simp [go_sem], by simp [go_sem], by simp [go_sem]⟩ hx2 (by omega)
  have f72 : ∀ j, w2.frozen? ⟨w1.heap.size + 1, j, none⟩ = false := Ex.frozen0 hx2 (fun j => by simp [go_sem]) (by simp) (by omega)
  have cR2 : w2.cell? ⟨w1.heap.size, 0, none⟩ = some (.int .i64 v) := hx2.cell (by simp [go_sem]) (by simp; omega)
  have hxB : Ex rb w w2 := ((hxA.alloc _).alloc _).trans hx2
  have hs2 : w1.heap.size + 1 < w2.heap.size := Nat.lt_of_lt_of_le (by simp) hx2.size
  have HX : Hid _ := hxB
  have H6 : Hid _ := e62
  have H7 : Hid _ := e72
  have HR : Hid _ := cR2
  have F6 : Hid _ := f62
  have F7 : Hid _ := f72
  clear hbB hxA hxB hx2 e6 f6 e62 e72 f62 f72 cR2 hr1 h
  have ne1 : ¬ w.heap.size = w1.heap.size + 1 := by omega
  have ne2 : ¬ w1.heap.size + 1 = w.heap.size := by omega
  have ne3 : ¬ w1.heap.size = w1.heap.size + 1 := by omega
  have ne4 : ¬ w1.heap.size = w.heap.size := by omega
  have ne5 : ¬ w.heap.size = w1.heap.size := by omega
  have ne6 : ¬ w1.heap.size + 1 = w1.heap.size := by omega
  have hvn : (v : Int) ≤ (n : Int) - 1 := by omega
  by_cases h6 : z = 6
  · subst h6
    have g6 := F6.out
    have g7 := F7.out
    have gR := HR.out
    have HX3 := HX
    have hs3 := hs2
    obtain ⟨a0, a1, a2, a3, a4, a5, a6, a7⟩ := H6.out.zero
    obtain ⟨b0, b1, b2, b3, b4, b5, b6, b7⟩ := H7.out.zero
    simp only [step0] at a0 a1 a2 a3 a4 a5 a6
    go_wp2_with fail
    refine pick_any rb (p1 + 1) _ _ (hr2.setCell (by first | (show rb < w1.heap.size + 1; omega) | (show rb < w.heap.size; omega)) _) (by omega) (by omega) fun z3 w3 hz3 hr3 hx3 => ?_
    have hd : (z3 : Int) < 3 := hz3 (by omega)
    have k6n : StepCells w3 w.heap.size 0 step0 (.slice none 0 0) := StepCells.ex ⟨by simp [go_sem, step0, a0], by simp [go_sem, step0, a1], by simp [go_sem, step0, a2], by simp [go_sem, step0, a3], by simp [go_sem, step0, a4], by simp [go_sem, step0, a5], by simp [go_sem, step0, a6], by simp [go_sem, a7]⟩ hx3 (by omega)
    have k7n : StepCells w3 (w1.heap.size + 1) 0 ⟨3, 0, 0, 0, 0, 0, 0, [(v : Int)]⟩ (.slice (some ⟨w1.heap.size, 0, none⟩) 1 1) := StepCells.ex ⟨by simp [go_sem, b0], by simp [go_sem, b1], by simp [go_sem, b2], by simp [go_sem, b3], by simp [go_sem, b4], by simp [go_sem, b5], by simp [go_sem, b6], by simp [go_sem, b7]⟩ hx3 (by omega)
    have g6n : ∀ j, w3.frozen? ⟨w.heap.size, j, none⟩ = false := Ex.frozen0 hx3 (fun j => by simp [go_sem, g6]) (by first | omega | (simp [World.setCell]; omega)) (by omega)
    have g7n : ∀ j, w3.frozen? ⟨w1.heap.size + 1, j, none⟩ = false := Ex.frozen0 hx3 (fun j => by simp [go_sem, g7]) (by first | omega | (simp [World.setCell]; omega)) (by omega)
    have gRn : w3.cell? ⟨w1.heap.size, 0, none⟩ = some (.int .i64 v) := Ex.cell hx3 (by simp [go_sem, gR]) (by show w1.heap.size ≠ rb; omega)
    have hs3n : w1.heap.size + 1 < w3.heap.size := Nat.lt_of_lt_of_le (by first | omega | (simp [World.setCell]; omega)) hx3.size
    have HX3n : Hid (Ex rb w w3) := (HX3.out.setCell (Or.inr (by first | (show w.heap.size ≤ w1.heap.size + 1; omega) | (show w.heap.size ≤ w.heap.size; omega))) _).trans hx3
    clear hx3 a0 a1 a2 a3 a4 a5 a6 a7 b0 b1 b2 b3 b4 b5 b6 b7 g6 g7 gR HX3 hs3
    have g6 := g6n
    have g7 := g7n
    have gR := gRn
    have HX3 := HX3n
    have hs3 := hs3n
    clear g6n g7n gRn HX3n hs3n
    obtain ⟨a0, a1, a2, a3, a4, a5, a6, a7⟩ := k6n.zero
    obtain ⟨b0, b1, b2, b3, b4, b5, b6, b7⟩ := k7n.zero
    simp only [step0] at a0 a1 a2 a3 a4 a5 a6
    clear k6n k7n
    go_wp2
    refine bodyPost_ret (v := stepV ⟨3, (z3 : Int), 0, 0, 0, 0, 0, [(v : Int)]⟩ (.slice (some ⟨w1.heap.size, 0, none⟩) 1 1)) (by simp [results, Try.results78, go_sem, stepV, a0, a1, a2, a3, a4, a5, a6, a7]) rfl ?_
    refine HQ.out ⟨3, (z3 : Int), 0, 0, 0, 0, 0, [(v : Int)]⟩ (.slice (some ⟨w1.heap.size, 0, none⟩) 1 1) (p1 + 1 + 1) _ (by simp [stepB, many, restB, noneB, inB, hvn]; omega) (one_int (by simp [go_sem, gR]) (by omega)) (by first | exact nice_some _ _ _ | exact nice_none) ?_ (by omega) ?_
    · iterate 9 refine Rd.setCell ?_ (by first | (show rb < w1.heap.size + 1; omega) | (show rb < w.heap.size; omega)) _
      exact hr3
    · iterate 9 refine Ex.setCell ?_ (Or.inr (by first | (show w.heap.size ≤ w1.heap.size + 1; omega) | (show w.heap.size ≤ w.heap.size; omega))) _
      exact HX3.out
  by_cases h5 : z = 5
  · subst h5
    have g6 := F6.out
    have g7 := F7.out
    have gR := HR.out
    have HX3 := HX
    have hs3 := hs2
    obtain ⟨a0, a1, a2, a3, a4, a5, a6, a7⟩ := H6.out.zero
    obtain ⟨b0, b1, b2, b3, b4, b5, b6, b7⟩ := H7.out.zero
    simp only [step0] at a0 a1 a2 a3 a4 a5 a6
    go_wp2_with fail
    refine pick_any rb (p1 + 1) _ _ (hr2.setCell (by first | (show rb < w1.heap.size + 1; omega) | (show rb < w.heap.size; omega)) _) (by omega) (by omega) fun z3 w3 hz3 hr3 hx3 => ?_
    have hd : (z3 : Int) < 5 := hz3 (by omega)
    have k6n : StepCells w3 w.heap.size 0 step0 (.slice none 0 0) := StepCells.ex ⟨by simp [go_sem, step0, a0], by simp [go_sem, step0, a1], by simp [go_sem, step0, a2], by simp [go_sem, step0, a3], by simp [go_sem, step0, a4], by simp [go_sem, step0, a5], by simp [go_sem, step0, a6], by simp [go_sem, a7]⟩ hx3 (by omega)
    have k7n : StepCells w3 (w1.heap.size + 1) 0 ⟨2, 0, 0, 0, 0, 0, 0, [(v : Int)]⟩ (.slice (some ⟨w1.heap.size, 0, none⟩) 1 1) := StepCells.ex ⟨by simp [go_sem, b0], by simp [go_sem, b1], by simp [go_sem, b2], by simp [go_sem, b3], by simp [go_sem, b4], by simp [go_sem, b5], by simp [go_sem, b6], by simp [go_sem, b7]⟩ hx3 (by omega)
    have g6n : ∀ j, w3.frozen? ⟨w.heap.size, j, none⟩ = false := Ex.frozen0 hx3 (fun j => by simp [go_sem, g6]) (by first | omega | (simp [World.setCell]; omega)) (by omega)
    have g7n : ∀ j, w3.frozen? ⟨w1.heap.size + 1, j, none⟩ = false := Ex.frozen0 hx3 (fun j => by simp [go_sem, g7]) (by first | omega | (simp [World.setCell]; omega)) (by omega)
    have gRn : w3.cell? ⟨w1.heap.size, 0, none⟩ = some (.int .i64 v) := Ex.cell hx3 (by simp [go_sem, gR]) (by show w1.heap.size ≠ rb; omega)
    have hs3n : w1.heap.size + 1 < w3.heap.size := Nat.lt_of_lt_of_le (by first | omega | (simp [World.setCell]; omega)) hx3.size
    have HX3n : Hid (Ex rb w w3) := (HX3.out.setCell (Or.inr (by first | (show w.heap.size ≤ w1.heap.size + 1; omega) | (show w.heap.size ≤ w.heap.size; omega))) _).trans hx3
    clear hx3 a0 a1 a2 a3 a4 a5 a6 a7 b0 b1 b2 b3 b4 b5 b6 b7 g6 g7 gR HX3 hs3
    have g6 := g6n
    have g7 := g7n
    have gR := gRn
    have HX3 := HX3n
    have hs3 := hs3n
    clear g6n g7n gRn HX3n hs3n
    obtain ⟨a0, a1, a2, a3, a4, a5, a6, a7⟩ := k6n.zero
    obtain ⟨b0, b1, b2, b3, b4, b5, b6, b7⟩ := k7n.zero
    simp only [step0] at a0 a1 a2 a3 a4 a5 a6
    clear k6n k7n
    go_wp2_with fail
    refine l71Opnd_any rb (p1 + 1 + 1) _ (hr3.setCell (by first | (show rb < w1.heap.size + 1; omega) | (show rb < w.heap.size; omega)) _) (by omega) fun av an p4 w4 ho hr4 hp4 hx4 => ?_
    have ho' := opndB_of ho
    have k6n : StepCells w4 w.heap.size 0 step0 (.slice none 0 0) := StepCells.ex ⟨by simp [go_sem, step0, a0], by simp [go_sem, step0, a1], by simp [go_sem, step0, a2], by simp [go_sem, step0, a3], by simp [go_sem, step0, a4], by simp [go_sem, step0, a5], by simp [go_sem, step0, a6], by simp [go_sem, a7]⟩ hx4 (by omega)
    have k7n : StepCells w4 (w1.heap.size + 1) 0 ⟨2, (z3 : Int), 0, 0, 0, 0, 0, [(v : Int)]⟩ (.slice (some ⟨w1.heap.size, 0, none⟩) 1 1) := StepCells.ex ⟨by simp [go_sem, b0], by simp [go_sem, b1], by simp [go_sem, b2], by simp [go_sem, b3], by simp [go_sem, b4], by simp [go_sem, b5], by simp [go_sem, b6], by simp [go_sem, b7]⟩ hx4 (by omega)
    have g6n : ∀ j, w4.frozen? ⟨w.heap.size, j, none⟩ = false := Ex.frozen0 hx4 (fun j => by simp [go_sem, g6]) (by first | omega | (simp [World.setCell]; omega)) (by omega)
    have g7n : ∀ j, w4.frozen? ⟨w1.heap.size + 1, j, none⟩ = false := Ex.frozen0 hx4 (fun j => by simp [go_sem, g7]) (by first | omega | (simp [World.setCell]; omega)) (by omega)
    have gRn : w4.cell? ⟨w1.heap.size, 0, none⟩ = some (.int .i64 v) := Ex.cell hx4 (by simp [go_sem, gR]) (by show w1.heap.size ≠ rb; omega)
    have hs3n : w1.heap.size + 1 < w4.heap.size := Nat.lt_of_lt_of_le (by first | omega | (simp [World.setCell]; omega)) hx4.size
    have HX3n : Hid (Ex rb w w4) := (HX3.out.setCell (Or.inr (by first | (show w.heap.size ≤ w1.heap.size + 1; omega) | (show w.heap.size ≤ w.heap.size; omega))) _).trans hx4
    clear hx4 a0 a1 a2 a3 a4 a5 a6 a7 b0 b1 b2 b3 b4 b5 b6 b7 g6 g7 gR HX3 hs3
    have g6 := g6n
    have g7 := g7n
    have gR := gRn
    have HX3 := HX3n
    have hs3 := hs3n
    clear g6n g7n gRn HX3n hs3n
    obtain ⟨a0, a1, a2, a3, a4, a5, a6, a7⟩ := k6n.zero
    obtain ⟨b0, b1, b2, b3, b4, b5, b6, b7⟩ := k7n.zero
    simp only [step0] at a0 a1 a2 a3 a4 a5 a6
    clear k6n k7n
    go_wp2
    refine bodyPost_ret (v := stepV ⟨2, (z3 : Int), 0, av, an, 0, 0, [(v : Int)]⟩ (.slice (some ⟨w1.heap.size, 0, none⟩) 1 1)) (by simp [results, Try.results78, go_sem, stepV, a0, a1, a2, a3, a4, a5, a6, a7]) rfl ?_
    refine HQ.out ⟨2, (z3 : Int), 0, av, an, 0, 0, [(v : Int)]⟩ (.slice (some ⟨w1.heap.size, 0, none⟩) 1 1) (p4) _ (by simp [stepB, many, restB, noneB, inB, hvn, ho']; omega) (one_int (by simp [go_sem, gR]) (by omega)) (by first | exact nice_some _ _ _ | exact nice_none) ?_ (by omega) ?_
    · iterate 10 refine Rd.setCell ?_ (by first | (show rb < w1.heap.size + 1; omega) | (show rb < w.heap.size; omega)) _
      exact hr4
    · iterate 10 refine Ex.setCell ?_ (Or.inr (by first | (show w.heap.size ≤ w1.heap.size + 1; omega) | (show w.heap.size ≤ w.heap.size; omega))) _
      exact HX3.out
  by_cases h7 : z = 7
  · subst h7
    have g6 := F6.out
    have g7 := F7.out
    have gR := HR.out
    have HX3 := HX
    have hs3 := hs2
    obtain ⟨a0, a1, a2, a3, a4, a5, a6, a7⟩ := H6.out.zero
    obtain ⟨b0, b1, b2, b3, b4, b5, b6, b7⟩ := H7.out.zero
    simp only [step0] at a0 a1 a2 a3 a4 a5 a6
    go_wp2_with fail
    refine pick_any rb (p1 + 1) _ _ (hr2.setCell (by first | (show rb < w1.heap.size + 1; omega) | (show rb < w.heap.size; omega)) _) (by omega) (by omega) fun z3 w3 hz3 hr3 hx3 => ?_
    have hd : (z3 : Int) < 5 := hz3 (by omega)
    have ho' : opndB (z3 : Int) 0 = true := opndB_of (Or.inr ⟨by omega, by omega, rfl⟩)
    have k6n : StepCells w3 w.heap.size 0 step0 (.slice none 0 0) := StepCells.ex ⟨by simp [go_sem, step0, a0], by simp [go_sem, step0, a1], by simp [go_sem, step0, a2], by simp [go_sem, step0, a3], by simp [go_sem, step0, a4], by simp [go_sem, step0, a5], by simp [go_sem, step0, a6], by simp [go_sem, a7]⟩ hx3 (by omega)
    have k7n : StepCells w3 (w1.heap.size + 1) 0 ⟨4, 0, 0, 0, 0, 0, 0, [(v : Int)]⟩ (.slice (some ⟨w1.heap.size, 0, none⟩) 1 1) := StepCells.ex ⟨by simp [go_sem, b0], by simp [go_sem, b1], by simp [go_sem, b2], by simp [go_sem, b3], by simp [go_sem, b4], by simp [go_sem, b5], by simp [go_sem, b6], by simp [go_sem, b7]⟩ hx3 (by omega)
    have g6n : ∀ j, w3.frozen? ⟨w.heap.size, j, none⟩ = false := Ex.frozen0 hx3 (fun j => by simp [go_sem, g6]) (by first | omega | (simp [World.setCell]; omega)) (by omega)
    have g7n : ∀ j, w3.frozen? ⟨w1.heap.size + 1, j, none⟩ = false := Ex.frozen0 hx3 (fun j => by simp [go_sem, g7]) (by first | omega | (simp [World.setCell]; omega)) (by omega)
    have gRn : w3.cell? ⟨w1.heap.size, 0, none⟩ = some (.int .i64 v) := Ex.cell hx3 (by simp [go_sem, gR]) (by show w1.heap.size ≠ rb; omega)
    have hs3n : w1.heap.size + 1 < w3.heap.size := Nat.lt_of_lt_of_le (by first | omega | (simp [World.setCell]; omega)) hx3.size
    have HX3n : Hid (Ex rb w w3) := (HX3.out.setCell (Or.inr (by first | (show w.heap.size ≤ w1.heap.size + 1; omega) | (show w.heap.size ≤ w.heap.size; omega))) _).trans hx3
    clear hx3 a0 a1 a2 a3 a4 a5 a6 a7 b0 b1 b2 b3 b4 b5 b6 b7 g6 g7 gR HX3 hs3
    have g6 := g6n
    have g7 := g7n
    have gR := gRn
    have HX3 := HX3n
    have hs3 := hs3n
    clear g6n g7n gRn HX3n hs3n
    obtain ⟨a0, a1, a2, a3, a4, a5, a6, a7⟩ := k6n.zero
    obtain ⟨b0, b1, b2, b3, b4, b5, b6, b7⟩ := k7n.zero
    simp only [step0] at a0 a1 a2 a3 a4 a5 a6
    clear k6n k7n
    go_wp2
    refine bodyPost_ret (v := stepV ⟨4, 0, 0, (z3 : Int), 0, 0, 0, [(v : Int)]⟩ (.slice (some ⟨w1.heap.size, 0, none⟩) 1 1)) (by simp [results, Try.results78, go_sem, stepV, a0, a1, a2, a3, a4, a5, a6, a7]) rfl ?_
    refine HQ.out ⟨4, 0, 0, (z3 : Int), 0, 0, 0, [(v : Int)]⟩ (.slice (some ⟨w1.heap.size, 0, none⟩) 1 1) (p1 + 1 + 1) _ (by simp [stepB, many, restB, noneB, inB, hvn, ho']) (one_int (by simp [go_sem, gR]) (by omega)) (by first | exact nice_some _ _ _ | exact nice_none) ?_ (by omega) ?_
    · iterate 10 refine Rd.setCell ?_ (by first | (show rb < w1.heap.size + 1; omega) | (show rb < w.heap.size; omega)) _
      exact hr3
    · iterate 10 refine Ex.setCell ?_ (Or.inr (by first | (show w.heap.size ≤ w1.heap.size + 1; omega) | (show w.heap.size ≤ w.heap.size; omega))) _
      exact HX3.out
  by_cases h11 : z = 11
  · subst h11
    have g6 := F6.out
    have g7 := F7.out
    have gR := HR.out
    have HX3 := HX
    have hs3 := hs2
    obtain ⟨a0, a1, a2, a3, a4, a5, a6, a7⟩ := H6.out.zero
    obtain ⟨b0, b1, b2, b3, b4, b5, b6, b7⟩ := H7.out.zero
    simp only [step0] at a0 a1 a2 a3 a4 a5 a6
    go_wp2_with fail
    refine pick_any rb (p1 + 1) _ _ (hr2.setCell (by first | (show rb < w1.heap.size + 1; omega) | (show rb < w.heap.size; omega)) _) (by omega) (by omega) fun z3 w3 hz3 hr3 hx3 => ?_
    have k6n : StepCells w3 w.heap.size 0 step0 (.slice none 0 0) := StepCells.ex ⟨by simp [go_sem, step0, a0], by simp [go_sem, step0, a1], by simp [go_sem, step0, a2], by simp [go_sem, step0, a3], by simp [go_sem, step0, a4], by simp [go_sem, step0, a5], by simp [go_sem, step0, a6], by simp [go_sem, a7]⟩ hx3 (by omega)
    have k7n : StepCells w3 (w1.heap.size + 1) 0 ⟨6, 0, 0, 0, 0, 0, 0, [(v : Int)]⟩ (.slice (some ⟨w1.heap.size, 0, none⟩) 1 1) := StepCells.ex ⟨by simp [go_sem, b0], by simp [go_sem, b1], by simp [go_sem, b2], by simp [go_sem, b3], by simp [go_sem, b4], by simp [go_sem, b5], by simp [go_sem, b6], by simp [go_sem, b7]⟩ hx3 (by omega)
    have g6n : ∀ j, w3.frozen? ⟨w.heap.size, j, none⟩ = false := Ex.frozen0 hx3 (fun j => by simp [go_sem, g6]) (by first | omega | (simp [World.setCell]; omega)) (by omega)
    have g7n : ∀ j, w3.frozen? ⟨w1.heap.size + 1, j, none⟩ = false := Ex.frozen0 hx3 (fun j => by simp [go_sem, g7]) (by first | omega | (simp [World.setCell]; omega)) (by omega)
    have gRn : w3.cell? ⟨w1.heap.size, 0, none⟩ = some (.int .i64 v) := Ex.cell hx3 (by simp [go_sem, gR]) (by show w1.heap.size ≠ rb; omega)
    have hs3n : w1.heap.size + 1 < w3.heap.size := Nat.lt_of_lt_of_le (by first | omega | (simp [World.setCell]; omega)) hx3.size
    have HX3n : Hid (Ex rb w w3) := (HX3.out.setCell (Or.inr (by first | (show w.heap.size ≤ w1.heap.size + 1; omega) | (show w.heap.size ≤ w.heap.size; omega))) _).trans hx3
    clear hx3 a0 a1 a2 a3 a4 a5 a6 a7 b0 b1 b2 b3 b4 b5 b6 b7 g6 g7 gR HX3 hs3
    have g6 := g6n
    have g7 := g7n
    have gR := gRn
    have HX3 := HX3n
    have hs3 := hs3n
    clear g6n g7n gRn HX3n hs3n
    obtain ⟨a0, a1, a2, a3, a4, a5, a6, a7⟩ := k6n.zero
    obtain ⟨b0, b1, b2, b3, b4, b5, b6, b7⟩ := k7n.zero
    simp only [step0] at a0 a1 a2 a3 a4 a5 a6
    clear k6n k7n
    by_cases hz0 : z3 = 0
    · subst hz0
      go_wp2
      refine bodyPost_ret (v := stepV ⟨7, 0, 0, 0, 0, 0, 0, []⟩ (.slice none 0 0)) (by simp [results, Try.results78, go_sem, stepV, a0, a1, a2, a3, a4, a5, a6, a7]) rfl ?_
      refine HQ.out ⟨7, 0, 0, 0, 0, 0, 0, []⟩ (.slice none 0 0) (p1 + 1 + 1) _ (by simp [stepB, many, restB, noneB, inB]) (nil_ints) (by first | exact nice_some _ _ _ | exact nice_none) ?_ (by omega) ?_
      · iterate 10 refine Rd.setCell ?_ (by first | (show rb < w1.heap.size + 1; omega) | (show rb < w.heap.size; omega)) _
        exact hr3
      · iterate 10 refine Ex.setCell ?_ (Or.inr (by first | (show w.heap.size ≤ w1.heap.size + 1; omega) | (show w.heap.size ≤ w.heap.size; omega))) _
        exact HX3.out
    · have hz0' : ((z3 : Int) == 0) = false := by simp; omega
      go_wp2
      refine bodyPost_ret (v := stepV ⟨6, 0, 0, 0, 0, 0, 0, [(v : Int)]⟩ (.slice (some ⟨w1.heap.size, 0, none⟩) 1 1)) (by simp [results, Try.results78, go_sem, stepV, a0, a1, a2, a3, a4, a5, a6, a7]) rfl ?_
      refine HQ.out ⟨6, 0, 0, 0, 0, 0, 0, [(v : Int)]⟩ (.slice (some ⟨w1.heap.size, 0, none⟩) 1 1) (p1 + 1 + 1) _ (by simp [stepB, many, restB, noneB, inB, hvn]) (one_int (by simp [go_sem, gR]) (by omega)) (by first | exact nice_some _ _ _ | exact nice_none) ?_ (by omega) ?_
      · iterate 8 refine Rd.setCell ?_ (by first | (show rb < w1.heap.size + 1; omega) | (show rb < w.heap.size; omega)) _
        exact hr3
      · iterate 8 refine Ex.setCell ?_ (Or.inr (by first | (show w.heap.size ≤ w1.heap.size + 1; omega) | (show w.heap.size ≤ w.heap.size; omega))) _
        exact HX3.out
  by_cases h04 : z ≤ 4
  · have hz5 : z = 0 ∨ z = 1 ∨ z = 2 ∨ z = 3 ∨ z = 4 := by omega
    clear h04
    rcases hz5 with rfl | rfl | rfl | rfl | rfl
    all_goals
      have g6 := F6.out
      have g7 := F7.out
      have gR := HR.out
      have HX3 := HX
      have hs3 := hs2
      obtain ⟨a0, a1, a2, a3, a4, a5, a6, a7⟩ := H6.out.zero
      obtain ⟨b0, b1, b2, b3, b4, b5, b6, b7⟩ := H7.out.zero
      simp only [step0] at a0 a1 a2 a3 a4 a5 a6
      go_wp2_with fail
      refine l71Expr_any rb (p1 + 1) _ hr2 (by omega) fun op av an bv bn p3 w3 ho hr3 hp3 hx3 => ?_
      obtain ⟨ho1, ho2, hoa, hob⟩ := ho
      have hoa' := opndB_of hoa
      have hob' := opndB_of hob
      have k6n : StepCells w3 w.heap.size 0 step0 (.slice none 0 0) := StepCells.ex ⟨a0, a1, a2, a3, a4, a5, a6, a7⟩ hx3 (by omega)
      have k7n : StepCells w3 (w1.heap.size + 1) 0 ⟨1, 0, 0, 0, 0, 0, 0, [(v : Int)]⟩ (.slice (some ⟨w1.heap.size, 0, none⟩) 1 1) := StepCells.ex ⟨b0, b1, b2, b3, b4, b5, b6, b7⟩ hx3 (by omega)
      have g6n : ∀ j, w3.frozen? ⟨w.heap.size, j, none⟩ = false := Ex.frozen0 hx3 (fun j => by simp [go_sem, g6]) (by first | omega | (simp [World.setCell]; omega)) (by omega)
      have g7n : ∀ j, w3.frozen? ⟨w1.heap.size + 1, j, none⟩ = false := Ex.frozen0 hx3 (fun j => by simp [go_sem, g7]) (by first | omega | (simp [World.setCell]; omega)) (by omega)
      have gRn : w3.cell? ⟨w1.heap.size, 0, none⟩ = some (.int .i64 v) := Ex.cell hx3 (gR) (by show w1.heap.size ≠ rb; omega)
      have hs3n : w1.heap.size + 1 < w3.heap.size := Nat.lt_of_lt_of_le (by first | omega | (simp [World.setCell]; omega)) hx3.size
      have HX3n : Hid (Ex rb w w3) := HX3.out.trans hx3
      clear hx3 a0 a1 a2 a3 a4 a5 a6 a7 b0 b1 b2 b3 b4 b5 b6 b7 g6 g7 gR HX3 hs3
      have g6 := g6n
      have g7 := g7n
      have gR := gRn
      have HX3 := HX3n
      have hs3 := hs3n
      clear g6n g7n gRn HX3n hs3n
      obtain ⟨a0, a1, a2, a3, a4, a5, a6, a7⟩ := k6n.zero
      obtain ⟨b0, b1, b2, b3, b4, b5, b6, b7⟩ := k7n.zero
      simp only [step0] at a0 a1 a2 a3 a4 a5 a6
      clear k6n k7n
      have na : ¬ w.heap.size = w3.heap.size := by omega
      have nb : ¬ w1.heap.size + 1 = w3.heap.size := by omega
      have nc : ¬ w1.heap.size = w3.heap.size := by omega
      have nd : ¬ w.heap.size = w3.heap.size + 1 := by omega
      have ne : ¬ w1.heap.size = w3.heap.size + 1 := by omega
      have nf : ¬ w1.heap.size + 1 = w3.heap.size + 1 := by omega
      have nb' : ¬ w3.heap.size = w1.heap.size + 1 := by omega
      have la : w.heap.size < w3.heap.size := by omega
      have lb : w1.heap.size + 1 < w3.heap.size := by omega
      have lc : w1.heap.size < w3.heap.size := by omega
      have la1 : w.heap.size < w3.heap.size + 1 := by omega
      have lb1 : w1.heap.size + 1 < w3.heap.size + 1 := by omega
      have lc1 : w1.heap.size < w3.heap.size + 1 := by omega
      go_wp2_with fail
      refine pick_any rb (p3) _ _ (((((((hr3.setCell (by first | (show rb < w1.heap.size + 1; omega) | (show rb < w.heap.size; omega)) _).setCell (by first | (show rb < w1.heap.size + 1; omega) | (show rb < w.heap.size; omega)) _).setCell (by first | (show rb < w1.heap.size + 1; omega) | (show rb < w.heap.size; omega)) _).setCell (by first | (show rb < w1.heap.size + 1; omega) | (show rb < w.heap.size; omega)) _).setCell (by first | (show rb < w1.heap.size + 1; omega) | (show rb < w.heap.size; omega)) _).alloc _).alloc _) (by omega) (by omega) fun z4 w4 hz4 hr4 hx4 => ?_
      have hd : (z4 : Int) < 7 := hz4 (by omega)
      have hc : ∃ m : Int, 0 ≤ m ∧ m ≤ 11 ∧ w4.cell? ⟨w3.heap.size + 1, z4, none⟩ = some (.int .i64 m) := by
        have hnr : w3.heap.size + 1 ≠ rb := by omega
        rcases (by omega : z4 = 0 ∨ z4 = 1 ∨ z4 = 2 ∨ z4 = 3 ∨ z4 = 4 ∨ z4 = 5 ∨ z4 = 6) with rfl | rfl | rfl | rfl | rfl | rfl | rfl
        · exact ⟨0, by omega, by omega, hx4.cell (by simp [go_sem]) hnr⟩
        · exact ⟨1, by omega, by omega, hx4.cell (by simp [go_sem]) hnr⟩
        · exact ⟨2, by omega, by omega, hx4.cell (by simp [go_sem]) hnr⟩
        · exact ⟨3, by omega, by omega, hx4.cell (by simp [go_sem]) hnr⟩
        · exact ⟨4, by omega, by omega, hx4.cell (by simp [go_sem]) hnr⟩
        · exact ⟨3, by omega, by omega, hx4.cell (by simp [go_sem]) hnr⟩
        · exact ⟨4, by omega, by omega, hx4.cell (by simp [go_sem]) hnr⟩
      obtain ⟨m, hm0, hm1, hm⟩ := hc
      have k6n : StepCells w4 w.heap.size 0 step0 (.slice none 0 0) := StepCells.ex ⟨by simp [go_sem, step0, a0, World.cell?_alloc_lt, la, la1], by simp [go_sem, step0, a1, World.cell?_alloc_lt, la, la1], by simp [go_sem, step0, a2, World.cell?_alloc_lt, la, la1], by simp [go_sem, step0, a3, World.cell?_alloc_lt, la, la1], by simp [go_sem, step0, a4, World.cell?_alloc_lt, la, la1], by simp [go_sem, step0, a5, World.cell?_alloc_lt, la, la1], by simp [go_sem, step0, a6, World.cell?_alloc_lt, la, la1], by simp [go_sem, a7, World.cell?_alloc_lt, la, la1]⟩ hx4 (by omega)
      have k7n : StepCells w4 (w1.heap.size + 1) 0 ⟨1, 0, op, av, an, bv, bn, [(v : Int)]⟩ (.slice (some ⟨w1.heap.size, 0, none⟩) 1 1) := StepCells.ex ⟨by simp [go_sem, b0, World.cell?_alloc_lt, lb, lb1], by simp [go_sem, b1, World.cell?_alloc_lt, lb, lb1], by simp [go_sem, b2, World.cell?_alloc_lt, lb, lb1], by simp [go_sem, b3, World.cell?_alloc_lt, lb, lb1], by simp [go_sem, b4, World.cell?_alloc_lt, lb, lb1], by simp [go_sem, b5, World.cell?_alloc_lt, lb, lb1], by simp [go_sem, b6, World.cell?_alloc_lt, lb, lb1], by simp [go_sem, b7, World.cell?_alloc_lt, lb, lb1]⟩ hx4 (by omega)
      have g6n : ∀ j, w4.frozen? ⟨w.heap.size, j, none⟩ = false := Ex.frozen0 hx4 (fun j => by simp [go_sem, g6, frozen_alloc_lt, la, la1]) (by first | omega | (simp [World.setCell]; omega)) (by omega)
      have g7n : ∀ j, w4.frozen? ⟨w1.heap.size + 1, j, none⟩ = false := Ex.frozen0 hx4 (fun j => by simp [go_sem, g7, frozen_alloc_lt, lb, lb1]) (by first | omega | (simp [World.setCell]; omega)) (by omega)
      have gRn : w4.cell? ⟨w1.heap.size, 0, none⟩ = some (.int .i64 v) := Ex.cell hx4 (by simp [go_sem, gR, World.cell?_alloc_lt, lc, lc1]) (by show w1.heap.size ≠ rb; omega)
      have hs3n : w1.heap.size + 1 < w4.heap.size := Nat.lt_of_lt_of_le (by first | omega | (simp [World.setCell]; omega)) hx4.size
      have HX3n : Hid (Ex rb w w4) := (((((((HX3.out.setCell (Or.inr (by first | (show w.heap.size ≤ w1.heap.size + 1; omega) | (show w.heap.size ≤ w.heap.size; omega))) _).setCell (Or.inr (by first | (show w.heap.size ≤ w1.heap.size + 1; omega) | (show w.heap.size ≤ w.heap.size; omega))) _).setCell (Or.inr (by first | (show w.heap.size ≤ w1.heap.size + 1; omega) | (show w.heap.size ≤ w.heap.size; omega))) _).setCell (Or.inr (by first | (show w.heap.size ≤ w1.heap.size + 1; omega) | (show w.heap.size ≤ w.heap.size; omega))) _).setCell (Or.inr (by first | (show w.heap.size ≤ w1.heap.size + 1; omega) | (show w.heap.size ≤ w.heap.size; omega))) _).alloc _).alloc _).trans hx4
      clear hx4 a0 a1 a2 a3 a4 a5 a6 a7 b0 b1 b2 b3 b4 b5 b6 b7 g6 g7 gR HX3 hs3
      have g6 := g6n
      have g7 := g7n
      have gR := gRn
      have HX3 := HX3n
      have hs3 := hs3n
      clear g6n g7n gRn HX3n hs3n
      obtain ⟨a0, a1, a2, a3, a4, a5, a6, a7⟩ := k6n.zero
      obtain ⟨b0, b1, b2, b3, b4, b5, b6, b7⟩ := k7n.zero
      simp only [step0] at a0 a1 a2 a3 a4 a5 a6
      clear k6n k7n
      go_wp2
      refine bodyPost_ret (v := stepV ⟨1, m, op, av, an, bv, bn, [(v : Int)]⟩ (.slice (some ⟨w1.heap.size, 0, none⟩) 1 1)) (by simp [results, Try.results78, go_sem, stepV, a0, a1, a2, a3, a4, a5, a6, a7]) rfl ?_
      refine HQ.out ⟨1, m, op, av, an, bv, bn, [(v : Int)]⟩ (.slice (some ⟨w1.heap.size, 0, none⟩) 1 1) (p3 + 1) _ (by simp [stepB, many, restB, inB, hvn, hoa', hob', ho1, ho2, hm0, hm1]) (one_int (by simp [go_sem, gR]) (by omega)) (by first | exact nice_some _ _ _ | exact nice_none) ?_ (by omega) ?_
      · iterate 9 refine Rd.setCell ?_ (by first | (show rb < w1.heap.size + 1; omega) | (show rb < w.heap.size; omega)) _
        exact hr4
      · iterate 9 refine Ex.setCell ?_ (Or.inr (by first | (show w.heap.size ≤ w1.heap.size + 1; omega) | (show w.heap.size ≤ w.heap.size; omega))) _
        exact HX3.out
  have h8 : z = 8 ∨ z = 9 ∨ z = 10 := by have := hz (by omega); omega
  obtain ⟨i0, hi, hi0, hi1, hi2⟩ := info_parts infoIntD
  rcases h8 with rfl | rfl | rfl
  all_goals
    have g6 := F6.out
    have g7 := F7.out
    have gR := HR.out
    have HX3 := HX
    have hs3 := hs2
    obtain ⟨a0, a1, a2, a3, a4, a5, a6, a7⟩ := H6.out.zero
    obtain ⟨b0, b1, b2, b3, b4, b5, b6, b7⟩ := H7.out.zero
    simp only [step0] at a0 a1 a2 a3 a4 a5 a6
    go_wp2_with fail
    refine pick_any rb (p1 + 1) _ _ (hr2.setCell (by first | (show rb < w1.heap.size + 1; omega) | (show rb < w.heap.size; omega)) _) (by omega) (by omega) fun z3 w3 hz3 hr3 hx3 => ?_
    have hd : (z3 : Int) < 5 := hz3 (by omega)
    have ho' : opndB (z3 : Int) 0 = true := opndB_of (Or.inr ⟨by omega, by omega, rfl⟩)
    have k6n : StepCells w3 w.heap.size 0 step0 (.slice none 0 0) := StepCells.ex ⟨by simp [go_sem, step0, a0], by simp [go_sem, step0, a1], by simp [go_sem, step0, a2], by simp [go_sem, step0, a3], by simp [go_sem, step0, a4], by simp [go_sem, step0, a5], by simp [go_sem, step0, a6], by simp [go_sem, a7]⟩ hx3 (by omega)
    have k7n : StepCells w3 (w1.heap.size + 1) 0 ⟨5, 0, 0, 0, 0, 0, 0, [(v : Int)]⟩ (.slice (some ⟨w1.heap.size, 0, none⟩) 1 1) := StepCells.ex ⟨by simp [go_sem, b0], by simp [go_sem, b1], by simp [go_sem, b2], by simp [go_sem, b3], by simp [go_sem, b4], by simp [go_sem, b5], by simp [go_sem, b6], by simp [go_sem, b7]⟩ hx3 (by omega)
    have g6n : ∀ j, w3.frozen? ⟨w.heap.size, j, none⟩ = false := Ex.frozen0 hx3 (fun j => by simp [go_sem, g6]) (by first | omega | (simp [World.setCell]; omega)) (by omega)
    have g7n : ∀ j, w3.frozen? ⟨w1.heap.size + 1, j, none⟩ = false := Ex.frozen0 hx3 (fun j => by simp [go_sem, g7]) (by first | omega | (simp [World.setCell]; omega)) (by omega)
    have gRn : w3.cell? ⟨w1.heap.size, 0, none⟩ = some (.int .i64 v) := Ex.cell hx3 (by simp [go_sem, gR]) (by show w1.heap.size ≠ rb; omega)
    have hs3n : w1.heap.size + 1 < w3.heap.size := Nat.lt_of_lt_of_le (by first | omega | (simp [World.setCell]; omega)) hx3.size
    have HX3n : Hid (Ex rb w w3) := (HX3.out.setCell (Or.inr (by first | (show w.heap.size ≤ w1.heap.size + 1; omega) | (show w.heap.size ≤ w.heap.size; omega))) _).trans hx3
    clear hx3 a0 a1 a2 a3 a4 a5 a6 a7 b0 b1 b2 b3 b4 b5 b6 b7 g6 g7 gR HX3 hs3
    have g6 := g6n
    have g7 := g7n
    have gR := gRn
    have HX3 := HX3n
    have hs3 := hs3n
    clear g6n g7n gRn HX3n hs3n
    obtain ⟨a0, a1, a2, a3, a4, a5, a6, a7⟩ := k6n.zero
    obtain ⟨b0, b1, b2, b3, b4, b5, b6, b7⟩ := k7n.zero
    simp only [step0] at a0 a1 a2 a3 a4 a5 a6
    clear k6n k7n
    go_wp2_with fail
    refine pick_any rb (p1 + 1 + 1) _ _ ((hr3.setCell (by first | (show rb < w1.heap.size + 1; omega) | (show rb < w.heap.size; omega)) _).setCell (by first | (show rb < w1.heap.size + 1; omega) | (show rb < w.heap.size; omega)) _) (by omega) (by omega) fun z4 w4 hz4 hr4 hx4 => ?_
    have k6n : StepCells w4 w.heap.size 0 step0 (.slice none 0 0) := StepCells.ex ⟨by simp [go_sem, step0, a0], by simp [go_sem, step0, a1], by simp [go_sem, step0, a2], by simp [go_sem, step0, a3], by simp [go_sem, step0, a4], by simp [go_sem, step0, a5], by simp [go_sem, step0, a6], by simp [go_sem, a7]⟩ hx4 (by omega)
    have k7n : StepCells w4 (w1.heap.size + 1) 0 ⟨5, 0, 0, (z3 : Int), 0, 0, 0, [(v : Int)]⟩ (.slice (some ⟨w1.heap.size, 0, none⟩) 1 1) := StepCells.ex ⟨by simp [go_sem, b0], by simp [go_sem, b1], by simp [go_sem, b2], by simp [go_sem, b3], by simp [go_sem, b4], by simp [go_sem, b5], by simp [go_sem, b6], by simp [go_sem, b7]⟩ hx4 (by omega)
    have g6n : ∀ j, w4.frozen? ⟨w.heap.size, j, none⟩ = false := Ex.frozen0 hx4 (fun j => by simp [go_sem, g6]) (by first | omega | (simp [World.setCell]; omega)) (by omega)
    have g7n : ∀ j, w4.frozen? ⟨w1.heap.size + 1, j, none⟩ = false := Ex.frozen0 hx4 (fun j => by simp [go_sem, g7]) (by first | omega | (simp [World.setCell]; omega)) (by omega)
    have gRn : w4.cell? ⟨w1.heap.size, 0, none⟩ = some (.int .i64 v) := Ex.cell hx4 (by simp [go_sem, gR]) (by show w1.heap.size ≠ rb; omega)
    have hs3n : w1.heap.size + 1 < w4.heap.size := Nat.lt_of_lt_of_le (by first | omega | (simp [World.setCell]; omega)) hx4.size
    have HX3n : Hid (Ex rb w w4) := ((HX3.out.setCell (Or.inr (by first | (show w.heap.size ≤ w1.heap.size + 1; omega) | (show w.heap.size ≤ w.heap.size; omega))) _).setCell (Or.inr (by first | (show w.heap.size ≤ w1.heap.size + 1; omega) | (show w.heap.size ≤ w.heap.size; omega))) _).trans hx4
    clear hx4 a0 a1 a2 a3 a4 a5 a6 a7 b0 b1 b2 b3 b4 b5 b6 b7 g6 g7 gR HX3 hs3
    have g6 := g6n
    have g7 := g7n
    have gR := gRn
    have HX3 := HX3n
    have hs3 := hs3n
    clear g6n g7n gRn HX3n hs3n
    obtain ⟨a0, a1, a2, a3, a4, a5, a6, a7⟩ := k6n.zero
    obtain ⟨b0, b1, b2, b3, b4, b5, b6, b7⟩ := k7n.zero
    simp only [step0] at a0 a1 a2 a3 a4 a5 a6
    clear k6n k7n
    by_cases hq : z4 = 0
    · subst hq
      clear ho'
      go_wp2_with fail
      refine l71Opnd_any rb (p1 + 1 + 1 + 1) _ hr4 (by omega) fun av an p5 w5 ho hr5 hp5 hx5 => ?_
      have ho' := opndB_of ho
      have k6n : StepCells w5 w.heap.size 0 step0 (.slice none 0 0) := StepCells.ex ⟨a0, a1, a2, a3, a4, a5, a6, a7⟩ hx5 (by omega)
      have k7n : StepCells w5 (w1.heap.size + 1) 0 ⟨5, 0, 0, (z3 : Int), 0, 0, 0, [(v : Int)]⟩ (.slice (some ⟨w1.heap.size, 0, none⟩) 1 1) := StepCells.ex ⟨b0, b1, b2, b3, b4, b5, b6, b7⟩ hx5 (by omega)
      have g6n : ∀ j, w5.frozen? ⟨w.heap.size, j, none⟩ = false := Ex.frozen0 hx5 (fun j => by simp [go_sem, g6]) (by first | omega | (simp [World.setCell]; omega)) (by omega)
      have g7n : ∀ j, w5.frozen? ⟨w1.heap.size + 1, j, none⟩ = false := Ex.frozen0 hx5 (fun j => by simp [go_sem, g7]) (by first | omega | (simp [World.setCell]; omega)) (by omega)
      have gRn : w5.cell? ⟨w1.heap.size, 0, none⟩ = some (.int .i64 v) := Ex.cell hx5 (gR) (by show w1.heap.size ≠ rb; omega)
      have hs3n : w1.heap.size + 1 < w5.heap.size := Nat.lt_of_lt_of_le (by first | omega | (simp [World.setCell]; omega)) hx5.size
      have HX3n : Hid (Ex rb w w5) := HX3.out.trans hx5
      clear hx5 a0 a1 a2 a3 a4 a5 a6 a7 b0 b1 b2 b3 b4 b5 b6 b7 g6 g7 gR HX3 hs3
      have g6 := g6n
      have g7 := g7n
      have gR := gRn
      have HX3 := HX3n
      have hs3 := hs3n
      clear g6n g7n gRn HX3n hs3n
      obtain ⟨a0, a1, a2, a3, a4, a5, a6, a7⟩ := k6n.zero
      obtain ⟨b0, b1, b2, b3, b4, b5, b6, b7⟩ := k7n.zero
      simp only [step0] at a0 a1 a2 a3 a4 a5 a6
      clear k6n k7n
      go_wp2_with fail
      have k6W : StepCells ((w5.setCell ⟨w1.heap.size + 1, 3, none⟩ (.int .i64 av)).setCell ⟨w1.heap.size + 1, 4, none⟩ (.int .i64 an)) w.heap.size 0 step0 (.slice none 0 0) := ⟨by simp [go_sem, step0, a0], by simp [go_sem, step0, a1], by simp [go_sem, step0, a2], by simp [go_sem, step0, a3], by simp [go_sem, step0, a4], by simp [go_sem, step0, a5], by simp [go_sem, step0, a6], by simp [go_sem, a7]⟩
      have k7W : StepCells ((w5.setCell ⟨w1.heap.size + 1, 3, none⟩ (.int .i64 av)).setCell ⟨w1.heap.size + 1, 4, none⟩ (.int .i64 an)) (w1.heap.size + 1) 0 ⟨5, 0, 0, av, an, 0, 0, [(v : Int)]⟩ (.slice (some ⟨w1.heap.size, 0, none⟩) 1 1) := ⟨by simp [go_sem, b0], by simp [go_sem, b1], by simp [go_sem, b2], by simp [go_sem, b3], by simp [go_sem, b4], by simp [go_sem, b5], by simp [go_sem, b6], by simp [go_sem, b7]⟩
      have g6W : ∀ j, ((w5.setCell ⟨w1.heap.size + 1, 3, none⟩ (.int .i64 av)).setCell ⟨w1.heap.size + 1, 4, none⟩ (.int .i64 an)).frozen? ⟨w.heap.size, j, none⟩ = false := fun j => by simp [go_sem, g6]
      have g7W : ∀ j, ((w5.setCell ⟨w1.heap.size + 1, 3, none⟩ (.int .i64 av)).setCell ⟨w1.heap.size + 1, 4, none⟩ (.int .i64 an)).frozen? ⟨w1.heap.size + 1, j, none⟩ = false := fun j => by simp [go_sem, g7]
      have gRW : ((w5.setCell ⟨w1.heap.size + 1, 3, none⟩ (.int .i64 av)).setCell ⟨w1.heap.size + 1, 4, none⟩ (.int .i64 an)).cell? ⟨w1.heap.size, 0, none⟩ = some (.int .i64 v) := by simp [go_sem, gR]
      have hsW : w1.heap.size + 1 < ((w5.setCell ⟨w1.heap.size + 1, 3, none⟩ (.int .i64 av)).setCell ⟨w1.heap.size + 1, 4, none⟩ (.int .i64 an)).heap.size := by simpa [World.setCell] using hs3
      have HXW : Hid (Ex rb w ((w5.setCell ⟨w1.heap.size + 1, 3, none⟩ (.int .i64 av)).setCell ⟨w1.heap.size + 1, 4, none⟩ (.int .i64 an))) := ((HX3.out.setCell (Or.inr (by first | (show w.heap.size ≤ w1.heap.size + 1; omega) | (show w.heap.size ≤ w.heap.size; omega))) _).setCell (Or.inr (by first | (show w.heap.size ≤ w1.heap.size + 1; omega) | (show w.heap.size ≤ w.heap.size; omega))) _)
      have hrW : Rd ((w5.setCell ⟨w1.heap.size + 1, 3, none⟩ (.int .i64 av)).setCell ⟨w1.heap.size + 1, 4, none⟩ (.int .i64 an)) rb _ := ((hr5.setCell (by first | (show rb < w1.heap.size + 1; omega) | (show rb < w.heap.size; omega)) _).setCell (by first | (show rb < w1.heap.size + 1; omega) | (show rb < w.heap.size; omega)) _)
      have K6W : Hid _ := k6W
      have K7W : Hid _ := k7W
      have G6W : Hid _ := g6W
      have G7W : Hid _ := g7W
      have GRW : Hid _ := gRW
      clear k6W k7W g6W g7W gRW
      go_region_law (first | (refine step_append_grows rfl (.tmp 84) (.tmp 89) 42 rfl 3 i0 (.int .i64 0) 1 8 Try.underlying42 hi hi0 hi1 hi2 rfl (by decide) (some ⟨w1.heap.size, 0, none⟩) 1 1 [.int .i64 (v : Int)] (by simp [Act.eval]) (by simp) rfl (one_old (cell_keep ((Below.refl _ _).alloc (Nat.le_refl _) _) tR)) ⟨w6.heap.size, 0, none⟩ 1 1 [.int .i64 (v2 : Int)] (by simp [Act.eval]) rfl (one_new (by simp [go_sem])) (by intro u hu; rw [List.mem_singleton] at hu; subst hu; rfl) (by omega) (by unfold maxLen; omega) (by omega) ?_; intro v7 w7 hown hgrow; obtain ⟨g, cap7, hv7, hg7, q0, q1⟩ := own2 hown; subst hv7; have hb7 := (Below.refl (w6.heap.size + 1) _).grown hgrow (by simp) (by simp); have ex7 := ex_grown hx6' hb7; have rd7 := rd_grown hr6 hb7; have u7 := ex7.cell K7W.out.c7 (by show w1.heap.size + 1 ≠ rb; omega); have uf7 := Ex.frozen0 ex7 G7W.out hsW (by omega)) | (go_simp; go_wp2_with (go_at_call 86; refine l71Next_any rb (p5) at0 n _ ⟨hrW.ex, hrW.at1, hrW.fz⟩ (by omega) hn hn' hat ?_; intro v2 p6 w6 hv2 hr6 hp6 hx6; have hx6' : Ex rb ((w5.setCell ⟨w1.heap.size + 1, 3, none⟩ (.int .i64 av)).setCell ⟨w1.heap.size + 1, 4, none⟩ (.int .i64 an)) w6 := ⟨hx6.os, hx6.tape, hx6.output, hx6.size, hx6.block⟩; have t7 := hx6'.cell K7W.out.c7 (by show w1.heap.size + 1 ≠ rb; omega); have tR := hx6'.cell GRW.out (by show w1.heap.size ≠ rb; omega); have l6 : w1.heap.size + 1 < w6.heap.size := Nat.lt_of_lt_of_le hsW hx6'.size; have n6 : ¬ w1.heap.size + 1 = w6.heap.size := Nat.ne_of_lt l6)))
      all_goals
        have hg8 : w6.heap.size + 1 ≤ g := by simpa using hg7
        have hs6 := hx6'.size
        have k6n := StepCells.ex K6W.out ex7 (by omega)
        have k7n := StepCells.ex K7W.out ex7 (by omega)
        have g6n : ∀ j, w7.frozen? ⟨w.heap.size, j, none⟩ = false := Ex.frozen0 ex7 G6W.out (by omega) (by omega)
        have HX7 : Hid (Ex rb w w7) := HXW.out.trans ex7
        have HI7 : Hid (IntsFrom (w1.heap.size + 2) w7 (.slice (some ⟨g, 0, none⟩) 2 cap7) [(v : Int), (v2 : Int)]) := two_ints q0 q1 (by omega)
        have hv2' : (v2 : Int) ≤ (n : Int) - 1 := by omega
        clear a0 a1 a2 a3 a4 a5 a6 a7 b0 b1 b2 b3 b4 b5 b6 b7 g6 g7 gR HX3 K6W K7W G6W G7W GRW HXW ex7 hx6 hx6' hb7 hown hgrow q0 q1 t7 tR u7
        obtain ⟨a0, a1, a2, a3, a4, a5, a6, a7⟩ := k6n.zero
        obtain ⟨b0, b1, b2, b3, b4, b5, b6, b7⟩ := k7n.zero
        simp only [step0] at a0 a1 a2 a3 a4 a5 a6
        clear k6n k7n
        have HX3 := HX7
        go_wp2
        refine bodyPost_ret (v := stepV ⟨5, 0, 0, av, an, 0, 0, [(v : Int), (v2 : Int)]⟩ (.slice (some ⟨g, 0, none⟩) 2 cap7)) (by simp [results, Try.results78, go_sem, stepV, a0, a1, a2, a3, a4, a5, a6, a7]) rfl ?_
        refine HQ.out ⟨5, 0, 0, av, an, 0, 0, [(v : Int), (v2 : Int)]⟩ (.slice (some ⟨g, 0, none⟩) 2 cap7) p6 _ (by simp [stepB, many, restB, noneB, inB, hvn, hv2', ho']) ?_ (nice_some _ _ _) ?_ (by omega) ?_
        · refine IntsFrom.mono (lo := w1.heap.size + 2) ?_ (by omega)
          iterate 9 refine IntsFrom.setCell ?_ (by first | (show w1.heap.size + 1 < w1.heap.size + 2; omega) | (show w.heap.size < w1.heap.size + 2; omega)) _
          exact HI7.out
        · iterate 9 refine Rd.setCell ?_ (by first | (show rb < w1.heap.size + 1; omega) | (show rb < w.heap.size; omega)) _
          exact rd7
        · iterate 9 refine Ex.setCell ?_ (Or.inr (by first | (show w.heap.size ≤ w1.heap.size + 1; omega) | (show w.heap.size ≤ w.heap.size; omega))) _
          exact HX3.out
    · have hq' : ((z4 : Int) == 0) = false := by simp; omega
      go_wp2_with fail
      have k6W : StepCells w4 w.heap.size 0 step0 (.slice none 0 0) := ⟨a0, a1, a2, a3, a4, a5, a6, a7⟩
      have k7W : StepCells w4 (w1.heap.size + 1) 0 ⟨5, 0, 0, (z3 : Int), 0, 0, 0, [(v : Int)]⟩ (.slice (some ⟨w1.heap.size, 0, none⟩) 1 1) := ⟨b0, b1, b2, b3, b4, b5, b6, b7⟩
      have g6W : ∀ j, w4.frozen? ⟨w.heap.size, j, none⟩ = false := g6
      have g7W : ∀ j, w4.frozen? ⟨w1.heap.size + 1, j, none⟩ = false := g7
      have gRW : w4.cell? ⟨w1.heap.size, 0, none⟩ = some (.int .i64 v) := gR
      have hsW : w1.heap.size + 1 < w4.heap.size := hs3
      have HXW : Hid (Ex rb w w4) := HX3.out
      have hrW : Rd w4 rb _ := hr4
      have K6W : Hid _ := k6W
      have K7W : Hid _ := k7W
      have G6W : Hid _ := g6W
      have G7W : Hid _ := g7W
      have GRW : Hid _ := gRW
      clear k6W k7W g6W g7W gRW
      go_region_law (first | (refine step_append_grows rfl (.tmp 84) (.tmp 89) 42 rfl 3 i0 (.int .i64 0) 1 8 Try.underlying42 hi hi0 hi1 hi2 rfl (by decide) (some ⟨w1.heap.size, 0, none⟩) 1 1 [.int .i64 (v : Int)] (by simp [Act.eval]) (by simp) rfl (one_old (cell_keep ((Below.refl _ _).alloc (Nat.le_refl _) _) tR)) ⟨w6.heap.size, 0, none⟩ 1 1 [.int .i64 (v2 : Int)] (by simp [Act.eval]) rfl (one_new (by simp [go_sem])) (by intro u hu; rw [List.mem_singleton] at hu; subst hu; rfl) (by omega) (by unfold maxLen; omega) (by omega) ?_; intro v7 w7 hown hgrow; obtain ⟨g, cap7, hv7, hg7, q0, q1⟩ := own2 hown; subst hv7; have hb7 := (Below.refl (w6.heap.size + 1) _).grown hgrow (by simp) (by simp); have ex7 := ex_grown hx6' hb7; have rd7 := rd_grown hr6 hb7; have u7 := ex7.cell K7W.out.c7 (by show w1.heap.size + 1 ≠ rb; omega); have uf7 := Ex.frozen0 ex7 G7W.out hsW (by omega)) | (go_simp; go_wp2_with (go_at_call 86; refine l71Next_any rb (p1 + 1 + 1 + 1) at0 n _ ⟨hrW.ex, hrW.at1, hrW.fz⟩ (by omega) hn hn' hat ?_; intro v2 p6 w6 hv2 hr6 hp6 hx6; have hx6' : Ex rb w4 w6 := ⟨hx6.os, hx6.tape, hx6.output, hx6.size, hx6.block⟩; have t7 := hx6'.cell K7W.out.c7 (by show w1.heap.size + 1 ≠ rb; omega); have tR := hx6'.cell GRW.out (by show w1.heap.size ≠ rb; omega); have l6 : w1.heap.size + 1 < w6.heap.size := Nat.lt_of_lt_of_le hsW hx6'.size; have n6 : ¬ w1.heap.size + 1 = w6.heap.size := Nat.ne_of_lt l6)))
      all_goals
        have hg8 : w6.heap.size + 1 ≤ g := by simpa using hg7
        have hs6 := hx6'.size
        have k6n := StepCells.ex K6W.out ex7 (by omega)
        have k7n := StepCells.ex K7W.out ex7 (by omega)
        have g6n : ∀ j, w7.frozen? ⟨w.heap.size, j, none⟩ = false := Ex.frozen0 ex7 G6W.out (by omega) (by omega)
        have HX7 : Hid (Ex rb w w7) := HXW.out.trans ex7
        have HI7 : Hid (IntsFrom (w1.heap.size + 2) w7 (.slice (some ⟨g, 0, none⟩) 2 cap7) [(v : Int), (v2 : Int)]) := two_ints q0 q1 (by omega)
        have hv2' : (v2 : Int) ≤ (n : Int) - 1 := by omega
        clear a0 a1 a2 a3 a4 a5 a6 a7 b0 b1 b2 b3 b4 b5 b6 b7 g6 g7 gR HX3 K6W K7W G6W G7W GRW HXW ex7 hx6 hx6' hb7 hown hgrow q0 q1 t7 tR u7
        obtain ⟨a0, a1, a2, a3, a4, a5, a6, a7⟩ := k6n.zero
        obtain ⟨b0, b1, b2, b3, b4, b5, b6, b7⟩ := k7n.zero
        simp only [step0] at a0 a1 a2 a3 a4 a5 a6
        clear k6n k7n
        have HX3 := HX7
        go_wp2
        refine bodyPost_ret (v := stepV ⟨5, 0, 0, (z3 : Int), 0, 0, 0, [(v : Int), (v2 : Int)]⟩ (.slice (some ⟨g, 0, none⟩) 2 cap7)) (by simp [results, Try.results78, go_sem, stepV, a0, a1, a2, a3, a4, a5, a6, a7]) rfl ?_
        refine HQ.out ⟨5, 0, 0, (z3 : Int), 0, 0, 0, [(v : Int), (v2 : Int)]⟩ (.slice (some ⟨g, 0, none⟩) 2 cap7) p6 _ (by simp [stepB, many, restB, noneB, inB, hvn, hv2', ho']) ?_ (nice_some _ _ _) ?_ (by omega) ?_
        · refine IntsFrom.mono (lo := w1.heap.size + 2) ?_ (by omega)
          iterate 9 refine IntsFrom.setCell ?_ (by first | (show w1.heap.size + 1 < w1.heap.size + 2; omega) | (show w.heap.size < w1.heap.size + 2; omega)) _
          exact HI7.out
        · iterate 9 refine Rd.setCell ?_ (by first | (show rb < w1.heap.size + 1; omega) | (show rb < w.heap.size; omega)) _
          exact rd7
        · iterate 9 refine Ex.setCell ?_ (Or.inr (by first | (show w.heap.size ≤ w1.heap.size + 1; omega) | (show w.heap.size ≤ w.heap.size; omega))) _
          exact HX3.out
end Go.Proofs.Ytfbmeciolflgnaa
