/- A program and a reckoning in two boxes; the model's contracts of chapter 11 with the reckoning written out. -/
import Derived.Test.YtljlgffkhocgkaaSpecEC
import Derived.Test.YtljlgffkhocgkaaSpecEK
namespace Go.Proofs.Ytljlgffkhocgkaa
open Go.RowKit

/-- The boxes of a program and a reckoning. -/
structure BoxE (W : World) (B : Nat) (A : Option Addr) (n c : Nat) (e : E5) : Prop where
  p : W.cell? ⟨B, 0, none⟩ = some (.slice A n c)
  c0 : W.cell? ⟨B + 1, 0, none⟩ = some (.int .i64 e.op)
  c1 : W.cell? ⟨B + 1, 1, none⟩ = some (.int .i64 e.av)
  c2 : W.cell? ⟨B + 1, 2, none⟩ = some (.int .i64 e.an)
  c3 : W.cell? ⟨B + 1, 3, none⟩ = some (.int .i64 e.bv)
  c4 : W.cell? ⟨B + 1, 4, none⟩ = some (.int .i64 e.bn)

theorem BoxE.keep {W W' : World} {B : Nat} {A : Option Addr} {n c : Nat} {e : E5} (h : BoxE W B A n c e) (hb : Below W.heap.size W W') : BoxE W' B A n c e :=
  ⟨cell_keep hb h.p, cell_keep hb h.c0, cell_keep hb h.c1, cell_keep hb h.c2, cell_keep hb h.c3, cell_keep hb h.c4⟩

theorem BoxE.new (w : World) (A : Option Addr) (n c : Nat) (e : E5) (t t' : TypeId) : BoxE ((w.alloc (.cells #[.slice A n c] t)).alloc (.cells #[.int .i64 e.op, .int .i64 e.av, .int .i64 e.an, .int .i64 e.bv, .int .i64 e.bn] t')) w.heap.size A n c e :=
  ⟨by simp [go_sem], by simp [go_sem], by simp [go_sem], by simp [go_sem], by simp [go_sem], by simp [go_sem]⟩

theorem BoxE.drewN {W : World} {B : Nat} {A : Option Addr} {n c : Nat} {e : E5} (h : BoxE W B A n c e) (k : Nat) : BoxE (W.drewN k) B A n c e := ⟨h.p, h.c0, h.c1, h.c2, h.c3, h.c4⟩

theorem specComp_u {Q : Ending → World → Prop} (v : Value) (ss : List St) (e : E5) (w : World) (h : StepsAt w v ss) (hl : ss.length ≤ 1048576) (hls : ∀ s ∈ ss, s.next.length ≤ 1048576)
    (hQ : ∀ v' rs w', Below w.heap.size w w' → RowOr compB ss e rs → w'.ownsRow w.heap.size 4 1 v' rs.length (rs.map Value.bool) → Q (.returned v') w') :
    Calls Try.prog 20 #[.agg #[v], .agg #[.int .i64 e.op, .int .i64 e.av, .int .i64 e.an, .int .i64 e.bv, .int .i64 e.bn]] w Q := specComp_any v ss e w h hl hls hQ

theorem specKeeps_u {Q : Ending → World → Prop} (v : Value) (ss : List St) (e : E5) (w : World) (h : StepsAt w v ss) (hl : ss.length ≤ 1048576) (hls : ∀ s ∈ ss, s.next.length ≤ 1048576)
    (hQ : ∀ v' rs w', Below w.heap.size w w' → RowOr keepB ss e rs → w'.ownsRow w.heap.size 4 1 v' rs.length (rs.map Value.bool) → Q (.returned v') w') :
    Calls Try.prog 21 #[.agg #[v], .agg #[.int .i64 e.op, .int .i64 e.av, .int .i64 e.an, .int .i64 e.bv, .int .i64 e.bn]] w Q := specKeeps_any v ss e w h hl hls hQ

theorem implExprOk_u {Q : Ending → World → Prop} (e : E5) (w : World) (hQ : ∀ w', Below w.heap.size w w' → Q (.returned (.bool (exprB e))) w') :
    Calls Try.prog 39 #[.agg #[.int .i64 e.op, .int .i64 e.av, .int .i64 e.an, .int .i64 e.bv, .int .i64 e.bn]] w Q := implExprOk_any e w hQ

theorem specExprOk_u {Q : Ending → World → Prop} (e : E5) (w : World) (hQ : ∀ w', Below w.heap.size w w' → Q (.returned (.bool (exprB e))) w') :
    Calls Try.prog 33 #[.agg #[.int .i64 e.op, .int .i64 e.av, .int .i64 e.an, .int .i64 e.bv, .int .i64 e.bn]] w Q := specExprOk_any e w hQ

theorem RowOr.get {f : E5 → St → Bool} {ss : List St} {e : E5} {rs : List Bool} (h : RowOr f ss e rs) (hok : okB ss = true) (he : exprB e = true) : rs.length = ss.length ∧ ∀ i (hi : i < ss.length), rs.getD i false = f e ss[i] := by
  rw [RowOr, hok, he] at h
  simp only [Bool.and_self, if_true] at h
  subst h
  refine ⟨by simp, fun i hi => ?_⟩
  simp [List.getD_eq_getElem?_getD, hi]

theorem RowOr.none {f : E5 → St → Bool} {ss : List St} {e : E5} {rs : List Bool} (h : RowOr f ss e rs) (hn : ¬ (okB ss = true ∧ exprB e = true)) : rs = [] := by
  rw [RowOr] at h
  rw [h, if_neg]
  simpa using hn
end Go.Proofs.Ytljlgffkhocgkaa
