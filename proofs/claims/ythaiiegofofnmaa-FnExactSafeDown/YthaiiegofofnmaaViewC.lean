/- Who stands behind a step, and ahead of it, as the program's view tells. -/
import Derived.Test.YthaiiegofofnmaaViewM
import Derived.Test.YthaiiegofofnmaaSafeF
import Derived.Test.YthaiiegofofnmaaSolve
namespace Go.Proofs.Ythaiiegofofnmaa
open Go.RowKit

set_option maxHeartbeats 1000000 in
theorem behind_any {Q : Ending → World → Prop} {w0 w : World} (hb : Below w0.heap.size w0 w) {V : Nat} {ss : List St} {e : E5} {ord : List Nat} {rs : List Bool} {A : Option Addr} {c og oc : Nat} {pv : Value} {bc bk : BitVec 64} (h : VS w0 V ss e ord rs A c og oc pv bc bk) (x : Nat) (hx : x < ss.length)
    (hQ : ∀ v, IntsAt w0 v (nextOf ss x) → Q (.returned v) w) :
    Calls Try.prog 44 #[.pointer (some ⟨V, 0, none⟩), .int .i64 (x : Int)] w Q := by
  have HQ : Hid _ := hQ
  clear hQ
  have c0 := cell_keep hb h.c0
  obtain ⟨ao, b, o, cap, hv, ha, hc⟩ := h.st
  cases hv
  obtain rfl := ha (by omega)
  obtain ⟨nv, st, hi⟩ := hc x ss[x] (List.getElem?_eq_getElem hx)
  have c7 := cell_keep hb st.c7
  have HI : Hid (IntsAt w0 nv (nextOf ss x)) := by rw [nextOf_get hx]; exact hi
  have hxi : (x : Int) < (ss.length : Int) := by omega
  obtain ⟨nao, nb, no, ncap, rfl, _, _⟩ := id hi
  clear h ha hc st hi
  go_enter Try.func44, Try.ntmps44
  go_wp2
  exact HQ.out _ HI.out

set_option maxHeartbeats 1000000 in
theorem aheadOf_any {Q : Ending → World → Prop} {w0 w : World} (hb : Below w0.heap.size w0 w) {V : Nat} {ss : List St} {e : E5} {ord : List Nat} {rs : List Bool} {A : Option Addr} {c og oc : Nat} {pv : Value} {bc bk : BitVec 64} (h : VS w0 V ss e ord rs A c og oc pv bc bk) (x : Nat) (hx : x < ss.length)
    (hQ : ∀ v, IntsAt w0 v (pF ss rs x) → Q (.returned v) w) :
    Calls Try.prog 52 #[.pointer (some ⟨V, 0, none⟩), .int .i64 (x : Int)] w Q := by
  have HQ : Hid _ := hQ
  clear hQ
  have c2 := cell_keep hb h.c2
  obtain ⟨lo, hi, hr⟩ := h.pr
  obtain ⟨ao, g, cap, rfl, hrow⟩ := hr.read
  have hl : (predsL ss rs).length = ss.length := by simp [predsL]
  obtain ⟨y, A', c', rfl, hy, rfl, hIO⟩ := hrow x (predsK ss rs x ss.length) (by simp [predsL, hx])
  have HI : Hid (IntsAt w0 (.slice A' (predsK ss rs x ss.length).length c') (pF ss rs x)) := hIO.at
  rw [hl] at c2
  have hy2 := cell_keep hb hy
  have hxi : (x : Int) < (ss.length : Int) := by omega
  clear h hr hrow hIO hl hy
  generalize (predsK ss rs x ss.length).length = L at *
  go_enter Try.func52, Try.ntmps52
  go_wp2
  exact HQ.out _ HI.out

/-- The method values: who is ahead, who is behind. -/
theorem ahead_hangs {w : World} {V : Nat} {ss : List St} {e : E5} {ord : List Nat} {rs : List Bool} {A : Option Addr} {c og oc : Nat} {pv : Value} {bc bk : BitVec 64} (h : VS w V ss e ord rs A c og oc pv bc bk) : Hangs ss.length (rF rs) 52 #[.pointer (some ⟨V, 0, none⟩)] w (pF ss rs) := by
  intro W x hb hx _ Q' hQ
  exact aheadOf_any hb h x hx fun v hv => hQ v W (Below.refl _ _) hv

theorem behind_hangs {w : World} {V : Nat} {ss : List St} {e : E5} {ord : List Nat} {rs : List Bool} {A : Option Addr} {c og oc : Nat} {pv : Value} {bc bk : BitVec 64} (h : VS w V ss e ord rs A c og oc pv bc bk) : Hangs ss.length (rF rs) 44 #[.pointer (some ⟨V, 0, none⟩)] w (nextOf ss) := by
  intro W x hb hx _ Q' hQ
  exact behind_any hb h x hx fun v hv => hQ v W (Below.refl _ _) hv

/-- A set of steps in the view. -/
theorem has_c {Q : Ending → World → Prop} {ss : List St} {e : E5} {bc : BitVec 64} (h : CompW ss e bc) (hok : okB ss = true) (x : Nat) (hx : x < ss.length) (w : World) (hQ : Q (.returned (.bool (cF e ss x))) w) :
    Calls Try.prog 43 #[bsV bc, .int .i64 (x : Int)] w Q := by
  have := (ok_len hok).2
  refine has_any bc x w (by omega) ?_
  rw [h.get hx (by omega), ← cF_get hx]
  exact hQ

theorem has_k {Q : Ending → World → Prop} {ss : List St} {e : E5} {bk : BitVec 64} (h : ∀ j (hj : j < ss.length), bk.getLsbD j = keepB e ss[j]) (hok : okB ss = true) (x : Nat) (hx : x < ss.length) (w : World) (hQ : Q (.returned (.bool (kF e ss x))) w) :
    Calls Try.prog 43 #[bsV bk, .int .i64 (x : Int)] w Q := by
  have := (ok_len hok).2
  refine has_any bk x w (by omega) ?_
  rw [h x hx, ← kF_get hx]
  exact hQ
end Go.Proofs.Ythaiiegofofnmaa
