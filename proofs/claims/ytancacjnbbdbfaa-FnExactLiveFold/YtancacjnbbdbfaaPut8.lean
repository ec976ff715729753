/- One step in another one's place. -/
import Derived.Test.YtancacjnbbdbfaaImplLed
namespace Go.Proofs.Ytancacjnbbdbfaa
open Go.RowKit

/-- One step in another one's place. -/
theorem PF.put8 {lo N i g c : Nat} {w : World} {F : Nat → St} {xs : List Value} {nvs : Nat → Value} {nv : Value} {s : St} {o : Nat} (ho : i * 8 = o) (h : PF lo w (.slice (some ⟨g, 0, none⟩) N c) N F xs nvs) (hi : i < N) (hn : w.ownsRow lo 3 1 nv s.next.length (s.next.map (Value.int .i64))) :
    ∃ ys, PF lo (set8 w g o s nv) (.slice (some ⟨g, 0, none⟩) N c) N (fun j => if j = i then s else F j) ys (fun j => if j = i then nv else nvs j) := by
  subst ho
  have kept : ∀ {w : World} {xs : List Value} {b q : Nat} {y u : Value} {n : Nat} {ys : List Value}, w.ownsRow lo 43 8 (.slice (some ⟨g, 0, none⟩) N c) N xs → w.ownsRow b 3 1 y n ys → (w.setCell ⟨g, q, none⟩ u).ownsRow b 3 1 y n ys := by
    intro w xs b q y u n ys hr hy
    exact own_store hy hr (by decide)
  have hlen : xs.length = N * 8 := h.row.1
  have r0 := h.row
  have r1 := (r0.stored (i * 8) (.int .i64 s.kind)).1
  have r2 := (r1.stored (i * 8 + 1) (.int .i64 s.dst)).1
  have r3 := (r2.stored (i * 8 + 2) (.int .i64 s.op)).1
  have r4 := (r3.stored (i * 8 + 3) (.int .i64 s.av)).1
  have r5 := (r4.stored (i * 8 + 4) (.int .i64 s.an)).1
  have r6 := (r5.stored (i * 8 + 5) (.int .i64 s.bv)).1
  have r7 := (r6.stored (i * 8 + 6) (.int .i64 s.bn)).1
  have r8 := (r7.stored (i * 8 + 7) nv).1
  have all : ∀ {b : Nat} {y : Value} {n : Nat} {ys : List Value}, w.ownsRow b 3 1 y n ys → (set8 w g (i * 8) s nv).ownsRow b 3 1 y n ys := fun hy => kept r7 (kept r6 (kept r5 (kept r4 (kept r3 (kept r2 (kept r1 (kept r0 hy)))))))
  refine ⟨_, r8, fun j hj => ?_, fun j hj => ?_⟩
  · by_cases e : j = i
    · subst e
      rw [if_pos rfl, if_pos rfl]
      intro q u hu
      have hq : q < 8 := by have := (List.getElem?_eq_some_iff.1 hu).1; simpa [cells8] using this
      rcases (by omega : q = 0 ∨ q = 1 ∨ q = 2 ∨ q = 3 ∨ q = 4 ∨ q = 5 ∨ q = 6 ∨ q = 7) with rfl | rfl | rfl | rfl | rfl | rfl | rfl | rfl <;> (simp [cells8] at hu; subst hu; simp [List.getElem?_set, hlen]; omega)
    · rw [if_neg e, if_neg e]
      intro q u hu
      have hq : q < 8 := by have := (List.getElem?_eq_some_iff.1 hu).1; simpa [cells8] using this
      rw [List.getElem?_set_ne (by omega), List.getElem?_set_ne (by omega), List.getElem?_set_ne (by omega), List.getElem?_set_ne (by omega), List.getElem?_set_ne (by omega), List.getElem?_set_ne (by omega), List.getElem?_set_ne (by omega), List.getElem?_set_ne (by omega)]
      exact h.cells j hj q u hu
  · by_cases e : j = i
    · subst e
      rw [if_pos rfl, if_pos rfl]
      exact all hn
    · rw [if_neg e, if_neg e]
      exact all (h.own j hj)

end Go.Proofs.Ytancacjnbbdbfaa
