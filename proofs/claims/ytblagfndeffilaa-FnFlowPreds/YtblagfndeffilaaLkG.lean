/- Whether a way leads from a step to a place: a small function of the laws. -/
import Derived.Test.YtblagfndeffilaaBase
import Derived.Test.YtblagfndeffilaaChecked
import Derived.Deep.QuietTactic
import Derived.BigQuiet
namespace Go.Proofs.Ytblagfndeffilaa
open Go.RowKit

def goesB (zs : List Int) (x : Int) : Bool := decide (x ∈ zs)

set_option maxHeartbeats 1000000 in
theorem lkGoes_any {Q : Ending → World → Prop} (s : St) (nv : Value) (x : Int) (w : World) (h : IntsAt w nv s.next) (hl : s.next.length ≤ 1048576)
    (hQ : ∀ w', Below w.heap.size w w' → Q (.returned (.bool (goesB s.next x))) w') :
    Calls Try.prog 24 #[stepV s nv, .int .i64 x] w Q := by
  have HQ : Hid _ := hQ
  clear hQ
  obtain ⟨ao, b, o, cap, rfl, ha, hc⟩ := h
  have HA : Hid _ := ha
  have HC : Hid _ := hc
  clear ha hc
  unfold stepV
  go_enter Try.func24, Try.ntmps24
  go_wp2
  have hb0 : ∀ O, Below w.heap.size w (w.alloc O) := fun O => (Below.refl _ _).alloc (Nat.le_refl _) O
  go_loopw [5] (fun i wr => ∃ k : Nat, k ≤ s.next.length ∧ i = .int .i64 k ∧ Below w.heap.size w wr ∧ wr.cell? ⟨w.heap.size, 7, none⟩ = some (.slice ao s.next.length cap) ∧ ∀ j, j < k → s.next.getD j 0 ≠ x) (fun i _ => s.next.length - (intOf i).toNat)
  case atStart => exact ⟨0, Nat.zero_le _, rfl, hb0 _, by simp [go_sem], fun j hj => by omega⟩
  case round =>
    clear hb0
    obtain ⟨k, hk, rfl, hb, c7, hno⟩ := hrel
    have HNO : Hid (∀ j, j < k → s.next.getD j 0 ≠ x) := hno
    clear hno
    by_cases hkl : k < s.next.length
    · obtain rfl := HA.out (by omega)
      have c1 := HC.out k hkl
      have d1 := cell_keep hb c1
      have hki : (k : Int) < (s.next.length : Int) := by omega
      by_cases hx : s.next.getD k 0 = x
      · have hg : goesB s.next x = true := by
          simp only [goesB, decide_eq_true_eq]
          rw [← hx]
          simp [List.getD, hkl]
        rw [hg] at HQ
        rw [hx] at d1
        clear c1 hx hg
        go_wp2
        exact HQ.out _ hb
      · have HX : Hid (s.next.getD k 0 ≠ x) := hx
        obtain ⟨y, hy⟩ : ∃ y, y = s.next.getD k 0 := ⟨_, rfl⟩
        rw [← hy] at d1 hx
        have hxb : (y == x) = false := by simpa using hx
        clear c1 hx hy
        go_wp2
        go_roundw
        case rel => exact ⟨k + 1, by omega, by go_num, hb, c7, fun j hj => by
          by_cases e : j = k
          · subst e
            exact HX.out
          · exact HNO.out j (by omega)⟩
        case measure => simp [intOf]; omega
    · have hg : goesB s.next x = false := by
        simp only [goesB, decide_eq_false_iff_not]
        intro hx
        obtain ⟨j, hj, e⟩ := List.mem_iff_getElem.1 hx
        exact HNO.out j (by omega) (by simp [List.getD, hj, e])
      rw [hg] at HQ
      have hki : ¬ ((k : Int) < (s.next.length : Int)) := by omega
      clear hg
      go_wp2
      exact HQ.out _ hb
end Go.Proofs.Ytblagfndeffilaa
