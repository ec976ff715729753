/- The program's all, over whatever function value. -/
import Derived.Test.YthaiiegofofnmaaSafeP
import Derived.Test.YthaiiegofofnmaaChecked
import Derived.Shelf.Abstract
namespace Go.Proofs.Ythaiiegofofnmaa
open Go.RowKit

set_option maxRecDepth 100000 in
set_option maxHeartbeats 2000000 in
theorem all_any {Q : Ending → World → Prop} (g : Nat) (lb : Array Value) (eg : ∀ args w, (callFunc g args).run Try.prog w = .ok (.enter g args) w) (v : Value) (zs : List Int) (f : Nat → Bool) (w : World) (h : IntsAt w v zs) (hz : ∀ x ∈ zs, 0 ≤ x) (hl : zs.length ≤ 1000)
    (hp : ∀ W x, Below w.heap.size w W → x ∈ zs → ∀ {Q' : Ending → World → Prop}, (∀ W', Below W.heap.size W W' → Q' (.returned (.bool (f x.toNat))) W') → Calls Try.prog g (#[.int .i64 x] ++ lb) W Q')
    (hQ : ∀ W', Below w.heap.size w W' → Q (.returned (.bool (allI zs f))) W') :
    Calls Try.prog 45 #[v, .func (.func g) #[] lb] w Q := by
  have HQ : Hid _ := hQ
  have HP : Hid _ := @hp
  clear hQ hp
  obtain ⟨ao, b, o, cap, rfl, ha, hc⟩ := id h
  have HA : Hid (0 < zs.length → ao = some ⟨b, o, none⟩) := ha
  have HC : Hid _ := hc
  clear h ha hc
  go_enter Try.func45, Try.ntmps45
  go_wp2_with fail
  go_loopw [6, 9] (fun _ i wr => ∃ k : Nat, k ≤ zs.length ∧ i = .int .i64 k ∧ Below w.heap.size w wr ∧ ∀ j, j < k → f (zs.getD j 0).toNat = true) (fun _ i _ => zs.length - (intOf i).toNat)
  case atStart => exact ⟨0, Nat.zero_le _, rfl, Below.refl _ _, fun j hj => by omega⟩
  case round =>
    obtain ⟨k, hk, rfl, hbw, hf⟩ := hrel
    have HF : Hid (∀ j, j < k → f (zs.getD j 0).toNat = true) := hf
    have HB : Hid (Below w.heap.size w wr) := hbw
    by_cases hkn : k < zs.length
    · have hki : (k : Int) < (zs.length : Int) := by omega
      obtain rfl := HA.out (by omega)
      have c := cell_keep hbw (HC.out k hkn)
      have HM : Hid (zs.getD k 0 ∈ zs) := by
        rw [Hid, List.getD_eq_getElem?_getD, List.getElem?_eq_getElem hkn]
        exact List.getElem_mem hkn
      have HALL : Hid (f (zs.getD k 0).toNat = false → allI zs f = false) := fun h0 => by
        unfold allI
        rw [List.all_eq_false]
        exact ⟨_, HM.out, by simpa using h0⟩
      have HX : Hid (0 ≤ zs.getD k 0) := hz _ HM.out
      have HS : Hid (f (zs.getD k 0).toNat = true → ∀ j, j < k + 1 → f (zs.getD j 0).toNat = true) := fun h0 j hj => by
        by_cases e : j = k
        · subst e; exact h0
        · exact HF.out j (by omega)
      clear hbw hf
      generalize zs.getD k 0 = x at *
      go_wp2_with fail
      refine HP.out _ x HB.out HM.out fun w1 hb1 => ?_
      have HB1 : Hid (Below w.heap.size w w1) := HB.out.trans (hb1.mono HB.out.size)
      clear hb1
      cases hv : f x.toNat
      · have HR : Hid _ := HALL.out hv
        clear hv HS HALL
        go_wp2
        rw [HR.out] at HQ
        exact HQ.out _ HB1.out
      · have HR : Hid _ := HS.out hv
        clear hv HS HALL
        go_wp2
        go_roundw
        case rel => exact ⟨k + 1, by omega, by go_num, HB1.out, HR.out⟩
        case measure => simp [intOf]; omega
    · have hki : ¬ (k : Int) < (zs.length : Int) := by omega
      have HALL : Hid (allI zs f = true) := by
        unfold allI
        rw [Hid, List.all_eq_true]
        intro x hx
        obtain ⟨j, hj, e⟩ := List.getElem_of_mem hx
        have := HF.out j (by omega)
        rw [List.getD_eq_getElem?_getD, List.getElem?_eq_getElem hj] at this
        rw [← e]
        exact this
      rw [HALL.out] at HQ
      clear hbw hf
      go_wp2
      exact HQ.out _ HB.out
end Go.Proofs.Ythaiiegofofnmaa
