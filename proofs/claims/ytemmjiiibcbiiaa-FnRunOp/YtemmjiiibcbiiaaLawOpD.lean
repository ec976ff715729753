/-
  For every code of bytes, what is drawn from it is reckoned as the model reckons it, the answer is a number, and the promised identities hold: the law FnRunOp answers true. No condition.
-/
import Derived.Test.YtemmjiiibcbiiaaRows
import Derived.Test.YtemmjiiibcbiiaaRunOp
import Derived.Test.YtemmjiiibcbiiaaDrawOp
import Derived.OpenShut
import Derived.ShutString
import Derived.ChangeOld
import Derived.Below
namespace Go.Proofs.Ytemmjiiibcbiiaa
open Go.ChangeShapes Go.WideShapes Go.ChangeAt Go.RowKit

theorem own : ownKnob Try.prog.godebug = none := by kernel_rfl
theorem laidOut : laidOutB Try.prog = true := by kernel_rfl

theorem opR_range (op a b : Int) : 0 ≤ opR op a b ∧ opR op a b < 65536 := by
  unfold opR
  repeat' split
  all_goals first | omega | exact ⟨Int.emod_nonneg _ (by decide), Int.emod_lt_of_pos _ (by decide)⟩

theorem opR_in {a b : Int} (a0 : 0 ≤ a) (a1 : a < 65536) (b0 : 0 ≤ b) (b1 : b < 65536) : (inB a 0 65535 && inB b 0 65535) = true := by
  simp [inB]; omega

theorem opR_back {a b : Int} (a0 : 0 ≤ a) (a1 : a < 65536) (b0 : 0 ≤ b) (b1 : b < 65536) : opR 2 (opR 1 a b) b = a := by
  have h := opR_range 1 a b
  have e : opR 1 a b = (a + b) % 65536 := by unfold opR; rw [if_pos (opR_in a0 a1 b0 b1), if_pos rfl]
  unfold opR at *
  rw [if_pos (opR_in h.1 h.2 b0 b1)]
  rw [if_neg (by decide), if_pos rfl, e]
  omega

theorem opR_add {a b : Int} : opR 1 a b = opR 1 b a := by
  unfold opR
  rw [Bool.and_comm, Int.add_comm]
  simp

theorem opR_mul {a b : Int} : opR 3 a b = opR 3 b a := by
  unfold opR
  rw [Bool.and_comm, Int.mul_comm]
  simp

theorem opR_less {a b : Int} (a0 : 0 ≤ a) (a1 : a < 65536) (b0 : 0 ≤ b) (b1 : b < 65536) : opR 4 a b = if a < b then 1 else 0 := by
  unfold opR
  rw [if_pos (opR_in a0 a1 b0 b1)]
  simp

theorem opR_out {op a b : Int} (h : a < 0 ∨ b < 0 ∨ 65536 ≤ a ∨ 65536 ≤ b) : opR op a b = 0 := by
  unfold opR
  rw [if_neg]
  simp [inB]
  omega

set_option maxRecDepth 100000 in
set_option maxHeartbeats 4000000 in
theorem law_walk (v : Value) (w : World) (h : CodeAt w v) {Q : Ending → World → Prop} (hQ : ∀ w', Below w.heap.size w w' → Q (.returned (.bool true)) w') :
    Calls Try.prog 10 #[v] w Q := by
  have HQ : Hid _ := hQ
  clear hQ
  have HC : Hid _ := h
  obtain ⟨ao, bb, bo, bl, cap, rfl, h1, h2, h3, h4, h5⟩ := h
  clear h3 h4 h5
  by_cases hbl : 1048576 < bl
  · go_enter Try.func10, Try.ntmps10
    go_wp2
    exact HQ.out _ (Below.refl _ _)
  go_enter Try.func10, Try.ntmps10
  go_wp2_with fail
  refine drawRunOp_any _ _ HC.out fun op a b w1 hb1 => ?_
  have HB : Hid _ := hb1
  clear hb1
  go_wp2_with fail
  refine specRunOp_any op a b _ ?_
  go_wp2_with fail
  refine implRunOp_any op a b _ ?_
  have rg := opR_range op a b
  obtain ⟨r0, r1⟩ := rg
  by_cases ho : a < 0 ∨ b < 0 ∨ 65536 ≤ a ∨ 65536 ≤ b
  · have e0 := opR_out (op := op) ho
    rw [e0]
    rcases ho with ho | ho | ho | ho
    · go_wp2
      exact HQ.out _ HB.out
    · by_cases h6 : a < 0
      all_goals
        go_wp2
        exact HQ.out _ HB.out
    · by_cases h6 : b < 0
      all_goals
        go_wp2
        exact HQ.out _ HB.out
    · by_cases h6 : a < 0
      · go_wp2
        exact HQ.out _ HB.out
      · by_cases h7 : 65536 ≤ a
        all_goals
          go_wp2
          exact HQ.out _ HB.out
  · have a0 : 0 ≤ a := by omega
    have a1 : a < 65536 := by omega
    have b0 : 0 ≤ b := by omega
    have b1 : b < 65536 := by omega
    clear ho
    generalize opR op a b = r at *
    have e1 := opR_back a0 a1 b0 b1
    have e2 := @opR_add a b
    have e3 := @opR_mul a b
    have e4 := opR_less a0 a1 b0 b1
    have e5 := opR_less b0 b1 a0 a1
    rw [e2] at e1
    rcases Int.lt_trichotomy a b with hab | hab | hab
    · rw [if_pos hab] at e4
      rw [if_neg (by omega)] at e5
      have hne : (a == b) = false := by simp; omega
      go_wp2_with (go_at_call 42; refine implRunOp_any _ _ _ _ ?_)
      exact HQ.out _ HB.out
    · subst hab
      rw [if_neg (by omega)] at e4
      go_wp2_with (go_at_call 42; refine implRunOp_any _ _ _ _ ?_)
      exact HQ.out _ HB.out
    · rw [if_neg (by omega)] at e4
      rw [if_pos hab] at e5
      have hne : (a == b) = false := by simp; omega
      go_wp2_with (go_at_call 42; refine implRunOp_any _ _ _ _ ?_)
      exact HQ.out _ HB.out

set_option maxRecDepth 100000 in
theorem law_lifted (os : Os) (started : os.Started) (H : Type) (enc : TypeId × Value → H) :
    ReturnsInHanded {} Try.checked os 10 .any (Rows.fnRunOpSpec.pre6 enc Try.prog Try.f10 Rows.fnRunOpRow.domain false) (Rows.fnRunOpSpec.post enc Try.prog Try.f10 false true false false) := by
  refine returnsInHanded_of_change (C := Try.checked) own started (by kernel_rfl) Try.func10
    (ChangeSpec.witness6 (enc := enc) (C := Try.checked) false ⟨#[], #[.slice none 0 0], []⟩ 8 (by kernel_rfl) (by kernel_rfl) (by kernel_rfl) (by kernel_rfl)) ?_
  intro W base args ds gs before hval0 hW hcnd _
  have hval : ∀ (j : Nat) t v, Try.f10.params[j]? = some t → args[j]? = some v → Value.okWide Try.prog W .any base t v := hval0
  have hW' := hW
  obtain ⟨p, q, hA0, hV, rfl, hfz, hnd⟩ := hW
  have hA : DataW.TrodAll enc Try.prog W 0 (fun _ => true) true Try.f10.params.toList args.toList ds p := hA0
  rw [Try.params10] at hA hval
  obtain ⟨v0, vs0, d0, ds0, p0, q0, hargs, rfl, rfl, h0, r0⟩ := trodAll_cons hA
  obtain ⟨rfl, rfl, rfl⟩ := trodAll_nil r0
  obtain rfl : args = #[v0] := by cases args; simp_all
  obtain ⟨rfl, rfl⟩ := trodVars_none hV
  have k0 := h0
  have lt0 : ∀ x ∈ p0, x.block < W.heap.size := by obtain ⟨m, hm⟩ := k0; exact DataW.trod_lt m _ _ _ hm
  have c0 := open_code (hval 0 50 v0 rfl rfl) h0
  clear hA0 hval0
  refine law_walk v0 W c0 fun W' bel => ?_
  exact ⟨_, rfl, _, _, _, [], _, [], hW', trodAll_mk1 (shut_bool Try.underlying4 _), (trodAll_cons_mk (Below.trod laidOut (by kernel_rfl) (of_decide_eq_true (by kernel_rfl)) k0 bel lt0) trodAll_mk0), rfl, bel.frame _, fun h => by cases h⟩

theorem fnRunOp_holds : Rows.FnRunOpSaid :=
  OpenClaim.holds_of_wide 10 Try.f10 rfl rfl rfl rfl rfl rfl rfl ⟨rfl, rfl, rfl, rfl, rfl⟩ rfl rfl rfl rfl rfl (by kernel_rfl) Try.func10 (by kernel_rfl)
    (of_decide_eq_true (by kernel_rfl)) (by unfold Func.isWrapper; first | (rw [if_pos (by decide +kernel)]; kernel_rfl) | (rw [if_neg (by decide +kernel)]; exact ⟨rfl, rfl⟩))
    (fun os started H enc _ => law_lifted os started H enc)
#print axioms fnRunOp_holds
end Go.Proofs.Ytemmjiiibcbiiaa
