/- formOf of any step. -/
import Derived.Test.YtdgghpklhkgknaaFormOf
namespace Go.Proofs.Ytdgghpklhkgknaa
open Go.RowKit

/-- The form of a step that is ok. -/
def formV (s : St) : Value :=
  if s.kind = 1 then .iface 93 (setV s.dst s.op s.av s.an s.bv s.bn (s.next.getD 0 0))
  else if s.kind = 2 then .iface 95 (copyV s.dst s.av s.an (s.next.getD 0 0))
  else if s.kind = 3 then .iface 97 (inV s.dst (s.next.getD 0 0))
  else if s.kind = 4 then .iface 99 (outV s.av s.an (s.next.getD 0 0))
  else if s.kind = 5 then .iface 101 (testV s.av s.an (s.next.getD 0 0) (s.next.getD 1 0))
  else if s.kind = 6 then .iface 103 (skipV (s.next.getD 0 0))
  else .iface 105 (endV)

/-- What a call of fits on a form answers. -/
def Fits (f : Value) (n : Int) (r : Bool) : Prop :=
  ∃ T v fn, f = .iface T v ∧ (∀ wx, (method 225 T v (nameAt (Try.prog.underlying 85) 0)).run Try.prog wx = .ok (fn, v) wx) ∧ (∀ wx, (callFunc fn #[v, .int .i64 n]).run Try.prog wx = .ok (.enter fn #[v, .int .i64 n]) wx) ∧
    ∀ (Q : Ending → World → Prop) wx, (∀ w', Below wx.heap.size wx w' → Q (.returned (.bool r)) w') → Calls Try.prog fn #[v, .int .i64 n] wx Q

theorem setFitsM (v : Value) (wx : World) : (method 225 93 v (nameAt (Try.prog.underlying 85) 0)).run Try.prog wx = .ok (67, v) wx := by kernel_rfl

theorem setFitsE (v : Value) (n : Int) (wx : World) : (callFunc 67 #[v, .int .i64 n]).run Try.prog wx = .ok (.enter 67 #[v, .int .i64 n]) wx := by kernel_rfl

theorem setIs (dst op av an bv bn x : Int) (n : Int) : Fits (.iface 93 (setV dst op av an bv bn x)) n (inB dst 0 11 && inB op 1 4 && opndB av an && opndB bv bn && inB x 0 (n - 1)) :=
  ⟨_, _, _, rfl, fun wx => setFitsM _ wx, fun wx => setFitsE _ n wx, fun _ wx hQ => setFits_any dst op av an bv bn x n wx hQ⟩

theorem copyFitsM (v : Value) (wx : World) : (method 225 95 v (nameAt (Try.prog.underlying 85) 0)).run Try.prog wx = .ok (70, v) wx := by kernel_rfl

theorem copyFitsE (v : Value) (n : Int) (wx : World) : (callFunc 70 #[v, .int .i64 n]).run Try.prog wx = .ok (.enter 70 #[v, .int .i64 n]) wx := by kernel_rfl

theorem copyIs (dst av an x : Int) (n : Int) : Fits (.iface 95 (copyV dst av an x)) n (inB dst 0 11 && opndB av an && inB x 0 (n - 1)) :=
  ⟨_, _, _, rfl, fun wx => copyFitsM _ wx, fun wx => copyFitsE _ n wx, fun _ wx hQ => copyFits_any dst av an x n wx hQ⟩

theorem inFitsM (v : Value) (wx : World) : (method 225 97 v (nameAt (Try.prog.underlying 85) 0)).run Try.prog wx = .ok (72, v) wx := by kernel_rfl

theorem inFitsE (v : Value) (n : Int) (wx : World) : (callFunc 72 #[v, .int .i64 n]).run Try.prog wx = .ok (.enter 72 #[v, .int .i64 n]) wx := by kernel_rfl

theorem inIs (dst x : Int) (n : Int) : Fits (.iface 97 (inV dst x)) n (inB dst 0 11 && inB x 0 (n - 1)) :=
  ⟨_, _, _, rfl, fun wx => inFitsM _ wx, fun wx => inFitsE _ n wx, fun _ wx hQ => inFits_any dst x n wx hQ⟩

theorem outFitsM (v : Value) (wx : World) : (method 225 99 v (nameAt (Try.prog.underlying 85) 0)).run Try.prog wx = .ok (74, v) wx := by kernel_rfl

theorem outFitsE (v : Value) (n : Int) (wx : World) : (callFunc 74 #[v, .int .i64 n]).run Try.prog wx = .ok (.enter 74 #[v, .int .i64 n]) wx := by kernel_rfl

theorem outIs (av an x : Int) (n : Int) : Fits (.iface 99 (outV av an x)) n (opndB av an && inB x 0 (n - 1)) :=
  ⟨_, _, _, rfl, fun wx => outFitsM _ wx, fun wx => outFitsE _ n wx, fun _ wx hQ => outFits_any av an x n wx hQ⟩

theorem testFitsM (v : Value) (wx : World) : (method 225 101 v (nameAt (Try.prog.underlying 85) 0)).run Try.prog wx = .ok (76, v) wx := by kernel_rfl

theorem testFitsE (v : Value) (n : Int) (wx : World) : (callFunc 76 #[v, .int .i64 n]).run Try.prog wx = .ok (.enter 76 #[v, .int .i64 n]) wx := by kernel_rfl

theorem testIs (av an x y : Int) (n : Int) : Fits (.iface 101 (testV av an x y)) n (opndB av an && inB x 0 (n - 1) && inB y 0 (n - 1)) :=
  ⟨_, _, _, rfl, fun wx => testFitsM _ wx, fun wx => testFitsE _ n wx, fun _ wx hQ => testFits_any av an x y n wx hQ⟩

theorem skipFitsM (v : Value) (wx : World) : (method 225 103 v (nameAt (Try.prog.underlying 85) 0)).run Try.prog wx = .ok (78, v) wx := by kernel_rfl

theorem skipFitsE (v : Value) (n : Int) (wx : World) : (callFunc 78 #[v, .int .i64 n]).run Try.prog wx = .ok (.enter 78 #[v, .int .i64 n]) wx := by kernel_rfl

theorem skipIs (x : Int) (n : Int) : Fits (.iface 103 (skipV x)) n (inB x 0 (n - 1)) :=
  ⟨_, _, _, rfl, fun wx => skipFitsM _ wx, fun wx => skipFitsE _ n wx, fun _ wx hQ => skipFits_any x n wx hQ⟩

theorem endFitsM (v : Value) (wx : World) : (method 225 105 v (nameAt (Try.prog.underlying 85) 0)).run Try.prog wx = .ok (80, v) wx := by kernel_rfl

theorem endFitsE (v : Value) (n : Int) (wx : World) : (callFunc 80 #[v, .int .i64 n]).run Try.prog wx = .ok (.enter 80 #[v, .int .i64 n]) wx := by kernel_rfl

theorem endIs (n : Int) : Fits (.iface 105 (endV)) n (true) :=
  ⟨_, _, _, rfl, fun wx => endFitsM _ wx, fun wx => endFitsE _ n wx, fun _ wx hQ => endFits_any n wx hQ⟩

theorem setPure (dst op av an bv bn x n : Int) : stepB ⟨1, dst, op, av, an, bv, bn, [x]⟩ n = (sameB ⟨1, dst, op, av, an, bv, bn, [x]⟩ ⟨1, dst, op, av, an, bv, bn, [x]⟩ && (inB dst 0 11 && inB op 1 4 && opndB av an && opndB bv bn && inB x 0 (n - 1))) := by
  rw [Bool.eq_iff_iff]
  simp [stepB, restB, many, sameB, sameInts]
  grind
theorem copyPure (dst op av an bv bn x n : Int) : stepB ⟨2, dst, op, av, an, bv, bn, [x]⟩ n = (sameB ⟨2, dst, 0, av, an, 0, 0, [x]⟩ ⟨2, dst, op, av, an, bv, bn, [x]⟩ && (inB dst 0 11 && opndB av an && inB x 0 (n - 1))) := by
  rw [Bool.eq_iff_iff]
  simp [stepB, restB, noneB, many, sameB, sameInts]
  grind
theorem inPure (dst op av an bv bn x n : Int) : stepB ⟨3, dst, op, av, an, bv, bn, [x]⟩ n = (sameB ⟨3, dst, 0, 0, 0, 0, 0, [x]⟩ ⟨3, dst, op, av, an, bv, bn, [x]⟩ && (inB dst 0 11 && inB x 0 (n - 1))) := by
  rw [Bool.eq_iff_iff]
  simp [stepB, restB, noneB, many, sameB, sameInts]
  grind
theorem outPure (dst op av an bv bn x n : Int) : stepB ⟨4, dst, op, av, an, bv, bn, [x]⟩ n = (sameB ⟨4, 0, 0, av, an, 0, 0, [x]⟩ ⟨4, dst, op, av, an, bv, bn, [x]⟩ && (opndB av an && inB x 0 (n - 1))) := by
  rw [Bool.eq_iff_iff]
  simp [stepB, restB, noneB, many, sameB, sameInts]
  grind
theorem testPure (dst op av an bv bn x y n : Int) : stepB ⟨5, dst, op, av, an, bv, bn, [x, y]⟩ n = (sameB ⟨5, 0, 0, av, an, 0, 0, [x, y]⟩ ⟨5, dst, op, av, an, bv, bn, [x, y]⟩ && (opndB av an && inB x 0 (n - 1) && inB y 0 (n - 1))) := by
  rw [Bool.eq_iff_iff]
  simp [stepB, restB, noneB, many, sameB, sameInts]
  grind
theorem skipPure (dst op av an bv bn x n : Int) : stepB ⟨6, dst, op, av, an, bv, bn, [x]⟩ n = (sameB ⟨6, 0, 0, 0, 0, 0, 0, [x]⟩ ⟨6, dst, op, av, an, bv, bn, [x]⟩ && (inB x 0 (n - 1))) := by
  rw [Bool.eq_iff_iff]
  simp [stepB, restB, noneB, many, sameB, sameInts]
  grind
theorem endPure (dst op av an bv bn n : Int) : stepB ⟨7, dst, op, av, an, bv, bn, []⟩ n = (sameB ⟨7, 0, 0, 0, 0, 0, 0, []⟩ ⟨7, dst, op, av, an, bv, bn, []⟩ && (true)) := by
  rw [Bool.eq_iff_iff]
  simp [stepB, restB, noneB, many, sameB, sameInts]
  grind

theorem len0 {l : List Int} (h : l.length = 0) : l = [] := List.length_eq_zero_iff.1 h
theorem len1 {l : List Int} (h : l.length = 1) : ∃ x, l = [x] := List.length_eq_one_iff.1 h
theorem len2 {l : List Int} (h : l.length = 2) : ∃ x y, l = [x, y] := by
  match l, h with
  | [x, y], _ => exact ⟨x, y, rfl⟩

set_option maxHeartbeats 4000000 in
theorem formOf_len {Q : Ending → World → Prop} (nv : Value) (s : St) (w : World) (h : IntsAt w nv s.next) (hl : s.next.length ≤ 1048576) (hlen : ¬ (s.next.length : Int) = count s.kind)
    (hQ : ∀ w', Below w.heap.size w w' → Q (.returned (.tuple #[.nilIface, .bool false])) w') :
    Calls Try.prog 46 #[stepV s nv] w Q := by
  have HQ : Hid (∀ w', Below w.heap.size w w' → Q (.returned (.tuple #[.nilIface, .bool false])) w') := hQ
  clear hQ
  obtain ⟨ao, b, o, cap, rfl, ha, hc⟩ := id h
  clear ha hc h
  obtain ⟨kind, dst, op, av, an, bv, bn, next⟩ := s
  simp only at hlen hl
  unfold stepV
  have hne : ((next.length : Int) != count kind) = true := by simpa using hlen
  have HM : Hid (∀ wx, Calls Try.prog 48 #[.int .i64 kind] wx fun e w' => e = .returned (.int .i64 (count kind)) ∧ w' = wx) := fun wx => nextCount_any kind wx
  generalize count kind = mk at *
  clear hlen
  go_enter Try.func46, Try.ntmps46
  go_wp2_with fail
  go_quiet ((go_at_call 48; exact Calls.quiet_of_same (HM.out _)))
  go_wp2
  exact HQ.out _ (below_drewN ((Below.refl _ _).alloc (Nat.le_refl _) _) _)

set_option maxHeartbeats 4000000 in
theorem formOf_kind {Q : Ending → World → Prop} (nv : Value) (s : St) (w : World) (h : IntsAt w nv s.next) (hl : s.next.length ≤ 1048576) (hlen : (s.next.length : Int) = count s.kind) (hk : many s.kind = -1)
    (hQ : ∀ w', Below w.heap.size w w' → Q (.returned (.tuple #[.nilIface, .bool false])) w') :
    Calls Try.prog 46 #[stepV s nv] w Q := by
  have HQ : Hid (∀ w', Below w.heap.size w w' → Q (.returned (.tuple #[.nilIface, .bool false])) w') := hQ
  clear hQ
  obtain ⟨ao, b, o, cap, rfl, ha, hc⟩ := id h
  clear ha hc h
  obtain ⟨kind, dst, op, av, an, bv, bn, next⟩ := s
  simp only at hlen hl hk
  unfold stepV
  have g1 : (kind == 1) = false := by simp; rintro rfl; simp [many] at hk
  have g2 : (kind == 2) = false := by simp; rintro rfl; simp [many] at hk
  have g3 : (kind == 3) = false := by simp; rintro rfl; simp [many] at hk
  have g4 : (kind == 4) = false := by simp; rintro rfl; simp [many] at hk
  have g5 : (kind == 5) = false := by simp; rintro rfl; simp [many] at hk
  have g6 : (kind == 6) = false := by simp; rintro rfl; simp [many] at hk
  have g7 : (kind == 7) = false := by simp; rintro rfl; simp [many] at hk
  have hne : ((next.length : Int) != count kind) = false := by simpa using hlen
  have HM : Hid (∀ wx, Calls Try.prog 48 #[.int .i64 kind] wx fun e w' => e = .returned (.int .i64 (count kind)) ∧ w' = wx) := fun wx => nextCount_any kind wx
  generalize count kind = mk at *
  clear hlen hk
  go_enter Try.func46, Try.ntmps46
  go_wp2_with fail
  go_quiet ((go_at_call 48; exact Calls.quiet_of_same (HM.out _)))
  go_wp2
  exact HQ.out _ (below_drewN ((Below.refl _ _).alloc (Nat.le_refl _) _) _)

/-- Of each step: it has no form, or has more than its kind, and is not ok; or its form, whose fits says whether it is ok. -/
theorem formOf_any {Q : Ending → World → Prop} (nv : Value) (s : St) (n : Int) (w : World) (h : IntsAt w nv s.next) (hl : s.next.length ≤ 1048576)
    (hno : ∀ f w', Below w.heap.size w w' → stepB s n = false → (f = .nilIface ∨ ∃ T v, f = .iface T v) → Q (.returned (.tuple #[f, .bool false])) w')
    (hyes : ∀ w', Below w.heap.size w w' → Fits (formV s) n (stepB s n) → Q (.returned (.tuple #[formV s, .bool true])) w') :
    Calls Try.prog 46 #[stepV s nv] w Q := by
  by_cases hk : many s.kind = -1
  · have hs : stepB s n = false := by
      have : ¬ (s.next.length : Int) = many s.kind := by omega
      simp [stepB, this]
    by_cases hlen : (s.next.length : Int) = count s.kind
    · exact formOf_kind nv s w h hl hlen hk fun w' hb => hno _ w' hb hs (Or.inl rfl)
    · exact formOf_len nv s w h hl hlen fun w' hb => hno _ w' hb hs (Or.inl rfl)
  · by_cases hlen : (s.next.length : Int) = many s.kind
    · obtain ⟨kind, dst, op, av, an, bv, bn, next⟩ := s
      simp only at hk hlen hl h
      rcases many_cases hk with rfl | rfl | rfl | rfl | rfl | rfl | rfl
      · obtain ⟨x, rfl⟩ := len1 (l := next) (by simp [many] at hlen; omega)
        refine setOf_any nv dst op av an bv bn x w h fun w' hb => ?_
        have hf : formV ⟨1, dst, op, av, an, bv, bn, [x]⟩ = .iface 93 (setV dst op av an bv bn x) := by simp [formV]
        have hp := setPure dst op av an bv bn x n
        cases hsame : sameB ⟨1, dst, op, av, an, bv, bn, [x]⟩ ⟨1, dst, op, av, an, bv, bn, [x]⟩
        · exact hno _ w' hb (by rw [hp, hsame]; rfl) (Or.inr ⟨_, _, rfl⟩)
        · rw [hsame, Bool.true_and] at hp
          rw [← hf]
          exact hyes w' hb (by rw [hf, hp]; exact setIs dst op av an bv bn x n)
      · obtain ⟨x, rfl⟩ := len1 (l := next) (by simp [many] at hlen; omega)
        refine copyOf_any nv dst op av an bv bn x w h fun w' hb => ?_
        have hf : formV ⟨2, dst, op, av, an, bv, bn, [x]⟩ = .iface 95 (copyV dst av an x) := by simp [formV]
        have hp := copyPure dst op av an bv bn x n
        cases hsame : sameB ⟨2, dst, 0, av, an, 0, 0, [x]⟩ ⟨2, dst, op, av, an, bv, bn, [x]⟩
        · exact hno _ w' hb (by rw [hp, hsame]; rfl) (Or.inr ⟨_, _, rfl⟩)
        · rw [hsame, Bool.true_and] at hp
          rw [← hf]
          exact hyes w' hb (by rw [hf, hp]; exact copyIs dst av an x n)
      · obtain ⟨x, rfl⟩ := len1 (l := next) (by simp [many] at hlen; omega)
        refine inOf_any nv dst op av an bv bn x w h fun w' hb => ?_
        have hf : formV ⟨3, dst, op, av, an, bv, bn, [x]⟩ = .iface 97 (inV dst x) := by simp [formV]
        have hp := inPure dst op av an bv bn x n
        cases hsame : sameB ⟨3, dst, 0, 0, 0, 0, 0, [x]⟩ ⟨3, dst, op, av, an, bv, bn, [x]⟩
        · exact hno _ w' hb (by rw [hp, hsame]; rfl) (Or.inr ⟨_, _, rfl⟩)
        · rw [hsame, Bool.true_and] at hp
          rw [← hf]
          exact hyes w' hb (by rw [hf, hp]; exact inIs dst x n)
      · obtain ⟨x, rfl⟩ := len1 (l := next) (by simp [many] at hlen; omega)
        refine outOf_any nv dst op av an bv bn x w h fun w' hb => ?_
        have hf : formV ⟨4, dst, op, av, an, bv, bn, [x]⟩ = .iface 99 (outV av an x) := by simp [formV]
        have hp := outPure dst op av an bv bn x n
        cases hsame : sameB ⟨4, 0, 0, av, an, 0, 0, [x]⟩ ⟨4, dst, op, av, an, bv, bn, [x]⟩
        · exact hno _ w' hb (by rw [hp, hsame]; rfl) (Or.inr ⟨_, _, rfl⟩)
        · rw [hsame, Bool.true_and] at hp
          rw [← hf]
          exact hyes w' hb (by rw [hf, hp]; exact outIs av an x n)
      · obtain ⟨x, y, rfl⟩ := len2 (l := next) (by simp [many] at hlen; omega)
        refine testOf_any nv dst op av an bv bn x y w h fun w' hb => ?_
        have hf : formV ⟨5, dst, op, av, an, bv, bn, [x, y]⟩ = .iface 101 (testV av an x y) := by simp [formV]
        have hp := testPure dst op av an bv bn x y n
        cases hsame : sameB ⟨5, 0, 0, av, an, 0, 0, [x, y]⟩ ⟨5, dst, op, av, an, bv, bn, [x, y]⟩
        · exact hno _ w' hb (by rw [hp, hsame]; rfl) (Or.inr ⟨_, _, rfl⟩)
        · rw [hsame, Bool.true_and] at hp
          rw [← hf]
          exact hyes w' hb (by rw [hf, hp]; exact testIs av an x y n)
      · obtain ⟨x, rfl⟩ := len1 (l := next) (by simp [many] at hlen; omega)
        refine skipOf_any nv dst op av an bv bn x w h fun w' hb => ?_
        have hf : formV ⟨6, dst, op, av, an, bv, bn, [x]⟩ = .iface 103 (skipV x) := by simp [formV]
        have hp := skipPure dst op av an bv bn x n
        cases hsame : sameB ⟨6, 0, 0, 0, 0, 0, 0, [x]⟩ ⟨6, dst, op, av, an, bv, bn, [x]⟩
        · exact hno _ w' hb (by rw [hp, hsame]; rfl) (Or.inr ⟨_, _, rfl⟩)
        · rw [hsame, Bool.true_and] at hp
          rw [← hf]
          exact hyes w' hb (by rw [hf, hp]; exact skipIs x n)
      · obtain rfl := len0 (by simpa [many] using hlen)
        refine endOf_any nv dst op av an bv bn w h fun w' hb => ?_
        have hf : formV ⟨7, dst, op, av, an, bv, bn, []⟩ = .iface 105 (endV) := by simp [formV]
        have hp := endPure dst op av an bv bn n
        cases hsame : sameB ⟨7, 0, 0, 0, 0, 0, 0, []⟩ ⟨7, dst, op, av, an, bv, bn, []⟩
        · exact hno _ w' hb (by rw [hp, hsame]; rfl) (Or.inr ⟨_, _, rfl⟩)
        · rw [hsame, Bool.true_and] at hp
          rw [← hf]
          exact hyes w' hb (by rw [hf, hp]; exact endIs n)
    · have hlen' : ¬ (s.next.length : Int) = count s.kind := by
        intro hc
        apply hlen
        rw [hc]
        rcases many_cases hk with e | e | e | e | e | e | e <;> rw [e] <;> rfl
      exact formOf_len nv s w h hl hlen' fun w' hb => hno _ w' hb (by simp [stepB, hlen]) (Or.inl rfl)
end Go.Proofs.Ytdgghpklhkgknaa
