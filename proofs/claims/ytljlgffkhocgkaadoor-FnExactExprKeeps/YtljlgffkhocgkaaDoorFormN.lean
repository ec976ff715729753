/- formOf of a step, kind by kind, and of a step that has no form. formOf of any step. formsOf of a program, and the program's own ProgOk. -/
import Derived.Test.YtljlgffkhocgkaaDoorFormM
import Derived.OwnWalk
namespace Go.Proofs.YtljlgffkhocgkaaDoor
open Go.RowKit

/-- The methods' names, as the interface's type has them. -/
def nameAt (u : Option TypeDesc) (i : Nat) : String := match u with
  | some (.interface ms) => ((ms[i]?).map (·.1)).getD ""
  | _ => ""

theorem setMethod (v : Value) (wx : World) : (method 271 134 v (nameAt (Tryd.prog.underlying 122) 1)).run Tryd.prog wx = .ok (120, v) wx := by kernel_rfl
theorem copyMethod (v : Value) (wx : World) : (method 271 136 v (nameAt (Tryd.prog.underlying 122) 1)).run Tryd.prog wx = .ok (123, v) wx := by kernel_rfl
theorem inMethod (v : Value) (wx : World) : (method 271 138 v (nameAt (Tryd.prog.underlying 122) 1)).run Tryd.prog wx = .ok (125, v) wx := by kernel_rfl
theorem outMethod (v : Value) (wx : World) : (method 271 140 v (nameAt (Tryd.prog.underlying 122) 1)).run Tryd.prog wx = .ok (127, v) wx := by kernel_rfl
theorem testMethod (v : Value) (wx : World) : (method 271 142 v (nameAt (Tryd.prog.underlying 122) 1)).run Tryd.prog wx = .ok (129, v) wx := by kernel_rfl
theorem skipMethod (v : Value) (wx : World) : (method 271 144 v (nameAt (Tryd.prog.underlying 122) 1)).run Tryd.prog wx = .ok (131, v) wx := by kernel_rfl
theorem endMethod (v : Value) (wx : World) : (method 271 146 v (nameAt (Tryd.prog.underlying 122) 1)).run Tryd.prog wx = .ok (133, v) wx := by kernel_rfl

set_option maxHeartbeats 4000000 in
theorem setOf_any {Q : Ending → World → Prop} (nv : Value) (dst op av an bv bn x : Int) (w : World) (h : IntsAt w nv [x])
    (hQ : ∀ w', Below w.heap.size w w' → Q (.returned (.tuple #[.iface 134 (setV dst op av an bv bn x), .bool (sameB ⟨1, dst, op, av, an, bv, bn, [x]⟩ ⟨1, dst, op, av, an, bv, bn, [x]⟩)])) w') :
    Calls Tryd.prog 82 #[stepV ⟨1, dst, op, av, an, bv, bn, [x]⟩ nv] w Q := by
  have HQ : Hid (∀ w', Below w.heap.size w w' → Q (.returned (.tuple #[.iface 134 (setV dst op av an bv bn x), .bool (sameB ⟨1, dst, op, av, an, bv, bn, [x]⟩ ⟨1, dst, op, av, an, bv, bn, [x]⟩)])) w') := hQ
  clear hQ
  obtain ⟨ao, b, o, cap, hv, ha, hc⟩ := id h
  obtain rfl := ha (by simp)
  have c0 := hc 0 (by simp)
  subst hv
  have HH : Hid (IntsAt w (.slice (some ⟨b, o, none⟩) [x].length cap) [x]) := h
  clear ha hc h
  have hblk : b < w.heap.size := cell_lt c0
  simp only [List.length_cons, List.length_nil, Nat.zero_add, Nat.add_zero, List.getD_cons_zero] at c0 HH
  unfold stepV
  simp only [List.length_cons, List.length_nil, Nat.zero_add]
  go_enter Tryd.func82, Tryd.ntmps82
  go_wp2_with fail
  go_quiet ((go_at_call 96; exact Calls.quiet_of_same (nextCount_any _ _)))
  have hcount : count 1 = 1 := rfl
  go_wp2_with fail
  go_quiet (fail)
  go_wp2_with fail
  have hm := fun v wx => setMethod v wx
  simp [nameAt, Tryd.underlying122] at hm
  go_region_with (first | (go_at_call 120; refine setStep_any _ _ _ _ _ _ _ _ ?_; intro nv' w1 hi1 hb1; obtain ⟨hc1, hf1⟩ := bcell hb1; have hbA : Below w.heap.size w w1 := (below_drewN ((Below.refl _ _).alloc (Nat.le_refl _) _) _).trans (hb1.mono (by simp))) | (go_at_call 97; refine sameStep_any nv' (.slice (some ⟨b, o, none⟩) 1 cap) ⟨1, dst, op, av, an, bv, bn, [x]⟩ ⟨1, dst, op, av, an, bv, bn, [x]⟩ _ hi1 (HH.out.keep hbA) (by simp) (by simp) ?_; intro w2 hb2))
  all_goals
    have hbB : Below w.heap.size w w2 := hbA.trans (hb2.mono hbA.size)
    clear hb2 hbA hc1 hf1 hb1 hi1 hm
    go_wp2
    go_ret2
    exact HQ.out _ hbB

set_option maxHeartbeats 4000000 in
theorem copyOf_any {Q : Ending → World → Prop} (nv : Value) (dst op av an bv bn x : Int) (w : World) (h : IntsAt w nv [x])
    (hQ : ∀ w', Below w.heap.size w w' → Q (.returned (.tuple #[.iface 136 (copyV dst av an x), .bool (sameB ⟨2, dst, 0, av, an, 0, 0, [x]⟩ ⟨2, dst, op, av, an, bv, bn, [x]⟩)])) w') :
    Calls Tryd.prog 82 #[stepV ⟨2, dst, op, av, an, bv, bn, [x]⟩ nv] w Q := by
  have HQ : Hid (∀ w', Below w.heap.size w w' → Q (.returned (.tuple #[.iface 136 (copyV dst av an x), .bool (sameB ⟨2, dst, 0, av, an, 0, 0, [x]⟩ ⟨2, dst, op, av, an, bv, bn, [x]⟩)])) w') := hQ
  clear hQ
  obtain ⟨ao, b, o, cap, hv, ha, hc⟩ := id h
  obtain rfl := ha (by simp)
  have c0 := hc 0 (by simp)
  subst hv
  have HH : Hid (IntsAt w (.slice (some ⟨b, o, none⟩) [x].length cap) [x]) := h
  clear ha hc h
  have hblk : b < w.heap.size := cell_lt c0
  simp only [List.length_cons, List.length_nil, Nat.zero_add, Nat.add_zero, List.getD_cons_zero] at c0 HH
  unfold stepV
  simp only [List.length_cons, List.length_nil, Nat.zero_add]
  go_enter Tryd.func82, Tryd.ntmps82
  go_wp2_with fail
  go_quiet ((go_at_call 96; exact Calls.quiet_of_same (nextCount_any _ _)))
  have hcount : count 2 = 1 := rfl
  go_wp2_with fail
  go_quiet (fail)
  go_wp2_with fail
  have hm := fun v wx => copyMethod v wx
  simp [nameAt, Tryd.underlying122] at hm
  go_region_with (first | (go_at_call 123; refine copyStep_any _ _ _ _ _ ?_; intro nv' w1 hi1 hb1; obtain ⟨hc1, hf1⟩ := bcell hb1; have hbA : Below w.heap.size w w1 := (below_drewN ((Below.refl _ _).alloc (Nat.le_refl _) _) _).trans (hb1.mono (by simp))) | (go_at_call 97; refine sameStep_any nv' (.slice (some ⟨b, o, none⟩) 1 cap) ⟨2, dst, 0, av, an, 0, 0, [x]⟩ ⟨2, dst, op, av, an, bv, bn, [x]⟩ _ hi1 (HH.out.keep hbA) (by simp) (by simp) ?_; intro w2 hb2))
  all_goals
    have hbB : Below w.heap.size w w2 := hbA.trans (hb2.mono hbA.size)
    clear hb2 hbA hc1 hf1 hb1 hi1 hm
    go_wp2
    go_ret2
    exact HQ.out _ hbB

set_option maxHeartbeats 4000000 in
theorem inOf_any {Q : Ending → World → Prop} (nv : Value) (dst op av an bv bn x : Int) (w : World) (h : IntsAt w nv [x])
    (hQ : ∀ w', Below w.heap.size w w' → Q (.returned (.tuple #[.iface 138 (inV dst x), .bool (sameB ⟨3, dst, 0, 0, 0, 0, 0, [x]⟩ ⟨3, dst, op, av, an, bv, bn, [x]⟩)])) w') :
    Calls Tryd.prog 82 #[stepV ⟨3, dst, op, av, an, bv, bn, [x]⟩ nv] w Q := by
  have HQ : Hid (∀ w', Below w.heap.size w w' → Q (.returned (.tuple #[.iface 138 (inV dst x), .bool (sameB ⟨3, dst, 0, 0, 0, 0, 0, [x]⟩ ⟨3, dst, op, av, an, bv, bn, [x]⟩)])) w') := hQ
  clear hQ
  obtain ⟨ao, b, o, cap, hv, ha, hc⟩ := id h
  obtain rfl := ha (by simp)
  have c0 := hc 0 (by simp)
  subst hv
  have HH : Hid (IntsAt w (.slice (some ⟨b, o, none⟩) [x].length cap) [x]) := h
  clear ha hc h
  have hblk : b < w.heap.size := cell_lt c0
  simp only [List.length_cons, List.length_nil, Nat.zero_add, Nat.add_zero, List.getD_cons_zero] at c0 HH
  unfold stepV
  simp only [List.length_cons, List.length_nil, Nat.zero_add]
  go_enter Tryd.func82, Tryd.ntmps82
  go_wp2_with fail
  go_quiet ((go_at_call 96; exact Calls.quiet_of_same (nextCount_any _ _)))
  have hcount : count 3 = 1 := rfl
  go_wp2_with fail
  go_quiet (fail)
  go_wp2_with fail
  have hm := fun v wx => inMethod v wx
  simp [nameAt, Tryd.underlying122] at hm
  go_region_with (first | (go_at_call 125; refine inStep_any _ _ _ ?_; intro nv' w1 hi1 hb1; obtain ⟨hc1, hf1⟩ := bcell hb1; have hbA : Below w.heap.size w w1 := (below_drewN ((Below.refl _ _).alloc (Nat.le_refl _) _) _).trans (hb1.mono (by simp))) | (go_at_call 97; refine sameStep_any nv' (.slice (some ⟨b, o, none⟩) 1 cap) ⟨3, dst, 0, 0, 0, 0, 0, [x]⟩ ⟨3, dst, op, av, an, bv, bn, [x]⟩ _ hi1 (HH.out.keep hbA) (by simp) (by simp) ?_; intro w2 hb2))
  all_goals
    have hbB : Below w.heap.size w w2 := hbA.trans (hb2.mono hbA.size)
    clear hb2 hbA hc1 hf1 hb1 hi1 hm
    go_wp2
    go_ret2
    exact HQ.out _ hbB

set_option maxHeartbeats 4000000 in
theorem outOf_any {Q : Ending → World → Prop} (nv : Value) (dst op av an bv bn x : Int) (w : World) (h : IntsAt w nv [x])
    (hQ : ∀ w', Below w.heap.size w w' → Q (.returned (.tuple #[.iface 140 (outV av an x), .bool (sameB ⟨4, 0, 0, av, an, 0, 0, [x]⟩ ⟨4, dst, op, av, an, bv, bn, [x]⟩)])) w') :
    Calls Tryd.prog 82 #[stepV ⟨4, dst, op, av, an, bv, bn, [x]⟩ nv] w Q := by
  have HQ : Hid (∀ w', Below w.heap.size w w' → Q (.returned (.tuple #[.iface 140 (outV av an x), .bool (sameB ⟨4, 0, 0, av, an, 0, 0, [x]⟩ ⟨4, dst, op, av, an, bv, bn, [x]⟩)])) w') := hQ
  clear hQ
  obtain ⟨ao, b, o, cap, hv, ha, hc⟩ := id h
  obtain rfl := ha (by simp)
  have c0 := hc 0 (by simp)
  subst hv
  have HH : Hid (IntsAt w (.slice (some ⟨b, o, none⟩) [x].length cap) [x]) := h
  clear ha hc h
  have hblk : b < w.heap.size := cell_lt c0
  simp only [List.length_cons, List.length_nil, Nat.zero_add, Nat.add_zero, List.getD_cons_zero] at c0 HH
  unfold stepV
  simp only [List.length_cons, List.length_nil, Nat.zero_add]
  go_enter Tryd.func82, Tryd.ntmps82
  go_wp2_with fail
  go_quiet ((go_at_call 96; exact Calls.quiet_of_same (nextCount_any _ _)))
  have hcount : count 4 = 1 := rfl
  go_wp2_with fail
  go_quiet (fail)
  go_wp2_with fail
  have hm := fun v wx => outMethod v wx
  simp [nameAt, Tryd.underlying122] at hm
  go_region_with (first | (go_at_call 127; refine outStep_any _ _ _ _ ?_; intro nv' w1 hi1 hb1; obtain ⟨hc1, hf1⟩ := bcell hb1; have hbA : Below w.heap.size w w1 := (below_drewN ((Below.refl _ _).alloc (Nat.le_refl _) _) _).trans (hb1.mono (by simp))) | (go_at_call 97; refine sameStep_any nv' (.slice (some ⟨b, o, none⟩) 1 cap) ⟨4, 0, 0, av, an, 0, 0, [x]⟩ ⟨4, dst, op, av, an, bv, bn, [x]⟩ _ hi1 (HH.out.keep hbA) (by simp) (by simp) ?_; intro w2 hb2))
  all_goals
    have hbB : Below w.heap.size w w2 := hbA.trans (hb2.mono hbA.size)
    clear hb2 hbA hc1 hf1 hb1 hi1 hm
    go_wp2
    go_ret2
    exact HQ.out _ hbB

set_option maxHeartbeats 4000000 in
theorem testOf_any {Q : Ending → World → Prop} (nv : Value) (dst op av an bv bn x y : Int) (w : World) (h : IntsAt w nv [x, y])
    (hQ : ∀ w', Below w.heap.size w w' → Q (.returned (.tuple #[.iface 142 (testV av an x y), .bool (sameB ⟨5, 0, 0, av, an, 0, 0, [x, y]⟩ ⟨5, dst, op, av, an, bv, bn, [x, y]⟩)])) w') :
    Calls Tryd.prog 82 #[stepV ⟨5, dst, op, av, an, bv, bn, [x, y]⟩ nv] w Q := by
  have HQ : Hid (∀ w', Below w.heap.size w w' → Q (.returned (.tuple #[.iface 142 (testV av an x y), .bool (sameB ⟨5, 0, 0, av, an, 0, 0, [x, y]⟩ ⟨5, dst, op, av, an, bv, bn, [x, y]⟩)])) w') := hQ
  clear hQ
  obtain ⟨ao, b, o, cap, hv, ha, hc⟩ := id h
  obtain rfl := ha (by simp)
  have c0 := hc 0 (by simp)
  have c1 := hc 1 (by simp)
  subst hv
  have HH : Hid (IntsAt w (.slice (some ⟨b, o, none⟩) [x, y].length cap) [x, y]) := h
  clear ha hc h
  have hblk : b < w.heap.size := cell_lt c0
  simp only [List.length_cons, List.length_nil, Nat.zero_add, Nat.add_zero, List.getD_cons_zero, List.getD_cons_succ, Nat.reduceAdd] at c0 c1 HH
  unfold stepV
  simp only [List.length_cons, List.length_nil, Nat.zero_add, Nat.reduceAdd]
  go_enter Tryd.func82, Tryd.ntmps82
  go_wp2_with fail
  go_quiet ((go_at_call 96; exact Calls.quiet_of_same (nextCount_any _ _)))
  have hcount : count 5 = 2 := rfl
  go_wp2_with fail
  go_quiet (fail)
  go_wp2_with fail
  have hm := fun v wx => testMethod v wx
  simp [nameAt, Tryd.underlying122] at hm
  go_region_with (first | (go_at_call 129; refine testStep_any _ _ _ _ _ ?_; intro nv' w1 hi1 hb1; obtain ⟨hc1, hf1⟩ := bcell hb1; have hbA : Below w.heap.size w w1 := (below_drewN ((Below.refl _ _).alloc (Nat.le_refl _) _) _).trans (hb1.mono (by simp))) | (go_at_call 97; refine sameStep_any nv' (.slice (some ⟨b, o, none⟩) 2 cap) ⟨5, 0, 0, av, an, 0, 0, [x, y]⟩ ⟨5, dst, op, av, an, bv, bn, [x, y]⟩ _ hi1 (HH.out.keep hbA) (by simp) (by simp) ?_; intro w2 hb2))
  all_goals
    have hbB : Below w.heap.size w w2 := hbA.trans (hb2.mono hbA.size)
    clear hb2 hbA hc1 hf1 hb1 hi1 hm
    go_wp2
    go_ret2
    exact HQ.out _ hbB

set_option maxHeartbeats 4000000 in
theorem skipOf_any {Q : Ending → World → Prop} (nv : Value) (dst op av an bv bn x : Int) (w : World) (h : IntsAt w nv [x])
    (hQ : ∀ w', Below w.heap.size w w' → Q (.returned (.tuple #[.iface 144 (skipV x), .bool (sameB ⟨6, 0, 0, 0, 0, 0, 0, [x]⟩ ⟨6, dst, op, av, an, bv, bn, [x]⟩)])) w') :
    Calls Tryd.prog 82 #[stepV ⟨6, dst, op, av, an, bv, bn, [x]⟩ nv] w Q := by
  have HQ : Hid (∀ w', Below w.heap.size w w' → Q (.returned (.tuple #[.iface 144 (skipV x), .bool (sameB ⟨6, 0, 0, 0, 0, 0, 0, [x]⟩ ⟨6, dst, op, av, an, bv, bn, [x]⟩)])) w') := hQ
  clear hQ
  obtain ⟨ao, b, o, cap, hv, ha, hc⟩ := id h
  obtain rfl := ha (by simp)
  have c0 := hc 0 (by simp)
  subst hv
  have HH : Hid (IntsAt w (.slice (some ⟨b, o, none⟩) [x].length cap) [x]) := h
  clear ha hc h
  have hblk : b < w.heap.size := cell_lt c0
  simp only [List.length_cons, List.length_nil, Nat.zero_add, Nat.add_zero, List.getD_cons_zero] at c0 HH
  unfold stepV
  simp only [List.length_cons, List.length_nil, Nat.zero_add]
  go_enter Tryd.func82, Tryd.ntmps82
  go_wp2_with fail
  go_quiet ((go_at_call 96; exact Calls.quiet_of_same (nextCount_any _ _)))
  have hcount : count 6 = 1 := rfl
  go_wp2_with fail
  have hm := fun v wx => skipMethod v wx
  simp [nameAt, Tryd.underlying122] at hm
  go_region_with (first | (go_at_call 131; refine skipStep_any _ _ ?_; intro nv' w1 hi1 hb1; obtain ⟨hc1, hf1⟩ := bcell hb1; have hbA : Below w.heap.size w w1 := (below_drewN ((Below.refl _ _).alloc (Nat.le_refl _) _) _).trans (hb1.mono (by simp))) | (go_at_call 97; refine sameStep_any nv' (.slice (some ⟨b, o, none⟩) 1 cap) ⟨6, 0, 0, 0, 0, 0, 0, [x]⟩ ⟨6, dst, op, av, an, bv, bn, [x]⟩ _ hi1 (HH.out.keep hbA) (by simp) (by simp) ?_; intro w2 hb2))
  all_goals
    have hbB : Below w.heap.size w w2 := hbA.trans (hb2.mono hbA.size)
    clear hb2 hbA hc1 hf1 hb1 hi1 hm
    go_wp2
    go_ret2
    exact HQ.out _ hbB

set_option maxHeartbeats 4000000 in
theorem endOf_any {Q : Ending → World → Prop} (nv : Value) (dst op av an bv bn : Int) (w : World) (h : IntsAt w nv [])
    (hQ : ∀ w', Below w.heap.size w w' → Q (.returned (.tuple #[.iface 146 (endV), .bool (sameB ⟨7, 0, 0, 0, 0, 0, 0, []⟩ ⟨7, dst, op, av, an, bv, bn, []⟩)])) w') :
    Calls Tryd.prog 82 #[stepV ⟨7, dst, op, av, an, bv, bn, []⟩ nv] w Q := by
  have HQ : Hid (∀ w', Below w.heap.size w w' → Q (.returned (.tuple #[.iface 146 (endV), .bool (sameB ⟨7, 0, 0, 0, 0, 0, 0, []⟩ ⟨7, dst, op, av, an, bv, bn, []⟩)])) w') := hQ
  clear hQ
  obtain ⟨ao, b, o, cap, hv, ha, hc⟩ := id h
  subst hv
  have HH : Hid (IntsAt w (.slice ao ([] : List Int).length cap) []) := h
  clear ha hc h
  simp only [List.length_nil] at HH
  unfold stepV
  simp only [List.length_nil]
  go_enter Tryd.func82, Tryd.ntmps82
  go_wp2_with fail
  go_quiet ((go_at_call 96; exact Calls.quiet_of_same (nextCount_any _ _)))
  have hcount : count 7 = 0 := rfl
  go_wp2_with fail
  have hm := fun v wx => endMethod v wx
  simp [nameAt, Tryd.underlying122] at hm
  go_region_with (first | (go_at_call 133; refine endStep_any _ ?_; intro nv' w1 hi1 hb1; obtain ⟨hc1, hf1⟩ := bcell hb1; have hbA : Below w.heap.size w w1 := (below_drewN ((Below.refl _ _).alloc (Nat.le_refl _) _) _).trans (hb1.mono (by simp))) | (go_at_call 97; refine sameStep_any nv' (.slice ao 0 cap) ⟨7, 0, 0, 0, 0, 0, 0, []⟩ ⟨7, dst, op, av, an, bv, bn, []⟩ _ hi1 (HH.out.keep hbA) (by simp) (by simp) ?_; intro w2 hb2))
  all_goals
    have hbB : Below w.heap.size w w2 := hbA.trans (hb2.mono hbA.size)
    clear hb2 hbA hc1 hf1 hb1 hi1 hm
    go_wp2
    go_ret2
    exact HQ.out _ hbB
end Go.Proofs.YtljlgffkhocgkaaDoor
namespace Go.Proofs.YtljlgffkhocgkaaDoor
open Go.RowKit

/-- The form of a step that is ok. -/
def formV (s : St) : Value :=
  if s.kind = 1 then .iface 134 (setV s.dst s.op s.av s.an s.bv s.bn (s.next.getD 0 0))
  else if s.kind = 2 then .iface 136 (copyV s.dst s.av s.an (s.next.getD 0 0))
  else if s.kind = 3 then .iface 138 (inV s.dst (s.next.getD 0 0))
  else if s.kind = 4 then .iface 140 (outV s.av s.an (s.next.getD 0 0))
  else if s.kind = 5 then .iface 142 (testV s.av s.an (s.next.getD 0 0) (s.next.getD 1 0))
  else if s.kind = 6 then .iface 144 (skipV (s.next.getD 0 0))
  else .iface 146 (endV)

/-- What a call of fits on a form answers. -/
def Fits (f : Value) (n : Int) (r : Bool) : Prop :=
  ∃ T v fn, f = .iface T v ∧ (∀ wx, (method 271 T v (nameAt (Tryd.prog.underlying 122) 0)).run Tryd.prog wx = .ok (fn, v) wx) ∧ (∀ wx, (callFunc fn #[v, .int .i64 n]).run Tryd.prog wx = .ok (.enter fn #[v, .int .i64 n]) wx) ∧
    ∀ (Q : Ending → World → Prop) wx, (∀ w', Below wx.heap.size wx w' → Q (.returned (.bool r)) w') → Calls Tryd.prog fn #[v, .int .i64 n] wx Q

theorem setFitsM (v : Value) (wx : World) : (method 271 134 v (nameAt (Tryd.prog.underlying 122) 0)).run Tryd.prog wx = .ok (119, v) wx := by kernel_rfl

theorem setFitsE (v : Value) (n : Int) (wx : World) : (callFunc 119 #[v, .int .i64 n]).run Tryd.prog wx = .ok (.enter 119 #[v, .int .i64 n]) wx := by kernel_rfl

theorem setIs (dst op av an bv bn x : Int) (n : Int) : Fits (.iface 134 (setV dst op av an bv bn x)) n (inB dst 0 11 && inB op 1 4 && opndB av an && opndB bv bn && inB x 0 (n - 1)) :=
  ⟨_, _, _, rfl, fun wx => setFitsM _ wx, fun wx => setFitsE _ n wx, fun _ wx hQ => setFits_any dst op av an bv bn x n wx hQ⟩

theorem copyFitsM (v : Value) (wx : World) : (method 271 136 v (nameAt (Tryd.prog.underlying 122) 0)).run Tryd.prog wx = .ok (122, v) wx := by kernel_rfl

theorem copyFitsE (v : Value) (n : Int) (wx : World) : (callFunc 122 #[v, .int .i64 n]).run Tryd.prog wx = .ok (.enter 122 #[v, .int .i64 n]) wx := by kernel_rfl

theorem copyIs (dst av an x : Int) (n : Int) : Fits (.iface 136 (copyV dst av an x)) n (inB dst 0 11 && opndB av an && inB x 0 (n - 1)) :=
  ⟨_, _, _, rfl, fun wx => copyFitsM _ wx, fun wx => copyFitsE _ n wx, fun _ wx hQ => copyFits_any dst av an x n wx hQ⟩

theorem inFitsM (v : Value) (wx : World) : (method 271 138 v (nameAt (Tryd.prog.underlying 122) 0)).run Tryd.prog wx = .ok (124, v) wx := by kernel_rfl

theorem inFitsE (v : Value) (n : Int) (wx : World) : (callFunc 124 #[v, .int .i64 n]).run Tryd.prog wx = .ok (.enter 124 #[v, .int .i64 n]) wx := by kernel_rfl

theorem inIs (dst x : Int) (n : Int) : Fits (.iface 138 (inV dst x)) n (inB dst 0 11 && inB x 0 (n - 1)) :=
  ⟨_, _, _, rfl, fun wx => inFitsM _ wx, fun wx => inFitsE _ n wx, fun _ wx hQ => inFits_any dst x n wx hQ⟩

theorem outFitsM (v : Value) (wx : World) : (method 271 140 v (nameAt (Tryd.prog.underlying 122) 0)).run Tryd.prog wx = .ok (126, v) wx := by kernel_rfl

theorem outFitsE (v : Value) (n : Int) (wx : World) : (callFunc 126 #[v, .int .i64 n]).run Tryd.prog wx = .ok (.enter 126 #[v, .int .i64 n]) wx := by kernel_rfl

theorem outIs (av an x : Int) (n : Int) : Fits (.iface 140 (outV av an x)) n (opndB av an && inB x 0 (n - 1)) :=
  ⟨_, _, _, rfl, fun wx => outFitsM _ wx, fun wx => outFitsE _ n wx, fun _ wx hQ => outFits_any av an x n wx hQ⟩

theorem testFitsM (v : Value) (wx : World) : (method 271 142 v (nameAt (Tryd.prog.underlying 122) 0)).run Tryd.prog wx = .ok (128, v) wx := by kernel_rfl

theorem testFitsE (v : Value) (n : Int) (wx : World) : (callFunc 128 #[v, .int .i64 n]).run Tryd.prog wx = .ok (.enter 128 #[v, .int .i64 n]) wx := by kernel_rfl

theorem testIs (av an x y : Int) (n : Int) : Fits (.iface 142 (testV av an x y)) n (opndB av an && inB x 0 (n - 1) && inB y 0 (n - 1)) :=
  ⟨_, _, _, rfl, fun wx => testFitsM _ wx, fun wx => testFitsE _ n wx, fun _ wx hQ => testFits_any av an x y n wx hQ⟩

theorem skipFitsM (v : Value) (wx : World) : (method 271 144 v (nameAt (Tryd.prog.underlying 122) 0)).run Tryd.prog wx = .ok (130, v) wx := by kernel_rfl

theorem skipFitsE (v : Value) (n : Int) (wx : World) : (callFunc 130 #[v, .int .i64 n]).run Tryd.prog wx = .ok (.enter 130 #[v, .int .i64 n]) wx := by kernel_rfl

theorem skipIs (x : Int) (n : Int) : Fits (.iface 144 (skipV x)) n (inB x 0 (n - 1)) :=
  ⟨_, _, _, rfl, fun wx => skipFitsM _ wx, fun wx => skipFitsE _ n wx, fun _ wx hQ => skipFits_any x n wx hQ⟩

theorem endFitsM (v : Value) (wx : World) : (method 271 146 v (nameAt (Tryd.prog.underlying 122) 0)).run Tryd.prog wx = .ok (132, v) wx := by kernel_rfl

theorem endFitsE (v : Value) (n : Int) (wx : World) : (callFunc 132 #[v, .int .i64 n]).run Tryd.prog wx = .ok (.enter 132 #[v, .int .i64 n]) wx := by kernel_rfl

theorem endIs (n : Int) : Fits (.iface 146 (endV)) n (true) :=
  ⟨_, _, _, rfl, fun wx => endFitsM _ wx, fun wx => endFitsE _ n wx, fun _ wx hQ => endFits_any n wx hQ⟩

theorem setPure (dst op av an bv bn x n : Int) : stepB ⟨1, dst, op, av, an, bv, bn, [x]⟩ n = (sameB ⟨1, dst, op, av, an, bv, bn, [x]⟩ ⟨1, dst, op, av, an, bv, bn, [x]⟩ && (inB dst 0 11 && inB op 1 4 && opndB av an && opndB bv bn && inB x 0 (n - 1))) := by
  rw [Bool.eq_iff_iff]
  simp [stepB, restB, many, sameB, sameInts]
  grind
theorem copyPure (dst op av an bv bn x n : Int) : stepB ⟨2, dst, op, av, an, bv, bn, [x]⟩ n = (sameB ⟨2, dst, 0, av, an, 0, 0, [x]⟩ ⟨2, dst, op, av, an, bv, bn, [x]⟩ && (inB dst 0 11 && opndB av an && inB x 0 (n - 1))) := by
  rw [Bool.eq_iff_iff]
  simp [stepB, restB, noneB, many, sameB, sameInts]
  grind
theorem inPure (dst op av an bv bn x n : Int) : stepB ⟨3, dst, op, av, an, bv, bn, [x]⟩ n = (sameB ⟨3, dst, 0, 0, 0, 0, 0, [x]⟩ ⟨3, dst, op, av, an, bv, bn, [x]⟩ && (inB dst 0 11 && inB x 0 (n - 1))) := by
  rw [Bool.eq_iff_iff]
  simp [stepB, restB, noneB, many, sameB, sameInts]
  grind
theorem outPure (dst op av an bv bn x n : Int) : stepB ⟨4, dst, op, av, an, bv, bn, [x]⟩ n = (sameB ⟨4, 0, 0, av, an, 0, 0, [x]⟩ ⟨4, dst, op, av, an, bv, bn, [x]⟩ && (opndB av an && inB x 0 (n - 1))) := by
  rw [Bool.eq_iff_iff]
  simp [stepB, restB, noneB, many, sameB, sameInts]
  grind
theorem testPure (dst op av an bv bn x y n : Int) : stepB ⟨5, dst, op, av, an, bv, bn, [x, y]⟩ n = (sameB ⟨5, 0, 0, av, an, 0, 0, [x, y]⟩ ⟨5, dst, op, av, an, bv, bn, [x, y]⟩ && (opndB av an && inB x 0 (n - 1) && inB y 0 (n - 1))) := by
  rw [Bool.eq_iff_iff]
  simp [stepB, restB, noneB, many, sameB, sameInts]
  grind
theorem skipPure (dst op av an bv bn x n : Int) : stepB ⟨6, dst, op, av, an, bv, bn, [x]⟩ n = (sameB ⟨6, 0, 0, 0, 0, 0, 0, [x]⟩ ⟨6, dst, op, av, an, bv, bn, [x]⟩ && (inB x 0 (n - 1))) := by
  rw [Bool.eq_iff_iff]
  simp [stepB, restB, noneB, many, sameB, sameInts]
  grind
theorem endPure (dst op av an bv bn n : Int) : stepB ⟨7, dst, op, av, an, bv, bn, []⟩ n = (sameB ⟨7, 0, 0, 0, 0, 0, 0, []⟩ ⟨7, dst, op, av, an, bv, bn, []⟩ && (true)) := by
  rw [Bool.eq_iff_iff]
  simp [stepB, restB, noneB, many, sameB, sameInts]
  grind

theorem len0 {l : List Int} (h : l.length = 0) : l = [] := List.length_eq_zero_iff.1 h
theorem len1 {l : List Int} (h : l.length = 1) : ∃ x, l = [x] := List.length_eq_one_iff.1 h
theorem len2 {l : List Int} (h : l.length = 2) : ∃ x y, l = [x, y] := by
  match l, h with
  | [x, y], _ => exact ⟨x, y, rfl⟩

set_option maxHeartbeats 4000000 in
theorem formOf_len {Q : Ending → World → Prop} (nv : Value) (s : St) (w : World) (h : IntsAt w nv s.next) (hl : s.next.length ≤ 1048576) (hlen : ¬ (s.next.length : Int) = count s.kind)
    (hQ : ∀ w', Below w.heap.size w w' → Q (.returned (.tuple #[.nilIface, .bool false])) w') :
    Calls Tryd.prog 82 #[stepV s nv] w Q := by
  have HQ : Hid (∀ w', Below w.heap.size w w' → Q (.returned (.tuple #[.nilIface, .bool false])) w') := hQ
  clear hQ
  obtain ⟨ao, b, o, cap, rfl, ha, hc⟩ := id h
  clear ha hc h
  obtain ⟨kind, dst, op, av, an, bv, bn, next⟩ := s
  simp only at hlen hl
  unfold stepV
  have hne : ((next.length : Int) != count kind) = true := by simpa using hlen
  have HM : Hid (∀ wx, Calls Tryd.prog 96 #[.int .i64 kind] wx fun e w' => e = .returned (.int .i64 (count kind)) ∧ w' = wx) := fun wx => nextCount_any kind wx
  generalize count kind = mk at *
  clear hlen
  go_enter Tryd.func82, Tryd.ntmps82
  go_wp2_with fail
  go_quiet ((go_at_call 96; exact Calls.quiet_of_same (HM.out _)))
  go_wp2
  exact HQ.out _ (below_drewN ((Below.refl _ _).alloc (Nat.le_refl _) _) _)

set_option maxHeartbeats 4000000 in
theorem formOf_kind {Q : Ending → World → Prop} (nv : Value) (s : St) (w : World) (h : IntsAt w nv s.next) (hl : s.next.length ≤ 1048576) (hlen : (s.next.length : Int) = count s.kind) (hk : many s.kind = -1)
    (hQ : ∀ w', Below w.heap.size w w' → Q (.returned (.tuple #[.nilIface, .bool false])) w') :
    Calls Tryd.prog 82 #[stepV s nv] w Q := by
  have HQ : Hid (∀ w', Below w.heap.size w w' → Q (.returned (.tuple #[.nilIface, .bool false])) w') := hQ
  clear hQ
  obtain ⟨ao, b, o, cap, rfl, ha, hc⟩ := id h
  clear ha hc h
  obtain ⟨kind, dst, op, av, an, bv, bn, next⟩ := s
  simp only at hlen hl hk
  unfold stepV
  have g1 : (kind == 1) = false := by simp; rintro rfl; simp [many] at hk
  have g2 : (kind == 2) = false := by simp; rintro rfl; simp [many] at hk
  have g3 : (kind == 3) = false := by simp; rintro rfl; simp [many] at hk
  have g4 : (kind == 4) = false := by simp; rintro rfl; simp [many] at hk
  have g5 : (kind == 5) = false := by simp; rintro rfl; simp [many] at hk
  have g6 : (kind == 6) = false := by simp; rintro rfl; simp [many] at hk
  have g7 : (kind == 7) = false := by simp; rintro rfl; simp [many] at hk
  have hne : ((next.length : Int) != count kind) = false := by simpa using hlen
  have HM : Hid (∀ wx, Calls Tryd.prog 96 #[.int .i64 kind] wx fun e w' => e = .returned (.int .i64 (count kind)) ∧ w' = wx) := fun wx => nextCount_any kind wx
  generalize count kind = mk at *
  clear hlen hk
  go_enter Tryd.func82, Tryd.ntmps82
  go_wp2_with fail
  go_quiet ((go_at_call 96; exact Calls.quiet_of_same (HM.out _)))
  go_wp2
  exact HQ.out _ (below_drewN ((Below.refl _ _).alloc (Nat.le_refl _) _) _)

/-- Of each step: it has no form, or has more than its kind, and is not ok; or its form, whose fits says whether it is ok. -/
theorem formOf_any {Q : Ending → World → Prop} (nv : Value) (s : St) (n : Int) (w : World) (h : IntsAt w nv s.next) (hl : s.next.length ≤ 1048576)
    (hno : ∀ f w', Below w.heap.size w w' → stepB s n = false → (f = .nilIface ∨ ∃ T v, f = .iface T v) → Q (.returned (.tuple #[f, .bool false])) w')
    (hyes : ∀ w', Below w.heap.size w w' → Fits (formV s) n (stepB s n) → Q (.returned (.tuple #[formV s, .bool true])) w') :
    Calls Tryd.prog 82 #[stepV s nv] w Q := by
  by_cases hk : many s.kind = -1
  · have hs : stepB s n = false := by
      have : ¬ (s.next.length : Int) = many s.kind := by omega
      simp [stepB, this]
    by_cases hlen : (s.next.length : Int) = count s.kind
    · exact formOf_kind nv s w h hl hlen hk fun w' hb => hno _ w' hb hs (Or.inl rfl)
    · exact formOf_len nv s w h hl hlen fun w' hb => hno _ w' hb hs (Or.inl rfl)
  · by_cases hlen : (s.next.length : Int) = many s.kind
    · obtain ⟨kind, dst, op, av, an, bv, bn, next⟩ := s
      simp only at hk hlen hl h
      rcases many_cases hk with rfl | rfl | rfl | rfl | rfl | rfl | rfl
      · obtain ⟨x, rfl⟩ := len1 (l := next) (by simp [many] at hlen; omega)
        refine setOf_any nv dst op av an bv bn x w h fun w' hb => ?_
        have hf : formV ⟨1, dst, op, av, an, bv, bn, [x]⟩ = .iface 134 (setV dst op av an bv bn x) := by simp [formV]
        have hp := setPure dst op av an bv bn x n
        cases hsame : sameB ⟨1, dst, op, av, an, bv, bn, [x]⟩ ⟨1, dst, op, av, an, bv, bn, [x]⟩
        · exact hno _ w' hb (by rw [hp, hsame]; rfl) (Or.inr ⟨_, _, rfl⟩)
        · rw [hsame, Bool.true_and] at hp
          rw [← hf]
          exact hyes w' hb (by rw [hf, hp]; exact setIs dst op av an bv bn x n)
      · obtain ⟨x, rfl⟩ := len1 (l := next) (by simp [many] at hlen; omega)
        refine copyOf_any nv dst op av an bv bn x w h fun w' hb => ?_
        have hf : formV ⟨2, dst, op, av, an, bv, bn, [x]⟩ = .iface 136 (copyV dst av an x) := by simp [formV]
        have hp := copyPure dst op av an bv bn x n
        cases hsame : sameB ⟨2, dst, 0, av, an, 0, 0, [x]⟩ ⟨2, dst, op, av, an, bv, bn, [x]⟩
        · exact hno _ w' hb (by rw [hp, hsame]; rfl) (Or.inr ⟨_, _, rfl⟩)
        · rw [hsame, Bool.true_and] at hp
          rw [← hf]
          exact hyes w' hb (by rw [hf, hp]; exact copyIs dst av an x n)
      · obtain ⟨x, rfl⟩ := len1 (l := next) (by simp [many] at hlen; omega)
        refine inOf_any nv dst op av an bv bn x w h fun w' hb => ?_
        have hf : formV ⟨3, dst, op, av, an, bv, bn, [x]⟩ = .iface 138 (inV dst x) := by simp [formV]
        have hp := inPure dst op av an bv bn x n
        cases hsame : sameB ⟨3, dst, 0, 0, 0, 0, 0, [x]⟩ ⟨3, dst, op, av, an, bv, bn, [x]⟩
        · exact hno _ w' hb (by rw [hp, hsame]; rfl) (Or.inr ⟨_, _, rfl⟩)
        · rw [hsame, Bool.true_and] at hp
          rw [← hf]
          exact hyes w' hb (by rw [hf, hp]; exact inIs dst x n)
      · obtain ⟨x, rfl⟩ := len1 (l := next) (by simp [many] at hlen; omega)
        refine outOf_any nv dst op av an bv bn x w h fun w' hb => ?_
        have hf : formV ⟨4, dst, op, av, an, bv, bn, [x]⟩ = .iface 140 (outV av an x) := by simp [formV]
        have hp := outPure dst op av an bv bn x n
        cases hsame : sameB ⟨4, 0, 0, av, an, 0, 0, [x]⟩ ⟨4, dst, op, av, an, bv, bn, [x]⟩
        · exact hno _ w' hb (by rw [hp, hsame]; rfl) (Or.inr ⟨_, _, rfl⟩)
        · rw [hsame, Bool.true_and] at hp
          rw [← hf]
          exact hyes w' hb (by rw [hf, hp]; exact outIs av an x n)
      · obtain ⟨x, y, rfl⟩ := len2 (l := next) (by simp [many] at hlen; omega)
        refine testOf_any nv dst op av an bv bn x y w h fun w' hb => ?_
        have hf : formV ⟨5, dst, op, av, an, bv, bn, [x, y]⟩ = .iface 142 (testV av an x y) := by simp [formV]
        have hp := testPure dst op av an bv bn x y n
        cases hsame : sameB ⟨5, 0, 0, av, an, 0, 0, [x, y]⟩ ⟨5, dst, op, av, an, bv, bn, [x, y]⟩
        · exact hno _ w' hb (by rw [hp, hsame]; rfl) (Or.inr ⟨_, _, rfl⟩)
        · rw [hsame, Bool.true_and] at hp
          rw [← hf]
          exact hyes w' hb (by rw [hf, hp]; exact testIs av an x y n)
      · obtain ⟨x, rfl⟩ := len1 (l := next) (by simp [many] at hlen; omega)
        refine skipOf_any nv dst op av an bv bn x w h fun w' hb => ?_
        have hf : formV ⟨6, dst, op, av, an, bv, bn, [x]⟩ = .iface 144 (skipV x) := by simp [formV]
        have hp := skipPure dst op av an bv bn x n
        cases hsame : sameB ⟨6, 0, 0, 0, 0, 0, 0, [x]⟩ ⟨6, dst, op, av, an, bv, bn, [x]⟩
        · exact hno _ w' hb (by rw [hp, hsame]; rfl) (Or.inr ⟨_, _, rfl⟩)
        · rw [hsame, Bool.true_and] at hp
          rw [← hf]
          exact hyes w' hb (by rw [hf, hp]; exact skipIs x n)
      · obtain rfl := len0 (by simpa [many] using hlen)
        refine endOf_any nv dst op av an bv bn w h fun w' hb => ?_
        have hf : formV ⟨7, dst, op, av, an, bv, bn, []⟩ = .iface 146 (endV) := by simp [formV]
        have hp := endPure dst op av an bv bn n
        cases hsame : sameB ⟨7, 0, 0, 0, 0, 0, 0, []⟩ ⟨7, dst, op, av, an, bv, bn, []⟩
        · exact hno _ w' hb (by rw [hp, hsame]; rfl) (Or.inr ⟨_, _, rfl⟩)
        · rw [hsame, Bool.true_and] at hp
          rw [← hf]
          exact hyes w' hb (by rw [hf, hp]; exact endIs n)
    · have hlen' : ¬ (s.next.length : Int) = count s.kind := by
        intro hc
        apply hlen
        rw [hc]
        rcases many_cases hk with e | e | e | e | e | e | e <;> rw [e] <;> rfl
      exact formOf_len nv s w h hl hlen' fun w' hb => hno _ w' hb (by simp [stepB, hlen]) (Or.inl rfl)
end Go.Proofs.YtljlgffkhocgkaaDoor
namespace Go.Proofs.YtljlgffkhocgkaaDoor
open Go.RowKit

theorem ownsRow_keep {w w' : World} {base : Nat} {e : TypeId} {size : Nat} {v : Value} {n : Nat} {xs : List Value} (h : w.ownsRow base e size v n xs) (hb : Below w.heap.size w w') : w'.ownsRow base e size v n xs := by
  obtain ⟨h1, h2⟩ := h
  refine ⟨h1, ?_⟩
  rcases h2 with h2 | ⟨g, cap, cur, hv, hg, hh, r⟩
  · exact Or.inl h2
  · obtain ⟨hlt, _⟩ := Array.getElem?_eq_some_iff.1 hh
    exact Or.inr ⟨g, cap, cur, hv, hg, (hb.block g hlt).trans hh, r⟩

theorem ownsRow_lower {w : World} {base base' : Nat} {e : TypeId} {size : Nat} {v : Value} {n : Nat} {xs : List Value} (h : w.ownsRow base e size v n xs) (hb : base' ≤ base) : w.ownsRow base' e size v n xs := by
  obtain ⟨h1, h2⟩ := h
  refine ⟨h1, ?_⟩
  rcases h2 with h2 | ⟨g, cap, cur, hv, hg, r⟩
  · exact Or.inl h2
  · exact Or.inr ⟨g, cap, cur, hv, by omega, r⟩

theorem infoForm : (Tryd.prog.info? 123).map (fun i => (i.zero, i.size, i.bytes)) = some (some .nilIface, 1, 16) := by kernel_rfl

theorem formV_one (s : St) : ∃ T v, formV s = .iface T v := by
  unfold formV
  repeat' split
  all_goals exact ⟨_, _, rfl⟩

set_option maxHeartbeats 4000000 in
theorem formsOf_any {Q : Ending → World → Prop} (v : Value) (ss : List St) (w : World) (h : StepsAt w v ss) (hl : ss.length ≤ 1048576) (hls : ∀ s ∈ ss, s.next.length ≤ 1048576)
    (hno : ∀ w', Below w.heap.size w w' → okB ss = false → Q (.returned (.tuple #[.slice none 0 0, .bool false])) w')
    (hyes : ∀ fv w', Below w.heap.size w w' → okB ss = true → w'.ownsRow w.heap.size 123 1 fv ss.length (ss.map formV) → Q (.returned (.tuple #[fv, .bool true])) w') :
    Calls Tryd.prog 56 #[.agg #[v]] w Q := by
  have HN : Hid (∀ w', Below w.heap.size w w' → okB ss = false → Q (.returned (.tuple #[.slice none 0 0, .bool false])) w') := hno
  have HY : Hid (∀ fv w', Below w.heap.size w w' → okB ss = true → w'.ownsRow w.heap.size 123 1 fv ss.length (ss.map formV) → Q (.returned (.tuple #[fv, .bool true])) w') := hyes
  clear hno hyes
  obtain ⟨ao, b, o, cap, rfl, ha, hc⟩ := h
  have HA : Hid _ := ha
  have HC : Hid _ := hc
  have HL : Hid _ := hls
  clear ha hc hls
  by_cases h1 : ss.length < 1
  · have HF : Hid (okB ss = false) := by simp [Hid, okB]; omega
    have g1 : (ss.length : Int) < 1 := by omega
    go_enter Tryd.func56, Tryd.ntmps56
    go_wp2
    try go_ret2
    exact HN.out _ ((Below.refl _ _).alloc (Nat.le_refl _) _) HF.out
  by_cases h2 : 60 < ss.length
  · have HF : Hid (okB ss = false) := by simp [Hid, okB]; omega
    have g1 : ¬ (ss.length : Int) < 1 := by omega
    have g2 : (60 : Int) < (ss.length : Int) := by omega
    go_enter Tryd.func56, Tryd.ntmps56
    go_wp2
    try go_ret2
    exact HN.out _ ((Below.refl _ _).alloc (Nat.le_refl _) _) HF.out
  have HS : Hid (okB ss = ss.all (fun s => stepB s ss.length)) := by
    simp only [Hid, okB, show 1 ≤ ss.length by omega, show ss.length ≤ 60 by omega, decide_true, Bool.true_and]
  have g1 : ¬ (ss.length : Int) < 1 := by omega
  have g2 : ¬ (60 : Int) < (ss.length : Int) := by omega
  obtain rfl := HA.out (by omega)
  obtain ⟨i0, hi, hz0, hz1, hz2⟩ := info_parts infoForm
  have hq : ∀ wx, Below (w.heap.size + 1) (w.alloc (.cells #[.slice (some ⟨b, o, none⟩) ss.length cap] 34)) wx → wx.cell? ⟨w.heap.size, 0, none⟩ = some (.slice (some ⟨b, o, none⟩) ss.length cap) := fun wx hx => (hx.cell (by simp)).trans (by simp [go_sem])
  have HQ : Hid _ := hq
  clear hq
  go_enter Tryd.func56, Tryd.ntmps56
  go_wp2_with (at_make; refine wpList_make_own _ rfl _ _ 94 rfl (w.heap.size + 1) 123 i0 .nilIface 1 Tryd.underlying94 hi hz0 hz1 .i64 .i64 _ ss.length rfl rfl (by omega) (by rw [hz2]; omega) (by unfold maxLen; omega) (by simp) ?_; intro w0 hown0 hgrow0; have hb0 : Below (w.heap.size + 1) (w.alloc (.cells #[.slice (some ⟨b, o, none⟩) ss.length cap] 34)) w0 := (Below.refl _ _).grown hgrow0 (by simp) (by simp); have q0 := HQ.out w0 hb0; clear hgrow0)
  have HB0 : Hid (Below (w.heap.size + 1) (w.alloc (.cells #[.slice (some ⟨b, o, none⟩) ss.length cap] 34)) w0) := hb0
  have HO0 : Hid (w0.ownsRow (w.heap.size + 1) 123 1 (.slice (some ⟨w.heap.size + 1, 0, none⟩) 0 ss.length) 0 []) := by simpa [Hid] using hown0
  clear hb0 hown0 q0
  go_loopw [5, 24] (fun fv i wr => ∃ k : Nat, k ≤ ss.length ∧ i = .int .i64 k ∧ Below (w.heap.size + 1) (w.alloc (.cells #[.slice (some ⟨b, o, none⟩) ss.length cap] 34)) wr ∧ wr.ownsRow (w.heap.size + 1) 123 1 fv k ((ss.take k).map formV) ∧ ∀ j s, j < k → ss[j]? = some s → stepB s ss.length = true) (fun _ i _ => ss.length - (intOf i).toNat)
  case atStart => exact ⟨0, Nat.zero_le _, rfl, HB0.out, by simpa using HO0.out, by omega⟩
  case round =>
    obtain ⟨k, hk, rfl, hb, hown, hall⟩ := hrel
    have HALL : Hid _ := hall
    have HB : Hid (Below (w.heap.size + 1) (w.alloc (.cells #[.slice (some ⟨b, o, none⟩) ss.length cap] 34)) wr) := hb
    have hbw : Below w.heap.size w wr := ((Below.refl _ _).alloc (Nat.le_refl _) _).trans (hb.mono (by omega))
    have hsz : w.heap.size + 1 ≤ wr.heap.size := by simpa using hb.size
    clear hall hb
    by_cases hkl : k < ss.length
    · have hki : (k : Int) < (ss.length : Int) := by omega
      obtain ⟨nu, cu, iu⟩ := HC.out k ss[k] (by simp [hkl])
      obtain ⟨c0, c1, c2, c3, c4, c5, c6, c7⟩ := cu.keep hbw
      have IU : Hid (IntsAt wr nu ss[k].next) := iu.keep hbw
      obtain ⟨nao, nb, no, ncap, hnu, _, _⟩ := id iu
      subst hnu
      have HO : Hid (wr.ownsRow (w.heap.size + 1) 123 1 _ k ((ss.take k).map formV)) := hown
      have hm : Hid (ss[k] ∈ ss) := List.getElem_mem hkl
      clear cu iu hown
      go_wp2_with fail
      have hbx : ∀ O, Below wr.heap.size wr (wr.alloc O) := fun O => (Below.refl _ _).alloc (Nat.le_refl _) O
      refine formOf_any (.slice nao ss[k].next.length ncap) ss[k] ss.length _ (IU.out.keep (hbx _)) (HL.out _ hm.out) ?_ ?_
      · intro f w1 hb1 hfalse hf
        have hb2 : Below w.heap.size w w1 := hbw.trans (((hbx _).trans (hb1.mono (by simp))).mono (by omega))
        have HF : Hid (okB ss = false) := by
          refine HS.out.trans ?_
          rw [List.all_eq_false]
          exact ⟨_, hm.out, by simp [hfalse]⟩
        clear hb1 hbx hfalse c0 c1 c2 c3 c4 c5 c6 c7 hbw
        rcases hf with rfl | ⟨T, fv, rfl⟩
        · go_wp2
          try go_ret2
          exact HN.out _ hb2 HF.out
        · go_wp2
          try go_ret2
          exact HN.out _ hb2 HF.out
      · intro w1 hb1 hfit
        have hb2 : Below wr.heap.size wr w1 := (hbx _).trans (hb1.mono (by simp))
        obtain ⟨T, fval, fn, hfv, hmeth, hent, hcall⟩ := hfit
        have HFV : Hid (formV ss[k] = .iface T fval) := hfv
        have HCALL : Hid (∀ (Q : Ending → World → Prop) wx, (∀ w', Below wx.heap.size wx w' → Q (.returned (.bool (stepB ss[k] ss.length))) w') → Calls Tryd.prog fn #[fval, .int .i64 (ss.length : Int)] wx Q) := hcall
        simp [nameAt, Tryd.underlying122] at hmeth
        rw [hfv]
        clear hb1 hbx hfv hcall c0 c1 c2 c3 c4 c5 c6 c7
        go_wp2_with fail
        refine HCALL.out _ _ fun w2 hb3 => ?_
        have hb4 : Below wr.heap.size wr w2 := hb2.trans (hb3.mono hb2.size)
        clear hb3 hb2 hmeth hent HCALL
        cases hst : stepB ss[k] ss.length
        · have HF : Hid (okB ss = false) := by
            refine HS.out.trans ?_
            rw [List.all_eq_false]
            exact ⟨_, hm.out, by simp [hst]⟩
          have hb5 : Below w.heap.size w w2 := hbw.trans (hb4.mono (by omega))
          clear hb4 hbw
          go_wp2
          try go_ret2
          exact HN.out _ hb5 HF.out
        · have hown2 := ownsRow_keep HO.out hb4
          have hsz2 : w.heap.size + 1 ≤ w2.heap.size := Nat.le_trans hsz hb4.size
          go_wp2_with (at_builtin; refine wpList_append_own _ rfl _ _ 94 rfl (w.heap.size + 1) 123 i0 .nilIface 1 16 Tryd.underlying94 hi hz0 hz1 hz2 rfl (by decide) _ k _ rfl (hown2.alloc _) ⟨w2.heap.size, 0, none⟩ 1 1 [.iface T fval] rfl rfl ?c1 ?c2 ?c3 ?c4 ?c5 ?_)
          case c1 =>
            intro j u hj
            match j, hj with
            | 0, hj => simp at hj; subst hj; simp [Addr.add, go_sem]
          case c2 => intro u hu; simp at hu; subst hu; rfl
          case c3 => unfold maxLen; omega
          case c4 => omega
          case c5 => simp; omega
          · intro v' w3 hown3 hgrow3 _
            have hbz : Below (w.heap.size + 1) w2 w3 := ((Below.refl _ _).alloc (by omega) _).grown hgrow3 (by simp; omega) (fun g hg => by rcases hown2.2 with ⟨e, _⟩ | ⟨g', _, _, e, hg', _⟩ <;> (rw [e] at hg; simp [Value.ownBlock] at hg) <;> omega)
            have hb6 : Below (w.heap.size + 1) (w.alloc (.cells #[.slice (some ⟨b, o, none⟩) ss.length cap] 34)) w3 := (HB.out.trans (hb4.mono hsz)).trans hbz
            have HO3 : Hid (w3.ownsRow (w.heap.size + 1) 123 1 v' (k + 1) ((ss.take (k + 1)).map formV)) := by
              have e1 : (ss.take (k + 1)).map formV = (ss.take k).map formV ++ [.iface T fval] := by
                rw [List.take_succ_eq_append_getElem hkl, List.map_append]
                simp [HFV.out]
              rw [Hid, e1]
              simpa [List.map_take] using hown3
            clear hown3 hgrow3 hown2 hb4 hbw hbz
            go_wp2
            go_roundw
            case rel =>
              refine ⟨k + 1, by omega, by go_num, hb6, HO3.out, fun j s hj hs => ?_⟩
              by_cases hjk : j = k
              · subst hjk
                rw [List.getElem?_eq_getElem hkl] at hs
                cases hs
                exact hst
              · exact HALL.out j s (by omega) hs
            case measure => simp [intOf]; omega
    · have HT : Hid (okB ss = true) := by
        refine HS.out.trans ?_
        rw [List.all_eq_true]
        intro s hs
        obtain ⟨j, hj, rfl⟩ := List.mem_iff_getElem.1 hs
        exact HALL.out j _ (by omega) (List.getElem?_eq_getElem hj)
      obtain rfl : k = ss.length := by omega
      rw [List.take_of_length_le (Nat.le_refl _)] at hown
      have HO : Hid _ := hown
      clear hown
      go_wp2
      try go_ret2
      exact HY.out _ _ hbw HT.out (ownsRow_lower HO.out (by omega))

end Go.Proofs.YtljlgffkhocgkaaDoor
