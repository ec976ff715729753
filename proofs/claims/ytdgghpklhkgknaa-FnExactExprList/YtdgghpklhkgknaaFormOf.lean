/- formOf of a step, kind by kind, and of a step that has no form. -/
import Derived.Test.YtdgghpklhkgknaaFits
namespace Go.Proofs.Ytdgghpklhkgknaa
open Go.RowKit

/-- The methods' names, as the interface's type has them. -/
def nameAt (u : Option TypeDesc) (i : Nat) : String := match u with
  | some (.interface ms) => ((ms[i]?).map (·.1)).getD ""
  | _ => ""

theorem setMethod (v : Value) (wx : World) : (method 225 93 v (nameAt (Try.prog.underlying 85) 1)).run Try.prog wx = .ok (68, v) wx := by kernel_rfl
theorem copyMethod (v : Value) (wx : World) : (method 225 95 v (nameAt (Try.prog.underlying 85) 1)).run Try.prog wx = .ok (71, v) wx := by kernel_rfl
theorem inMethod (v : Value) (wx : World) : (method 225 97 v (nameAt (Try.prog.underlying 85) 1)).run Try.prog wx = .ok (73, v) wx := by kernel_rfl
theorem outMethod (v : Value) (wx : World) : (method 225 99 v (nameAt (Try.prog.underlying 85) 1)).run Try.prog wx = .ok (75, v) wx := by kernel_rfl
theorem testMethod (v : Value) (wx : World) : (method 225 101 v (nameAt (Try.prog.underlying 85) 1)).run Try.prog wx = .ok (77, v) wx := by kernel_rfl
theorem skipMethod (v : Value) (wx : World) : (method 225 103 v (nameAt (Try.prog.underlying 85) 1)).run Try.prog wx = .ok (79, v) wx := by kernel_rfl
theorem endMethod (v : Value) (wx : World) : (method 225 105 v (nameAt (Try.prog.underlying 85) 1)).run Try.prog wx = .ok (81, v) wx := by kernel_rfl

set_option maxHeartbeats 4000000 in
theorem setOf_any {Q : Ending → World → Prop} (nv : Value) (dst op av an bv bn x : Int) (w : World) (h : IntsAt w nv [x])
    (hQ : ∀ w', Below w.heap.size w w' → Q (.returned (.tuple #[.iface 93 (setV dst op av an bv bn x), .bool (sameB ⟨1, dst, op, av, an, bv, bn, [x]⟩ ⟨1, dst, op, av, an, bv, bn, [x]⟩)])) w') :
    Calls Try.prog 46 #[stepV ⟨1, dst, op, av, an, bv, bn, [x]⟩ nv] w Q := by
  have HQ : Hid (∀ w', Below w.heap.size w w' → Q (.returned (.tuple #[.iface 93 (setV dst op av an bv bn x), .bool (sameB ⟨1, dst, op, av, an, bv, bn, [x]⟩ ⟨1, dst, op, av, an, bv, bn, [x]⟩)])) w') := hQ
  clear hQ
  obtain ⟨ao, b, o, cap, hv, ha, hc⟩ := id h
  obtain rfl := ha (by simp)
  have c0 := hc 0 (by simp)
  subst hv
  have HH : Hid (IntsAt w (.slice (some ⟨b, o, none⟩) [x].length cap) [x]) := h
  clear ha hc h
  have hblk : b < w.heap.size := cell_lt c0
  simp only [List.length_cons, List.length_nil, Nat.zero_add, Nat.add_zero, List.getD_cons_zero] at c0 HH
  unfold stepV
  simp only [List.length_cons, List.length_nil, Nat.zero_add]
  go_enter Try.func46, Try.ntmps46
  go_wp2_with fail
  go_quiet ((go_at_call 48; exact Calls.quiet_of_same (nextCount_any _ _)))
  have hcount : count 1 = 1 := rfl
  go_wp2_with fail
  go_quiet (fail)
  go_wp2_with fail
  have hm := fun v wx => setMethod v wx
  simp [nameAt, Try.underlying85] at hm
  go_region_with (first | (go_at_call 68; refine setStep_any _ _ _ _ _ _ _ _ ?_; intro nv' w1 hi1 hb1; obtain ⟨hc1, hf1⟩ := bcell hb1; have hbA : Below w.heap.size w w1 := (below_drewN ((Below.refl _ _).alloc (Nat.le_refl _) _) _).trans (hb1.mono (by simp))) | (go_at_call 49; refine sameStep_any nv' (.slice (some ⟨b, o, none⟩) 1 cap) ⟨1, dst, op, av, an, bv, bn, [x]⟩ ⟨1, dst, op, av, an, bv, bn, [x]⟩ _ hi1 (HH.out.keep hbA) (by simp) (by simp) ?_; intro w2 hb2))
  all_goals
    have hbB : Below w.heap.size w w2 := hbA.trans (hb2.mono hbA.size)
    clear hb2 hbA hc1 hf1 hb1 hi1 hm
    go_wp2
    go_ret2
    exact HQ.out _ hbB

set_option maxHeartbeats 4000000 in
theorem copyOf_any {Q : Ending → World → Prop} (nv : Value) (dst op av an bv bn x : Int) (w : World) (h : IntsAt w nv [x])
    (hQ : ∀ w', Below w.heap.size w w' → Q (.returned (.tuple #[.iface 95 (copyV dst av an x), .bool (sameB ⟨2, dst, 0, av, an, 0, 0, [x]⟩ ⟨2, dst, op, av, an, bv, bn, [x]⟩)])) w') :
    Calls Try.prog 46 #[stepV ⟨2, dst, op, av, an, bv, bn, [x]⟩ nv] w Q := by
  have HQ : Hid (∀ w', Below w.heap.size w w' → Q (.returned (.tuple #[.iface 95 (copyV dst av an x), .bool (sameB ⟨2, dst, 0, av, an, 0, 0, [x]⟩ ⟨2, dst, op, av, an, bv, bn, [x]⟩)])) w') := hQ
  clear hQ
  obtain ⟨ao, b, o, cap, hv, ha, hc⟩ := id h
  obtain rfl := ha (by simp)
  have c0 := hc 0 (by simp)
  subst hv
  have HH : Hid (IntsAt w (.slice (some ⟨b, o, none⟩) [x].length cap) [x]) := h
  clear ha hc h
  have hblk : b < w.heap.size := cell_lt c0
  simp only [List.length_cons, List.length_nil, Nat.zero_add, Nat.add_zero, List.getD_cons_zero] at c0 HH
  unfold stepV
  simp only [List.length_cons, List.length_nil, Nat.zero_add]
  go_enter Try.func46, Try.ntmps46
  go_wp2_with fail
  go_quiet ((go_at_call 48; exact Calls.quiet_of_same (nextCount_any _ _)))
  have hcount : count 2 = 1 := rfl
  go_wp2_with fail
  go_quiet (fail)
  go_wp2_with fail
  have hm := fun v wx => copyMethod v wx
  simp [nameAt, Try.underlying85] at hm
  go_region_with (first | (go_at_call 71; refine copyStep_any _ _ _ _ _ ?_; intro nv' w1 hi1 hb1; obtain ⟨hc1, hf1⟩ := bcell hb1; have hbA : Below w.heap.size w w1 := (below_drewN ((Below.refl _ _).alloc (Nat.le_refl _) _) _).trans (hb1.mono (by simp))) | (go_at_call 49; refine sameStep_any nv' (.slice (some ⟨b, o, none⟩) 1 cap) ⟨2, dst, 0, av, an, 0, 0, [x]⟩ ⟨2, dst, op, av, an, bv, bn, [x]⟩ _ hi1 (HH.out.keep hbA) (by simp) (by simp) ?_; intro w2 hb2))
  all_goals
    have hbB : Below w.heap.size w w2 := hbA.trans (hb2.mono hbA.size)
    clear hb2 hbA hc1 hf1 hb1 hi1 hm
    go_wp2
    go_ret2
    exact HQ.out _ hbB

set_option maxHeartbeats 4000000 in
theorem inOf_any {Q : Ending → World → Prop} (nv : Value) (dst op av an bv bn x : Int) (w : World) (h : IntsAt w nv [x])
    (hQ : ∀ w', Below w.heap.size w w' → Q (.returned (.tuple #[.iface 97 (inV dst x), .bool (sameB ⟨3, dst, 0, 0, 0, 0, 0, [x]⟩ ⟨3, dst, op, av, an, bv, bn, [x]⟩)])) w') :
    Calls Try.prog 46 #[stepV ⟨3, dst, op, av, an, bv, bn, [x]⟩ nv] w Q := by
  have HQ : Hid (∀ w', Below w.heap.size w w' → Q (.returned (.tuple #[.iface 97 (inV dst x), .bool (sameB ⟨3, dst, 0, 0, 0, 0, 0, [x]⟩ ⟨3, dst, op, av, an, bv, bn, [x]⟩)])) w') := hQ
  clear hQ
  obtain ⟨ao, b, o, cap, hv, ha, hc⟩ := id h
  obtain rfl := ha (by simp)
  have c0 := hc 0 (by simp)
  subst hv
  have HH : Hid (IntsAt w (.slice (some ⟨b, o, none⟩) [x].length cap) [x]) := h
  clear ha hc h
  have hblk : b < w.heap.size := cell_lt c0
  simp only [List.length_cons, List.length_nil, Nat.zero_add, Nat.add_zero, List.getD_cons_zero] at c0 HH
  unfold stepV
  simp only [List.length_cons, List.length_nil, Nat.zero_add]
  go_enter Try.func46, Try.ntmps46
  go_wp2_with fail
  go_quiet ((go_at_call 48; exact Calls.quiet_of_same (nextCount_any _ _)))
  have hcount : count 3 = 1 := rfl
  go_wp2_with fail
  go_quiet (fail)
  go_wp2_with fail
  have hm := fun v wx => inMethod v wx
  simp [nameAt, Try.underlying85] at hm
  go_region_with (first | (go_at_call 73; refine inStep_any _ _ _ ?_; intro nv' w1 hi1 hb1; obtain ⟨hc1, hf1⟩ := bcell hb1; have hbA : Below w.heap.size w w1 := (below_drewN ((Below.refl _ _).alloc (Nat.le_refl _) _) _).trans (hb1.mono (by simp))) | (go_at_call 49; refine sameStep_any nv' (.slice (some ⟨b, o, none⟩) 1 cap) ⟨3, dst, 0, 0, 0, 0, 0, [x]⟩ ⟨3, dst, op, av, an, bv, bn, [x]⟩ _ hi1 (HH.out.keep hbA) (by simp) (by simp) ?_; intro w2 hb2))
  all_goals
    have hbB : Below w.heap.size w w2 := hbA.trans (hb2.mono hbA.size)
    clear hb2 hbA hc1 hf1 hb1 hi1 hm
    go_wp2
    go_ret2
    exact HQ.out _ hbB

set_option maxHeartbeats 4000000 in
theorem outOf_any {Q : Ending → World → Prop} (nv : Value) (dst op av an bv bn x : Int) (w : World) (h : IntsAt w nv [x])
    (hQ : ∀ w', Below w.heap.size w w' → Q (.returned (.tuple #[.iface 99 (outV av an x), .bool (sameB ⟨4, 0, 0, av, an, 0, 0, [x]⟩ ⟨4, dst, op, av, an, bv, bn, [x]⟩)])) w') :
    Calls Try.prog 46 #[stepV ⟨4, dst, op, av, an, bv, bn, [x]⟩ nv] w Q := by
  have HQ : Hid (∀ w', Below w.heap.size w w' → Q (.returned (.tuple #[.iface 99 (outV av an x), .bool (sameB ⟨4, 0, 0, av, an, 0, 0, [x]⟩ ⟨4, dst, op, av, an, bv, bn, [x]⟩)])) w') := hQ
  clear hQ
  obtain ⟨ao, b, o, cap, hv, ha, hc⟩ := id h
  obtain rfl := ha (by simp)
  have c0 := hc 0 (by simp)
  subst hv
  have HH : Hid (IntsAt w (.slice (some ⟨b, o, none⟩) [x].length cap) [x]) := h
  clear ha hc h
  have hblk : b < w.heap.size := cell_lt c0
  simp only [List.length_cons, List.length_nil, Nat.zero_add, Nat.add_zero, List.getD_cons_zero] at c0 HH
  unfold stepV
  simp only [List.length_cons, List.length_nil, Nat.zero_add]
  go_enter Try.func46, Try.ntmps46
  go_wp2_with fail
  go_quiet ((go_at_call 48; exact Calls.quiet_of_same (nextCount_any _ _)))
  have hcount : count 4 = 1 := rfl
  go_wp2_with fail
  go_quiet (fail)
  go_wp2_with fail
  have hm := fun v wx => outMethod v wx
  simp [nameAt, Try.underlying85] at hm
  go_region_with (first | (go_at_call 75; refine outStep_any _ _ _ _ ?_; intro nv' w1 hi1 hb1; obtain ⟨hc1, hf1⟩ := bcell hb1; have hbA : Below w.heap.size w w1 := (below_drewN ((Below.refl _ _).alloc (Nat.le_refl _) _) _).trans (hb1.mono (by simp))) | (go_at_call 49; refine sameStep_any nv' (.slice (some ⟨b, o, none⟩) 1 cap) ⟨4, 0, 0, av, an, 0, 0, [x]⟩ ⟨4, dst, op, av, an, bv, bn, [x]⟩ _ hi1 (HH.out.keep hbA) (by simp) (by simp) ?_; intro w2 hb2))
  all_goals
    have hbB : Below w.heap.size w w2 := hbA.trans (hb2.mono hbA.size)
    clear hb2 hbA hc1 hf1 hb1 hi1 hm
    go_wp2
    go_ret2
    exact HQ.out _ hbB

set_option maxHeartbeats 4000000 in
theorem testOf_any {Q : Ending → World → Prop} (nv : Value) (dst op av an bv bn x y : Int) (w : World) (h : IntsAt w nv [x, y])
    (hQ : ∀ w', Below w.heap.size w w' → Q (.returned (.tuple #[.iface 101 (testV av an x y), .bool (sameB ⟨5, 0, 0, av, an, 0, 0, [x, y]⟩ ⟨5, dst, op, av, an, bv, bn, [x, y]⟩)])) w') :
    Calls Try.prog 46 #[stepV ⟨5, dst, op, av, an, bv, bn, [x, y]⟩ nv] w Q := by
  have HQ : Hid (∀ w', Below w.heap.size w w' → Q (.returned (.tuple #[.iface 101 (testV av an x y), .bool (sameB ⟨5, 0, 0, av, an, 0, 0, [x, y]⟩ ⟨5, dst, op, av, an, bv, bn, [x, y]⟩)])) w') := hQ
  clear hQ
  obtain ⟨ao, b, o, cap, hv, ha, hc⟩ := id h
  obtain rfl := ha (by simp)
  have c0 := hc 0 (by simp)
  have c1 := hc 1 (by simp)
  subst hv
  have HH : Hid (IntsAt w (.slice (some ⟨b, o, none⟩) [x, y].length cap) [x, y]) := h
  clear ha hc h
  have hblk : b < w.heap.size := cell_lt c0
  simp only [List.length_cons, List.length_nil, Nat.zero_add, Nat.add_zero, List.getD_cons_zero, List.getD_cons_succ, Nat.reduceAdd] at c0 c1 HH
  unfold stepV
  simp only [List.length_cons, List.length_nil, Nat.zero_add, Nat.reduceAdd]
  go_enter Try.func46, Try.ntmps46
  go_wp2_with fail
  go_quiet ((go_at_call 48; exact Calls.quiet_of_same (nextCount_any _ _)))
  have hcount : count 5 = 2 := rfl
  go_wp2_with fail
  go_quiet (fail)
  go_wp2_with fail
  have hm := fun v wx => testMethod v wx
  simp [nameAt, Try.underlying85] at hm
  go_region_with (first | (go_at_call 77; refine testStep_any _ _ _ _ _ ?_; intro nv' w1 hi1 hb1; obtain ⟨hc1, hf1⟩ := bcell hb1; have hbA : Below w.heap.size w w1 := (below_drewN ((Below.refl _ _).alloc (Nat.le_refl _) _) _).trans (hb1.mono (by simp))) | (go_at_call 49; refine sameStep_any nv' (.slice (some ⟨b, o, none⟩) 2 cap) ⟨5, 0, 0, av, an, 0, 0, [x, y]⟩ ⟨5, dst, op, av, an, bv, bn, [x, y]⟩ _ hi1 (HH.out.keep hbA) (by simp) (by simp) ?_; intro w2 hb2))
  all_goals
    have hbB : Below w.heap.size w w2 := hbA.trans (hb2.mono hbA.size)
    clear hb2 hbA hc1 hf1 hb1 hi1 hm
    go_wp2
    go_ret2
    exact HQ.out _ hbB

set_option maxHeartbeats 4000000 in
theorem skipOf_any {Q : Ending → World → Prop} (nv : Value) (dst op av an bv bn x : Int) (w : World) (h : IntsAt w nv [x])
    (hQ : ∀ w', Below w.heap.size w w' → Q (.returned (.tuple #[.iface 103 (skipV x), .bool (sameB ⟨6, 0, 0, 0, 0, 0, 0, [x]⟩ ⟨6, dst, op, av, an, bv, bn, [x]⟩)])) w') :
    Calls Try.prog 46 #[stepV ⟨6, dst, op, av, an, bv, bn, [x]⟩ nv] w Q := by
  have HQ : Hid (∀ w', Below w.heap.size w w' → Q (.returned (.tuple #[.iface 103 (skipV x), .bool (sameB ⟨6, 0, 0, 0, 0, 0, 0, [x]⟩ ⟨6, dst, op, av, an, bv, bn, [x]⟩)])) w') := hQ
  clear hQ
  obtain ⟨ao, b, o, cap, hv, ha, hc⟩ := id h
  obtain rfl := ha (by simp)
  have c0 := hc 0 (by simp)
  subst hv
  have HH : Hid (IntsAt w (.slice (some ⟨b, o, none⟩) [x].length cap) [x]) := h
  clear ha hc h
  have hblk : b < w.heap.size := cell_lt c0
  simp only [List.length_cons, List.length_nil, Nat.zero_add, Nat.add_zero, List.getD_cons_zero] at c0 HH
  unfold stepV
  simp only [List.length_cons, List.length_nil, Nat.zero_add]
  go_enter Try.func46, Try.ntmps46
  go_wp2_with fail
  go_quiet ((go_at_call 48; exact Calls.quiet_of_same (nextCount_any _ _)))
  have hcount : count 6 = 1 := rfl
  go_wp2_with fail
  have hm := fun v wx => skipMethod v wx
  simp [nameAt, Try.underlying85] at hm
  go_region_with (first | (go_at_call 79; refine skipStep_any _ _ ?_; intro nv' w1 hi1 hb1; obtain ⟨hc1, hf1⟩ := bcell hb1; have hbA : Below w.heap.size w w1 := (below_drewN ((Below.refl _ _).alloc (Nat.le_refl _) _) _).trans (hb1.mono (by simp))) | (go_at_call 49; refine sameStep_any nv' (.slice (some ⟨b, o, none⟩) 1 cap) ⟨6, 0, 0, 0, 0, 0, 0, [x]⟩ ⟨6, dst, op, av, an, bv, bn, [x]⟩ _ hi1 (HH.out.keep hbA) (by simp) (by simp) ?_; intro w2 hb2))
  all_goals
    have hbB : Below w.heap.size w w2 := hbA.trans (hb2.mono hbA.size)
    clear hb2 hbA hc1 hf1 hb1 hi1 hm
    go_wp2
    go_ret2
    exact HQ.out _ hbB

set_option maxHeartbeats 4000000 in
theorem endOf_any {Q : Ending → World → Prop} (nv : Value) (dst op av an bv bn : Int) (w : World) (h : IntsAt w nv [])
    (hQ : ∀ w', Below w.heap.size w w' → Q (.returned (.tuple #[.iface 105 (endV), .bool (sameB ⟨7, 0, 0, 0, 0, 0, 0, []⟩ ⟨7, dst, op, av, an, bv, bn, []⟩)])) w') :
    Calls Try.prog 46 #[stepV ⟨7, dst, op, av, an, bv, bn, []⟩ nv] w Q := by
  have HQ : Hid (∀ w', Below w.heap.size w w' → Q (.returned (.tuple #[.iface 105 (endV), .bool (sameB ⟨7, 0, 0, 0, 0, 0, 0, []⟩ ⟨7, dst, op, av, an, bv, bn, []⟩)])) w') := hQ
  clear hQ
  obtain ⟨ao, b, o, cap, hv, ha, hc⟩ := id h
  subst hv
  have HH : Hid (IntsAt w (.slice ao ([] : List Int).length cap) []) := h
  clear ha hc h
  simp only [List.length_nil] at HH
  unfold stepV
  simp only [List.length_nil]
  go_enter Try.func46, Try.ntmps46
  go_wp2_with fail
  go_quiet ((go_at_call 48; exact Calls.quiet_of_same (nextCount_any _ _)))
  have hcount : count 7 = 0 := rfl
  go_wp2_with fail
  have hm := fun v wx => endMethod v wx
  simp [nameAt, Try.underlying85] at hm
  go_region_with (first | (go_at_call 81; refine endStep_any _ ?_; intro nv' w1 hi1 hb1; obtain ⟨hc1, hf1⟩ := bcell hb1; have hbA : Below w.heap.size w w1 := (below_drewN ((Below.refl _ _).alloc (Nat.le_refl _) _) _).trans (hb1.mono (by simp))) | (go_at_call 49; refine sameStep_any nv' (.slice ao 0 cap) ⟨7, 0, 0, 0, 0, 0, 0, []⟩ ⟨7, dst, op, av, an, bv, bn, []⟩ _ hi1 (HH.out.keep hbA) (by simp) (by simp) ?_; intro w2 hb2))
  all_goals
    have hbB : Below w.heap.size w w2 := hbA.trans (hb2.mono hbA.size)
    clear hb2 hbA hc1 hf1 hb1 hi1 hm
    go_wp2
    go_ret2
    exact HQ.out _ hbB
end Go.Proofs.Ytdgghpklhkgknaa
