/- formOf of a step, kind by kind, and of a step that has no form. -/
import Derived.Test.YtdgghpklhkgknaaDoorFits
namespace Go.Proofs.YtdgghpklhkgknaaDoor
open Go.RowKit

/-- The methods' names, as the interface's type has them. -/
def nameAt (u : Option TypeDesc) (i : Nat) : String := match u with
  | some (.interface ms) => ((ms[i]?).map (·.1)).getD ""
  | _ => ""

theorem setMethod (v : Value) (wx : World) : (method 291 136 v (nameAt (Tryd.prog.underlying 100) 1)).run Tryd.prog wx = .ok (141, v) wx := by kernel_rfl
theorem copyMethod (v : Value) (wx : World) : (method 291 138 v (nameAt (Tryd.prog.underlying 100) 1)).run Tryd.prog wx = .ok (144, v) wx := by kernel_rfl
theorem inMethod (v : Value) (wx : World) : (method 291 140 v (nameAt (Tryd.prog.underlying 100) 1)).run Tryd.prog wx = .ok (146, v) wx := by kernel_rfl
theorem outMethod (v : Value) (wx : World) : (method 291 142 v (nameAt (Tryd.prog.underlying 100) 1)).run Tryd.prog wx = .ok (148, v) wx := by kernel_rfl
theorem testMethod (v : Value) (wx : World) : (method 291 144 v (nameAt (Tryd.prog.underlying 100) 1)).run Tryd.prog wx = .ok (150, v) wx := by kernel_rfl
theorem skipMethod (v : Value) (wx : World) : (method 291 146 v (nameAt (Tryd.prog.underlying 100) 1)).run Tryd.prog wx = .ok (152, v) wx := by kernel_rfl
theorem endMethod (v : Value) (wx : World) : (method 291 156 v (nameAt (Tryd.prog.underlying 100) 1)).run Tryd.prog wx = .ok (154, v) wx := by kernel_rfl

set_option maxHeartbeats 4000000 in
theorem setOf_any {Q : Ending → World → Prop} (nv : Value) (dst op av an bv bn x : Int) (w : World) (h : IntsAt w nv [x])
    (hQ : ∀ w', Below w.heap.size w w' → Q (.returned (.tuple #[.iface 136 (setV dst op av an bv bn x), .bool (sameB ⟨1, dst, op, av, an, bv, bn, [x]⟩ ⟨1, dst, op, av, an, bv, bn, [x]⟩)])) w') :
    Calls Tryd.prog 86 #[stepV ⟨1, dst, op, av, an, bv, bn, [x]⟩ nv] w Q := by
  have HQ : Hid (∀ w', Below w.heap.size w w' → Q (.returned (.tuple #[.iface 136 (setV dst op av an bv bn x), .bool (sameB ⟨1, dst, op, av, an, bv, bn, [x]⟩ ⟨1, dst, op, av, an, bv, bn, [x]⟩)])) w') := hQ
  clear hQ
  obtain ⟨ao, b, o, cap, hv, ha, hc⟩ := id h
  obtain rfl := ha (by simp)
  have c0 := hc 0 (by simp)
  subst hv
  have HH : Hid (IntsAt w (.slice (some ⟨b, o, none⟩) [x].length cap) [x]) := h
  clear ha hc h
  have hblk : b < w.heap.size := cell_lt c0
  simp only [List.length_cons, List.length_nil, Nat.zero_add, Nat.add_zero, List.getD_cons_zero] at c0 HH
  unfold stepV
  simp only [List.length_cons, List.length_nil, Nat.zero_add]
  go_enter Tryd.func86, Tryd.ntmps86
  go_wp2_with fail
  go_quiet ((go_at_call 103; exact Calls.quiet_of_same (nextCount_any _ _)))
  have hcount : count 1 = 1 := rfl
  go_wp2_with fail
  go_quiet (fail)
  go_wp2_with fail
  have hm := fun v wx => setMethod v wx
  simp [nameAt, Tryd.underlying100] at hm
  go_region_with (first | (go_at_call 141; refine setStep_any _ _ _ _ _ _ _ _ ?_; intro nv' w1 hi1 hb1; obtain ⟨hc1, hf1⟩ := bcell hb1; have hbA : Below w.heap.size w w1 := (below_drewN ((Below.refl _ _).alloc (Nat.le_refl _) _) _).trans (hb1.mono (by simp))) | (go_at_call 104; refine sameStep_any nv' (.slice (some ⟨b, o, none⟩) 1 cap) ⟨1, dst, op, av, an, bv, bn, [x]⟩ ⟨1, dst, op, av, an, bv, bn, [x]⟩ _ hi1 (HH.out.keep hbA) (by simp) (by simp) ?_; intro w2 hb2))
  all_goals
    have hbB : Below w.heap.size w w2 := hbA.trans (hb2.mono hbA.size)
    clear hb2 hbA hc1 hf1 hb1 hi1 hm
    go_wp2
    go_ret2
    exact HQ.out _ hbB

set_option maxHeartbeats 4000000 in
theorem copyOf_any {Q : Ending → World → Prop} (nv : Value) (dst op av an bv bn x : Int) (w : World) (h : IntsAt w nv [x])
    (hQ : ∀ w', Below w.heap.size w w' → Q (.returned (.tuple #[.iface 138 (copyV dst av an x), .bool (sameB ⟨2, dst, 0, av, an, 0, 0, [x]⟩ ⟨2, dst, op, av, an, bv, bn, [x]⟩)])) w') :
    Calls Tryd.prog 86 #[stepV ⟨2, dst, op, av, an, bv, bn, [x]⟩ nv] w Q := by
  have HQ : Hid (∀ w', Below w.heap.size w w' → Q (.returned (.tuple #[.iface 138 (copyV dst av an x), .bool (sameB ⟨2, dst, 0, av, an, 0, 0, [x]⟩ ⟨2, dst, op, av, an, bv, bn, [x]⟩)])) w') := hQ
  clear hQ
  obtain ⟨ao, b, o, cap, hv, ha, hc⟩ := id h
  obtain rfl := ha (by simp)
  have c0 := hc 0 (by simp)
  subst hv
  have HH : Hid (IntsAt w (.slice (some ⟨b, o, none⟩) [x].length cap) [x]) := h
  clear ha hc h
  have hblk : b < w.heap.size := cell_lt c0
  simp only [List.length_cons, List.length_nil, Nat.zero_add, Nat.add_zero, List.getD_cons_zero] at c0 HH
  unfold stepV
  simp only [List.length_cons, List.length_nil, Nat.zero_add]
  go_enter Tryd.func86, Tryd.ntmps86
  go_wp2_with fail
  go_quiet ((go_at_call 103; exact Calls.quiet_of_same (nextCount_any _ _)))
  have hcount : count 2 = 1 := rfl
  go_wp2_with fail
  go_quiet (fail)
  go_wp2_with fail
  have hm := fun v wx => copyMethod v wx
  simp [nameAt, Tryd.underlying100] at hm
  go_region_with (first | (go_at_call 144; refine copyStep_any _ _ _ _ _ ?_; intro nv' w1 hi1 hb1; obtain ⟨hc1, hf1⟩ := bcell hb1; have hbA : Below w.heap.size w w1 := (below_drewN ((Below.refl _ _).alloc (Nat.le_refl _) _) _).trans (hb1.mono (by simp))) | (go_at_call 104; refine sameStep_any nv' (.slice (some ⟨b, o, none⟩) 1 cap) ⟨2, dst, 0, av, an, 0, 0, [x]⟩ ⟨2, dst, op, av, an, bv, bn, [x]⟩ _ hi1 (HH.out.keep hbA) (by simp) (by simp) ?_; intro w2 hb2))
  all_goals
    have hbB : Below w.heap.size w w2 := hbA.trans (hb2.mono hbA.size)
    clear hb2 hbA hc1 hf1 hb1 hi1 hm
    go_wp2
    go_ret2
    exact HQ.out _ hbB

set_option maxHeartbeats 4000000 in
theorem inOf_any {Q : Ending → World → Prop} (nv : Value) (dst op av an bv bn x : Int) (w : World) (h : IntsAt w nv [x])
    (hQ : ∀ w', Below w.heap.size w w' → Q (.returned (.tuple #[.iface 140 (inV dst x), .bool (sameB ⟨3, dst, 0, 0, 0, 0, 0, [x]⟩ ⟨3, dst, op, av, an, bv, bn, [x]⟩)])) w') :
    Calls Tryd.prog 86 #[stepV ⟨3, dst, op, av, an, bv, bn, [x]⟩ nv] w Q := by
  have HQ : Hid (∀ w', Below w.heap.size w w' → Q (.returned (.tuple #[.iface 140 (inV dst x), .bool (sameB ⟨3, dst, 0, 0, 0, 0, 0, [x]⟩ ⟨3, dst, op, av, an, bv, bn, [x]⟩)])) w') := hQ
  clear hQ
  obtain ⟨ao, b, o, cap, hv, ha, hc⟩ := id h
  obtain rfl := ha (by simp)
  have c0 := hc 0 (by simp)
  subst hv
  have HH : Hid (IntsAt w (.slice (some ⟨b, o, none⟩) [x].length cap) [x]) := h
  clear ha hc h
  have hblk : b < w.heap.size := cell_lt c0
  simp only [List.length_cons, List.length_nil, Nat.zero_add, Nat.add_zero, List.getD_cons_zero] at c0 HH
  unfold stepV
  simp only [List.length_cons, List.length_nil, Nat.zero_add]
  go_enter Tryd.func86, Tryd.ntmps86
  go_wp2_with fail
  go_quiet ((go_at_call 103; exact Calls.quiet_of_same (nextCount_any _ _)))
  have hcount : count 3 = 1 := rfl
  go_wp2_with fail
  go_quiet (fail)
  go_wp2_with fail
  have hm := fun v wx => inMethod v wx
  simp [nameAt, Tryd.underlying100] at hm
  go_region_with (first | (go_at_call 146; refine inStep_any _ _ _ ?_; intro nv' w1 hi1 hb1; obtain ⟨hc1, hf1⟩ := bcell hb1; have hbA : Below w.heap.size w w1 := (below_drewN ((Below.refl _ _).alloc (Nat.le_refl _) _) _).trans (hb1.mono (by simp))) | (go_at_call 104; refine sameStep_any nv' (.slice (some ⟨b, o, none⟩) 1 cap) ⟨3, dst, 0, 0, 0, 0, 0, [x]⟩ ⟨3, dst, op, av, an, bv, bn, [x]⟩ _ hi1 (HH.out.keep hbA) (by simp) (by simp) ?_; intro w2 hb2))
  all_goals
    have hbB : Below w.heap.size w w2 := hbA.trans (hb2.mono hbA.size)
    clear hb2 hbA hc1 hf1 hb1 hi1 hm
    go_wp2
    go_ret2
    exact HQ.out _ hbB

set_option maxHeartbeats 4000000 in
theorem outOf_any {Q : Ending → World → Prop} (nv : Value) (dst op av an bv bn x : Int) (w : World) (h : IntsAt w nv [x])
    (hQ : ∀ w', Below w.heap.size w w' → Q (.returned (.tuple #[.iface 142 (outV av an x), .bool (sameB ⟨4, 0, 0, av, an, 0, 0, [x]⟩ ⟨4, dst, op, av, an, bv, bn, [x]⟩)])) w') :
    Calls Tryd.prog 86 #[stepV ⟨4, dst, op, av, an, bv, bn, [x]⟩ nv] w Q := by
  have HQ : Hid (∀ w', Below w.heap.size w w' → Q (.returned (.tuple #[.iface 142 (outV av an x), .bool (sameB ⟨4, 0, 0, av, an, 0, 0, [x]⟩ ⟨4, dst, op, av, an, bv, bn, [x]⟩)])) w') := hQ
  clear hQ
  obtain ⟨ao, b, o, cap, hv, ha, hc⟩ := id h
  obtain rfl := ha (by simp)
  have c0 := hc 0 (by simp)
  subst hv
  have HH : Hid (IntsAt w (.slice (some ⟨b, o, none⟩) [x].length cap) [x]) := h
  clear ha hc h
  have hblk : b < w.heap.size := cell_lt c0
  simp only [List.length_cons, List.length_nil, Nat.zero_add, Nat.add_zero, List.getD_cons_zero] at c0 HH
  unfold stepV
  simp only [List.length_cons, List.length_nil, Nat.zero_add]
  go_enter Tryd.func86, Tryd.ntmps86
  go_wp2_with fail
  go_quiet ((go_at_call 103; exact Calls.quiet_of_same (nextCount_any _ _)))
  have hcount : count 4 = 1 := rfl
  go_wp2_with fail
  go_quiet (fail)
  go_wp2_with fail
  have hm := fun v wx => outMethod v wx
  simp [nameAt, Tryd.underlying100] at hm
  go_region_with (first | (go_at_call 148; refine outStep_any _ _ _ _ ?_; intro nv' w1 hi1 hb1; obtain ⟨hc1, hf1⟩ := bcell hb1; have hbA : Below w.heap.size w w1 := (below_drewN ((Below.refl _ _).alloc (Nat.le_refl _) _) _).trans (hb1.mono (by simp))) | (go_at_call 104; refine sameStep_any nv' (.slice (some ⟨b, o, none⟩) 1 cap) ⟨4, 0, 0, av, an, 0, 0, [x]⟩ ⟨4, dst, op, av, an, bv, bn, [x]⟩ _ hi1 (HH.out.keep hbA) (by simp) (by simp) ?_; intro w2 hb2))
  all_goals
    have hbB : Below w.heap.size w w2 := hbA.trans (hb2.mono hbA.size)
    clear hb2 hbA hc1 hf1 hb1 hi1 hm
    go_wp2
    go_ret2
    exact HQ.out _ hbB

set_option maxHeartbeats 4000000 in
theorem testOf_any {Q : Ending → World → Prop} (nv : Value) (dst op av an bv bn x y : Int) (w : World) (h : IntsAt w nv [x, y])
    (hQ : ∀ w', Below w.heap.size w w' → Q (.returned (.tuple #[.iface 144 (testV av an x y), .bool (sameB ⟨5, 0, 0, av, an, 0, 0, [x, y]⟩ ⟨5, dst, op, av, an, bv, bn, [x, y]⟩)])) w') :
    Calls Tryd.prog 86 #[stepV ⟨5, dst, op, av, an, bv, bn, [x, y]⟩ nv] w Q := by
  have HQ : Hid (∀ w', Below w.heap.size w w' → Q (.returned (.tuple #[.iface 144 (testV av an x y), .bool (sameB ⟨5, 0, 0, av, an, 0, 0, [x, y]⟩ ⟨5, dst, op, av, an, bv, bn, [x, y]⟩)])) w') := hQ
  clear hQ
  obtain ⟨ao, b, o, cap, hv, ha, hc⟩ := id h
  obtain rfl := ha (by simp)
  have c0 := hc 0 (by simp)
  have c1 := hc 1 (by simp)
  subst hv
  have HH : Hid (IntsAt w (.slice (some ⟨b, o, none⟩) [x, y].length cap) [x, y]) := h
  clear ha hc h
  have hblk : b < w.heap.size := cell_lt c0
  simp only [List.length_cons, List.length_nil, Nat.zero_add, Nat.add_zero, List.getD_cons_zero, List.getD_cons_succ, Nat.reduceAdd] at c0 c1 HH
  unfold stepV
  simp only [List.length_cons, List.length_nil, Nat.zero_add, Nat.reduceAdd]
  go_enter Tryd.func86, Tryd.ntmps86
  go_wp2_with fail
  go_quiet ((go_at_call 103; exact Calls.quiet_of_same (nextCount_any _ _)))
  have hcount : count 5 = 2 := rfl
  go_wp2_with fail
  go_quiet (fail)
  go_wp2_with fail
  have hm := fun v wx => testMethod v wx
  simp [nameAt, Tryd.underlying100] at hm
  go_region_with (first | (go_at_call 150; refine testStep_any _ _ _ _ _ ?_; intro nv' w1 hi1 hb1; obtain ⟨hc1, hf1⟩ := bcell hb1; have hbA : Below w.heap.size w w1 := (below_drewN ((Below.refl _ _).alloc (Nat.le_refl _) _) _).trans (hb1.mono (by simp))) | (go_at_call 104; refine sameStep_any nv' (.slice (some ⟨b, o, none⟩) 2 cap) ⟨5, 0, 0, av, an, 0, 0, [x, y]⟩ ⟨5, dst, op, av, an, bv, bn, [x, y]⟩ _ hi1 (HH.out.keep hbA) (by simp) (by simp) ?_; intro w2 hb2))
  all_goals
    have hbB : Below w.heap.size w w2 := hbA.trans (hb2.mono hbA.size)
    clear hb2 hbA hc1 hf1 hb1 hi1 hm
    go_wp2
    go_ret2
    exact HQ.out _ hbB

set_option maxHeartbeats 4000000 in
theorem skipOf_any {Q : Ending → World → Prop} (nv : Value) (dst op av an bv bn x : Int) (w : World) (h : IntsAt w nv [x])
    (hQ : ∀ w', Below w.heap.size w w' → Q (.returned (.tuple #[.iface 146 (skipV x), .bool (sameB ⟨6, 0, 0, 0, 0, 0, 0, [x]⟩ ⟨6, dst, op, av, an, bv, bn, [x]⟩)])) w') :
    Calls Tryd.prog 86 #[stepV ⟨6, dst, op, av, an, bv, bn, [x]⟩ nv] w Q := by
  have HQ : Hid (∀ w', Below w.heap.size w w' → Q (.returned (.tuple #[.iface 146 (skipV x), .bool (sameB ⟨6, 0, 0, 0, 0, 0, 0, [x]⟩ ⟨6, dst, op, av, an, bv, bn, [x]⟩)])) w') := hQ
  clear hQ
  obtain ⟨ao, b, o, cap, hv, ha, hc⟩ := id h
  obtain rfl := ha (by simp)
  have c0 := hc 0 (by simp)
  subst hv
  have HH : Hid (IntsAt w (.slice (some ⟨b, o, none⟩) [x].length cap) [x]) := h
  clear ha hc h
  have hblk : b < w.heap.size := cell_lt c0
  simp only [List.length_cons, List.length_nil, Nat.zero_add, Nat.add_zero, List.getD_cons_zero] at c0 HH
  unfold stepV
  simp only [List.length_cons, List.length_nil, Nat.zero_add]
  go_enter Tryd.func86, Tryd.ntmps86
  go_wp2_with fail
  go_quiet ((go_at_call 103; exact Calls.quiet_of_same (nextCount_any _ _)))
  have hcount : count 6 = 1 := rfl
  go_wp2_with fail
  have hm := fun v wx => skipMethod v wx
  simp [nameAt, Tryd.underlying100] at hm
  go_region_with (first | (go_at_call 152; refine skipStep_any _ _ ?_; intro nv' w1 hi1 hb1; obtain ⟨hc1, hf1⟩ := bcell hb1; have hbA : Below w.heap.size w w1 := (below_drewN ((Below.refl _ _).alloc (Nat.le_refl _) _) _).trans (hb1.mono (by simp))) | (go_at_call 104; refine sameStep_any nv' (.slice (some ⟨b, o, none⟩) 1 cap) ⟨6, 0, 0, 0, 0, 0, 0, [x]⟩ ⟨6, dst, op, av, an, bv, bn, [x]⟩ _ hi1 (HH.out.keep hbA) (by simp) (by simp) ?_; intro w2 hb2))
  all_goals
    have hbB : Below w.heap.size w w2 := hbA.trans (hb2.mono hbA.size)
    clear hb2 hbA hc1 hf1 hb1 hi1 hm
    go_wp2
    go_ret2
    exact HQ.out _ hbB

set_option maxHeartbeats 4000000 in
theorem endOf_any {Q : Ending → World → Prop} (nv : Value) (dst op av an bv bn : Int) (w : World) (h : IntsAt w nv [])
    (hQ : ∀ w', Below w.heap.size w w' → Q (.returned (.tuple #[.iface 156 (endV), .bool (sameB ⟨7, 0, 0, 0, 0, 0, 0, []⟩ ⟨7, dst, op, av, an, bv, bn, []⟩)])) w') :
    Calls Tryd.prog 86 #[stepV ⟨7, dst, op, av, an, bv, bn, []⟩ nv] w Q := by
  have HQ : Hid (∀ w', Below w.heap.size w w' → Q (.returned (.tuple #[.iface 156 (endV), .bool (sameB ⟨7, 0, 0, 0, 0, 0, 0, []⟩ ⟨7, dst, op, av, an, bv, bn, []⟩)])) w') := hQ
  clear hQ
  obtain ⟨ao, b, o, cap, hv, ha, hc⟩ := id h
  subst hv
  have HH : Hid (IntsAt w (.slice ao ([] : List Int).length cap) []) := h
  clear ha hc h
  simp only [List.length_nil] at HH
  unfold stepV
  simp only [List.length_nil]
  go_enter Tryd.func86, Tryd.ntmps86
  go_wp2_with fail
  go_quiet ((go_at_call 103; exact Calls.quiet_of_same (nextCount_any _ _)))
  have hcount : count 7 = 0 := rfl
  go_wp2_with fail
  have hm := fun v wx => endMethod v wx
  simp [nameAt, Tryd.underlying100] at hm
  go_region_with (first | (go_at_call 154; refine endStep_any _ ?_; intro nv' w1 hi1 hb1; obtain ⟨hc1, hf1⟩ := bcell hb1; have hbA : Below w.heap.size w w1 := (below_drewN ((Below.refl _ _).alloc (Nat.le_refl _) _) _).trans (hb1.mono (by simp))) | (go_at_call 104; refine sameStep_any nv' (.slice ao 0 cap) ⟨7, 0, 0, 0, 0, 0, 0, []⟩ ⟨7, dst, op, av, an, bv, bn, []⟩ _ hi1 (HH.out.keep hbA) (by simp) (by simp) ?_; intro w2 hb2))
  all_goals
    have hbB : Below w.heap.size w w2 := hbA.trans (hb2.mono hbA.size)
    clear hb2 hbA hc1 hf1 hb1 hi1 hm
    go_wp2
    go_ret2
    exact HQ.out _ hbB
end Go.Proofs.YtdgghpklhkgknaaDoor
