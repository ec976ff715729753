/- What the program's rowUp answers. -/
import Derived.Test.YtblagfndeffilaaWayUp
import Derived.Test.YtblagfndeffilaaOnB
namespace Go.Proofs.Ytblagfndeffilaa
open Go.RowKit Go.Shelf

attribute [local go_sem] Oper.semAt_some

theorem rowIs_grown {W W' : World} {row : Option Nat} {b n B : Nat} {t : TypeId} {f : Nat → Value} (h : W.rowIs b t n f) (hg : W.grownBy W' row) (hr : ∀ r, row = some r → B ≤ r ∧ ∃ o : Obj, W.heap[r]? = some o ∧ o.isCells = false) (hb : b < B) : W'.rowIs b t n f :=
  h.of_block (hg.block b h.lt fun e => by have := (hr b e.symm).1; omega)

theorem cell_grown {W W' : World} {row : Option Nat} {a : Addr} {v : Value} {B : Nat} (h : W.cell? a = some v) (hg : W.grownBy W' row) (hr : ∀ r, row = some r → B ≤ r ∧ ∃ o : Obj, W.heap[r]? = some o ∧ o.isCells = false) (hb : a.block < B) : W'.cell? a = some v :=
  (World.cell?_of_block (w := W) (a := a) (hg.block a.block (cell_lt h) fun e => by have := (hr a.block e.symm).1; omega)).trans h

set_option maxRecDepth 100000 in
set_option maxHeartbeats 2000000 in
theorem rowUp_in {R : Ending → World → Prop} (vg N x : Nat) (hN1 : 1 ≤ N) (hN : N ≤ 1000) (ov : Nat → Option Nat) (rk : Nat → Nat) (h0 : ov 0 = some 0) (hup : ∀ x y, ov x = some y → x ≠ 0 → rk x < rk y) (htop : ∀ x, (∃ y, ov x = some y) → rk x ≤ rk 0) (xs : List (Fin N)) (hx : x < N) (hU : UpOr ov N x xs) (w : World) (hV : w.rowIs vg 3 N (ovV ov))
    (hR : ∀ w', Below w.heap.size w w' → w'.rowIs w.heap.size 4 N (fun j => .bool (onB xs j)) → R (.returned (.slice (some ⟨w.heap.size, 0, none⟩) N N)) w') :
    CallsIn Fence.wide 10 Try.prog 57 #[.slice (some ⟨vg, 0, none⟩) N N, .int .i64 (x : Int)] w R := by
  have HR : Hid _ := hR
  have HV : Hid (w.rowIs vg 3 N (ovV ov)) := hV
  have HU : Hid _ := hU
  have HUP : Hid _ := hup
  have HTOP : Hid _ := htop
  have H0 : Hid (ov 0 = some 0) := h0
  have hvl := hV.lt
  clear hR hV hU hup htop h0
  obtain ⟨i0, hi, hz0, hz1, hz2⟩ := info_parts infoBool
  have hmk : ∀ w, (Instr.makeSlice 39 (.int .i64 (N : Int)) (.int .i64 (N : Int))).run Try.prog w = .ok (.slice (some ⟨w.heap.size, 0, none⟩) N N) (w.alloc (.cells (madeCells #[.bool false] N) 4)) := fun w => run_make_row 39 4 i0 (.bool false) Try.underlying39 hi hz0 hz1 rfl .i64 .i64 N (by rw [hz2]; omega) (by omega) w
  refine callsIn_of_wp_marks Try.func57 rfl trivial ?_ rfl
  simp only [Try.ntmps57, List.size_toArray, List.length_cons, List.length_nil, Nat.reduceAdd, Nat.reduceSub, Array.replicate_succ, Array.replicate_zero, List.push_toArray, List.append_toArray, List.nil_append, List.cons_append]
  gi_wp2
  refine ⟨trivial, (wayUp_in 9 _ _ _ _ _).mono ?_⟩
  rintro e w' ⟨rfl, rfl⟩
  gi_wp2
  have hb0 : Below w.heap.size w ((((w.alloc (.cells (madeCells #[.bool false] N) 4)).alloc (.cells #[.slice (some ⟨w.heap.size, 0, none⟩) N N] 39)).alloc (.cells #[.slice (some ⟨vg, 0, none⟩) N N] 42)).alloc (.cells #[.int .i64 (x : Int)] 3)) := ((((Below.refl _ w).alloc (Nat.le_refl _) _).alloc (by simp) _).alloc (by simp; omega) _).alloc (by simp; omega) _
  have hr0 := (((World.rowIs_made w (.bool false) N 4).alloc (.cells #[.slice (some ⟨w.heap.size, 0, none⟩) N N] 39)).alloc (.cells #[.slice (some ⟨vg, 0, none⟩) N N] 42)).alloc (.cells #[.int .i64 (x : Int)] 3)
  generalize hW : (((w.alloc (.cells (madeCells #[.bool false] N) 4)).alloc (.cells #[.slice (some ⟨w.heap.size, 0, none⟩) N N] 39)).alloc (.cells #[.slice (some ⟨vg, 0, none⟩) N N] 42)).alloc (.cells #[.int .i64 (x : Int)] 3) = W0 at *
  have hs0 : W0.heap.size = w.heap.size + 4 := by rw [← hW]; simp
  have hc1 : W0.cell? ⟨w.heap.size + 1, 0, none⟩ = some (.slice (some ⟨w.heap.size, 0, none⟩) N N) := by rw [← hW]; simp [go_sem]
  have hc2 : W0.cell? ⟨w.heap.size + 1 + 1, 0, none⟩ = some (.slice (some ⟨vg, 0, none⟩) N N) := by rw [← hW]; simp [go_sem]
  have hc3 : W0.cell? ⟨w.heap.size + 1 + 1 + 1, 0, none⟩ = some (.int .i64 (x : Int)) := by rw [← hW]; simp [go_sem]
  clear hW
  refine wpIn_rangeFunc_ownF (N := xs.length) (encs := fun y : Fin N => #[Value.int .i64 (y.1 : Int)]) rfl (by omega) (gf := 91) (lb := #[.pointer (some ⟨w.heap.size + 1 + 1, 0, none⟩), .pointer (some ⟨w.heap.size + 1 + 1 + 1, 0, none⟩)]) rfl trivial (enters_of Try.func91 (by kernel_rfl) rfl)
    (wayUp_stops 9 (w.heap.size + 1 + 1) (w.heap.size + 1 + 1 + 1) vg N x (by omega) ov rk H0.out HUP.out HTOP.out xs hx HU.out W0 hc2 hc3 (rowIs_keep HV.out hb0)) (fun h k => Kp2.t h k) (fun W l o o' h1 h2 h3 h4 => Kp2.b (w := W0) (by omega) (by omega) W l o o' h1 h2 h3 h4) (Below.refl _ _) (fun _ => rfl)
    (fun pre W => (W.rowIs w.heap.size 4 N (fun j => .bool (onB pre j)) ∧ W.cell? ⟨w.heap.size + 1, 0, none⟩ = some (.slice (some ⟨w.heap.size, 0, none⟩) N N)) ∧ Below w.heap.size w W)
    (fun _ _ _ => False)
    (OwnFrom.and (fun s A B row hs hg hr => ⟨rowIs_grown hs.1 hg hr (by omega), cell_grown hs.2 hg hr (by show w.heap.size + 1 < W0.heap.size; omega)⟩) (ownFrom_below (Nat.le_refl _) (by omega)))
    (fun _ _ _ _ _ hs _ _ => hs)
    ⟨⟨hr0.congr fun i _ => by simp [onB], hc1⟩, hb0⟩
    (fun y => { tmps := #[.slice (some ⟨vg, 0, none⟩) N N, .int .i64 (x : Int), undef, undef, .slice none 0 0, .pointer (some ⟨w.heap.size + 1, 0, none⟩), .int .i64 (y.1 : Int), .slice (some ⟨vg, 0, none⟩) N N, .int .i64 (N : Int), .slice (some ⟨w.heap.size, 0, none⟩) N N, .slice (some ⟨vg, 0, none⟩) N N, .int .i64 (x : Int), .func (.func 91) #[] #[.pointer (some ⟨w.heap.size + 1 + 1, 0, none⟩), .pointer (some ⟨w.heap.size + 1 + 1 + 1, 0, none⟩)], .int .i64 (y.1 : Int), undef, undef, undef, undef], defers := [] }) ?assign ?body ?done ?stop
  case assign =>
    intro l y W K hK
    gi_wp2
    exact hK
  case body =>
    rintro l pre y W ⟨⟨hrow, hc⟩, hB⟩ _
    have hy := y.2
    have hyi : (y.1 : Int) < (N : Int) := by omega
    have cy := hrow.cell hy
    have fy := hrow.frozen y.1
    have HROW : Hid (W.rowIs w.heap.size 4 N (fun j => .bool (onB pre j))) := hrow
    have HB : Hid (Below w.heap.size w W) := hB
    clear hrow hB
    gi_wp2
    refine ⟨KeepsOthers.setCell _ _ _, ⟨Below.heap_setCell W _ _ vg (by show vg ≠ w.heap.size; omega), Below.heap_setCell W _ _ _ (by show w.heap.size + 1 + 1 ≠ w.heap.size; omega)⟩, ⟨(HROW.out.set y.1 _).congr fun i hi => ?_, ?_⟩, HB.out.setCell (p := ⟨w.heap.size, y.1, none⟩) (Nat.le_refl _) _⟩
    · rw [onB_snoc]
      by_cases e : i = y.1 <;> simp [e]
    · rw [cell_setOther _ _ _ _ (by show w.heap.size + 1 ≠ w.heap.size; omega)]; exact hc
  case done =>
    rintro D ys W hD rfl ⟨⟨hrow, hc⟩, hB⟩ hK
    have HROW : Hid (W.rowIs w.heap.size 4 N (fun j => .bool (onB ys j))) := hrow
    have HB : Hid (Below w.heap.size w W) := hB
    clear hrow hB
    gi_wp2
    refine ⟨by simp, .inl ⟨_, _, rfl, run_takeDeferred hK, ?_⟩⟩
    refine ⟨_, results_tmp rfl _ _ _, ?_⟩
    exact HR.out _ (HB.out.trans (belowK_b (w := w) (Nat.le_refl _) W D _ _ (by omega) hK rfl rfl)) (HROW.out.of_block ((grownBy_putObj' W D _).block _ HROW.out.lt fun e => by cases e; omega))
  case stop =>
    rintro D c pre W _ _ h _
    exact h.elim

/-- rowUp: of a step that can be come to, all that stand on each way to it. -/
theorem rowUp_any {Q : Ending → World → Prop} {ss : List St} (hok : okB ss = true) (vg x : Nat) (ov : Nat → Option Nat) (hF : OverF ss ov) (hx : x < ss.length) (w : World) (hV : w.rowIs vg 3 ss.length (ovV ov))
    (hQ : ∀ (m : Nat → Bool) w', Below w.heap.size w w' → w'.rowIs w.heap.size 4 ss.length (fun j => .bool (m j)) → (∀ k, k < ss.length → (m k = true ↔ Dom ss k x)) → Q (.returned (.slice (some ⟨w.heap.size, 0, none⟩) ss.length ss.length)) w') :
    Calls Try.prog 57 #[.slice (some ⟨vg, 0, none⟩) ss.length ss.length, .int .i64 (x : Int)] w Q := by
  obtain ⟨rk, h1, _, h2⟩ := hF.rk
  have hl := ok_len hok
  have htop : ∀ x, (∃ y, ov x = some y) → rk x ≤ rk 0 := fun x hx => h1 x ((hF.reach x).2 hx)
  refine (callsIn_wide (n := 10)).1 ?_
  by_cases hr : Reaches ss x
  · obtain ⟨xs, hxs⟩ := hF.isUp hok hr
    refine rowUp_in vg ss.length x hl.1 (by omega) ov rk hF.zero h2 htop xs hx (Or.inr ⟨(hF.reach x).1 hr, hxs⟩) w hV fun w' hb hrow => hQ (onB xs) w' hb hrow fun k hk => ?_
    rw [onB_mem, ← hF.dom hr]
    constructor
    · rintro ⟨k', hk', rfl⟩
      exact (hxs.mem k').1 hk'
    · intro hu
      exact ⟨⟨k, hk⟩, (hxs.mem ⟨k, hk⟩).2 hu, rfl⟩
  · have hn : ov x = none := by
      cases e : ov x with
      | none => rfl
      | some y => exact absurd ((hF.reach x).2 ⟨y, e⟩) hr
    refine rowUp_in vg ss.length x hl.1 (by omega) ov rk hF.zero h2 htop [] hx (Or.inl ⟨hn, rfl⟩) w hV fun w' hb hrow => hQ (onB ([] : List (Fin ss.length))) w' hb hrow fun k hk => ?_
    constructor
    · intro h
      simp [onB] at h
    · intro h
      exact absurd h.1 hr
end Go.Proofs.Ytblagfndeffilaa
