/- The model's drawing of what comes in. The model's DrawRunOf: some program, some numbers, a number. -/
import Derived.Test.YtnlcdecokpdkpaaDoorDraw45
import Derived.Test.YtnlcdecokpdkpaaDoorOwnK
import Derived.Test.YtnlcdecokpdkpaaDoorDraw8
import Derived.Test.YtnlcdecokpdkpaaDoorCode
import Derived.Test.YtnlcdecokpdkpaaDoorRunM2
import Derived.Deep.AppendLies
namespace Go.Proofs.YtnlcdecokpdkpaaDoor
open Go.RowKit

theorem five {rb ab : Nat} {w1 w2 : World} {a b c d e : Int} (hx : Ex rb (w1.alloc (.cells #[.int .i64 a, .int .i64 b, .int .i64 c, .int .i64 d, .int .i64 e] 3)) w2) (hne : w1.heap.size ≠ rb) (he : ab = w1.heap.size) : ∀ i : Nat, (i : Int) < 5 → ∃ y : Int, w2.cell? ⟨ab, i, none⟩ = some (.int .i64 y) := fun i hi => by
  subst he
  have e : i = 0 ∨ i = 1 ∨ i = 2 ∨ i = 3 ∨ i = 4 := by omega
  rcases e with rfl | rfl | rfl | rfl | rfl
  all_goals exact ⟨_, hx.cell (by simp; rfl) hne⟩

theorem two {rb ab : Nat} {w1 w2 : World} {a b : Int} (hx : Ex rb (w1.alloc (.cells #[.int .i64 a, .int .i64 b] 3)) w2) (hne : w1.heap.size ≠ rb) (he : ab = w1.heap.size) : ∀ i : Nat, (i : Int) < 2 → ∃ y : Int, w2.cell? ⟨ab, i, none⟩ = some (.int .i64 y) := fun i hi => by
  subst he
  have e : i = 0 ∨ i = 1 := by omega
  rcases e with rfl | rfl
  all_goals exact ⟨_, hx.cell (by simp; rfl) hne⟩

theorem Ex.grown {rb : Nat} {a w w' : World} {row : Option Nat} (h : Ex rb a w) (hg : w.grownBy w' row) (hr : ∀ k, row = some k → a.heap.size ≤ k) : Ex rb a w' :=
  ⟨hg.os.trans h.os, hg.tape.trans h.tape, hg.output.trans h.output, Nat.le_trans h.size hg.size, fun k hk hne => (hg.block k (Nat.lt_of_lt_of_le hk h.size) (fun e => by have := hr k e.symm; omega)).trans (h.block k hk hne)⟩

/-- What is kept while numbers are drawn. -/
structure NI (rb : Nat) (w wr : World) (v : Value) (zs : List Int) (p : Nat) : Prop where
  rd : Rd wr rb p
  ex : Ex rb w wr
  own : wr.ownsRow w.heap.size 3 1 v zs.length (zs.map (Value.int .i64))

theorem NI.form {rb p : Nat} {w wr : World} {v : Value} {zs : List Int} (h : NI rb w wr v zs p) : ∃ A c, v = .slice A zs.length c := by
  rcases h.own.2 with ⟨e, e2⟩ | ⟨g', c, _, e, _⟩
  · exact ⟨none, 0, by rw [e2]; exact e⟩
  · exact ⟨_, _, e⟩

theorem NI.go {rb p q : Nat} {w wr wr' : World} {v : Value} {zs : List Int} (h : NI rb w wr v zs p) (hlt : rb < w.heap.size) (hx : Ex rb wr wr') (hr : Rd wr' rb q) : NI rb w wr' v zs q :=
  ⟨hr, h.ex.trans hx, own_ex h.own hx hlt⟩

theorem NI.snoc {rb p g cap : Nat} {w wr w' : World} {O : Obj} {v : Value} {zs : List Int} {y : Int} (h : NI rb w wr v zs p) (hlt : rb < w.heap.size) (hg : (wr.alloc O).grownBy w' v.ownBlock)
    (hown : w'.ownsRow w.heap.size 3 1 (.slice (some ⟨g, 0, none⟩) (zs.length + 1) cap) (zs.length + 1) (zs.map (Value.int .i64) ++ [.int .i64 y])) : NI rb w w' (.slice (some ⟨g, 0, none⟩) (zs.length + 1) cap) (zs ++ [y]) p :=
  ⟨(h.rd.alloc O).grown hg (fun k hk => by have := (h.own.lt k hk).1; omega), (h.ex.alloc O).grown hg (fun k hk => (h.own.lt k hk).1), by simpa using hown⟩

set_option maxRecDepth 100000 in
set_option maxHeartbeats 4000000 in
theorem l71In_any {Q : Ending → World → Prop} (rb p : Nat) (w : World) (h : Rd w rb p) (hp : p + 20 ≤ 1000000)
    (hQ : ∀ (v : Value) (zs : List Int) (p' : Nat) w', w'.ownsRow w.heap.size 3 1 v zs.length (zs.map (Value.int .i64)) → zs.length ≤ 9 → Rd w' rb p' → p' ≤ p + 12 → Ex rb w w' → Q (.returned v) w') :
    Calls Tryd.prog 52 #[.pointer (some ⟨rb, 0, none⟩)] w Q := by
  have HQ : Hid _ := hQ
  clear hQ
  have hlt := h.lt
  obtain ⟨i0, hi', hi0, hi1, hi2⟩ := info_parts infoInt2
  go_enter Tryd.func52, Tryd.ntmps52
  go_wp2_with fail
  refine pick_any rb p 9 _ (h.alloc _) (by omega) (by omega) fun z w1 hz hr1 hx1 => ?_
  have hz9 : (z : Int) < 9 := hz (by omega)
  have hz9' : z < 9 := by omega
  have HN1 : Hid (NI rb w w1 (.slice (some ⟨w.heap.size, 0, none⟩) 0 0) [] (p + 1)) := ⟨hr1, ((Ex.refl _ _).alloc _).trans hx1, own_ex (World.ownsRow_lit (base := w.heap.size) (e := 3) (size := 1) w #[] 0 (Nat.le_refl _) (by decide) (by simp)) hx1 hlt⟩
  clear hz hr1 hx1 h
  go_wp2_with fail
  go_loopw [3, 4] (fun v n wr => ∃ (zs : List Int) (k : Nat), n = .int .i64 (k : Int) ∧ zs.length + k ≤ 8 ∧ NI rb w wr v zs (p + 1 + zs.length)) (fun _ n _ => (intOf n).toNat)
  case atStart => exact ⟨[], z, rfl, by simp; omega, HN1.out⟩
  case round =>
    obtain ⟨zs, k, rfl, hk, hN⟩ := hrel
    obtain ⟨A, c, rfl⟩ := hN.form
    have HN : Hid (NI rb w wr (.slice A zs.length c) zs (p + 1 + zs.length)) := hN
    have hle := hN.ex.size
    have hzl : zs.length ≤ 8 := by omega
    clear hN
    by_cases hk0 : 0 < k
    · have hki : (0 : Int) < (k : Int) := by omega
      go_wp2_with fail
      refine pick_any rb (p + 1 + zs.length) 5 _ (HN.out.rd.alloc _) (by omega) (by omega) fun z2 w2 hz2 hr2 hx2 => ?_
      have h25 : (z2 : Int) < 5 := hz2 (by omega)
      obtain ⟨y, hy⟩ := five hx2 (by omega) rfl z2 h25
      have HN2 : Hid (NI rb w w2 (.slice A zs.length c) zs (p + 1 + zs.length + 1)) := HN.out.go hlt (((Ex.refl _ _).alloc _).trans hx2) hr2
      have hs2 : w.heap.size ≤ w2.heap.size := HN2.out.ex.size
      clear hz2 hr2 hx2
      go_wp2_with (at_builtin; refine wpList_append_lies _ rfl _ _ 25 rfl w.heap.size 3 i0 (.int .i64 0) 1 8 Tryd.underlying25 hi' hi0 hi1 hi2 rfl (by decide) (.slice A zs.length c) zs.length (zs.map (Value.int .i64)) rfl (HN2.out.own.alloc _) ⟨w2.heap.size, 0, none⟩ 1 1 [.int .i64 y] rfl rfl (cell_one_new w2 _ _) (int_oneCell _ _) (by decide) (by unfold maxLen; omega) (by omega) (by simp; omega) (w2.heap.size + 1) (by simp) ?_)
      intro g8 cap8 w8 hown8 hgrow8 hat8 hlt8
      have HN3 : Hid (NI rb w w8 (.slice (some ⟨g8, 0, none⟩) (zs.length + 1) cap8) (zs ++ [y]) (p + 1 + zs.length + 1)) := HN2.out.snoc hlt hgrow8 hown8
      clear hown8 hgrow8 hat8 hlt8 hy
      go_wp2
      go_roundw
      case rel => exact ⟨zs ++ [y], k - 1, by first | go_num | (congr 1; omega) | (simp; omega), by simp; omega, by simpa [Nat.add_assoc] using HN3.out⟩
      case measure => simp [intOf]; omega
    · have hki : ¬ ((0 : Int) < (k : Int)) := by omega
      go_wp2_with fail
      refine pick_any rb (p + 1 + zs.length) 30 _ HN.out.rd (by omega) (by omega) fun z2 w2 hz2 hr2 hx2 => ?_
      have HN2 : Hid (NI rb w w2 (.slice A zs.length c) zs (p + 1 + zs.length + 1)) := HN.out.go hlt hx2 hr2
      have hs2 : w.heap.size ≤ w2.heap.size := HN2.out.ex.size
      clear hz2 hr2 hx2
      by_cases hz0 : z2 = 0
      · subst hz0
        go_wp2_with fail
        refine pick_any rb (p + 1 + zs.length + 1) 2 _ (HN2.out.rd.alloc _) (by omega) (by omega) fun z3 w3 hz3 hr3 hx3 => ?_
        have h32 : (z3 : Int) < 2 := hz3 (by omega)
        obtain ⟨y, hy⟩ := two hx3 (by omega) rfl z3 h32
        have HN3 : Hid (NI rb w w3 (.slice A zs.length c) zs (p + 1 + zs.length + 1 + 1)) := HN2.out.go hlt (((Ex.refl _ _).alloc _).trans hx3) hr3
        have hs3 : w.heap.size ≤ w3.heap.size := HN3.out.ex.size
        clear hz3 hr3 hx3
        go_wp2_with (at_builtin; refine wpList_append_lies _ rfl _ _ 25 rfl w.heap.size 3 i0 (.int .i64 0) 1 8 Tryd.underlying25 hi' hi0 hi1 hi2 rfl (by decide) (.slice A zs.length c) zs.length (zs.map (Value.int .i64)) rfl (HN3.out.own.alloc _) ⟨w3.heap.size, 0, none⟩ 1 1 [.int .i64 y] rfl rfl (cell_one_new w3 _ _) (int_oneCell _ _) (by decide) (by unfold maxLen; omega) (by omega) (by simp; omega) (w3.heap.size + 1) (by simp) ?_)
        intro g8 cap8 w8 hown8 hgrow8 hat8 hlt8
        have HN4 : Hid (NI rb w w8 (.slice (some ⟨g8, 0, none⟩) (zs.length + 1) cap8) (zs ++ [y]) (p + 1 + zs.length + 1 + 1)) := HN3.out.snoc hlt hgrow8 hown8
        clear hown8 hgrow8 hat8 hlt8 hy
        go_wp2
        exact HQ.out _ _ _ _ HN4.out.own (by simp; omega) HN4.out.rd (by omega) HN4.out.ex
      · have hzb : ((z2 : Int) == 0) = false := by simp; omega
        go_wp2
        exact HQ.out _ _ _ _ HN2.out.own (by omega) HN2.out.rd (by omega) HN2.out.ex
end Go.Proofs.YtnlcdecokpdkpaaDoor
namespace Go.Proofs.YtnlcdecokpdkpaaDoor
open Go.RowKit

/-- The eight numbers. -/
def litM : Obj := .cells #[.int .i64 0, .int .i64 1, .int .i64 10, .int .i64 60, .int .i64 120, .int .i64 600, .int .i64 601, .int .i64 (-1)] 3

theorem litM_at (W : World) (i : Nat) (hi : (i : Int) < 8) : ∃ y : Int, (W.alloc litM).cell? ⟨W.heap.size, i, none⟩ = some (.int .i64 y) := by
  have e : i = 0 ∨ i = 1 ∨ i = 2 ∨ i = 3 ∨ i = 4 ∨ i = 5 ∨ i = 6 ∨ i = 7 := by omega
  unfold litM
  rcases e with rfl | rfl | rfl | rfl | rfl | rfl | rfl | rfl
  all_goals exact ⟨_, by simp; rfl⟩

theorem litM_both (W : World) (i : Nat) (hi : (i : Int) < 8) : ∃ y : Int, (W.alloc litM).cell? ⟨W.heap.size, i, none⟩ = some (.int .i64 y) ∧ ([.int .i64 0, .int .i64 1, .int .i64 10, .int .i64 60, .int .i64 120, .int .i64 600, .int .i64 601, .int .i64 (-1)] : List Value)[i]? = some (.int .i64 y) := by
  have e : i = 0 ∨ i = 1 ∨ i = 2 ∨ i = 3 ∨ i = 4 ∨ i = 5 ∨ i = 6 ∨ i = 7 := by omega
  unfold litM
  rcases e with rfl | rfl | rfl | rfl | rfl | rfl | rfl | rfl
  · exact ⟨0, by simp, rfl⟩
  · exact ⟨1, by simp, rfl⟩
  · exact ⟨10, by simp, rfl⟩
  · exact ⟨60, by simp, rfl⟩
  · exact ⟨120, by simp, rfl⟩
  · exact ⟨600, by simp, rfl⟩
  · exact ⟨601, by simp, rfl⟩
  · exact ⟨-1, by simp, rfl⟩

/-- The numbers lie in a block. -/
def LitAt (W : World) (ab : Nat) : Prop := ∀ i : Nat, (i : Int) < 8 → ∃ y : Int, W.cell? ⟨ab, i, none⟩ = some (.int .i64 y)

theorem LitAt.ex {rb ab : Nat} {W W' : World} (h : LitAt W ab) (hx : Ex rb W W') (hne : ab ≠ rb) : LitAt W' ab := fun i hi => by
  obtain ⟨y, hy⟩ := h i hi
  exact ⟨y, hx.cell hy hne⟩

theorem LitAt.new (W : World) : LitAt (W.alloc litM) W.heap.size := fun i hi => litM_at W i hi

structure DR (rb : Nat) (w1 W : World) (v : Value) (ss : List St) : Prop where
  st : StepsNF w1.heap.size W v ss
  ex : Ex rb w1 W

theorem DR.go {rb : Nat} {w1 W W' : World} {v : Value} {ss : List St} (h : DR rb w1 W v ss) (hx : Ex rb W W') (hr : rb < w1.heap.size) : DR rb w1 W' v ss := ⟨h.st.ex hx hr, h.ex.trans hx⟩

structure DN (rb : Nat) (w1 W : World) (v : Value) (ss : List St) (u : Value) (zs : List Int) : Prop where
  st : StepsNF w1.heap.size W v ss
  ex : Ex rb w1 W
  own : W.ownsRow w1.heap.size 3 1 u zs.length (zs.map (Value.int .i64))

theorem DN.go {rb : Nat} {w1 W W' : World} {v u : Value} {ss : List St} {zs : List Int} (h : DN rb w1 W v ss u zs) (hx : Ex rb W W') (hr : rb < w1.heap.size) : DN rb w1 W' v ss u zs := ⟨h.st.ex hx hr, h.ex.trans hx, own_ex h.own hx hr⟩

theorem ownsL {base : Nat} {W : World} {u : Value} {zs : List Int} (h : W.ownsRow base 3 1 u zs.length (zs.map (Value.int .i64))) : IntsL W u zs := by
  have h1 : IntsO base W.heap.size W u zs := IntsO.of h
  rcases id h.2 with ⟨e, e2⟩ | ⟨g, cap, cur, e, _, _, hcap, _⟩
  · exact ⟨none, 0, 0, 0, by rw [e2]; exact e, by omega, fun hp => by omega, fun i hi => by omega⟩
  · obtain ⟨ao, g', cap', hv, hc⟩ := h1.read
    rw [e] at hv
    cases hv
    exact ⟨_, g, 0, cap, e, by first | exact hcap | omega, fun _ => rfl, fun i hi => by obtain ⟨e3, c3, _⟩ := hc i hi; cases e3; rw [Nat.zero_add]; exact c3⟩

set_option maxRecDepth 100000 in
set_option maxHeartbeats 8000000 in
theorem drawRunOf_any {Q : Ending → World → Prop} (v : Value) (w : World) (h : CodeAt w v)
    (hQ : ∀ (sv iv : Value) (ss : List St) (inp : List Int) (most : Int) w', StepsN w' sv ss → ss.length ≤ 61 → (∀ s ∈ ss, s.next.length ≤ 61) → IntsL w' iv inp → Nice iv → inp.length ≤ 9 → Below w.heap.size w w' → Q (.returned (.tuple #[.agg #[sv], iv, .int .i64 most])) w') :
    Calls Tryd.prog 24 #[v] w Q := by
  have HQ : Hid _ := hQ
  clear hQ
  go_enter Tryd.func24, Tryd.ntmps24
  go_wp2_with fail
  have hb0 : ∀ O, Below w.heap.size w (w.alloc O) := fun O => (Below.refl _ _).alloc (Nat.le_refl _) O
  refine openCode_any v _ (h.keep (hb0 _)) fun w1 hr1 hb1 => ?_
  have e0 : (w.alloc (.cells #[.slice none 0 0] 32)).heap.size = w.heap.size + 1 := by simp
  rw [e0] at hr1 hb1 ⊢
  have hlt := hr1.lt
  have HB1 : Hid (Below w.heap.size w w1) := (hb0 _).trans (hb1.mono (by omega))
  have q1 : w1.cell? ⟨w.heap.size, 0, none⟩ = some (.slice none 0 0) := (hb1.cell (p := ⟨w.heap.size, 0, none⟩) (by show w.heap.size < w.heap.size + 1; omega)).trans (by simp [go_sem])
  have f1 : w1.frozen? ⟨w.heap.size, 0, none⟩ = false := (hb1.frozen (p := ⟨w.heap.size, 0, none⟩) (by show w.heap.size < w.heap.size + 1; omega)).trans (by simp [go_sem])
  have hne : w.heap.size ≠ w.heap.size + 1 := by omega
  have HRA : Hid (Rd (w1.alloc litM).drew (w.heap.size + 1) 0) := ⟨(hr1.alloc litM).ex, (hr1.alloc litM).at1, (hr1.alloc litM).fz⟩
  have HRB : Hid (Rd w1.drew (w.heap.size + 1) 0) := ⟨hr1.ex, hr1.at1, hr1.fz⟩
  have HXA : Hid (Ex (w.heap.size + 1) w1 (w1.alloc litM).drew) := ((Ex.refl _ _).alloc _).drew
  have HXB : Hid (Ex (w.heap.size + 1) w1 w1.drew) := (Ex.refl _ _).drew
  have HLA : Hid (LitAt (w1.alloc litM).drew w1.heap.size) := fun i hi => by obtain ⟨y, hy⟩ := litM_at w1 i hi; exact ⟨y, by simpa using hy⟩
  unfold litM at HRA HXA HLA
  clear hb1 hb0 hr1
  go_wp2_with fail
  have fin : ∀ (W : World) (sv iv : Value) (ss : List St) (inp : List Int) (most : Int) (u : Value), DN (w.heap.size + 1) w1 W sv ss iv inp → ss.length ≤ 61 → (∀ s ∈ ss, s.next.length ≤ 61) → inp.length ≤ 9 → ∀ O : Option Obj, Q (.returned (.tuple #[.agg #[sv], iv, .int .i64 most])) (match O with | none => W.setCell ⟨w.heap.size, 0, none⟩ u | some o => (W.setCell ⟨w.heap.size, 0, none⟩ u).alloc o) := by
    intro W sv iv ss inp most u hD h1 h2 h3 O
    have hb : Below w.heap.size w (W.setCell ⟨w.heap.size, 0, none⟩ u) := (HB1.out.trans ((hD.ex.below (by omega)).mono (by omega))).setCell (Nat.le_refl _) _
    have hs : StepsN (W.setCell ⟨w.heap.size, 0, none⟩ u) sv ss := (hD.st.put (by show w.heap.size < w1.heap.size; omega) _).n
    have hi : IntsL (W.setCell ⟨w.heap.size, 0, none⟩ u) iv inp := ownsL (ownsRow_setCell_below hD.own (by show w.heap.size < w1.heap.size; omega) _)
    have hn := own_nice hD.own
    cases O with
    | none => exact HQ.out _ _ _ _ _ _ hs h1 h2 hi hn h3 hb
    | some o => exact HQ.out _ _ _ _ _ _ (hs.keep ((Below.refl _ _).alloc (Nat.le_refl _) _)) h1 h2 (hi.keep ((Below.refl _ _).alloc (Nat.le_refl _) _)) hn h3 (hb.alloc hb.size _)
  have FIN : Hid _ := fin
  clear fin HQ
  go_region_law (first
    | (go_simp; refine l71Any_any (w.heap.size + 1) 0 _ HRA.out (by omega) ?_; intro v2 ss p2 w2 hS hl hls hr2 hp2 hx2; have HD2 : Hid (DR (w.heap.size + 1) w1 w2 v2 ss) := ⟨hS.mono (by simp), HXA.out.trans hx2⟩; have HLa : Hid (LitAt w2 w1.heap.size) := HLA.out.ex hx2 (by omega); have HR2 : Hid (Rd w2 (w.heap.size + 1) p2) := hr2; have HLS : Hid (∀ s ∈ ss, s.next.length ≤ 61) := hls; have s2 := HD2.out.ex.size; have q2 := HD2.out.ex.cell q1 hne; have g2 := (HD2.out.ex.frozen (p := ⟨w.heap.size, 0, none⟩) (by show w.heap.size < w1.heap.size; omega) hne).trans f1; obtain ⟨A2, b2, o2, c2, hv2, hS2'⟩ := id hS; subst hv2; clear hS2' hS hls hr2 hx2)
    | (go_simp; refine l71Any_any (w.heap.size + 1) 0 _ HRB.out (by omega) ?_; intro v2 ss p2 w2 hS hl hls hr2 hp2 hx2; have HD2 : Hid (DR (w.heap.size + 1) w1 w2 v2 ss) := ⟨hS.mono (by simp), HXB.out.trans hx2⟩; have HR2 : Hid (Rd w2 (w.heap.size + 1) p2) := hr2; have HLS : Hid (∀ s ∈ ss, s.next.length ≤ 61) := hls; have s2 := HD2.out.ex.size; have q2 := HD2.out.ex.cell q1 hne; have g2 := (HD2.out.ex.frozen (p := ⟨w.heap.size, 0, none⟩) (by show w.heap.size < w1.heap.size; omega) hne).trans f1; obtain ⟨A2, b2, o2, c2, hv2, hS2'⟩ := id hS; subst hv2; clear hS2' hS hls hr2 hx2)
    | (go_simp; refine l71In_any (w.heap.size + 1) p2 _ HR2.out (by omega) ?_; intro v3 zs p3 w3 hO hzl hr3 hp3 hx3; have HD3 : Hid (DN (w.heap.size + 1) w1 w3 (.slice A2 ss.length c2) ss v3 zs) := ⟨HD2.out.st.ex hx3 (by omega), HD2.out.ex.trans hx3, own_lower hO (by first | omega | (simp; omega))⟩; have HLa3 : Hid (LitAt w3 w1.heap.size) := HLa.out.ex hx3 (by omega); have HR3 : Hid (Rd w3 (w.heap.size + 1) p3) := hr3; have s3 := HD3.out.ex.size; have q3 := HD3.out.ex.cell q1 hne; have g3 := (HD3.out.ex.frozen (p := ⟨w.heap.size, 0, none⟩) (by show w.heap.size < w1.heap.size; omega) hne).trans f1; clear hO hr3 hx3)
    | (go_simp; refine l71In_any (w.heap.size + 1) p2 _ (HR2.out.alloc (.cells #[.int .i64 0, .int .i64 1, .int .i64 10, .int .i64 60, .int .i64 120, .int .i64 600, .int .i64 601, .int .i64 (-1)] 3)) (by omega) ?_; intro v3 zs p3 w3 hO hzl hr3 hp3 hx3; have HD3 : Hid (DN (w.heap.size + 1) w1 w3 (.slice A2 ss.length c2) ss v3 zs) := ⟨HD2.out.st.ex (((Ex.refl _ _).alloc (.cells #[.int .i64 0, .int .i64 1, .int .i64 10, .int .i64 60, .int .i64 120, .int .i64 600, .int .i64 601, .int .i64 (-1)] 3)).trans hx3) (by omega), HD2.out.ex.trans (((Ex.refl _ _).alloc (.cells #[.int .i64 0, .int .i64 1, .int .i64 10, .int .i64 60, .int .i64 120, .int .i64 600, .int .i64 601, .int .i64 (-1)] 3)).trans hx3), own_lower hO (by first | omega | (simp; omega))⟩; have HLb3 : Hid (LitAt w3 w2.heap.size) := (LitAt.new w2).ex hx3 (by omega); have HR3 : Hid (Rd w3 (w.heap.size + 1) p3) := hr3; have s3 := HD3.out.ex.size; have q3 := HD3.out.ex.cell q1 hne; have g3 := (HD3.out.ex.frozen (p := ⟨w.heap.size, 0, none⟩) (by show w.heap.size < w1.heap.size; omega) hne).trans f1; clear hO hr3 hx3)
    | (go_simp; refine l71In_any (w.heap.size + 1) p2 _ HR2.out (by omega) ?_; intro v3 zs p3 w3 hO hzl hr3 hp3 hx3; have HD3 : Hid (DN (w.heap.size + 1) w1 w3 (.slice A2 ss.length c2) ss v3 zs) := ⟨HD2.out.st.ex hx3 (by omega), HD2.out.ex.trans hx3, own_lower hO (by first | omega | (simp; omega))⟩; have HR3 : Hid (Rd w3 (w.heap.size + 1) p3) := hr3; have s3 := HD3.out.ex.size; have q3 := HD3.out.ex.cell q1 hne; have g3 := (HD3.out.ex.frozen (p := ⟨w.heap.size, 0, none⟩) (by show w.heap.size < w1.heap.size; omega) hne).trans f1; clear hO hr3 hx3)
    | (go_simp; refine pick_any (w.heap.size + 1) p3 8 _ HR3.out (by omega) (by omega) ?_; intro z4 w4 hz4 hr4 hx4; have l4 : (z4 : Int) < 8 := hz4 (by omega); obtain ⟨y4, c4⟩ := (HLa3.out.ex hx4 (by omega)) z4 l4; have HD4 : Hid (DN (w.heap.size + 1) w1 w4 (.slice A2 ss.length c2) ss v3 zs) := HD3.out.go hx4 (by omega); have s4 := HD4.out.ex.size; have n4 : w.heap.size < w4.heap.size := (by omega); have n4' : w.heap.size ≠ w4.heap.size := (by omega); have q4 := HD4.out.ex.cell q1 hne; have g4 := (HD4.out.ex.frozen (p := ⟨w.heap.size, 0, none⟩) (by show w.heap.size < w1.heap.size; omega) hne).trans f1; clear hr4 hx4 hz4)
    | (go_simp; refine pick_any (w.heap.size + 1) p3 8 _ HR3.out (by omega) (by omega) ?_; intro z4 w4 hz4 hr4 hx4; have l4 : (z4 : Int) < 8 := hz4 (by omega); obtain ⟨y4, c4⟩ := (HLb3.out.ex hx4 (by omega)) z4 l4; have HD4 : Hid (DN (w.heap.size + 1) w1 w4 (.slice A2 ss.length c2) ss v3 zs) := HD3.out.go hx4 (by omega); have s4 := HD4.out.ex.size; have n4 : w.heap.size < w4.heap.size := (by omega); have n4' : w.heap.size ≠ w4.heap.size := (by omega); have q4 := HD4.out.ex.cell q1 hne; have g4 := (HD4.out.ex.frozen (p := ⟨w.heap.size, 0, none⟩) (by show w.heap.size < w1.heap.size; omega) hne).trans f1; clear hr4 hx4 hz4)
    | (go_simp; refine pick_any (w.heap.size + 1) p3 8 _ (HR3.out.alloc (.cells #[.int .i64 0, .int .i64 1, .int .i64 10, .int .i64 60, .int .i64 120, .int .i64 600, .int .i64 601, .int .i64 (-1)] 3)) (by omega) (by omega) ?_; intro z4 w4 hz4 hr4 hx4; have l4 : (z4 : Int) < 8 := hz4 (by omega); obtain ⟨y4, c4⟩ := ((LitAt.new w3).ex hx4 (by omega)) z4 l4; have HD4 : Hid (DN (w.heap.size + 1) w1 w4 (.slice A2 ss.length c2) ss v3 zs) := HD3.out.go (((Ex.refl _ _).alloc (.cells #[.int .i64 0, .int .i64 1, .int .i64 10, .int .i64 60, .int .i64 120, .int .i64 600, .int .i64 601, .int .i64 (-1)] 3)).trans hx4) (by omega); have s4 := HD4.out.ex.size; have n4 : w.heap.size < w4.heap.size := (by omega); have n4' : w.heap.size ≠ w4.heap.size := (by omega); have q4 := HD4.out.ex.cell q1 hne; have g4 := (HD4.out.ex.frozen (p := ⟨w.heap.size, 0, none⟩) (by show w.heap.size < w1.heap.size; omega) hne).trans f1; clear hr4 hx4 hz4)
    | (go_simp; refine pick_any (w.heap.size + 1) p3 8 _ HR3.out (by omega) (by omega) ?_; intro z4 w4 hz4 hr4 hx4; have l4 : (z4 : Int) < 8 := hz4 (by omega); obtain ⟨y4, c4, cl4⟩ := litM_both w4 z4 l4; unfold litM at c4; have HLATE : Hid True := trivial; have HD4 : Hid (DN (w.heap.size + 1) w1 w4 (.slice A2 ss.length c2) ss v3 zs) := HD3.out.go hx4 (by omega); have s4 := HD4.out.ex.size; have n4 : w.heap.size < w4.heap.size := (by omega); have n4' : w.heap.size ≠ w4.heap.size := (by omega); have q4 := HD4.out.ex.cell q1 hne; have g4 := (HD4.out.ex.frozen (p := ⟨w.heap.size, 0, none⟩) (by show w.heap.size < w1.heap.size; omega) hne).trans f1; clear hr4 hx4 hz4))
  all_goals
    clear q2 g2 q3 g3
    go_wp2
  all_goals
    refine bodyPost_ret (v := .tuple #[.agg #[.slice A2 ss.length c2], v3, .int .i64 y4]) (by simp [results, Tryd.results24, Act.put, go_sem, q4, n4]) rfl ?_
    first
    | exact FIN.out w4 _ _ _ _ _ _ HD4.out hl HLS.out hzl none
    | exact FIN.out w4 _ _ _ _ _ _ HD4.out hl HLS.out hzl (some (.cells #[.int .i64 0, .int .i64 1, .int .i64 10, .int .i64 60, .int .i64 120, .int .i64 600, .int .i64 601, .int .i64 (-1)] 3))
end Go.Proofs.YtnlcdecokpdkpaaDoor
