/-
  For every code of bytes, of the program, the reckoning and the path that are drawn from it, SafeLate answers as the model does, and each place of the path that reckons it has a latest place at it or ahead, and nothing changes between, if the program is tidy, by what ExprComp and ExprKeeps tell: the law FnSafeServe answers true. The row lists one table of the library (laid), and the card ties it to the program's text: no other condition.
-/
import Derived.Test.YtmplkchdfloppaaGreatDoorCards
import Derived.Test.YtmplkchdfloppaaGreatDoorTie
import Derived.Test.YtmplkchdfloppaaGreatDoorDrawPBe
import Derived.Test.YtmplkchdfloppaaGreatDoorLkB
import Derived.Test.YtmplkchdfloppaaGreatDoorEachPG
import Derived.Test.YtmplkchdfloppaaGreatDoorSpecSSG
import Derived.Test.YtmplkchdfloppaaGreatDoorSpecPath
import Derived.Test.YtmplkchdfloppaaGreatDoorPathPG
import Derived.Test.YtmplkchdfloppaaGreatDoorSpecTidy
import Derived.Test.YtmplkchdfloppaaGreatDoorLkSv
import Derived.Test.YtmplkchdfloppaaGreatDoorSafeT
import Derived.OpenShut
import Derived.ShutString
import Derived.ChangeOld
import Derived.Below
import Derived.Deep.DeepHandedRow
import Derived.Lib.LaidTab
import Derived.BigQuiet
namespace Go.Proofs.YtmplkchdfloppaaGreatDoor
open Go.ChangeShapes Go.WideShapes Go.ChangeAt Go.RowKit

theorem own : ownKnob Tryz.prog.godebug = none := by kernel_rfl
theorem laidOut : laidOutB Tryz.prog = true := by kernel_rfl

theorem SafeOr.yes {P : List St → E5 → List Bool → (Nat → Bool) → Prop} {ss : List St} {e : E5} {bs : List Bool} (h : SafeOr P ss e bs) (hp : 0 < bs.length) : okB ss = true ∧ exprB e = true ∧ ∃ rs f, IsReach ss rs ∧ P ss e rs f ∧ bs = (List.range ss.length).map f := by
  rcases h with h | ⟨_, rfl⟩
  · exact h
  · simp at hp

theorem SafeOr.same {P : List St → E5 → List Bool → (Nat → Bool) → Prop} {ss : List St} {e : E5} {bs rs : List Bool} (h : SafeOr P ss e bs) (hok : okB ss = true) (hex : exprB e = true) (hre : IsReach ss rs) : ∃ f, P ss e rs f ∧ bs = (List.range ss.length).map f := by
  rcases h with ⟨_, _, rs', f, h1, h2, h3⟩ | ⟨h1, _⟩
  · obtain rfl := h1.unique hre
    exact ⟨f, h2, h3⟩
  · exact absurd ⟨hok, hex⟩ h1

theorem Gr.fixL {n : Nat} {r : Nat → Bool} {F : (Nat → Bool) → Nat → Bool} {g : Nat → Bool} (h : Gr n r F g) (hm : Mono n F) {i : Nat} (hi : i < n) (hr : r i = true) (hf : F g i = true) : g i = true :=
  h.top (fun j => g j || decide (j = i)) (fun j hj hh => by
    simp only [Bool.or_eq_true, decide_eq_true_eq] at hh
    have hle : ∀ k, k < n → g k = true → (g k || decide (k = i)) = true := fun k _ hk => by rw [hk]; rfl
    rcases hh with hh | rfl
    · exact ⟨(h.fit j hj hh).1, hm g _ hle j hj (h.fit j hj hh).2⟩
    · exact ⟨hr, hm g _ hle j hj hf⟩) i hi (by simp)

/-- A place where it will be reckoned, or was, has an earliest place at it or ahead, and nothing changes between. -/
theorem IsEarly.served {ss : List St} {e : E5} {rs : List Bool} {a d u : Nat → Bool} (hok : okB ss = true) (hr : IsReach ss rs) (hd : IsDown ss e rs d) (hu : IsUp ss e rs u) (ha : ∀ i, i < ss.length → a i = earlyB (kF e ss) d u (pF ss rs) i) {zs : List Int} (hp : IsPath ss zs) :
    ∀ {k : Nat}, k < zs.length → (d (onP zs k) = true ∨ u (onP zs k) = true) → ∃ j, j ≤ k ∧ a (onP zs j) = true ∧ ∀ t, j ≤ t → t < k → kF e ss (onP zs t) = true := by
  intro k
  induction k with
  | zero =>
    intro hk hdu
    cases hn : a (onP zs 0)
    · obtain ⟨m, h, _⟩ := IsEarly.on hok hr hd hu ha hp hk hdu hn
      omega
    · exact ⟨0, Nat.le_refl _, hn, fun t _ h => absurd h (by omega)⟩
  | succ k ih =>
    intro hk hdu
    cases hn : a (onP zs (k + 1))
    · obtain ⟨m, h, h1, h2⟩ := IsEarly.on hok hr hd hu ha hp hk hdu hn
      obtain rfl : k = m := by omega
      obtain ⟨j, k1, k2, k3⟩ := ih (by omega) h2
      refine ⟨j, by omega, k2, fun t ht1 ht2 => ?_⟩
      by_cases et : t = k
      · subst et; exact h1
      · exact k3 t ht1 (by omega)
    · exact ⟨k + 1, Nat.le_refl _, hn, fun t h1 h2 => absurd h2 (by omega)⟩

theorem delayF_up {n : Nat} {c ea : Nat → Bool} {P : Nat → List Int} (hl : Low n P) : Mono n (delayF c ea P) := delayF_mono hl

/-- What is said of a place while one goes back from one that reckons it: no latest place was met, and ahead is an earliest place, with nothing that changes between. -/
def Back (e : E5) (ss : List St) (a la : Nat → Bool) (zs : List Int) (k : Nat) : Prop := ∃ i j, k ≤ i ∧ i < zs.length ∧ cF e ss (onP zs i) = true ∧ (∀ t, k < t → t ≤ i → la (onP zs t) = false) ∧ j ≤ k ∧ a (onP zs j) = true ∧ ∀ t, j ≤ t → t < i → kF e ss (onP zs t) = true

theorem IsLate.back {ss : List St} {e : E5} {rs : List Bool} {l ea la : Nat → Bool} (hok : okB ss = true) (hr : IsReach ss rs) (hg : Gr ss.length (rF rs) (delayF (cF e ss) ea (pF ss rs)) l) (hla : ∀ i, i < ss.length → la i = lateB (cF e ss) l (nextOf ss) i) {zs : List Int} (hp : IsPath ss zs)
    {k : Nat} (_hk : k < zs.length) (h : Back e ss ea la zs k) (hn : la (onP zs k) = false) : ∃ m, k = m + 1 ∧ kF e ss (onP zs m) = true ∧ Back e ss ea la zs m := by
  obtain ⟨i, j, h1, h2, h3, h4, h5, h6, h7⟩ := h
  have hno : ∀ t, k ≤ t → t ≤ i → la (onP zs t) = false := fun t a b => by
    by_cases et : t = k
    · subst et; exact hn
    · exact h4 t (by omega) b
  have hrr : ∀ t, t < zs.length → rF rs (onP zs t) = true := fun t ht => by
    have h3 := (hr.2 _ (hp.at hok ht).2).2 (hp.reach hok hr ht)
    unfold rF
    rw [List.getD_eq_getElem?_getD, h3]
    rfl
  by_cases ejk : j = k
  · exfalso
    subst ejk
    have key : ∀ s, j + s ≤ i → l (onP zs (j + s)) = true := by
      intro s
      induction s with
      | zero =>
        intro _
        refine hg.fixL (delayF_up (low_preds ss rs)) (hp.at hok (show j + 0 < zs.length by omega)).2 (hrr _ (by omega)) ?_
        unfold delayF
        rw [Nat.add_zero, h6]
        rfl
      | succ s ih =>
        intro hs
        have i1 := ih (by omega)
        have i2 := hno (j + s) (by omega) (by omega)
        rw [hla _ (hp.at hok (show j + s < zs.length by omega)).2] at i2
        unfold lateB at i2
        rw [i1, Bool.true_and, Bool.or_eq_false_iff] at i2
        have i3 : allI (nextOf ss (onP zs (j + s))) l = true := by simpa using i2.2
        unfold allI at i3
        rw [List.all_eq_true] at i3
        have i4 := i3 _ (hp.step hok (show j + s + 1 < zs.length by omega))
        rw [Int.toNat_natCast] at i4
        exact i4
    have k1 := key (i - j) (by omega)
    rw [show j + (i - j) = i by omega] at k1
    have k2 := hno i h1 (Nat.le_refl _)
    rw [hla _ (hp.at hok h2).2] at k2
    unfold lateB at k2
    rw [k1, h3] at k2
    simp at k2
  · obtain ⟨m, rfl⟩ : ∃ m, k = m + 1 := ⟨k - 1, by omega⟩
    exact ⟨m, rfl, h7 m (by omega) (by omega), i, j, by omega, h2, h3, fun t a b => hno t (by omega) b, by omega, h6, h7⟩

set_option maxRecDepth 100000 in
set_option maxHeartbeats 8000000 in
theorem law_walk (v : Value) (w : World) (h : CodeAt w v) (hT : ∀ W, Below w.heap.size w W → Tab W ∧ 0 < W.heap.size) {Q : Ending → World → Prop} (hQ : ∀ w', Below w.heap.size w w' → Q (.returned (.bool true)) w') :
    Calls Tryz.prog 6 #[v] w Q := by
  have HQ : Hid (∀ w', Below w.heap.size w w' → Q (.returned (.bool true)) w') := hQ
  have HTK : Hid (∀ W, Below w.heap.size w W → Tab W ∧ 0 < W.heap.size) := hT
  clear hQ hT
  have HC : Hid _ := h
  obtain ⟨ao, bb, bo, bl, cap, rfl, h1, h2, h3, h4, h5⟩ := h
  clear h3 h4 h5
  by_cases hbl : 1048576 < bl
  · go_enter Tryz.func6, Tryz.ntmps6
    go_wp2
    exact HQ.out _ (Below.refl _ _)
  go_enter Tryz.func6, Tryz.ntmps6
  go_wp2_with fail
  refine drawPathBest_any _ _ HC.out fun v1 yv ss e zs w1 hS1 hl hls hz1 hzl hb1 => ?_
  clear HC
  obtain ⟨A1, b1, o1, c1, rfl, hA1, hC1⟩ := id hS1
  obtain ⟨yo, yb, yof, ycap, rfl, _, hya, hyc⟩ := id hz1
  have HS1 : Hid (StepsAt w1 (.slice A1 ss.length c1) ss) := hS1.at
  have HLS : Hid (∀ s ∈ ss, s.next.length ≤ 1048576) := fun s hs => Nat.le_trans (hls s hs) (by decide)
  have HZ1 : Hid (IntsC w1 (.slice yo zs.length ycap) zs) := hz1
  have HB1 : Hid (Below w.heap.size w w1) := hb1
  have HYA : Hid _ := hya
  have HYC : Hid _ := hyc
  clear hA1 hC1 hS1 hls hb1 hz1 hya hyc
  go_wp2_with fail
  have hb0 : Below w1.heap.size w1 ((w1.alloc (.cells #[.slice A1 ss.length c1] 25)).alloc (.cells #[.int .i64 e.op, .int .i64 e.av, .int .i64 e.an, .int .i64 e.bv, .int .i64 e.bn] 29)) := ((Below.refl _ _).alloc (Nat.le_refl _) _).alloc (by simp) _
  have hbx := BoxE.new w1 A1 ss.length c1 e 25 29
  generalize hW2 : (w1.alloc (.cells #[.slice A1 ss.length c1] 25)).alloc (.cells #[.int .i64 e.op, .int .i64 e.av, .int .i64 e.an, .int .i64 e.bv, .int .i64 e.bn] 29) = W2 at *
  clear hW2
  refine specSafeLate_any _ ss e _ (HS1.out.keep hb0) (by omega) HLS.out fun v2 rs w2 hb2 hrs hown2 => ?_
  have HB12 : Hid (Below w1.heap.size w1 w2) := hb0.trans (hb2.mono hb0.size)
  have HX2 : Hid (BoxE w2 w1.heap.size A1 ss.length c1 e) := hbx.keep hb2
  have HRS : Hid (SafeOr IsLate ss e rs) := hrs
  obtain ⟨A2, c2, hv2⟩ := (BoolsOwn.of hown2).slice
  subst hv2
  have HO2 : Hid (BoolsOwn W2.heap.size w2.heap.size w2 (.slice A2 rs.length c2) rs) := BoolsOwn.of hown2
  have HBW2 : Hid (Below w.heap.size w w2) := HB1.out.trans (HB12.out.mono HB1.out.size)
  have hrl : rs.length ≤ 1048576 := hrs.bound (by omega)
  have p2 := HX2.out.p
  have x20 := HX2.out.c0
  have x21 := HX2.out.c1
  have x22 := HX2.out.c2
  have x23 := HX2.out.c3
  have x24 := HX2.out.c4
  clear hb2 hrs hown2 hb0 hbx
  go_wp2_with fail
  refine implSafeLate_any _ ss e _ (HS1.out.keep HB12.out) (by omega) HLS.out fun v3 rs3 w3 hb3 hrs3 hown3 => ?_
  obtain rfl : rs3 = rs := SafeOr.uniqueK IsLate.unique hrs3 HRS.out
  have HB13 : Hid (Below w1.heap.size w1 w3) := HB12.out.trans (hb3.mono HB12.out.size)
  have HX3 : Hid (BoxE w3 w1.heap.size A1 ss.length c1 e) := HX2.out.keep hb3
  obtain ⟨A3, c3, hv3⟩ := (BoolsOwn.of hown3).slice
  subst hv3
  have HO3 : Hid (BoolsOwn w2.heap.size w3.heap.size w3 (.slice A3 rs3.length c3) rs3) := BoolsOwn.of hown3
  have HO23 : Hid (BoolsOwn W2.heap.size w2.heap.size w3 (.slice A2 rs3.length c2) rs3) := HO2.out.keep hb3
  have p3 := HX3.out.p
  have x30 := HX3.out.c0
  have x31 := HX3.out.c1
  have x32 := HX3.out.c2
  have x33 := HX3.out.c3
  have x34 := HX3.out.c4
  clear hb3 hrs3 hown3 p2 x20 x21 x22 x23 x24 HX2 HO2 HB12 HBW2
  go_wp2_with fail
  refine lkBools_any _ _ rs3 _ _ _ _ _ HO3.out HO23.out (by omega) fun w4 hb4 => ?_
  have HB14 : Hid (Below w1.heap.size w1 w4) := HB13.out.trans (hb4.mono HB13.out.size)
  have HX4 : Hid (BoxE w4 w1.heap.size A1 ss.length c1 e) := HX3.out.keep hb4
  have HO34 : Hid (BoolsOwn w2.heap.size w3.heap.size w4 (.slice A3 rs3.length c3) rs3) := HO3.out.keep hb4
  have HO24 : Hid (BoolsOwn W2.heap.size w2.heap.size w4 (.slice A2 rs3.length c2) rs3) := HO23.out.keep hb4
  have HBW4 : Hid (Below w.heap.size w w4) := HB1.out.trans (HB14.out.mono HB1.out.size)
  have p4 := HX4.out.p
  have x40 := HX4.out.c0
  have x41 := HX4.out.c1
  have x42 := HX4.out.c2
  have x43 := HX4.out.c3
  have x44 := HX4.out.c4
  clear hb4 HX3 HO3 HO23 HB13 p3 x30 x31 x32 x33 x34
  rcases Nat.eq_zero_or_pos rs3.length with hz | hpos
  · obtain rfl : rs3 = [] := List.eq_nil_of_length_eq_zero hz
    go_wp2_with fail
    refine lkBools_any _ _ [] _ _ _ _ _ HO34.out HO24.out (by omega) fun w5 hb5 => ?_
    have HF : Hid (Below w.heap.size w w5) := HBW4.out.trans (hb5.mono HBW4.out.size)
    clear hb5
    go_wp2
    exact HQ.out _ HF.out
  have hpi : ¬ (rs3.length : Int) = 0 := by omega
  have hpi2 : ((rs3.length : Int) == 0) = false := beq_eq_false_iff_ne.2 hpi
  obtain ⟨hok, he, rr, E, hre, hE, hEe⟩ := HRS.out.yes hpos
  have hlen : rs3.length = ss.length := by rw [hEe]; simp
  have HRE : Hid (IsReach ss rr) := hre
  have HOK : Hid (okB ss = true) := hok
  have HEX : Hid (exprB e = true) := he
  clear hok he hre
  have hsp : ¬ (ss.length : Int) = 0 := by omega
  have hsp2 : ((ss.length : Int) == 0) = false := beq_eq_false_iff_ne.2 hsp
  have hsn : ¬ ss.length = 0 := by omega
  have HU4 : Hid (BoolsOwn w2.heap.size w3.heap.size w4 (.slice A3 rs3.length c3) rs3) := HO34.out
  have HV4 : Hid (BoolsOwn W2.heap.size w2.heap.size w4 (.slice A2 rs3.length c2) rs3) := HO24.out
  clear HO34 HO24
  go_wp2_with fail
  refine specPathOk_any _ _ ss zs _ (HS1.out.keep HB14.out) (by omega) HLS.out (HZ1.out.keep HB14.out).at (by omega) fun ok5 w5 hb5 hq5 => ?_
  have HB15 : Hid (Below w1.heap.size w1 w5) := HB14.out.trans (hb5.mono HB14.out.size)
  have HX5 : Hid (BoxE w5 w1.heap.size A1 ss.length c1 e) := HX4.out.keep hb5
  have HU5 : Hid (BoolsOwn w2.heap.size w3.heap.size w5 (.slice A3 rs3.length c3) rs3) := HU4.out.keep hb5
  have HV5 : Hid (BoolsOwn W2.heap.size w2.heap.size w5 (.slice A2 rs3.length c2) rs3) := HV4.out.keep hb5
  have HBW5 : Hid (Below w.heap.size w w5) := HB1.out.trans (HB15.out.mono HB1.out.size)
  have p5 := HX5.out.p
  have x50 := HX5.out.c0
  have x51 := HX5.out.c1
  have x52 := HX5.out.c2
  have x53 := HX5.out.c3
  have x54 := HX5.out.c4
  cases ok5
  · clear hb5 hq5 HX4 p4 x40 x41 x42 x43 x44 HU4 HV4
    go_wp2_with fail
    refine lkBools_any _ _ rs3 _ _ _ _ _ (by rw [← hlen]; exact HU5.out) (by rw [← hlen]; exact HV5.out) (by omega) fun w9 hb9 => ?_
    have HF : Hid (Below w.heap.size w w9) := HBW5.out.trans (hb9.mono HBW5.out.size)
    clear hb9
    go_wp2
    exact HQ.out _ HF.out
  have HIP : Hid (IsPath ss zs) := (hq5.1 rfl).2
  clear hb5 hq5 HX4 p4 x40 x41 x42 x43 x44 HU4 HV4 HBW4
  go_wp2_with fail
  refine specIsTidy_any _ ss _ (HS1.out.keep HB15.out) (by omega) HLS.out fun ok6 w6 hb6 hq6 => ?_
  have HB16 : Hid (Below w1.heap.size w1 w6) := HB15.out.trans (hb6.mono HB15.out.size)
  have HX6 : Hid (BoxE w6 w1.heap.size A1 ss.length c1 e) := HX5.out.keep hb6
  have HU6 : Hid (BoolsOwn w2.heap.size w3.heap.size w6 (.slice A3 rs3.length c3) rs3) := HU5.out.keep hb6
  have HV6 : Hid (BoolsOwn W2.heap.size w2.heap.size w6 (.slice A2 rs3.length c2) rs3) := HV5.out.keep hb6
  have HBW6 : Hid (Below w.heap.size w w6) := HB1.out.trans (HB16.out.mono HB1.out.size)
  have p6 := HX6.out.p
  have x60 := HX6.out.c0
  have x61 := HX6.out.c1
  have x62 := HX6.out.c2
  have x63 := HX6.out.c3
  have x64 := HX6.out.c4
  cases ok6
  · clear hb6 hq6 HX5 p5 x50 x51 x52 x53 x54 HU5 HV5
    go_wp2_with fail
    refine lkBools_any _ _ rs3 _ _ _ _ _ (by rw [← hlen]; exact HU6.out) (by rw [← hlen]; exact HV6.out) (by omega) fun w9 hb9 => ?_
    have HF : Hid (Below w.heap.size w w9) := HBW6.out.trans (hb9.mono HBW6.out.size)
    clear hb9
    go_wp2
    exact HQ.out _ HF.out
  have HTD : Hid (Tidy ss) := (hq6.1 rfl).2
  clear hb6 hq6 HX5 p5 x50 x51 x52 x53 x54 HU5 HV5 HBW5
  obtain ⟨ao_rs3, g_rs3, cap_rs3, hv_rs3, hrow_rs3⟩ := HU6.out.read
  cases hv_rs3
  obtain rfl := (hrow_rs3 0 (by omega)).1
  have hget : ∀ (f : Nat → Bool) (bs : List Bool), bs = (List.range ss.length).map f → ∀ i, i < ss.length → bs.getD i false = f i := fun f bs h i hi => by
    rw [h, List.getD_eq_getElem?_getD, List.getElem?_map, List.getElem?_range hi]
    rfl
  have HEA : Hid (IsLate ss e rr E) := hE
  have HFC : Hid (∀ i, i < ss.length → w6.cell? ⟨g_rs3, i, none⟩ = some (.bool (E i))) := fun i hi => by
    have h3 := (hrow_rs3 i (by omega)).2.1
    rw [hget E _ hEe i hi] at h3
    exact h3
  have HTK6 : Hid (∀ W, Below w6.heap.size w6 W → Tab W ∧ 0 < W.heap.size) := fun W hW => HTK.out W (HB1.out.trans ((HB16.out.trans (hW.mono HB16.out.size)).mono HB1.out.size))
  obtain ⟨hz0, _⟩ := HIP.out.first
  clear hget hrow_rs3 hE hEe
  go_wp2_with fail
  obtain ⟨l, ⟨ea, ⟨D, U, hD, hU, hDU⟩, hG⟩, hLA⟩ := HEA.out
  refine lkServed_any A1 c1 ss e _ ycap zs g_rs3 _ _ E (Back e ss ea E zs) _ (HS1.out.keep HB16.out) HTK6.out (by omega) HLS.out HOK.out HEX.out HIP.out (HZ1.out.keep HB16.out).at (by omega) (by first | rfl | exact hlen) HFC.out (fun k hk hc => by
    obtain ⟨j, j1, j2, j3⟩ := IsEarly.served HOK.out HRE.out hD hU hDU HIP.out hk (Or.inl (IsDown.of_comp HOK.out HRE.out hD HIP.out hk hc))
    exact ⟨k, j, Nat.le_refl _, hk, hc, fun t a b => absurd a (by omega), j1, j2, j3⟩) (fun k hk hp hf => IsLate.back HOK.out HRE.out hG hLA HIP.out hk hp hf) fun w7 hb7 => ?_
  have HF : Hid (Below w.heap.size w w7) := HBW6.out.trans (hb7.mono HBW6.out.size)
  clear hb7
  go_wp2
  exact HQ.out _ HF.out

theorem gTab : Tryz.prog.globalNamed "math/bits.deBruijn64tab" = some 0 := by kernel_rfl
theorem gTabType : (Tryz.prog.globals[0]?).map (·.type) = some 144 := by kernel_rfl

theorem tab_of_laid {W : World} (h : laidMetH Tryz.prog Rows.fnSafeServeRow.laid W) : Tab W := by
  have h1 := laidMetH.filter (fun x => x.1 == "math/bits.deBruijn64tab") h
  have h2 : Lib.TabIs Tryz.prog W "math/bits.deBruijn64tab" .u8 (Lib.deBruijn64tab.map Int.ofNat) := Lib.tabIs_of_head (rest := []) gTab gTabType Tryz.underlying144 Tryz.underlying5 (by kernel_rfl) (by kernel_rfl) h1
  intro j hj
  have h3 := h2.cell gTab j (by simpa using hj)
  rw [h3]
  simp only [List.getD, List.getElem?_map]
  cases Lib.deBruijn64tab[j]? <;> rfl

theorem Tab.lt {W : World} (h : Tab W) : 0 < W.heap.size := cell_lt (h 0 (by decide))

/-- The numbers of a table, as cells. -/
def tableCells : DataW Unit → Array Value
  | .agg l => (l.map fun | .lit (.int k n) => Value.int k n | _ => Value.int .i64 0).toArray
  | _ => #[]

/-- A world whose first blocks hold the library's tables. -/
def withTables (W : World) : World :=
  { W with heap := W.heap.modify 0 fun
      | .cells _ t frozen => .cells (tableCells Rows.laid_math_bits_deBruijn64tab) t frozen
      | o => o }

theorem laid_met (os : Os) : laidMet Tryz.prog Rows.fnSafeServeRow.laid ((withTables (World.holding Tryz.prog os ⟨#[], #[], []⟩)).forCall (fun _ _ => 0) ⟨#[], #[.slice none 0 0], []⟩).memory :=
  laidMet_of_run' 8 (by kernel_rfl) (by kernel_rfl)
theorem reads (os : Os) {H : Type} (enc : TypeId × Value → H) : ∃ places, DataW.whole enc Tryz.prog ((withTables (World.holding Tryz.prog os ⟨#[], #[], []⟩)).forCall (fun _ _ => 0) ⟨#[], #[.slice none 0 0], []⟩).memory Tryz.f6.params.toList Rows.fnSafeServeSpec.vars false #[Value.slice none 0 0].toList 8 = some ([.nil], [], places) :=
  ⟨[], by kernel_rfl⟩

set_option maxRecDepth 100000 in
theorem contract (H : Type) (enc : TypeId × Value → H) (W : World) (base : Nat) (args : Array Value) (ds gs : List (DataW H)) (before : List MemPlace)
    (hval : ∀ (j : Nat) t v, Tryz.f6.params[j]? = some t → args[j]? = some v → Value.okWide Tryz.prog W .any base t v)
    (hW : DataW.Whole enc Tryz.prog Tryz.f6.params.toList Rows.fnSafeServeSpec.vars false W args.toList ds gs before) (hL : laidMetH Tryz.prog Rows.fnSafeServeRow.laid W) :
    Calls Tryz.prog 6 args W fun e W' => ∃ v, e = .returned v ∧ Rows.fnSafeServeSpec.post enc Tryz.prog Tryz.f6 false true false false W args v W' := by
  have hW' := hW
  obtain ⟨p, q, hA0, hV, rfl, hfz, hnd⟩ := hW
  have hA : DataW.TrodAll enc Tryz.prog W 0 (fun _ => true) true Tryz.f6.params.toList args.toList ds p := hA0
  rw [Tryz.params6] at hA hval
  obtain ⟨v0, vs0, d0, ds0, p0, q0, hargs, rfl, rfl, h0, r0⟩ := trodAll_cons hA
  obtain ⟨rfl, rfl, rfl⟩ := trodAll_nil r0
  obtain rfl : args = #[v0] := by cases args; simp_all
  obtain ⟨rfl, rfl⟩ := trodVars_none hV
  have k0 := h0
  have lt0 : ∀ x ∈ p0, x.block < W.heap.size := by obtain ⟨m, hm⟩ := k0; exact DataW.trod_lt m _ _ _ hm
  have c0 := open_code (hval 0 22 v0 rfl rfl) h0
  clear hA0
  refine law_walk v0 W c0 (fun X hX => ⟨(tab_of_laid hL).keep hX, Nat.lt_of_lt_of_le (Tab.lt (tab_of_laid hL)) hX.size⟩) fun W' bel => ?_
  exact ⟨_, rfl, _, _, _, [], _, [], hW', trodAll_mk1 (shut_bool Tryz.underlying4 _), (trodAll_cons_mk (Below.trod laidOut (by kernel_rfl) (of_decide_eq_true (by kernel_rfl)) k0 bel lt0) trodAll_mk0), rfl, bel.frame _, fun h => by cases h⟩

set_option maxRecDepth 100000 in
theorem lifted (os : Os) (started : os.Started) (H : Type) (enc : TypeId × Value → H) (F : Stop.Interp) :
    ReturnsInHanded {} Tryz.checked os 6 .any ((OpenSpec.ofChange Rows.fnSafeServeSpec).preRow enc Tryz.prog Tryz.f6 Rows.fnSafeServeRow.domain false Rows.fnSafeServeRow.laid) (((OpenSpec.ofChange Rows.fnSafeServeSpec).at F).post enc Tryz.prog Tryz.f6 false true false false) := by
  obtain ⟨places, hx⟩ := reads os enc
  refine returnsInHanded_of_row (C := Tryz.checked) (s := OpenSpec.ofChange Rows.fnSafeServeSpec) own started (by kernel_rfl) Tryz.func6
    (witness_row_at (enc := enc) (C := Tryz.checked) false (withTables (World.holding Tryz.prog os ⟨#[], #[], []⟩)) #[.slice none 0 0] rfl (by kernel_rfl) (by kernel_rfl) (by kernel_rfl)
      (OpenSpec.preRow_of_cond 8 hx (by kernel_rfl) (fun k hk => by cases hk) (by kernel_rfl) (laid_met os))) ?_
  intro W base args ds gs before hval hW _ _ _ hL _ _
  exact contract H enc W base args ds gs before hval hW hL

theorem said : Rows.FnSafeServeSaid :=
  OpenClaim.holds_of_cond 6 Tryz.f6 rfl rfl rfl rfl rfl rfl rfl ⟨rfl, rfl, rfl, rfl, rfl⟩ rfl rfl rfl rfl rfl (by kernel_rfl) Tryz.func6 (by kernel_rfl)
    (of_decide_eq_true (by kernel_rfl)) (by unfold Func.isWrapper; first | (rw [if_pos (by decide +kernel)]; kernel_rfl) | (rw [if_neg (by decide +kernel)]; exact ⟨rfl, rfl⟩))
    (fun os started H enc _ F => by rw [OpenClaim.pre_eq_preRow]; exact lifted os started H enc F)

theorem plain (f : FuncId) (fn : Func) (hf : Tryz.pinned.checked.prog.funcNamed Rows.fnSafeServeRow.func = some f) (hfn : Tryz.pinned.checked.prog.funcs[f]? = some fn) :
    false = Tryz.pinned.checked.prog.looks [] ∧ ∀ (j : Nat) t, fn.params[j]? = some t → Tryz.pinned.checked.prog.wantsStandIn t = false := by
  obtain rfl : f = 6 := Option.some.inj ((show Tryz.prog.funcNamed Rows.fnSafeServeRow.func = some 6 by kernel_rfl).symm.trans hf) |>.symm
  obtain rfl : fn = Tryz.f6 := (Option.some.inj (Tryz.func6.symm.trans hfn)).symm
  refine ⟨by kernel_rfl, fun j t ht => ?_⟩
  rw [Tryz.params6] at ht
  obtain rfl : t = 22 := by simpa using Array.mem_of_getElem? ht
  exact (show Tryz.prog.wantsStandIn 22 = false by kernel_rfl)

theorem fnSafeServe_card : Rows.FnSafeServeCardSaid :=
  Claim7.holds_tied_plain_at .later [] _ _ _ _ said (fun _ h => by cases h) (by kernel_rfl) (fun _ h => by cases h) fnSafeServe_row_tie rfl ⟨rfl, rfl⟩ (by kernel_rfl) rfl plain (by kernel_rfl)
#print axioms fnSafeServe_card
end Go.Proofs.YtmplkchdfloppaaGreatDoor
