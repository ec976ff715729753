/- An argument of the laws' own type Place: opened, its size, what toPlace gives. -/
import Derived.Test.YtacgfbcfkjflmaaGreatAnsBeG
import Derived.Test.YtacgfbcfkjflmaaGreatOpen
import Derived.Deep.Grids
import Derived.Deep.QuietTactic
import Derived.BigQuiet
namespace Go.Proofs.YtacgfbcfkjflmaaGreat
open Go.RowKit Go.ChangeShapes Go.WideShapes Go.ChangeAt

theorem cellsBool : Tryz.prog.cellsOf 4 = 1 := by kernel_rfl
theorem cellsBools : Tryz.prog.cellsOf 44 = 1 := by kernel_rfl
theorem cellsPlace : Tryz.prog.cellsOf 46 = 2 := by kernel_rfl

section
variable {H : Type} {enc : TypeId × Value → H} {w : World} {base : Nat} {held : Bool}

theorem open_yesno {fuel : Nat} {cs : List Value} {x : DataW H × List MemPlace} (h : DataW.trod enc Tryz.prog w base (fun _ => true) held fuel 44 cs = some x) :
    ∃ nv bs, cs = [nv] ∧ BoolsAt w nv bs ∧ bs.length ≤ 9223372036854775807 := by
  rcases Deep.open_bools Tryz.underlying44 Tryz.underlying4 cellsBool h with ⟨hcs, _⟩ | ⟨a, len, cap, B, hcs, _, hl, hm, _, hcell⟩
  · exact ⟨_, [], hcs, ⟨none, 0, 0, 0, rfl, fun h => absurd h (by simp), fun i hi => absurd hi (by simp)⟩, by simp⟩
  · have hlen : ((List.range len).map B).length = len := by simp
    refine ⟨_, (List.range len).map B, hcs, ?_, by rw [hlen]; unfold maxLen at hm; omega⟩
    obtain ⟨b, o, spot⟩ := a
    refine ⟨some ⟨b, o, spot⟩, b, o, cap, by rw [hlen], fun hp => ?_, fun i hi => ?_⟩
    · have hspot : spot = none := by simpa [Addr.add] using World.cell?_spot (hcell 0 (by omega))
      rw [hspot]
    · rw [hlen] at hi
      have hspot : spot = none := by simpa [Addr.add] using World.cell?_spot (hcell 0 (by omega))
      subst hspot
      have := hcell i (by omega)
      rw [Go.WideShapes.add_plain] at this
      rw [this]
      simp [List.getD_eq_getElem?_getD, hi]

set_option maxRecDepth 100000 in
theorem open_place {v : Value} {d : DataW H} {p : List MemPlace} {b0 : Nat} (hv : Value.okWide Tryz.prog w .any b0 46 v) (h : DataW.Trod enc Tryz.prog w base (fun _ => true) held 46 v d p) :
    ∃ (x1 x2 : Value) (ps ts : List Bool), v = .agg #[x1, x2] ∧ BoolsAt w x1 ps ∧ BoolsAt w x2 ts ∧ ps.length ≤ 9223372036854775807 ∧ ts.length ≤ 9223372036854775807 := by
  obtain ⟨cs, rfl, hsz⟩ := okWide_struct Tryz.underlying46 hv
  rw [cellsPlace] at hsz
  obtain ⟨fuel, hf⟩ := h
  obtain ⟨xs, m, _, _, _, hxs, hff⟩ := DataW.trod_struct Tryz.underlying46 hf
  match cs, hsz with
  | ⟨[c0, c1]⟩, _ =>
    have h0 : DataW.trod enc Tryz.prog w base (fun _ => true) held m 44 (([c0, c1].drop 0).take (Tryz.prog.cellsOf 44)) = xs[0]? := hff 0 _ rfl
    have h1 : DataW.trod enc Tryz.prog w base (fun _ => true) held m 44 (([c0, c1].drop 1).take (Tryz.prog.cellsOf 44)) = xs[1]? := hff 1 _ rfl
    simp only [cellsBools, List.drop_zero, List.drop_succ_cons, List.take_succ_cons, List.take_zero] at h0 h1
    rw [List.getElem?_eq_getElem (by rw [hxs]; simp)] at h0 h1
    obtain ⟨u0, ps, e0, hp, hpl⟩ := open_yesno h0
    obtain ⟨u1, ts, e1, ht, htl⟩ := open_yesno h1
    simp at e0 e1
    exact ⟨u0, u1, ps, ts, by rw [e0, e1], hp, ht, hpl, htl⟩

set_option maxRecDepth 100000 in
theorem open_bits {r : Reach} {b0 : Nat} {v : Value} {d : DataW H} {p : List MemPlace} (hv : Value.okWide Tryz.prog w r b0 44 v) (h : DataW.Trod enc Tryz.prog w base (fun _ => true) held 44 v d p) :
    ∃ bs : List Bool, BoolsAt w v bs ∧ bs.length ≤ 9223372036854775807 := by
  obtain ⟨A, n, c, rfl⟩ := okWide_slice Tryz.underlying44 hv
  obtain ⟨fuel, hf⟩ := h
  obtain ⟨u, zs, e, hi, hl⟩ := open_yesno hf
  simp [Value.cells] at e
  subst e
  exact ⟨zs, hi, hl⟩
end

set_option maxHeartbeats 400000 in
theorem szBoolS_any {Q : Ending → World → Prop} (v : Value) (bs : List Bool) (left : Int) (w : World) (h : BoolsAt w v bs) (hl : bs.length ≤ 9223372036854775807) (h0 : 0 ≤ left) (h1 : left ≤ 1048576)
    (hQ : ∀ r : Int, r ≤ left → (0 ≤ r → bs.length ≤ left) → Q (.returned (.int .i64 r)) w) :
    Calls Tryz.prog 42 #[v, .int .i64 left] w Q := by
  obtain ⟨ao, b, o, cap, rfl, ha, hc⟩ := h
  clear ha hc
  have HQ : Hid _ := hQ
  clear hQ
  by_cases hlt : left < bs.length
  · have hneg : left - (bs.length : Int) < 0 := by omega
    go_enter Tryz.func42, Tryz.ntmps42
    go_wp2
    exact HQ.out (-1) (by omega) (by omega)
  · go_enter Tryz.func42, Tryz.ntmps42
    go_wp2
    exact HQ.out (left - bs.length) (by omega) (by omega)

set_option maxHeartbeats 1000000 in
theorem szPlace_any {Q : Ending → World → Prop} (x1 x2 : Value) (ps ts : List Bool) (left : Int) (w : World) (hp : BoolsAt w x1 ps) (ht : BoolsAt w x2 ts) (hpl : ps.length ≤ 9223372036854775807) (htl : ts.length ≤ 9223372036854775807) (h0 : 0 ≤ left) (h1 : left ≤ 1048576)
    (hQ : ∀ (r : Int) w', r ≤ left → (0 ≤ r → ps.length ≤ left ∧ ts.length ≤ left) → Below w.heap.size w w' → Q (.returned (.int .i64 r)) w') :
    Calls Tryz.prog 17 #[.agg #[x1, x2], .int .i64 left] w Q := by
  have HQ : Hid _ := hQ
  clear hQ
  obtain ⟨po, pb, pof, pcap, rfl, hpa, hpc⟩ := id hp
  obtain ⟨to, tb, tof, tcap, rfl, hta, htc⟩ := id ht
  have HP : Hid (BoolsAt w (.slice po ps.length pcap) ps) := hp
  have HT : Hid (BoolsAt w (.slice to ts.length tcap) ts) := ht
  clear hpa hpc hta htc hp ht
  have hb : ∀ O, Below w.heap.size w (w.alloc O) := fun O => (Below.refl _ _).alloc (Nat.le_refl _) O
  go_enter Tryz.func17, Tryz.ntmps17
  go_wp2_with fail
  refine szBoolS_any _ ps left _ (HP.out.keep (hb _)) hpl h0 h1 fun r hr hz => ?_
  have HZ : Hid _ := hz
  clear hz
  by_cases hneg : r < 0
  · go_wp2
    exact HQ.out (-1) _ (by omega) (by omega) (hb _)
  · go_wp2_with fail
    refine szBoolS_any _ ts r _ (HT.out.keep (hb _)) htl (by omega) (by omega) fun r2 hr2 hz2 => ?_
    have HZ2 : Hid _ := hz2
    clear hz2
    by_cases hneg2 : r2 < 0
    · go_wp2
      exact HQ.out (-1) _ (by omega) (by omega) (hb _)
    · have HF : Hid (0 ≤ r2 → ps.length ≤ left ∧ ts.length ≤ left) := fun h => by
        have a := HZ.out (by omega)
        have b := HZ2.out h
        omega
      go_wp2
      exact HQ.out r2 _ (by omega) HF.out (hb _)

theorem infoBoolA : (Tryz.prog.info? 4).map (fun i => (i.zero, i.size, i.bytes)) = some (some (.bool false), 1, 1) := by kernel_rfl

set_option maxHeartbeats 1000000 in
theorem toBoolS_any {Q : Ending → World → Prop} (v : Value) (bs : List Bool) (w : World) (h : BoolsAt w v bs) (hl : bs.length ≤ 1048576)
    (hQ : ∀ w', w'.rowIs w.heap.size 4 bs.length (fun j => .bool (bs.getD j false)) → Below w.heap.size w w' → Q (.returned (.slice (some ⟨w.heap.size, 0, none⟩) bs.length bs.length)) w') :
    Calls Tryz.prog 48 #[v] w Q := by
  have HQ : Hid _ := hQ
  clear hQ
  obtain ⟨ao, b, o, cap, rfl, ha, hc⟩ := id h
  have HA : Hid _ := ha
  have HC : Hid _ := hc
  clear ha hc h
  have hmk := run_make_row' (P := Tryz.prog) 44 4 (.bool false) 1 Tryz.underlying44 infoBoolA rfl .i64 .i64 bs.length (by omega) (by omega)
  go_enter Tryz.func48, Tryz.ntmps48
  go_wp2
  go_loopw [4] (fun i wr => ∃ k : Nat, k ≤ bs.length ∧ i = .int .i64 k ∧ Below w.heap.size w wr ∧ w.heap.size < wr.heap.size ∧ wr.rowIs w.heap.size 4 bs.length (fun j => if j < k then .bool (bs.getD j false) else .bool false)) (fun i _ => bs.length - (intOf i).toNat)
  case atStart => exact ⟨0, Nat.zero_le _, rfl, (Below.refl _ _).alloc (Nat.le_refl _) _, by simp, World.rowIs_made _ _ _ _⟩
  case round =>
    obtain ⟨k, hk, rfl, hb, hsz, hrow⟩ := hrel
    by_cases hkl : k < bs.length
    · obtain rfl := HA.out (by omega)
      have hcell := cell_keep hb (HC.out k hkl)
      have hfz := hrow.frozen k
      have hold := hrow.cell hkl
      have HB : Hid (Below w.heap.size w wr) := hb
      have HR : Hid (wr.rowIs w.heap.size 4 bs.length (fun j => if j < k then .bool (bs.getD j false) else .bool false)) := hrow
      have HN : Hid ((wr.setCell ⟨w.heap.size, k, none⟩ (.bool (bs.getD k false))).rowIs w.heap.size 4 bs.length (fun j => if j < k + 1 then .bool (bs.getD j false) else .bool false)) := (HR.out.set k _).congr fun i hi => by
        by_cases h1 : i = k
        · subst h1; simp
        · by_cases h2 : i < k
          · simp [h1, h2, show i < k + 1 by omega]
          · simp [h1, h2, show ¬ i < k + 1 by omega]
      clear hb hrow
      generalize bs.getD k false = y at *
      go_wp2
      go_roundw
      case rel =>
        exact ⟨k + 1, by omega, by go_num, HB.out.setCell (Nat.le_refl _) _, by simpa [World.setCell] using hsz, HN.out⟩
      case measure => simp [intOf]; omega
    · go_wp2
      obtain rfl : k = bs.length := by omega
      exact HQ.out _ (hrow.congr fun i hi => by rw [if_pos hi]) hb

theorem rowIs_bools {w : World} {b lo : Nat} {bs : List Bool} (h : w.rowIs b 4 bs.length (fun j => .bool (bs.getD j false))) (hb : lo ≤ b) (hl : bs.length ≤ 1048576) : BoolsOwn lo w.heap.size w (.slice (some ⟨b, 0, none⟩) bs.length bs.length) bs := by
  refine BoolsOwn.of ?_
  have h1 := rowIs_own h hb hl
  have e : (List.range bs.length).map (fun j => Value.bool (bs.getD j false)) = bs.map Value.bool := by
    apply List.ext_getElem?
    intro i
    by_cases hi : i < bs.length
    · simp [hi]
    · rw [List.getElem?_eq_none (by simp; omega), List.getElem?_eq_none (by simp; omega)]
  rw [e] at h1
  exact h1

set_option maxHeartbeats 1000000 in
theorem toPlace_any {Q : Ending → World → Prop} (x1 x2 : Value) (ps ts : List Bool) (w : World) (hp : BoolsAt w x1 ps) (ht : BoolsAt w x2 ts) (hpl : ps.length ≤ 1048576) (htl : ts.length ≤ 1048576)
    (hQ : ∀ v' w', PlaceO w.heap.size w'.heap.size w' v' ps ts → Below w.heap.size w w' → Q (.returned v') w') :
    Calls Tryz.prog 19 #[.agg #[x1, x2]] w Q := by
  have HQ : Hid _ := hQ
  clear hQ
  obtain ⟨po, pb, pof, pcap, rfl, hpa, hpc⟩ := id hp
  obtain ⟨to, tb, tof, tcap, rfl, hta, htc⟩ := id ht
  have HP : Hid (BoolsAt w (.slice po ps.length pcap) ps) := hp
  have HT : Hid (BoolsAt w (.slice to ts.length tcap) ts) := ht
  clear hpa hpc hta htc hp ht
  have hb0 : ∀ O O' O'', Below w.heap.size w (((w.alloc O).alloc O').alloc O'') := fun O O' O'' => (((Below.refl _ _).alloc (Nat.le_refl _) O).alloc (by simp) O').alloc (by simp; omega) O''
  go_enter Tryz.func19, Tryz.ntmps19
  go_wp2_with fail
  refine toBoolS_any _ ps _ (HP.out.keep (hb0 _ _ _)) hpl fun w1 hr1 hb1 => ?_
  have HB1 : Hid (Below w.heap.size w w1) := (hb0 _ _ _).trans (hb1.mono (by simp; omega))
  have a1 : w1.cell? ⟨w.heap.size, 1, none⟩ = some (.slice to ts.length tcap) := cell_keep hb1 (by simp [go_sem])
  have b0 : w1.cell? ⟨w.heap.size + 1, 0, none⟩ = some (.slice none 0 0) := cell_keep hb1 (by simp [go_sem])
  have b1 : w1.cell? ⟨w.heap.size + 1, 1, none⟩ = some (.slice none 0 0) := cell_keep hb1 (by simp [go_sem])
  have c0 : w1.cell? ⟨w.heap.size + 1 + 1, 0, none⟩ = some (.slice none 0 0) := cell_keep hb1 (by simp [go_sem])
  have c1 : w1.cell? ⟨w.heap.size + 1 + 1, 1, none⟩ = some (.slice none 0 0) := cell_keep hb1 (by simp [go_sem])
  have fb : ∀ j, w1.frozen? ⟨w.heap.size + 1, j, none⟩ = false := fun j => (hb1.frozen (by simp)).trans (by simp [go_sem])
  have fc : ∀ j, w1.frozen? ⟨w.heap.size + 1 + 1, j, none⟩ = false := fun j => (hb1.frozen (by simp)).trans (by simp [go_sem])
  simp only [World.size_alloc] at hr1 hb1
  have hs1 : w.heap.size + 1 + 1 < w1.heap.size := cell_lt c0
  have HR1 : Hid (w1.rowIs (w.heap.size + 1 + 1 + 1) 4 ps.length (fun j => .bool (ps.getD j false))) := hr1
  have hs1' : w.heap.size + 1 + 1 + 1 < w1.heap.size := hr1.lt
  have HBX : Hid (∀ u, Below w1.heap.size (w1.setCell ⟨w.heap.size + 1 + 1, 0, none⟩ u) (w1.setCell ⟨w.heap.size + 1 + 1, 0, none⟩ u)) := fun u => Below.refl _ _
  have HS1 : Hid (∀ u, Below w.heap.size w (w1.setCell ⟨w.heap.size + 1 + 1, 0, none⟩ u)) := fun u => HB1.out.setCell (by show w.heap.size ≤ w.heap.size + 1 + 1; omega) u
  clear hb1 hr1 hb0
  go_wp2_with fail
  refine toBoolS_any _ ts _ (HT.out.keep (HS1.out _)) htl fun w2 hr2 hb2 => ?_
  have e1 : (w1.setCell ⟨w.heap.size + 1 + 1, 0, none⟩ (.slice (some ⟨w.heap.size + 1 + 1 + 1, 0, none⟩) ps.length ps.length)).heap.size = w1.heap.size := by simp [World.setCell]
  rw [e1] at hr2 hb2
  have HB2 : Hid (Below w.heap.size w w2) := (HS1.out _).trans (hb2.mono (by omega))
  have hlt : w1.heap.size < w2.heap.size := hr2.lt
  have kp : ∀ (p : Addr) (u : Value), p.block < w1.heap.size → (w1.setCell ⟨w.heap.size + 1 + 1, 0, none⟩ (.slice (some ⟨w.heap.size + 1 + 1 + 1, 0, none⟩) ps.length ps.length)).cell? p = some u → w2.cell? p = some u := fun p u hp h => (hb2.cell hp).trans h
  have kf : ∀ (p : Addr), p.block < w1.heap.size → w1.frozen? p = false → w2.frozen? p = false := fun p hp h => (hb2.frozen (p := p) hp).trans (by simpa [go_sem] using h)
  have d0 : w2.cell? ⟨w.heap.size + 1 + 1, 0, none⟩ = some (.slice (some ⟨w.heap.size + 1 + 1 + 1, 0, none⟩) ps.length ps.length) := kp _ _ (by show w.heap.size + 1 + 1 < w1.heap.size; omega) (by simp [go_sem, c0])
  have d1 : w2.cell? ⟨w.heap.size + 1 + 1, 1, none⟩ = some (.slice none 0 0) := kp _ _ (by show w.heap.size + 1 + 1 < w1.heap.size; omega) (by simp [go_sem, c1])
  have g0 : w2.cell? ⟨w.heap.size + 1, 0, none⟩ = some (.slice none 0 0) := kp _ _ (by show w.heap.size + 1 < w1.heap.size; omega) (by simp [go_sem, b0])
  have g1 : w2.cell? ⟨w.heap.size + 1, 1, none⟩ = some (.slice none 0 0) := kp _ _ (by show w.heap.size + 1 < w1.heap.size; omega) (by simp [go_sem, b1])
  have ff : ∀ j, w2.frozen? ⟨w.heap.size + 1 + 1, j, none⟩ = false := fun j => kf _ (by show w.heap.size + 1 + 1 < w1.heap.size; omega) (fc j)
  have fg : ∀ j, w2.frozen? ⟨w.heap.size + 1, j, none⟩ = false := fun j => kf _ (by show w.heap.size + 1 < w1.heap.size; omega) (fb j)
  have HR2 : Hid (w2.rowIs (w.heap.size + 1 + 1 + 1) 4 ps.length (fun j => .bool (ps.getD j false))) := (HR1.out.setOther (a := ⟨w.heap.size + 1 + 1, 0, none⟩) (by simp) _).of_block (hb2.block _ (by omega))
  have HT2 : Hid (w2.rowIs w1.heap.size 4 ts.length (fun j => .bool (ts.getD j false))) := hr2
  have HO : Hid (∀ u0 u1 u2, Out (w.heap.size + 1) (w.heap.size + 1 + 1 + 1) w2 (((w2.setCell ⟨w.heap.size + 1 + 1, 1, none⟩ u0).setCell ⟨w.heap.size + 1, 0, none⟩ u1).setCell ⟨w.heap.size + 1, 1, none⟩ u2)) := fun u0 u1 u2 =>
    (((Out.refl _ _ _).setCell (p := ⟨w.heap.size + 1 + 1, 1, none⟩) (by show w.heap.size + 1 ≤ w.heap.size + 1 + 1; omega) (by show w.heap.size + 1 + 1 < w.heap.size + 1 + 1 + 1; omega) u0).setCell (p := ⟨w.heap.size + 1, 0, none⟩) (Nat.le_refl _) (by show w.heap.size + 1 < w.heap.size + 1 + 1 + 1; omega) u1).setCell (p := ⟨w.heap.size + 1, 1, none⟩) (Nat.le_refl _) (by show w.heap.size + 1 < w.heap.size + 1 + 1 + 1; omega) u2
  have HSZ : Hid (∀ u0 u1 u2, (((w2.setCell ⟨w.heap.size + 1 + 1, 1, none⟩ u0).setCell ⟨w.heap.size + 1, 0, none⟩ u1).setCell ⟨w.heap.size + 1, 1, none⟩ u2).heap.size = w2.heap.size) := fun u0 u1 u2 => by simp [World.setCell]
  have HB3 : Hid (∀ u0 u1 u2, Below w.heap.size w (((w2.setCell ⟨w.heap.size + 1 + 1, 1, none⟩ u0).setCell ⟨w.heap.size + 1, 0, none⟩ u1).setCell ⟨w.heap.size + 1, 1, none⟩ u2)) := fun u0 u1 u2 => HB2.out.trans ((HO.out u0 u1 u2).below (by omega) HB2.out.size)
  have HPO : Hid (∀ u0 u1 u2, PlaceO w.heap.size w2.heap.size (((w2.setCell ⟨w.heap.size + 1 + 1, 1, none⟩ u0).setCell ⟨w.heap.size + 1, 0, none⟩ u1).setCell ⟨w.heap.size + 1, 1, none⟩ u2) (.agg #[.slice (some ⟨w.heap.size + 1 + 1 + 1, 0, none⟩) ps.length ps.length, .slice (some ⟨w1.heap.size, 0, none⟩) ts.length ts.length]) ps ts) := fun u0 u1 u2 => by
    refine ⟨_, _, rfl, ?_, ?_, ?_⟩
    · exact ((rowIs_bools HR2.out (lo := w.heap.size + 1 + 1 + 1) (Nat.le_refl _) hpl).out (HO.out u0 u1 u2) (Or.inr (Nat.le_refl _))).lower (by omega)
    · exact ((rowIs_bools HT2.out (lo := w1.heap.size) (Nat.le_refl _) htl).out (HO.out u0 u1 u2) (Or.inr (by omega))).lower (by omega)
    · intro k hk h
      simp [Value.ownBlock] at hk h
      omega
  clear hb2 hr2 kp kf e1 a1 b0 b1 c0 c1 fb fc HBX HS1 HO HR2 HT2
  go_wp2
  refine bodyPost_ret (v := .agg #[.slice (some ⟨w.heap.size + 1 + 1 + 1, 0, none⟩) ps.length ps.length, .slice (some ⟨w1.heap.size, 0, none⟩) ts.length ts.length]) (by simp [results, Tryz.results19, go_sem, g0, g1]) rfl ?_
  refine HQ.out _ _ ?_ (HB3.out _ _ _)
  rw [HSZ.out]
  exact HPO.out _ _ _
end Go.Proofs.YtacgfbcfkjflmaaGreat
