/- What varWord, opndWord and wordsOf tell of a form that fits. -/
import Derived.Test.YtaepeommfdchgaaDoorText
import Derived.Test.YtaepeommfdchgaaDoorShelf
import Derived.Test.YtaepeommfdchgaaDoorForms
import Derived.Deep.RegionHeld3
import Derived.Lib.SmallJoins
namespace Go.Proofs.YtaepeommfdchgaaDoor
open Go.RowKit

/-- The library's table of powers of ten lies there. -/
def Pow (w : World) : Prop := Lib.TabIs Tryd.prog w "internal/strconv.uint64pow10" .u64 Lib.pow10Tab

theorem powName : ∃ g, Tryd.prog.globalNamed "internal/strconv.uint64pow10" = some g := Option.isSome_iff_exists.1 (by kernel_rfl)

theorem Pow.keep {w w' : World} (h : Pow w) (hb : Below w.heap.size w w') : Pow w' := by
  obtain ⟨g, hg⟩ := powName
  exact Joins.tab_stays hg h hb (Nat.le_refl _)

theorem below_grow {B : Nat} {a : World} (os : Array Obj) (w : World) (h : Below B a w) (hB : B ≤ w.heap.size) : Below B a (Go.Sort.grow w os) := by
  refine h.trans ⟨rfl, rfl, rfl, by simp [Go.Sort.grow], fun k hk => ?_⟩
  show (w.heap ++ os)[k]? = w.heap[k]?
  rw [Array.getElem?_append_left (by omega)]

theorem itoa_any (x : Int) (h0 : 0 ≤ x) (h1 : x ≤ 1048576) (t : List UInt8) (ht : decT x = t) {Q : Ending → World → Prop} (w : World) (hp : Pow w)
    (hQ : ∀ w', Below w.heap.size w w' → Q (.returned (.string ⟨t.toArray⟩)) w') :
    Calls Tryd.prog 32 #[.int .i64 x] w Q := by
  subst ht
  refine (shelf_strconv_Itoa x (by omega) (by omega) w hp).mono ?_
  rintro e w' ⟨rfl, k, os, rfl⟩
  have e1 : Lib.itoa x = decT x := by
    obtain ⟨n, rfl⟩ := Int.eq_ofNat_of_zero_le h0
    rw [Lib.itoa_nonneg]; simp [decT]
  rw [e1]
  exact hQ _ (below_grow os _ (below_drewN (Below.refl _ _) k) (Nat.le_refl _))

set_option maxHeartbeats 1000000 in
theorem varWord_any (v : Int) (h0 : 0 ≤ v) (h1 : v ≤ 1048576) (t : List UInt8) (ht : varT v = t) {Q : Ending → World → Prop} (w : World) (hp : Pow w)
    (hQ : ∀ w', Below w.heap.size w w' → Q (.returned (.string ⟨t.toArray⟩)) w') :
    Calls Tryd.prog 30 #[.int .i64 v] w Q := by
  have HQ : Hid (∀ w', Below w.heap.size w w' → Q (.returned (.string ⟨t.toArray⟩)) w') := hQ
  have HP : Hid (Pow w) := hp
  clear hQ hp
  subst ht
  have hlen := decT_len (x := v) (by omega)
  obtain ⟨d, hd⟩ : ∃ d, decT v = d := ⟨_, rfl⟩
  rw [varT, hd] at HQ
  rw [hd] at hlen
  have HD : Hid (decT v = d) := hd
  clear hd
  have HE : Hid ((⟨#[118]⟩ ++ ⟨d.toArray⟩ : ByteArray) = ⟨(118 :: d).toArray⟩) := by rw [Hid, ByteArray.mk_append_mk]; simp
  rw [← HE.out] at HQ
  go_enter Tryd.func30, Tryd.ntmps30
  go_wp2_with fail
  refine itoa_any v h0 h1 d HD.out _ HP.out fun w1 hb1 => ?_
  go_wp2
  exact HQ.out _ hb1

set_option maxHeartbeats 1000000 in
theorem opndWord_any (v n : Int) (h : opndB v n = true) (t : List UInt8) (ht : sayT v n = t) {Q : Ending → World → Prop} (w : World) (hp : Pow w)
    (hQ : ∀ w', Below w.heap.size w w' → Q (.returned (.string ⟨t.toArray⟩)) w') :
    Calls Tryd.prog 31 #[.agg #[.int .i64 v, .int .i64 n]] w Q := by
  have HQ : Hid (∀ w', Below w.heap.size w w' → Q (.returned (.string ⟨t.toArray⟩)) w') := hQ
  have HP : Hid (Pow w) := hp
  clear hQ hp
  have hb0 : ∀ O, Below w.heap.size w (w.alloc O) := fun O => (Below.refl _ _).alloc (Nat.le_refl _) O
  rcases opnd_range h with ⟨rfl, h2, h3⟩ | ⟨h1, h2, h3, h4⟩
  · rw [sayT, if_pos rfl] at ht
    have HT : Hid (decT n = t) := ht
    clear ht h
    go_enter Tryd.func31, Tryd.ntmps31
    go_wp2_with fail
    refine itoa_any n h2 (by omega) t HT.out _ (HP.out.keep (hb0 _)) fun w1 hb1 => ?_
    have hb2 : Below w.heap.size w w1 := (hb0 _).trans (hb1.mono (by simp))
    clear hb1 hb0
    go_wp2
    exact HQ.out _ hb2
  · rw [sayT, if_neg h1] at ht
    have HT : Hid (varT v = t) := ht
    have g1 : (v == -1) = false := by simp [h1]
    clear ht h h4
    go_enter Tryd.func31, Tryd.ntmps31
    go_wp2_with fail
    refine varWord_any v h2 (by omega) t HT.out _ (HP.out.keep (hb0 _)) fun w1 hb1 => ?_
    have hb2 : Below w.heap.size w w1 := (hb0 _).trans (hb1.mono (by simp))
    clear hb1 hb0
    go_wp2
    exact HQ.out _ hb2

theorem ta_1_1 (v : Value) (wx : World) : (Instr.typeAssert (.iface 74 v) 50 74 true).run Tryd.prog wx = .ok (.tuple #[v, .bool true]) wx := by kernel_rfl
theorem ta_2_1 (v : Value) (wx : World) : (Instr.typeAssert (.iface 76 v) 50 74 true).run Tryd.prog wx = .ok (.tuple #[.agg #[.int .i64 0, .int .i64 0, .int .i64 0, .int .i64 0, .int .i64 0, .int .i64 0, .int .i64 0], .bool false]) wx := by kernel_rfl
theorem ta_2_2 (v : Value) (wx : World) : (Instr.typeAssert (.iface 76 v) 50 76 true).run Tryd.prog wx = .ok (.tuple #[v, .bool true]) wx := by kernel_rfl
theorem ta_3_1 (v : Value) (wx : World) : (Instr.typeAssert (.iface 78 v) 50 74 true).run Tryd.prog wx = .ok (.tuple #[.agg #[.int .i64 0, .int .i64 0, .int .i64 0, .int .i64 0, .int .i64 0, .int .i64 0, .int .i64 0], .bool false]) wx := by kernel_rfl
theorem ta_3_2 (v : Value) (wx : World) : (Instr.typeAssert (.iface 78 v) 50 76 true).run Tryd.prog wx = .ok (.tuple #[.agg #[.int .i64 0, .int .i64 0, .int .i64 0, .int .i64 0], .bool false]) wx := by kernel_rfl
theorem ta_3_3 (v : Value) (wx : World) : (Instr.typeAssert (.iface 78 v) 50 78 true).run Tryd.prog wx = .ok (.tuple #[v, .bool true]) wx := by kernel_rfl
theorem ta_4_1 (v : Value) (wx : World) : (Instr.typeAssert (.iface 80 v) 50 74 true).run Tryd.prog wx = .ok (.tuple #[.agg #[.int .i64 0, .int .i64 0, .int .i64 0, .int .i64 0, .int .i64 0, .int .i64 0, .int .i64 0], .bool false]) wx := by kernel_rfl
theorem ta_4_2 (v : Value) (wx : World) : (Instr.typeAssert (.iface 80 v) 50 76 true).run Tryd.prog wx = .ok (.tuple #[.agg #[.int .i64 0, .int .i64 0, .int .i64 0, .int .i64 0], .bool false]) wx := by kernel_rfl
theorem ta_4_3 (v : Value) (wx : World) : (Instr.typeAssert (.iface 80 v) 50 78 true).run Tryd.prog wx = .ok (.tuple #[.agg #[.int .i64 0, .int .i64 0], .bool false]) wx := by kernel_rfl
theorem ta_4_4 (v : Value) (wx : World) : (Instr.typeAssert (.iface 80 v) 50 80 true).run Tryd.prog wx = .ok (.tuple #[v, .bool true]) wx := by kernel_rfl
theorem ta_5_1 (v : Value) (wx : World) : (Instr.typeAssert (.iface 82 v) 50 74 true).run Tryd.prog wx = .ok (.tuple #[.agg #[.int .i64 0, .int .i64 0, .int .i64 0, .int .i64 0, .int .i64 0, .int .i64 0, .int .i64 0], .bool false]) wx := by kernel_rfl
theorem ta_5_2 (v : Value) (wx : World) : (Instr.typeAssert (.iface 82 v) 50 76 true).run Tryd.prog wx = .ok (.tuple #[.agg #[.int .i64 0, .int .i64 0, .int .i64 0, .int .i64 0], .bool false]) wx := by kernel_rfl
theorem ta_5_3 (v : Value) (wx : World) : (Instr.typeAssert (.iface 82 v) 50 78 true).run Tryd.prog wx = .ok (.tuple #[.agg #[.int .i64 0, .int .i64 0], .bool false]) wx := by kernel_rfl
theorem ta_5_4 (v : Value) (wx : World) : (Instr.typeAssert (.iface 82 v) 50 80 true).run Tryd.prog wx = .ok (.tuple #[.agg #[.int .i64 0, .int .i64 0, .int .i64 0], .bool false]) wx := by kernel_rfl
theorem ta_5_5 (v : Value) (wx : World) : (Instr.typeAssert (.iface 82 v) 50 82 true).run Tryd.prog wx = .ok (.tuple #[v, .bool true]) wx := by kernel_rfl
theorem ta_6_1 (v : Value) (wx : World) : (Instr.typeAssert (.iface 84 v) 50 74 true).run Tryd.prog wx = .ok (.tuple #[.agg #[.int .i64 0, .int .i64 0, .int .i64 0, .int .i64 0, .int .i64 0, .int .i64 0, .int .i64 0], .bool false]) wx := by kernel_rfl
theorem ta_6_2 (v : Value) (wx : World) : (Instr.typeAssert (.iface 84 v) 50 76 true).run Tryd.prog wx = .ok (.tuple #[.agg #[.int .i64 0, .int .i64 0, .int .i64 0, .int .i64 0], .bool false]) wx := by kernel_rfl
theorem ta_6_3 (v : Value) (wx : World) : (Instr.typeAssert (.iface 84 v) 50 78 true).run Tryd.prog wx = .ok (.tuple #[.agg #[.int .i64 0, .int .i64 0], .bool false]) wx := by kernel_rfl
theorem ta_6_4 (v : Value) (wx : World) : (Instr.typeAssert (.iface 84 v) 50 80 true).run Tryd.prog wx = .ok (.tuple #[.agg #[.int .i64 0, .int .i64 0, .int .i64 0], .bool false]) wx := by kernel_rfl
theorem ta_6_5 (v : Value) (wx : World) : (Instr.typeAssert (.iface 84 v) 50 82 true).run Tryd.prog wx = .ok (.tuple #[.agg #[.int .i64 0, .int .i64 0, .int .i64 0, .int .i64 0], .bool false]) wx := by kernel_rfl
theorem ta_6_6 (v : Value) (wx : World) : (Instr.typeAssert (.iface 84 v) 50 84 true).run Tryd.prog wx = .ok (.tuple #[v, .bool true]) wx := by kernel_rfl
theorem ta_7_1 (v : Value) (wx : World) : (Instr.typeAssert (.iface 94 v) 50 74 true).run Tryd.prog wx = .ok (.tuple #[.agg #[.int .i64 0, .int .i64 0, .int .i64 0, .int .i64 0, .int .i64 0, .int .i64 0, .int .i64 0], .bool false]) wx := by kernel_rfl
theorem ta_7_2 (v : Value) (wx : World) : (Instr.typeAssert (.iface 94 v) 50 76 true).run Tryd.prog wx = .ok (.tuple #[.agg #[.int .i64 0, .int .i64 0, .int .i64 0, .int .i64 0], .bool false]) wx := by kernel_rfl
theorem ta_7_3 (v : Value) (wx : World) : (Instr.typeAssert (.iface 94 v) 50 78 true).run Tryd.prog wx = .ok (.tuple #[.agg #[.int .i64 0, .int .i64 0], .bool false]) wx := by kernel_rfl
theorem ta_7_4 (v : Value) (wx : World) : (Instr.typeAssert (.iface 94 v) 50 80 true).run Tryd.prog wx = .ok (.tuple #[.agg #[.int .i64 0, .int .i64 0, .int .i64 0], .bool false]) wx := by kernel_rfl
theorem ta_7_5 (v : Value) (wx : World) : (Instr.typeAssert (.iface 94 v) 50 82 true).run Tryd.prog wx = .ok (.tuple #[.agg #[.int .i64 0, .int .i64 0, .int .i64 0, .int .i64 0], .bool false]) wx := by kernel_rfl
theorem ta_7_6 (v : Value) (wx : World) : (Instr.typeAssert (.iface 94 v) 50 84 true).run Tryd.prog wx = .ok (.tuple #[.agg #[.int .i64 0], .bool false]) wx := by kernel_rfl

set_option maxRecDepth 100000 in
set_option maxHeartbeats 4000000 in
theorem setWords1_any {Q : Ending → World → Prop} (dst av an bv bn x : Int) (w : World) (hp : Pow w) (hdst : 0 ≤ dst ∧ dst ≤ 11) (ha : opndB av an = true) (hb : opndB bv bn = true) (hx : 0 ≤ x ∧ x ≤ 1048576)
    (hQ : ∀ b w', Below w.heap.size w w' → b < w'.heap.size → (∀ (j : Nat) (u : ByteArray), (([varT dst, [61], sayT av an, [43], sayT bv bn, decT x] : List (List UInt8)).map (fun t => (⟨t.toArray⟩ : ByteArray)))[j]? = some u → w'.cell? ⟨b, 0 + j, none⟩ = some (.string u)) → Q (.returned (.slice (some ⟨b, 0, none⟩) 6 6)) w') :
    Calls Tryd.prog 16 #[.iface 74 (setV dst 1 av an bv bn x)] w Q := by
  have HQ : Hid (∀ b w', Below w.heap.size w w' → b < w'.heap.size → (∀ (j : Nat) (u : ByteArray), (([varT dst, [61], sayT av an, [43], sayT bv bn, decT x] : List (List UInt8)).map (fun t => (⟨t.toArray⟩ : ByteArray)))[j]? = some u → w'.cell? ⟨b, 0 + j, none⟩ = some (.string u)) → Q (.returned (.slice (some ⟨b, 0, none⟩) 6 6)) w') := hQ
  have HP : Hid (Pow w) := hp
  clear hQ hp
  have hb0 : ∀ O, Below w.heap.size w (w.alloc O) := fun O => (Below.refl _ _).alloc (Nat.le_refl _) O
  obtain ⟨td, htd⟩ : ∃ t, varT dst = t := ⟨_, rfl⟩
  have HTD : Hid (varT dst = td) := htd
  obtain ⟨ta, hta⟩ : ∃ t, sayT av an = t := ⟨_, rfl⟩
  have HTA : Hid (sayT av an = ta) := hta
  obtain ⟨tb, htb⟩ : ∃ t, sayT bv bn = t := ⟨_, rfl⟩
  have HTB : Hid (sayT bv bn = tb) := htb
  obtain ⟨tx, htx⟩ : ∃ t, decT x = t := ⟨_, rfl⟩
  have HTX : Hid (decT x = tx) := htx
  rw [htd, hta, htb, htx] at HQ
  clear htd hta htb htx
  have HDST : Hid (0 ≤ dst ∧ dst ≤ 11) := hdst
  clear hdst
  have HAO : Hid (opndB av an = true) := ha
  clear ha
  have HBO : Hid (opndB bv bn = true) := hb
  clear hb
  have HXx : Hid (0 ≤ x ∧ x ≤ 1048576) := hx
  clear hx
  have HSA : Hid (∀ O, w.heap.size < ((w.alloc O).drew).heap.size) := fun O => by simp
  have ta1 := fun v wx => ta_1_1 v wx
  have hsl : ∀ wx, (Instr.slice 9 (.string ⟨#[43, 45, 42, 60]⟩) (some (.int .i64 0)) (some (.int .i64 1)) none).run Tryd.prog wx = .ok (.string ⟨#[43]⟩) wx := fun wx => by kernel_rfl
  have hwr : IntKind.i64.wrap 0 = 0 := by decide
  unfold setV
  go_enter Tryd.func16, Tryd.ntmps16
  go_wp2_with fail
  go_region_held3 (fun wx => wx.cell? ⟨w.heap.size, 0, none⟩ = some (.int .i64 dst) ∧ wx.cell? ⟨w.heap.size, 1, none⟩ = some (.int .i64 1) ∧ wx.cell? ⟨w.heap.size, 2, none⟩ = some (.int .i64 av) ∧ wx.cell? ⟨w.heap.size, 3, none⟩ = some (.int .i64 an) ∧ wx.cell? ⟨w.heap.size, 4, none⟩ = some (.int .i64 bv) ∧ wx.cell? ⟨w.heap.size, 5, none⟩ = some (.int .i64 bn) ∧ wx.cell? ⟨w.heap.size, 6, none⟩ = some (.int .i64 x)) (go_keep) (first | (go_at_call 30; refine varWord_any dst HDST.out.1 (by have := HDST.out.2; omega) td HTD.out _ (HP.out.keep ((hb0 _).drew)) ?_; intro w1 hb1; obtain ⟨hc1, hf1⟩ := bcell hb1; have hz1 : w.heap.size < w1.heap.size := Nat.lt_of_lt_of_le (HSA.out _) hb1.size; have hbw1 : Below w.heap.size w w1 := ((hb0 _).drew).trans (hb1.mono (Nat.le_of_lt (HSA.out _)))) | (go_at_call_of 31 (Value.agg #[.int .i64 av, .int .i64 an]); refine opndWord_any av an HAO.out ta HTA.out _ (HP.out.keep hbw1) ?_; intro w2 hb2; obtain ⟨hc2, hf2⟩ := bcell hb2; have hz2 : w.heap.size < w2.heap.size := Nat.lt_of_lt_of_le hz1 hb2.size; have hbw2 : Below w.heap.size w w2 := (hbw1.trans (hb2.mono hbw1.size))) | (go_at_call_of 31 (Value.agg #[.int .i64 bv, .int .i64 bn]); refine opndWord_any bv bn HBO.out tb HTB.out _ (HP.out.keep hbw2) ?_; intro w3 hb3; obtain ⟨hc3, hf3⟩ := bcell hb3; have hz3 : w.heap.size < w3.heap.size := Nat.lt_of_lt_of_le hz2 hb3.size; have hbw3 : Below w.heap.size w w3 := (hbw2.trans (hb3.mono hbw2.size))) | (go_at_call_of 32 x; refine itoa_any x HXx.out.1 HXx.out.2 tx HTX.out _ (HP.out.keep hbw3) ?_; intro w4 hb4; obtain ⟨hc4, hf4⟩ := bcell hb4; have hz4 : w.heap.size < w4.heap.size := Nat.lt_of_lt_of_le hz3 hb4.size; have hbw4 : Below w.heap.size w w4 := (hbw3.trans (hb4.mono hbw3.size))))
  all_goals
    have hsz := hbw4.size
    clear hb0 hb1 hc1 hf1 hb2 hc2 hf2 hb3 hc3 hf3 hb4 hc4 hf4
    go_wp2
    try go_ret
    refine HQ.out _ _ (hbw4.alloc hsz _) (by simp) ?_
    intro j u hj
    match j, hj with
    | 0, hj => simp at hj; subst hj; simp [go_sem]
    | 1, hj => simp at hj; subst hj; simp [go_sem]
    | 2, hj => simp at hj; subst hj; simp [go_sem]
    | 3, hj => simp at hj; subst hj; simp [go_sem]
    | 4, hj => simp at hj; subst hj; simp [go_sem]
    | 5, hj => simp at hj; subst hj; simp [go_sem]

set_option maxRecDepth 100000 in
set_option maxHeartbeats 4000000 in
theorem setWords2_any {Q : Ending → World → Prop} (dst av an bv bn x : Int) (w : World) (hp : Pow w) (hdst : 0 ≤ dst ∧ dst ≤ 11) (ha : opndB av an = true) (hb : opndB bv bn = true) (hx : 0 ≤ x ∧ x ≤ 1048576)
    (hQ : ∀ b w', Below w.heap.size w w' → b < w'.heap.size → (∀ (j : Nat) (u : ByteArray), (([varT dst, [61], sayT av an, [45], sayT bv bn, decT x] : List (List UInt8)).map (fun t => (⟨t.toArray⟩ : ByteArray)))[j]? = some u → w'.cell? ⟨b, 0 + j, none⟩ = some (.string u)) → Q (.returned (.slice (some ⟨b, 0, none⟩) 6 6)) w') :
    Calls Tryd.prog 16 #[.iface 74 (setV dst 2 av an bv bn x)] w Q := by
  have HQ : Hid (∀ b w', Below w.heap.size w w' → b < w'.heap.size → (∀ (j : Nat) (u : ByteArray), (([varT dst, [61], sayT av an, [45], sayT bv bn, decT x] : List (List UInt8)).map (fun t => (⟨t.toArray⟩ : ByteArray)))[j]? = some u → w'.cell? ⟨b, 0 + j, none⟩ = some (.string u)) → Q (.returned (.slice (some ⟨b, 0, none⟩) 6 6)) w') := hQ
  have HP : Hid (Pow w) := hp
  clear hQ hp
  have hb0 : ∀ O, Below w.heap.size w (w.alloc O) := fun O => (Below.refl _ _).alloc (Nat.le_refl _) O
  obtain ⟨td, htd⟩ : ∃ t, varT dst = t := ⟨_, rfl⟩
  have HTD : Hid (varT dst = td) := htd
  obtain ⟨ta, hta⟩ : ∃ t, sayT av an = t := ⟨_, rfl⟩
  have HTA : Hid (sayT av an = ta) := hta
  obtain ⟨tb, htb⟩ : ∃ t, sayT bv bn = t := ⟨_, rfl⟩
  have HTB : Hid (sayT bv bn = tb) := htb
  obtain ⟨tx, htx⟩ : ∃ t, decT x = t := ⟨_, rfl⟩
  have HTX : Hid (decT x = tx) := htx
  rw [htd, hta, htb, htx] at HQ
  clear htd hta htb htx
  have HDST : Hid (0 ≤ dst ∧ dst ≤ 11) := hdst
  clear hdst
  have HAO : Hid (opndB av an = true) := ha
  clear ha
  have HBO : Hid (opndB bv bn = true) := hb
  clear hb
  have HXx : Hid (0 ≤ x ∧ x ≤ 1048576) := hx
  clear hx
  have HSA : Hid (∀ O, w.heap.size < ((w.alloc O).drew).heap.size) := fun O => by simp
  have ta1 := fun v wx => ta_1_1 v wx
  have hsl : ∀ wx, (Instr.slice 9 (.string ⟨#[43, 45, 42, 60]⟩) (some (.int .i64 1)) (some (.int .i64 2)) none).run Tryd.prog wx = .ok (.string ⟨#[45]⟩) wx := fun wx => by kernel_rfl
  have hwr : IntKind.i64.wrap 1 = 1 := by decide
  unfold setV
  go_enter Tryd.func16, Tryd.ntmps16
  go_wp2_with fail
  go_region_held3 (fun wx => wx.cell? ⟨w.heap.size, 0, none⟩ = some (.int .i64 dst) ∧ wx.cell? ⟨w.heap.size, 1, none⟩ = some (.int .i64 2) ∧ wx.cell? ⟨w.heap.size, 2, none⟩ = some (.int .i64 av) ∧ wx.cell? ⟨w.heap.size, 3, none⟩ = some (.int .i64 an) ∧ wx.cell? ⟨w.heap.size, 4, none⟩ = some (.int .i64 bv) ∧ wx.cell? ⟨w.heap.size, 5, none⟩ = some (.int .i64 bn) ∧ wx.cell? ⟨w.heap.size, 6, none⟩ = some (.int .i64 x)) (go_keep) (first | (go_at_call 30; refine varWord_any dst HDST.out.1 (by have := HDST.out.2; omega) td HTD.out _ (HP.out.keep ((hb0 _).drew)) ?_; intro w1 hb1; obtain ⟨hc1, hf1⟩ := bcell hb1; have hz1 : w.heap.size < w1.heap.size := Nat.lt_of_lt_of_le (HSA.out _) hb1.size; have hbw1 : Below w.heap.size w w1 := ((hb0 _).drew).trans (hb1.mono (Nat.le_of_lt (HSA.out _)))) | (go_at_call_of 31 (Value.agg #[.int .i64 av, .int .i64 an]); refine opndWord_any av an HAO.out ta HTA.out _ (HP.out.keep hbw1) ?_; intro w2 hb2; obtain ⟨hc2, hf2⟩ := bcell hb2; have hz2 : w.heap.size < w2.heap.size := Nat.lt_of_lt_of_le hz1 hb2.size; have hbw2 : Below w.heap.size w w2 := (hbw1.trans (hb2.mono hbw1.size))) | (go_at_call_of 31 (Value.agg #[.int .i64 bv, .int .i64 bn]); refine opndWord_any bv bn HBO.out tb HTB.out _ (HP.out.keep hbw2) ?_; intro w3 hb3; obtain ⟨hc3, hf3⟩ := bcell hb3; have hz3 : w.heap.size < w3.heap.size := Nat.lt_of_lt_of_le hz2 hb3.size; have hbw3 : Below w.heap.size w w3 := (hbw2.trans (hb3.mono hbw2.size))) | (go_at_call_of 32 x; refine itoa_any x HXx.out.1 HXx.out.2 tx HTX.out _ (HP.out.keep hbw3) ?_; intro w4 hb4; obtain ⟨hc4, hf4⟩ := bcell hb4; have hz4 : w.heap.size < w4.heap.size := Nat.lt_of_lt_of_le hz3 hb4.size; have hbw4 : Below w.heap.size w w4 := (hbw3.trans (hb4.mono hbw3.size))))
  all_goals
    have hsz := hbw4.size
    clear hb0 hb1 hc1 hf1 hb2 hc2 hf2 hb3 hc3 hf3 hb4 hc4 hf4
    go_wp2
    try go_ret
    refine HQ.out _ _ (hbw4.alloc hsz _) (by simp) ?_
    intro j u hj
    match j, hj with
    | 0, hj => simp at hj; subst hj; simp [go_sem]
    | 1, hj => simp at hj; subst hj; simp [go_sem]
    | 2, hj => simp at hj; subst hj; simp [go_sem]
    | 3, hj => simp at hj; subst hj; simp [go_sem]
    | 4, hj => simp at hj; subst hj; simp [go_sem]
    | 5, hj => simp at hj; subst hj; simp [go_sem]

set_option maxRecDepth 100000 in
set_option maxHeartbeats 4000000 in
theorem setWords3_any {Q : Ending → World → Prop} (dst av an bv bn x : Int) (w : World) (hp : Pow w) (hdst : 0 ≤ dst ∧ dst ≤ 11) (ha : opndB av an = true) (hb : opndB bv bn = true) (hx : 0 ≤ x ∧ x ≤ 1048576)
    (hQ : ∀ b w', Below w.heap.size w w' → b < w'.heap.size → (∀ (j : Nat) (u : ByteArray), (([varT dst, [61], sayT av an, [42], sayT bv bn, decT x] : List (List UInt8)).map (fun t => (⟨t.toArray⟩ : ByteArray)))[j]? = some u → w'.cell? ⟨b, 0 + j, none⟩ = some (.string u)) → Q (.returned (.slice (some ⟨b, 0, none⟩) 6 6)) w') :
    Calls Tryd.prog 16 #[.iface 74 (setV dst 3 av an bv bn x)] w Q := by
  have HQ : Hid (∀ b w', Below w.heap.size w w' → b < w'.heap.size → (∀ (j : Nat) (u : ByteArray), (([varT dst, [61], sayT av an, [42], sayT bv bn, decT x] : List (List UInt8)).map (fun t => (⟨t.toArray⟩ : ByteArray)))[j]? = some u → w'.cell? ⟨b, 0 + j, none⟩ = some (.string u)) → Q (.returned (.slice (some ⟨b, 0, none⟩) 6 6)) w') := hQ
  have HP : Hid (Pow w) := hp
  clear hQ hp
  have hb0 : ∀ O, Below w.heap.size w (w.alloc O) := fun O => (Below.refl _ _).alloc (Nat.le_refl _) O
  obtain ⟨td, htd⟩ : ∃ t, varT dst = t := ⟨_, rfl⟩
  have HTD : Hid (varT dst = td) := htd
  obtain ⟨ta, hta⟩ : ∃ t, sayT av an = t := ⟨_, rfl⟩
  have HTA : Hid (sayT av an = ta) := hta
  obtain ⟨tb, htb⟩ : ∃ t, sayT bv bn = t := ⟨_, rfl⟩
  have HTB : Hid (sayT bv bn = tb) := htb
  obtain ⟨tx, htx⟩ : ∃ t, decT x = t := ⟨_, rfl⟩
  have HTX : Hid (decT x = tx) := htx
  rw [htd, hta, htb, htx] at HQ
  clear htd hta htb htx
  have HDST : Hid (0 ≤ dst ∧ dst ≤ 11) := hdst
  clear hdst
  have HAO : Hid (opndB av an = true) := ha
  clear ha
  have HBO : Hid (opndB bv bn = true) := hb
  clear hb
  have HXx : Hid (0 ≤ x ∧ x ≤ 1048576) := hx
  clear hx
  have HSA : Hid (∀ O, w.heap.size < ((w.alloc O).drew).heap.size) := fun O => by simp
  have ta1 := fun v wx => ta_1_1 v wx
  have hsl : ∀ wx, (Instr.slice 9 (.string ⟨#[43, 45, 42, 60]⟩) (some (.int .i64 2)) (some (.int .i64 3)) none).run Tryd.prog wx = .ok (.string ⟨#[42]⟩) wx := fun wx => by kernel_rfl
  have hwr : IntKind.i64.wrap 2 = 2 := by decide
  unfold setV
  go_enter Tryd.func16, Tryd.ntmps16
  go_wp2_with fail
  go_region_held3 (fun wx => wx.cell? ⟨w.heap.size, 0, none⟩ = some (.int .i64 dst) ∧ wx.cell? ⟨w.heap.size, 1, none⟩ = some (.int .i64 3) ∧ wx.cell? ⟨w.heap.size, 2, none⟩ = some (.int .i64 av) ∧ wx.cell? ⟨w.heap.size, 3, none⟩ = some (.int .i64 an) ∧ wx.cell? ⟨w.heap.size, 4, none⟩ = some (.int .i64 bv) ∧ wx.cell? ⟨w.heap.size, 5, none⟩ = some (.int .i64 bn) ∧ wx.cell? ⟨w.heap.size, 6, none⟩ = some (.int .i64 x)) (go_keep) (first | (go_at_call 30; refine varWord_any dst HDST.out.1 (by have := HDST.out.2; omega) td HTD.out _ (HP.out.keep ((hb0 _).drew)) ?_; intro w1 hb1; obtain ⟨hc1, hf1⟩ := bcell hb1; have hz1 : w.heap.size < w1.heap.size := Nat.lt_of_lt_of_le (HSA.out _) hb1.size; have hbw1 : Below w.heap.size w w1 := ((hb0 _).drew).trans (hb1.mono (Nat.le_of_lt (HSA.out _)))) | (go_at_call_of 31 (Value.agg #[.int .i64 av, .int .i64 an]); refine opndWord_any av an HAO.out ta HTA.out _ (HP.out.keep hbw1) ?_; intro w2 hb2; obtain ⟨hc2, hf2⟩ := bcell hb2; have hz2 : w.heap.size < w2.heap.size := Nat.lt_of_lt_of_le hz1 hb2.size; have hbw2 : Below w.heap.size w w2 := (hbw1.trans (hb2.mono hbw1.size))) | (go_at_call_of 31 (Value.agg #[.int .i64 bv, .int .i64 bn]); refine opndWord_any bv bn HBO.out tb HTB.out _ (HP.out.keep hbw2) ?_; intro w3 hb3; obtain ⟨hc3, hf3⟩ := bcell hb3; have hz3 : w.heap.size < w3.heap.size := Nat.lt_of_lt_of_le hz2 hb3.size; have hbw3 : Below w.heap.size w w3 := (hbw2.trans (hb3.mono hbw2.size))) | (go_at_call_of 32 x; refine itoa_any x HXx.out.1 HXx.out.2 tx HTX.out _ (HP.out.keep hbw3) ?_; intro w4 hb4; obtain ⟨hc4, hf4⟩ := bcell hb4; have hz4 : w.heap.size < w4.heap.size := Nat.lt_of_lt_of_le hz3 hb4.size; have hbw4 : Below w.heap.size w w4 := (hbw3.trans (hb4.mono hbw3.size))))
  all_goals
    have hsz := hbw4.size
    clear hb0 hb1 hc1 hf1 hb2 hc2 hf2 hb3 hc3 hf3 hb4 hc4 hf4
    go_wp2
    try go_ret
    refine HQ.out _ _ (hbw4.alloc hsz _) (by simp) ?_
    intro j u hj
    match j, hj with
    | 0, hj => simp at hj; subst hj; simp [go_sem]
    | 1, hj => simp at hj; subst hj; simp [go_sem]
    | 2, hj => simp at hj; subst hj; simp [go_sem]
    | 3, hj => simp at hj; subst hj; simp [go_sem]
    | 4, hj => simp at hj; subst hj; simp [go_sem]
    | 5, hj => simp at hj; subst hj; simp [go_sem]

set_option maxRecDepth 100000 in
set_option maxHeartbeats 4000000 in
theorem setWords4_any {Q : Ending → World → Prop} (dst av an bv bn x : Int) (w : World) (hp : Pow w) (hdst : 0 ≤ dst ∧ dst ≤ 11) (ha : opndB av an = true) (hb : opndB bv bn = true) (hx : 0 ≤ x ∧ x ≤ 1048576)
    (hQ : ∀ b w', Below w.heap.size w w' → b < w'.heap.size → (∀ (j : Nat) (u : ByteArray), (([varT dst, [61], sayT av an, [60], sayT bv bn, decT x] : List (List UInt8)).map (fun t => (⟨t.toArray⟩ : ByteArray)))[j]? = some u → w'.cell? ⟨b, 0 + j, none⟩ = some (.string u)) → Q (.returned (.slice (some ⟨b, 0, none⟩) 6 6)) w') :
    Calls Tryd.prog 16 #[.iface 74 (setV dst 4 av an bv bn x)] w Q := by
  have HQ : Hid (∀ b w', Below w.heap.size w w' → b < w'.heap.size → (∀ (j : Nat) (u : ByteArray), (([varT dst, [61], sayT av an, [60], sayT bv bn, decT x] : List (List UInt8)).map (fun t => (⟨t.toArray⟩ : ByteArray)))[j]? = some u → w'.cell? ⟨b, 0 + j, none⟩ = some (.string u)) → Q (.returned (.slice (some ⟨b, 0, none⟩) 6 6)) w') := hQ
  have HP : Hid (Pow w) := hp
  clear hQ hp
  have hb0 : ∀ O, Below w.heap.size w (w.alloc O) := fun O => (Below.refl _ _).alloc (Nat.le_refl _) O
  obtain ⟨td, htd⟩ : ∃ t, varT dst = t := ⟨_, rfl⟩
  have HTD : Hid (varT dst = td) := htd
  obtain ⟨ta, hta⟩ : ∃ t, sayT av an = t := ⟨_, rfl⟩
  have HTA : Hid (sayT av an = ta) := hta
  obtain ⟨tb, htb⟩ : ∃ t, sayT bv bn = t := ⟨_, rfl⟩
  have HTB : Hid (sayT bv bn = tb) := htb
  obtain ⟨tx, htx⟩ : ∃ t, decT x = t := ⟨_, rfl⟩
  have HTX : Hid (decT x = tx) := htx
  rw [htd, hta, htb, htx] at HQ
  clear htd hta htb htx
  have HDST : Hid (0 ≤ dst ∧ dst ≤ 11) := hdst
  clear hdst
  have HAO : Hid (opndB av an = true) := ha
  clear ha
  have HBO : Hid (opndB bv bn = true) := hb
  clear hb
  have HXx : Hid (0 ≤ x ∧ x ≤ 1048576) := hx
  clear hx
  have HSA : Hid (∀ O, w.heap.size < ((w.alloc O).drew).heap.size) := fun O => by simp
  have ta1 := fun v wx => ta_1_1 v wx
  have hsl : ∀ wx, (Instr.slice 9 (.string ⟨#[43, 45, 42, 60]⟩) (some (.int .i64 3)) (some (.int .i64 4)) none).run Tryd.prog wx = .ok (.string ⟨#[60]⟩) wx := fun wx => by kernel_rfl
  have hwr : IntKind.i64.wrap 3 = 3 := by decide
  unfold setV
  go_enter Tryd.func16, Tryd.ntmps16
  go_wp2_with fail
  go_region_held3 (fun wx => wx.cell? ⟨w.heap.size, 0, none⟩ = some (.int .i64 dst) ∧ wx.cell? ⟨w.heap.size, 1, none⟩ = some (.int .i64 4) ∧ wx.cell? ⟨w.heap.size, 2, none⟩ = some (.int .i64 av) ∧ wx.cell? ⟨w.heap.size, 3, none⟩ = some (.int .i64 an) ∧ wx.cell? ⟨w.heap.size, 4, none⟩ = some (.int .i64 bv) ∧ wx.cell? ⟨w.heap.size, 5, none⟩ = some (.int .i64 bn) ∧ wx.cell? ⟨w.heap.size, 6, none⟩ = some (.int .i64 x)) (go_keep) (first | (go_at_call 30; refine varWord_any dst HDST.out.1 (by have := HDST.out.2; omega) td HTD.out _ (HP.out.keep ((hb0 _).drew)) ?_; intro w1 hb1; obtain ⟨hc1, hf1⟩ := bcell hb1; have hz1 : w.heap.size < w1.heap.size := Nat.lt_of_lt_of_le (HSA.out _) hb1.size; have hbw1 : Below w.heap.size w w1 := ((hb0 _).drew).trans (hb1.mono (Nat.le_of_lt (HSA.out _)))) | (go_at_call_of 31 (Value.agg #[.int .i64 av, .int .i64 an]); refine opndWord_any av an HAO.out ta HTA.out _ (HP.out.keep hbw1) ?_; intro w2 hb2; obtain ⟨hc2, hf2⟩ := bcell hb2; have hz2 : w.heap.size < w2.heap.size := Nat.lt_of_lt_of_le hz1 hb2.size; have hbw2 : Below w.heap.size w w2 := (hbw1.trans (hb2.mono hbw1.size))) | (go_at_call_of 31 (Value.agg #[.int .i64 bv, .int .i64 bn]); refine opndWord_any bv bn HBO.out tb HTB.out _ (HP.out.keep hbw2) ?_; intro w3 hb3; obtain ⟨hc3, hf3⟩ := bcell hb3; have hz3 : w.heap.size < w3.heap.size := Nat.lt_of_lt_of_le hz2 hb3.size; have hbw3 : Below w.heap.size w w3 := (hbw2.trans (hb3.mono hbw2.size))) | (go_at_call_of 32 x; refine itoa_any x HXx.out.1 HXx.out.2 tx HTX.out _ (HP.out.keep hbw3) ?_; intro w4 hb4; obtain ⟨hc4, hf4⟩ := bcell hb4; have hz4 : w.heap.size < w4.heap.size := Nat.lt_of_lt_of_le hz3 hb4.size; have hbw4 : Below w.heap.size w w4 := (hbw3.trans (hb4.mono hbw3.size))))
  all_goals
    have hsz := hbw4.size
    clear hb0 hb1 hc1 hf1 hb2 hc2 hf2 hb3 hc3 hf3 hb4 hc4 hf4
    go_wp2
    try go_ret
    refine HQ.out _ _ (hbw4.alloc hsz _) (by simp) ?_
    intro j u hj
    match j, hj with
    | 0, hj => simp at hj; subst hj; simp [go_sem]
    | 1, hj => simp at hj; subst hj; simp [go_sem]
    | 2, hj => simp at hj; subst hj; simp [go_sem]
    | 3, hj => simp at hj; subst hj; simp [go_sem]
    | 4, hj => simp at hj; subst hj; simp [go_sem]
    | 5, hj => simp at hj; subst hj; simp [go_sem]

set_option maxRecDepth 100000 in
set_option maxHeartbeats 4000000 in
theorem copyWords_any {Q : Ending → World → Prop} (dst av an x : Int) (w : World) (hp : Pow w) (hdst : 0 ≤ dst ∧ dst ≤ 11) (ha : opndB av an = true) (hx : 0 ≤ x ∧ x ≤ 1048576)
    (hQ : ∀ b w', Below w.heap.size w w' → b < w'.heap.size → (∀ (j : Nat) (u : ByteArray), (([varT dst, [61], sayT av an, decT x] : List (List UInt8)).map (fun t => (⟨t.toArray⟩ : ByteArray)))[j]? = some u → w'.cell? ⟨b, 0 + j, none⟩ = some (.string u)) → Q (.returned (.slice (some ⟨b, 0, none⟩) 4 4)) w') :
    Calls Tryd.prog 16 #[.iface 76 (copyV dst av an x)] w Q := by
  have HQ : Hid (∀ b w', Below w.heap.size w w' → b < w'.heap.size → (∀ (j : Nat) (u : ByteArray), (([varT dst, [61], sayT av an, decT x] : List (List UInt8)).map (fun t => (⟨t.toArray⟩ : ByteArray)))[j]? = some u → w'.cell? ⟨b, 0 + j, none⟩ = some (.string u)) → Q (.returned (.slice (some ⟨b, 0, none⟩) 4 4)) w') := hQ
  have HP : Hid (Pow w) := hp
  clear hQ hp
  have hb0 : ∀ O, Below w.heap.size w (w.alloc O) := fun O => (Below.refl _ _).alloc (Nat.le_refl _) O
  obtain ⟨td, htd⟩ : ∃ t, varT dst = t := ⟨_, rfl⟩
  have HTD : Hid (varT dst = td) := htd
  obtain ⟨ta, hta⟩ : ∃ t, sayT av an = t := ⟨_, rfl⟩
  have HTA : Hid (sayT av an = ta) := hta
  obtain ⟨tx, htx⟩ : ∃ t, decT x = t := ⟨_, rfl⟩
  have HTX : Hid (decT x = tx) := htx
  rw [htd, hta, htx] at HQ
  clear htd hta htx
  have HDST : Hid (0 ≤ dst ∧ dst ≤ 11) := hdst
  clear hdst
  have HAO : Hid (opndB av an = true) := ha
  clear ha
  have HXx : Hid (0 ≤ x ∧ x ≤ 1048576) := hx
  clear hx
  have HSA : Hid (∀ O, w.heap.size < ((w.alloc O).drew).heap.size) := fun O => by simp
  have ta1 := fun v wx => ta_2_1 v wx
  have ta2 := fun v wx => ta_2_2 v wx
  unfold copyV
  go_enter Tryd.func16, Tryd.ntmps16
  go_wp2_with fail
  go_region_held3 (fun wx => wx.cell? ⟨w.heap.size, 0, none⟩ = some (.int .i64 dst) ∧ wx.cell? ⟨w.heap.size, 1, none⟩ = some (.int .i64 av) ∧ wx.cell? ⟨w.heap.size, 2, none⟩ = some (.int .i64 an) ∧ wx.cell? ⟨w.heap.size, 3, none⟩ = some (.int .i64 x)) (go_keep) (first | (go_at_call 30; refine varWord_any dst HDST.out.1 (by have := HDST.out.2; omega) td HTD.out _ (HP.out.keep ((hb0 _).drew)) ?_; intro w1 hb1; obtain ⟨hc1, hf1⟩ := bcell hb1; have hz1 : w.heap.size < w1.heap.size := Nat.lt_of_lt_of_le (HSA.out _) hb1.size; have hbw1 : Below w.heap.size w w1 := ((hb0 _).drew).trans (hb1.mono (Nat.le_of_lt (HSA.out _)))) | (go_at_call_of 31 (Value.agg #[.int .i64 av, .int .i64 an]); refine opndWord_any av an HAO.out ta HTA.out _ (HP.out.keep hbw1) ?_; intro w2 hb2; obtain ⟨hc2, hf2⟩ := bcell hb2; have hz2 : w.heap.size < w2.heap.size := Nat.lt_of_lt_of_le hz1 hb2.size; have hbw2 : Below w.heap.size w w2 := (hbw1.trans (hb2.mono hbw1.size))) | (go_at_call_of 32 x; refine itoa_any x HXx.out.1 HXx.out.2 tx HTX.out _ (HP.out.keep hbw2) ?_; intro w3 hb3; obtain ⟨hc3, hf3⟩ := bcell hb3; have hz3 : w.heap.size < w3.heap.size := Nat.lt_of_lt_of_le hz2 hb3.size; have hbw3 : Below w.heap.size w w3 := (hbw2.trans (hb3.mono hbw2.size))))
  all_goals
    have hsz := hbw3.size
    clear hb0 hb1 hc1 hf1 hb2 hc2 hf2 hb3 hc3 hf3
    go_wp2
    try go_ret
    refine HQ.out _ _ (hbw3.alloc hsz _) (by simp) ?_
    intro j u hj
    match j, hj with
    | 0, hj => simp at hj; subst hj; simp [go_sem]
    | 1, hj => simp at hj; subst hj; simp [go_sem]
    | 2, hj => simp at hj; subst hj; simp [go_sem]
    | 3, hj => simp at hj; subst hj; simp [go_sem]

set_option maxRecDepth 100000 in
set_option maxHeartbeats 4000000 in
theorem inWords_any {Q : Ending → World → Prop} (dst x : Int) (w : World) (hp : Pow w) (hdst : 0 ≤ dst ∧ dst ≤ 11) (hx : 0 ≤ x ∧ x ≤ 1048576)
    (hQ : ∀ b w', Below w.heap.size w w' → b < w'.heap.size → (∀ (j : Nat) (u : ByteArray), (([varT dst, [61], [105, 110], decT x] : List (List UInt8)).map (fun t => (⟨t.toArray⟩ : ByteArray)))[j]? = some u → w'.cell? ⟨b, 0 + j, none⟩ = some (.string u)) → Q (.returned (.slice (some ⟨b, 0, none⟩) 4 4)) w') :
    Calls Tryd.prog 16 #[.iface 78 (inV dst x)] w Q := by
  have HQ : Hid (∀ b w', Below w.heap.size w w' → b < w'.heap.size → (∀ (j : Nat) (u : ByteArray), (([varT dst, [61], [105, 110], decT x] : List (List UInt8)).map (fun t => (⟨t.toArray⟩ : ByteArray)))[j]? = some u → w'.cell? ⟨b, 0 + j, none⟩ = some (.string u)) → Q (.returned (.slice (some ⟨b, 0, none⟩) 4 4)) w') := hQ
  have HP : Hid (Pow w) := hp
  clear hQ hp
  have hb0 : ∀ O, Below w.heap.size w (w.alloc O) := fun O => (Below.refl _ _).alloc (Nat.le_refl _) O
  obtain ⟨td, htd⟩ : ∃ t, varT dst = t := ⟨_, rfl⟩
  have HTD : Hid (varT dst = td) := htd
  obtain ⟨tx, htx⟩ : ∃ t, decT x = t := ⟨_, rfl⟩
  have HTX : Hid (decT x = tx) := htx
  rw [htd, htx] at HQ
  clear htd htx
  have HDST : Hid (0 ≤ dst ∧ dst ≤ 11) := hdst
  clear hdst
  have HXx : Hid (0 ≤ x ∧ x ≤ 1048576) := hx
  clear hx
  have HSA : Hid (∀ O, w.heap.size < ((w.alloc O).drew).heap.size) := fun O => by simp
  have ta1 := fun v wx => ta_3_1 v wx
  have ta2 := fun v wx => ta_3_2 v wx
  have ta3 := fun v wx => ta_3_3 v wx
  unfold inV
  go_enter Tryd.func16, Tryd.ntmps16
  go_wp2_with fail
  go_region_held3 (fun wx => wx.cell? ⟨w.heap.size, 0, none⟩ = some (.int .i64 dst) ∧ wx.cell? ⟨w.heap.size, 1, none⟩ = some (.int .i64 x)) (go_keep) (first | (go_at_call 30; refine varWord_any dst HDST.out.1 (by have := HDST.out.2; omega) td HTD.out _ (HP.out.keep ((hb0 _).drew)) ?_; intro w1 hb1; obtain ⟨hc1, hf1⟩ := bcell hb1; have hz1 : w.heap.size < w1.heap.size := Nat.lt_of_lt_of_le (HSA.out _) hb1.size; have hbw1 : Below w.heap.size w w1 := ((hb0 _).drew).trans (hb1.mono (Nat.le_of_lt (HSA.out _)))) | (go_at_call_of 32 x; refine itoa_any x HXx.out.1 HXx.out.2 tx HTX.out _ (HP.out.keep hbw1) ?_; intro w2 hb2; obtain ⟨hc2, hf2⟩ := bcell hb2; have hz2 : w.heap.size < w2.heap.size := Nat.lt_of_lt_of_le hz1 hb2.size; have hbw2 : Below w.heap.size w w2 := (hbw1.trans (hb2.mono hbw1.size))))
  all_goals
    have hsz := hbw2.size
    clear hb0 hb1 hc1 hf1 hb2 hc2 hf2
    go_wp2
    try go_ret
    refine HQ.out _ _ (hbw2.alloc hsz _) (by simp) ?_
    intro j u hj
    match j, hj with
    | 0, hj => simp at hj; subst hj; simp [go_sem]
    | 1, hj => simp at hj; subst hj; simp [go_sem]
    | 2, hj => simp at hj; subst hj; simp [go_sem]
    | 3, hj => simp at hj; subst hj; simp [go_sem]

set_option maxRecDepth 100000 in
set_option maxHeartbeats 4000000 in
theorem outWords_any {Q : Ending → World → Prop} (av an x : Int) (w : World) (hp : Pow w) (ha : opndB av an = true) (hx : 0 ≤ x ∧ x ≤ 1048576)
    (hQ : ∀ b w', Below w.heap.size w w' → b < w'.heap.size → (∀ (j : Nat) (u : ByteArray), (([[111, 117, 116], sayT av an, decT x] : List (List UInt8)).map (fun t => (⟨t.toArray⟩ : ByteArray)))[j]? = some u → w'.cell? ⟨b, 0 + j, none⟩ = some (.string u)) → Q (.returned (.slice (some ⟨b, 0, none⟩) 3 3)) w') :
    Calls Tryd.prog 16 #[.iface 80 (outV av an x)] w Q := by
  have HQ : Hid (∀ b w', Below w.heap.size w w' → b < w'.heap.size → (∀ (j : Nat) (u : ByteArray), (([[111, 117, 116], sayT av an, decT x] : List (List UInt8)).map (fun t => (⟨t.toArray⟩ : ByteArray)))[j]? = some u → w'.cell? ⟨b, 0 + j, none⟩ = some (.string u)) → Q (.returned (.slice (some ⟨b, 0, none⟩) 3 3)) w') := hQ
  have HP : Hid (Pow w) := hp
  clear hQ hp
  have hb0 : ∀ O, Below w.heap.size w (w.alloc O) := fun O => (Below.refl _ _).alloc (Nat.le_refl _) O
  obtain ⟨ta, hta⟩ : ∃ t, sayT av an = t := ⟨_, rfl⟩
  have HTA : Hid (sayT av an = ta) := hta
  obtain ⟨tx, htx⟩ : ∃ t, decT x = t := ⟨_, rfl⟩
  have HTX : Hid (decT x = tx) := htx
  rw [hta, htx] at HQ
  clear hta htx
  have HAO : Hid (opndB av an = true) := ha
  clear ha
  have HXx : Hid (0 ≤ x ∧ x ≤ 1048576) := hx
  clear hx
  have HSA : Hid (∀ O, w.heap.size < ((w.alloc O).drew).heap.size) := fun O => by simp
  have ta1 := fun v wx => ta_4_1 v wx
  have ta2 := fun v wx => ta_4_2 v wx
  have ta3 := fun v wx => ta_4_3 v wx
  have ta4 := fun v wx => ta_4_4 v wx
  unfold outV
  go_enter Tryd.func16, Tryd.ntmps16
  go_wp2_with fail
  go_region_held3 (fun wx => wx.cell? ⟨w.heap.size, 0, none⟩ = some (.int .i64 av) ∧ wx.cell? ⟨w.heap.size, 1, none⟩ = some (.int .i64 an) ∧ wx.cell? ⟨w.heap.size, 2, none⟩ = some (.int .i64 x)) (go_keep) (first | (go_at_call_of 31 (Value.agg #[.int .i64 av, .int .i64 an]); refine opndWord_any av an HAO.out ta HTA.out _ (HP.out.keep ((hb0 _).drew)) ?_; intro w1 hb1; obtain ⟨hc1, hf1⟩ := bcell hb1; have hz1 : w.heap.size < w1.heap.size := Nat.lt_of_lt_of_le (HSA.out _) hb1.size; have hbw1 : Below w.heap.size w w1 := ((hb0 _).drew).trans (hb1.mono (Nat.le_of_lt (HSA.out _)))) | (go_at_call_of 32 x; refine itoa_any x HXx.out.1 HXx.out.2 tx HTX.out _ (HP.out.keep hbw1) ?_; intro w2 hb2; obtain ⟨hc2, hf2⟩ := bcell hb2; have hz2 : w.heap.size < w2.heap.size := Nat.lt_of_lt_of_le hz1 hb2.size; have hbw2 : Below w.heap.size w w2 := (hbw1.trans (hb2.mono hbw1.size))))
  all_goals
    have hsz := hbw2.size
    clear hb0 hb1 hc1 hf1 hb2 hc2 hf2
    go_wp2
    try go_ret
    refine HQ.out _ _ (hbw2.alloc hsz _) (by simp) ?_
    intro j u hj
    match j, hj with
    | 0, hj => simp at hj; subst hj; simp [go_sem]
    | 1, hj => simp at hj; subst hj; simp [go_sem]
    | 2, hj => simp at hj; subst hj; simp [go_sem]

set_option maxRecDepth 100000 in
set_option maxHeartbeats 4000000 in
theorem testWords_any {Q : Ending → World → Prop} (av an x y : Int) (w : World) (hp : Pow w) (ha : opndB av an = true) (hx : 0 ≤ x ∧ x ≤ 1048576) (hy : 0 ≤ y ∧ y ≤ 1048576)
    (hQ : ∀ b w', Below w.heap.size w w' → b < w'.heap.size → (∀ (j : Nat) (u : ByteArray), (([[116, 101, 115, 116], sayT av an, decT x, decT y] : List (List UInt8)).map (fun t => (⟨t.toArray⟩ : ByteArray)))[j]? = some u → w'.cell? ⟨b, 0 + j, none⟩ = some (.string u)) → Q (.returned (.slice (some ⟨b, 0, none⟩) 4 4)) w') :
    Calls Tryd.prog 16 #[.iface 82 (testV av an x y)] w Q := by
  have HQ : Hid (∀ b w', Below w.heap.size w w' → b < w'.heap.size → (∀ (j : Nat) (u : ByteArray), (([[116, 101, 115, 116], sayT av an, decT x, decT y] : List (List UInt8)).map (fun t => (⟨t.toArray⟩ : ByteArray)))[j]? = some u → w'.cell? ⟨b, 0 + j, none⟩ = some (.string u)) → Q (.returned (.slice (some ⟨b, 0, none⟩) 4 4)) w') := hQ
  have HP : Hid (Pow w) := hp
  clear hQ hp
  have hb0 : ∀ O, Below w.heap.size w (w.alloc O) := fun O => (Below.refl _ _).alloc (Nat.le_refl _) O
  obtain ⟨ta, hta⟩ : ∃ t, sayT av an = t := ⟨_, rfl⟩
  have HTA : Hid (sayT av an = ta) := hta
  obtain ⟨tx, htx⟩ : ∃ t, decT x = t := ⟨_, rfl⟩
  have HTX : Hid (decT x = tx) := htx
  obtain ⟨ty, hty⟩ : ∃ t, decT y = t := ⟨_, rfl⟩
  have HTY : Hid (decT y = ty) := hty
  rw [hta, htx, hty] at HQ
  clear hta htx hty
  have HAO : Hid (opndB av an = true) := ha
  clear ha
  have HXx : Hid (0 ≤ x ∧ x ≤ 1048576) := hx
  clear hx
  have HXy : Hid (0 ≤ y ∧ y ≤ 1048576) := hy
  clear hy
  have HSA : Hid (∀ O, w.heap.size < ((w.alloc O).drew).heap.size) := fun O => by simp
  have ta1 := fun v wx => ta_5_1 v wx
  have ta2 := fun v wx => ta_5_2 v wx
  have ta3 := fun v wx => ta_5_3 v wx
  have ta4 := fun v wx => ta_5_4 v wx
  have ta5 := fun v wx => ta_5_5 v wx
  unfold testV
  go_enter Tryd.func16, Tryd.ntmps16
  go_wp2_with fail
  go_region_held3 (fun wx => wx.cell? ⟨w.heap.size, 0, none⟩ = some (.int .i64 av) ∧ wx.cell? ⟨w.heap.size, 1, none⟩ = some (.int .i64 an) ∧ wx.cell? ⟨w.heap.size, 2, none⟩ = some (.int .i64 x) ∧ wx.cell? ⟨w.heap.size, 3, none⟩ = some (.int .i64 y)) (go_keep) (first | (go_at_call_of 31 (Value.agg #[.int .i64 av, .int .i64 an]); refine opndWord_any av an HAO.out ta HTA.out _ (HP.out.keep ((hb0 _).drew)) ?_; intro w1 hb1; obtain ⟨hc1, hf1⟩ := bcell hb1; have hz1 : w.heap.size < w1.heap.size := Nat.lt_of_lt_of_le (HSA.out _) hb1.size; have hbw1 : Below w.heap.size w w1 := ((hb0 _).drew).trans (hb1.mono (Nat.le_of_lt (HSA.out _)))) | (go_at_call_of 32 x; refine itoa_any x HXx.out.1 HXx.out.2 tx HTX.out _ (HP.out.keep hbw1) ?_; intro w2 hb2; obtain ⟨hc2, hf2⟩ := bcell hb2; have hz2 : w.heap.size < w2.heap.size := Nat.lt_of_lt_of_le hz1 hb2.size; have hbw2 : Below w.heap.size w w2 := (hbw1.trans (hb2.mono hbw1.size))) | (go_at_call_of 32 y; refine itoa_any y HXy.out.1 HXy.out.2 ty HTY.out _ (HP.out.keep hbw2) ?_; intro w3 hb3; obtain ⟨hc3, hf3⟩ := bcell hb3; have hz3 : w.heap.size < w3.heap.size := Nat.lt_of_lt_of_le hz2 hb3.size; have hbw3 : Below w.heap.size w w3 := (hbw2.trans (hb3.mono hbw2.size))))
  all_goals
    have hsz := hbw3.size
    clear hb0 hb1 hc1 hf1 hb2 hc2 hf2 hb3 hc3 hf3
    go_wp2
    try go_ret
    refine HQ.out _ _ (hbw3.alloc hsz _) (by simp) ?_
    intro j u hj
    match j, hj with
    | 0, hj => simp at hj; subst hj; simp [go_sem]
    | 1, hj => simp at hj; subst hj; simp [go_sem]
    | 2, hj => simp at hj; subst hj; simp [go_sem]
    | 3, hj => simp at hj; subst hj; simp [go_sem]

set_option maxRecDepth 100000 in
set_option maxHeartbeats 4000000 in
theorem skipWords_any {Q : Ending → World → Prop} (x : Int) (w : World) (hp : Pow w) (hx : 0 ≤ x ∧ x ≤ 1048576)
    (hQ : ∀ b w', Below w.heap.size w w' → b < w'.heap.size → (∀ (j : Nat) (u : ByteArray), (([[115, 107, 105, 112], decT x] : List (List UInt8)).map (fun t => (⟨t.toArray⟩ : ByteArray)))[j]? = some u → w'.cell? ⟨b, 0 + j, none⟩ = some (.string u)) → Q (.returned (.slice (some ⟨b, 0, none⟩) 2 2)) w') :
    Calls Tryd.prog 16 #[.iface 84 (skipV x)] w Q := by
  have HQ : Hid (∀ b w', Below w.heap.size w w' → b < w'.heap.size → (∀ (j : Nat) (u : ByteArray), (([[115, 107, 105, 112], decT x] : List (List UInt8)).map (fun t => (⟨t.toArray⟩ : ByteArray)))[j]? = some u → w'.cell? ⟨b, 0 + j, none⟩ = some (.string u)) → Q (.returned (.slice (some ⟨b, 0, none⟩) 2 2)) w') := hQ
  have HP : Hid (Pow w) := hp
  clear hQ hp
  have hb0 : ∀ O, Below w.heap.size w (w.alloc O) := fun O => (Below.refl _ _).alloc (Nat.le_refl _) O
  obtain ⟨tx, htx⟩ : ∃ t, decT x = t := ⟨_, rfl⟩
  have HTX : Hid (decT x = tx) := htx
  rw [htx] at HQ
  clear htx
  have HXx : Hid (0 ≤ x ∧ x ≤ 1048576) := hx
  clear hx
  have HSA : Hid (∀ O, w.heap.size < ((w.alloc O).drew).heap.size) := fun O => by simp
  have ta1 := fun v wx => ta_6_1 v wx
  have ta2 := fun v wx => ta_6_2 v wx
  have ta3 := fun v wx => ta_6_3 v wx
  have ta4 := fun v wx => ta_6_4 v wx
  have ta5 := fun v wx => ta_6_5 v wx
  have ta6 := fun v wx => ta_6_6 v wx
  unfold skipV
  go_enter Tryd.func16, Tryd.ntmps16
  go_wp2_with fail
  refine itoa_any x HXx.out.1 HXx.out.2 tx HTX.out _ (HP.out.keep (hb0 _)) fun w1 hb1 => ?_
  have hbw : Below w.heap.size w w1 := (hb0 _).trans (hb1.mono (by simp))
  have hsz := hbw.size
  clear hb1 hb0
  go_wp2
  refine HQ.out _ _ (hbw.alloc hsz _) (by simp) ?_
  intro j u hj
  match j, hj with
  | 0, hj => simp at hj; subst hj; simp [go_sem]
  | 1, hj => simp at hj; subst hj; simp [go_sem]

set_option maxRecDepth 100000 in
set_option maxHeartbeats 4000000 in
theorem endWords_any {Q : Ending → World → Prop} (w : World) (hp : Pow w) 
    (hQ : ∀ b w', Below w.heap.size w w' → b < w'.heap.size → (∀ (j : Nat) (u : ByteArray), (([[101, 110, 100]] : List (List UInt8)).map (fun t => (⟨t.toArray⟩ : ByteArray)))[j]? = some u → w'.cell? ⟨b, 0 + j, none⟩ = some (.string u)) → Q (.returned (.slice (some ⟨b, 0, none⟩) 1 1)) w') :
    Calls Tryd.prog 16 #[.iface 94 (endV)] w Q := by
  have HQ : Hid (∀ b w', Below w.heap.size w w' → b < w'.heap.size → (∀ (j : Nat) (u : ByteArray), (([[101, 110, 100]] : List (List UInt8)).map (fun t => (⟨t.toArray⟩ : ByteArray)))[j]? = some u → w'.cell? ⟨b, 0 + j, none⟩ = some (.string u)) → Q (.returned (.slice (some ⟨b, 0, none⟩) 1 1)) w') := hQ
  have HP : Hid (Pow w) := hp
  clear hQ hp
  have hb0 : ∀ O, Below w.heap.size w (w.alloc O) := fun O => (Below.refl _ _).alloc (Nat.le_refl _) O
  have HSA : Hid (∀ O, w.heap.size < ((w.alloc O).drew).heap.size) := fun O => by simp
  have ta1 := fun v wx => ta_7_1 v wx
  have ta2 := fun v wx => ta_7_2 v wx
  have ta3 := fun v wx => ta_7_3 v wx
  have ta4 := fun v wx => ta_7_4 v wx
  have ta5 := fun v wx => ta_7_5 v wx
  have ta6 := fun v wx => ta_7_6 v wx
  unfold endV
  go_enter Tryd.func16, Tryd.ntmps16
  go_wp2_with fail
  refine HQ.out _ _ (hb0 _) (by simp) ?_
  intro j u hj
  match j, hj with
  | 0, hj => simp at hj; subst hj; simp [go_sem]
end Go.Proofs.YtaepeommfdchgaaDoor
