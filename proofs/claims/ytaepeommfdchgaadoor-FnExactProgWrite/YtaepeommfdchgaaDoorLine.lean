/- What the model's l1Line writes of a step that is ok. -/
import Derived.Test.YtaepeommfdchgaaDoorText
import Derived.Deep.RegionHeld3
namespace Go.Proofs.YtaepeommfdchgaaDoor
open Go.RowKit

theorem acc_len {hd : List UInt8} {next : List Int} {k : Nat} (h : hd.length ≤ 100) (hl : next.length ≤ 2) (hx : ∀ x ∈ next, 0 ≤ x ∧ x ≤ 1048576) : (hd ++ (next.take k).flatMap (fun x => 32 :: decT x)).length ≤ 200 := by
  have hlen : ∀ (l : List Int), (∀ x ∈ l, 0 ≤ x ∧ x ≤ 1048576) → (l.flatMap (fun x => 32 :: decT x)).length ≤ 21 * l.length := by
    intro l
    induction l with
    | nil => simp
    | cons a r ih =>
      intro hh
      have h1 := decT_len (x := a) (by have := (hh a (by simp)).2; omega)
      have h2 := ih (fun x hx => hh x (by simp [hx]))
      simp only [List.flatMap_cons, List.length_append, List.length_cons]
      omega
  have h1 := hlen (next.take k) (fun x hxx => hx x (List.mem_of_mem_take hxx))
  have h2 : (next.take k).length ≤ next.length := by simp; omega
  simp only [List.length_append]
  omega


set_option maxHeartbeats 4000000 in
theorem line1_any {Q : Ending → World → Prop} (nv : Value) (dst op av an bv bn : Int) (next : List Int) (w : World) (h : IntsAt w nv next) (hl : next.length ≤ 2) (hxs : ∀ x ∈ next, 0 ≤ x ∧ x ≤ 1048576)
    (hdst : 0 ≤ dst ∧ dst ≤ 11) (hop : inB op 1 4 = true) (ha : opndB av an = true) (hb : opndB bv bn = true)
    (hQ : ∀ w', Below w.heap.size w w' → Q (.returned (.string ⟨(lineT ⟨1, dst, op, av, an, bv, bn, next⟩).toArray⟩)) w') :
    Calls Tryd.prog 11 #[stepV ⟨1, dst, op, av, an, bv, bn, next⟩ nv] w Q := by
  have HQ : Hid (∀ w', Below w.heap.size w w' → Q (.returned (.string ⟨(lineT ⟨1, dst, op, av, an, bv, bn, next⟩).toArray⟩)) w') := hQ
  clear hQ
  obtain ⟨ao, b, o, cap, rfl, ha0, hc0⟩ := h
  have HA : Hid _ := ha0
  have HC : Hid _ := hc0
  have HX : Hid (∀ x ∈ next, 0 ≤ x ∧ x ≤ 1048576) := hxs
  clear ha0 hc0 hxs
  unfold stepV
  have hb0 : ∀ O, Below w.heap.size w (w.alloc O) := fun O => (Below.refl _ _).alloc (Nat.le_refl _) O
  obtain ⟨td, htd⟩ : ∃ t, varT dst = t := ⟨_, rfl⟩
  have hld := varT_len (x := dst) (by omega)
  rw [htd] at hld
  have HTD : Hid (varT dst = td) := htd
  have HDST : Hid (0 ≤ dst ∧ dst ≤ 11) := hdst
  obtain ⟨ta, hta⟩ : ∃ t, sayT av an = t := ⟨_, rfl⟩
  have hla := sayT_len ha
  rw [hta] at hla
  have HTA : Hid (sayT av an = ta) := hta
  have HAO : Hid (opndB av an = true) := ha
  obtain ⟨tb, htb⟩ : ∃ t, sayT bv bn = t := ⟨_, rfl⟩
  have hlb := sayT_len hb
  rw [htb] at hlb
  have HTB : Hid (sayT bv bn = tb) := htb
  have HBO : Hid (opndB bv bn = true) := hb
  obtain ⟨ts, hts⟩ : ∃ t, signT op = t := ⟨_, rfl⟩
  have hls : ts.length ≤ 1 := by rw [← hts]; unfold signT; (repeat' split) <;> simp
  have HTS : Hid (signT op = ts) := hts
  have HOP : Hid (inB op 1 4 = true) := hop
  obtain ⟨hd, hhd⟩ : ∃ t : List UInt8, td ++ ([32, 61, 32] ++ (ta ++ ([32] ++ (ts ++ ([32] ++ tb))))) = t := ⟨_, rfl⟩
  have HHD : Hid (td ++ ([32, 61, 32] ++ (ta ++ ([32] ++ (ts ++ ([32] ++ tb))))) = hd) := hhd
  have hlh : hd.length ≤ 100 := by rw [← hhd]; simp; omega
  have HT : Hid (lineT ⟨1, dst, op, av, an, bv, bn, next⟩ = hd ++ (next.flatMap (fun x => 32 :: decT x) ++ [10])) := by
    rw [Hid, lineT, ← hhd, ← htd, ← hta, ← htb, ← hts]; simp [headT]
  rw [HT.out] at HQ
  clear hhd htd hta htb hts HT hdst hop ha hb
  go_enter Tryd.func11, Tryd.ntmps11
  go_wp2_with fail
  have hs0 : ¬ 9223372036854775807 < td.length + 3 := by omega
  have hs1 : ¬ 9223372036854775807 < td.length + 3 + ta.length := by omega
  have hs2 : ¬ 9223372036854775807 < td.length + 3 + ta.length + 1 := by omega
  have hs3 : ¬ 9223372036854775807 < td.length + 3 + ta.length + 1 + ts.length := by omega
  have hs4 : ¬ 9223372036854775807 < td.length + 3 + ta.length + 1 + ts.length + 1 := by omega
  have hs5 : ¬ 9223372036854775807 < td.length + 3 + ta.length + 1 + ts.length + 1 + tb.length := by omega
  go_region_held3 (fun wx => wx.cell? ⟨w.heap.size, 1, none⟩ = some (.int .i64 dst) ∧ wx.cell? ⟨w.heap.size, 2, none⟩ = some (.int .i64 op) ∧ wx.cell? ⟨w.heap.size, 3, none⟩ = some (.int .i64 av) ∧ wx.cell? ⟨w.heap.size, 4, none⟩ = some (.int .i64 an) ∧ wx.cell? ⟨w.heap.size, 5, none⟩ = some (.int .i64 bv) ∧ wx.cell? ⟨w.heap.size, 6, none⟩ = some (.int .i64 bn) ∧ wx.cell? ⟨w.heap.size, 7, none⟩ = some (.slice ao next.length cap)) (go_keep) (first | (go_at_call 22; refine l1Var_any dst HDST.out.1 (by have := HDST.out.2; omega) td HTD.out _ ?_; intro w1 hb1; obtain ⟨hc1, hf1⟩ := bcell hb1; have hz1 : w.heap.size < w1.heap.size := by (have := hb1.size; simp at this; omega)) | (go_at_call_of 23 (Value.agg #[.int .i64 av, .int .i64 an]); refine l1Say_any av an HAO.out ta HTA.out _ ?_; intro w2 hb2; obtain ⟨hc2, hf2⟩ := bcell hb2; have hz2 : w.heap.size < w2.heap.size := by (have := hb2.size; omega)) | (go_at_call 24; refine l1Sign_any op HOP.out ts HTS.out _ ?_; intro w3 hb3; obtain ⟨hc3, hf3⟩ := bcell hb3; have hz3 : w.heap.size < w3.heap.size := by (have := hb3.size; omega)) | (go_at_call_of 23 (Value.agg #[.int .i64 bv, .int .i64 bn]); refine l1Say_any bv bn HBO.out tb HTB.out _ ?_; intro w4 hb4; obtain ⟨hc4, hf4⟩ := bcell hb4; have hz4 : w.heap.size < w4.heap.size := by (have := hb4.size; omega)))
  all_goals
    have q74 : w4.cell? ⟨w.heap.size, 7, none⟩ = some (.slice ao next.length cap) := cell_keep hb4 (cell_keep hb3 (cell_keep hb2 (cell_keep hb1 (by simp [go_sem]))))
    have hbw1 : Below w.heap.size w w1 := ((hb0 _).drew).trans (hb1.mono (by simp))
    have hbw2 : Below w.heap.size w w2 := hbw1.trans (hb2.mono hbw1.size)
    have hbw3 : Below w.heap.size w w3 := hbw2.trans (hb3.mono hbw2.size)
    have hbw4 : Below w.heap.size w w4 := hbw3.trans (hb4.mono hbw3.size)
    have HE : Hid ((⟨td.toArray⟩ ++ ⟨#[32, 61, 32]⟩ ++ ⟨ta.toArray⟩ ++ ⟨#[32]⟩ ++ ⟨ts.toArray⟩ ++ ⟨#[32]⟩ ++ ⟨tb.toArray⟩ : ByteArray) = ⟨hd.toArray⟩) := by rw [Hid, ← HHD.out]; simp only [ByteArray.mk_append_mk]; simp
    clear hb0 hb1 hc1 hf1 hb2 hc2 hf2 hb3 hc3 hf3 hb4 hc4 hf4 hbw1 hbw2 hbw3
    go_wp2
    go_loopw [3, 4] (fun ov i wr => ∃ k : Nat, k ≤ next.length ∧ i = .int .i64 k ∧ ov = .string ⟨(hd ++ (next.take k).flatMap (fun x => 32 :: decT x)).toArray⟩ ∧ Below w.heap.size w wr ∧ w.heap.size < wr.heap.size ∧ wr.cell? ⟨w.heap.size, 7, none⟩ = some (.slice ao next.length cap)) (fun _ i _ => next.length - (intOf i).toNat)
    case atStart => exact ⟨0, Nat.zero_le _, rfl, by rw [List.take_zero, List.flatMap_nil, List.append_nil, HE.out], hbw4, hz4, q74⟩
    case round =>
      obtain ⟨k, hk, rfl, rfl, hbr, hsz, q7⟩ := hrel
      by_cases hkl : k < next.length
      · obtain rfl := HA.out (by omega)
        have hcell := cell_keep hbr (HC.out k hkl)
        have hx : 0 ≤ next[k] ∧ next[k] ≤ 1048576 := HX.out _ (List.getElem_mem hkl)
        obtain ⟨dx, hdx⟩ : ∃ t, decT next[k] = t := ⟨_, rfl⟩
        have hlx := decT_len (x := next[k]) (by omega)
        rw [hdx] at hlx
        obtain ⟨ac, hac⟩ : ∃ t, hd ++ (next.take k).flatMap (fun x => 32 :: decT x) = t := ⟨_, rfl⟩
        have hlac : ac.length ≤ 200 := by rw [← hac]; exact acc_len hlh hl HX.out
        have HE : Hid ((⟨ac.toArray⟩ ++ ⟨#[32]⟩ ++ ⟨dx.toArray⟩ : ByteArray) = ⟨(hd ++ (next.take (k + 1)).flatMap (fun x => 32 :: decT x)).toArray⟩) := by
          rw [Hid, ByteArray.mk_append_mk, ByteArray.mk_append_mk, List.take_succ_eq_append_getElem hkl, List.flatMap_append, ← List.append_assoc, hac]; simp [hdx]
        rw [hac]
        have HDX : Hid (decT next[k] = dx) := hdx
        clear hac hdx
        go_wp2_with fail
        refine decI_any next[k] hx.1 (by omega) dx HDX.out _ fun w1 hb1 => ?_
        have hbw : Below w.heap.size w w1 := hbr.trans (hb1.mono hbr.size)
        have q71 := cell_keep hb1 q7
        have hsz1 := cell_lt q71
        clear hb1 hcell q7
        go_wp2
        go_roundw
        case rel => exact ⟨k + 1, by omega, by go_num, by rw [HE.out], hbw, hsz1, q71⟩
        case measure => simp [intOf]; omega
      · obtain rfl : k = next.length := by omega
        rw [List.take_of_length_le (Nat.le_refl _)]
        obtain ⟨ac, hac⟩ : ∃ t, hd ++ next.flatMap (fun x => 32 :: decT x) = t := ⟨_, rfl⟩
        have hlac : ac.length ≤ 200 := by rw [← hac]; have := acc_len (k := next.length) hlh hl HX.out; rwa [List.take_of_length_le (Nat.le_refl _)] at this
        rw [← List.append_assoc, hac] at HQ
        rw [hac]
        have HE : Hid ((⟨ac.toArray⟩ ++ ⟨#[10]⟩ : ByteArray) = ⟨(ac ++ [10]).toArray⟩) := by rw [Hid, ByteArray.mk_append_mk]
        rw [← HE.out] at HQ
        clear hac
        go_wp2
        exact HQ.out _ hbr

set_option maxHeartbeats 4000000 in
theorem line2_any {Q : Ending → World → Prop} (nv : Value) (dst op av an bv bn : Int) (next : List Int) (w : World) (h : IntsAt w nv next) (hl : next.length ≤ 2) (hxs : ∀ x ∈ next, 0 ≤ x ∧ x ≤ 1048576)
    (hdst : 0 ≤ dst ∧ dst ≤ 11) (ha : opndB av an = true)
    (hQ : ∀ w', Below w.heap.size w w' → Q (.returned (.string ⟨(lineT ⟨2, dst, op, av, an, bv, bn, next⟩).toArray⟩)) w') :
    Calls Tryd.prog 11 #[stepV ⟨2, dst, op, av, an, bv, bn, next⟩ nv] w Q := by
  have HQ : Hid (∀ w', Below w.heap.size w w' → Q (.returned (.string ⟨(lineT ⟨2, dst, op, av, an, bv, bn, next⟩).toArray⟩)) w') := hQ
  clear hQ
  obtain ⟨ao, b, o, cap, rfl, ha0, hc0⟩ := h
  have HA : Hid _ := ha0
  have HC : Hid _ := hc0
  have HX : Hid (∀ x ∈ next, 0 ≤ x ∧ x ≤ 1048576) := hxs
  clear ha0 hc0 hxs
  unfold stepV
  have hb0 : ∀ O, Below w.heap.size w (w.alloc O) := fun O => (Below.refl _ _).alloc (Nat.le_refl _) O
  obtain ⟨td, htd⟩ : ∃ t, varT dst = t := ⟨_, rfl⟩
  have hld := varT_len (x := dst) (by omega)
  rw [htd] at hld
  have HTD : Hid (varT dst = td) := htd
  have HDST : Hid (0 ≤ dst ∧ dst ≤ 11) := hdst
  obtain ⟨ta, hta⟩ : ∃ t, sayT av an = t := ⟨_, rfl⟩
  have hla := sayT_len ha
  rw [hta] at hla
  have HTA : Hid (sayT av an = ta) := hta
  have HAO : Hid (opndB av an = true) := ha
  obtain ⟨hd, hhd⟩ : ∃ t : List UInt8, td ++ ([32, 61, 32] ++ ta) = t := ⟨_, rfl⟩
  have HHD : Hid (td ++ ([32, 61, 32] ++ ta) = hd) := hhd
  have hlh : hd.length ≤ 100 := by rw [← hhd]; simp; omega
  have HT : Hid (lineT ⟨2, dst, op, av, an, bv, bn, next⟩ = hd ++ (next.flatMap (fun x => 32 :: decT x) ++ [10])) := by
    rw [Hid, lineT, ← hhd, ← htd, ← hta]; simp [headT]
  rw [HT.out] at HQ
  clear hhd htd hta HT hdst ha
  go_enter Tryd.func11, Tryd.ntmps11
  go_wp2_with fail
  have hs0 : ¬ 9223372036854775807 < td.length + 3 := by omega
  have hs1 : ¬ 9223372036854775807 < td.length + 3 + ta.length := by omega
  go_region_held3 (fun wx => wx.cell? ⟨w.heap.size, 1, none⟩ = some (.int .i64 dst) ∧ wx.cell? ⟨w.heap.size, 3, none⟩ = some (.int .i64 av) ∧ wx.cell? ⟨w.heap.size, 4, none⟩ = some (.int .i64 an) ∧ wx.cell? ⟨w.heap.size, 7, none⟩ = some (.slice ao next.length cap)) (go_keep) (first | (go_at_call 22; refine l1Var_any dst HDST.out.1 (by have := HDST.out.2; omega) td HTD.out _ ?_; intro w1 hb1; obtain ⟨hc1, hf1⟩ := bcell hb1; have hz1 : w.heap.size < w1.heap.size := by (have := hb1.size; simp at this; omega)) | (go_at_call_of 23 (Value.agg #[.int .i64 av, .int .i64 an]); refine l1Say_any av an HAO.out ta HTA.out _ ?_; intro w2 hb2; obtain ⟨hc2, hf2⟩ := bcell hb2; have hz2 : w.heap.size < w2.heap.size := by (have := hb2.size; omega)))
  all_goals
    have q72 : w2.cell? ⟨w.heap.size, 7, none⟩ = some (.slice ao next.length cap) := cell_keep hb2 (cell_keep hb1 (by simp [go_sem]))
    have hbw1 : Below w.heap.size w w1 := ((hb0 _).drew).trans (hb1.mono (by simp))
    have hbw2 : Below w.heap.size w w2 := hbw1.trans (hb2.mono hbw1.size)
    have HE : Hid ((⟨td.toArray⟩ ++ ⟨#[32, 61, 32]⟩ ++ ⟨ta.toArray⟩ : ByteArray) = ⟨hd.toArray⟩) := by rw [Hid, ← HHD.out]; simp only [ByteArray.mk_append_mk]; simp
    clear hb0 hb1 hc1 hf1 hb2 hc2 hf2 hbw1
    go_wp2
    go_loopw [3, 4] (fun ov i wr => ∃ k : Nat, k ≤ next.length ∧ i = .int .i64 k ∧ ov = .string ⟨(hd ++ (next.take k).flatMap (fun x => 32 :: decT x)).toArray⟩ ∧ Below w.heap.size w wr ∧ w.heap.size < wr.heap.size ∧ wr.cell? ⟨w.heap.size, 7, none⟩ = some (.slice ao next.length cap)) (fun _ i _ => next.length - (intOf i).toNat)
    case atStart => exact ⟨0, Nat.zero_le _, rfl, by rw [List.take_zero, List.flatMap_nil, List.append_nil, HE.out], hbw2, hz2, q72⟩
    case round =>
      obtain ⟨k, hk, rfl, rfl, hbr, hsz, q7⟩ := hrel
      by_cases hkl : k < next.length
      · obtain rfl := HA.out (by omega)
        have hcell := cell_keep hbr (HC.out k hkl)
        have hx : 0 ≤ next[k] ∧ next[k] ≤ 1048576 := HX.out _ (List.getElem_mem hkl)
        obtain ⟨dx, hdx⟩ : ∃ t, decT next[k] = t := ⟨_, rfl⟩
        have hlx := decT_len (x := next[k]) (by omega)
        rw [hdx] at hlx
        obtain ⟨ac, hac⟩ : ∃ t, hd ++ (next.take k).flatMap (fun x => 32 :: decT x) = t := ⟨_, rfl⟩
        have hlac : ac.length ≤ 200 := by rw [← hac]; exact acc_len hlh hl HX.out
        have HE : Hid ((⟨ac.toArray⟩ ++ ⟨#[32]⟩ ++ ⟨dx.toArray⟩ : ByteArray) = ⟨(hd ++ (next.take (k + 1)).flatMap (fun x => 32 :: decT x)).toArray⟩) := by
          rw [Hid, ByteArray.mk_append_mk, ByteArray.mk_append_mk, List.take_succ_eq_append_getElem hkl, List.flatMap_append, ← List.append_assoc, hac]; simp [hdx]
        rw [hac]
        have HDX : Hid (decT next[k] = dx) := hdx
        clear hac hdx
        go_wp2_with fail
        refine decI_any next[k] hx.1 (by omega) dx HDX.out _ fun w1 hb1 => ?_
        have hbw : Below w.heap.size w w1 := hbr.trans (hb1.mono hbr.size)
        have q71 := cell_keep hb1 q7
        have hsz1 := cell_lt q71
        clear hb1 hcell q7
        go_wp2
        go_roundw
        case rel => exact ⟨k + 1, by omega, by go_num, by rw [HE.out], hbw, hsz1, q71⟩
        case measure => simp [intOf]; omega
      · obtain rfl : k = next.length := by omega
        rw [List.take_of_length_le (Nat.le_refl _)]
        obtain ⟨ac, hac⟩ : ∃ t, hd ++ next.flatMap (fun x => 32 :: decT x) = t := ⟨_, rfl⟩
        have hlac : ac.length ≤ 200 := by rw [← hac]; have := acc_len (k := next.length) hlh hl HX.out; rwa [List.take_of_length_le (Nat.le_refl _)] at this
        rw [← List.append_assoc, hac] at HQ
        rw [hac]
        have HE : Hid ((⟨ac.toArray⟩ ++ ⟨#[10]⟩ : ByteArray) = ⟨(ac ++ [10]).toArray⟩) := by rw [Hid, ByteArray.mk_append_mk]
        rw [← HE.out] at HQ
        clear hac
        go_wp2
        exact HQ.out _ hbr

set_option maxHeartbeats 4000000 in
theorem line3_any {Q : Ending → World → Prop} (nv : Value) (dst op av an bv bn : Int) (next : List Int) (w : World) (h : IntsAt w nv next) (hl : next.length ≤ 2) (hxs : ∀ x ∈ next, 0 ≤ x ∧ x ≤ 1048576)
    (hdst : 0 ≤ dst ∧ dst ≤ 11)
    (hQ : ∀ w', Below w.heap.size w w' → Q (.returned (.string ⟨(lineT ⟨3, dst, op, av, an, bv, bn, next⟩).toArray⟩)) w') :
    Calls Tryd.prog 11 #[stepV ⟨3, dst, op, av, an, bv, bn, next⟩ nv] w Q := by
  have HQ : Hid (∀ w', Below w.heap.size w w' → Q (.returned (.string ⟨(lineT ⟨3, dst, op, av, an, bv, bn, next⟩).toArray⟩)) w') := hQ
  clear hQ
  obtain ⟨ao, b, o, cap, rfl, ha0, hc0⟩ := h
  have HA : Hid _ := ha0
  have HC : Hid _ := hc0
  have HX : Hid (∀ x ∈ next, 0 ≤ x ∧ x ≤ 1048576) := hxs
  clear ha0 hc0 hxs
  unfold stepV
  have hb0 : ∀ O, Below w.heap.size w (w.alloc O) := fun O => (Below.refl _ _).alloc (Nat.le_refl _) O
  obtain ⟨td, htd⟩ : ∃ t, varT dst = t := ⟨_, rfl⟩
  have hld := varT_len (x := dst) (by omega)
  rw [htd] at hld
  have HTD : Hid (varT dst = td) := htd
  have HDST : Hid (0 ≤ dst ∧ dst ≤ 11) := hdst
  obtain ⟨hd, hhd⟩ : ∃ t : List UInt8, td ++ [32, 61, 32, 105, 110] = t := ⟨_, rfl⟩
  have HHD : Hid (td ++ [32, 61, 32, 105, 110] = hd) := hhd
  have hlh : hd.length ≤ 100 := by rw [← hhd]; simp; omega
  have HT : Hid (lineT ⟨3, dst, op, av, an, bv, bn, next⟩ = hd ++ (next.flatMap (fun x => 32 :: decT x) ++ [10])) := by
    rw [Hid, lineT, ← hhd, ← htd]; simp [headT]
  rw [HT.out] at HQ
  clear hhd htd HT hdst
  go_enter Tryd.func11, Tryd.ntmps11
  go_wp2_with fail
  refine l1Var_any dst HDST.out.1 (by have := HDST.out.2; omega) td HTD.out _ fun w1 hb1 => ?_
  have hbw : Below w.heap.size w w1 := (hb0 _).trans (hb1.mono (by simp))
  have q71 : w1.cell? ⟨w.heap.size, 7, none⟩ = some (.slice ao next.length cap) := cell_keep hb1 (by simp [go_sem])
  have hsz1 := cell_lt q71
  clear hb1 hb0
  have HE : Hid ((⟨td.toArray⟩ ++ ⟨#[32, 61, 32, 105, 110]⟩ : ByteArray) = ⟨hd.toArray⟩) := by rw [Hid, ByteArray.mk_append_mk, ← HHD.out]
  go_wp2
  go_loopw [3, 4] (fun ov i wr => ∃ k : Nat, k ≤ next.length ∧ i = .int .i64 k ∧ ov = .string ⟨(hd ++ (next.take k).flatMap (fun x => 32 :: decT x)).toArray⟩ ∧ Below w.heap.size w wr ∧ w.heap.size < wr.heap.size ∧ wr.cell? ⟨w.heap.size, 7, none⟩ = some (.slice ao next.length cap)) (fun _ i _ => next.length - (intOf i).toNat)
  case atStart => exact ⟨0, Nat.zero_le _, rfl, by rw [List.take_zero, List.flatMap_nil, List.append_nil, HE.out], hbw, hsz1, q71⟩
  case round =>
    obtain ⟨k, hk, rfl, rfl, hbr, hsz, q7⟩ := hrel
    by_cases hkl : k < next.length
    · obtain rfl := HA.out (by omega)
      have hcell := cell_keep hbr (HC.out k hkl)
      have hx : 0 ≤ next[k] ∧ next[k] ≤ 1048576 := HX.out _ (List.getElem_mem hkl)
      obtain ⟨dx, hdx⟩ : ∃ t, decT next[k] = t := ⟨_, rfl⟩
      have hlx := decT_len (x := next[k]) (by omega)
      rw [hdx] at hlx
      obtain ⟨ac, hac⟩ : ∃ t, hd ++ (next.take k).flatMap (fun x => 32 :: decT x) = t := ⟨_, rfl⟩
      have hlac : ac.length ≤ 200 := by rw [← hac]; exact acc_len hlh hl HX.out
      have HE : Hid ((⟨ac.toArray⟩ ++ ⟨#[32]⟩ ++ ⟨dx.toArray⟩ : ByteArray) = ⟨(hd ++ (next.take (k + 1)).flatMap (fun x => 32 :: decT x)).toArray⟩) := by
        rw [Hid, ByteArray.mk_append_mk, ByteArray.mk_append_mk, List.take_succ_eq_append_getElem hkl, List.flatMap_append, ← List.append_assoc, hac]; simp [hdx]
      rw [hac]
      have HDX : Hid (decT next[k] = dx) := hdx
      clear hac hdx
      go_wp2_with fail
      refine decI_any next[k] hx.1 (by omega) dx HDX.out _ fun w1 hb1 => ?_
      have hbw : Below w.heap.size w w1 := hbr.trans (hb1.mono hbr.size)
      have q71 := cell_keep hb1 q7
      have hsz1 := cell_lt q71
      clear hb1 hcell q7
      go_wp2
      go_roundw
      case rel => exact ⟨k + 1, by omega, by go_num, by rw [HE.out], hbw, hsz1, q71⟩
      case measure => simp [intOf]; omega
    · obtain rfl : k = next.length := by omega
      rw [List.take_of_length_le (Nat.le_refl _)]
      obtain ⟨ac, hac⟩ : ∃ t, hd ++ next.flatMap (fun x => 32 :: decT x) = t := ⟨_, rfl⟩
      have hlac : ac.length ≤ 200 := by rw [← hac]; have := acc_len (k := next.length) hlh hl HX.out; rwa [List.take_of_length_le (Nat.le_refl _)] at this
      rw [← List.append_assoc, hac] at HQ
      rw [hac]
      have HE : Hid ((⟨ac.toArray⟩ ++ ⟨#[10]⟩ : ByteArray) = ⟨(ac ++ [10]).toArray⟩) := by rw [Hid, ByteArray.mk_append_mk]
      rw [← HE.out] at HQ
      clear hac
      go_wp2
      exact HQ.out _ hbr

set_option maxHeartbeats 4000000 in
theorem line4_any {Q : Ending → World → Prop} (nv : Value) (dst op av an bv bn : Int) (next : List Int) (w : World) (h : IntsAt w nv next) (hl : next.length ≤ 2) (hxs : ∀ x ∈ next, 0 ≤ x ∧ x ≤ 1048576)
    (ha : opndB av an = true)
    (hQ : ∀ w', Below w.heap.size w w' → Q (.returned (.string ⟨(lineT ⟨4, dst, op, av, an, bv, bn, next⟩).toArray⟩)) w') :
    Calls Tryd.prog 11 #[stepV ⟨4, dst, op, av, an, bv, bn, next⟩ nv] w Q := by
  have HQ : Hid (∀ w', Below w.heap.size w w' → Q (.returned (.string ⟨(lineT ⟨4, dst, op, av, an, bv, bn, next⟩).toArray⟩)) w') := hQ
  clear hQ
  obtain ⟨ao, b, o, cap, rfl, ha0, hc0⟩ := h
  have HA : Hid _ := ha0
  have HC : Hid _ := hc0
  have HX : Hid (∀ x ∈ next, 0 ≤ x ∧ x ≤ 1048576) := hxs
  clear ha0 hc0 hxs
  unfold stepV
  have hb0 : ∀ O, Below w.heap.size w (w.alloc O) := fun O => (Below.refl _ _).alloc (Nat.le_refl _) O
  obtain ⟨ta, hta⟩ : ∃ t, sayT av an = t := ⟨_, rfl⟩
  have hla := sayT_len ha
  rw [hta] at hla
  have HTA : Hid (sayT av an = ta) := hta
  have HAO : Hid (opndB av an = true) := ha
  obtain ⟨hd, hhd⟩ : ∃ t : List UInt8, [111, 117, 116, 32] ++ ta = t := ⟨_, rfl⟩
  have HHD : Hid ([111, 117, 116, 32] ++ ta = hd) := hhd
  have hlh : hd.length ≤ 100 := by rw [← hhd]; simp; omega
  have HT : Hid (lineT ⟨4, dst, op, av, an, bv, bn, next⟩ = hd ++ (next.flatMap (fun x => 32 :: decT x) ++ [10])) := by
    rw [Hid, lineT, ← hhd, ← hta]; simp [headT]
  rw [HT.out] at HQ
  clear hhd hta HT ha
  go_enter Tryd.func11, Tryd.ntmps11
  go_wp2_with fail
  refine l1Say_any av an HAO.out ta HTA.out _ fun w1 hb1 => ?_
  have hbw : Below w.heap.size w w1 := (hb0 _).trans (hb1.mono (by simp))
  have q71 : w1.cell? ⟨w.heap.size, 7, none⟩ = some (.slice ao next.length cap) := cell_keep hb1 (by simp [go_sem])
  have hsz1 := cell_lt q71
  clear hb1 hb0
  have HE : Hid ((⟨#[111, 117, 116, 32]⟩ ++ ⟨ta.toArray⟩ : ByteArray) = ⟨hd.toArray⟩) := by rw [Hid, ByteArray.mk_append_mk, ← HHD.out]
  go_wp2
  go_loopw [3, 4] (fun ov i wr => ∃ k : Nat, k ≤ next.length ∧ i = .int .i64 k ∧ ov = .string ⟨(hd ++ (next.take k).flatMap (fun x => 32 :: decT x)).toArray⟩ ∧ Below w.heap.size w wr ∧ w.heap.size < wr.heap.size ∧ wr.cell? ⟨w.heap.size, 7, none⟩ = some (.slice ao next.length cap)) (fun _ i _ => next.length - (intOf i).toNat)
  case atStart => exact ⟨0, Nat.zero_le _, rfl, by rw [List.take_zero, List.flatMap_nil, List.append_nil, HE.out], hbw, hsz1, q71⟩
  case round =>
    obtain ⟨k, hk, rfl, rfl, hbr, hsz, q7⟩ := hrel
    by_cases hkl : k < next.length
    · obtain rfl := HA.out (by omega)
      have hcell := cell_keep hbr (HC.out k hkl)
      have hx : 0 ≤ next[k] ∧ next[k] ≤ 1048576 := HX.out _ (List.getElem_mem hkl)
      obtain ⟨dx, hdx⟩ : ∃ t, decT next[k] = t := ⟨_, rfl⟩
      have hlx := decT_len (x := next[k]) (by omega)
      rw [hdx] at hlx
      obtain ⟨ac, hac⟩ : ∃ t, hd ++ (next.take k).flatMap (fun x => 32 :: decT x) = t := ⟨_, rfl⟩
      have hlac : ac.length ≤ 200 := by rw [← hac]; exact acc_len hlh hl HX.out
      have HE : Hid ((⟨ac.toArray⟩ ++ ⟨#[32]⟩ ++ ⟨dx.toArray⟩ : ByteArray) = ⟨(hd ++ (next.take (k + 1)).flatMap (fun x => 32 :: decT x)).toArray⟩) := by
        rw [Hid, ByteArray.mk_append_mk, ByteArray.mk_append_mk, List.take_succ_eq_append_getElem hkl, List.flatMap_append, ← List.append_assoc, hac]; simp [hdx]
      rw [hac]
      have HDX : Hid (decT next[k] = dx) := hdx
      clear hac hdx
      go_wp2_with fail
      refine decI_any next[k] hx.1 (by omega) dx HDX.out _ fun w1 hb1 => ?_
      have hbw : Below w.heap.size w w1 := hbr.trans (hb1.mono hbr.size)
      have q71 := cell_keep hb1 q7
      have hsz1 := cell_lt q71
      clear hb1 hcell q7
      go_wp2
      go_roundw
      case rel => exact ⟨k + 1, by omega, by go_num, by rw [HE.out], hbw, hsz1, q71⟩
      case measure => simp [intOf]; omega
    · obtain rfl : k = next.length := by omega
      rw [List.take_of_length_le (Nat.le_refl _)]
      obtain ⟨ac, hac⟩ : ∃ t, hd ++ next.flatMap (fun x => 32 :: decT x) = t := ⟨_, rfl⟩
      have hlac : ac.length ≤ 200 := by rw [← hac]; have := acc_len (k := next.length) hlh hl HX.out; rwa [List.take_of_length_le (Nat.le_refl _)] at this
      rw [← List.append_assoc, hac] at HQ
      rw [hac]
      have HE : Hid ((⟨ac.toArray⟩ ++ ⟨#[10]⟩ : ByteArray) = ⟨(ac ++ [10]).toArray⟩) := by rw [Hid, ByteArray.mk_append_mk]
      rw [← HE.out] at HQ
      clear hac
      go_wp2
      exact HQ.out _ hbr

set_option maxHeartbeats 4000000 in
theorem line5_any {Q : Ending → World → Prop} (nv : Value) (dst op av an bv bn : Int) (next : List Int) (w : World) (h : IntsAt w nv next) (hl : next.length ≤ 2) (hxs : ∀ x ∈ next, 0 ≤ x ∧ x ≤ 1048576)
    (ha : opndB av an = true)
    (hQ : ∀ w', Below w.heap.size w w' → Q (.returned (.string ⟨(lineT ⟨5, dst, op, av, an, bv, bn, next⟩).toArray⟩)) w') :
    Calls Tryd.prog 11 #[stepV ⟨5, dst, op, av, an, bv, bn, next⟩ nv] w Q := by
  have HQ : Hid (∀ w', Below w.heap.size w w' → Q (.returned (.string ⟨(lineT ⟨5, dst, op, av, an, bv, bn, next⟩).toArray⟩)) w') := hQ
  clear hQ
  obtain ⟨ao, b, o, cap, rfl, ha0, hc0⟩ := h
  have HA : Hid _ := ha0
  have HC : Hid _ := hc0
  have HX : Hid (∀ x ∈ next, 0 ≤ x ∧ x ≤ 1048576) := hxs
  clear ha0 hc0 hxs
  unfold stepV
  have hb0 : ∀ O, Below w.heap.size w (w.alloc O) := fun O => (Below.refl _ _).alloc (Nat.le_refl _) O
  obtain ⟨ta, hta⟩ : ∃ t, sayT av an = t := ⟨_, rfl⟩
  have hla := sayT_len ha
  rw [hta] at hla
  have HTA : Hid (sayT av an = ta) := hta
  have HAO : Hid (opndB av an = true) := ha
  obtain ⟨hd, hhd⟩ : ∃ t : List UInt8, [116, 101, 115, 116, 32] ++ ta = t := ⟨_, rfl⟩
  have HHD : Hid ([116, 101, 115, 116, 32] ++ ta = hd) := hhd
  have hlh : hd.length ≤ 100 := by rw [← hhd]; simp; omega
  have HT : Hid (lineT ⟨5, dst, op, av, an, bv, bn, next⟩ = hd ++ (next.flatMap (fun x => 32 :: decT x) ++ [10])) := by
    rw [Hid, lineT, ← hhd, ← hta]; simp [headT]
  rw [HT.out] at HQ
  clear hhd hta HT ha
  go_enter Tryd.func11, Tryd.ntmps11
  go_wp2_with fail
  refine l1Say_any av an HAO.out ta HTA.out _ fun w1 hb1 => ?_
  have hbw : Below w.heap.size w w1 := (hb0 _).trans (hb1.mono (by simp))
  have q71 : w1.cell? ⟨w.heap.size, 7, none⟩ = some (.slice ao next.length cap) := cell_keep hb1 (by simp [go_sem])
  have hsz1 := cell_lt q71
  clear hb1 hb0
  have HE : Hid ((⟨#[116, 101, 115, 116, 32]⟩ ++ ⟨ta.toArray⟩ : ByteArray) = ⟨hd.toArray⟩) := by rw [Hid, ByteArray.mk_append_mk, ← HHD.out]
  go_wp2
  go_loopw [3, 4] (fun ov i wr => ∃ k : Nat, k ≤ next.length ∧ i = .int .i64 k ∧ ov = .string ⟨(hd ++ (next.take k).flatMap (fun x => 32 :: decT x)).toArray⟩ ∧ Below w.heap.size w wr ∧ w.heap.size < wr.heap.size ∧ wr.cell? ⟨w.heap.size, 7, none⟩ = some (.slice ao next.length cap)) (fun _ i _ => next.length - (intOf i).toNat)
  case atStart => exact ⟨0, Nat.zero_le _, rfl, by rw [List.take_zero, List.flatMap_nil, List.append_nil, HE.out], hbw, hsz1, q71⟩
  case round =>
    obtain ⟨k, hk, rfl, rfl, hbr, hsz, q7⟩ := hrel
    by_cases hkl : k < next.length
    · obtain rfl := HA.out (by omega)
      have hcell := cell_keep hbr (HC.out k hkl)
      have hx : 0 ≤ next[k] ∧ next[k] ≤ 1048576 := HX.out _ (List.getElem_mem hkl)
      obtain ⟨dx, hdx⟩ : ∃ t, decT next[k] = t := ⟨_, rfl⟩
      have hlx := decT_len (x := next[k]) (by omega)
      rw [hdx] at hlx
      obtain ⟨ac, hac⟩ : ∃ t, hd ++ (next.take k).flatMap (fun x => 32 :: decT x) = t := ⟨_, rfl⟩
      have hlac : ac.length ≤ 200 := by rw [← hac]; exact acc_len hlh hl HX.out
      have HE : Hid ((⟨ac.toArray⟩ ++ ⟨#[32]⟩ ++ ⟨dx.toArray⟩ : ByteArray) = ⟨(hd ++ (next.take (k + 1)).flatMap (fun x => 32 :: decT x)).toArray⟩) := by
        rw [Hid, ByteArray.mk_append_mk, ByteArray.mk_append_mk, List.take_succ_eq_append_getElem hkl, List.flatMap_append, ← List.append_assoc, hac]; simp [hdx]
      rw [hac]
      have HDX : Hid (decT next[k] = dx) := hdx
      clear hac hdx
      go_wp2_with fail
      refine decI_any next[k] hx.1 (by omega) dx HDX.out _ fun w1 hb1 => ?_
      have hbw : Below w.heap.size w w1 := hbr.trans (hb1.mono hbr.size)
      have q71 := cell_keep hb1 q7
      have hsz1 := cell_lt q71
      clear hb1 hcell q7
      go_wp2
      go_roundw
      case rel => exact ⟨k + 1, by omega, by go_num, by rw [HE.out], hbw, hsz1, q71⟩
      case measure => simp [intOf]; omega
    · obtain rfl : k = next.length := by omega
      rw [List.take_of_length_le (Nat.le_refl _)]
      obtain ⟨ac, hac⟩ : ∃ t, hd ++ next.flatMap (fun x => 32 :: decT x) = t := ⟨_, rfl⟩
      have hlac : ac.length ≤ 200 := by rw [← hac]; have := acc_len (k := next.length) hlh hl HX.out; rwa [List.take_of_length_le (Nat.le_refl _)] at this
      rw [← List.append_assoc, hac] at HQ
      rw [hac]
      have HE : Hid ((⟨ac.toArray⟩ ++ ⟨#[10]⟩ : ByteArray) = ⟨(ac ++ [10]).toArray⟩) := by rw [Hid, ByteArray.mk_append_mk]
      rw [← HE.out] at HQ
      clear hac
      go_wp2
      exact HQ.out _ hbr

set_option maxHeartbeats 4000000 in
theorem line6_any {Q : Ending → World → Prop} (nv : Value) (dst op av an bv bn : Int) (next : List Int) (w : World) (h : IntsAt w nv next) (hl : next.length ≤ 2) (hxs : ∀ x ∈ next, 0 ≤ x ∧ x ≤ 1048576)
    
    (hQ : ∀ w', Below w.heap.size w w' → Q (.returned (.string ⟨(lineT ⟨6, dst, op, av, an, bv, bn, next⟩).toArray⟩)) w') :
    Calls Tryd.prog 11 #[stepV ⟨6, dst, op, av, an, bv, bn, next⟩ nv] w Q := by
  have HQ : Hid (∀ w', Below w.heap.size w w' → Q (.returned (.string ⟨(lineT ⟨6, dst, op, av, an, bv, bn, next⟩).toArray⟩)) w') := hQ
  clear hQ
  obtain ⟨ao, b, o, cap, rfl, ha0, hc0⟩ := h
  have HA : Hid _ := ha0
  have HC : Hid _ := hc0
  have HX : Hid (∀ x ∈ next, 0 ≤ x ∧ x ≤ 1048576) := hxs
  clear ha0 hc0 hxs
  unfold stepV
  have hb0 : ∀ O, Below w.heap.size w (w.alloc O) := fun O => (Below.refl _ _).alloc (Nat.le_refl _) O
  obtain ⟨hd, hhd⟩ : ∃ t : List UInt8, [115, 107, 105, 112] = t := ⟨_, rfl⟩
  have HHD : Hid ([115, 107, 105, 112] = hd) := hhd
  have hlh : hd.length ≤ 100 := by rw [← hhd]; simp
  have HT : Hid (lineT ⟨6, dst, op, av, an, bv, bn, next⟩ = hd ++ (next.flatMap (fun x => 32 :: decT x) ++ [10])) := by
    rw [Hid, lineT, ← hhd]; simp [headT]
  rw [HT.out] at HQ
  clear hhd HT
  go_enter Tryd.func11, Tryd.ntmps11
  go_wp2
  go_loopw [3, 4] (fun ov i wr => ∃ k : Nat, k ≤ next.length ∧ i = .int .i64 k ∧ ov = .string ⟨(hd ++ (next.take k).flatMap (fun x => 32 :: decT x)).toArray⟩ ∧ Below w.heap.size w wr ∧ w.heap.size < wr.heap.size ∧ wr.cell? ⟨w.heap.size, 7, none⟩ = some (.slice ao next.length cap)) (fun _ i _ => next.length - (intOf i).toNat)
  case atStart => exact ⟨0, Nat.zero_le _, rfl, by rw [List.take_zero, List.flatMap_nil, List.append_nil, ← HHD.out], hb0 _, by simp, by simp [go_sem]⟩
  case round =>
    obtain ⟨k, hk, rfl, rfl, hbr, hsz, q7⟩ := hrel
    by_cases hkl : k < next.length
    · obtain rfl := HA.out (by omega)
      have hcell := cell_keep hbr (HC.out k hkl)
      have hx : 0 ≤ next[k] ∧ next[k] ≤ 1048576 := HX.out _ (List.getElem_mem hkl)
      obtain ⟨dx, hdx⟩ : ∃ t, decT next[k] = t := ⟨_, rfl⟩
      have hlx := decT_len (x := next[k]) (by omega)
      rw [hdx] at hlx
      obtain ⟨ac, hac⟩ : ∃ t, hd ++ (next.take k).flatMap (fun x => 32 :: decT x) = t := ⟨_, rfl⟩
      have hlac : ac.length ≤ 200 := by rw [← hac]; exact acc_len hlh hl HX.out
      have HE : Hid ((⟨ac.toArray⟩ ++ ⟨#[32]⟩ ++ ⟨dx.toArray⟩ : ByteArray) = ⟨(hd ++ (next.take (k + 1)).flatMap (fun x => 32 :: decT x)).toArray⟩) := by
        rw [Hid, ByteArray.mk_append_mk, ByteArray.mk_append_mk, List.take_succ_eq_append_getElem hkl, List.flatMap_append, ← List.append_assoc, hac]; simp [hdx]
      rw [hac]
      have HDX : Hid (decT next[k] = dx) := hdx
      clear hac hdx
      go_wp2_with fail
      refine decI_any next[k] hx.1 (by omega) dx HDX.out _ fun w1 hb1 => ?_
      have hbw : Below w.heap.size w w1 := hbr.trans (hb1.mono hbr.size)
      have q71 := cell_keep hb1 q7
      have hsz1 := cell_lt q71
      clear hb1 hcell q7
      go_wp2
      go_roundw
      case rel => exact ⟨k + 1, by omega, by go_num, by rw [HE.out], hbw, hsz1, q71⟩
      case measure => simp [intOf]; omega
    · obtain rfl : k = next.length := by omega
      rw [List.take_of_length_le (Nat.le_refl _)]
      obtain ⟨ac, hac⟩ : ∃ t, hd ++ next.flatMap (fun x => 32 :: decT x) = t := ⟨_, rfl⟩
      have hlac : ac.length ≤ 200 := by rw [← hac]; have := acc_len (k := next.length) hlh hl HX.out; rwa [List.take_of_length_le (Nat.le_refl _)] at this
      rw [← List.append_assoc, hac] at HQ
      rw [hac]
      have HE : Hid ((⟨ac.toArray⟩ ++ ⟨#[10]⟩ : ByteArray) = ⟨(ac ++ [10]).toArray⟩) := by rw [Hid, ByteArray.mk_append_mk]
      rw [← HE.out] at HQ
      clear hac
      go_wp2
      exact HQ.out _ hbr

set_option maxHeartbeats 4000000 in
theorem line7_any {Q : Ending → World → Prop} (nv : Value) (dst op av an bv bn : Int) (next : List Int) (w : World) (h : IntsAt w nv next) (hl : next.length ≤ 2) (hxs : ∀ x ∈ next, 0 ≤ x ∧ x ≤ 1048576)
    
    (hQ : ∀ w', Below w.heap.size w w' → Q (.returned (.string ⟨(lineT ⟨7, dst, op, av, an, bv, bn, next⟩).toArray⟩)) w') :
    Calls Tryd.prog 11 #[stepV ⟨7, dst, op, av, an, bv, bn, next⟩ nv] w Q := by
  have HQ : Hid (∀ w', Below w.heap.size w w' → Q (.returned (.string ⟨(lineT ⟨7, dst, op, av, an, bv, bn, next⟩).toArray⟩)) w') := hQ
  clear hQ
  obtain ⟨ao, b, o, cap, rfl, ha0, hc0⟩ := h
  have HA : Hid _ := ha0
  have HC : Hid _ := hc0
  have HX : Hid (∀ x ∈ next, 0 ≤ x ∧ x ≤ 1048576) := hxs
  clear ha0 hc0 hxs
  unfold stepV
  have hb0 : ∀ O, Below w.heap.size w (w.alloc O) := fun O => (Below.refl _ _).alloc (Nat.le_refl _) O
  obtain ⟨hd, hhd⟩ : ∃ t : List UInt8, [101, 110, 100] = t := ⟨_, rfl⟩
  have HHD : Hid ([101, 110, 100] = hd) := hhd
  have hlh : hd.length ≤ 100 := by rw [← hhd]; simp
  have HT : Hid (lineT ⟨7, dst, op, av, an, bv, bn, next⟩ = hd ++ (next.flatMap (fun x => 32 :: decT x) ++ [10])) := by
    rw [Hid, lineT, ← hhd]; simp [headT]
  rw [HT.out] at HQ
  clear hhd HT
  go_enter Tryd.func11, Tryd.ntmps11
  go_wp2
  go_loopw [3, 4] (fun ov i wr => ∃ k : Nat, k ≤ next.length ∧ i = .int .i64 k ∧ ov = .string ⟨(hd ++ (next.take k).flatMap (fun x => 32 :: decT x)).toArray⟩ ∧ Below w.heap.size w wr ∧ w.heap.size < wr.heap.size ∧ wr.cell? ⟨w.heap.size, 7, none⟩ = some (.slice ao next.length cap)) (fun _ i _ => next.length - (intOf i).toNat)
  case atStart => exact ⟨0, Nat.zero_le _, rfl, by rw [List.take_zero, List.flatMap_nil, List.append_nil, ← HHD.out], hb0 _, by simp, by simp [go_sem]⟩
  case round =>
    obtain ⟨k, hk, rfl, rfl, hbr, hsz, q7⟩ := hrel
    by_cases hkl : k < next.length
    · obtain rfl := HA.out (by omega)
      have hcell := cell_keep hbr (HC.out k hkl)
      have hx : 0 ≤ next[k] ∧ next[k] ≤ 1048576 := HX.out _ (List.getElem_mem hkl)
      obtain ⟨dx, hdx⟩ : ∃ t, decT next[k] = t := ⟨_, rfl⟩
      have hlx := decT_len (x := next[k]) (by omega)
      rw [hdx] at hlx
      obtain ⟨ac, hac⟩ : ∃ t, hd ++ (next.take k).flatMap (fun x => 32 :: decT x) = t := ⟨_, rfl⟩
      have hlac : ac.length ≤ 200 := by rw [← hac]; exact acc_len hlh hl HX.out
      have HE : Hid ((⟨ac.toArray⟩ ++ ⟨#[32]⟩ ++ ⟨dx.toArray⟩ : ByteArray) = ⟨(hd ++ (next.take (k + 1)).flatMap (fun x => 32 :: decT x)).toArray⟩) := by
        rw [Hid, ByteArray.mk_append_mk, ByteArray.mk_append_mk, List.take_succ_eq_append_getElem hkl, List.flatMap_append, ← List.append_assoc, hac]; simp [hdx]
      rw [hac]
      have HDX : Hid (decT next[k] = dx) := hdx
      clear hac hdx
      go_wp2_with fail
      refine decI_any next[k] hx.1 (by omega) dx HDX.out _ fun w1 hb1 => ?_
      have hbw : Below w.heap.size w w1 := hbr.trans (hb1.mono hbr.size)
      have q71 := cell_keep hb1 q7
      have hsz1 := cell_lt q71
      clear hb1 hcell q7
      go_wp2
      go_roundw
      case rel => exact ⟨k + 1, by omega, by go_num, by rw [HE.out], hbw, hsz1, q71⟩
      case measure => simp [intOf]; omega
    · obtain rfl : k = next.length := by omega
      rw [List.take_of_length_le (Nat.le_refl _)]
      obtain ⟨ac, hac⟩ : ∃ t, hd ++ next.flatMap (fun x => 32 :: decT x) = t := ⟨_, rfl⟩
      have hlac : ac.length ≤ 200 := by rw [← hac]; have := acc_len (k := next.length) hlh hl HX.out; rwa [List.take_of_length_le (Nat.le_refl _)] at this
      rw [← List.append_assoc, hac] at HQ
      rw [hac]
      have HE : Hid ((⟨ac.toArray⟩ ++ ⟨#[10]⟩ : ByteArray) = ⟨(ac ++ [10]).toArray⟩) := by rw [Hid, ByteArray.mk_append_mk]
      rw [← HE.out] at HQ
      clear hac
      go_wp2
      exact HQ.out _ hbr
end Go.Proofs.YtaepeommfdchgaaDoor
