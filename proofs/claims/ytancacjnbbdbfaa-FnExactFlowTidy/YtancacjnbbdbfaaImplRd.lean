/- What the program's reached answers: the steps that can be come to, each way led to its new place. -/
import Derived.Test.YtancacjnbbdbfaaImplLedB
import Derived.Test.YtancacjnbbdbfaaReachI
namespace Go.Proofs.Ytancacjnbbdbfaa
open Go.RowKit

/-- 'make([]T, 0, n)'. -/
theorem wpList_make_room {P : Program} (w : World) {ops : Array Oper} {rest : List Oper} {o : Oper} {a : Act} {Q : Exit → Act → World → Prop}
    (hg : o.guard = none) (l c : Operand) (t : TypeId) (hop : o.op = Op.makeSlice t l c)
    (e : TypeId) (z : Value) (size bytes : Nat) (ht : P.underlying t = some (.slice e)) (hinfo : (P.info? e).map (fun i => (i.zero, i.size, i.bytes)) = some (some z, size, bytes))
    (kl kc : IntKind) (n : Nat) (hl : a.eval l = .int kl 0) (hc : a.eval c = .int kc (n : Int)) (hn : n ≤ 1048576) (hby : bytes ≤ 1000)
    (hK : ∀ w', w'.ownsRow w.heap.size e size (.slice (some ⟨w.heap.size, 0, none⟩) 0 n) 0 [] → Below w.heap.size w w' → w'.heap.size = w.heap.size + 1 → wpList P ops Q rest (a.put o.dst (.slice (some ⟨w.heap.size, 0, none⟩) 0 n)) w') :
    wpList P ops Q (o :: rest) a w := by
  obtain ⟨i, hi, hz, hs, hb⟩ := info_parts hinfo
  refine wpList_plain hg fun K hK' => ?_
  have hb' : (i.bytes : Int) * (n : Int) ≤ 281474976710656 := by
    rw [hb]
    have h1 : bytes * n ≤ 1000 * 1048576 := Nat.mul_le_mul hby hn
    have h2 : ((bytes * n : Nat) : Int) ≤ 281474976710656 := by omega
    rwa [Int.natCast_mul] at h2
  have hr := run_make (P := P) w t e i _ ht hi hz kl kc 0 (n : Int) (Int.le_refl _) (by omega) hb' (by omega)
  simp only [Int.toNat_natCast, hs] at hr
  unfold Oper.wp
  simp [execOp, hop, hl, hc, hr, Result.andThen]
  refine hK' _ _ (hK _ ⟨by simp, .inr ⟨w.heap.size, n, _, rfl, Nat.le_refl _, heap_alloc_new w _, Nat.zero_le _, by unfold maxLen; omega, size_madeCells _ _, by simp⟩⟩ ((Below.refl _ _).alloc (Nat.le_refl _) _) (by simp))

/-- The first k steps, those that can be come to. -/
def keptK (ss : List St) (rs : List Bool) (k : Nat) : List St := ((List.range k).filter (fun i => rs.getD i false)).map (fun i => ss.getD i step00)

theorem keptK_zero (ss : List St) (rs : List Bool) : keptK ss rs 0 = [] := by simp [keptK]

theorem keptK_succ {ss : List St} {rs : List Bool} {k : Nat} (hk : k < ss.length) (hr : k < rs.length) : keptK ss rs (k + 1) = keptK ss rs k ++ if rs[k] = true then [ss[k]] else [] := by
  unfold keptK
  rw [List.range_succ, List.filter_append, List.map_append]
  congr 1
  have e1 : rs.getD k false = rs[k] := by simp [List.getD, hr]
  have e2 : ss.getD k step00 = ss[k] := by simp [List.getD, hk]
  by_cases h : rs[k] = true
  · rw [if_pos h, List.filter_cons, if_pos (by rw [e1]; exact h)]
    simp [hk]
  · rw [if_neg h, List.filter_cons, if_neg (by rw [e1]; exact h)]
    simp

theorem keptK_map (ss : List St) (rs : List Bool) (k : Nat) : (keptK ss rs k).map (mapNext (placeI rs)) = pruneK ss rs k := by
  simp [keptK, pruneK, List.map_map, Function.comp_def]

theorem keptK_len {ss : List St} {rs : List Bool} (hl : rs.length = ss.length) {k : Nat} (hk : k ≤ ss.length) : (keptK ss rs k).length = placeN rs k := by
  rw [← pruneK_len hl hk, ← keptK_map, List.length_map]

theorem keptK_mem {ss : List St} {rs : List Bool} {k : Nat} (hk : k ≤ ss.length) {s : St} (h : s ∈ keptK ss rs k) : s ∈ ss := by
  unfold keptK at h
  obtain ⟨i, hi, rfl⟩ := List.mem_map.1 h
  have := List.mem_range.1 (List.mem_filter.1 hi).1
  have hl : i < ss.length := by omega
  have e : ss.getD i step00 = ss[i] := by simp [List.getD, hl]
  rw [e]
  exact List.getElem_mem hl

/-- Steps in a row of the call's own, their lists still where they were. -/
structure KX (lo : Nat) (w wr : World) (v : Value) (qs : List St) (xs : List Value) : Prop where
  row : wr.ownsRow lo 43 8 v qs.length xs
  cells : ∀ (i : Nat) (s : St), qs[i]? = some s → ∃ nv, StepX xs (i * 8) s nv ∧ IntsAt w nv s.next

theorem KX.at {lo : Nat} {w wr : World} {v : Value} {qs : List St} {xs : List Value} (h : KX lo w wr v qs xs) (hb : Below w.heap.size w wr) : StepsAt wr v qs := by
  rcases id h.row.2 with ⟨e, e2⟩ | ⟨g, cap, cur, e, _⟩
  · refine ⟨none, 0, 0, 0, by rw [e2]; exact e, fun hp => by omega, fun i s hs => ?_⟩
    have := (List.getElem?_eq_some_iff.1 hs).1
    omega
  · refine ⟨_, g, 0, cap, e, fun _ => rfl, fun i s hs => ?_⟩
    obtain ⟨nv, hx, hn⟩ := h.cells i s hs
    refine ⟨nv, ?_, hn.keep hb⟩
    have hi := (List.getElem?_eq_some_iff.1 hs).1
    have hrow := h.row
    rw [e] at hrow
    obtain ⟨c0, c1, c2, c3, c4, c5, c6, c7⟩ := hx.cells
    have rd : ∀ j, j < 8 → wr.cell? ⟨g, i * 8 + j, none⟩ = xs[i * 8 + j]? := fun j hj => hrow.cellAt _ (by omega)
    refine ⟨?_, ?_, ?_, ?_, ?_, ?_, ?_, ?_⟩
    · rw [Nat.zero_add]; exact (rd 0 (by omega)).trans c0
    · rw [Nat.zero_add]; exact (rd 1 (by omega)).trans c1
    · rw [Nat.zero_add]; exact (rd 2 (by omega)).trans c2
    · rw [Nat.zero_add]; exact (rd 3 (by omega)).trans c3
    · rw [Nat.zero_add]; exact (rd 4 (by omega)).trans c4
    · rw [Nat.zero_add]; exact (rd 5 (by omega)).trans c5
    · rw [Nat.zero_add]; exact (rd 6 (by omega)).trans c6
    · rw [Nat.zero_add]; exact (rd 7 (by omega)).trans c7

theorem KX.snoc {lo : Nat} {w wr w' : World} {v v' nv : Value} {qs : List St} {s : St} {xs : List Value} (h : KX lo w wr v qs xs) (hn : IntsAt w nv s.next)
    (hown : w'.ownsRow lo 43 8 v' (qs.length + 1) (xs ++ cells8 s nv)) : KX lo w w' v' (qs ++ [s]) (xs ++ cells8 s nv) := by
  have hlen : xs.length = qs.length * 8 := h.row.1
  refine ⟨by simpa using hown, fun i t ht => ?_⟩
  by_cases hi : i < qs.length
  · rw [List.getElem?_append_left hi] at ht
    obtain ⟨nv2, hx, hn2⟩ := h.cells i t ht
    refine ⟨nv2, fun j u hu => ?_, hn2⟩
    have hj : j < 8 := by have := (List.getElem?_eq_some_iff.1 hu).1; simpa [cells8] using this
    rw [List.getElem?_append_left (by omega)]
    exact hx j u hu
  · have l := (List.getElem?_eq_some_iff.1 ht).1
    simp at l
    have e : i = qs.length := by omega
    subst e
    simp at ht
    subst ht
    refine ⟨nv, fun j u hu => ?_, hn⟩
    rw [List.getElem?_append_right (by omega), hlen]
    rwa [show qs.length * 8 + j - qs.length * 8 = j by omega]

set_option maxRecDepth 100000 in
set_option maxHeartbeats 8000000 in
theorem reached_any {Q : Ending → World → Prop} (v : Value) (ss : List St) (w : World) (h : StepsAt w v ss) (hok : okB ss = true)
    (hQ : ∀ v' rs xs nvs w', IsReach ss rs → PO w.heap.size w' v' (pruneK ss rs ss.length) xs nvs → Below w.heap.size w w' → Q (.returned v') w') :
    Calls Try.prog 42 #[v] w Q := by
  have HQ : Hid _ := hQ
  clear hQ
  obtain ⟨hn1, hn2⟩ := ok_len hok
  have HOK : Hid (okB ss = true) := hok
  have HH : Hid (StepsAt w v ss) := h
  obtain ⟨ao, b, o, cap, rfl, ha, hc⟩ := id h
  obtain rfl := ha (by omega)
  have HC : Hid _ := hc
  clear ha hc h hok
  obtain ⟨i1, hj, hy0, hy1, hy2⟩ := info_parts infoStep1
  go_enter Try.func42, Try.ntmps42
  go_wp2_with fail
  refine reachOf_any _ ss _ HH.out HOK.out fun v1 rs w1 hb1 hrs hown1 => ?_
  have HB1 : Hid (Below w.heap.size w w1) := hb1
  have HRS : Hid (IsReach ss rs) := hrs
  have hrl := hrs.1
  obtain ⟨g, cap1, rfl, hg1, hg2, _, hg3, _⟩ := own_slice1 hown1 (by omega)
  have HG : Hid (∀ i, i < ss.length → w1.cell? ⟨g, i, none⟩ = (rs.map Value.bool)[i]?) := hg3
  have hsz1 := hb1.size
  clear hb1 hrs hown1 hg3
  go_wp2_with (at_make; first | (refine wpList_make_is _ rfl (.tmp 11) (.tmp 11) 41 rfl 3 (.int .i64 0) 8 Try.underlying41 infoInt2 rfl .i64 .i64 ss.length rfl rfl (by omega) (by omega) ?_; intro w2 hrow2 hb2 hs2; have HR2 : Hid (w2.rowIs w1.heap.size 3 ss.length (fun _ => .int .i64 0)) := hrow2; have HB2 : Hid (Below w1.heap.size w1 w2) := hb2; clear hrow2 hb2) | (refine wpList_make_room _ rfl (.const (.int .i64 0)) (.tmp 14) 26 rfl 43 _ 8 80 Try.underlying26 infoStep1 .i64 .i64 ss.length rfl rfl (by omega) (by omega) ?_; intro w3 hown3 hb3 hs3))
  have HO3 : Hid (w3.ownsRow w2.heap.size 43 8 (.slice (some ⟨w2.heap.size, 0, none⟩) 0 ss.length) 0 []) := hown3
  have HB3 : Hid (Below w1.heap.size w1 w3) := HB2.out.trans (hb3.mono (by omega))
  have HR3 : Hid (w3.rowIs w1.heap.size 3 ss.length (fun _ => .int .i64 0)) := rowIs_keep HR2.out hb3
  have hsz3 : w2.heap.size = w1.heap.size + 1 := hs2
  have HO4 : Hid (KX (w1.heap.size + 1) w w3 (.slice (some ⟨w1.heap.size + 1, 0, none⟩) 0 ss.length) [] []) := by
    have e := HO3.out
    rw [hsz3] at e
    exact ⟨e, by simp⟩
  clear hown3 hb3 HO3 hsz3
  clear hs2 hs3
  go_loopw [5, 18] (fun kv i wr => ∃ (k : Nat) (xs : List Value), k ≤ ss.length ∧ i = .int .i64 k ∧ Below w1.heap.size w1 wr ∧ wr.rowIs w1.heap.size 3 ss.length (fun j => .int .i64 (if j < k then (placeN rs j : Int) else 0)) ∧ KX (w1.heap.size + 1) w wr kv (keptK ss rs k) xs) (fun _ i _ => ss.length - (intOf i).toNat)
  case atStart => exact ⟨0, [], Nat.zero_le _, rfl, HB3.out, HR3.out.congr fun i _ => by simp, by rw [keptK_zero]; exact HO4.out⟩
  case round =>
    obtain ⟨k, xs, hk, rfl, hb, hrow, hK⟩ := hrel
    have HB : Hid (Below w1.heap.size w1 wr) := hb
    have HBw : Hid (Below w.heap.size w wr) := HB1.out.trans (hb.mono hsz1)
    have HROW : Hid (wr.rowIs w1.heap.size 3 ss.length (fun j => .int .i64 (if j < k then (placeN rs j : Int) else 0))) := hrow
    have hlt := keptK_len (rs := rs) hrl hk
    have hple := placeN_le rs k
    obtain ⟨A, c, hkv, _⟩ := own_len hK.row
    rw [hlt] at hkv
    subst hkv
    have HK : Hid (KX (w1.heap.size + 1) w wr (.slice A (placeN rs k) c) (keptK ss rs k) xs) := hK
    have HKR : Hid (wr.ownsRow (w1.heap.size + 1) 43 8 (.slice A (placeN rs k) c) (placeN rs k) xs) := by
      have := hK.row
      rwa [hlt] at this
    have HLT : Hid ((keptK ss rs k).length = placeN rs k) := hlt
    have hwl : w1.heap.size < wr.heap.size := hrow.lt
    clear hK hlt
    by_cases hkl : k < ss.length
    · have hki : (k : Int) < (ss.length : Int) := by omega
      have hkr : k < rs.length := by omega
      have hss : ss[k]? = some ss[k] := by simp [hkl]
      obtain ⟨nu, cu, iu⟩ := HC.out k ss[k] hss
      have HIU : Hid (IntsAt w nu ss[k].next) := iu
      obtain ⟨nao, nb, no, ncap, rfl, hna, hnc⟩ := id iu
      obtain ⟨c0, c1, c2, c3, c4, c5, c6, c7⟩ := cu.keep HBw.out
      have cg : wr.cell? ⟨g, k, none⟩ = some (.bool rs[k]) := cell_keep hb ((HG.out k hkl).trans (by rw [List.getElem?_map, List.getElem?_eq_getElem hkr]; rfl))
      have hgne : g ≠ w1.heap.size := by omega
      have hgne2 : w1.heap.size ≠ g := by omega
      have hgw : g < wr.heap.size := by omega
      have hgw2 : g ≠ wr.heap.size := by omega
      have rm := hrow.cell hkl
      have fm := hrow.frozen k
      have HSUC : Hid _ := keptK_succ (rs := rs) hkl hkr
      have HSET : Hid (∀ O, ((wr.setCell ⟨w1.heap.size, k, none⟩ (.int .i64 (placeN rs k : Int))).alloc O).rowIs w1.heap.size 3 ss.length (fun j => .int .i64 (if j < k + 1 then (placeN rs j : Int) else 0))) := fun O => by
        refine ((HROW.out.set k _).congr fun j hj => ?_).alloc O
        by_cases e : j = k
        · subst e; simp
        · by_cases e2 : j < k
          · simp [e, e2, show j < k + 1 by omega]
          · simp [e, e2, show ¬ j < k + 1 by omega]
      have HBS : Hid (∀ O, Below w1.heap.size w1 ((wr.setCell ⟨w1.heap.size, k, none⟩ (.int .i64 (placeN rs k : Int))).alloc O)) := fun O => (HB.out.setCell (Nat.le_refl _) _).alloc (by simp [World.setCell]; omega) _
      have HKS : Hid (∀ O, ((wr.setCell ⟨w1.heap.size, k, none⟩ (.int .i64 (placeN rs k : Int))).alloc O).ownsRow (w1.heap.size + 1) 43 8 (.slice A (placeN rs k) c) (placeN rs k) xs) := fun O => (ownsRow_setCell_below HKR.out (by simp) _).alloc O
      clear cu iu hna hnc hb hrow
      cases hrv : rs[k]
      · rw [hrv] at cg
        have HEQ : Hid (keptK ss rs (k + 1) = keptK ss rs k) := by rw [Hid, HSUC.out, hrv]; simp
        clear hrv
        go_wp2
        go_roundw
        case rel =>
          refine ⟨k + 1, xs, by omega, by go_num, HBS.out _, HSET.out _, ?_⟩
          rw [HEQ.out]
          exact ⟨by rw [HLT.out]; exact HKS.out _, HK.out.cells⟩
        case measure => simp [intOf]; omega
      · rw [hrv] at cg
        have HEQ : Hid (keptK ss rs (k + 1) = keptK ss rs k ++ [ss[k]]) := by rw [Hid, HSUC.out, hrv]; simp
        clear hrv
        go_wp2_with (at_builtin; refine wpList_append_lies _ rfl _ _ 26 rfl (w1.heap.size + 1) 43 i1 _ 8 80 Try.underlying26 hj hy0 hy1 hy2 rfl (by decide) (.slice A (placeN rs k) c) (placeN rs k) xs rfl ((HKS.out _).alloc _) ⟨wr.heap.size + 1, 0, none⟩ 1 1 (cells8 ss[k] (.slice nao ss[k].next.length ncap)) rfl rfl (cells8_new _ ss[k] _ _ (by simp [World.setCell])) (cells8_one _ _ _ _) (by decide) (by unfold maxLen; omega) (by omega) (by simp [World.setCell]; omega) _ rfl ?_)
        intro g8 cap8 w8 hown8 hgrow8 _ hlt8
        have HK8 : Hid (KX (w1.heap.size + 1) w w8 (.slice (some ⟨g8, 0, none⟩) (placeN rs k + 1) cap8) (keptK ss rs (k + 1)) (xs ++ cells8 ss[k] (.slice nao ss[k].next.length ncap))) := by
          rw [Hid, HEQ.out]
          have h1 := HK.out.snoc HIU.out (by rw [HLT.out]; exact hown8)
          exact h1
        have hsz8 : w1.heap.size < w8.heap.size := Nat.lt_of_lt_of_le (by simp [World.setCell]; omega) hgrow8.size
        have HB8 : Hid (Below w1.heap.size w1 w8) := Below.mono (((HBS.out _).alloc (by simp [World.setCell]; omega) _).grown hgrow8 (by simp [World.setCell]; omega) (fun q hq => Nat.le_of_succ_le (HKR.out.lt q hq).1)) (Nat.le_refl _)
        have HR8 : Hid (w8.rowIs w1.heap.size 3 ss.length (fun j => .int .i64 (if j < k + 1 then (placeN rs j : Int) else 0))) := ((HSET.out _).alloc _).of_block (hgrow8.block _ (by simp [World.setCell]; omega) fun e => by have := (HKR.out.lt _ e.symm).1; omega)
        clear hown8 hgrow8 hlt8
        go_wp2
        go_roundw
        case rel => exact ⟨k + 1, _, by omega, by go_num, HB8.out, HR8.out, HK8.out⟩
        case measure => simp [intOf]; omega
    · have hki : ¬ (k : Int) < (ss.length : Int) := by omega
      obtain rfl : k = ss.length := by omega
      have hmem : ∀ s ∈ keptK ss rs ss.length, s ∈ ss := fun s hs => keptK_mem (Nat.le_refl _) hs
      have HMEM : Hid _ := hmem
      clear hb hrow hmem
      go_wp2_with fail
      refine led_any _ (keptK ss rs ss.length) _ ss.length ss.length (placeI rs) _ (HK.out.at HBw.out) (by rw [HLT.out]; omega) (fun s hs => (ok_fitN HOK.out).1 s (HMEM.out s hs)) (fun i s hs t ht => ?_) fun v4 xs4 nvs4 w4 hP4 hb4 => ?_
      · have hx := mem_of_getD ht
        obtain ⟨h0, h1⟩ := (ok_fitN HOK.out).2 s (HMEM.out s (List.mem_of_getElem? hs)) _ hx
        refine ⟨(s.next.getD t 0).toNat, by omega, by omega, ?_⟩
        have hm : (s.next.getD t 0).toNat < ss.length := by omega
        have := HROW.out.cell hm
        rw [if_pos hm] at this
        rw [this]
        simp only [placeI]
        congr 3
      · rw [keptK_map] at hP4
        have HP4 : Hid _ := hP4
        have HB4 : Hid (Below w.heap.size w w4) := HBw.out.trans (hb4.mono HBw.out.size)
        have hszw := HBw.out.size
        clear hP4 hb4
        go_wp2
        exact HQ.out _ rs xs4 nvs4 _ HRS.out (HP4.out.lower hszw) HB4.out
end Go.Proofs.Ytancacjnbbdbfaa
