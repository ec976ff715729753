/- What the program's led and copied answer. -/
import Derived.Test.YtancacjnbbdbfaaImplLed
import Derived.Deep.RegionLaw
import Derived.Deep.AppendLies
namespace Go.Proofs.Ytancacjnbbdbfaa
open Go.RowKit

/-- The ways lead to places that the list tells of. -/
def ToAt (w : World) (g tn : Nat) (tf : Int → Int) (ss : List St) : Prop := ∀ (i : Nat) (s : St), ss[i]? = some s → ∀ t, t < s.next.length → ∃ m : Nat, s.next.getD t 0 = (m : Int) ∧ m < tn ∧ w.cell? ⟨g, m, none⟩ = some (.int .i64 (tf (m : Int)))

def ledF (tf : Int → Int) (ss : List St) (k j : Nat) : St := if j < k then mapNext tf (ss.getD j step00) else step00

def ledT (tf : Int → Int) (ss : List St) (k t j : Nat) : St := if j = k then { ss.getD k step00 with next := ((ss.getD k step00).next.take t).map tf } else ledF tf ss k j

theorem ledT_at {tf : Int → Int} {ss : List St} {k : Nat} (hk : k < ss.length) (t : Nat) : ledT tf ss k t k = { ss[k] with next := (ss[k].next.take t).map tf } := by
  have e : ss.getD k step00 = ss[k] := by simp [List.getD, hk]
  unfold ledT
  rw [if_pos rfl, e]

theorem ledT_zero {tf : Int → Int} {ss : List St} {k : Nat} (hk : k < ss.length) (j : Nat) : ledT tf ss k 0 j = if j = k then { ss[k] with next := [] } else ledF tf ss k j := by
  have e : ss.getD k step00 = ss[k] := by simp [List.getD, hk]
  unfold ledT
  rw [e]
  rfl

theorem ledT_succ {tf : Int → Int} {ss : List St} {k t : Nat} (hk : k < ss.length) (ht : t < ss[k].next.length) (j : Nat) : ledT tf ss k (t + 1) j = if j = k then { ({ ss[k] with next := (ss[k].next.take t).map tf } : St) with next := (ss[k].next.take t).map tf ++ [tf (ss[k].next.getD t 0)] } else ledT tf ss k t j := by
  have e : ss.getD k step00 = ss[k] := by simp [List.getD, hk]
  unfold ledT
  by_cases h : j = k
  · rw [if_pos h, if_pos h, e, take_map_succ ht]
  · rw [if_neg h, if_neg h, if_neg h]

theorem ledT_all {tf : Int → Int} {ss : List St} {k : Nat} (hk : k < ss.length) (j : Nat) : ledF tf ss (k + 1) j = ledT tf ss k ss[k].next.length j := by
  have e : ss.getD k step00 = ss[k] := by simp [List.getD, hk]
  unfold ledT ledF
  by_cases h : j = k
  · subst h
    rw [if_pos (by omega), if_pos rfl, e, List.take_of_length_le (Nat.le_refl _)]
    rfl
  · rw [if_neg h]
    by_cases h2 : j < k
    · rw [if_pos (by omega), if_pos h2]
    · rw [if_neg (by omega), if_neg h2]

set_option maxRecDepth 100000 in
set_option maxHeartbeats 8000000 in
theorem led_any {Q : Ending → World → Prop} (v : Value) (ss : List St) (g tn tc : Nat) (tf : Int → Int) (w : World) (h : StepsAt w v ss) (hl : ss.length ≤ 200) (hls : ∀ s ∈ ss, s.next.length ≤ 2) (hto : ToAt w g tn tf ss) 
    (hQ : ∀ v' xs nvs w', PO w.heap.size w' v' (ss.map (mapNext tf)) xs nvs → Below w.heap.size w w' → Q (.returned v') w') :
    Calls Try.prog 40 #[v, .slice (some ⟨g, 0, none⟩) tn tc] w Q := by
  have HQ : Hid _ := hQ
  clear hQ
  obtain ⟨ao, b, o, cap, rfl, ha, hc⟩ := h
  have HA : Hid _ := ha
  have HC : Hid _ := hc
  have HLS : Hid (∀ s ∈ ss, s.next.length ≤ 2) := hls
  have HTO : Hid (ToAt w g tn tf ss) := hto
  clear ha hc hls hto
  obtain ⟨i0, hi, hz0, hz1, hz2⟩ := info_parts infoInt2
  go_enter Try.func40, Try.ntmps40
  go_wp2_with (at_make; refine wpList_make_steps _ rfl (.tmp 11) (.tmp 11) 26 rfl Try.underlying26 infoStep1 .i64 .i64 ss.length rfl rfl (by omega) ?_; intro w1 xs1 hP1 hb1 hs1)
  have HP1 : Hid (PF w.heap.size w1 (.slice (some ⟨w.heap.size, 0, none⟩) ss.length ss.length) ss.length (fun _ => step00) xs1 (fun _ => .slice none 0 0)) := hP1
  have HB1 : Hid (Below w.heap.size w w1) := hb1
  clear hP1 hb1 hs1
  go_loopw [15] (fun i wr => ∃ (k : Nat) (xs : List Value) (nvs : Nat → Value), k ≤ ss.length ∧ i = .int .i64 k ∧ Below w.heap.size w wr ∧ PF w.heap.size wr (.slice (some ⟨w.heap.size, 0, none⟩) ss.length ss.length) ss.length (ledF tf ss k) xs nvs ∧ Apart nvs ss.length ∧ Hid (∀ j, k ≤ j → nvs j = .slice none 0 0)) (fun i _ => ss.length - (intOf i).toNat)
  case atStart => exact ⟨0, xs1, _, Nat.zero_le _, rfl, HB1.out, HP1.out.congr fun i _ => by simp [ledF], fun i j q _ _ _ hk => by simp [Value.ownBlock] at hk, fun _ _ => rfl⟩
  case round =>
    obtain ⟨k, xs, nvs, hk, rfl, hb, hP, hap, HNIL⟩ := hrel
    have HB : Hid (Below w.heap.size w wr) := hb
    have HP : Hid (PF w.heap.size wr (.slice (some ⟨w.heap.size, 0, none⟩) ss.length ss.length) ss.length (ledF tf ss k) xs nvs) := hP
    have HAP : Hid (Apart nvs ss.length) := hap
    by_cases hkl : k < ss.length
    · have hki : (k : Int) < (ss.length : Int) := by omega
      obtain rfl := HA.out (by omega)
      have hss : ss[k]? = some ss[k] := by simp [hkl]
      obtain ⟨nu, cu, iu⟩ := HC.out k ss[k] hss
      obtain ⟨nao, nb, no, ncap, rfl, hna, hnc⟩ := id iu
      obtain ⟨c0, c1, c2, c3, c4, c5, c6, c7⟩ := cu.keep hb
      have HNA : Hid _ := hna
      have HNC : Hid _ := hnc
      have h2 := HLS.out _ (List.getElem_mem hkl)
      have HTK : Hid (∀ t, t < ss[k].next.length → ∃ m : Nat, ss[k].next.getD t 0 = (m : Int) ∧ m < tn ∧ w.cell? ⟨g, m, none⟩ = some (.int .i64 (tf (m : Int)))) := HTO.out k ss[k] hss
      obtain ⟨A9, c9, hv9, hat9⟩ := hP.at
      obtain ⟨g9, hg9, _, hlt9, hd9, hf9⟩ := hat9 k hkl
      obtain ⟨rfl⟩ : A9 = some ⟨w.heap.size, 0, none⟩ := by cases hv9; rfl
      obtain rfl : w.heap.size = g9 := by cases hg9; rfl
      obtain ⟨d0, d1, d2, d3, d4, d5, d6, d7⟩ := hd9
      clear cu iu hna hnc hb hP hap hv9 hg9 hat9
      go_wp2_with fail
      obtain ⟨ys, hPN⟩ := PF.fresh rfl HP.out hkl ss[k] (.slice nao ss[k].next.length ncap) (.cells #[.int .i64 ss[k].kind, .int .i64 ss[k].dst, .int .i64 ss[k].op, .int .i64 ss[k].av, .int .i64 ss[k].an, .int .i64 ss[k].bv, .int .i64 ss[k].bn, .slice nao ss[k].next.length ncap] 43)
      have HPN : Hid _ := hPN
      have HBN : Hid (Below w.heap.size w (((set8 wr w.heap.size (k * 8) ss[k] (.slice nao ss[k].next.length ncap)).setCell ⟨w.heap.size, k * 8 + 7, none⟩ (.slice none 0 0)).alloc (.cells #[.int .i64 ss[k].kind, .int .i64 ss[k].dst, .int .i64 ss[k].op, .int .i64 ss[k].av, .int .i64 ss[k].an, .int .i64 ss[k].bv, .int .i64 ss[k].bn, .slice nao ss[k].next.length ncap] 43))) := ((set8_below HB.out (Nat.le_refl _)).setCell (Nat.le_refl _) _).alloc (by simp [World.setCell, set8]; omega) _
      have HAN : Hid (Apart (fun j => if j = k then .slice none 0 0 else nvs j) ss.length) := by
        intro i j q hi hj hij
        by_cases e1 : i = k
        · simp [e1, Value.ownBlock]
        · by_cases e2 : j = k
          · simp [e2, Value.ownBlock]
          · simp only [if_neg e1, if_neg e2]
            exact HAP.out i j q hi hj hij
      have HNN : Hid (∀ j, k + 1 ≤ j → nvs j = .slice none 0 0) := fun j hj => HNIL.out j (by omega)
      clear hPN c0 c1 c2 c3 c4 c5 c6 c7 d0 d1 d2 d3 d4 d5 d6 d7 hf9
      generalize wr = W5 at *
      go_loopw [31] (fun i wr => ∃ (t : Nat) (xs : List Value) (nvs : Nat → Value), t ≤ ss[k].next.length ∧ i = .int .i64 t ∧ Below w.heap.size w wr ∧ PF w.heap.size wr (.slice (some ⟨w.heap.size, 0, none⟩) ss.length ss.length) ss.length (ledT tf ss k t) xs nvs ∧ Apart nvs ss.length ∧ Hid (∀ j, k + 1 ≤ j → nvs j = .slice none 0 0)) (fun i _ => ss[k].next.length - (intOf i).toNat)
      case atStart => exact ⟨0, _, _, Nat.zero_le _, rfl, HBN.out, HPN.out.congr fun j _ => ledT_zero hkl j, HAN.out, fun j hj => by simp only [if_neg (show ¬ j = k by omega)]; exact HNN.out j hj⟩
      case round =>
        clear HP HAP HNIL HPN HBN HAN HNN HB
        obtain ⟨t, xs, nvs, ht, rfl, hb, hP, hap, HNIL⟩ := hrel
        have HB : Hid (Below w.heap.size w wr) := hb
        have HP : Hid (PF w.heap.size wr (.slice (some ⟨w.heap.size, 0, none⟩) ss.length ss.length) ss.length (ledT tf ss k t) xs nvs) := hP
        have HAP : Hid (Apart nvs ss.length) := hap
        have hbsz := hb.size
        by_cases htl : t < ss[k].next.length
        · have hti : (t : Int) < (ss[k].next.length : Int) := by omega
          obtain rfl := HNA.out (by omega)
          obtain ⟨m, hm, hmn, hmc⟩ := HTK.out t htl
          have cx := cell_keep hb (HNC.out t htl)
          rw [hm] at cx
          have hmi : (m : Int) < (tn : Int) := by omega
          have ct := cell_keep hb hmc
          have hown := hP.own k hkl
          rw [ledT_at hkl] at hown
          have hlen : ((ss[k].next.take t).map tf).length = t := by rw [List.length_map, List.length_take]; omega
          have hown2 : wr.ownsRow w.heap.size 3 1 (nvs k) t (((ss[k].next.take t).map tf).map (Value.int .i64)) := by rw [show ({ ss[k] with next := (ss[k].next.take t).map tf } : St).next.length = t from hlen] at hown; exact hown
          obtain ⟨A6, n6, c6', hv6⟩ := own_is_slice hown2
          have HV6 : Hid (nvs k = .slice A6 n6 c6') := hv6
          rw [hv6] at hown2
          have HLV : Hid (wr.ownsRow w.heap.size 3 1 (.slice A6 n6 c6') t (((ss[k].next.take t).map tf).map (Value.int .i64))) := hown2
          have hx7 := (hP.cells k hkl).cells.2.2.2.2.2.2.2
          rw [hv6] at hx7
          have HX7 : Hid (xs[k * 8 + 7]? = some (.slice A6 n6 c6')) := hx7
          have d7 := (hP.row.cellAt (k * 8 + 7) (by omega)).trans hx7
          have hltD : w.heap.size < wr.heap.size := cell_lt d7
          have hneD : w.heap.size ≠ wr.heap.size := by omega
          have HPA : Hid (∀ O, PF w.heap.size (wr.alloc O).drew (.slice (some ⟨w.heap.size, 0, none⟩) ss.length ss.length) ss.length (ledT tf ss k t) xs nvs) := fun O => hP.keep (((Below.refl _ _).alloc (Nat.le_refl _) O).drew)
          have HBA : Hid (∀ O, Below w.heap.size w (wr.alloc O).drew) := fun O => (hb.alloc (by omega) O).drew
          have HBD : Hid (∀ j q, j < ss.length → (nvs j).ownBlock = some q → q < wr.heap.size + 1) := fun j q hj hq => Nat.lt_succ_of_lt (hP.nvLt hj hq)
          have HSU : Hid _ := ledT_succ (tf := tf) hkl htl
          rw [hm] at HSU
          clear hb hP hap hm hmc hown hown2 hv6 hx7
          go_wp2_with fail
          go_region_law (first | (refine step_append_lies _ rfl (.tmp 41) (.tmp 46) 41 rfl w.heap.size 3 i0 (.int .i64 0) 1 8 Try.underlying41 hi hz0 hz1 hz2 rfl (by decide) (.slice A6 n6 c6') t (((ss[k].next.take t).map tf).map (Value.int .i64)) (by simp [Act.eval]) (HLV.out.alloc _) ⟨wr.heap.size, 0, none⟩ 1 1 [.int .i64 (tf (m : Int))] (by simp [Act.eval]) rfl (one_newA (by simp [go_sem])) (int_oneCell _ _) (by decide) (by unfold maxLen; omega) (by omega) (by simp; omega) (wr.heap.size + 1) (by simp) ?_; intro g8 cap8 w8 hown8 hgrow8 hat8 hlt8; have hrow8 := own_grow (HPA.out _).row (HLV.out.alloc _) (by decide) hgrow8; have d77 := (hrow8.cellAt (k * 8 + 7) (by omega)).trans HX7.out; have f77 := hrow8.frozenAt (k * 8 + 7)))
          all_goals
            rw [← HV6.out] at hgrow8 hat8
            obtain ⟨ys, hPN, hAN⟩ := (HPA.out _).app (ledT_at hkl t) hlen HAP.out hkl HBD.out hgrow8 hown8 hat8
            have HPN : Hid _ := hPN
            have HAN : Hid _ := hAN
            have HBN : Hid (Below w.heap.size w (w8.setCell ⟨w.heap.size, k * 8 + 7, none⟩ (.slice (some ⟨g8, 0, none⟩) (t + 1) cap8))) := Below.setCell ((HBA.out _).grown hgrow8 (by simp; omega) (fun q hq => by rw [HV6.out] at hq; exact (HLV.out.lt q hq).1)) (Nat.le_refl _) _
            clear hPN hAN hown8 hgrow8 hat8 hrow8 d77 f77 d7 cx ct
            go_wp2
            go_roundw
            case rel => exact ⟨t + 1, _, _, by omega, by go_num, HBN.out, HPN.out.congr fun j _ => HSU.out j, HAN.out, fun j hj => by simp only [if_neg (show ¬ j = k by omega)]; exact HNIL.out j hj⟩
            case measure => simp [intOf]; omega
        · have hti : ¬ (t : Int) < (ss[k].next.length : Int) := by omega
          obtain rfl : t = ss[k].next.length := by omega
          clear hb hP hap
          go_wp2
          go_roundw
          case rel => exact ⟨k + 1, _, _, by omega, by go_num, HB.out, HP.out.congr fun j _ => ledT_all hkl j, HAP.out, HNIL.out⟩
          case measure => simp [intOf]; omega
    · have hki : ¬ (k : Int) < (ss.length : Int) := by omega
      obtain rfl : k = ss.length := by omega
      clear hb hP hap
      go_wp2
      refine HQ.out _ xs nvs _ ?_ HB.out
      have h1 := HP.out.po HAP.out
      have e : (List.range ss.length).map (ledF tf ss ss.length) = ss.map (mapNext tf) := by
        apply List.ext_getElem?
        intro i
        by_cases hi : i < ss.length
        · simp [hi, ledF, List.getD]
        · simp [hi]
      rwa [e] at h1

theorem samePlaces_led (ss : List St) : ss.map (mapNext id) = ss := by
  have e : mapNext id = id := by funext s; simp [mapNext]
  rw [e, List.map_id]

set_option maxRecDepth 100000 in
set_option maxHeartbeats 1000000 in
theorem copied_any {Q : Ending → World → Prop} (v : Value) (ss : List St) (w : World) (h : StepsAt w v ss) (hf : FitN ss) (hl : ss.length ≤ 200)
    (hQ : ∀ v' xs nvs w', PO w.heap.size w' v' ss xs nvs → Below w.heap.size w w' → Q (.returned v') w') :
    Calls Try.prog 61 #[v] w Q := by
  have HQ : Hid _ := hQ
  clear hQ
  have HF : Hid (FitN ss) := hf
  have HH : Hid (StepsAt w v ss) := h
  obtain ⟨ao, b, o, cap, rfl, _, _⟩ := id h
  clear h hf
  go_enter Try.func61, Try.ntmps61
  go_wp2_with (first | (go_at_call 71; refine samePlaces_any ss.length _ (by omega) ?_; intro w2 hb2 hrow2 hs2; have HR2 : Hid (w2.rowIs w.heap.size 3 ss.length (fun j => .int .i64 (j : Int))) := hrow2; have HB2 : Hid (Below w.heap.size w w2) := hb2; clear hb2 hrow2) | (go_at_call 40; refine led_any _ ss _ ss.length ss.length id _ (HH.out.keep HB2.out) hl HF.out.1 (fun i s hs t ht => ?_) ?_))
  · obtain ⟨x, hx⟩ : ∃ x, x ∈ s.next ∧ x = s.next.getD t 0 := ⟨_, mem_of_getD ht, rfl⟩
    obtain ⟨h0, h1⟩ := HF.out.2 s (List.mem_of_getElem? hs) x hx.1
    refine ⟨x.toNat, by rw [← hx.2]; omega, by omega, ?_⟩
    have := HR2.out.cell (show x.toNat < ss.length by omega)
    simpa using this
  · intro v3 xs nvs w3 hP hb3
    rw [samePlaces_led] at hP
    have HP3 : Hid (PO (w.heap.size + 1) w3 v3 ss xs nvs) := hP
    have hb3' : Below w.heap.size w w3 := HB2.out.trans (hb3.mono (Nat.le_succ _))
    have HB3 : Hid (Below w.heap.size w w3) := hb3'
    have hsz := HB2.out.size
    clear hP hb3 hb3'
    go_wp2
    exact HQ.out _ xs nvs _ (HP3.out.lower (by omega)) HB3.out
end Go.Proofs.Ytancacjnbbdbfaa
