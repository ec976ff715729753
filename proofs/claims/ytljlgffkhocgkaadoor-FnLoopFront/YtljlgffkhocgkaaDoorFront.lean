/- What the program's front answers: where what a step stands over ends. -/
import Derived.Test.YtljlgffkhocgkaaDoorListS
import Derived.Test.YtljlgffkhocgkaaDoorHeadP
import Derived.Test.YtljlgffkhocgkaaDoorFrontP
namespace Go.Proofs.YtljlgffkhocgkaaDoor
open Go.RowKit

theorem front_bits {ss : List St} (hok : okB ss = true) {a u : BitVec 64} {i x : Nat} (ha : ∀ p, p < 64 → (a.getLsbD p = true ↔ (Reaches ss p ∧ Edge ss p x))) (hu : ∀ p, p < 64 → (u.getLsbD p = true ↔ Dom ss i p)) : ((a &&& u) ≠ 0#64) ↔ ∃ p, Reaches ss p ∧ Edge ss p x ∧ Dom ss i p := by
  have hl := ok_len hok
  constructor
  · intro h
    apply Classical.byContradiction
    intro hn
    apply h
    apply bs_eq
    intro p hp
    rw [BitVec.getLsbD_and]
    cases e1 : a.getLsbD p <;> cases e2 : u.getLsbD p <;> simp
    have h1 := (ha p hp).1 e1
    exact hn ⟨p, h1.1, h1.2, (hu p hp).1 e2⟩
  · rintro ⟨p, h1, h2, h3⟩ h
    have hp := reach_lt hok h1
    have e1 := (ha p (by omega)).2 ⟨h1, h2⟩
    have e2 := (hu p (by omega)).2 h3
    have : (a &&& u).getLsbD p = true := by rw [BitVec.getLsbD_and, e1, e2]; rfl
    rw [h] at this
    simp at this

set_option maxRecDepth 100000 in
set_option maxHeartbeats 2000000 in
theorem front_any {Q : Ending → World → Prop} {ss : List St} (hok : okB ss = true) (ag ug i : Nat) (ah un : Nat → BitVec 64) (w : World) (hi : i < ss.length) (hA : w.rowIs ag 66 ss.length (fun j => bsV (ah j))) (hU : w.rowIs ug 66 ss.length (fun j => bsV (un j)))
    (hah : ∀ j x, j < ss.length → x < 64 → ((ah j).getLsbD x = true ↔ (Reaches ss x ∧ Edge ss x j))) (hun : ∀ j x, j < ss.length → x < 64 → ((un j).getLsbD x = true ↔ Dom ss j x))
    (hQ : ∀ (F : BitVec 64) w', Below w.heap.size w w' → (∀ x, x < 64 → (F.getLsbD x = true ↔ (x < ss.length ∧ IsFront ss i x))) → Q (.returned (bsV F)) w') :
    Calls Tryd.prog 41 #[.agg #[.slice (some ⟨ag, 0, none⟩) ss.length ss.length, .slice (some ⟨ug, 0, none⟩) ss.length ss.length], .int .i64 (i : Int)] w Q := by
  have HQ : Hid _ := hQ
  have HOK : Hid (okB ss = true) := hok
  have HA : Hid (w.rowIs ag 66 ss.length (fun j => bsV (ah j))) := hA
  have HU : Hid (w.rowIs ug 66 ss.length (fun j => bsV (un j))) := hU
  have HAH : Hid _ := hah
  have HUN : Hid _ := hun
  obtain ⟨hn1, hn2⟩ := ok_len hok
  have hii : (i : Int) < (ss.length : Int) := by omega
  have hal := hA.lt
  have hul := hU.lt
  clear hQ hok hA hU hah hun
  go_enter Tryd.func41, Tryd.ntmps41
  go_wp2_with fail
  have hb0 : Below w.heap.size w ((w.alloc (.cells #[.slice (some ⟨ag, 0, none⟩) ss.length ss.length, .slice (some ⟨ug, 0, none⟩) ss.length ss.length] 76)).alloc (.cells #[.int .u64 0] 66)) := ((Below.refl _ w).alloc (Nat.le_refl _) _).alloc (by simp) _
  have hr0 : ((w.alloc (.cells #[.slice (some ⟨ag, 0, none⟩) ss.length ss.length, .slice (some ⟨ug, 0, none⟩) ss.length ss.length] 76)).alloc (.cells #[.int .u64 0] 66)).rowIs (w.heap.size + 1) 66 1 (fun _ => bsV 0#64) := by
    have h9 := World.rowIs_alloc (w.alloc (.cells #[.slice (some ⟨ag, 0, none⟩) ss.length ss.length, .slice (some ⟨ug, 0, none⟩) ss.length ss.length] 76)) #[.int .u64 0] 66 (fun _ => bsV 0#64) (fun i hi => by simp at hi; subst hi; rfl)
    rw [World.size_alloc] at h9
    exact h9
  have n0 : ((w.alloc (.cells #[.slice (some ⟨ag, 0, none⟩) ss.length ss.length, .slice (some ⟨ug, 0, none⟩) ss.length ss.length] 76)).alloc (.cells #[.int .u64 0] 66)).cell? ⟨w.heap.size, 0, none⟩ = some (.slice (some ⟨ag, 0, none⟩) ss.length ss.length) := by simp [go_sem]
  have n1 : ((w.alloc (.cells #[.slice (some ⟨ag, 0, none⟩) ss.length ss.length, .slice (some ⟨ug, 0, none⟩) ss.length ss.length] 76)).alloc (.cells #[.int .u64 0] 66)).cell? ⟨w.heap.size, 1, none⟩ = some (.slice (some ⟨ug, 0, none⟩) ss.length ss.length) := by simp [go_sem]
  have hs0 : ((w.alloc (.cells #[.slice (some ⟨ag, 0, none⟩) ss.length ss.length, .slice (some ⟨ug, 0, none⟩) ss.length ss.length] 76)).alloc (.cells #[.int .u64 0] 66)).heap.size = w.heap.size + 2 := by simp
  generalize hW : (w.alloc (.cells #[.slice (some ⟨ag, 0, none⟩) ss.length ss.length, .slice (some ⟨ug, 0, none⟩) ss.length ss.length] 76)).alloc (.cells #[.int .u64 0] 66) = W0 at *
  have HB0 : Hid (Below w.heap.size w W0) := hb0
  have HR0 : Hid (W0.rowIs (w.heap.size + 1) 66 1 (fun _ => bsV 0#64)) := hr0
  have HN0 : Hid (W0.cell? ⟨w.heap.size, 0, none⟩ = some (.slice (some ⟨ag, 0, none⟩) ss.length ss.length)) := n0
  have HN1 : Hid (W0.cell? ⟨w.heap.size, 1, none⟩ = some (.slice (some ⟨ug, 0, none⟩) ss.length ss.length)) := n1
  clear hW hb0 hr0 n0 n1
  go_loopw [11] (fun k wr => ∃ (t : Nat) (F : BitVec 64), t ≤ ss.length ∧ k = .int .i64 t ∧ Out (w.heap.size + 1) (w.heap.size + 2) W0 wr ∧ wr.rowIs (w.heap.size + 1) 66 1 (fun _ => bsV F) ∧ ∀ x, x < 64 → (F.getLsbD x = true ↔ (x < t ∧ IsFront ss i x))) (fun k _ => ss.length - (intOf k).toNat)
  case atStart => exact ⟨0, 0#64, Nat.zero_le _, rfl, Out.refl _ _ _, HR0.out, fun x _ => by simp⟩
  case round =>
    obtain ⟨t, F, ht, rfl, hO, hrow, hF⟩ := hrel
    have HO : Hid (Out (w.heap.size + 1) (w.heap.size + 2) W0 wr) := hO
    have HROW : Hid (wr.rowIs (w.heap.size + 1) 66 1 (fun _ => bsV F)) := hrow
    have HF : Hid (∀ x, x < 64 → (F.getLsbD x = true ↔ (x < t ∧ IsFront ss i x))) := hF
    have n0 := hO.cell HN0.out (Or.inl (by show w.heap.size < w.heap.size + 1; omega))
    have n1 := hO.cell HN1.out (Or.inl (by show w.heap.size < w.heap.size + 1; omega))
    have hbw : Below w.heap.size w wr := HB0.out.trans (hO.below (by omega) (by omega))
    have HBW : Hid (Below w.heap.size w wr) := hbw
    have cF := hrow.cell (i := 0) (by omega)
    have fF := hrow.frozen 0
    clear hF hO
    by_cases htl : t < ss.length
    · have hti : (t : Int) < (ss.length : Int) := by omega
      have ca := (rowIs_keep HA.out hbw).cell htl
      have cu := (rowIs_keep HU.out hbw).cell hi
      unfold bsV at ca cu
      have HAND : Hid (bits BinOp.and IntKind.u64 ((ah t).toNat : Int) ((un i).toNat : Int) = ((ah t &&& un i).toNat : Int)) := bits_and _ _
      have HFB : Hid ((ah t &&& un i) ≠ 0#64 ↔ ∃ p, Reaches ss p ∧ Edge ss p t ∧ Dom ss i p) := front_bits HOK.out (fun p hp => HAH.out t p htl hp) (fun p hp => HUN.out i p hi hp)
      have HUT : Hid ((un i).getLsbD t = true ↔ Dom ss i t) := HUN.out i t hi (by omega)
      have cF2 : wr.cell? ⟨w.heap.size + 1, 0, none⟩ = some (bsV F) := cF
      clear hbw hrow cF
      have HYES : Hid (IsFront ss i t → ∀ x, x < 64 → ((addB F t).getLsbD x = true ↔ (x < t + 1 ∧ IsFront ss i x))) := by
        intro hfr x hx
        rw [addB_get (by omega) hx, Bool.or_eq_true, HF.out x hx, decide_eq_true_eq]
        constructor
        · rintro (h | rfl)
          · exact ⟨by omega, h.2⟩
          · exact ⟨by omega, hfr⟩
        · rintro ⟨h1, h2⟩
          by_cases e : x = t
          · exact Or.inr e
          · exact Or.inl ⟨by omega, h2⟩
      have HNO : Hid (¬ IsFront ss i t → ∀ x, x < 64 → (F.getLsbD x = true ↔ (x < t + 1 ∧ IsFront ss i x))) := by
        intro hfr x hx
        rw [HF.out x hx]
        constructor
        · exact fun h => ⟨by omega, h.2⟩
        · rintro ⟨h1, h2⟩
          by_cases e : x = t
          · subst e; exact absurd h2 hfr
          · exact ⟨by omega, h2⟩
      by_cases hz : (ah t &&& un i) = 0#64
      · have hand : bits BinOp.and IntKind.u64 ((ah t).toNat : Int) ((un i).toNat : Int) = 0 := by rw [HAND.out]; exact bs_zero.2 hz
        have HIF : Hid (¬ IsFront ss i t) := fun h => (HFB.out.2 h.1) hz
        clear hz
        go_wp2
        go_roundw
        case rel => exact ⟨t + 1, F, by omega, by go_num, HO.out, HROW.out, HNO.out HIF.out⟩
        case measure => simp [intOf]; omega
      · have hand : ¬ bits BinOp.and IntKind.u64 ((ah t).toNat : Int) ((un i).toNat : Int) = 0 := by rw [HAND.out]; exact fun e => hz (bs_zero.1 e)
        have handb : (bits BinOp.and IntKind.u64 ((ah t).toNat : Int) ((un i).toNat : Int) == 0) = false := beq_eq_false_iff_ne.2 hand
        have HEX : Hid (∃ p, Reaches ss p ∧ Edge ss p t ∧ Dom ss i p) := HFB.out.1 hz
        clear hz
        by_cases hti2 : t = i
        · subst hti2
          have HIF : Hid (IsFront ss t t) := ⟨HEX.out, Or.inl rfl⟩
          go_wp2_with fail
          refine add_any (w.heap.size + 1) 0 F t _ (by omega) cF2 fF fun v9 => ?_
          have HROW9 : Hid ((wr.setCell ⟨w.heap.size + 1, 0, none⟩ (bsV (addB F t))).drew.rowIs (w.heap.size + 1) 66 1 (fun _ => bsV (addB F t))) := by
            refine (HROW.out.set 0 _).congr fun j hj => ?_
            have : j = 0 := by omega
            simp [this]
          have HO9 : Hid (Out (w.heap.size + 1) (w.heap.size + 2) W0 (wr.setCell ⟨w.heap.size + 1, 0, none⟩ (bsV (addB F t))).drew) := (HO.out.setCell (p := ⟨w.heap.size + 1, 0, none⟩) (Nat.le_refl _) (by show w.heap.size + 1 < w.heap.size + 2; omega) _).trans (Out.of_below ((Below.refl _ _).drew))
          generalize (wr.setCell ⟨w.heap.size + 1, 0, none⟩ (bsV (addB F t))).drew = W9 at *
          clear cF2 fF n0 n1 ca cu
          go_wp2
          go_roundw
          case rel => exact ⟨t + 1, addB F t, by omega, by go_num, HO9.out, HROW9.out, HYES.out HIF.out⟩
          case measure => simp [intOf]; omega
        · have htb : ((t : Int) == (i : Int)) = false := by rw [beq_eq_false_iff_ne]; omega
          go_wp2_with fail
          refine has_any (un i) t _ (by omega) ?_
          cases hb : (un i).getLsbD t
          · have HIF : Hid (IsFront ss i t) := ⟨HEX.out, Or.inr fun hd => by have := HUT.out.2 hd; rw [hb] at this; cases this⟩
            clear hb
            go_wp2_with fail
            refine add_any (w.heap.size + 1) 0 F t _ (by omega) cF2 fF fun v9 => ?_
            have HROW9 : Hid ((wr.setCell ⟨w.heap.size + 1, 0, none⟩ (bsV (addB F t))).drew.rowIs (w.heap.size + 1) 66 1 (fun _ => bsV (addB F t))) := by
              refine (HROW.out.set 0 _).congr fun j hj => ?_
              have : j = 0 := by omega
              simp [this]
            have HO9 : Hid (Out (w.heap.size + 1) (w.heap.size + 2) W0 (wr.setCell ⟨w.heap.size + 1, 0, none⟩ (bsV (addB F t))).drew) := (HO.out.setCell (p := ⟨w.heap.size + 1, 0, none⟩) (Nat.le_refl _) (by show w.heap.size + 1 < w.heap.size + 2; omega) _).trans (Out.of_below ((Below.refl _ _).drew))
            generalize (wr.setCell ⟨w.heap.size + 1, 0, none⟩ (bsV (addB F t))).drew = W9 at *
            clear cF2 fF n0 n1 ca cu
            go_wp2
            go_roundw
            case rel => exact ⟨t + 1, addB F t, by omega, by go_num, HO9.out, HROW9.out, HYES.out HIF.out⟩
            case measure => simp [intOf]; omega
          · have HIF : Hid (¬ IsFront ss i t) := fun h => by
              rcases h.2 with e | e
              · exact hti2 e
              · exact e (HUT.out.1 hb)
            clear hb
            go_wp2
            go_roundw
            case rel => exact ⟨t + 1, F, by omega, by go_num, HO.out, HROW.out, HNO.out HIF.out⟩
            case measure => simp [intOf]; omega
    · have hti : ¬ (t : Int) < (ss.length : Int) := by omega
      obtain rfl : t = ss.length := by omega
      unfold bsV at cF
      clear hbw hrow
      go_wp2
      exact HQ.out F _ HBW.out HF.out
end Go.Proofs.YtljlgffkhocgkaaDoor
