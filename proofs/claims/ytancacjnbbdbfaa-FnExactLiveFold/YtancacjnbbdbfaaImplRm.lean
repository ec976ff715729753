/- What the program's remade answers: of each step what becomes of it. -/
import Derived.Test.YtancacjnbbdbfaaImplLedB
import Derived.Test.YtancacjnbbdbfaaPut8
namespace Go.Proofs.Ytancacjnbbdbfaa
open Go.RowKit

/-- A step that comes back: its list is the one that went in, or new. -/
def BecRes (w w' : World) (nv nv' : Value) (s t : St) : Prop := (nv' = nv ∧ t.next = s.next) ∨ ∃ g, w.heap.size ≤ g ∧ nv' = .slice (some ⟨g, 0, none⟩) 1 1 ∧ t.next.length = 1 ∧ w'.ownsRow w.heap.size 3 1 nv' t.next.length (t.next.map (Value.int .i64))

def remF (T : Nat → St → St) (ss : List St) (k j : Nat) : St := if j < k then T j (ss.getD j step00) else ss.getD j step00

def remL (T : Nat → St → St) (ss : List St) : List St := (List.range ss.length).map (remF T ss ss.length)

set_option maxRecDepth 100000 in
set_option maxHeartbeats 4000000 in
theorem remade_any {Q : Ending → World → Prop} (g : Nat) (lb : Array Value) (eg : ∀ args w, (callFunc g args).run Try.prog w = .ok (.enter g args) w) (T : Nat → St → St) (v : Value) (ss : List St) (w : World) (h : StepsAt w v ss) (hok : okB ss = true)
    (hp : ∀ (W : World) (i : Nat) (s : St) (nv : Value), Below w.heap.size w W → ss[i]? = some s → IntsAt W nv s.next → ∀ {Q' : Ending → World → Prop}, (∀ nv' W', Below W.heap.size W W' → BecRes W W' nv nv' s (T i s) → Q' (.returned (stepV (T i s) nv')) W') → Calls Try.prog g (#[.int .i64 (i : Int), stepV s nv] ++ lb) W Q')
    (hQ : ∀ v' xs nvs W', Below w.heap.size w W' → PO w.heap.size W' v' (remL T ss) xs nvs → Q (.returned (.agg #[v'])) W') :
    Calls Try.prog 31 #[v, .func (.func g) #[] lb] w Q := by
  have HQ : Hid _ := hQ
  have HP : Hid _ := @hp
  clear hQ hp
  obtain ⟨hn1, hn2⟩ := ok_len hok
  have HOK : Hid (okB ss = true) := hok
  have HH : Hid (StepsAt w v ss) := h
  obtain ⟨ao, b, o, cap, rfl, _, _⟩ := id h
  clear h hok
  go_enter Try.func31, Try.ntmps31
  go_wp2_with fail
  have hb0 : ∀ O, Below w.heap.size w (w.alloc O) := fun O => (Below.refl _ _).alloc (Nat.le_refl _) O
  refine copied_any _ ss _ (HH.out.keep (hb0 _)) (ok_fitN HOK.out) (by omega) fun v1 xs1 nvs1 w1 hP1 hb1 => ?_
  have HB1 : Hid (Below w.heap.size w w1) := (hb0 _).trans (hb1.mono (by simp))
  have q1 : w1.cell? ⟨w.heap.size, 0, none⟩ = some (.slice none 0 0) := cell_keep hb1 (by simp [go_sem])
  have f1 : w1.frozen? ⟨w.heap.size, 0, none⟩ = false := (hb1.frozen (by simp)).trans (by simp [go_sem])
  have hPL := hP1.lower (show w.heap.size + 1 ≤ _ by simp)
  obtain ⟨A, c, rfl, hA⟩ := hPL.slice
  obtain ⟨gl, rfl, hgl, hglw⟩ := hA 0 (by omega)
  have HP1 : Hid (PF (w.heap.size + 1) w1 (.slice (some ⟨gl, 0, none⟩) ss.length c) ss.length (remF T ss 0) xs1 nvs1) := (hPL.pf step00).congr fun j _ => by simp [remF]
  have HA1 : Hid (Apart nvs1 ss.length) := hPL.apart
  clear hP1 hb1 hb0 hPL hA
  go_wp2_with fail
  go_loopw [12] (fun i wr => ∃ (k : Nat) (xs : List Value) (nvs : Nat → Value), k ≤ ss.length ∧ i = .int .i64 k ∧ Below w.heap.size w wr ∧ wr.cell? ⟨w.heap.size, 0, none⟩ = some (.slice none 0 0) ∧ wr.frozen? ⟨w.heap.size, 0, none⟩ = false ∧ PF (w.heap.size + 1) wr (.slice (some ⟨gl, 0, none⟩) ss.length c) ss.length (remF T ss k) xs nvs ∧ Apart nvs ss.length) (fun i _ => ss.length - (intOf i).toNat)
  case atStart => exact ⟨0, xs1, nvs1, Nat.zero_le _, rfl, HB1.out, q1, f1, HP1.out, HA1.out⟩
  case round =>
    clear HP1 HA1 HB1 q1 f1
    obtain ⟨k, xs, nvs, hk, rfl, hb, q, f, hP, hap⟩ := hrel
    have HB : Hid (Below w.heap.size w wr) := hb
    have HPF : Hid (PF (w.heap.size + 1) wr (.slice (some ⟨gl, 0, none⟩) ss.length c) ss.length (remF T ss k) xs nvs) := hP
    have HAP : Hid (Apart nvs ss.length) := hap
    by_cases hkl : k < ss.length
    · have hki : (k : Int) < (ss.length : Int) := by omega
      have hss : ss[k]? = some ss[k] := by simp [hkl]
      have HSS : Hid (ss[k]? = some ss[k]) := hss
      have hF : remF T ss k k = ss[k] := by simp [remF, List.getD, hkl]
      obtain ⟨A9, c9, hv9, hat9⟩ := hP.at
      obtain ⟨g9, hg9, _, _, hd9, _⟩ := hat9 k hkl
      cases hv9
      cases hg9
      have hown := hP.own k hkl
      rw [hF] at hd9 hown
      obtain ⟨A0, n0, k0, hn0⟩ := own_is_slice hown
      have HN0 : Hid (nvs k = .slice A0 n0 k0) := hn0
      rw [hn0] at hd9 hown
      have HIA : Hid (IntsAt wr (.slice A0 n0 k0) ss[k].next) := own_ints hown
      obtain ⟨c0, c1, c2, c3, c4, c5, c6, c7⟩ := hd9
      have hq2 : w.heap.size < wr.heap.size := cell_lt q
      clear hb hP hap hat9 hss hF hown hn0
      have hbS : ∀ O, Below wr.heap.size wr (wr.alloc O) := fun O => (Below.refl _ _).alloc (Nat.le_refl _) O
      have HBS : Hid _ := hbS
      go_wp2_with fail
      refine HP.out _ k ss[k] _ (HB.out.trans ((HBS.out _).mono HB.out.size)) HSS.out (HIA.out.keep (HBS.out _)) fun nv' W' hb' hres => ?_
      have hb2 : Below wr.heap.size wr W' := (HBS.out _).trans (hb'.mono (by simp))
      have HB2 : Hid (Below wr.heap.size wr W') := hb2
      have HPF2 : Hid (PF (w.heap.size + 1) W' (.slice (some ⟨gl, 0, none⟩) ss.length c) ss.length (remF T ss k) xs nvs) := HPF.out.keep hb2
      have q2 := cell_keep hb2 q
      have f2 := (hb2.frozen (p := ⟨w.heap.size, 0, none⟩) (cell_lt q)).trans f
      have fz := (HPF2.out.row).frozenAt
      have rd : ∀ j, j < 8 → ∃ u, W'.cell? ⟨gl, k * 8 + j, none⟩ = some u := fun j hj => by
        have hz : k * 8 + j < xs.length := by rw [HPF2.out.row.1]; omega
        exact ⟨xs[k * 8 + j], by rw [HPF2.out.row.cellAt _ (by omega)]; exact List.getElem?_eq_getElem hz⟩
      obtain ⟨v0, d0⟩ := rd 0 (by decide)
      obtain ⟨v1, d1⟩ := rd 1 (by decide)
      obtain ⟨v2, d2⟩ := rd 2 (by decide)
      obtain ⟨v3, d3⟩ := rd 3 (by decide)
      obtain ⟨v4, d4⟩ := rd 4 (by decide)
      obtain ⟨v5, d5⟩ := rd 5 (by decide)
      obtain ⟨v6, d6⟩ := rd 6 (by decide)
      obtain ⟨v7, d7⟩ := rd 7 (by decide)
      rw [Nat.add_zero] at d0
      have HREM : Hid (∀ j, remF T ss (k + 1) j = if j = k then T k ss[k] else remF T ss k j) := fun j => by
        unfold remF
        by_cases e : j = k
        · subst e
          rw [if_pos (Nat.lt_succ_self _), if_pos rfl]
          simp [List.getD, hkl]
        · rw [if_neg e]
          by_cases e2 : j < k
          · rw [if_pos (by omega), if_pos e2]
          · rw [if_neg (by omega), if_neg e2]
      have HNV : Hid (W'.ownsRow (w.heap.size + 1) 3 1 nv' (T k ss[k]).next.length ((T k ss[k]).next.map (Value.int .i64)) ∧ Apart (fun j => if j = k then nv' else nvs j) ss.length ∧ ∃ A n c, nv' = .slice A n c) := by
        rcases hres with ⟨rfl, e⟩ | ⟨g, hg, rfl, _, ho⟩
        · refine ⟨?_, fun i j q hi hj hij => ?_, _, _, _, rfl⟩
          · have h1 := HPF2.out.own k hkl
            rw [show remF T ss k k = ss[k] by simp [remF, List.getD, hkl], HN0.out] at h1
            rw [e]
            exact h1
          · have key : ∀ i, (if i = k then (.slice A0 n0 k0 : Value) else nvs i) = nvs i := fun i => by
              by_cases e : i = k
              · rw [if_pos e, e, HN0.out]
              · rw [if_neg e]
            simp only [key]
            exact HAP.out i j q hi hj hij
        · have hg1 : wr.heap.size + 1 ≤ g := by simpa using hg
          refine ⟨own_lower ho (by simp; omega), fun i j q hi hj hij => ?_, _, _, _, rfl⟩
          have old : ∀ i, i < ss.length → ∀ q, (nvs i).ownBlock = some q → q < wr.heap.size := fun i hi q hq => HPF.out.nvLt hi hq
          by_cases e1 : i = k <;> by_cases e2 : j = k
          · omega
          · simp only [if_pos e1, if_neg e2]
            intro hq hq2
            simp [Value.ownBlock] at hq
            have := old j hj q hq2
            omega
          · simp only [if_neg e1, if_pos e2]
            intro hq hq2
            simp [Value.ownBlock] at hq2
            have := old i hi q hq
            omega
          · simp only [if_neg e1, if_neg e2]
            exact HAP.out i j q hi hj hij
      obtain ⟨ys, h8⟩ := PF.put8 (o := k * 8) rfl HPF2.out hkl HNV.out.1
      have HP8 : Hid _ := h8
      have HB8 : Hid (Below w.heap.size w (set8 W' gl (k * 8) (T k ss[k]) nv')) := set8_below (HB.out.trans (hb2.mono HB.out.size)) (by omega)
      have HQ8 : Hid ((set8 W' gl (k * 8) (T k ss[k]) nv').cell? ⟨w.heap.size, 0, none⟩ = some (.slice none 0 0) ∧ (set8 W' gl (k * 8) (T k ss[k]) nv').frozen? ⟨w.heap.size, 0, none⟩ = false) := by
        have e := set8_block W' gl (k * 8) (T k ss[k]) nv' w.heap.size (by omega)
        exact ⟨(World.cell?_of_block (a := ⟨w.heap.size, 0, none⟩) e).trans q2, (World.frozen?_of_block (a := ⟨w.heap.size, 0, none⟩) e).trans f2⟩
      obtain ⟨NA, NN, NC, hnvs⟩ := HNV.out.2.2
      subst hnvs
      clear hb' hres hb2 h8 q f q2 f2 rd c0 c1 c2 c3 c4 c5 c6 c7 hbS
      generalize T k ss[k] = t at *
      unfold stepV
      go_wp2
      go_roundw
      case rel => exact ⟨k + 1, ys, _, by omega, by go_num, HB8.out, HQ8.out.1, HQ8.out.2, HP8.out.congr fun j _ => HREM.out j, HNV.out.2.1⟩
      case measure => simp [intOf]; omega
    · have hki : ¬ (k : Int) < (ss.length : Int) := by omega
      obtain rfl : k = ss.length := by omega
      clear hb hP hap
      go_wp2
      refine bodyPost_ret (v := .agg #[.slice (some ⟨gl, 0, none⟩) ss.length c]) (by simp [results, Try.results31, go_sem, q]) rfl ?_
      exact HQ.out _ xs nvs _ (HB.out.setCell (Nat.le_refl _) _) (((HPF.out.po HAP.out).below (a := ⟨w.heap.size, 0, none⟩) (Nat.lt_succ_self _) _).lower (Nat.le_succ _))
end Go.Proofs.Ytancacjnbbdbfaa
