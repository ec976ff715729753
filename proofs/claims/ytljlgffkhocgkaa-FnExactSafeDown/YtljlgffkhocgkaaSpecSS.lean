/- The model's chapter 12: what its helpers answer; a row of yes and no that is written into. The model's passes until nothing changes. -/
import Derived.Test.YtljlgffkhocgkaaSpecReach
import Derived.Test.YtljlgffkhocgkaaSpecOk
import Derived.Test.YtljlgffkhocgkaaExprO
import Derived.Test.YtljlgffkhocgkaaSafeP
import Derived.Test.YtljlgffkhocgkaaRowsO
import Derived.Test.YtljlgffkhocgkaaSafeF
import Derived.Deep.AppendLies
namespace Go.Proofs.Ytljlgffkhocgkaa
open Go.RowKit

/-- A row of the call's own, from block lo on, that holds what is so of the first n places. -/
def BoolF (lo : Nat) (w : World) (g cap n : Nat) (f : Nat → Bool) : Prop := w.ownsRow lo 4 1 (.slice (some ⟨g, 0, none⟩) n cap) n ((List.range n).map (fun j => Value.bool (f j)))

theorem BoolF.cell {lo g cap n : Nat} {w : World} {f : Nat → Bool} (h : BoolF lo w g cap n f) {j : Nat} (hj : j < n) : w.cell? ⟨g, j, none⟩ = some (.bool (f j)) := by
  rw [World.ownsRow.cellAt h j (by omega)]
  simp [hj]

theorem BoolF.frozen {lo g cap n : Nat} {w : World} {f : Nat → Bool} (h : BoolF lo w g cap n f) (j : Nat) : w.frozen? ⟨g, j, none⟩ = false := World.ownsRow.frozenAt h j

theorem BoolF.keep {lo g cap n : Nat} {w w' : World} {f : Nat → Bool} (h : BoolF lo w g cap n f) (hb : Below w.heap.size w w') : BoolF lo w' g cap n f := ownsRow_out h (Out.of_below (lo := 0) (hi := 0) hb) (fun _ _ => Or.inr (Nat.zero_le _))

theorem BoolF.lt {lo g cap n : Nat} {w : World} {f : Nat → Bool} (h : BoolF lo w g cap n f) : lo ≤ g ∧ g < w.heap.size := World.ownsRow.lt h g rfl

theorem BoolF.congr {lo g cap n : Nat} {w : World} {f f' : Nat → Bool} (h : BoolF lo w g cap n f) (e : ∀ j, j < n → f' j = f j) : BoolF lo w g cap n f' := by
  have : (List.range n).map (fun j => Value.bool (f' j)) = (List.range n).map (fun j => Value.bool (f j)) := List.map_congr_left fun j hj => by rw [e j (by simpa using hj)]
  unfold BoolF at *
  rw [this]
  exact h

theorem BoolF.off {lo g cap n : Nat} {w : World} {f : Nat → Bool} (h : BoolF lo w g cap n f) (x : Nat) : BoolF lo (w.setCell ⟨g, x, none⟩ (.bool false)) g cap n (offB f x) := by
  have h1 := (World.ownsRow.stored h x (.bool false)).1
  unfold BoolF
  have e : (List.range n).map (fun j => Value.bool (offB f x j)) = ((List.range n).map (fun j => Value.bool (f j))).set x (.bool false) := by
    apply List.ext_getElem?
    intro j
    rw [List.getElem?_set, List.getElem?_map, List.getElem?_map]
    by_cases hj : j < n
    · by_cases e : x = j
      · subst e
        simp [offB, hj]
      · have : ¬ j = x := fun h => e h.symm
        simp [offB, hj, e, this]
    · have e1 : (List.range n)[j]? = none := List.getElem?_eq_none (by simp; omega)
      rw [e1]
      by_cases e : x = j
      · subst e; simp [hj]
      · simp [e]
  rw [e]
  exact h1

theorem BoolF.drewN {lo g cap n : Nat} {w : World} {f : Nat → Bool} (h : BoolF lo w g cap n f) (k : Nat) : BoolF lo (w.drewN k) g cap n f := h

set_option maxHeartbeats 1000000 in
theorem l12Ok_any {Q : Ending → World → Prop} (v : Value) (ss : List St) (e : E5) (w : World) (h : StepsAt w v ss) (hl : ss.length ≤ 1048576) (hls : ∀ s ∈ ss, s.next.length ≤ 1048576)
    (hQ : ∀ w', Below w.heap.size w w' → Q (.returned (.bool (okB ss && exprB e))) w') :
    Calls Try.prog 18 #[.agg #[v], .agg #[.int .i64 e.op, .int .i64 e.av, .int .i64 e.an, .int .i64 e.bv, .int .i64 e.bn]] w Q := by
  have HQ : Hid _ := hQ
  clear hQ
  have HXV : Hid (exV e = .agg #[.int .i64 e.op, .int .i64 e.av, .int .i64 e.an, .int .i64 e.bv, .int .i64 e.bn]) := rfl
  have hb0 : ∀ O O', Below w.heap.size w ((w.alloc O).alloc O') := fun O O' => ((Below.refl _ _).alloc (Nat.le_refl _) O).alloc (by simp) O'
  go_enter Try.func18, Try.ntmps18
  go_wp2_with fail
  refine specOk_any _ ss _ (h.keep (hb0 _ _)) hl hls fun w2 hb2 => ?_
  have HB2 : Hid (Below w.heap.size w w2) := (hb0 _ _).trans (hb2.mono (by simp; omega))
  have x0 : w2.cell? ⟨w.heap.size + 1, 0, none⟩ = some (.int .i64 e.op) := cell_keep hb2 (by simp [go_sem])
  have x1 : w2.cell? ⟨w.heap.size + 1, 1, none⟩ = some (.int .i64 e.av) := cell_keep hb2 (by simp [go_sem])
  have x2 : w2.cell? ⟨w.heap.size + 1, 2, none⟩ = some (.int .i64 e.an) := cell_keep hb2 (by simp [go_sem])
  have x3 : w2.cell? ⟨w.heap.size + 1, 3, none⟩ = some (.int .i64 e.bv) := cell_keep hb2 (by simp [go_sem])
  have x4 : w2.cell? ⟨w.heap.size + 1, 4, none⟩ = some (.int .i64 e.bn) := cell_keep hb2 (by simp [go_sem])
  clear hb2 hb0 h
  cases hok : okB ss
  · rw [hok, Bool.false_and] at HQ
    go_wp2
    exact HQ.out _ HB2.out
  · rw [hok, Bool.true_and] at HQ
    clear hok
    go_wp2_with fail
    rw [← HXV.out]
    refine specExprOk_any e _ fun w3 hb3 => ?_
    have HB3 : Hid (Below w.heap.size w w3) := HB2.out.trans (hb3.mono HB2.out.size)
    clear hb3
    go_wp2
    exact HQ.out _ HB3.out

theorem infoBoolK : (Try.prog.info? 4).map (fun i => (i.zero, i.size, i.bytes)) = some (some (.bool false), 1, 1) := by kernel_rfl
theorem info_partsK {t : TypeId} {z : Value} {n k : Nat} (h : (Try.prog.info? t).map (fun i => (i.zero, i.size, i.bytes)) = some (some z, n, k)) : ∃ i, Try.prog.info? t = some i ∧ i.zero = some z ∧ i.size = n ∧ i.bytes = k := by
  simp only [Option.map_eq_some_iff, Prod.mk.injEq] at h
  obtain ⟨i, h1, h2, h3, h4⟩ := h
  exact ⟨i, h1, h2, h3, h4⟩

set_option maxRecDepth 100000 in
set_option maxHeartbeats 2000000 in
theorem l12All_any {Q : Ending → World → Prop} (v : Value) (ss : List St) (w : World) (h : StepsAt w v ss) (hok : okB ss = true)
    (hQ : ∀ g cap rs w', Below w.heap.size w w' → IsReach ss rs → BoolF w.heap.size w' g cap ss.length (fun j => rs.getD j false) → Q (.returned (.slice (some ⟨g, 0, none⟩) ss.length cap)) w') :
    Calls Try.prog 19 #[.agg #[v]] w Q := by
  have HQ : Hid _ := hQ
  clear hQ
  have HH : Hid (StepsAt w v ss) := h
  have HOK : Hid (okB ss = true) := hok
  obtain ⟨ao, b, o, cap, rfl, ha, hc⟩ := id h
  obtain ⟨hn1, hn2⟩ := ok_len hok
  clear h hok ha hc
  obtain ⟨i0, hi, hz0, hz1, hz2⟩ := info_partsK infoBoolK
  have hb0 : ∀ O O', Below w.heap.size w ((w.alloc O).alloc O') := fun O O' => ((Below.refl _ _).alloc (Nat.le_refl _) O).alloc (by simp) O'
  go_enter Try.func19, Try.ntmps19
  go_wp2_with fail
  have e0 := fun c : Array Value => World.ownsRow_lit (base := w.heap.size + 1) (e := 4) (size := 1) (w.alloc (.cells c 34)) #[] 0 (by simp) (by decide) (by simp)
  refine specReach_yes _ ss _ (HH.out.keep (hb0 _ _)) HOK.out fun v5 rs w5 hb5 hre hown5 => ?_
  have HB5 : Hid (Below w.heap.size w w5) := (hb0 _ _).trans (hb5.mono (by simp; omega))
  have HE5 : Hid (w5.ownsRow (w.heap.size + 1) 4 1 (.slice (some ⟨w.heap.size + 1, 0, none⟩) 0 0) 0 []) := by
    have h1 := ownsRow_out (e0 _) (Out.of_below (lo := 0) (hi := 0) hb5) (fun _ _ => Or.inr (Nat.zero_le _))
    simpa [Hid] using h1
  obtain ⟨g5, c5, hv5, _, _⟩ := hown5.form (by omega)
  subst hv5
  have HRE : Hid (IsReach ss rs) := hre
  have HC5 : Hid (∀ j u, (rs.map Value.bool)[j]? = some u → w5.cell? ((⟨g5, 0, none⟩ : Addr).add j) = some u) := hown5.cells rfl
  have hsz5 : w.heap.size + 2 ≤ w5.heap.size := by have := hb5.size; simp at this; omega
  have hrl : rs.length = ss.length := hre.1
  clear hb5 hb0 e0 hre hown5
  go_wp2_with (at_builtin; refine wpList_append_lies _ rfl (.tmp 3) (.tmp 5) 30 rfl (w.heap.size + 1) 4 i0 (.bool false) 1 1 Try.underlying30 hi hz0 hz1 hz2 rfl (by decide) (.slice (some ⟨w.heap.size + 1, 0, none⟩) 0 0) 0 [] rfl HE5.out ⟨g5, 0, none⟩ ss.length c5 (rs.map Value.bool) rfl (by simp [hrl]) HC5.out (by intro u hu; obtain ⟨x, _, rfl⟩ := List.mem_map.1 hu; rfl) (by omega) (by unfold maxLen; omega) (by omega) (by omega) w5.heap.size rfl ?_)
  intro g8 cap8 w8 hown8 hgrow8 hat8 hlt8
  have HB8 : Hid (Below w.heap.size w w8) := HB5.out.grown hgrow8 (by omega) (fun q hq => by simp [Value.ownBlock] at hq; omega)
  have HO8 : Hid (BoolF w.heap.size w8 g8 cap8 ss.length (fun j => rs.getD j false)) := by
    have h1 := own_lower hown8 (show w.heap.size ≤ w.heap.size + 1 by omega)
    unfold BoolF
    rw [Hid, show (List.range ss.length).map (fun j => Value.bool (rs.getD j false)) = rs.map Value.bool from ?_]
    · simpa using h1
    · apply List.ext_getElem?
      intro j
      rw [List.getElem?_map, List.getElem?_map]
      by_cases hj : j < ss.length
      · have : j < rs.length := by omega
        simp [hj, this]
      · have : ¬ j < rs.length := by omega
        simp [hj, this]
  clear hown8 hgrow8 hat8 hlt8
  go_wp2
  exact HQ.out _ _ rs _ HB8.out HRE.out HO8.out

set_option maxRecDepth 100000 in
set_option maxHeartbeats 2000000 in
theorem l12Each_any {Q : Ending → World → Prop} (lo g cap n : Nat) (f : Nat → Bool) (v : Value) (zs : List Int) (w : World) (hf : BoolF lo w g cap n f) (h : IntsAt w v zs) (hz : ∀ x ∈ zs, 0 ≤ x ∧ x < (n : Int)) (hl : zs.length ≤ 1000)
    (hQ : Q (.returned (.bool (allI zs f))) w) :
    Calls Try.prog 22 #[.slice (some ⟨g, 0, none⟩) n cap, v] w Q := by
  have HQ : Hid _ := hQ
  have HBF : Hid (BoolF lo w g cap n f) := hf
  have HZ : Hid (∀ x ∈ zs, 0 ≤ x ∧ x < (n : Int)) := hz
  obtain ⟨ao, b, o, cp, rfl, ha, hc⟩ := id h
  have HA : Hid (0 < zs.length → ao = some ⟨b, o, none⟩) := ha
  have HC : Hid _ := hc
  clear hQ h ha hc hf hz
  go_enter Try.func22, Try.ntmps22
  go_wp2_with fail
  go_loop [5] (fun i => ∃ k : Nat, k ≤ zs.length ∧ i = .int .i64 k ∧ ∀ j, j < k → f (zs.getD j 0).toNat = true) (fun i => zs.length - (intOf i).toNat)
  case atStart => exact ⟨0, Nat.zero_le _, rfl, fun j hj => by omega⟩
  case round =>
    obtain ⟨k, hk, rfl, hf⟩ := hrel
    have HF : Hid (∀ j, j < k → f (zs.getD j 0).toNat = true) := hf
    by_cases hkn : k < zs.length
    · have hki : (k : Int) < (zs.length : Int) := by omega
      obtain rfl := HA.out (by omega)
      have c := HC.out k hkn
      have HM : zs.getD k 0 ∈ zs := by
        rw [List.getD_eq_getElem?_getD, List.getElem?_eq_getElem hkn]
        exact List.getElem_mem hkn
      obtain ⟨z0, z1⟩ := HZ.out _ HM
      have HALL : Hid (f (zs.getD k 0).toNat = false → allI zs f = false) := fun h0 => by
        unfold allI
        rw [List.all_eq_false]
        exact ⟨_, HM, by simpa using h0⟩
      have HS : Hid (f (zs.getD k 0).toNat = true → ∀ j, j < k + 1 → f (zs.getD j 0).toNat = true) := fun h0 j hj => by
        by_cases e : j = k
        · subst e; exact h0
        · exact HF.out j (by omega)
      clear hf HM
      generalize zs.getD k 0 = x at *
      obtain ⟨m, rfl⟩ := Int.eq_ofNat_of_zero_le z0
      have hm : m < n := by omega
      have cm := HBF.out.cell hm
      rw [show ((m : Int)).toNat = m from rfl] at HALL HS
      cases hv : f m
      · rw [hv] at cm
        have HR : Hid _ := HALL.out hv
        clear hv HS HALL
        rw [HR.out] at HQ
        go_wp2
        exact HQ.out
      · rw [hv] at cm
        have HR : Hid _ := HS.out hv
        clear hv HS HALL
        go_wp2
        go_round
        case rel => exact ⟨k + 1, by omega, by go_num, HR.out⟩
        case measure => simp [intOf]; omega
    · have hki : ¬ (k : Int) < (zs.length : Int) := by omega
      have HALL : Hid (allI zs f = true) := by
        unfold allI
        rw [Hid, List.all_eq_true]
        intro x hx
        obtain ⟨j, hj, e⟩ := List.getElem_of_mem hx
        have := HF.out j (by omega)
        rw [List.getD_eq_getElem?_getD, List.getElem?_eq_getElem hj] at this
        rw [← e]
        exact this
      rw [HALL.out] at HQ
      clear hf
      go_wp2
      exact HQ.out
end Go.Proofs.Ytljlgffkhocgkaa
namespace Go.Proofs.Ytljlgffkhocgkaa
open Go.RowKit

/-- One, if it is so. -/
def boolN : Value → Nat
  | .bool true => 1
  | _ => 0

theorem cnt_off2 {m : Nat → Bool} {i n : Nat} (hi : i < n) (hm : m i = true) : cnt (offB m i) n + 1 = cnt m n := by
  induction n with
  | zero => omega
  | succ n ih =>
    have e : cnt m (n + 1) = cnt m n + (if m n = true then 1 else 0) := by simp [cnt]
    have e2 : cnt (offB m i) (n + 1) = cnt (offB m i) n + (if offB m i n = true then 1 else 0) := by simp [cnt]
    by_cases h : i = n
    · subst h
      have : cnt (offB m i) i = cnt m i := cnt_same fun j hj => by unfold offB; rw [if_neg (by omega)]
      rw [e, e2, this, hm]
      simp [offB]
    · have := ih (by omega)
      rw [e, e2, ← this]
      have h2 : offB m i n = m n := by unfold offB; rw [if_neg (by omega)]
      rw [h2]
      omega

theorem trueAt_F {lo g cap n : Nat} {w : World} {f : Nat → Bool} (h : BoolF lo w g cap n f) : cnt (trueAt w g) n = cnt f n := cnt_same fun j hj => by
  unfold trueAt
  rw [h.cell hj]

/-- A pass of the model: from f0 on, as far as k. -/
structure PassS (n : Nat) (r : Nat → Bool) (F : (Nat → Bool) → Nat → Bool) (f0 f : Nat → Bool) (k : Nat) (b : Bool) : Prop where
  gi : GI n r F f
  no : b = false → f = f0 ∧ ∀ j, j < k → f j = true → F f j = true
  yes : b = true → cnt f n < cnt f0 n

theorem PassS.start {n : Nat} {r : Nat → Bool} {F : (Nat → Bool) → Nat → Bool} {f0 : Nat → Bool} (h : GI n r F f0) : PassS n r F f0 f0 0 false := ⟨h, fun _ => ⟨rfl, fun j hj => by omega⟩, fun h => by cases h⟩

theorem PassS.skip {n : Nat} {r : Nat → Bool} {F : (Nat → Bool) → Nat → Bool} {f0 f : Nat → Bool} {k : Nat} {b : Bool} (h : PassS n r F f0 f k b) (hk : f k = true → F f k = true) : PassS n r F f0 f (k + 1) b :=
  ⟨h.gi, fun hb => ⟨(h.no hb).1, fun j hj hf => by
    by_cases e : j = k
    · subst e; exact hk hf
    · exact (h.no hb).2 j (by omega) hf⟩, h.yes⟩

theorem PassS.off {n : Nat} {r : Nat → Bool} {F : (Nat → Bool) → Nat → Bool} {f0 f : Nat → Bool} {k : Nat} {b : Bool} (h : PassS n r F f0 f k b) (hm : Mono n F) (hk : k < n) (hf : f k = true) (hF : F f k = false) : PassS n r F f0 (offB f k) (k + 1) true :=
  { gi := h.gi.off hm hF
    no := fun hb => by cases hb
    yes := fun _ => by
      have h1 := cnt_off2 hk hf
      cases b with
      | false =>
        rw [← (h.no rfl).1]
        omega
      | true =>
        have := h.yes rfl
        omega }
end Go.Proofs.Ytljlgffkhocgkaa
