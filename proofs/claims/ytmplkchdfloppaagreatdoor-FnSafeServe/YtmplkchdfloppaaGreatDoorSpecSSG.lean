/- The model's chapter 12: what its helpers answer; a row of yes and no that is written into. The model's passes until nothing changes. What the model's SafeDown answers. The model's l2Goes. What the model's l2Goes and FlowPreds answer. What the model's SafeUp answers. What the model's SafeEarly answers. What the model's SafeDelay answers. What the model's SafeLate answers. What the model's SafeAlone answers. -/
import Derived.Test.YtmplkchdfloppaaGreatDoorSpecReach
import Derived.Test.YtmplkchdfloppaaGreatDoorSpecOk
import Derived.Test.YtmplkchdfloppaaGreatDoorExprO
import Derived.Test.YtmplkchdfloppaaGreatDoorBaseG
import Derived.Test.YtmplkchdfloppaaGreatDoorBoxU
import Derived.Test.YtmplkchdfloppaaGreatDoorPredsB
import Derived.Deep.AppendLies
namespace Go.Proofs.YtmplkchdfloppaaGreatDoor
open Go.RowKit

/-- A row of the call's own, from block lo on, that holds what is so of the first n places. -/
def BoolF (lo : Nat) (w : World) (g cap n : Nat) (f : Nat → Bool) : Prop := w.ownsRow lo 4 1 (.slice (some ⟨g, 0, none⟩) n cap) n ((List.range n).map (fun j => Value.bool (f j)))

theorem BoolF.cell {lo g cap n : Nat} {w : World} {f : Nat → Bool} (h : BoolF lo w g cap n f) {j : Nat} (hj : j < n) : w.cell? ⟨g, j, none⟩ = some (.bool (f j)) := by
  rw [World.ownsRow.cellAt h j (by omega)]
  simp [hj]

theorem BoolF.frozen {lo g cap n : Nat} {w : World} {f : Nat → Bool} (h : BoolF lo w g cap n f) (j : Nat) : w.frozen? ⟨g, j, none⟩ = false := World.ownsRow.frozenAt h j

theorem BoolF.keep {lo g cap n : Nat} {w w' : World} {f : Nat → Bool} (h : BoolF lo w g cap n f) (hb : Below w.heap.size w w') : BoolF lo w' g cap n f := ownsRow_out h (Out.of_below (lo := 0) (hi := 0) hb) (fun _ _ => Or.inr (Nat.zero_le _))

theorem BoolF.lt {lo g cap n : Nat} {w : World} {f : Nat → Bool} (h : BoolF lo w g cap n f) : lo ≤ g ∧ g < w.heap.size := World.ownsRow.lt h g rfl

theorem BoolF.congr {lo g cap n : Nat} {w : World} {f f' : Nat → Bool} (h : BoolF lo w g cap n f) (e : ∀ j, j < n → f' j = f j) : BoolF lo w g cap n f' := by
  have : (List.range n).map (fun j => Value.bool (f' j)) = (List.range n).map (fun j => Value.bool (f j)) := List.map_congr_left fun j hj => by rw [e j (by simpa using hj)]
  unfold BoolF at *
  rw [this]
  exact h

theorem BoolF.off {lo g cap n : Nat} {w : World} {f : Nat → Bool} (h : BoolF lo w g cap n f) (x : Nat) : BoolF lo (w.setCell ⟨g, x, none⟩ (.bool false)) g cap n (offB f x) := by
  have h1 := (World.ownsRow.stored h x (.bool false)).1
  unfold BoolF
  have e : (List.range n).map (fun j => Value.bool (offB f x j)) = ((List.range n).map (fun j => Value.bool (f j))).set x (.bool false) := by
    apply List.ext_getElem?
    intro j
    rw [List.getElem?_set, List.getElem?_map, List.getElem?_map]
    by_cases hj : j < n
    · by_cases e : x = j
      · subst e
        simp [offB, hj]
      · have : ¬ j = x := fun h => e h.symm
        simp [offB, hj, e, this]
    · have e1 : (List.range n)[j]? = none := List.getElem?_eq_none (by simp; omega)
      rw [e1]
      by_cases e : x = j
      · subst e; simp [hj]
      · simp [e]
  rw [e]
  exact h1

theorem BoolF.drewN {lo g cap n : Nat} {w : World} {f : Nat → Bool} (h : BoolF lo w g cap n f) (k : Nat) : BoolF lo (w.drewN k) g cap n f := h

set_option maxHeartbeats 1000000 in
theorem l12Ok_any {Q : Ending → World → Prop} (v : Value) (ss : List St) (e : E5) (w : World) (h : StepsAt w v ss) (hl : ss.length ≤ 1048576) (hls : ∀ s ∈ ss, s.next.length ≤ 1048576)
    (hQ : ∀ w', Below w.heap.size w w' → Q (.returned (.bool (okB ss && exprB e))) w') :
    Calls Tryz.prog 59 #[.agg #[v], .agg #[.int .i64 e.op, .int .i64 e.av, .int .i64 e.an, .int .i64 e.bv, .int .i64 e.bn]] w Q := by
  have HQ : Hid _ := hQ
  clear hQ
  have HXV : Hid (exV e = .agg #[.int .i64 e.op, .int .i64 e.av, .int .i64 e.an, .int .i64 e.bv, .int .i64 e.bn]) := rfl
  have hb0 : ∀ O O', Below w.heap.size w ((w.alloc O).alloc O') := fun O O' => ((Below.refl _ _).alloc (Nat.le_refl _) O).alloc (by simp) O'
  go_enter Tryz.func59, Tryz.ntmps59
  go_wp2_with fail
  refine specOk_any _ ss _ (h.keep (hb0 _ _)) hl hls fun w2 hb2 => ?_
  have HB2 : Hid (Below w.heap.size w w2) := (hb0 _ _).trans (hb2.mono (by simp; omega))
  have x0 : w2.cell? ⟨w.heap.size + 1, 0, none⟩ = some (.int .i64 e.op) := cell_keep hb2 (by simp [go_sem])
  have x1 : w2.cell? ⟨w.heap.size + 1, 1, none⟩ = some (.int .i64 e.av) := cell_keep hb2 (by simp [go_sem])
  have x2 : w2.cell? ⟨w.heap.size + 1, 2, none⟩ = some (.int .i64 e.an) := cell_keep hb2 (by simp [go_sem])
  have x3 : w2.cell? ⟨w.heap.size + 1, 3, none⟩ = some (.int .i64 e.bv) := cell_keep hb2 (by simp [go_sem])
  have x4 : w2.cell? ⟨w.heap.size + 1, 4, none⟩ = some (.int .i64 e.bn) := cell_keep hb2 (by simp [go_sem])
  clear hb2 hb0 h
  cases hok : okB ss
  · rw [hok, Bool.false_and] at HQ
    go_wp2
    exact HQ.out _ HB2.out
  · rw [hok, Bool.true_and] at HQ
    clear hok
    go_wp2_with fail
    rw [← HXV.out]
    refine specExprOk_any e _ fun w3 hb3 => ?_
    have HB3 : Hid (Below w.heap.size w w3) := HB2.out.trans (hb3.mono HB2.out.size)
    clear hb3
    go_wp2
    exact HQ.out _ HB3.out

theorem infoBoolK : (Tryz.prog.info? 4).map (fun i => (i.zero, i.size, i.bytes)) = some (some (.bool false), 1, 1) := by kernel_rfl
theorem info_partsK {t : TypeId} {z : Value} {n k : Nat} (h : (Tryz.prog.info? t).map (fun i => (i.zero, i.size, i.bytes)) = some (some z, n, k)) : ∃ i, Tryz.prog.info? t = some i ∧ i.zero = some z ∧ i.size = n ∧ i.bytes = k := by
  simp only [Option.map_eq_some_iff, Prod.mk.injEq] at h
  obtain ⟨i, h1, h2, h3, h4⟩ := h
  exact ⟨i, h1, h2, h3, h4⟩

set_option maxRecDepth 100000 in
set_option maxHeartbeats 2000000 in
theorem l12All_any {Q : Ending → World → Prop} (v : Value) (ss : List St) (w : World) (h : StepsAt w v ss) (hok : okB ss = true)
    (hQ : ∀ g cap rs w', Below w.heap.size w w' → IsReach ss rs → BoolF w.heap.size w' g cap ss.length (fun j => rs.getD j false) → Q (.returned (.slice (some ⟨g, 0, none⟩) ss.length cap)) w') :
    Calls Tryz.prog 43 #[.agg #[v]] w Q := by
  have HQ : Hid _ := hQ
  clear hQ
  have HH : Hid (StepsAt w v ss) := h
  have HOK : Hid (okB ss = true) := hok
  obtain ⟨ao, b, o, cap, rfl, ha, hc⟩ := id h
  obtain ⟨hn1, hn2⟩ := ok_len hok
  clear h hok ha hc
  obtain ⟨i0, hi, hz0, hz1, hz2⟩ := info_partsK infoBoolK
  have hb0 : ∀ O O', Below w.heap.size w ((w.alloc O).alloc O') := fun O O' => ((Below.refl _ _).alloc (Nat.le_refl _) O).alloc (by simp) O'
  go_enter Tryz.func43, Tryz.ntmps43
  go_wp2_with fail
  have e0 := fun c : Array Value => World.ownsRow_lit (base := w.heap.size + 1) (e := 4) (size := 1) (w.alloc (.cells c 25)) #[] 0 (by simp) (by decide) (by simp)
  refine specReach_yes _ ss _ (HH.out.keep (hb0 _ _)) HOK.out fun v5 rs w5 hb5 hre hown5 => ?_
  have HB5 : Hid (Below w.heap.size w w5) := (hb0 _ _).trans (hb5.mono (by simp; omega))
  have HE5 : Hid (w5.ownsRow (w.heap.size + 1) 4 1 (.slice (some ⟨w.heap.size + 1, 0, none⟩) 0 0) 0 []) := by
    have h1 := ownsRow_out (e0 _) (Out.of_below (lo := 0) (hi := 0) hb5) (fun _ _ => Or.inr (Nat.zero_le _))
    simpa [Hid] using h1
  obtain ⟨g5, c5, hv5, _, _⟩ := hown5.form (by omega)
  subst hv5
  have HRE : Hid (IsReach ss rs) := hre
  have HC5 : Hid (∀ j u, (rs.map Value.bool)[j]? = some u → w5.cell? ((⟨g5, 0, none⟩ : Addr).add j) = some u) := hown5.cells rfl
  have hsz5 : w.heap.size + 2 ≤ w5.heap.size := by have := hb5.size; simp at this; omega
  have hrl : rs.length = ss.length := hre.1
  clear hb5 hb0 e0 hre hown5
  go_wp2_with (at_builtin; refine wpList_append_lies _ rfl (.tmp 3) (.tmp 5) 33 rfl (w.heap.size + 1) 4 i0 (.bool false) 1 1 Tryz.underlying33 hi hz0 hz1 hz2 rfl (by decide) (.slice (some ⟨w.heap.size + 1, 0, none⟩) 0 0) 0 [] rfl HE5.out ⟨g5, 0, none⟩ ss.length c5 (rs.map Value.bool) rfl (by simp [hrl]) HC5.out (by intro u hu; obtain ⟨x, _, rfl⟩ := List.mem_map.1 hu; rfl) (by omega) (by unfold maxLen; omega) (by omega) (by omega) w5.heap.size rfl ?_)
  intro g8 cap8 w8 hown8 hgrow8 hat8 hlt8
  have HB8 : Hid (Below w.heap.size w w8) := HB5.out.grown hgrow8 (by omega) (fun q hq => by simp [Value.ownBlock] at hq; omega)
  have HO8 : Hid (BoolF w.heap.size w8 g8 cap8 ss.length (fun j => rs.getD j false)) := by
    have h1 := own_lower hown8 (show w.heap.size ≤ w.heap.size + 1 by omega)
    unfold BoolF
    rw [Hid, show (List.range ss.length).map (fun j => Value.bool (rs.getD j false)) = rs.map Value.bool from ?_]
    · simpa using h1
    · apply List.ext_getElem?
      intro j
      rw [List.getElem?_map, List.getElem?_map]
      by_cases hj : j < ss.length
      · have : j < rs.length := by omega
        simp [hj, this]
      · have : ¬ j < rs.length := by omega
        simp [hj, this]
  clear hown8 hgrow8 hat8 hlt8
  go_wp2
  exact HQ.out _ _ rs _ HB8.out HRE.out HO8.out

set_option maxRecDepth 100000 in
set_option maxHeartbeats 2000000 in
theorem l12Each_any {Q : Ending → World → Prop} (lo g cap n : Nat) (f : Nat → Bool) (v : Value) (zs : List Int) (w : World) (hf : BoolF lo w g cap n f) (h : IntsAt w v zs) (hz : ∀ x ∈ zs, 0 ≤ x ∧ x < (n : Int)) (hl : zs.length ≤ 1000)
    (hQ : Q (.returned (.bool (allI zs f))) w) :
    Calls Tryz.prog 50 #[.slice (some ⟨g, 0, none⟩) n cap, v] w Q := by
  have HQ : Hid _ := hQ
  have HBF : Hid (BoolF lo w g cap n f) := hf
  have HZ : Hid (∀ x ∈ zs, 0 ≤ x ∧ x < (n : Int)) := hz
  obtain ⟨ao, b, o, cp, rfl, ha, hc⟩ := id h
  have HA : Hid (0 < zs.length → ao = some ⟨b, o, none⟩) := ha
  have HC : Hid _ := hc
  clear hQ h ha hc hf hz
  go_enter Tryz.func50, Tryz.ntmps50
  go_wp2_with fail
  go_loop [5] (fun i => ∃ k : Nat, k ≤ zs.length ∧ i = .int .i64 k ∧ ∀ j, j < k → f (zs.getD j 0).toNat = true) (fun i => zs.length - (intOf i).toNat)
  case atStart => exact ⟨0, Nat.zero_le _, rfl, fun j hj => by omega⟩
  case round =>
    obtain ⟨k, hk, rfl, hf⟩ := hrel
    have HF : Hid (∀ j, j < k → f (zs.getD j 0).toNat = true) := hf
    by_cases hkn : k < zs.length
    · have hki : (k : Int) < (zs.length : Int) := by omega
      obtain rfl := HA.out (by omega)
      have c := HC.out k hkn
      have HM : zs.getD k 0 ∈ zs := by
        rw [List.getD_eq_getElem?_getD, List.getElem?_eq_getElem hkn]
        exact List.getElem_mem hkn
      obtain ⟨z0, z1⟩ := HZ.out _ HM
      have HALL : Hid (f (zs.getD k 0).toNat = false → allI zs f = false) := fun h0 => by
        unfold allI
        rw [List.all_eq_false]
        exact ⟨_, HM, by simpa using h0⟩
      have HS : Hid (f (zs.getD k 0).toNat = true → ∀ j, j < k + 1 → f (zs.getD j 0).toNat = true) := fun h0 j hj => by
        by_cases e : j = k
        · subst e; exact h0
        · exact HF.out j (by omega)
      clear hf HM
      generalize zs.getD k 0 = x at *
      obtain ⟨m, rfl⟩ := Int.eq_ofNat_of_zero_le z0
      have hm : m < n := by omega
      have cm := HBF.out.cell hm
      rw [show ((m : Int)).toNat = m from rfl] at HALL HS
      cases hv : f m
      · rw [hv] at cm
        have HR : Hid _ := HALL.out hv
        clear hv HS HALL
        rw [HR.out] at HQ
        go_wp2
        exact HQ.out
      · rw [hv] at cm
        have HR : Hid _ := HS.out hv
        clear hv HS HALL
        go_wp2
        go_round
        case rel => exact ⟨k + 1, by omega, by go_num, HR.out⟩
        case measure => simp [intOf]; omega
    · have hki : ¬ (k : Int) < (zs.length : Int) := by omega
      have HALL : Hid (allI zs f = true) := by
        unfold allI
        rw [Hid, List.all_eq_true]
        intro x hx
        obtain ⟨j, hj, e⟩ := List.getElem_of_mem hx
        have := HF.out j (by omega)
        rw [List.getD_eq_getElem?_getD, List.getElem?_eq_getElem hj] at this
        rw [← e]
        exact this
      rw [HALL.out] at HQ
      clear hf
      go_wp2
      exact HQ.out
end Go.Proofs.YtmplkchdfloppaaGreatDoor
namespace Go.Proofs.YtmplkchdfloppaaGreatDoor
open Go.RowKit

/-- One, if it is so. -/
def boolN : Value → Nat
  | .bool true => 1
  | _ => 0

theorem cnt_off2 {m : Nat → Bool} {i n : Nat} (hi : i < n) (hm : m i = true) : cnt (offB m i) n + 1 = cnt m n := by
  induction n with
  | zero => omega
  | succ n ih =>
    have e : cnt m (n + 1) = cnt m n + (if m n = true then 1 else 0) := by simp [cnt]
    have e2 : cnt (offB m i) (n + 1) = cnt (offB m i) n + (if offB m i n = true then 1 else 0) := by simp [cnt]
    by_cases h : i = n
    · subst h
      have : cnt (offB m i) i = cnt m i := cnt_same fun j hj => by unfold offB; rw [if_neg (by omega)]
      rw [e, e2, this, hm]
      simp [offB]
    · have := ih (by omega)
      rw [e, e2, ← this]
      have h2 : offB m i n = m n := by unfold offB; rw [if_neg (by omega)]
      rw [h2]
      omega

theorem trueAt_F {lo g cap n : Nat} {w : World} {f : Nat → Bool} (h : BoolF lo w g cap n f) : cnt (trueAt w g) n = cnt f n := cnt_same fun j hj => by
  unfold trueAt
  rw [h.cell hj]

/-- A pass of the model: from f0 on, as far as k. -/
structure PassS (n : Nat) (r : Nat → Bool) (F : (Nat → Bool) → Nat → Bool) (f0 f : Nat → Bool) (k : Nat) (b : Bool) : Prop where
  gi : GI n r F f
  no : b = false → f = f0 ∧ ∀ j, j < k → f j = true → F f j = true
  yes : b = true → cnt f n < cnt f0 n

theorem PassS.start {n : Nat} {r : Nat → Bool} {F : (Nat → Bool) → Nat → Bool} {f0 : Nat → Bool} (h : GI n r F f0) : PassS n r F f0 f0 0 false := ⟨h, fun _ => ⟨rfl, fun j hj => by omega⟩, fun h => by cases h⟩

theorem PassS.skip {n : Nat} {r : Nat → Bool} {F : (Nat → Bool) → Nat → Bool} {f0 f : Nat → Bool} {k : Nat} {b : Bool} (h : PassS n r F f0 f k b) (hk : f k = true → F f k = true) : PassS n r F f0 f (k + 1) b :=
  ⟨h.gi, fun hb => ⟨(h.no hb).1, fun j hj hf => by
    by_cases e : j = k
    · subst e; exact hk hf
    · exact (h.no hb).2 j (by omega) hf⟩, h.yes⟩

theorem PassS.off {n : Nat} {r : Nat → Bool} {F : (Nat → Bool) → Nat → Bool} {f0 f : Nat → Bool} {k : Nat} {b : Bool} (h : PassS n r F f0 f k b) (hm : Mono n F) (hk : k < n) (hf : f k = true) (hF : F f k = false) : PassS n r F f0 (offB f k) (k + 1) true :=
  { gi := h.gi.off hm hF
    no := fun hb => by cases hb
    yes := fun _ => by
      have h1 := cnt_off2 hk hf
      cases b with
      | false =>
        rw [← (h.no rfl).1]
        omega
      | true =>
        have := h.yes rfl
        omega }
end Go.Proofs.YtmplkchdfloppaaGreatDoor
namespace Go.Proofs.YtmplkchdfloppaaGreatDoor
open Go.RowKit

set_option maxRecDepth 100000 in
set_option maxHeartbeats 8000000 in
theorem specSafeDown_any {Q : Ending → World → Prop} (v : Value) (ss : List St) (e : E5) (w : World) (h : StepsAt w v ss) (hl : ss.length ≤ 1048576) (hls : ∀ s ∈ ss, s.next.length ≤ 1048576)
    (hQ : ∀ v' bs w', Below w.heap.size w w' → SafeOr IsDown ss e bs → w'.ownsRow w.heap.size 4 1 v' bs.length (bs.map Value.bool) → Q (.returned v') w') :
    Calls Tryz.prog 25 #[.agg #[v], .agg #[.int .i64 e.op, .int .i64 e.av, .int .i64 e.an, .int .i64 e.bv, .int .i64 e.bn]] w Q := by
  have HQ : Hid _ := hQ
  clear hQ
  obtain ⟨ao, b, o, cap, rfl, ha, hc⟩ := id h
  have HA : Hid (0 < ss.length → ao = some ⟨b, o, none⟩) := ha
  have HC : Hid (∀ i s, ss[i]? = some s → ∃ nv, StepCells w b (o + i * 8) s nv ∧ IntsAt w nv s.next) := hc
  have HH : Hid (StepsAt w (.slice ao ss.length cap) ss) := h
  have HL : Hid (∀ s ∈ ss, s.next.length ≤ 1048576) := hls
  clear ha hc h hls
  go_enter Tryz.func25, Tryz.ntmps25
  go_wp2_with fail
  have hb0 : Below w.heap.size w ((w.alloc (.cells #[.slice ao ss.length cap] 25)).alloc (.cells #[.int .i64 e.op, .int .i64 e.av, .int .i64 e.an, .int .i64 e.bv, .int .i64 e.bn] 29)) := ((Below.refl _ _).alloc (Nat.le_refl _) _).alloc (by simp) _
  have hbx := BoxE.new w ao ss.length cap e 25 29
  have hsz0 : ((w.alloc (.cells #[.slice ao ss.length cap] 25)).alloc (.cells #[.int .i64 e.op, .int .i64 e.av, .int .i64 e.an, .int .i64 e.bv, .int .i64 e.bn] 29)).heap.size = w.heap.size + 2 := by simp
  generalize (w.alloc (.cells #[.slice ao ss.length cap] 25)).alloc (.cells #[.int .i64 e.op, .int .i64 e.av, .int .i64 e.an, .int .i64 e.bv, .int .i64 e.bn] 29) = W0 at *
  refine l12Ok_any _ ss e _ (HH.out.keep hb0) hl HL.out fun w1 hb1 => ?_
  have HB1 : Hid (Below w.heap.size w w1) := hb0.trans (hb1.mono (by omega))
  have HX1 : Hid (BoxE w1 w.heap.size ao ss.length cap e) := hbx.keep hb1
  have p1 := HX1.out.p
  have x10 := HX1.out.c0
  have x11 := HX1.out.c1
  have x12 := HX1.out.c2
  have x13 := HX1.out.c3
  have x14 := HX1.out.c4
  have hs1 : w.heap.size + 2 ≤ w1.heap.size := by have := hb1.size; omega
  clear hb0 hbx hb1 hsz0
  cases hok : (okB ss && exprB e)
  · have HR : Hid (SafeOr IsDown ss e []) := Or.inr ⟨by simpa using hok, rfl⟩
    clear hok
    go_wp2_with fail
    have hlit := World.ownsRow_lit (base := w.heap.size) (e := 4) (size := 1) w1 #[] 0 (by omega) (by decide) (by simp)
    have HLT : Hid ((w1.alloc (.cells #[] 4)).ownsRow w.heap.size 4 1 (.slice (some ⟨w1.heap.size, 0, none⟩) 0 0) 0 []) := hlit
    have HBF : Hid (∀ O, Below w.heap.size w (w1.alloc O)) := fun O => HB1.out.alloc HB1.out.size O
    clear hlit
    go_wp2
    exact HQ.out _ [] _ (HBF.out _) HR.out HLT.out
  obtain ⟨hok1, hex1⟩ : okB ss = true ∧ exprB e = true := by simpa using hok
  have HOK : Hid (okB ss = true) := hok1
  have HEX : Hid (exprB e = true) := hex1
  obtain ⟨hn1, hn2⟩ := ok_len hok1
  clear hok hok1 hex1
  go_wp2_with fail
  refine l12All_any _ ss _ (HH.out.keep HB1.out) HOK.out fun g c2 rs w2 hb2 hre hbf2 => ?_
  have HRE : Hid (IsReach ss rs) := hre
  have HF2 : Hid (BoolF w1.heap.size w2 g c2 ss.length (rF rs)) := hbf2
  have HB2 : Hid (Below w.heap.size w w2) := HB1.out.trans (hb2.mono HB1.out.size)
  have HX2 : Hid (BoxE w2 w.heap.size ao ss.length cap e) := HX1.out.keep hb2
  have p2 := HX2.out.p
  have x20 := HX2.out.c0
  have x21 := HX2.out.c1
  have x22 := HX2.out.c2
  have x23 := HX2.out.c3
  have x24 := HX2.out.c4
  clear hb2 hre hbf2 p1 x10 x11 x12 x13 x14 HX1
  go_wp2_with fail
  refine specComp_u _ ss e _ (HH.out.keep HB2.out) hl HL.out fun v3 cs w3 hb3 hcs hown3 => ?_
  obtain ⟨hcl, hcg⟩ := hcs.get HOK.out HEX.out
  obtain ⟨g3, c3, hv3, _, _⟩ := hown3.form (by omega)
  subst hv3
  rw [hcl] at hown3
  have HO3 : Hid (w3.ownsRow w2.heap.size 4 1 (.slice (some ⟨g3, 0, none⟩) ss.length c3) ss.length (cs.map Value.bool)) := hown3
  have HCG : Hid (∀ i (hi : i < ss.length), cs.getD i false = compB e ss[i]) := hcg
  have HF3 : Hid (BoolF w1.heap.size w3 g c2 ss.length (rF rs)) := HF2.out.keep hb3
  have HB3 : Hid (Below w.heap.size w w3) := HB2.out.trans (hb3.mono HB2.out.size)
  have HX3 : Hid (BoxE w3 w.heap.size ao ss.length cap e) := HX2.out.keep hb3
  have hs3 := HB2.out.size
  have p3 := HX3.out.p
  have x30 := HX3.out.c0
  have x31 := HX3.out.c1
  have x32 := HX3.out.c2
  have x33 := HX3.out.c3
  have x34 := HX3.out.c4
  clear hb3 hcs hown3 hcg p2 x20 x21 x22 x23 x24 HX2
  rw [hcl]
  go_wp2_with fail
  refine specKeeps_u _ ss e _ (HH.out.keep HB3.out) hl HL.out fun v4 ks w4 hb4 hks hown4 => ?_
  obtain ⟨hkl, hkg⟩ := hks.get HOK.out HEX.out
  obtain ⟨g4, c4, hv4, _, _⟩ := hown4.form (by omega)
  subst hv4
  rw [hkl] at hown4
  have HB4 : Hid (Below w.heap.size w w4) := HB3.out.trans (hb4.mono HB3.out.size)
  have HF4 : Hid (BoolF w1.heap.size w4 g c2 ss.length (rF rs)) := HF3.out.keep hb4
  have HX4 : Hid (BoxE w4 w.heap.size ao ss.length cap e) := HX3.out.keep hb4
  have hg1 := HF2.out.lt
  have hg3 := HO3.out.lt g3 rfl
  have hg4 := World.ownsRow.lt hown4 g4 rfl
  have hs2 := HF2.out.lt.2
  have HCC : Hid (∀ i, i < ss.length → w4.cell? ⟨g3, i, none⟩ = some (.bool (cF e ss i)) ∧ w4.cell? ⟨g4, i, none⟩ = some (.bool (kF e ss i))) := fun i hi => by
    have a1 := cell_keep hb4 ((World.ownsRow.cellAt HO3.out i (by omega)).trans (show (cs.map Value.bool)[i]? = some (.bool (cs.getD i false)) by
      have : i < cs.length := by omega
      simp [this]))
    have a2 := (World.ownsRow.cellAt hown4 i (by omega)).trans (show (ks.map Value.bool)[i]? = some (.bool (ks.getD i false)) by
      have : i < ks.length := by omega
      simp [this])
    rw [HCG.out i hi, ← cF_get hi] at a1
    rw [hkg i hi, ← kF_get hi] at a2
    exact ⟨a1, a2⟩
  have HNE : Hid (w.heap.size + 2 ≤ g ∧ g < w2.heap.size ∧ w2.heap.size ≤ g3 ∧ w2.heap.size ≤ g4 ∧ w1.heap.size ≤ g ∧ w2.heap.size ≤ w4.heap.size ∧ g3 < w4.heap.size) := by
    have := hb4.size
    have := HF3.out.lt
    exact ⟨by omega, by omega, by omega, by omega, by omega, by omega, by omega⟩
  clear hb4 hks hown4 hkg p3 x30 x31 x32 x33 x34 HX3 HO3 HCG HF3 HB3 HF2 HB2 hg1 hg3 hg4 hs2 hcl
  rw [hkl]
  clear hkl
  go_wp2_with fail
  have HM : Hid (Mono ss.length (downF (cF e ss) (kF e ss) (nextOf ss))) := downF_mono (low_next HOK.out)
  have HLW : Hid (Low ss.length (nextOf ss)) := low_next HOK.out
  have HG0 : Hid (GI ss.length (rF rs) (downF (cF e ss) (kF e ss) (nextOf ss)) (rF rs)) := GI.start _ _ _
  obtain ⟨F, hF⟩ : ∃ F, F = downF (cF e ss) (kF e ss) (nextOf ss) := ⟨_, rfl⟩
  have HFD : Hid (F = downF (cF e ss) (kF e ss) (nextOf ss)) := hF
  rw [← hF] at HM HG0
  clear hF
  have hgw : w.heap.size + 2 ≤ g := HNE.out.1
  have HFIN : Hid (∀ wr f, BoolF w1.heap.size wr g c2 ss.length f → Out g (g + 1) w4 wr → GI ss.length (rF rs) F f → (∀ i, i < ss.length → f i = true → F f i = true) →
      Below w.heap.size w wr ∧ SafeOr IsDown ss e ((List.range ss.length).map f) ∧ wr.ownsRow w.heap.size 4 1 (.slice (some ⟨g, 0, none⟩) ss.length c2) ((List.range ss.length).map f).length (((List.range ss.length).map f).map Value.bool)) := fun wr f hbf ho hgi hfx => by
    refine ⟨HB4.out.trans (ho.below (by omega) HB4.out.size), Or.inl ⟨HOK.out, HEX.out, rs, f, HRE.out, ?_, rfl⟩, ?_⟩
    · unfold IsDown
      rw [← HFD.out]
      exact hgi.done hfx
    · rw [List.length_map, List.length_range, List.map_map]
      exact own_lower hbf HB1.out.size
  go_loopw [8, 9] (fun ch i wr => ∃ f bo, ch = .bool bo ∧ BoolF w1.heap.size wr g c2 ss.length f ∧ Out g (g + 1) w4 wr ∧ GI ss.length (rF rs) F f ∧ (bo = false → ∀ i, i < ss.length → f i = true → F f i = true)) (fun ch _ wr => 2 * cnt (trueAt wr g) ss.length + boolN ch)
  case atStart => exact ⟨rF rs, true, rfl, HF4.out, Out.refl _ _ _, HG0.out, fun h => by cases h⟩
  case round =>
    clear HF4 HG0
    obtain ⟨f0, bo, rfl, hbf, ho, hgi, hfx⟩ := hrel
    cases bo with
    | false =>
      have HE : Hid _ := HFIN.out wr f0 hbf ho hgi (hfx rfl)
      clear hbf ho hgi hfx
      go_wp2
      exact HQ.out _ _ _ HE.out.1 HE.out.2.1 HE.out.2.2
    | true =>
      have HBF : Hid (BoolF w1.heap.size wr g c2 ss.length f0) := hbf
      have HO : Hid (Out g (g + 1) w4 wr) := ho
      have HP0 : Hid (PassS ss.length (rF rs) F f0 f0 0 false) := PassS.start hgi
      have HME : Hid (2 * cnt (trueAt wr g) ss.length + boolN (.bool true) = 2 * cnt f0 ss.length + 1) := by rw [Hid, trueAt_F hbf]; rfl
      clear hbf ho hgi hfx
      go_wp2_with fail
      go_loopw [8, 9] (fun ch i wx => ∃ k f b, k ≤ ss.length ∧ i = .int .i64 (k : Nat) ∧ ch = .bool b ∧ BoolF w1.heap.size wx g c2 ss.length f ∧ Out g (g + 1) w4 wx ∧ PassS ss.length (rF rs) F f0 f k b) (fun _ i _ => ss.length - (intOf i).toNat)
      case atStart => exact ⟨0, f0, false, Nat.zero_le _, rfl, rfl, HBF.out, HO.out, HP0.out⟩
      case round =>
        clear HBF HO HP0
        obtain ⟨x, f, bo, hx, rfl, rfl, hbf, ho, hps⟩ := hrel
        have HBF : Hid (BoolF w1.heap.size wr g c2 ss.length f) := hbf
        have HO : Hid (Out g (g + 1) w4 wr) := ho
        have HPS : Hid (PassS ss.length (rF rs) F f0 f x bo) := hps
        by_cases hxl : x < ss.length
        · have hxi : (x : Int) < (ss.length : Int) := by omega
          obtain rfl := HA.out (by omega)
          have cf := hbf.cell hxl
          have ff := hbf.frozen x
          have cp := ho.cell HX4.out.p (Or.inl (by show w.heap.size < g; omega))
          have d1 := ho.cell (HCC.out x hxl).1 (Or.inr (by show g + 1 ≤ g3; have := HNE.out; omega))
          have d2 := ho.cell (HCC.out x hxl).2 (Or.inr (by show g + 1 ≤ g4; have := HNE.out; omega))
          obtain ⟨nv, st, hi⟩ := HC.out x ss[x] (List.getElem?_eq_getElem hxl)
          have hbb := cell_lt st.c7
          simp only at hbb
          have c7 := ho.cell (cell_keep HB4.out st.c7) (Or.inl (by show b < g; omega))
          obtain ⟨nao, nb, no, ncap, rfl, na, nc⟩ := hi
          have HI : Hid (IntsAt wr (.slice nao ss[x].next.length ncap) ss[x].next) := ⟨nao, nb, no, ncap, rfl, na, fun i hi => ho.cell (cell_keep HB4.out (nc i hi)) (Or.inl (by have := cell_lt (nc i hi); simp only at this; show nb < g; omega))⟩
          have HFX : Hid (∀ f, F f x = (cF e ss x || (kF e ss x && (decide (0 < ss[x].next.length) && allI ss[x].next f)))) := fun f => by rw [HFD.out]; unfold downF; rw [nextOf_get hxl]
          have HLX : Hid (∀ y ∈ ss[x].next, 0 ≤ y ∧ y < (ss.length : Int)) := by have := HLW.out x hxl; rwa [nextOf_get hxl] at this
          have hnl : ss[x].next.length ≤ 2 := by have := next_len HOK.out hxl; rwa [nextOf_get hxl] at this
          clear hbf ho hps st na nc hbb
          generalize ss[x].next = nx at *
          generalize cF e ss x = cx at *
          generalize kF e ss x = kx at *
          have SK : Hid (F f x = true ∨ f x = false → PassS ss.length (rF rs) F f0 f (x + 1) bo) := fun h => HPS.out.skip fun h1 => by
            rcases h with h | h
            · exact h
            · rw [h1] at h; cases h
          have ST : Hid (f x = true → F f x = false → PassS ss.length (rF rs) F f0 (offB f x) (x + 1) true ∧ BoolF w1.heap.size (wr.setCell ⟨g, x, none⟩ (.bool false)) g c2 ss.length (offB f x) ∧ Out g (g + 1) w4 (wr.setCell ⟨g, x, none⟩ (.bool false))) := fun h1 h2 => ⟨HPS.out.off HM.out hxl h1 h2, HBF.out.off x, HO.out.setCell (Nat.le_refl _) (by show g < g + 1; omega) _⟩
          clear HPS
          cases hfx : f x
          · rw [hfx] at cf
            have HN : Hid _ := SK.out (Or.inr hfx)
            clear SK ST hfx HFX
            go_wp2
            go_roundw
            case rel => exact ⟨x + 1, f, bo, by omega, by go_num, rfl, HBF.out, HO.out, HN.out⟩
            case measure => simp [intOf]; omega
          · rw [hfx] at cf
            cases cx
            · cases kx
              · have HN : Hid _ := ST.out hfx (by rw [HFX.out]; rfl)
                clear SK ST hfx HFX HBF HO
                go_wp2
                go_roundw
                case rel => exact ⟨x + 1, offB f x, true, by omega, by go_num, rfl, HN.out.2.1, HN.out.2.2, HN.out.1⟩
                case measure => simp [intOf]; omega
              · by_cases hnz : nx.length = 0
                · have HN : Hid _ := ST.out hfx (by rw [HFX.out, hnz]; rfl)
                  have hnzi : (nx.length : Int) = 0 := by omega
                  clear SK ST hfx HFX HBF HO
                  go_wp2
                  go_roundw
                  case rel => exact ⟨x + 1, offB f x, true, by omega, by go_num, rfl, HN.out.2.1, HN.out.2.2, HN.out.1⟩
                  case measure => simp [intOf]; omega
                · have hnzi : ¬ (nx.length : Int) = 0 := by omega
                  have hnzb : ((nx.length : Int) == 0) = false := beq_eq_false_iff_ne.2 hnzi
                  have hpos : 0 < nx.length := by omega
                  have HFY : Hid (F f x = allI nx f) := by rw [Hid, HFX.out, decide_eq_true hpos]; rfl
                  clear hpos HFX
                  go_wp2_with fail
                  refine l12Each_any w1.heap.size g c2 ss.length f _ nx _ HBF.out HI.out HLX.out (by omega) ?_
                  cases hal : allI nx f
                  · have HN : Hid _ := ST.out hfx (HFY.out.trans hal)
                    clear SK ST hfx HBF HO hal HFY
                    go_wp2
                    go_roundw
                    case rel => exact ⟨x + 1, offB f x, true, by omega, by go_num, rfl, HN.out.2.1, HN.out.2.2, HN.out.1⟩
                    case measure => simp [intOf]; omega
                  · have HN : Hid _ := SK.out (Or.inl (HFY.out.trans hal))
                    clear SK ST hfx hal HFY
                    go_wp2
                    go_roundw
                    case rel => exact ⟨x + 1, f, bo, by omega, by go_num, rfl, HBF.out, HO.out, HN.out⟩
                    case measure => simp [intOf]; omega
            · have HN : Hid _ := SK.out (Or.inl (by rw [HFX.out]; rfl))
              clear SK ST hfx HFX
              go_wp2
              go_roundw
              case rel => exact ⟨x + 1, f, bo, by omega, by go_num, rfl, HBF.out, HO.out, HN.out⟩
              case measure => simp [intOf]; omega
        · have hxi : ¬ (x : Int) < (ss.length : Int) := by omega
          obtain rfl : x = ss.length := by omega
          clear hbf ho hps
          go_wp2
          go_roundw
          case rel => exact ⟨f, bo, rfl, HBF.out, HO.out, HPS.out.gi, fun h i hi hf => (HPS.out.no h).2 i hi hf⟩
          case measure =>
            have e1 := HME.out
            have e2 := trueAt_F HBF.out
            rw [e1, e2]
            cases bo with
            | false =>
              have e3 := (HPS.out.no rfl).1
              rw [e3]
              simp [boolN]
            | true =>
              have e3 := HPS.out.yes rfl
              simp only [boolN]
              omega
end Go.Proofs.YtmplkchdfloppaaGreatDoor
namespace Go.Proofs.YtmplkchdfloppaaGreatDoor
open Go.RowKit

set_option maxHeartbeats 1000000 in
theorem l2Goes_any {Q : Ending → World → Prop} (nv : Value) (s : St) (to : Int) (w : World) (h : IntsAt w nv s.next) (hl : s.next.length ≤ 1048576)
    (hQ : ∀ w', Below w.heap.size w w' → Q (.returned (.bool (decide (to ∈ s.next)))) w') :
    Calls Tryz.prog 33 #[stepV s nv, .int .i64 to] w Q := by
  have HQ : Hid _ := hQ
  clear hQ
  obtain ⟨ao, b, o, cap, rfl, ha, hc⟩ := h
  have HA : Hid _ := ha
  have HC : Hid _ := hc
  clear ha hc
  have hb0 : ∀ O, Below w.heap.size w (w.alloc O) := fun O => (Below.refl _ _).alloc (Nat.le_refl _) O
  unfold stepV
  go_enter Tryz.func33, Tryz.ntmps33
  go_wp2
  go_loop [5] (fun i => ∃ k : Nat, k ≤ s.next.length ∧ i = .int .i64 k ∧ ∀ j, j < k → s.next.getD j 0 ≠ to) (fun i => s.next.length - (intOf i).toNat)
  case atStart => exact ⟨0, Nat.zero_le _, rfl, by omega⟩
  case round =>
    obtain ⟨k, hk, rfl, hall⟩ := hrel
    have HALL : Hid _ := hall
    clear hall
    by_cases hkl : k < s.next.length
    · have hki : (k : Int) < (s.next.length : Int) := by omega
      obtain rfl := HA.out (by omega)
      have c1 := cell_keep (hb0 (.cells #[.int .i64 s.kind, .int .i64 s.dst, .int .i64 s.op, .int .i64 s.av, .int .i64 s.an, .int .i64 s.bv, .int .i64 s.bn, .slice (some ⟨b, o, none⟩) s.next.length cap] 54)) (HC.out k hkl)
      have HM : Hid _ := mem_of_getD hkl
      have HNE : Hid (s.next.getD k 0 ≠ to → ∀ j, j < k + 1 → s.next.getD j 0 ≠ to) := by
        intro h1 j hj
        by_cases e : j = k
        · subst e; exact h1
        · exact HALL.out j (by omega)
      generalize s.next.getD k 0 = x at *
      by_cases hx : x = to
      · subst hx
        rw [decide_eq_true HM.out] at HQ
        go_wp2
        exact HQ.out _ (hb0 _)
      · go_wp2
        go_round
        case rel => exact ⟨k + 1, by omega, by go_num, HNE.out hx⟩
        case measure => simp [intOf]; omega
    · have hki : ¬ (k : Int) < (s.next.length : Int) := by omega
      have hno : ¬ to ∈ s.next := by
        intro hm
        obtain ⟨t, ht, e⟩ := mem_getD' hm
        exact HALL.out t (by omega) e
      rw [decide_eq_false hno] at HQ
      clear hno
      go_wp2
      exact HQ.out _ (hb0 _)
end Go.Proofs.YtmplkchdfloppaaGreatDoor
namespace Go.Proofs.YtmplkchdfloppaaGreatDoor
open Go.RowKit


set_option maxRecDepth 100000 in
set_option maxHeartbeats 8000000 in
theorem specPreds_yes {Q : Ending → World → Prop} (v : Value) (ss : List St) (w : World) (h : StepsAt w v ss) (hok : okB ss = true)
    (hQ : ∀ v' rs w', Below w.heap.size w w' → IsReach ss rs → RowsI (w.heap.size + 1) w'.heap.size w' v' (predsL ss rs) → Q (.returned v') w') :
    Calls Tryz.prog 28 #[.agg #[v]] w Q := by
  have HQ : Hid _ := hQ
  clear hQ
  obtain ⟨hn1, hn2⟩ := ok_len hok
  have HOK : Hid (okB ss = true) := hok
  obtain ⟨ao, b, o, cap, rfl, ha, hc⟩ := id h
  obtain rfl := ha (by omega)
  have HC : Hid _ := hc
  have HH : Hid (StepsAt w (.slice (some ⟨b, o, none⟩) ss.length cap) ss) := h
  clear ha hc h
  obtain ⟨i0, hi, hz0, hz1, hz2⟩ := info_parts infoInt2
  obtain ⟨i1, hj, hy0, hy1, hy2⟩ := info_parts infoInts2
  go_enter Tryz.func28, Tryz.ntmps28
  go_wp2_with fail
  have hb0 : ∀ O O', Below w.heap.size w ((w.alloc O).alloc O') := fun O O' => ((Below.refl _ _).alloc (Nat.le_refl _) O).alloc (by simp) O'
  refine specOk_any _ ss _ (HH.out.keep (hb0 _ _)) (by omega) (ok_nexts HOK.out) fun w1 hb1 => ?_
  rw [hok]
  have hbA : Below w.heap.size w w1 := (hb0 _ _).trans (hb1.mono (by simp; omega))
  have q1 : w1.cell? ⟨w.heap.size, 0, none⟩ = some (.slice (some ⟨b, o, none⟩) ss.length cap) := cell_keep hb1 (by simp [go_sem])
  have e1 : w1.ownsRow (w.heap.size + 1) 30 1 (.slice (some ⟨w.heap.size + 1, 0, none⟩) 0 0) 0 [] := by
    have h0 := World.ownsRow_lit (base := w.heap.size + 1) (e := 30) (size := 1) (w.alloc (.cells #[.slice (some ⟨b, o, none⟩) ss.length cap] 25)) #[] 0 (by simp) (by decide) (by simp)
    have h1 := ownsRow_out h0 (Out.of_below (lo := 0) (hi := 0) hb1) (fun _ _ => Or.inr (Nat.zero_le _))
    simpa using h1
  clear hb1 hb0 hok
  go_wp2_with fail
  refine specReach_yes _ ss _ (HH.out.keep hbA) HOK.out fun v3 rs w3 hb3 hrs hown3 => ?_
  have hbC : Below w.heap.size w w3 := hbA.trans (hb3.mono hbA.size)
  have q3 := cell_keep hb3 q1
  have e3 : w3.ownsRow (w.heap.size + 1) 30 1 (.slice (some ⟨w.heap.size + 1, 0, none⟩) 0 0) 0 [] := ownsRow_out e1 (Out.of_below (lo := 0) (hi := 0) hb3) (fun _ _ => Or.inr (Nat.zero_le _))
  have HRS : Hid (IsReach ss rs) := hrs
  obtain ⟨g, cap3, rfl, hg1, hg2, _, hg3, _⟩ := own_slice1 hown3 (by omega)
  have HG : Hid (∀ i, i < ss.length → w3.cell? ⟨g, i, none⟩ = (rs.map Value.bool)[i]?) := hg3
  have HB3 : Hid (Below w.heap.size w w3) := hbC
  have HE3 : Hid (RowsI (w.heap.size + 1) w3.heap.size w3 (.slice (some ⟨w.heap.size + 1, 0, none⟩) 0 0) []) := RowsI.nil e3 (fun k hk => (e3.lt k hk).2)
  have hw13 : w.heap.size + 2 ≤ g := Nat.le_trans (by have := (e1.lt (w.heap.size + 1) rfl).2; omega) hg1
  have hws : w.heap.size + 2 ≤ w3.heap.size := by omega
  clear hb3 q1 e1 e3 hrs hown3 hg3 hbC hbA
  go_wp2_with fail
  go_loopw [3, 5] (fun ov i wr => ∃ k : Nat, k ≤ ss.length ∧ i = .int .i64 k ∧ RowsI (w.heap.size + 1) wr.heap.size wr ov ((List.range k).map (fun j => predsK ss rs j ss.length)) ∧ Out (w.heap.size + 1) (w.heap.size + 2) w3 wr ∧ ∀ q, ov.ownBlock = some q → q = w.heap.size + 1 ∨ w3.heap.size ≤ q) (fun _ i _ => ss.length - (intOf i).toNat)
  case atStart => exact ⟨0, Nat.zero_le _, rfl, HE3.out, Out.refl _ _ _, fun q hq => by simp [Value.ownBlock] at hq; omega⟩
  case round =>
    obtain ⟨k, hk, rfl, hR, hO, hov⟩ := hrel
    have HR : Hid (RowsI (w.heap.size + 1) wr.heap.size wr u3 ((List.range k).map (fun j => predsK ss rs j ss.length))) := hR
    have HO : Hid (Out (w.heap.size + 1) (w.heap.size + 2) w3 wr) := hO
    have HOV : Hid (∀ q, u3.ownBlock = some q → q = w.heap.size + 1 ∨ w3.heap.size ≤ q) := hov
    have q4 := hO.cell q3 (Or.inl (by show w.heap.size < w.heap.size + 1; omega))
    have HB : Hid (Below w.heap.size w wr) := HB3.out.trans (hO.below (by omega) (by omega))
    have hsz : w3.heap.size ≤ wr.heap.size := hO.size
    clear hO hov
    by_cases hkn : k < ss.length
    · have hki : (k : Int) < (ss.length : Int) := by omega
      obtain ⟨vs, h1, h2, h3, h4, h5⟩ := hR
      have HV2 : Hid _ := h2
      have HV4 : Hid _ := h4
      have HV5 : Hid _ := h5
      rw [List.length_map, List.length_range] at h1
      clear h2 h3 h4 h5
      go_wp2
      have hb5 : ∀ O, Below wr.heap.size wr (wr.alloc O) := fun O => (Below.refl _ _).alloc (Nat.le_refl _) O
      have hl5 : (wr.alloc (.cells #[] 3)).ownsRow wr.heap.size 3 1 (.slice (some ⟨wr.heap.size, 0, none⟩) 0 0) 0 [] := World.ownsRow_lit _ #[] 0 (Nat.le_refl _) (by decide) (by simp)
      have HB5 : Hid _ := hb5
      have HL5 : Hid _ := hl5
      clear hb5 hl5
      generalize wr = W5 at *
      go_loopw [6, 7] (fun lv kk wr2 => ∃ t : Nat, t ≤ ss.length ∧ kk = .int .i64 t ∧ Below W5.heap.size W5 wr2 ∧ W5.heap.size < wr2.heap.size ∧ wr2.ownsRow W5.heap.size 3 1 lv (predsK ss rs k t).length ((predsK ss rs k t).map (Value.int .i64))) (fun _ kk _ => ss.length - (intOf kk).toNat)
      case atStart => exact ⟨0, Nat.zero_le _, rfl, HB5.out _, by simp, by rw [predsK_zero]; exact HL5.out⟩
      case round =>
        obtain ⟨t, ht, rfl, hb6, hs6, hl6⟩ := hrel
        have HB6 : Hid (Below W5.heap.size W5 wr) := hb6
        have HL6 : Hid (wr.ownsRow W5.heap.size 3 1 u6 (predsK ss rs k t).length ((predsK ss rs k t).map (Value.int .i64))) := hl6
        have q5 := cell_keep hb6 q4
        have HBW : Hid (Below w.heap.size w wr) := HB.out.trans (hb6.mono HB.out.size)
        have hpl := predsK_len ss rs k t
        by_cases htl : t < ss.length
        · have hti : (t : Int) < (ss.length : Int) := by omega
          have hrt : t < rs.length := by rw [HRS.out.1]; exact htl
          have cg : wr.cell? ⟨g, t, none⟩ = some (.bool rs[t]) := cell_keep hb6 (HO.out.cell ((HG.out t htl).trans (by rw [List.getElem?_map, List.getElem?_eq_getElem hrt]; rfl)) (Or.inr hw13))
          have HSUC : Hid _ := predsK_succ ss rs k t
          have HGD : Hid (rs.getD t false = rs[t]) := by simp [Hid, List.getD, hrt]
          cases hrv : rs[t]
          · rw [hrv] at cg
            have HEQ : Hid (predsK ss rs k (t + 1) = predsK ss rs k t) := by
              refine HSUC.out.trans ?_
              rw [if_neg (by rw [HGD.out, hrv]; simp), List.append_nil]
            clear hb6 hl6 hrv
            go_wp2
            go_roundw
            case rel => exact ⟨t + 1, by omega, by go_num, HB6.out, hs6, by rw [HEQ.out]; exact HL6.out⟩
            case measure => simp [intOf]; omega
          · rw [hrv] at cg
            obtain ⟨nu, cu, iu⟩ := HC.out t ss[t] (by simp [htl])
            obtain ⟨nao, nb, no, ncap, rfl, _, _⟩ := id iu
            obtain ⟨c0, c1, c2, c3, c4, c5, c6, c7⟩ := cu.keep HBW.out
            have HIU : Hid (IntsAt wr (.slice nao ss[t].next.length ncap) ss[t].next) := iu.keep HBW.out
            have h2 := step_many (ok_step HOK.out (List.getElem?_eq_getElem htl))
            have HEY : Hid ((k : Int) ∈ ss[t].next → predsK ss rs k (t + 1) = predsK ss rs k t ++ [(t : Int)]) := by
              intro hm
              refine HSUC.out.trans ?_
              rw [if_pos ⟨by rw [HGD.out, hrv], by rw [nextOf_get htl]; exact hm⟩]
            have HEN : Hid (¬ (k : Int) ∈ ss[t].next → predsK ss rs k (t + 1) = predsK ss rs k t) := by
              intro hm
              refine HSUC.out.trans ?_
              rw [if_neg (by rw [nextOf_get htl]; exact fun h => hm h.2), List.append_nil]
            clear hb6 hl6 hrv cu iu
            go_wp2_with fail
            refine l2Goes_any _ ss[t] (k : Int) _ HIU.out (by omega) fun w7 hb7 => ?_
            have HB7 : Hid (Below W5.heap.size W5 w7) := HB6.out.trans (hb7.mono HB6.out.size)
            have hs7 : W5.heap.size < w7.heap.size := Nat.lt_of_lt_of_le hs6 hb7.size
            have HL7 : Hid (w7.ownsRow W5.heap.size 3 1 u6 (predsK ss rs k t).length ((predsK ss rs k t).map (Value.int .i64))) := ownsRow_out HL6.out (Out.of_below (lo := 0) (hi := 0) hb7) (fun _ _ => Or.inr (Nat.zero_le _))
            clear hb7 c0 c1 c2 c3 c4 c5 c6 c7 cg
            by_cases hm : (k : Int) ∈ ss[t].next
            · rw [decide_eq_true hm]
              have HE : Hid _ := HEY.out hm
              clear hm
              go_wp2_with (at_builtin; refine wpList_append_own _ rfl _ _ 30 rfl W5.heap.size 3 i0 (.int .i64 0) 1 8 Tryz.underlying30 hi hz0 hz1 hz2 rfl (by decide) u6 (predsK ss rs k t).length ((predsK ss rs k t).map (Value.int .i64)) rfl (HL7.out.alloc _) ⟨w7.heap.size, 0, none⟩ 1 1 [.int .i64 (t : Int)] rfl rfl (cell_one_new w7 _ _) (int_oneCell _ _) (by unfold maxLen; omega) (by omega) (by simp; omega) ?_; intro v8 w8 hown8 hgrow8 _)
              have HB8 : Hid (Below W5.heap.size W5 w8) := (HB7.out.alloc (by omega) _).grown hgrow8 (by simp; omega) (fun q hq => (HL7.out.lt q hq).1)
              have hs8 : W5.heap.size < w8.heap.size := Nat.lt_of_lt_of_le hs7 (Nat.le_trans (by simp) hgrow8.size)
              have HO8 : Hid (w8.ownsRow W5.heap.size 3 1 v8 (predsK ss rs k (t + 1)).length ((predsK ss rs k (t + 1)).map (Value.int .i64))) := by
                have e := HE.out
                rw [Hid, e]
                simpa using hown8
              clear hown8 hgrow8
              go_wp2
              go_roundw
              case rel => exact ⟨t + 1, by omega, by go_num, HB8.out, hs8, HO8.out⟩
              case measure => simp [intOf]; omega
            · rw [decide_eq_false hm]
              have HE : Hid _ := HEN.out hm
              clear hm
              go_wp2
              go_roundw
              case rel =>
                have e := HE.out
                exact ⟨t + 1, by omega, by go_num, HB7.out, hs7, by rw [e]; exact HL7.out⟩
              case measure => simp [intOf]; omega
        · have hti : ¬ (t : Int) < (ss.length : Int) := by omega
          obtain rfl : t = ss.length := by omega
          have HVr : Hid (wr.ownsRow (w.heap.size + 1) 30 1 u3 k vs) := by
            have := ownsRow_out HV2.out (Out.of_below (lo := 0) (hi := 0) hb6) (fun _ _ => Or.inr (Nat.zero_le _))
            rwa [List.length_map, List.length_range] at this
          obtain ⟨A6, n6, c6, hv6⟩ : ∃ A n c, u6 = .slice A n c := by
            rcases hl6.2 with ⟨e, _⟩ | ⟨g', c, _, e, _⟩
            · exact ⟨_, _, _, e⟩
            · exact ⟨_, _, _, e⟩
          subst hv6
          clear hb6 hl6
          go_wp2_with (at_builtin; refine wpList_append_lies _ rfl _ _ 45 rfl (w.heap.size + 1) 30 i1 (.slice none 0 0) 1 24 Tryz.underlying45 hj hy0 hy1 hy2 rfl (by decide) u3 k vs rfl (HVr.out.alloc _) ⟨wr.heap.size, 0, none⟩ 1 1 [.slice A6 n6 c6] rfl rfl (cell_one_new wr _ _) (slice_int_one _ _ _) (by decide) (by unfold maxLen; omega) (by omega) (by simp; omega) (wr.heap.size + 1) (by simp) ?_; intro g8 cap8 w8 hown8 hgrow8 hat8 hlt8)
          have hs8 : wr.heap.size + 1 ≤ w8.heap.size := Nat.le_trans (by simp) hgrow8.size
          have HRN : Hid (RowsI (w.heap.size + 1) w8.heap.size w8 (.slice (some ⟨g8, 0, none⟩) (k + 1) cap8) ((List.range (k + 1)).map (fun j => predsK ss rs j ss.length))) := by
            have hgen := RowsI.snoc (lo := w.heap.size + 1) (hi := W5.heap.size) (s := W5.heap.size) (W := wr.alloc (.cells #[.slice A6 n6 c6] 30)) (w' := w8) (v := u3) (v' := .slice (some ⟨g8, 0, none⟩) (k + 1) cap8) (x := .slice A6 n6 c6) (zss := (List.range k).map (fun j => predsK ss rs j ss.length)) (zs := predsK ss rs k ss.length) (vs := vs) (by simp [h1]) (by simpa using HVr.out.alloc _) (fun i y zs hy hz => ((HV4.out i y zs hy hz).keep HB6.out).keep ((Below.refl _ _).alloc (Nat.le_refl _) _)) HV5.out (HL6.out.alloc _) (Nat.le_refl _) (by omega) hgrow8 (by simpa using hown8)
            rw [Hid, List.range_succ, List.map_append]
            exact hgen
          have HOutN : Hid (Out (w.heap.size + 1) (w.heap.size + 2) w3 w8) := by
            refine ⟨hgrow8.os.trans (HB6.out.os.trans HO.out.os), hgrow8.tape.trans (HB6.out.tape.trans HO.out.tape), hgrow8.output.trans (HB6.out.output.trans HO.out.output), by omega, fun q hq hr => ?_⟩
            have h7 : (wr.alloc (.cells #[.slice A6 n6 c6] 30)).heap[q]? = wr.heap[q]? := Below.heap_alloc _ _ _ (by omega)
            refine ((hgrow8.block q (by simp; omega) (fun e => ?_)).trans h7).trans ((HB6.out.block q (by omega)).trans (HO.out.block q hq hr))
            have := HOV.out q e.symm
            omega
          have HOVN : Hid (∀ q, (Value.slice (some ⟨g8, 0, none⟩) (k + 1) cap8).ownBlock = some q → q = w.heap.size + 1 ∨ w3.heap.size ≤ q) := by
            intro q hq
            simp [Value.ownBlock] at hq
            subst hq
            rcases hat8 with e | e
            · exact HOV.out _ e
            · omega
          clear hown8 hgrow8 hat8
          go_wp2
          go_roundw
          case rel => exact ⟨k + 1, by omega, by go_num, HRN.out, HOutN.out, HOVN.out⟩
          case measure => simp [intOf]; omega
    · have hki : ¬ (k : Int) < (ss.length : Int) := by omega
      obtain rfl : k = ss.length := by omega
      clear hR
      go_wp2
      exact HQ.out _ rs _ HB.out HRS.out HR.out

set_option maxHeartbeats 1000000 in
theorem specPreds_no {Q : Ending → World → Prop} (v : Value) (ss : List St) (w : World) (h : StepsAt w v ss) (hl : ss.length ≤ 1048576) (hls : ∀ s ∈ ss, s.next.length ≤ 1048576) (hok : okB ss = false)
    (hQ : ∀ v' w', Below w.heap.size w w' → RowsI (w.heap.size + 1) w'.heap.size w' v' [] → Q (.returned v') w') :
    Calls Tryz.prog 28 #[.agg #[v]] w Q := by
  have HQ : Hid _ := hQ
  clear hQ
  obtain ⟨ao, b, o, cap, rfl, ha, hc⟩ := id h
  clear ha hc
  have HH : Hid (StepsAt w (.slice ao ss.length cap) ss) := h
  have HL : Hid _ := hls
  clear hls h
  go_enter Tryz.func28, Tryz.ntmps28
  go_wp2_with fail
  have hb0 : ∀ O O', Below w.heap.size w ((w.alloc O).alloc O') := fun O O' => ((Below.refl _ _).alloc (Nat.le_refl _) O).alloc (by simp) O'
  refine specOk_any _ ss _ (HH.out.keep (hb0 _ _)) hl HL.out fun w1 hb1 => ?_
  rw [hok]
  have hbA : Below w.heap.size w w1 := (hb0 _ _).trans (hb1.mono (by simp; omega))
  have e1 : w1.ownsRow (w.heap.size + 1) 30 1 (.slice (some ⟨w.heap.size + 1, 0, none⟩) 0 0) 0 [] := by
    have h0 := World.ownsRow_lit (base := w.heap.size + 1) (e := 30) (size := 1) (w.alloc (.cells #[.slice ao ss.length cap] 25)) #[] 0 (by simp) (by decide) (by simp)
    have h1 := ownsRow_out h0 (Out.of_below (lo := 0) (hi := 0) hb1) (fun _ _ => Or.inr (Nat.zero_le _))
    simpa using h1
  have HE1 : Hid (RowsI (w.heap.size + 1) w1.heap.size w1 (.slice (some ⟨w.heap.size + 1, 0, none⟩) 0 0) []) := RowsI.nil e1 (fun k hk => (e1.lt k hk).2)
  clear hb1 hb0 e1
  go_wp2
  exact HQ.out _ _ hbA HE1.out

theorem specPreds_any {Q : Ending → World → Prop} (v : Value) (ss : List St) (w : World) (h : StepsAt w v ss) (hl : ss.length ≤ 1048576) (hls : ∀ s ∈ ss, s.next.length ≤ 1048576)
    (hQ : ∀ v' zss w', Below w.heap.size w w' → PredsOr ss zss → RowsI w.heap.size w'.heap.size w' v' zss → Q (.returned v') w') :
    Calls Tryz.prog 28 #[.agg #[v]] w Q := by
  cases hok : okB ss
  · exact specPreds_no v ss w h hl hls hok fun v' w' h1 h2 => hQ v' [] w' h1 (Or.inr ⟨hok, rfl⟩) (h2.lower (by omega))
  · exact specPreds_yes v ss w h hok fun v' rs w' h1 h2 h3 => hQ v' (predsL ss rs) w' h1 (Or.inl ⟨hok, rs, h2, rfl⟩) (h3.lower (by omega))
end Go.Proofs.YtmplkchdfloppaaGreatDoor
namespace Go.Proofs.YtmplkchdfloppaaGreatDoor
open Go.RowKit

set_option maxRecDepth 100000 in
set_option maxHeartbeats 8000000 in
theorem specSafeUp_any {Q : Ending → World → Prop} (v : Value) (ss : List St) (e : E5) (w : World) (h : StepsAt w v ss) (hl : ss.length ≤ 1048576) (hls : ∀ s ∈ ss, s.next.length ≤ 1048576)
    (hQ : ∀ v' bs w', Below w.heap.size w w' → SafeOr IsUp ss e bs → w'.ownsRow w.heap.size 4 1 v' bs.length (bs.map Value.bool) → Q (.returned v') w') :
    Calls Tryz.prog 26 #[.agg #[v], .agg #[.int .i64 e.op, .int .i64 e.av, .int .i64 e.an, .int .i64 e.bv, .int .i64 e.bn]] w Q := by
  have HQ : Hid _ := hQ
  clear hQ
  obtain ⟨ao, b, o, cap, rfl, ha, hc⟩ := id h
  have HA : Hid (0 < ss.length → ao = some ⟨b, o, none⟩) := ha
  have HC : Hid (∀ i s, ss[i]? = some s → ∃ nv, StepCells w b (o + i * 8) s nv ∧ IntsAt w nv s.next) := hc
  have HH : Hid (StepsAt w (.slice ao ss.length cap) ss) := h
  have HL : Hid (∀ s ∈ ss, s.next.length ≤ 1048576) := hls
  clear ha hc h hls
  go_enter Tryz.func26, Tryz.ntmps26
  go_wp2_with fail
  have hb0 : Below w.heap.size w ((w.alloc (.cells #[.slice ao ss.length cap] 25)).alloc (.cells #[.int .i64 e.op, .int .i64 e.av, .int .i64 e.an, .int .i64 e.bv, .int .i64 e.bn] 29)) := ((Below.refl _ _).alloc (Nat.le_refl _) _).alloc (by simp) _
  have hbx := BoxE.new w ao ss.length cap e 25 29
  have hsz0 : ((w.alloc (.cells #[.slice ao ss.length cap] 25)).alloc (.cells #[.int .i64 e.op, .int .i64 e.av, .int .i64 e.an, .int .i64 e.bv, .int .i64 e.bn] 29)).heap.size = w.heap.size + 2 := by simp
  generalize (w.alloc (.cells #[.slice ao ss.length cap] 25)).alloc (.cells #[.int .i64 e.op, .int .i64 e.av, .int .i64 e.an, .int .i64 e.bv, .int .i64 e.bn] 29) = W0 at *
  refine l12Ok_any _ ss e _ (HH.out.keep hb0) hl HL.out fun w1 hb1 => ?_
  have HB1 : Hid (Below w.heap.size w w1) := hb0.trans (hb1.mono (by omega))
  have HX1 : Hid (BoxE w1 w.heap.size ao ss.length cap e) := hbx.keep hb1
  have p1 := HX1.out.p
  have x10 := HX1.out.c0
  have x11 := HX1.out.c1
  have x12 := HX1.out.c2
  have x13 := HX1.out.c3
  have x14 := HX1.out.c4
  have hs1 : w.heap.size + 2 ≤ w1.heap.size := by have := hb1.size; omega
  clear hb0 hbx hb1 hsz0
  cases hok : (okB ss && exprB e)
  · have HR : Hid (SafeOr IsUp ss e []) := Or.inr ⟨by simpa using hok, rfl⟩
    clear hok
    go_wp2_with fail
    have hlit := World.ownsRow_lit (base := w.heap.size) (e := 4) (size := 1) w1 #[] 0 (by omega) (by decide) (by simp)
    have HLT : Hid ((w1.alloc (.cells #[] 4)).ownsRow w.heap.size 4 1 (.slice (some ⟨w1.heap.size, 0, none⟩) 0 0) 0 []) := hlit
    have HBF : Hid (∀ O, Below w.heap.size w (w1.alloc O)) := fun O => HB1.out.alloc HB1.out.size O
    clear hlit
    go_wp2
    exact HQ.out _ [] _ (HBF.out _) HR.out HLT.out
  obtain ⟨hok1, hex1⟩ : okB ss = true ∧ exprB e = true := by simpa using hok
  have HOK : Hid (okB ss = true) := hok1
  have HEX : Hid (exprB e = true) := hex1
  obtain ⟨hn1, hn2⟩ := ok_len hok1
  clear hok hok1 hex1
  go_wp2_with fail
  refine l12All_any _ ss _ (HH.out.keep HB1.out) HOK.out fun g c2 rs w2 hb2 hre hbf2 => ?_
  have HRE : Hid (IsReach ss rs) := hre
  have HF2 : Hid (BoolF w1.heap.size w2 g c2 ss.length (rF rs)) := hbf2
  have HB2 : Hid (Below w.heap.size w w2) := HB1.out.trans (hb2.mono HB1.out.size)
  have HX2 : Hid (BoxE w2 w.heap.size ao ss.length cap e) := HX1.out.keep hb2
  have p2 := HX2.out.p
  have x20 := HX2.out.c0
  have x21 := HX2.out.c1
  have x22 := HX2.out.c2
  have x23 := HX2.out.c3
  have x24 := HX2.out.c4
  have cz := hbf2.cell (j := 0) (by omega)
  have fz := hbf2.frozen 0
  have hszz : ¬ (ss.length : Int) ≤ 0 := by omega
  have HFZ : Hid (BoolF w1.heap.size (w2.setCell ⟨g, 0, none⟩ (.bool false)) g c2 ss.length (offB (rF rs) 0)) := hbf2.off 0
  have HBZ : Hid (Below w.heap.size w (w2.setCell ⟨g, 0, none⟩ (.bool false))) := HB2.out.setCell (by have := hbf2.lt; have := HB1.out.size; show w.heap.size ≤ g; omega) _
  have HXZ : Hid (BoxE (w2.setCell ⟨g, 0, none⟩ (.bool false)) w.heap.size ao ss.length cap e) := by
    have hgl := hbf2.lt
    have hne : ∀ (b j : Nat) (u : Value), b ≤ w.heap.size + 1 → w2.cell? ⟨b, j, none⟩ = some u → (w2.setCell ⟨g, 0, none⟩ (.bool false)).cell? ⟨b, j, none⟩ = some u := fun b j u hb hc => by
      rw [cell_setOther _ _ _ _ (by show b ≠ g; omega)]
      exact hc
    exact ⟨hne _ _ _ (by omega) HX2.out.p, hne _ _ _ (by omega) HX2.out.c0, hne _ _ _ (by omega) HX2.out.c1, hne _ _ _ (by omega) HX2.out.c2, hne _ _ _ (by omega) HX2.out.c3, hne _ _ _ (by omega) HX2.out.c4⟩
  have gz1 : ¬ w.heap.size = g := by have := hbf2.lt; omega
  have gz2 : ¬ w.heap.size + 1 = g := by have := hbf2.lt; omega
  have gz3 : ¬ g = w.heap.size := by omega
  have gz4 : ¬ g = w.heap.size + 1 := by omega
  clear hb2 hre hbf2 p1 x10 x11 x12 x13 x14 HX1 HF2 HB2 HX2
  go_wp2_with fail
  have hszq : (w2.setCell ⟨g, 0, none⟩ (.bool false)).heap.size = w2.heap.size := by simp
  generalize w2.setCell ⟨g, 0, none⟩ (.bool false) = w2 at *
  clear cz fz p2 x20 x21 x22 x23 x24
  have HF2 : Hid (BoolF w1.heap.size w2 g c2 ss.length (offB (rF rs) 0)) := HFZ.out
  have HB2 : Hid (Below w.heap.size w w2) := HBZ.out
  have HX2 : Hid (BoxE w2 w.heap.size ao ss.length cap e) := HXZ.out
  have p2 := HX2.out.p
  have x20 := HX2.out.c0
  have x21 := HX2.out.c1
  have x22 := HX2.out.c2
  have x23 := HX2.out.c3
  have x24 := HX2.out.c4
  clear HFZ HBZ HXZ hszq
  refine specComp_u _ ss e _ (HH.out.keep HB2.out) hl HL.out fun v3 cs w3 hb3 hcs hown3 => ?_
  obtain ⟨hcl, hcg⟩ := hcs.get HOK.out HEX.out
  obtain ⟨g3, c3, hv3, _, _⟩ := hown3.form (by omega)
  subst hv3
  rw [hcl] at hown3
  have HO3 : Hid (w3.ownsRow w2.heap.size 4 1 (.slice (some ⟨g3, 0, none⟩) ss.length c3) ss.length (cs.map Value.bool)) := hown3
  have HCG : Hid (∀ i (hi : i < ss.length), cs.getD i false = compB e ss[i]) := hcg
  have HF3 : Hid (BoolF w1.heap.size w3 g c2 ss.length (offB (rF rs) 0)) := HF2.out.keep hb3
  have HB3 : Hid (Below w.heap.size w w3) := HB2.out.trans (hb3.mono HB2.out.size)
  have HX3 : Hid (BoxE w3 w.heap.size ao ss.length cap e) := HX2.out.keep hb3
  have hs3 := HB2.out.size
  have p3 := HX3.out.p
  have x30 := HX3.out.c0
  have x31 := HX3.out.c1
  have x32 := HX3.out.c2
  have x33 := HX3.out.c3
  have x34 := HX3.out.c4
  clear hb3 hcs hown3 hcg p2 x20 x21 x22 x23 x24 HX2
  rw [hcl]
  go_wp2_with fail
  refine specKeeps_u _ ss e _ (HH.out.keep HB3.out) hl HL.out fun v4 ks w4 hb4 hks hown4 => ?_
  obtain ⟨hkl, hkg⟩ := hks.get HOK.out HEX.out
  obtain ⟨g4, c4, hv4, _, _⟩ := hown4.form (by omega)
  subst hv4
  rw [hkl] at hown4
  have HB4 : Hid (Below w.heap.size w w4) := HB3.out.trans (hb4.mono HB3.out.size)
  have HF4 : Hid (BoolF w1.heap.size w4 g c2 ss.length (offB (rF rs) 0)) := HF3.out.keep hb4
  have HX4 : Hid (BoxE w4 w.heap.size ao ss.length cap e) := HX3.out.keep hb4
  have hg1 := HF2.out.lt
  have hg3 := HO3.out.lt g3 rfl
  have hg4 := World.ownsRow.lt hown4 g4 rfl
  have hs2 := HF2.out.lt.2
  have HCC : Hid (∀ i, i < ss.length → w4.cell? ⟨g3, i, none⟩ = some (.bool (cF e ss i)) ∧ w4.cell? ⟨g4, i, none⟩ = some (.bool (kF e ss i))) := fun i hi => by
    have a1 := cell_keep hb4 ((World.ownsRow.cellAt HO3.out i (by omega)).trans (show (cs.map Value.bool)[i]? = some (.bool (cs.getD i false)) by
      have : i < cs.length := by omega
      simp [this]))
    have a2 := (World.ownsRow.cellAt hown4 i (by omega)).trans (show (ks.map Value.bool)[i]? = some (.bool (ks.getD i false)) by
      have : i < ks.length := by omega
      simp [this])
    rw [HCG.out i hi, ← cF_get hi] at a1
    rw [hkg i hi, ← kF_get hi] at a2
    exact ⟨a1, a2⟩
  have HNE : Hid (w.heap.size + 2 ≤ g ∧ g < w2.heap.size ∧ w2.heap.size ≤ g3 ∧ w2.heap.size ≤ g4 ∧ w1.heap.size ≤ g ∧ w2.heap.size ≤ w4.heap.size ∧ g3 < w4.heap.size) := by
    have := hb4.size
    have := HF3.out.lt
    exact ⟨by omega, by omega, by omega, by omega, by omega, by omega, by omega⟩
  clear hb4 hks hown4 hkg p3 x30 x31 x32 x33 x34 HX3 HO3 HCG HF3 HB3 HF2 HB2 hg1 hg3 hg4 hs2 hcl
  rw [hkl]
  clear hkl
  have p4 := HX4.out.p
  go_wp2_with fail
  refine specPreds_any _ ss _ (HH.out.keep HB4.out) hl HL.out fun v5 zss w5 hb5 hzs hrw5 => ?_
  have HZ : Hid (zss = predsL ss rs) := by
    rcases hzs with ⟨_, rs', h1, h2⟩ | ⟨h1, _⟩
    · rw [h1.unique HRE.out] at h2
      exact h2
    · rw [HOK.out] at h1
      cases h1
  obtain ⟨A5, c5, hv5⟩ := hrw5.slice
  subst hv5
  obtain rfl := HZ.out
  have hplen : (predsL ss rs).length = ss.length := by simp [predsL]
  have HB5 : Hid (Below w.heap.size w w5) := HB4.out.trans (hb5.mono HB4.out.size)
  have HF5 : Hid (BoolF w1.heap.size w5 g c2 ss.length (offB (rF rs) 0)) := HF4.out.keep hb5
  have HX5 : Hid (BoxE w5 w.heap.size ao ss.length cap e) := HX4.out.keep hb5
  have HCC5 : Hid (∀ i, i < ss.length → w5.cell? ⟨g3, i, none⟩ = some (.bool (cF e ss i)) ∧ w5.cell? ⟨g4, i, none⟩ = some (.bool (kF e ss i))) := fun i hi => ⟨cell_keep hb5 (HCC.out i hi).1, cell_keep hb5 (HCC.out i hi).2⟩
  have HRW : Hid (RowsI w4.heap.size w5.heap.size w5 (.slice A5 (predsL ss rs).length c5) (predsL ss rs)) := hrw5
  have hs45 := hb5.size
  clear hb5 hzs hrw5 p4 HX4 HF4 HCC
  go_wp2_with fail
  have hgw : w.heap.size + 2 ≤ g := HNE.out.1
  have hg4 : g < w4.heap.size := by have := HNE.out; omega
  have HM0 : Hid (Mono ss.length (upF (cF e ss) (kF e ss) (pF ss rs))) := upF_mono (low_preds ss rs)
  have HG00 : Hid (GI ss.length (rF rs) (upF (cF e ss) (kF e ss) (pF ss rs)) (offB (rF rs) 0)) := (GI.start _ _ _).off HM0.out (by simp [upF])
  obtain ⟨F, hF⟩ : ∃ F, F = upF (cF e ss) (kF e ss) (pF ss rs) := ⟨_, rfl⟩
  have HFD : Hid (F = upF (cF e ss) (kF e ss) (pF ss rs)) := hF
  rw [← hF] at HM0 HG00
  have HM : Hid (Mono ss.length F) := HM0.out
  have HG0 : Hid (GI ss.length (rF rs) F (offB (rF rs) 0)) := HG00.out
  clear hF HM0 HG00
  have HFIN : Hid (∀ wr f, BoolF w1.heap.size wr g c2 ss.length f → Out g (g + 1) w5 wr → GI ss.length (rF rs) F f → (∀ i, i < ss.length → f i = true → F f i = true) →
      Below w.heap.size w wr ∧ SafeOr IsUp ss e ((List.range ss.length).map f) ∧ wr.ownsRow w.heap.size 4 1 (.slice (some ⟨g, 0, none⟩) ss.length c2) ((List.range ss.length).map f).length (((List.range ss.length).map f).map Value.bool)) := fun wr f hbf ho hgi hfx => by
    refine ⟨HB5.out.trans (ho.below (by omega) HB5.out.size), Or.inl ⟨HOK.out, HEX.out, rs, f, HRE.out, ?_, rfl⟩, ?_⟩
    · unfold IsUp
      rw [← HFD.out]
      exact hgi.done hfx
    · rw [List.length_map, List.length_range, List.map_map]
      exact own_lower hbf HB1.out.size
  go_loopw [9, 10, 11, 12] (fun ch _ _ _ wr => ∃ f bo, ch = .bool bo ∧ BoolF w1.heap.size wr g c2 ss.length f ∧ Out g (g + 1) w5 wr ∧ GI ss.length (rF rs) F f ∧ f 0 = false ∧ (bo = false → ∀ i, i < ss.length → f i = true → F f i = true)) (fun ch _ _ _ wr => 2 * cnt (trueAt wr g) ss.length + boolN ch)
  case atStart => exact ⟨offB (rF rs) 0, true, rfl, HF5.out, Out.refl _ _ _, HG0.out, rfl, fun h => by cases h⟩
  case round =>
    clear HF5 HG0
    obtain ⟨f0, bo, rfl, hbf, ho, hgi, hf0, hfx⟩ := hrel
    cases bo with
    | false =>
      have HE : Hid _ := HFIN.out wr f0 hbf ho hgi (hfx rfl)
      clear hbf ho hgi hfx hf0
      go_wp2
      exact HQ.out _ _ _ HE.out.1 HE.out.2.1 HE.out.2.2
    | true =>
      have HBF : Hid (BoolF w1.heap.size wr g c2 ss.length f0) := hbf
      have HO : Hid (Out g (g + 1) w5 wr) := ho
      have HP0 : Hid (PassS ss.length (rF rs) F f0 f0 0 false) := PassS.start hgi
      have HZ0 : Hid (f0 0 = false) := hf0
      have HME : Hid (2 * cnt (trueAt wr g) ss.length + boolN (.bool true) = 2 * cnt f0 ss.length + 1) := by rw [Hid, trueAt_F hbf]; rfl
      clear hbf ho hgi hfx hf0
      go_wp2_with fail
      go_loopw [9, 10, 11, 12] (fun ch i _ _ wx => ∃ k f b, k ≤ ss.length ∧ i = .int .i64 (k : Nat) ∧ ch = .bool b ∧ BoolF w1.heap.size wx g c2 ss.length f ∧ Out g (g + 1) w5 wx ∧ PassS ss.length (rF rs) F f0 f k b ∧ f 0 = false) (fun _ i _ _ _ => ss.length - (intOf i).toNat)
      case atStart => exact ⟨0, f0, false, Nat.zero_le _, rfl, rfl, HBF.out, HO.out, HP0.out, HZ0.out⟩
      case round =>
        clear HBF HO HP0
        obtain ⟨x, f, bo, hx, rfl, rfl, hbf, ho, hps, hf0⟩ := hrel
        have HBF : Hid (BoolF w1.heap.size wr g c2 ss.length f) := hbf
        have HO : Hid (Out g (g + 1) w5 wr) := ho
        have HPS : Hid (PassS ss.length (rF rs) F f0 f x bo) := hps
        have HF0 : Hid (f 0 = false) := hf0
        clear hf0
        by_cases hxl : x < ss.length
        · have hxi : (x : Int) < (ss.length : Int) := by omega
          have HMX : Hid (2 * cnt (trueAt wr g) ss.length = 2 * cnt f ss.length) := by rw [Hid, trueAt_F hbf]
          obtain ⟨gp, yv, hA5, hcy, ⟨A', c', hyv⟩, hlo, hIO⟩ : ∃ gp, ∃ y : Value, A5 = some ⟨gp, 0, none⟩ ∧ w5.cell? ⟨gp, x, none⟩ = some y ∧ (∃ A c, y = .slice A (pF ss rs x).length c) ∧ w4.heap.size ≤ gp ∧ IntsO w4.heap.size w5.heap.size w5 y (pF ss rs x) := by
            obtain ⟨ao', g', cap', hv', hr'⟩ := HRW.out.read
            cases hv'
            obtain ⟨y, A', c', h1, h2, h3, h4⟩ := hr' x (predsK ss rs x ss.length) (by simp [predsL, hxl])
            have hlo : w4.heap.size ≤ g' := by
              obtain ⟨vs, _, hvo, hhi, _⟩ := HRW.out
              rw [h1] at hvo
              exact (World.ownsRow.lt hvo g' rfl).1
            exact ⟨g', y, h1, h2, ⟨A', c', h3⟩, hlo, h4⟩
          subst hA5
          subst hyv
          obtain ⟨ar, gr, capr, har, hcr⟩ := hIO.read
          cases har
          have HCR : Hid (∀ i, i < (pF ss rs x).length → A' = some ⟨gr, 0, none⟩ ∧ w5.cell? ⟨gr, i, none⟩ = some (.int .i64 ((pF ss rs x).getD i 0)) ∧ g + 1 ≤ gr) := fun i hi => ⟨(hcr i hi).1, (hcr i hi).2.1, by have := (hcr i hi).2.2.2.1; omega⟩
          have HCY : Hid (w5.cell? ⟨gp, x, none⟩ = some (.slice A' (pF ss rs x).length c')) := hcy
          have hgp : g + 1 ≤ gp := by omega
          have HFX : Hid (∀ f, F f x = (decide (x ≠ 0) && allI (pF ss rs x) (fun m => kF e ss m && (cF e ss m || f m)))) := fun f => by rw [HFD.out]; rfl
          have HLX : Hid (∀ y ∈ pF ss rs x, 0 ≤ y ∧ y < (ss.length : Int)) := low_preds ss rs x hxl
          have hpl : (pF ss rs x).length ≤ 60 := Nat.le_trans (predsK_len _ _ _ _) hn2
          have SK : Hid (F f x = true ∨ f x = false → PassS ss.length (rF rs) F f0 f (x + 1) bo) := fun h => HPS.out.skip fun h1 => by
            rcases h with h | h
            · exact h
            · rw [h1] at h; cases h
          have ST : Hid (f x = true → F f x = false → PassS ss.length (rF rs) F f0 (offB f x) (x + 1) true) := fun h1 h2 => HPS.out.off HM.out hxl h1 h2
          have HOF0 : Hid (offB f x 0 = false) := by
            unfold offB
            split
            · rfl
            · exact HF0.out
          clear hbf ho hps hcr hIO hcy hlo HPS
          generalize pF ss rs x = zs at *
          go_wp2_with fail
          go_loopw [9, 11, 12] (fun ch kk _ wx => ∃ k f' b', k ≤ zs.length ∧ kk = .int .i64 (k : Nat) ∧ ch = .bool b' ∧ BoolF w1.heap.size wx g c2 ss.length f' ∧ Out g (g + 1) w5 wx ∧ ((f' = f ∧ b' = bo ∧ ∀ j, j < k → (kF e ss (zs.getD j 0).toNat && (cF e ss (zs.getD j 0).toNat || f (zs.getD j 0).toNat)) = true) ∨ (f' = offB f x ∧ b' = true ∧ f x = true ∧ F f x = false))) (fun _ kk _ _ => zs.length - (intOf kk).toNat)
          case atStart => exact ⟨0, f, bo, Nat.zero_le _, rfl, rfl, HBF.out, HO.out, Or.inl ⟨rfl, rfl, fun j hj => by omega⟩⟩
          case round =>
            clear HBF HO
            obtain ⟨k, f', b', hk, rfl, rfl, hbf, ho, hcase⟩ := hrel
            have HBF : Hid (BoolF w1.heap.size wr g c2 ss.length f') := hbf
            have HO : Hid (Out g (g + 1) w5 wr) := ho
            have cp := ho.cell HCY.out (Or.inr (by show g + 1 ≤ gp; omega))
            have cf := hbf.cell hxl
            have ff := hbf.frozen x
            by_cases hkl : k < zs.length
            · have hki : (k : Int) < (zs.length : Int) := by omega
              rcases hcase with ⟨rfl, rfl, hall⟩ | ⟨rfl, rfl, hfx, hFx⟩
              · cases hfx : f' x
                · rw [hfx] at cf
                  have HN : Hid _ := SK.out (Or.inr hfx)
                  clear hbf ho hall hfx SK ST
                  go_wp2
                  go_roundw
                  case rel => exact ⟨x + 1, f', b', by omega, by go_num, rfl, HBF.out, HO.out, HN.out, HF0.out⟩
                  case measure => simp [intOf]; omega
                · rw [hfx] at cf
                  have HFT : Hid (f' x = true) := hfx
                  clear hfx
                  obtain ⟨rfl, hcr, hgr⟩ := HCR.out k hkl
                  have hcr2 := ho.cell hcr (Or.inr (by show g + 1 ≤ gr; omega))
                  have hzm : zs.getD k 0 ∈ zs := by
                    rw [List.getD_eq_getElem?_getD, List.getElem?_eq_getElem hkl]
                    exact List.getElem_mem hkl
                  obtain ⟨z0, z1⟩ := HLX.out _ hzm
                  have HAL : Hid (∀ j, j < k → (kF e ss (zs.getD j 0).toNat && (cF e ss (zs.getD j 0).toNat || f' (zs.getD j 0).toNat)) = true) := hall
                  have HNX : Hid ((kF e ss (zs.getD k 0).toNat && (cF e ss (zs.getD k 0).toNat || f' (zs.getD k 0).toNat)) = true → ∀ j, j < k + 1 → (kF e ss (zs.getD j 0).toNat && (cF e ss (zs.getD j 0).toNat || f' (zs.getD j 0).toNat)) = true) := fun h j hj => by
                    by_cases e1 : j = k
                    · subst e1; exact h
                    · exact HAL.out j (by omega)
                  have HFF : Hid ((kF e ss (zs.getD k 0).toNat && (cF e ss (zs.getD k 0).toNat || f' (zs.getD k 0).toNat)) = false → F f' x = false) := fun h => by
                    rw [HFX.out]
                    have : allI zs (fun m => kF e ss m && (cF e ss m || f' m)) = false := by
                      unfold allI
                      rw [List.all_eq_false]
                      exact ⟨_, hzm, fun hh => by rw [show ((fun m => kF e ss m && (cF e ss m || f' m)) (zs.getD k 0).toNat) = false from h] at hh; cases hh⟩
                    rw [this, Bool.and_false]
                  clear hall hcr hzm HAL
                  generalize zs.getD k 0 = z at *
                  obtain ⟨m, rfl⟩ := Int.eq_ofNat_of_zero_le z0
                  have hm : m < ss.length := by omega
                  rw [show ((m : Int)).toNat = m from rfl] at HNX HFF
                  have cm := hbf.cell hm
                  have d1 := ho.cell (HCC5.out m hm).1 (Or.inr (by show g + 1 ≤ g3; have := HNE.out; omega))
                  have d2 := ho.cell (HCC5.out m hm).2 (Or.inr (by show g + 1 ≤ g4; have := HNE.out; omega))
                  have HST : Hid (BoolF w1.heap.size (wr.setCell ⟨g, x, none⟩ (.bool false)) g c2 ss.length (offB f' x) ∧ Out g (g + 1) w5 (wr.setCell ⟨g, x, none⟩ (.bool false))) := ⟨hbf.off x, ho.setCell (Nat.le_refl _) (by show g < g + 1; omega) _⟩
                  have hmi : (m : Int) < (ss.length : Int) := by omega
                  clear hbf ho
                  cases hkm : kF e ss m
                  · rw [hkm] at d2
                    have HN : Hid _ := HFF.out (by rw [hkm]; rfl)
                    clear hkm HNX HFF SK ST HBF HO
                    go_wp2
                    go_roundw
                    case rel => exact ⟨k + 1, offB f' x, true, by omega, by go_num, rfl, HST.out.1, HST.out.2, Or.inr ⟨rfl, rfl, (by first | exact HFT.out | trivial), HN.out⟩⟩
                    case measure => simp [intOf]; omega
                  · rw [hkm] at d2
                    cases hcm : cF e ss m
                    · rw [hcm] at d1
                      cases hfm : f' m
                      · rw [hfm] at cm
                        have HN : Hid _ := HFF.out (by rw [hkm, hcm, hfm]; rfl)
                        clear hkm hcm hfm HNX HFF SK ST HBF HO
                        go_wp2
                        go_roundw
                        case rel => exact ⟨k + 1, offB f' x, true, by omega, by go_num, rfl, HST.out.1, HST.out.2, Or.inr ⟨rfl, rfl, (by first | exact HFT.out | trivial), HN.out⟩⟩
                        case measure => simp [intOf]; omega
                      · rw [hfm] at cm
                        have HN : Hid _ := HNX.out (by rw [hkm, hcm, hfm]; rfl)
                        clear hkm hcm hfm HNX HFF SK ST HST
                        go_wp2
                        go_roundw
                        case rel => exact ⟨k + 1, f', b', by omega, by go_num, rfl, HBF.out, HO.out, Or.inl ⟨rfl, rfl, HN.out⟩⟩
                        case measure => simp [intOf]; omega
                    · rw [hcm] at d1
                      have HN : Hid _ := HNX.out (by rw [hkm, hcm]; rfl)
                      clear hkm hcm HNX HFF SK ST HST
                      go_wp2
                      go_roundw
                      case rel => exact ⟨k + 1, f', b', by omega, by go_num, rfl, HBF.out, HO.out, Or.inl ⟨rfl, rfl, HN.out⟩⟩
                      case measure => simp [intOf]; omega
              · have hxx : offB f x x = false := by simp [offB]
                rw [hxx] at cf
                have HN : Hid _ := ST.out hfx hFx
                clear hbf ho hxx SK ST hfx hFx
                go_wp2
                go_roundw
                case rel => exact ⟨x + 1, offB f x, true, by omega, by go_num, rfl, HBF.out, HO.out, HN.out, HOF0.out⟩
                case measure => simp [intOf]; omega
            · have hki : ¬ (k : Int) < (zs.length : Int) := by omega
              obtain rfl : k = zs.length := by omega
              rcases hcase with ⟨rfl, rfl, hall⟩ | ⟨rfl, rfl, hfx, hFx⟩
              · have HN : Hid (PassS ss.length (rF rs) F f0 f' (x + 1) b') := SK.out (by
                  cases hfx : f' x
                  · exact Or.inr rfl
                  · left
                    have hx0 : x ≠ 0 := fun h => by subst h; rw [HF0.out] at hfx; cases hfx
                    rw [HFX.out, decide_eq_true hx0, Bool.true_and]
                    unfold allI
                    rw [List.all_eq_true]
                    intro y hy
                    obtain ⟨j, hj, e1⟩ := List.getElem_of_mem hy
                    have := hall j hj
                    rw [List.getD_eq_getElem?_getD, List.getElem?_eq_getElem hj] at this
                    rw [← e1]
                    exact this)
                clear hbf ho hall SK ST
                go_wp2
                go_roundw
                case rel => exact ⟨x + 1, f', b', by omega, by go_num, rfl, HBF.out, HO.out, HN.out, HF0.out⟩
                case measure => simp [intOf]; omega
              · have HN : Hid _ := ST.out hfx hFx
                clear hbf ho SK ST hfx hFx
                go_wp2
                go_roundw
                case rel => exact ⟨x + 1, offB f x, true, by omega, by go_num, rfl, HBF.out, HO.out, HN.out, HOF0.out⟩
                case measure => simp [intOf]; omega
        · have hxi : ¬ (x : Int) < (ss.length : Int) := by omega
          obtain rfl : x = ss.length := by omega
          clear hbf ho hps
          go_wp2
          go_roundw
          case rel => exact ⟨f, bo, rfl, HBF.out, HO.out, HPS.out.gi, HF0.out, fun h i hi hf => (HPS.out.no h).2 i hi hf⟩
          case measure =>
            have e1 := HME.out
            have e2 := trueAt_F HBF.out
            rw [e1, e2]
            cases bo with
            | false =>
              have e3 := (HPS.out.no rfl).1
              rw [e3]
              simp [boolN]
            | true =>
              have e3 := HPS.out.yes rfl
              simp only [boolN]
              omega
end Go.Proofs.YtmplkchdfloppaaGreatDoor
namespace Go.Proofs.YtmplkchdfloppaaGreatDoor
open Go.RowKit

theorem BoolF.set {lo g cap n : Nat} {w : World} {f : Nat → Bool} (h : BoolF lo w g cap n f) (x : Nat) (u : Bool) : BoolF lo (w.setCell ⟨g, x, none⟩ (.bool u)) g cap n (fun j => if j = x then u else f j) := by
  have h1 := (World.ownsRow.stored h x (.bool u)).1
  unfold BoolF
  have e : (List.range n).map (fun j => Value.bool (if j = x then u else f j)) = ((List.range n).map (fun j => Value.bool (f j))).set x (.bool u) := by
    apply List.ext_getElem?
    intro j
    rw [List.getElem?_set, List.getElem?_map, List.getElem?_map]
    by_cases hj : j < n
    · by_cases e : x = j
      · subst e
        simp [hj]
      · have : ¬ j = x := fun h => e h.symm
        simp [hj, e, this]
    · have e1 : (List.range n)[j]? = none := List.getElem?_eq_none (by simp; omega)
      rw [e1]
      by_cases e : x = j
      · subst e; simp [hj]
      · simp [e]
  rw [e]
  exact h1

/-- A row that a function of chapter 12 answers, of a program and a reckoning that are ok. -/
theorem BoolF.of_row {lo n : Nat} {w : World} {v : Value} {f : Nat → Bool} (h1 : 0 < n) (h : w.ownsRow lo 4 1 v ((List.range n).map f).length (((List.range n).map f).map Value.bool)) : ∃ g cap, v = .slice (some ⟨g, 0, none⟩) n cap ∧ BoolF lo w g cap n f := by
  rw [List.length_map, List.length_range, List.map_map] at h
  obtain ⟨g, cap, hv, _, _⟩ := h.form h1
  subst hv
  exact ⟨g, cap, rfl, h⟩

theorem BoolF.row {lo g cap n : Nat} {w : World} {f : Nat → Bool} (h : BoolF lo w g cap n f) {lo' : Nat} (hl : lo' ≤ lo) : w.ownsRow lo' 4 1 (.slice (some ⟨g, 0, none⟩) n cap) ((List.range n).map f).length (((List.range n).map f).map Value.bool) := by
  rw [List.length_map, List.length_range, List.map_map]
  exact own_lower h hl

/-- Some of the first k is not so. -/
def notTo (zs : List Int) (f : Nat → Bool) (k : Nat) : Bool := (zs.take k).any (fun y => !f y.toNat)

theorem notTo_succ {zs : List Int} {f : Nat → Bool} {k : Nat} (hk : k < zs.length) : notTo zs f (k + 1) = (notTo zs f k || !f (zs.getD k 0).toNat) := by
  unfold notTo
  rw [List.take_add_one, List.getElem?_eq_getElem hk, List.any_append, List.getD_eq_getElem?_getD, List.getElem?_eq_getElem hk]
  simp

theorem notTo_all (zs : List Int) (f : Nat → Bool) : notTo zs f zs.length = !allI zs f := by
  unfold notTo allI
  rw [List.take_length, List.not_all_eq_any_not]

set_option maxRecDepth 100000 in
set_option maxHeartbeats 8000000 in
theorem specSafeEarly_any {Q : Ending → World → Prop} (v : Value) (ss : List St) (e : E5) (w : World) (h : StepsAt w v ss) (hl : ss.length ≤ 1048576) (hls : ∀ s ∈ ss, s.next.length ≤ 1048576)
    (hQ : ∀ v' bs w', Below w.heap.size w w' → SafeOr IsEarly ss e bs → w'.ownsRow w.heap.size 4 1 v' bs.length (bs.map Value.bool) → Q (.returned v') w') :
    Calls Tryz.prog 8 #[.agg #[v], .agg #[.int .i64 e.op, .int .i64 e.av, .int .i64 e.an, .int .i64 e.bv, .int .i64 e.bn]] w Q := by
  have HQ : Hid _ := hQ
  clear hQ
  obtain ⟨ao, b, o, cap, rfl, ha, hc⟩ := id h
  have HH : Hid (StepsAt w (.slice ao ss.length cap) ss) := h
  have HL : Hid (∀ s ∈ ss, s.next.length ≤ 1048576) := hls
  clear ha hc h hls
  go_enter Tryz.func8, Tryz.ntmps8
  go_wp2_with fail
  have hb0 : Below w.heap.size w ((w.alloc (.cells #[.slice ao ss.length cap] 25)).alloc (.cells #[.int .i64 e.op, .int .i64 e.av, .int .i64 e.an, .int .i64 e.bv, .int .i64 e.bn] 29)) := ((Below.refl _ _).alloc (Nat.le_refl _) _).alloc (by simp) _
  have hbx := BoxE.new w ao ss.length cap e 25 29
  generalize (w.alloc (.cells #[.slice ao ss.length cap] 25)).alloc (.cells #[.int .i64 e.op, .int .i64 e.av, .int .i64 e.an, .int .i64 e.bv, .int .i64 e.bn] 29) = W0 at *
  refine specSafeDown_any _ ss e _ (HH.out.keep hb0) hl HL.out fun v1 bs1 w1 hb1 hs1 hown1 => ?_
  have HB1 : Hid (Below w.heap.size w w1) := hb0.trans (hb1.mono hb0.size)
  have HX1 : Hid (BoxE w1 w.heap.size ao ss.length cap e) := hbx.keep hb1
  have HO1 : Hid (w1.ownsRow w.heap.size 4 1 v1 bs1.length (bs1.map Value.bool)) := own_lower hown1 hb0.size
  have HX0 : Hid (w.heap.size + 1 < W0.heap.size) := cell_lt hbx.c0
  have HGL : Hid (∀ k, v1.ownBlock = some k → W0.heap.size ≤ k) := fun k hk => (hown1.lt k hk).1
  clear hb0 hbx hb1 hown1
  rcases hs1 with ⟨hok, hex, rs, d, hre, hd, rfl⟩ | ⟨hno, rfl⟩
  · have HOK : Hid (okB ss = true) := hok
    have HEX : Hid (exprB e = true) := hex
    have HRE : Hid (IsReach ss rs) := hre
    have HD : Hid (IsDown ss e rs d) := hd
    obtain ⟨hn1, hn2⟩ := ok_len hok
    obtain ⟨g, c2, rfl, hf1⟩ := BoolF.of_row hn1 HO1.out
    have HF1 : Hid (BoolF w.heap.size w1 g c2 ss.length d) := hf1
    have hgw : w.heap.size + 2 ≤ g := by have := HGL.out g rfl; have := HX0.out; omega
    clear hok hex hre hd hf1 HO1
    have hni : ¬ (ss.length : Int) = 0 := by omega
    have hnb : ((ss.length : Int) == 0) = false := beq_eq_false_iff_ne.2 hni
    have p1 := HX1.out.p
    have x10 := HX1.out.c0
    have x11 := HX1.out.c1
    have x12 := HX1.out.c2
    have x13 := HX1.out.c3
    have x14 := HX1.out.c4
    go_wp2_with fail
    refine specSafeDown_any _ ss e _ (HH.out.keep HB1.out) hl HL.out fun v2 bs2 w2 hb2 hs2 hown2 => ?_
    obtain rfl : bs2 = (List.range ss.length).map d := SafeOr.unique IsDown.unique hs2 (Or.inl ⟨HOK.out, HEX.out, rs, d, HRE.out, HD.out, rfl⟩)
    obtain ⟨g2, c22, rfl, hf2⟩ := BoolF.of_row hn1 hown2
    have HB2 : Hid (Below w.heap.size w w2) := HB1.out.trans (hb2.mono HB1.out.size)
    have HX2 : Hid (BoxE w2 w.heap.size ao ss.length cap e) := HX1.out.keep hb2
    have HF12 : Hid (BoolF w.heap.size w2 g c2 ss.length d) := HF1.out.keep hb2
    have HF2 : Hid (BoolF w1.heap.size w2 g2 c22 ss.length d) := hf2
    have hg12 : g < g2 := by have := HF1.out.lt; have := hf2.lt; omega
    have p2 := HX2.out.p
    have x20 := HX2.out.c0
    have x21 := HX2.out.c1
    have x22 := HX2.out.c2
    have x23 := HX2.out.c3
    have x24 := HX2.out.c4
    clear hb2 hs2 hown2 hf2 p1 x10 x11 x12 x13 x14 HX1 HF1
    go_wp2_with fail
    refine specSafeUp_any _ ss e _ (HH.out.keep HB2.out) hl HL.out fun v3 bs3 w3 hb3 hs3 hown3 => ?_
    obtain ⟨u, hu, rfl⟩ : ∃ u, IsUp ss e rs u ∧ bs3 = (List.range ss.length).map u := by
      rcases hs3 with ⟨_, _, rs', u, k1, k2, k3⟩ | ⟨k1, _⟩
      · obtain rfl := HRE.out.unique k1
        exact ⟨u, k2, k3⟩
      · exact absurd ⟨HOK.out, HEX.out⟩ k1
    have HU : Hid (IsUp ss e rs u) := hu
    obtain ⟨g3, c33, rfl, hf3⟩ := BoolF.of_row hn1 hown3
    have HB3 : Hid (Below w.heap.size w w3) := HB2.out.trans (hb3.mono HB2.out.size)
    have HX3 : Hid (BoxE w3 w.heap.size ao ss.length cap e) := HX2.out.keep hb3
    have HF13 : Hid (BoolF w.heap.size w3 g c2 ss.length d) := HF12.out.keep hb3
    have HF23 : Hid (BoolF w1.heap.size w3 g2 c22 ss.length d) := HF2.out.keep hb3
    have HF3 : Hid (BoolF w2.heap.size w3 g3 c33 ss.length u) := hf3
    have hg13 : g < g3 := by have := HF12.out.lt; have := hf3.lt; omega
    have p3 := HX3.out.p
    have x30 := HX3.out.c0
    have x31 := HX3.out.c1
    have x32 := HX3.out.c2
    have x33 := HX3.out.c3
    have x34 := HX3.out.c4
    clear hb3 hs3 hown3 hf3 hu p2 x20 x21 x22 x23 x24 HX2 HF12 HF2
    go_wp2_with fail
    refine specKeeps_u _ ss e _ (HH.out.keep HB3.out) hl HL.out fun v4 ks w4 hb4 hks hown4 => ?_
    obtain ⟨hkl, hkg⟩ := hks.get HOK.out HEX.out
    obtain ⟨g4, c4, hv4, _, _⟩ := hown4.form (by omega)
    subst hv4
    rw [hkl] at hown4
    have HB4 : Hid (Below w.heap.size w w4) := HB3.out.trans (hb4.mono HB3.out.size)
    have HX4 : Hid (BoxE w4 w.heap.size ao ss.length cap e) := HX3.out.keep hb4
    have HF14 : Hid (BoolF w.heap.size w4 g c2 ss.length d) := HF13.out.keep hb4
    have hg14 : g < g4 := by have := HF13.out.lt; have := World.ownsRow.lt hown4 g4 rfl; omega
    have HCC4 : Hid (∀ i, i < ss.length → w4.cell? ⟨g2, i, none⟩ = some (.bool (d i)) ∧ w4.cell? ⟨g3, i, none⟩ = some (.bool (u i)) ∧ w4.cell? ⟨g4, i, none⟩ = some (.bool (kF e ss i))) := fun i hi => by
      have a2 := (World.ownsRow.cellAt hown4 i (by omega)).trans (show (ks.map Value.bool)[i]? = some (.bool (ks.getD i false)) by
        have : i < ks.length := by omega
        simp [this])
      rw [hkg i hi, ← kF_get hi] at a2
      exact ⟨cell_keep hb4 (HF23.out.cell hi), cell_keep hb4 (HF3.out.cell hi), a2⟩
    have p4 := HX4.out.p
    clear hb4 hks hown4 hkg p3 x30 x31 x32 x33 x34 HX3 HF13 HF23 HF3
    rw [hkl]
    clear hkl
    go_wp2_with fail
    refine specPreds_any _ ss _ (HH.out.keep HB4.out) hl HL.out fun v5 zss w5 hb5 hzs hrw5 => ?_
    have HZ : Hid (zss = predsL ss rs) := by
      rcases hzs with ⟨_, rs', h1, h2⟩ | ⟨h1, _⟩
      · rw [h1.unique HRE.out] at h2
        exact h2
      · rw [HOK.out] at h1
        cases h1
    obtain ⟨A5, c5, hv5⟩ := hrw5.slice
    subst hv5
    obtain rfl := HZ.out
    have hplen : (predsL ss rs).length = ss.length := by simp [predsL]
    have HB5 : Hid (Below w.heap.size w w5) := HB4.out.trans (hb5.mono HB4.out.size)
    have HF15 : Hid (BoolF w.heap.size w5 g c2 ss.length d) := HF14.out.keep hb5
    have HCC : Hid (∀ i, i < ss.length → w5.cell? ⟨g2, i, none⟩ = some (.bool (d i)) ∧ w5.cell? ⟨g3, i, none⟩ = some (.bool (u i)) ∧ w5.cell? ⟨g4, i, none⟩ = some (.bool (kF e ss i))) := fun i hi => ⟨cell_keep hb5 (HCC4.out i hi).1, cell_keep hb5 (HCC4.out i hi).2.1, cell_keep hb5 (HCC4.out i hi).2.2⟩
    have HRW : Hid (RowsI w4.heap.size w5.heap.size w5 (.slice A5 (predsL ss rs).length c5) (predsL ss rs)) := hrw5
    have hgl4 : g < w4.heap.size := HF14.out.lt.2
    clear hb5 hzs hrw5 p4 HX4 HF14 HCC4
    obtain ⟨E, hE⟩ : ∃ E, E = earlyB (kF e ss) d u (pF ss rs) := ⟨_, rfl⟩
    have HED : Hid (E = earlyB (kF e ss) d u (pF ss rs)) := hE
    have HE0 : Hid (E 0 = d 0) := by rw [Hid, hE]; simp [earlyB]
    clear hE
    have HIS : Hid (IsEarly ss e rs E) := ⟨d, u, HD.out, HU.out, fun i _ => by rw [HED.out]⟩
    go_wp2_with fail
    go_loopw [10, 11, 12, 13] (fun i _ _ _ wr => ∃ k : Nat, 1 ≤ k ∧ k ≤ ss.length ∧ i = .int .i64 k ∧ BoolF w.heap.size wr g c2 ss.length (fun j => if j < k then E j else d j) ∧ Out g (g + 1) w5 wr) (fun i _ _ _ _ => ss.length - (intOf i).toNat)
    case atStart =>
      refine ⟨1, Nat.le_refl _, hn1, rfl, HF15.out.congr fun j _ => ?_, Out.refl _ _ _⟩
      by_cases h1 : j < 1
      · obtain rfl : j = 0 := by omega
        simp [HE0.out]
      · simp [h1]
    case round =>
      clear HF15
      obtain ⟨x, hx1, hx, rfl, hbf, ho⟩ := hrel
      have HBF : Hid (BoolF w.heap.size wr g c2 ss.length (fun j => if j < x then E j else d j)) := hbf
      have HO : Hid (Out g (g + 1) w5 wr) := ho
      clear hbf ho
      by_cases hxl : x < ss.length
      · have hxi : (x : Int) < (ss.length : Int) := by omega
        obtain ⟨gp, yv, hA5, hcy, ⟨A', c', hyv⟩, hlo, hIO⟩ : ∃ gp, ∃ y : Value, A5 = some ⟨gp, 0, none⟩ ∧ w5.cell? ⟨gp, x, none⟩ = some y ∧ (∃ A c, y = .slice A (pF ss rs x).length c) ∧ w4.heap.size ≤ gp ∧ IntsO w4.heap.size w5.heap.size w5 y (pF ss rs x) := by
          obtain ⟨ao', g', cap', hv', hr'⟩ := HRW.out.read
          cases hv'
          obtain ⟨y, A', c', h1, h2, h3, h4⟩ := hr' x (predsK ss rs x ss.length) (by simp [predsL, hxl])
          have hlo : w4.heap.size ≤ g' := by
            obtain ⟨vs, _, hvo, hhi, _⟩ := HRW.out
            rw [h1] at hvo
            exact (World.ownsRow.lt hvo g' rfl).1
          exact ⟨g', y, h1, h2, ⟨A', c', h3⟩, hlo, h4⟩
        subst hA5
        subst hyv
        obtain ⟨ar, gr, capr, har, hcr⟩ := hIO.read
        cases har
        have HCR : Hid (∀ i, i < (pF ss rs x).length → A' = some ⟨gr, 0, none⟩ ∧ w5.cell? ⟨gr, i, none⟩ = some (.int .i64 ((pF ss rs x).getD i 0)) ∧ g + 1 ≤ gr) := fun i hi => ⟨(hcr i hi).1, (hcr i hi).2.1, by have := (hcr i hi).2.2.2.1; omega⟩
        have HCY : Hid (w5.cell? ⟨gp, x, none⟩ = some (.slice A' (pF ss rs x).length c')) := hcy
        have hgp : g + 1 ≤ gp := by omega
        have HEX2 : Hid (E x = (d x && !allI (pF ss rs x) (fun m => kF e ss m && (d m || u m)))) := by
          rw [Hid, HED.out]
          have : ¬ x = 0 := by omega
          simp [earlyB, this]
        have HLX : Hid (∀ y ∈ pF ss rs x, 0 ≤ y ∧ y < (ss.length : Int)) := low_preds ss rs x hxl
        have hpl : (pF ss rs x).length ≤ 60 := Nat.le_trans (predsK_len _ _ _ _) hn2
        have cy0 := HO.out.cell HCY.out (Or.inr (by show g + 1 ≤ gp; omega))
        clear hcr hIO hcy hlo
        generalize pF ss rs x = zs at *
        go_wp2_with fail
        go_loop [11, 12, 13] (fun so kk _ => ∃ k : Nat, k ≤ zs.length ∧ kk = .int .i64 k ∧ so = .bool (notTo zs (fun m => kF e ss m && (d m || u m)) k)) (fun _ kk _ => zs.length - (intOf kk).toNat)
        case atStart => exact ⟨0, Nat.zero_le _, rfl, rfl⟩
        case round =>
          obtain ⟨k, hk, rfl, rfl⟩ := hrel
          by_cases hkl : k < zs.length
          · have hki : (k : Int) < (zs.length : Int) := by omega
            obtain ⟨rfl, hcr, hgr⟩ := HCR.out k hkl
            have hcr2 := HO.out.cell hcr (Or.inr (by show g + 1 ≤ gr; omega))
            have hzm : zs.getD k 0 ∈ zs := by
              rw [List.getD_eq_getElem?_getD, List.getElem?_eq_getElem hkl]
              exact List.getElem_mem hkl
            obtain ⟨z0, z1⟩ := HLX.out _ hzm
            have HNS : Hid (notTo zs (fun m => kF e ss m && (d m || u m)) (k + 1) = (notTo zs (fun m => kF e ss m && (d m || u m)) k || !(kF e ss (zs.getD k 0).toNat && (d (zs.getD k 0).toNat || u (zs.getD k 0).toNat)))) := notTo_succ hkl
            clear hcr hzm
            generalize zs.getD k 0 = z at *
            obtain ⟨m, rfl⟩ := Int.eq_ofNat_of_zero_le z0
            have hm : m < ss.length := by omega
            rw [show ((m : Int)).toNat = m from rfl] at HNS
            have d1 := HO.out.cell (HCC.out m hm).1 (Or.inr (by show g + 1 ≤ g2; omega))
            have d2 := HO.out.cell (HCC.out m hm).2.1 (Or.inr (by show g + 1 ≤ g3; omega))
            have d3 := HO.out.cell (HCC.out m hm).2.2 (Or.inr (by show g + 1 ≤ g4; omega))
            have hmi : (m : Int) < (ss.length : Int) := by omega
            generalize kF e ss m = km at *
            generalize d m = dm at *
            generalize u m = um at *
            generalize notTo zs (fun m => kF e ss m && (d m || u m)) k = s0 at *
            have HN : Hid _ := HNS.out
            clear HNS
            cases s0 <;> cases km <;> cases dm <;> cases um
            all_goals
              go_wp2
              go_round
              case rel => exact ⟨k + 1, by omega, by go_num, by rw [HN.out]; rfl⟩
              case measure => simp [intOf]; omega
          · have hki : ¬ (k : Int) < (zs.length : Int) := by omega
            obtain rfl : k = zs.length := by omega
            rw [notTo_all]
            have cf := HBF.out.cell hxl
            have ff := HBF.out.frozen x
            have HN : Hid (BoolF w.heap.size (wr.setCell ⟨g, x, none⟩ (.bool (E x))) g c2 ss.length (fun j => if j < x + 1 then E j else d j)) := (HBF.out.set x (E x)).congr fun j _ => by
              by_cases e1 : j = x
              · subst e1; simp
              · by_cases e2 : j < x
                · have : j < x + 1 := by omega
                  simp [e1, e2, this]
                · have : ¬ j < x + 1 := by omega
                  simp [e1, e2, this]
            have HNO : Hid (Out g (g + 1) w5 (wr.setCell ⟨g, x, none⟩ (.bool (E x)))) := HO.out.setCell (Nat.le_refl _) (by show g < g + 1; omega) _
            rw [if_neg (by omega)] at cf
            have HEXX : Hid _ := HEX2.out
            rw [Hid] at HEXX
            generalize allI zs (fun m => kF e ss m && (d m || u m)) = al at *
            generalize d x = dx at *
            rw [HEXX] at HN HNO
            clear HEXX HEX2 HBF HO
            cases dx <;> cases al
            all_goals
              go_wp2
              go_roundw
              case rel => exact ⟨x + 1, by omega, by omega, by go_num, HN.out, HNO.out⟩
              case measure => simp [intOf]; omega
      · have hxi : ¬ (x : Int) < (ss.length : Int) := by omega
        obtain rfl : x = ss.length := by omega
        have HBE : Hid (BoolF w.heap.size wr g c2 ss.length E) := HBF.out.congr fun j hj => by simp [hj]
        have HBW : Hid (Below w.heap.size w wr) := HB5.out.trans (HO.out.below (by omega) HB5.out.size)
        have HSF : Hid (SafeOr IsEarly ss e ((List.range ss.length).map E)) := Or.inl ⟨HOK.out, HEX.out, rs, E, HRE.out, HIS.out, rfl⟩
        have HRF : Hid _ := HBE.out.row (Nat.le_refl _)
        go_wp2
        exact HQ.out _ _ _ HBW.out HSF.out HRF.out
  · have HR : Hid (SafeOr IsEarly ss e []) := Or.inr ⟨hno, rfl⟩
    clear hno
    obtain ⟨A1, c1, hv1⟩ : ∃ A1 c1, v1 = .slice A1 0 c1 := by
      rcases id HO1.out.2 with ⟨rfl, _⟩ | ⟨g, cp, cur, e1, _⟩
      · exact ⟨none, 0, rfl⟩
      · exact ⟨_, cp, e1⟩
    subst hv1
    go_wp2
    exact HQ.out _ _ _ HB1.out HR.out HO1.out
end Go.Proofs.YtmplkchdfloppaaGreatDoor
namespace Go.Proofs.YtmplkchdfloppaaGreatDoor
open Go.RowKit

/-- Of the first k of a list's places it is so. -/
def allTo (zs : List Int) (f : Nat → Bool) (k : Nat) : Bool := (zs.take k).all (fun y => f y.toNat)

theorem allTo_succ {zs : List Int} {f : Nat → Bool} {k : Nat} (hk : k < zs.length) : allTo zs f (k + 1) = (allTo zs f k && f (zs.getD k 0).toNat) := by
  unfold allTo
  rw [List.take_add_one, List.getElem?_eq_getElem hk, List.all_append, List.getD_eq_getElem?_getD, List.getElem?_eq_getElem hk]
  simp

theorem allTo_all (zs : List Int) (f : Nat → Bool) : allTo zs f zs.length = allI zs f := by
  unfold allTo allI
  rw [List.take_length]

set_option maxRecDepth 100000 in
set_option maxHeartbeats 8000000 in
theorem specSafeDelay_any {Q : Ending → World → Prop} (v : Value) (ss : List St) (e : E5) (w : World) (h : StepsAt w v ss) (hl : ss.length ≤ 1048576) (hls : ∀ s ∈ ss, s.next.length ≤ 1048576)
    (hQ : ∀ v' bs w', Below w.heap.size w w' → SafeOr IsDelay ss e bs → w'.ownsRow w.heap.size 4 1 v' bs.length (bs.map Value.bool) → Q (.returned v') w') :
    Calls Tryz.prog 49 #[.agg #[v], .agg #[.int .i64 e.op, .int .i64 e.av, .int .i64 e.an, .int .i64 e.bv, .int .i64 e.bn]] w Q := by
  have HQ : Hid _ := hQ
  clear hQ
  obtain ⟨ao, b, o, cap, rfl, ha, hc⟩ := id h
  have HA : Hid (0 < ss.length → ao = some ⟨b, o, none⟩) := ha
  have HC : Hid (∀ i s, ss[i]? = some s → ∃ nv, StepCells w b (o + i * 8) s nv ∧ IntsAt w nv s.next) := hc
  have HH : Hid (StepsAt w (.slice ao ss.length cap) ss) := h
  have HL : Hid (∀ s ∈ ss, s.next.length ≤ 1048576) := hls
  clear ha hc h hls
  go_enter Tryz.func49, Tryz.ntmps49
  go_wp2_with fail
  have hb0 : Below w.heap.size w ((w.alloc (.cells #[.slice ao ss.length cap] 25)).alloc (.cells #[.int .i64 e.op, .int .i64 e.av, .int .i64 e.an, .int .i64 e.bv, .int .i64 e.bn] 29)) := ((Below.refl _ _).alloc (Nat.le_refl _) _).alloc (by simp) _
  have hbx := BoxE.new w ao ss.length cap e 25 29
  generalize (w.alloc (.cells #[.slice ao ss.length cap] 25)).alloc (.cells #[.int .i64 e.op, .int .i64 e.av, .int .i64 e.an, .int .i64 e.bv, .int .i64 e.bn] 29) = W0 at *
  refine specSafeEarly_any _ ss e _ (HH.out.keep hb0) hl HL.out fun v1 bs1 w1 hb1 hs1 hown1 => ?_
  have HB1 : Hid (Below w.heap.size w w1) := hb0.trans (hb1.mono hb0.size)
  have HX1 : Hid (BoxE w1 w.heap.size ao ss.length cap e) := hbx.keep hb1
  have HO1 : Hid (w1.ownsRow w.heap.size 4 1 v1 bs1.length (bs1.map Value.bool)) := own_lower hown1 hb0.size
  have HX0 : Hid (w.heap.size + 1 < W0.heap.size) := cell_lt hbx.c0
  have HGL : Hid (∀ k, v1.ownBlock = some k → W0.heap.size ≤ k) := fun k hk => (hown1.lt k hk).1
  clear hb0 hbx hb1 hown1
  rcases hs1 with ⟨hok, hex, rs, d, hre, hd, rfl⟩ | ⟨hno, rfl⟩
  rotate_left
  · have HR : Hid (SafeOr IsDelay ss e []) := Or.inr ⟨hno, rfl⟩
    clear hno
    obtain ⟨A1, c1, hv1⟩ : ∃ A1 c1, v1 = .slice A1 0 c1 := by
      rcases id HO1.out.2 with ⟨rfl, _⟩ | ⟨g, cp, cur, e1, _⟩
      · exact ⟨none, 0, rfl⟩
      · exact ⟨_, cp, e1⟩
    subst hv1
    go_wp2
    exact HQ.out _ _ _ HB1.out HR.out HO1.out
  have HOK : Hid (okB ss = true) := hok
  have HEX : Hid (exprB e = true) := hex
  have HRE : Hid (IsReach ss rs) := hre
  have HD : Hid (IsEarly ss e rs d) := hd
  obtain ⟨hn1, hn2⟩ := ok_len hok
  obtain ⟨g0, c0, rfl, hf1⟩ := BoolF.of_row hn1 HO1.out
  have HE1 : Hid (BoolF w.heap.size w1 g0 c0 ss.length d) := hf1
  have hg0 : w.heap.size + 2 ≤ g0 := by have := HGL.out g0 rfl; have := HX0.out; omega
  clear hok hex hre hd hf1 HO1
  have hni : ¬ (ss.length : Int) = 0 := by omega
  have hnb : ((ss.length : Int) == 0) = false := beq_eq_false_iff_ne.2 hni
  have p1 := HX1.out.p
  have x10 := HX1.out.c0
  have x11 := HX1.out.c1
  have x12 := HX1.out.c2
  have x13 := HX1.out.c3
  have x14 := HX1.out.c4
  go_wp2_with fail
  refine l12All_any _ ss _ (HH.out.keep HB1.out) HOK.out fun g c2 rs2 w2 hb2 hre2 hbf2 => ?_
  obtain rfl : rs2 = rs := hre2.unique HRE.out
  have HF2 : Hid (BoolF w1.heap.size w2 g c2 ss.length (rF rs2)) := hbf2
  have HB2 : Hid (Below w.heap.size w w2) := HB1.out.trans (hb2.mono HB1.out.size)
  have HX2 : Hid (BoxE w2 w.heap.size ao ss.length cap e) := HX1.out.keep hb2
  have HE2 : Hid (BoolF w.heap.size w2 g0 c0 ss.length d) := HE1.out.keep hb2
  have hg01 : g0 < g := by have := HE1.out.lt; have := hbf2.lt; omega
  have p2 := HX2.out.p
  have x20 := HX2.out.c0
  have x21 := HX2.out.c1
  have x22 := HX2.out.c2
  have x23 := HX2.out.c3
  have x24 := HX2.out.c4
  clear hb2 hre2 hbf2 p1 x10 x11 x12 x13 x14 HX1 HE1
  go_wp2_with fail
  refine specComp_u _ ss e _ (HH.out.keep HB2.out) hl HL.out fun v3 cs w3 hb3 hcs hown3 => ?_
  obtain ⟨hcl, hcg⟩ := hcs.get HOK.out HEX.out
  obtain ⟨g3, c3, hv3, _, _⟩ := hown3.form (by omega)
  subst hv3
  rw [hcl] at hown3
  have HF3 : Hid (BoolF w1.heap.size w3 g c2 ss.length (rF rs2)) := HF2.out.keep hb3
  have HB3 : Hid (Below w.heap.size w w3) := HB2.out.trans (hb3.mono HB2.out.size)
  have HX3 : Hid (BoxE w3 w.heap.size ao ss.length cap e) := HX2.out.keep hb3
  have hg3 : g < g3 := by have := HF2.out.lt; have := World.ownsRow.lt hown3 g3 rfl; omega
  have HCE3 : Hid (∀ i, i < ss.length → w3.cell? ⟨g3, i, none⟩ = some (.bool (cF e ss i)) ∧ w3.cell? ⟨g0, i, none⟩ = some (.bool (d i))) := fun i hi => by
    have a1 := (World.ownsRow.cellAt hown3 i (by omega)).trans (show (cs.map Value.bool)[i]? = some (.bool (cs.getD i false)) by
      have : i < cs.length := by omega
      simp [this])
    rw [hcg i hi, ← cF_get hi] at a1
    exact ⟨a1, cell_keep hb3 (HE2.out.cell hi)⟩
  have p3 := HX3.out.p
  have hgw : w.heap.size + 2 ≤ g := by omega
  have hgl3 : g < w3.heap.size := HF3.out.lt.2
  clear hb3 hcs hown3 hcg p2 x20 x21 x22 x23 x24 HX2 HE2 HF2
  rw [hcl]
  clear hcl
  go_wp2_with fail
  refine specPreds_any _ ss _ (HH.out.keep HB3.out) hl HL.out fun v5 zss w5 hb5 hzs hrw5 => ?_
  have HZ : Hid (zss = predsL ss rs2) := by
    rcases hzs with ⟨_, rs', h1, h2⟩ | ⟨h1, _⟩
    · rw [h1.unique HRE.out] at h2
      exact h2
    · rw [HOK.out] at h1
      cases h1
  obtain ⟨A5, c5, hv5⟩ := hrw5.slice
  subst hv5
  obtain rfl := HZ.out
  have hplen : (predsL ss rs2).length = ss.length := by simp [predsL]
  have HB5 : Hid (Below w.heap.size w w5) := HB3.out.trans (hb5.mono HB3.out.size)
  have HF5 : Hid (BoolF w1.heap.size w5 g c2 ss.length (rF rs2)) := HF3.out.keep hb5
  have HCC5 : Hid (∀ i, i < ss.length → w5.cell? ⟨g3, i, none⟩ = some (.bool (cF e ss i)) ∧ w5.cell? ⟨g0, i, none⟩ = some (.bool (d i))) := fun i hi => ⟨cell_keep hb5 (HCE3.out i hi).1, cell_keep hb5 (HCE3.out i hi).2⟩
  have HRW : Hid (RowsI w3.heap.size w5.heap.size w5 (.slice A5 (predsL ss rs2).length c5) (predsL ss rs2)) := hrw5
  clear hb5 hzs hrw5 p3 HX3 HF3 HCE3
  go_wp2_with fail
  have HM0 : Hid (Mono ss.length (delayF (cF e ss) d (pF ss rs2))) := delayF_mono (low_preds ss rs2)
  have HG00 : Hid (GI ss.length (rF rs2) (delayF (cF e ss) d (pF ss rs2)) (rF rs2)) := GI.start _ _ _
  obtain ⟨F, hF⟩ : ∃ F, F = delayF (cF e ss) d (pF ss rs2) := ⟨_, rfl⟩
  have HFD : Hid (F = delayF (cF e ss) d (pF ss rs2)) := hF
  rw [← hF] at HM0 HG00
  have HM : Hid (Mono ss.length F) := HM0.out
  have HG0 : Hid (GI ss.length (rF rs2) F (rF rs2)) := HG00.out
  clear hF HM0 HG00
  have HFIN : Hid (∀ wr f, BoolF w1.heap.size wr g c2 ss.length f → Out g (g + 1) w5 wr → GI ss.length (rF rs2) F f → (∀ i, i < ss.length → f i = true → F f i = true) →
      Below w.heap.size w wr ∧ SafeOr IsDelay ss e ((List.range ss.length).map f) ∧ wr.ownsRow w.heap.size 4 1 (.slice (some ⟨g, 0, none⟩) ss.length c2) ((List.range ss.length).map f).length (((List.range ss.length).map f).map Value.bool)) := fun wr f hbf ho hgi hfx => by
    refine ⟨HB5.out.trans (ho.below (by omega) HB5.out.size), Or.inl ⟨HOK.out, HEX.out, rs2, f, HRE.out, ⟨d, HD.out, ?_⟩, rfl⟩, ?_⟩
    · rw [← HFD.out]
      exact hgi.done hfx
    · rw [List.length_map, List.length_range, List.map_map]
      exact own_lower hbf HB1.out.size
  go_loopw [9, 10, 11, 12] (fun ch _ _ _ wr => ∃ f bo, ch = .bool bo ∧ BoolF w1.heap.size wr g c2 ss.length f ∧ Out g (g + 1) w5 wr ∧ GI ss.length (rF rs2) F f ∧ (bo = false → ∀ i, i < ss.length → f i = true → F f i = true)) (fun ch _ _ _ wr => 2 * cnt (trueAt wr g) ss.length + boolN ch)
  case atStart => exact ⟨rF rs2, true, rfl, HF5.out, Out.refl _ _ _, HG0.out, fun h => by cases h⟩
  case round =>
    clear HF5 HG0
    obtain ⟨f0, bo, rfl, hbf, ho, hgi, hfx⟩ := hrel
    cases bo with
    | false =>
      have HE : Hid _ := HFIN.out wr f0 hbf ho hgi (hfx rfl)
      clear hbf ho hgi hfx
      go_wp2
      exact HQ.out _ _ _ HE.out.1 HE.out.2.1 HE.out.2.2
    | true =>
      have HBF : Hid (BoolF w1.heap.size wr g c2 ss.length f0) := hbf
      have HO : Hid (Out g (g + 1) w5 wr) := ho
      have HP0 : Hid (PassS ss.length (rF rs2) F f0 f0 0 false) := PassS.start hgi
      have HME : Hid (2 * cnt (trueAt wr g) ss.length + boolN (.bool true) = 2 * cnt f0 ss.length + 1) := by rw [Hid, trueAt_F hbf]; rfl
      clear hbf ho hgi hfx
      go_wp2_with fail
      go_loopw [9, 10, 11, 12] (fun ch i _ _ wx => ∃ k f b, k ≤ ss.length ∧ i = .int .i64 (k : Nat) ∧ ch = .bool b ∧ BoolF w1.heap.size wx g c2 ss.length f ∧ Out g (g + 1) w5 wx ∧ PassS ss.length (rF rs2) F f0 f k b) (fun _ i _ _ _ => ss.length - (intOf i).toNat)
      case atStart => exact ⟨0, f0, false, Nat.zero_le _, rfl, rfl, HBF.out, HO.out, HP0.out⟩
      case round =>
        clear HBF HO HP0
        obtain ⟨x, f, bo, hx, rfl, rfl, hbf, ho, hps⟩ := hrel
        have HBF : Hid (BoolF w1.heap.size wr g c2 ss.length f) := hbf
        have HO : Hid (Out g (g + 1) w5 wr) := ho
        have HPS : Hid (PassS ss.length (rF rs2) F f0 f x bo) := hps
        by_cases hxl : x < ss.length
        · have hxi : (x : Int) < (ss.length : Int) := by omega
          obtain ⟨gp, yv, hA5, hcy, ⟨A', c', hyv⟩, hlo, hIO⟩ : ∃ gp, ∃ y : Value, A5 = some ⟨gp, 0, none⟩ ∧ w5.cell? ⟨gp, x, none⟩ = some y ∧ (∃ A c, y = .slice A (pF ss rs2 x).length c) ∧ w3.heap.size ≤ gp ∧ IntsO w3.heap.size w5.heap.size w5 y (pF ss rs2 x) := by
            obtain ⟨ao', g', cap', hv', hr'⟩ := HRW.out.read
            cases hv'
            obtain ⟨y, A', c', h1, h2, h3, h4⟩ := hr' x (predsK ss rs2 x ss.length) (by simp [predsL, hxl])
            have hlo : w3.heap.size ≤ g' := by
              obtain ⟨vs, _, hvo, hhi, _⟩ := HRW.out
              rw [h1] at hvo
              exact (World.ownsRow.lt hvo g' rfl).1
            exact ⟨g', y, h1, h2, ⟨A', c', h3⟩, hlo, h4⟩
          subst hA5
          subst hyv
          obtain ⟨ar, gr, capr, har, hcr⟩ := hIO.read
          cases har
          have HCR : Hid (∀ i, i < (pF ss rs2 x).length → A' = some ⟨gr, 0, none⟩ ∧ w5.cell? ⟨gr, i, none⟩ = some (.int .i64 ((pF ss rs2 x).getD i 0)) ∧ g + 1 ≤ gr) := fun i hi => ⟨(hcr i hi).1, (hcr i hi).2.1, by have := (hcr i hi).2.2.2.1; omega⟩
          have HCY : Hid (w5.cell? ⟨gp, x, none⟩ = some (.slice A' (pF ss rs2 x).length c')) := hcy
          have hgp : g + 1 ≤ gp := by omega
          have HFX : Hid (F f x = (d x || (decide (x ≠ 0) && allI (pF ss rs2 x) (fun m => f m && !cF e ss m)))) := by rw [Hid, HFD.out]; rfl
          have HLX : Hid (∀ y ∈ pF ss rs2 x, 0 ≤ y ∧ y < (ss.length : Int)) := low_preds ss rs2 x hxl
          have hpl : (pF ss rs2 x).length ≤ 60 := Nat.le_trans (predsK_len _ _ _ _) hn2
          have SK : Hid (F f x = true ∨ f x = false → PassS ss.length (rF rs2) F f0 f (x + 1) bo) := fun h => HPS.out.skip fun h1 => by
            rcases h with h | h
            · exact h
            · rw [h1] at h; cases h
          have ST : Hid (f x = true → F f x = false → PassS ss.length (rF rs2) F f0 (offB f x) (x + 1) true) := fun h1 h2 => HPS.out.off HM.out hxl h1 h2
          have cf := hbf.cell hxl
          have ff := hbf.frozen x
          have ce := ho.cell (HCC5.out x hxl).2 (Or.inl (by show g0 < g; omega))
          have HST : Hid (BoolF w1.heap.size (wr.setCell ⟨g, x, none⟩ (.bool false)) g c2 ss.length (offB f x) ∧ Out g (g + 1) w5 (wr.setCell ⟨g, x, none⟩ (.bool false))) := ⟨hbf.off x, ho.setCell (Nat.le_refl _) (by show g < g + 1; omega) _⟩
          have cp := ho.cell HCY.out (Or.inr (by show g + 1 ≤ gp; omega))
          clear hbf ho hps hcr hIO hcy hlo HPS
          generalize pF ss rs2 x = zs at *
          cases hfx : f x
          · rw [hfx] at cf
            have HN : Hid _ := SK.out (Or.inr hfx)
            clear SK ST hfx HFX HST
            go_wp2
            go_roundw
            case rel => exact ⟨x + 1, f, bo, by omega, by go_num, rfl, HBF.out, HO.out, HN.out⟩
            case measure => simp [intOf]; omega
          rw [hfx] at cf
          cases hdx : d x
          rotate_left
          · rw [hdx] at ce
            have HN : Hid _ := SK.out (Or.inl (by rw [HFX.out, hdx]; rfl))
            clear SK ST hfx HFX HST hdx
            go_wp2
            go_roundw
            case rel => exact ⟨x + 1, f, bo, by omega, by go_num, rfl, HBF.out, HO.out, HN.out⟩
            case measure => simp [intOf]; omega
          rw [hdx] at ce
          have HFY : Hid (F f x = (decide (x ≠ 0) && allI zs (fun m => f m && !cF e ss m))) := by rw [Hid, HFX.out, hdx, Bool.false_or]
          have HFT : Hid (f x = true) := hfx
          clear hdx hfx HFX
          by_cases h0 : x = 0
          · have HN : Hid _ := ST.out HFT.out (by rw [HFY.out, h0]; rfl)
            have h0i : ¬ (0 : Int) < (x : Int) := by omega
            have h0n : ¬ 0 < x := by omega
            clear SK ST HFY HFT h0
            go_wp2_with fail
            go_loop [11, 12] (fun gd kk => ∃ k : Nat, k ≤ zs.length ∧ kk = .int .i64 k ∧ gd = .bool false) (fun _ kk => zs.length - (intOf kk).toNat)
            case atStart => exact ⟨0, Nat.zero_le _, rfl, rfl⟩
            case round =>
              obtain ⟨k, hk, rfl, rfl⟩ := hrel
              by_cases hkl : k < zs.length
              · have hki : (k : Int) < (zs.length : Int) := by omega
                go_wp2
                go_round
                case rel => exact ⟨k + 1, by omega, by go_num, rfl⟩
                case measure => simp [intOf]; omega
              · have hki : ¬ (k : Int) < (zs.length : Int) := by omega
                clear HBF HO
                go_wp2
                go_roundw
                case rel => exact ⟨x + 1, offB f x, true, by omega, by go_num, rfl, HST.out.1, HST.out.2, HN.out⟩
                case measure => simp [intOf]; omega
          · have h0i : (0 : Int) < (x : Int) := by omega
            have h0n : 0 < x := by omega
            have HFZ : Hid (F f x = allI zs (fun m => f m && !cF e ss m)) := by rw [Hid, HFY.out, decide_eq_true (show x ≠ 0 from h0), Bool.true_and]
            clear HFY h0
            go_wp2_with fail
            go_loop [11, 12] (fun gd kk => ∃ k : Nat, k ≤ zs.length ∧ kk = .int .i64 k ∧ gd = .bool (allTo zs (fun m => f m && !cF e ss m) k)) (fun _ kk => zs.length - (intOf kk).toNat)
            case atStart => exact ⟨0, Nat.zero_le _, rfl, rfl⟩
            case round =>
              obtain ⟨k, hk, rfl, rfl⟩ := hrel
              by_cases hkl : k < zs.length
              · have hki : (k : Int) < (zs.length : Int) := by omega
                obtain ⟨rfl, hcr, hgr⟩ := HCR.out k hkl
                have hcr2 := HO.out.cell hcr (Or.inr (by show g + 1 ≤ gr; omega))
                have hzm : zs.getD k 0 ∈ zs := by
                  rw [List.getD_eq_getElem?_getD, List.getElem?_eq_getElem hkl]
                  exact List.getElem_mem hkl
                obtain ⟨z0, z1⟩ := HLX.out _ hzm
                have HNS : Hid (allTo zs (fun m => f m && !cF e ss m) (k + 1) = (allTo zs (fun m => f m && !cF e ss m) k && (f (zs.getD k 0).toNat && !cF e ss (zs.getD k 0).toNat))) := allTo_succ hkl
                clear hcr hzm
                generalize zs.getD k 0 = z at *
                obtain ⟨m, rfl⟩ := Int.eq_ofNat_of_zero_le z0
                have hm : m < ss.length := by omega
                rw [show ((m : Int)).toNat = m from rfl] at HNS
                have d1 := HO.out.cell (HCC5.out m hm).1 (Or.inr (by show g + 1 ≤ g3; omega))
                have d2 := HBF.out.cell hm
                have hmi : (m : Int) < (ss.length : Int) := by omega
                generalize cF e ss m = cm at *
                generalize f m = fm at *
                generalize allTo zs (fun m => f m && !cF e ss m) k = s0 at *
                have HN : Hid _ := HNS.out
                clear HNS
                cases s0 <;> cases fm <;> cases cm
                all_goals
                  go_wp2
                  go_round
                  case rel => exact ⟨k + 1, by omega, by go_num, by rw [HN.out]; rfl⟩
                  case measure => simp [intOf]; omega
              · have hki : ¬ (k : Int) < (zs.length : Int) := by omega
                obtain rfl : k = zs.length := by omega
                rw [allTo_all]
                cases hal : allI zs (fun m => f m && !cF e ss m)
                · have HN : Hid _ := ST.out HFT.out (HFZ.out.trans hal)
                  clear SK ST HFZ HFT hal HBF HO
                  go_wp2
                  go_roundw
                  case rel => exact ⟨x + 1, offB f x, true, by omega, by go_num, rfl, HST.out.1, HST.out.2, HN.out⟩
                  case measure => simp [intOf]; omega
                · have HN : Hid _ := SK.out (Or.inl (HFZ.out.trans hal))
                  clear SK ST HFZ HFT hal HST
                  go_wp2
                  go_roundw
                  case rel => exact ⟨x + 1, f, bo, by omega, by go_num, rfl, HBF.out, HO.out, HN.out⟩
                  case measure => simp [intOf]; omega
        · have hxi : ¬ (x : Int) < (ss.length : Int) := by omega
          obtain rfl : x = ss.length := by omega
          clear hbf ho hps
          go_wp2
          go_roundw
          case rel => exact ⟨f, bo, rfl, HBF.out, HO.out, HPS.out.gi, fun h i hi hf => (HPS.out.no h).2 i hi hf⟩
          case measure =>
            have e1 := HME.out
            have e2 := trueAt_F HBF.out
            rw [e1, e2]
            cases bo with
            | false =>
              have e3 := (HPS.out.no rfl).1
              rw [e3]
              simp [boolN]
            | true =>
              have e3 := HPS.out.yes rfl
              simp only [boolN]
              omega
end Go.Proofs.YtmplkchdfloppaaGreatDoor
namespace Go.Proofs.YtmplkchdfloppaaGreatDoor
open Go.RowKit

set_option maxRecDepth 100000 in
set_option maxHeartbeats 8000000 in
theorem specSafeLate_any {Q : Ending → World → Prop} (v : Value) (ss : List St) (e : E5) (w : World) (h : StepsAt w v ss) (hl : ss.length ≤ 1048576) (hls : ∀ s ∈ ss, s.next.length ≤ 1048576)
    (hQ : ∀ v' bs w', Below w.heap.size w w' → SafeOr IsLate ss e bs → w'.ownsRow w.heap.size 4 1 v' bs.length (bs.map Value.bool) → Q (.returned v') w') :
    Calls Tryz.prog 21 #[.agg #[v], .agg #[.int .i64 e.op, .int .i64 e.av, .int .i64 e.an, .int .i64 e.bv, .int .i64 e.bn]] w Q := by
  have HQ : Hid _ := hQ
  clear hQ
  obtain ⟨ao, b, o, cap, rfl, ha, hc⟩ := id h
  have HA : Hid (0 < ss.length → ao = some ⟨b, o, none⟩) := ha
  have HC : Hid (∀ i s, ss[i]? = some s → ∃ nv, StepCells w b (o + i * 8) s nv ∧ IntsAt w nv s.next) := hc
  have HH : Hid (StepsAt w (.slice ao ss.length cap) ss) := h
  have HL : Hid (∀ s ∈ ss, s.next.length ≤ 1048576) := hls
  clear ha hc h hls
  go_enter Tryz.func21, Tryz.ntmps21
  go_wp2_with fail
  have hb0 : Below w.heap.size w ((w.alloc (.cells #[.slice ao ss.length cap] 25)).alloc (.cells #[.int .i64 e.op, .int .i64 e.av, .int .i64 e.an, .int .i64 e.bv, .int .i64 e.bn] 29)) := ((Below.refl _ _).alloc (Nat.le_refl _) _).alloc (by simp) _
  have hbx := BoxE.new w ao ss.length cap e 25 29
  generalize (w.alloc (.cells #[.slice ao ss.length cap] 25)).alloc (.cells #[.int .i64 e.op, .int .i64 e.av, .int .i64 e.an, .int .i64 e.bv, .int .i64 e.bn] 29) = W0 at *
  refine specSafeDelay_any _ ss e _ (HH.out.keep hb0) hl HL.out fun v1 bs1 w1 hb1 hs1 hown1 => ?_
  have HB1 : Hid (Below w.heap.size w w1) := hb0.trans (hb1.mono hb0.size)
  have HX1 : Hid (BoxE w1 w.heap.size ao ss.length cap e) := hbx.keep hb1
  have HO1 : Hid (w1.ownsRow w.heap.size 4 1 v1 bs1.length (bs1.map Value.bool)) := own_lower hown1 hb0.size
  have HX0 : Hid (w.heap.size + 1 < W0.heap.size) := cell_lt hbx.c0
  have HGL : Hid (∀ k, v1.ownBlock = some k → W0.heap.size ≤ k) := fun k hk => (hown1.lt k hk).1
  clear hb0 hbx hb1 hown1
  rcases hs1 with ⟨hok, hex, rs, d, hre, hd, rfl⟩ | ⟨hno, rfl⟩
  rotate_left
  · have HR : Hid (SafeOr IsLate ss e []) := Or.inr ⟨hno, rfl⟩
    clear hno
    obtain ⟨A1, c1, hv1⟩ : ∃ A1 c1, v1 = .slice A1 0 c1 := by
      rcases id HO1.out.2 with ⟨rfl, _⟩ | ⟨g, cp, cur, e1, _⟩
      · exact ⟨none, 0, rfl⟩
      · exact ⟨_, cp, e1⟩
    subst hv1
    go_wp2
    exact HQ.out _ _ _ HB1.out HR.out HO1.out
  have HOK : Hid (okB ss = true) := hok
  have HEX : Hid (exprB e = true) := hex
  have HRE : Hid (IsReach ss rs) := hre
  have HD : Hid (IsDelay ss e rs d) := hd
  obtain ⟨hn1, hn2⟩ := ok_len hok
  obtain ⟨g0, c0, rfl, hf1⟩ := BoolF.of_row hn1 HO1.out
  have HE1 : Hid (BoolF w.heap.size w1 g0 c0 ss.length d) := hf1
  have hg0 : w.heap.size + 2 ≤ g0 := by have := HGL.out g0 rfl; have := HX0.out; omega
  clear hok hex hre hd hf1 HO1
  have hni : ¬ (ss.length : Int) = 0 := by omega
  have hnb : ((ss.length : Int) == 0) = false := beq_eq_false_iff_ne.2 hni
  have p1 := HX1.out.p
  have x10 := HX1.out.c0
  have x11 := HX1.out.c1
  have x12 := HX1.out.c2
  have x13 := HX1.out.c3
  have x14 := HX1.out.c4
  go_wp2_with fail
  refine specSafeDelay_any _ ss e _ (HH.out.keep HB1.out) hl HL.out fun v2 bs2 w2 hb2 hs2 hown2 => ?_
  obtain rfl : bs2 = (List.range ss.length).map d := SafeOr.unique IsDelay.unique hs2 (Or.inl ⟨HOK.out, HEX.out, rs, d, HRE.out, HD.out, rfl⟩)
  obtain ⟨g2, c22, rfl, hf2⟩ := BoolF.of_row hn1 hown2
  have HB2 : Hid (Below w.heap.size w w2) := HB1.out.trans (hb2.mono HB1.out.size)
  have HX2 : Hid (BoxE w2 w.heap.size ao ss.length cap e) := HX1.out.keep hb2
  have HE2 : Hid (BoolF w.heap.size w2 g0 c0 ss.length d) := HE1.out.keep hb2
  have HF2 : Hid (BoolF w1.heap.size w2 g2 c22 ss.length d) := hf2
  have hg02 : g0 < g2 := by have := HE1.out.lt; have := hf2.lt; omega
  have p2 := HX2.out.p
  have x20 := HX2.out.c0
  have x21 := HX2.out.c1
  have x22 := HX2.out.c2
  have x23 := HX2.out.c3
  have x24 := HX2.out.c4
  clear hb2 hs2 hown2 hf2 p1 x10 x11 x12 x13 x14 HX1 HE1
  go_wp2_with fail
  refine specComp_u _ ss e _ (HH.out.keep HB2.out) hl HL.out fun v3 cs w3 hb3 hcs hown3 => ?_
  obtain ⟨hcl, hcg⟩ := hcs.get HOK.out HEX.out
  obtain ⟨g3, c3, hv3, _, _⟩ := hown3.form (by omega)
  subst hv3
  rw [hcl] at hown3
  have HB3 : Hid (Below w.heap.size w w3) := HB2.out.trans (hb3.mono HB2.out.size)
  have HX3 : Hid (BoxE w3 w.heap.size ao ss.length cap e) := HX2.out.keep hb3
  have HE3 : Hid (BoolF w.heap.size w3 g0 c0 ss.length d) := HE2.out.keep hb3
  have HF3 : Hid (BoolF w1.heap.size w3 g2 c22 ss.length d) := HF2.out.keep hb3
  have hg03 : g0 < g3 := by have := HE2.out.lt; have := World.ownsRow.lt hown3 g3 rfl; omega
  have HCE3 : Hid (∀ i, i < ss.length → w3.cell? ⟨g3, i, none⟩ = some (.bool (cF e ss i))) := fun i hi => by
    have a1 := (World.ownsRow.cellAt hown3 i (by omega)).trans (show (cs.map Value.bool)[i]? = some (.bool (cs.getD i false)) by
      have : i < cs.length := by omega
      simp [this])
    rw [hcg i hi, ← cF_get hi] at a1
    exact a1
  clear hb3 hcs hown3 hcg p2 x20 x21 x22 x23 x24 HX2 HE2 HF2
  rw [hcl]
  clear hcl
  have HLW : Hid (Low ss.length (nextOf ss)) := low_next HOK.out
  obtain ⟨E, hE⟩ : ∃ E, E = lateB (cF e ss) d (nextOf ss) := ⟨_, rfl⟩
  have HED : Hid (E = lateB (cF e ss) d (nextOf ss)) := hE
  clear hE
  have HIS : Hid (IsLate ss e rs E) := ⟨d, HD.out, fun i _ => by rw [HED.out]⟩
  go_wp2_with fail
  go_loopw [8] (fun i wr => ∃ k : Nat, k ≤ ss.length ∧ i = .int .i64 k ∧ BoolF w.heap.size wr g0 c0 ss.length (fun j => if j < k then E j else d j) ∧ Out g0 (g0 + 1) w3 wr) (fun i _ => ss.length - (intOf i).toNat)
  case atStart => exact ⟨0, Nat.zero_le _, rfl, HE3.out.congr fun j _ => by simp, Out.refl _ _ _⟩
  case round =>
    clear HE3
    obtain ⟨x, hx, rfl, hbf, ho⟩ := hrel
    have HBF : Hid (BoolF w.heap.size wr g0 c0 ss.length (fun j => if j < x then E j else d j)) := hbf
    have HO : Hid (Out g0 (g0 + 1) w3 wr) := ho
    clear hbf ho
    by_cases hxl : x < ss.length
    · have hxi : (x : Int) < (ss.length : Int) := by omega
      obtain rfl := HA.out (by omega)
      obtain ⟨nv, st, hi⟩ := HC.out x ss[x] (List.getElem?_eq_getElem hxl)
      have hbb := cell_lt st.c7
      simp only at hbb
      have c7 := HO.out.cell (cell_keep HB3.out st.c7) (Or.inl (by show b < g0; omega))
      have cp := HO.out.cell HX3.out.p (Or.inl (by show w.heap.size < g0; omega))
      have cc := HO.out.cell (HCE3.out x hxl) (Or.inr (by show g0 + 1 ≤ g3; omega))
      have cf := HBF.out.cell hxl
      have ff := HBF.out.frozen x
      rw [if_neg (by omega)] at cf
      obtain ⟨nao, nb, no, ncap, rfl, na, nc⟩ := hi
      have HI : Hid (IntsAt wr (.slice nao ss[x].next.length ncap) ss[x].next) := ⟨nao, nb, no, ncap, rfl, na, fun i hi => HO.out.cell (cell_keep HB3.out (nc i hi)) (Or.inl (by have := cell_lt (nc i hi); simp only at this; show nb < g0; omega))⟩
      have HFW : Hid (BoolF w1.heap.size wr g2 c22 ss.length d) := ownsRow_out HF3.out HO.out (fun k hk => by simp [Value.ownBlock] at hk; subst hk; exact Or.inr (by omega))
      have HEX2 : Hid (E x = (d x && (cF e ss x || !allI ss[x].next d))) := by rw [Hid, HED.out]; unfold lateB; rw [nextOf_get hxl]
      have HLX : Hid (∀ y ∈ ss[x].next, 0 ≤ y ∧ y < (ss.length : Int)) := by have := HLW.out x hxl; rwa [nextOf_get hxl] at this
      have hnl : ss[x].next.length ≤ 2 := by have := next_len HOK.out hxl; rwa [nextOf_get hxl] at this
      have HN : Hid (BoolF w.heap.size (wr.setCell ⟨g0, x, none⟩ (.bool (E x))) g0 c0 ss.length (fun j => if j < x + 1 then E j else d j)) := (HBF.out.set x (E x)).congr fun j _ => by
        by_cases e1 : j = x
        · subst e1; simp
        · by_cases e2 : j < x
          · have : j < x + 1 := by omega
            simp [e1, e2, this]
          · have : ¬ j < x + 1 := by omega
            simp [e1, e2, this]
      have HNO : Hid (Out g0 (g0 + 1) w3 (wr.setCell ⟨g0, x, none⟩ (.bool (E x)))) := HO.out.setCell (Nat.le_refl _) (by show g0 < g0 + 1; omega) _
      clear st na nc hbb
      generalize ss[x].next = nx at *
      have HEXX : Hid _ := HEX2.out
      rw [Hid] at HEXX
      rw [HEXX] at HN HNO
      clear HEXX HEX2 HBF HO
      cases hdx : d x
      · rw [hdx] at cf
        rw [hdx, Bool.false_and] at HN HNO
        clear hdx
        go_wp2
        go_roundw
        case rel => exact ⟨x + 1, by omega, by go_num, HN.out, HNO.out⟩
        case measure => simp [intOf]; omega
      · rw [hdx] at cf
        rw [hdx, Bool.true_and] at HN HNO
        clear hdx
        cases hcx : cF e ss x
        · rw [hcx] at cc
          rw [hcx, Bool.false_or] at HN HNO
          clear hcx
          go_wp2_with fail
          refine l12Each_any w1.heap.size g2 c22 ss.length d _ nx _ HFW.out HI.out HLX.out (by omega) ?_
          generalize allI nx d = al at *
          cases al
          all_goals
            go_wp2
            go_roundw
            case rel => exact ⟨x + 1, by omega, by go_num, HN.out, HNO.out⟩
            case measure => simp [intOf]; omega
        · rw [hcx] at cc
          rw [hcx, Bool.true_or] at HN HNO
          clear hcx
          go_wp2
          go_roundw
          case rel => exact ⟨x + 1, by omega, by go_num, HN.out, HNO.out⟩
          case measure => simp [intOf]; omega
    · have hxi : ¬ (x : Int) < (ss.length : Int) := by omega
      obtain rfl : x = ss.length := by omega
      have HBE : Hid (BoolF w.heap.size wr g0 c0 ss.length E) := HBF.out.congr fun j hj => by simp [hj]
      have HBW : Hid (Below w.heap.size w wr) := HB3.out.trans (HO.out.below (by omega) HB3.out.size)
      have HSF : Hid (SafeOr IsLate ss e ((List.range ss.length).map E)) := Or.inl ⟨HOK.out, HEX.out, rs, E, HRE.out, HIS.out, rfl⟩
      have HRF : Hid _ := HBE.out.row (Nat.le_refl _)
      go_wp2
      exact HQ.out _ _ _ HBW.out HSF.out HRF.out
end Go.Proofs.YtmplkchdfloppaaGreatDoor
namespace Go.Proofs.YtmplkchdfloppaaGreatDoor
open Go.RowKit

set_option maxRecDepth 100000 in
set_option maxHeartbeats 8000000 in
theorem specSafeAlone_any {Q : Ending → World → Prop} (v : Value) (ss : List St) (e : E5) (w : World) (h : StepsAt w v ss) (hl : ss.length ≤ 1048576) (hls : ∀ s ∈ ss, s.next.length ≤ 1048576)
    (hQ : ∀ v' bs w', Below w.heap.size w w' → SafeOr IsAlone ss e bs → w'.ownsRow w.heap.size 4 1 v' bs.length (bs.map Value.bool) → Q (.returned v') w') :
    Calls Tryz.prog 17 #[.agg #[v], .agg #[.int .i64 e.op, .int .i64 e.av, .int .i64 e.an, .int .i64 e.bv, .int .i64 e.bn]] w Q := by
  have HQ : Hid _ := hQ
  clear hQ
  obtain ⟨ao, b, o, cap, rfl, ha, hc⟩ := id h
  have HA : Hid (0 < ss.length → ao = some ⟨b, o, none⟩) := ha
  have HC : Hid (∀ i s, ss[i]? = some s → ∃ nv, StepCells w b (o + i * 8) s nv ∧ IntsAt w nv s.next) := hc
  have HH : Hid (StepsAt w (.slice ao ss.length cap) ss) := h
  have HL : Hid (∀ s ∈ ss, s.next.length ≤ 1048576) := hls
  clear ha hc h hls
  go_enter Tryz.func17, Tryz.ntmps17
  go_wp2_with fail
  have hb0 : Below w.heap.size w ((w.alloc (.cells #[.slice ao ss.length cap] 25)).alloc (.cells #[.int .i64 e.op, .int .i64 e.av, .int .i64 e.an, .int .i64 e.bv, .int .i64 e.bn] 29)) := ((Below.refl _ _).alloc (Nat.le_refl _) _).alloc (by simp) _
  have hbx := BoxE.new w ao ss.length cap e 25 29
  generalize (w.alloc (.cells #[.slice ao ss.length cap] 25)).alloc (.cells #[.int .i64 e.op, .int .i64 e.av, .int .i64 e.an, .int .i64 e.bv, .int .i64 e.bn] 29) = W0 at *
  refine specSafeLate_any _ ss e _ (HH.out.keep hb0) hl HL.out fun v1 bs1 w1 hb1 hs1 hown1 => ?_
  have HB1 : Hid (Below w.heap.size w w1) := hb0.trans (hb1.mono hb0.size)
  have HX1 : Hid (BoxE w1 w.heap.size ao ss.length cap e) := hbx.keep hb1
  have HO1 : Hid (w1.ownsRow w.heap.size 4 1 v1 bs1.length (bs1.map Value.bool)) := own_lower hown1 hb0.size
  have HX0 : Hid (w.heap.size + 1 < W0.heap.size) := cell_lt hbx.c0
  have HGL : Hid (∀ k, v1.ownBlock = some k → W0.heap.size ≤ k) := fun k hk => (hown1.lt k hk).1
  clear hb0 hbx hb1 hown1
  rcases hs1 with ⟨hok, hex, rs, d, hre, hd, rfl⟩ | ⟨hno, rfl⟩
  rotate_left
  · have HR : Hid (SafeOr IsAlone ss e []) := Or.inr ⟨hno, rfl⟩
    clear hno
    obtain ⟨A1, c1, hv1⟩ : ∃ A1 c1, v1 = .slice A1 0 c1 := by
      rcases id HO1.out.2 with ⟨rfl, _⟩ | ⟨g, cp, cur, e1, _⟩
      · exact ⟨none, 0, rfl⟩
      · exact ⟨_, cp, e1⟩
    subst hv1
    go_wp2
    exact HQ.out _ _ _ HB1.out HR.out HO1.out
  have HOK : Hid (okB ss = true) := hok
  have HEX : Hid (exprB e = true) := hex
  have HRE : Hid (IsReach ss rs) := hre
  have HD : Hid (IsLate ss e rs d) := hd
  obtain ⟨hn1, hn2⟩ := ok_len hok
  obtain ⟨g0, c0, rfl, hf1⟩ := BoolF.of_row hn1 HO1.out
  have HE1 : Hid (BoolF w.heap.size w1 g0 c0 ss.length d) := hf1
  have hg0 : w.heap.size + 2 ≤ g0 := by have := HGL.out g0 rfl; have := HX0.out; omega
  clear hok hex hre hd hf1 HO1
  have hni : ¬ (ss.length : Int) = 0 := by omega
  have hnb : ((ss.length : Int) == 0) = false := beq_eq_false_iff_ne.2 hni
  have p1 := HX1.out.p
  have x10 := HX1.out.c0
  have x11 := HX1.out.c1
  have x12 := HX1.out.c2
  have x13 := HX1.out.c3
  have x14 := HX1.out.c4
  go_wp2_with fail
  refine l12All_any _ ss _ (HH.out.keep HB1.out) HOK.out fun g c2 rs2 w2 hb2 hre2 hbf2 => ?_
  obtain rfl : rs2 = rs := hre2.unique HRE.out
  have HF2 : Hid (BoolF w1.heap.size w2 g c2 ss.length (rF rs2)) := hbf2
  have HB2 : Hid (Below w.heap.size w w2) := HB1.out.trans (hb2.mono HB1.out.size)
  have HX2 : Hid (BoxE w2 w.heap.size ao ss.length cap e) := HX1.out.keep hb2
  have HE2 : Hid (BoolF w.heap.size w2 g0 c0 ss.length d) := HE1.out.keep hb2
  have hg01 : g0 < g := by have := HE1.out.lt; have := hbf2.lt; omega
  have p2 := HX2.out.p
  have x20 := HX2.out.c0
  have x21 := HX2.out.c1
  have x22 := HX2.out.c2
  have x23 := HX2.out.c3
  have x24 := HX2.out.c4
  clear hb2 hre2 hbf2 p1 x10 x11 x12 x13 x14 HX1 HE1
  go_wp2_with fail
  refine specComp_u _ ss e _ (HH.out.keep HB2.out) hl HL.out fun v3 cs w3 hb3 hcs hown3 => ?_
  obtain ⟨hcl, hcg⟩ := hcs.get HOK.out HEX.out
  obtain ⟨g3, c3, hv3, _, _⟩ := hown3.form (by omega)
  subst hv3
  rw [hcl] at hown3
  have HF3 : Hid (BoolF w1.heap.size w3 g c2 ss.length (rF rs2)) := HF2.out.keep hb3
  have HB3 : Hid (Below w.heap.size w w3) := HB2.out.trans (hb3.mono HB2.out.size)
  have HX3 : Hid (BoxE w3 w.heap.size ao ss.length cap e) := HX2.out.keep hb3
  have hg3 : g < g3 := by have := HF2.out.lt; have := World.ownsRow.lt hown3 g3 rfl; omega
  have HCE3 : Hid (∀ i, i < ss.length → w3.cell? ⟨g3, i, none⟩ = some (.bool (cF e ss i)) ∧ w3.cell? ⟨g0, i, none⟩ = some (.bool (d i))) := fun i hi => by
    have a1 := (World.ownsRow.cellAt hown3 i (by omega)).trans (show (cs.map Value.bool)[i]? = some (.bool (cs.getD i false)) by
      have : i < cs.length := by omega
      simp [this])
    rw [hcg i hi, ← cF_get hi] at a1
    exact ⟨a1, cell_keep hb3 (HE2.out.cell hi)⟩
  have p3 := HX3.out.p
  have hgw : w.heap.size + 2 ≤ g := by omega
  have hgl3 : g < w3.heap.size := HF3.out.lt.2
  clear hb3 hcs hown3 hcg p2 x20 x21 x22 x23 x24 HX2 HE2 HF2
  rw [hcl]
  clear hcl
  go_wp2_with fail
  have HM0 : Hid (Mono ss.length (aloneF (cF e ss) d (nextOf ss))) := aloneF_mono (low_next HOK.out)
  have HG00 : Hid (GI ss.length (rF rs2) (aloneF (cF e ss) d (nextOf ss)) (rF rs2)) := GI.start _ _ _
  have HLW : Hid (Low ss.length (nextOf ss)) := low_next HOK.out
  obtain ⟨F, hF⟩ : ∃ F, F = aloneF (cF e ss) d (nextOf ss) := ⟨_, rfl⟩
  have HFD : Hid (F = aloneF (cF e ss) d (nextOf ss)) := hF
  rw [← hF] at HM0 HG00
  have HM : Hid (Mono ss.length F) := HM0.out
  have HG0 : Hid (GI ss.length (rF rs2) F (rF rs2)) := HG00.out
  clear hF HM0 HG00
  have HFIN : Hid (∀ wr f, BoolF w1.heap.size wr g c2 ss.length f → Out g (g + 1) w3 wr → GI ss.length (rF rs2) F f → (∀ i, i < ss.length → f i = true → F f i = true) →
      Below w.heap.size w wr ∧ SafeOr IsAlone ss e ((List.range ss.length).map f) ∧ wr.ownsRow w.heap.size 4 1 (.slice (some ⟨g, 0, none⟩) ss.length c2) ((List.range ss.length).map f).length (((List.range ss.length).map f).map Value.bool)) := fun wr f hbf ho hgi hfx => by
    refine ⟨HB3.out.trans (ho.below (by omega) HB3.out.size), Or.inl ⟨HOK.out, HEX.out, rs2, f, HRE.out, ⟨d, HD.out, ?_⟩, rfl⟩, ?_⟩
    · rw [← HFD.out]
      exact hgi.done hfx
    · rw [List.length_map, List.length_range, List.map_map]
      exact own_lower hbf HB1.out.size
  go_loopw [8, 9, 10, 11] (fun ch _ _ _ wr => ∃ f bo, ch = .bool bo ∧ BoolF w1.heap.size wr g c2 ss.length f ∧ Out g (g + 1) w3 wr ∧ GI ss.length (rF rs2) F f ∧ (bo = false → ∀ i, i < ss.length → f i = true → F f i = true)) (fun ch _ _ _ wr => 2 * cnt (trueAt wr g) ss.length + boolN ch)
  case atStart => exact ⟨rF rs2, true, rfl, HF3.out, Out.refl _ _ _, HG0.out, fun h => by cases h⟩
  case round =>
    clear HF3 HG0
    obtain ⟨f0, bo, rfl, hbf, ho, hgi, hfx⟩ := hrel
    cases bo with
    | false =>
      have HE : Hid _ := HFIN.out wr f0 hbf ho hgi (hfx rfl)
      clear hbf ho hgi hfx
      go_wp2
      exact HQ.out _ _ _ HE.out.1 HE.out.2.1 HE.out.2.2
    | true =>
      have HBF : Hid (BoolF w1.heap.size wr g c2 ss.length f0) := hbf
      have HO : Hid (Out g (g + 1) w3 wr) := ho
      have HP0 : Hid (PassS ss.length (rF rs2) F f0 f0 0 false) := PassS.start hgi
      have HME : Hid (2 * cnt (trueAt wr g) ss.length + boolN (.bool true) = 2 * cnt f0 ss.length + 1) := by rw [Hid, trueAt_F hbf]; rfl
      clear hbf ho hgi hfx
      go_wp2_with fail
      go_loopw [8, 9, 10, 11] (fun ch i _ _ wx => ∃ k f b, k ≤ ss.length ∧ i = .int .i64 (k : Nat) ∧ ch = .bool b ∧ BoolF w1.heap.size wx g c2 ss.length f ∧ Out g (g + 1) w3 wx ∧ PassS ss.length (rF rs2) F f0 f k b) (fun _ i _ _ _ => ss.length - (intOf i).toNat)
      case atStart => exact ⟨0, f0, false, Nat.zero_le _, rfl, rfl, HBF.out, HO.out, HP0.out⟩
      case round =>
        clear HBF HO HP0
        obtain ⟨x, f, bo, hx, rfl, rfl, hbf, ho, hps⟩ := hrel
        have HBF : Hid (BoolF w1.heap.size wr g c2 ss.length f) := hbf
        have HO : Hid (Out g (g + 1) w3 wr) := ho
        have HPS : Hid (PassS ss.length (rF rs2) F f0 f x bo) := hps
        by_cases hxl : x < ss.length
        · have hxi : (x : Int) < (ss.length : Int) := by omega
          obtain rfl := HA.out (by omega)
          obtain ⟨nv, st, hi⟩ := HC.out x ss[x] (List.getElem?_eq_getElem hxl)
          have hbb := cell_lt st.c7
          simp only at hbb
          have HC7 : Hid (w3.cell? ⟨b, o + x * 8 + 7, none⟩ = some nv) := cell_keep HB3.out st.c7
          obtain ⟨nao, nb, no, ncap, rfl, na, nc⟩ := hi
          have HNA : Hid (0 < ss[x].next.length → nao = some ⟨nb, no, none⟩) := na
          have HNC : Hid (∀ i, i < ss[x].next.length → w3.cell? ⟨nb, no + i, none⟩ = some (.int .i64 (ss[x].next.getD i 0)) ∧ nb < g) := fun i hi => ⟨cell_keep HB3.out (nc i hi), by have := cell_lt (nc i hi); simp only at this; omega⟩
          have HFX : Hid (∀ f, F f x = allI ss[x].next (fun m => d m || (!cF e ss m && f m))) := fun f => by rw [HFD.out]; unfold aloneF; rw [nextOf_get hxl]
          have HLX : Hid (∀ y ∈ ss[x].next, 0 ≤ y ∧ y < (ss.length : Int)) := by have := HLW.out x hxl; rwa [nextOf_get hxl] at this
          have hnl : ss[x].next.length ≤ 2 := by have := next_len HOK.out hxl; rwa [nextOf_get hxl] at this
          have SK : Hid (F f x = true ∨ f x = false → PassS ss.length (rF rs2) F f0 f (x + 1) bo) := fun h => HPS.out.skip fun h1 => by
            rcases h with h | h
            · exact h
            · rw [h1] at h; cases h
          have ST : Hid (f x = true → F f x = false → PassS ss.length (rF rs2) F f0 (offB f x) (x + 1) true) := fun h1 h2 => HPS.out.off HM.out hxl h1 h2
          have hbg : b < g := by omega
          clear hbf ho hps st na nc hbb HPS
          generalize ss[x].next = zs at *
          go_wp2_with fail
          go_loopw [8, 10, 11] (fun ch kk _ wx => ∃ k f' b', k ≤ zs.length ∧ kk = .int .i64 (k : Nat) ∧ ch = .bool b' ∧ BoolF w1.heap.size wx g c2 ss.length f' ∧ Out g (g + 1) w3 wx ∧ ((f' = f ∧ b' = bo ∧ ∀ j, j < k → (d (zs.getD j 0).toNat || (!cF e ss (zs.getD j 0).toNat && f (zs.getD j 0).toNat)) = true) ∨ (f' = offB f x ∧ b' = true ∧ f x = true ∧ F f x = false))) (fun _ kk _ _ => zs.length - (intOf kk).toNat)
          case atStart => exact ⟨0, f, bo, Nat.zero_le _, rfl, rfl, HBF.out, HO.out, Or.inl ⟨rfl, rfl, fun j hj => by omega⟩⟩
          case round =>
            clear HBF HO
            obtain ⟨k, f', b', hk, rfl, rfl, hbf, ho, hcase⟩ := hrel
            have HBF : Hid (BoolF w1.heap.size wr g c2 ss.length f') := hbf
            have HO : Hid (Out g (g + 1) w3 wr) := ho
            have cp := ho.cell HX3.out.p (Or.inl (by show w.heap.size < g; omega))
            have c7 := ho.cell HC7.out (Or.inl (by show b < g; omega))
            have cf := hbf.cell hxl
            have ff := hbf.frozen x
            by_cases hkl : k < zs.length
            · have hki : (k : Int) < (zs.length : Int) := by omega
              rcases hcase with ⟨rfl, rfl, hall⟩ | ⟨rfl, rfl, hfx, hFx⟩
              · cases hfx : f' x
                · rw [hfx] at cf
                  have HN : Hid _ := SK.out (Or.inr hfx)
                  clear hbf ho hall hfx SK ST
                  go_wp2
                  go_roundw
                  case rel => exact ⟨x + 1, f', b', by omega, by go_num, rfl, HBF.out, HO.out, HN.out⟩
                  case measure => simp [intOf]; omega
                · rw [hfx] at cf
                  have HFT : Hid (f' x = true) := hfx
                  clear hfx
                  obtain rfl := HNA.out (by omega)
                  obtain ⟨hcr, hgr⟩ := HNC.out k hkl
                  have hcr2 := ho.cell hcr (Or.inl (by show nb < g; omega))
                  have hzm : zs.getD k 0 ∈ zs := by
                    rw [List.getD_eq_getElem?_getD, List.getElem?_eq_getElem hkl]
                    exact List.getElem_mem hkl
                  obtain ⟨z0, z1⟩ := HLX.out _ hzm
                  have HAL : Hid (∀ j, j < k → (d (zs.getD j 0).toNat || (!cF e ss (zs.getD j 0).toNat && f' (zs.getD j 0).toNat)) = true) := hall
                  have HNX : Hid ((d (zs.getD k 0).toNat || (!cF e ss (zs.getD k 0).toNat && f' (zs.getD k 0).toNat)) = true → ∀ j, j < k + 1 → (d (zs.getD j 0).toNat || (!cF e ss (zs.getD j 0).toNat && f' (zs.getD j 0).toNat)) = true) := fun h j hj => by
                    by_cases e1 : j = k
                    · subst e1; exact h
                    · exact HAL.out j (by omega)
                  have HFF : Hid ((d (zs.getD k 0).toNat || (!cF e ss (zs.getD k 0).toNat && f' (zs.getD k 0).toNat)) = false → F f' x = false) := fun h => by
                    rw [HFX.out]
                    unfold allI
                    rw [List.all_eq_false]
                    exact ⟨_, hzm, fun hh => by rw [show ((fun m => d m || (!cF e ss m && f' m)) (zs.getD k 0).toNat) = false from h] at hh; cases hh⟩
                  clear hall hcr hzm HAL
                  generalize zs.getD k 0 = z at *
                  obtain ⟨m, rfl⟩ := Int.eq_ofNat_of_zero_le z0
                  have hm : m < ss.length := by omega
                  rw [show ((m : Int)).toNat = m from rfl] at HNX HFF
                  have cm := hbf.cell hm
                  have d1 := ho.cell (HCE3.out m hm).1 (Or.inr (by show g + 1 ≤ g3; omega))
                  have d2 := ho.cell (HCE3.out m hm).2 (Or.inl (by show g0 < g; omega))
                  have HST : Hid (BoolF w1.heap.size (wr.setCell ⟨g, x, none⟩ (.bool false)) g c2 ss.length (offB f' x) ∧ Out g (g + 1) w3 (wr.setCell ⟨g, x, none⟩ (.bool false))) := ⟨hbf.off x, ho.setCell (Nat.le_refl _) (by show g < g + 1; omega) _⟩
                  have hmi : (m : Int) < (ss.length : Int) := by omega
                  clear hbf ho
                  cases hdm : d m
                  · rw [hdm] at d2
                    cases hcm : cF e ss m
                    · rw [hcm] at d1
                      cases hfm : f' m
                      · rw [hfm] at cm
                        have HN : Hid _ := HFF.out (by rw [hdm, hcm, hfm]; rfl)
                        clear hdm hcm hfm HNX HFF SK ST HBF HO
                        go_wp2
                        go_roundw
                        case rel => exact ⟨k + 1, offB f' x, true, by omega, by go_num, rfl, HST.out.1, HST.out.2, Or.inr ⟨rfl, rfl, (by first | exact HFT.out | trivial), HN.out⟩⟩
                        case measure => simp [intOf]; omega
                      · rw [hfm] at cm
                        have HN : Hid _ := HNX.out (by rw [hdm, hcm, hfm]; rfl)
                        clear hdm hcm hfm HNX HFF SK ST HST
                        go_wp2
                        go_roundw
                        case rel => exact ⟨k + 1, f', b', by omega, by go_num, rfl, HBF.out, HO.out, Or.inl ⟨rfl, rfl, HN.out⟩⟩
                        case measure => simp [intOf]; omega
                    · rw [hcm] at d1
                      have HN : Hid _ := HFF.out (by rw [hdm, hcm]; rfl)
                      clear hdm hcm HNX HFF SK ST HBF HO
                      go_wp2
                      go_roundw
                      case rel => exact ⟨k + 1, offB f' x, true, by omega, by go_num, rfl, HST.out.1, HST.out.2, Or.inr ⟨rfl, rfl, (by first | exact HFT.out | trivial), HN.out⟩⟩
                      case measure => simp [intOf]; omega
                  · rw [hdm] at d2
                    have HN : Hid _ := HNX.out (by rw [hdm]; rfl)
                    clear hdm HNX HFF SK ST HST
                    go_wp2
                    go_roundw
                    case rel => exact ⟨k + 1, f', b', by omega, by go_num, rfl, HBF.out, HO.out, Or.inl ⟨rfl, rfl, HN.out⟩⟩
                    case measure => simp [intOf]; omega
              · have hxx : offB f x x = false := by simp [offB]
                rw [hxx] at cf
                have HN : Hid _ := ST.out hfx hFx
                clear hbf ho hxx SK ST hfx hFx
                go_wp2
                go_roundw
                case rel => exact ⟨x + 1, offB f x, true, by omega, by go_num, rfl, HBF.out, HO.out, HN.out⟩
                case measure => simp [intOf]; omega
            · have hki : ¬ (k : Int) < (zs.length : Int) := by omega
              obtain rfl : k = zs.length := by omega
              rcases hcase with ⟨rfl, rfl, hall⟩ | ⟨rfl, rfl, hfx, hFx⟩
              · have HN : Hid (PassS ss.length (rF rs2) F f0 f' (x + 1) b') := SK.out (by
                  left
                  rw [HFX.out]
                  unfold allI
                  rw [List.all_eq_true]
                  intro y hy
                  obtain ⟨j, hj, e1⟩ := List.getElem_of_mem hy
                  have := hall j hj
                  rw [List.getD_eq_getElem?_getD, List.getElem?_eq_getElem hj] at this
                  rw [← e1]
                  exact this)
                clear hbf ho hall SK ST
                go_wp2
                go_roundw
                case rel => exact ⟨x + 1, f', b', by omega, by go_num, rfl, HBF.out, HO.out, HN.out⟩
                case measure => simp [intOf]; omega
              · have HN : Hid _ := ST.out hfx hFx
                clear hbf ho SK ST hfx hFx
                go_wp2
                go_roundw
                case rel => exact ⟨x + 1, offB f x, true, by omega, by go_num, rfl, HBF.out, HO.out, HN.out⟩
                case measure => simp [intOf]; omega
        · have hxi : ¬ (x : Int) < (ss.length : Int) := by omega
          obtain rfl : x = ss.length := by omega
          clear hbf ho hps
          go_wp2
          go_roundw
          case rel => exact ⟨f, bo, rfl, HBF.out, HO.out, HPS.out.gi, fun h i hi hf => (HPS.out.no h).2 i hi hf⟩
          case measure =>
            have e1 := HME.out
            have e2 := trueAt_F HBF.out
            rw [e1, e2]
            cases bo with
            | false =>
              have e3 := (HPS.out.no rfl).1
              rw [e3]
              simp [boolN]
            | true =>
              have e3 := HPS.out.yes rfl
              simp only [boolN]
              omega
end Go.Proofs.YtmplkchdfloppaaGreatDoor
