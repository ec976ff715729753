/-
  For every code of bytes, a run of the program that is drawn from it is a way through it: from the first step, each to one that may come behind: the law FnRunPath answers true. No condition.
-/
import Derived.Test.YtnlcdecokpdkpaaDoorRows
import Derived.Test.YtnlcdecokpdkpaaDoorCards
import Derived.Test.YtnlcdecokpdkpaaDoorTie
import Derived.Test.YtnlcdecokpdkpaaDoorSents
import Derived.Test.YtnlcdecokpdkpaaDoorLkR
import Derived.Test.YtnlcdecokpdkpaaDoorLkG
import Derived.Test.YtnlcdecokpdkpaaDoorRunA
import Derived.OpenShut
import Derived.ShutString
import Derived.ChangeOld
import Derived.Below
import Derived.OpenVars
import Derived.Lay
import Derived.SevenTiedAt
import Derived.Stop.Joined
namespace Go.Proofs.YtnlcdecokpdkpaaDoor
open Go.ChangeShapes Go.WideShapes Go.ChangeAt Go.RowKit

theorem nextR_mem {s : St} {n : Nat} (h : stepB s n = true) (h7 : s.kind ≠ 7) (vs : List Int) : ((nextR s vs : Nat) : Int) ∈ s.next := by
  obtain ⟨h1, h2, h3⟩ := run_next h h7
  have mem : ∀ k, k < s.next.length → (((s.next.getD k 0).toNat : Nat) : Int) ∈ s.next := fun k hk => by
    have := (h3 k hk).1
    rw [show (((s.next.getD k 0).toNat : Nat) : Int) = s.next.getD k 0 by omega]
    simp [List.getD, hk]
  unfold nextR
  split
  · next hc => exact mem 1 (h2 hc.1)
  · exact mem 0 h1

theorem runR_way (ss : List St) (hok : okB ss = true) : ∀ (n i : Nat) (vs inp outs path : List Int), i < ss.length → ∃ P : List Nat, (runR ss n i vs inp outs path).path = path ++ P.map (fun k : Nat => (k : Int)) ∧ (∀ k ∈ P, k < ss.length) ∧ (0 < n → P.head? = some i) ∧ (n = 0 → P = []) ∧
    (∀ j, j + 1 < P.length → ((P.getD (j + 1) 0 : Nat) : Int) ∈ (ss.getD (P.getD j 0) st0).next) ∧
    (0 < P.length → ((ss.getD (P.getD (P.length - 1) 0) st0).kind = 7 ↔ (runR ss n i vs inp outs path).code = 0) ∧ ((runR ss n i vs inp outs path).code = 2 → (ss.getD (P.getD (P.length - 1) 0) st0).kind = 3)) := by
  intro n
  induction n with
  | zero => intro i vs inp outs path _; exact ⟨[], by simp [runR], by simp, by simp, by simp, by simp, by simp⟩
  | succ n ih =>
    intro i vs inp outs path hi
    cases hs : stopR (ss.getD i st0) inp with
    | some c =>
      refine ⟨[i], by simp [runR_stop hs], by simp [hi], by simp, by simp, by simp, fun _ => ?_⟩
      rw [runR_stop hs]
      show ((ss.getD i st0).kind = 7 ↔ c = 0) ∧ (c = 2 → (ss.getD i st0).kind = 3)
      unfold stopR at hs
      split at hs
      · next h7 => injection hs with hs; subst hs; exact ⟨⟨fun _ => rfl, fun _ => h7⟩, fun h => by cases h⟩
      · next h7 =>
        split at hs
        · next h3 => injection hs with hs; subst hs; exact ⟨⟨fun h => absurd h h7, fun h => by cases h⟩, fun _ => h3.1⟩
        · cases hs
    | none =>
      have h7 := stop_none hs
      have hst := ok_at hok hi
      rw [runR_go hs]
      obtain ⟨P, h1, h2, h3, h4, h5, h6⟩ := ih (nextR (ss.getD i st0) vs) (varsR (ss.getD i st0) vs inp) (inR (ss.getD i st0) inp) (outsR (ss.getD i st0) vs outs) (path ++ [(i : Int)]) (next_lt hok hi h7 vs)
      refine ⟨i :: P, by rw [h1]; simp, by intro k hk; rcases List.mem_cons.1 hk with rfl | hk; exact hi; exact h2 k hk, by simp, by simp, ?_, fun _ => ?_⟩
      · intro j hj
        cases j with
        | zero =>
          cases P with
          | nil => simp at hj
          | cons a r =>
            have hn : 0 < n := by
              rcases Nat.eq_zero_or_pos n with e | e
              · cases h4 e
              · exact e
            have ha : a = nextR (ss.getD i st0) vs := by simpa using h3 hn
            show ((a : Nat) : Int) ∈ (ss.getD i st0).next
            rw [ha]
            exact nextR_mem hst h7 vs
        | succ j =>
          simp only [List.length_cons] at hj
          exact h5 j (by omega)
      · cases P with
        | nil =>
          have hn : n = 0 := by
            rcases Nat.eq_zero_or_pos n with e | e
            · exact e
            · have := h3 e; cases this
          subst hn
          show ((ss.getD i st0).kind = 7 ↔ (1 : Nat) = 0) ∧ ((1 : Nat) = 2 → (ss.getD i st0).kind = 3)
          exact ⟨⟨fun h => absurd h h7, fun h => by cases h⟩, fun h => by cases h⟩
        | cons a r =>
          have := h6 (by simp)
          simpa using this

theorem run_path (ss : List St) (inp : List Int) (most : Int) : ∃ P : List Nat, (runOfR ss inp most).path = P.map (fun k : Nat => (k : Int)) ∧ (∀ k ∈ P, k < ss.length) ∧ (0 < P.length → P.getD 0 0 = 0) ∧
    (∀ j, j + 1 < P.length → ((P.getD (j + 1) 0 : Nat) : Int) ∈ (ss.getD (P.getD j 0) st0).next) ∧
    (0 < P.length → ((ss.getD (P.getD (P.length - 1) 0) st0).kind = 7 ↔ (runOfR ss inp most).code = 0) ∧ ((runOfR ss inp most).code = 2 → (ss.getD (P.getD (P.length - 1) 0) st0).kind = 3)) := by
  by_cases hc : canB ss inp most = true
  · have e : runOfR ss inp most = runR ss most.toNat 0 vars0 inp [] [] := by simp [runOfR, hc]
    have hok : okB ss = true := by simp only [canB, Bool.and_eq_true] at hc; exact hc.1.1
    have hn1 : 0 < ss.length := by simp only [okB, Bool.and_eq_true, decide_eq_true_eq] at hok; omega
    obtain ⟨P, h1, h2, h3, h4, h5, h6⟩ := runR_way ss hok most.toNat 0 vars0 inp [] [] hn1
    rw [e]
    refine ⟨P, by simpa using h1, h2, fun hp => ?_, h5, h6⟩
    rcases Nat.eq_zero_or_pos most.toNat with e0 | e0
    · rw [h4 e0] at hp; simp at hp
    · have := h3 e0
      cases P with
      | nil => simp at hp
      | cons a r => simpa using this
  · have e : runOfR ss inp most = ⟨9, [], []⟩ := by simp [runOfR, hc]
    rw [e]
    exact ⟨[], rfl, by simp, by simp, by simp, by simp⟩

set_option maxRecDepth 100000 in
set_option maxHeartbeats 8000000 in
theorem law_walk (v : Value) (w : World) (a0 a1 a2 : Addr) (hs : Sen w a0 a1 a2) (h : CodeAt w v) {Q : Ending → World → Prop} (hQ : ∀ w', Below w.heap.size w w' → Q (.returned (.bool true)) w') :
    Calls Tryd.prog 5 #[v] w Q := by
  have HQ : Hid (∀ w', Below w.heap.size w w' → Q (.returned (.bool true)) w') := hQ
  have HSEN : Hid (Sen w a0 a1 a2) := hs
  clear hQ hs
  have HC : Hid _ := h
  obtain ⟨ao, bb, bo, bl, cap, rfl, h1, h2, h3, h4, h5⟩ := h
  clear h3 h4 h5
  by_cases hbl : 1048576 < bl
  · go_enter Tryd.func5, Tryd.ntmps5
    go_wp2
    exact HQ.out _ (Below.refl _ _)
  go_enter Tryd.func5, Tryd.ntmps5
  go_wp2_with fail
  refine drawRunOf_any _ _ HC.out fun sv iv ss inp most w1 hS hl hls hI hN hil hb1 => ?_
  clear HC
  obtain ⟨A1, b1, o1, c1, rfl, hS'⟩ := id hS
  obtain ⟨A2, b2, o2, c2, rfl, hI'⟩ := id hI
  have HP : Hid (PW w1 (.slice A1 ss.length c1) (.slice A2 inp.length c2) ss inp a0 a1 a2) := ⟨hS.at, hI, HSEN.out.keep hb1⟩
  have HLS : Hid (∀ s ∈ ss, s.next.length ≤ 61) := hls
  have HNI : Hid (Nice (.slice A2 inp.length c2)) := hN
  have HB1 : Hid (Below w.heap.size w w1) := hb1
  have hil' : inp.length ≤ 20 := by omega
  clear hS hS' hI hI' hls hb1 hN
  obtain ⟨hrp, hro⟩ := runOfR_len ss inp most
  have hb0 : ∀ (W : World) O, Below W.heap.size W (W.alloc O) := fun W O => (Below.refl _ _).alloc (Nat.le_refl _) O
  go_wp2_with fail
  refine specRun_w most _ (HP.out.keep (hb0 _ _)) hl HLS.out hil' fun v2 w2 hb2 hr2 => ?_
  have HBA : Hid (Below w1.heap.size w1 w2) := (hb0 _ _).trans (hb2.mono (by simp))
  have p2 : w2.cell? ⟨w1.heap.size, 0, none⟩ = some (.slice A1 ss.length c1) := cell_keep hb2 (by simp [go_sem])
  have k12 : w1.heap.size < w2.heap.size := cell_lt p2
  have k12' : w1.heap.size ≠ w2.heap.size := by omega
  obtain ⟨A3, c3, A4, c4, hv2⟩ := hr2.form
  subst hv2
  have HR2 : Hid (ResA w2 (.agg #[.int .i64 ((runOfR ss inp most).code : Int), .slice A3 (runOfR ss inp most).outs.length c3, .slice A4 (runOfR ss inp most).path.length c4]) (runOfR ss inp most)) := hr2
  clear hb2 hr2
  go_wp2_with fail
  refine implRun_w most _ ((HP.out.keep HBA.out).keep (hb0 _ _)) hl HLS.out hil' fun v3 w3 hb3 hr3 => ?_
  have HBB : Hid (Below w2.heap.size w2 w3) := (hb0 _ _).trans (hb3.mono (by simp))
  have p3 := cell_keep HBB.out p2
  have s0 : w3.cell? ⟨w2.heap.size, 0, none⟩ = some (.int .i64 ((runOfR ss inp most).code : Int)) := cell_keep hb3 (by simp [go_sem])
  have s1 : w3.cell? ⟨w2.heap.size, 1, none⟩ = some (.slice A3 (runOfR ss inp most).outs.length c3) := cell_keep hb3 (by simp [go_sem])
  have s2 : w3.cell? ⟨w2.heap.size, 2, none⟩ = some (.slice A4 (runOfR ss inp most).path.length c4) := cell_keep hb3 (by simp [go_sem])
  have k13 : w1.heap.size < w3.heap.size := cell_lt p3
  have k13' : w1.heap.size ≠ w3.heap.size := by omega
  have k23 : w2.heap.size < w3.heap.size := cell_lt s0
  have k23' : w2.heap.size ≠ w3.heap.size := by omega
  obtain ⟨A5, c5, A6, c6, hv3⟩ := hr3.form
  subst hv3
  have HR3 : Hid (ResA w3 (.agg #[.int .i64 ((runOfR ss inp most).code : Int), .slice A5 (runOfR ss inp most).outs.length c5, .slice A6 (runOfR ss inp most).path.length c6]) (runOfR ss inp most)) := hr3
  clear hb3 hr3 p2
  go_wp2_with fail
  refine lkResult_any _ _ (runOfR ss inp most) _ (HR3.out.keep (hb0 _ _)) ((HR2.out.keep HBB.out).keep (hb0 _ _)) (by omega) (by omega) fun w4 hb4 => ?_
  have HBC : Hid (Below w3.heap.size w3 w4) := (hb0 _ _).trans (hb4.mono (by simp))
  have p4 := cell_keep HBC.out p3
  have e0 := cell_keep HBC.out s0
  have e1 := cell_keep HBC.out s1
  have e2 := cell_keep HBC.out s2
  have t0 : w4.cell? ⟨w3.heap.size, 0, none⟩ = some (.int .i64 ((runOfR ss inp most).code : Int)) := cell_keep hb4 (by simp [go_sem])
  have t1 : w4.cell? ⟨w3.heap.size, 1, none⟩ = some (.slice A5 (runOfR ss inp most).outs.length c5) := cell_keep hb4 (by simp [go_sem])
  have t2 : w4.cell? ⟨w3.heap.size, 2, none⟩ = some (.slice A6 (runOfR ss inp most).path.length c6) := cell_keep hb4 (by simp [go_sem])
  have HP4 : Hid (PW w4 (.slice A1 ss.length c1) (.slice A2 inp.length c2) ss inp a0 a1 a2) := ((HP.out.keep HBA.out).keep HBB.out).keep HBC.out
  have HR4 : Hid (ResA w4 (.agg #[.int .i64 ((runOfR ss inp most).code : Int), .slice A5 (runOfR ss inp most).outs.length c5, .slice A6 (runOfR ss inp most).path.length c6]) (runOfR ss inp most)) := HR3.out.keep HBC.out
  have HW4 : Hid (ResA w4 (.agg #[.int .i64 ((runOfR ss inp most).code : Int), .slice A3 (runOfR ss inp most).outs.length c3, .slice A4 (runOfR ss inp most).path.length c4]) (runOfR ss inp most)) := (HR2.out.keep HBB.out).keep HBC.out
  have HB4 : Hid (Below w.heap.size w w4) := HB1.out.trans (((HBA.out.trans (HBB.out.mono HBA.out.size)).trans (HBC.out.mono (Nat.le_trans HBA.out.size HBB.out.size))).mono HB1.out.size)
  have k34 : w3.heap.size < w4.heap.size := cell_lt t0
  clear hb4 p3 s0 s1 s2 HR2 HR3 HBA HBB HBC HP HB1 HSEN

  obtain ⟨P, hP1, hP2, hP3, hP4, hP5⟩ := run_path ss inp most
  have hpl : (runOfR ss inp most).path.length = P.length := by rw [hP1]; simp
  by_cases hP0 : P.length = 0
  · have hz : (runOfR ss inp most).path.length = 0 := by omega
    have t2' : w4.cell? ⟨w3.heap.size, 2, none⟩ = some (.slice A6 0 c6) := by rw [t2, hz]
    have e2' : w4.cell? ⟨w2.heap.size, 2, none⟩ = some (.slice A4 0 c4) := by rw [e2, hz]
    have HR5 : Hid (ResA w4 (.agg #[.int .i64 ((runOfR ss inp most).code : Int), .slice A5 (runOfR ss inp most).outs.length c5, .slice A6 0 c6]) (runOfR ss inp most)) := by have := HR4.out; rw [hz] at this; exact this
    have HW5 : Hid (ResA w4 (.agg #[.int .i64 ((runOfR ss inp most).code : Int), .slice A3 (runOfR ss inp most).outs.length c3, .slice A4 0 c4]) (runOfR ss inp most)) := by have := HW4.out; rw [hz] at this; exact this
    clear t2 e2 hz hpl hP0 hP1 hP2 hP3 hP4 hP5 HR4 HW4
    go_wp2_with fail
    refine lkResult_any _ _ (runOfR ss inp most) _ HR5.out HW5.out (by omega) (by omega) fun w5 hb5 => ?_
    have HB5 : Hid (Below w.heap.size w w5) := HB4.out.trans (hb5.mono HB4.out.size)
    clear hb5
    go_wp2
    exact HQ.out _ HB5.out
  obtain ⟨L, hL⟩ : ∃ L, P.length = L + 1 := ⟨P.length - 1, by omega⟩
  obtain ⟨ov, pv, eV, L1, L2⟩ := HR4.out
  cases eV
  obtain ⟨ao6, pb, po, cap6, e6, _, ha6, hc6⟩ := L2
  cases e6
  obtain ⟨ao7, sb, so, cap7, e7, ha7, hc7⟩ := HP4.out.st
  cases e7
  obtain rfl := ha6 (by omega)
  obtain rfl := ha7 (by have := hP2 (P.getD 0 0) (by simp [List.getD, show 0 < P.length by omega]); omega)
  have HPC : Hid (∀ k, k < L + 1 → w4.cell? ⟨pb, po + k, none⟩ = some (.int .i64 ((P.getD k 0 : Nat) : Int))) := fun k hk => by
    rw [hc6 k (by omega)]
    simp [hP1, List.getD, show k < P.length by omega]
  have HPL : Hid (∀ k, k < L + 1 → P.getD k 0 < ss.length) := fun k hk => hP2 _ (by simp [List.getD, show k < P.length by omega])
  have HSC : Hid (∀ k, k < ss.length → ∃ nv, StepCells w4 sb (so + k * 8) (ss.getD k st0) nv ∧ IntsAt w4 nv (ss.getD k st0).next ∧ (ss.getD k st0).next.length ≤ 61) := fun k hk => by
    obtain ⟨nv, cs, hi⟩ := hc7 k ss[k] (by simp [hk])
    have e : ss.getD k st0 = ss[k] := by simp [List.getD, hk]
    rw [e]
    exact ⟨nv, cs, hi, HLS.out _ (List.getElem_mem hk)⟩
  have HP4' : Hid (∀ j, j + 1 < L + 1 → ((P.getD (j + 1) 0 : Nat) : Int) ∈ (ss.getD (P.getD j 0) st0).next) := fun j hj => hP4 j (by omega)
  have HP3 : Hid (P.getD 0 0 = 0) := hP3 (by omega)
  have HP5 : Hid (((ss.getD (P.getD L 0) st0).kind = 7 ↔ (runOfR ss inp most).code = 0) ∧ ((runOfR ss inp most).code = 2 → (ss.getD (P.getD L 0) st0).kind = 3)) := by have := hP5 (by omega); rw [hL] at this; exact this
  have hL6 : L + 1 ≤ 600 := by omega
  obtain ⟨n, hn⟩ : ∃ n, n = L + 1 := ⟨_, rfl⟩
  have hne0 : ((n : Int) == 0) = false := by simp; omega
  have hn0 : (0 : Int) < (n : Int) := by omega
  have hLn : (L : Int) < (n : Int) := by omega
  have hnw : IntKind.i64.wrap ((n : Int) - 1) = (L : Int) := by simp [IntKind.wrap, IntKind.bits, IntKind.signed]; omega
  have hnw2 : (n : Int) - 1 = (L : Int) := by omega
  have hnw3 : IntKind.i64.wrap (L : Int) = (L : Int) := by simp [IntKind.wrap, IntKind.bits, IntKind.signed]; omega
  rw [hpl, hL, ← hn] at t2
  have HNN : Hid (n = L + 1) := hn
  clear hP1 hP2 hP3 hP4 hP5 hc6 hc7 L1 HP4 HR4 HW4 e0 e1 e2 hP0 hpl hL ha6 ha7 hn
  generalize (runOfR ss inp most).code = cd at *
  go_wp2_with fail
  go_loopw [8] (fun i wr => ∃ m : Nat, 1 ≤ m ∧ m ≤ n ∧ i = .int .i64 (m : Int) ∧ Below w4.heap.size w4 wr) (fun i _ => n - (intOf i).toNat)
  case atStart => exact ⟨1, Nat.le_refl _, by have := HNN.out; omega, rfl, Below.refl _ _⟩
  case round =>
    obtain ⟨m, hm1, hmn, rfl, hb⟩ := hrel
    obtain ⟨j, hmj⟩ : ∃ j, m = j + 1 := ⟨m - 1, by omega⟩
    have HMJ : Hid (m = j + 1) := hmj
    have hnL := HNN.out
    have x2 := cell_keep hb t2
    have x0 := cell_keep hb t0
    have xp := cell_keep hb p4
    have HBR : Hid (Below w4.heap.size w4 wr) := hb
    have HBF : Hid (Below w.heap.size w wr) := HB4.out.trans (hb.mono HB4.out.size)
    by_cases hjl : m < n
    · have hji : (m : Int) < (n : Int) := by omega
      have hji2 : (j : Int) < (n : Int) := by omega
      have hmw : IntKind.i64.wrap ((m : Int) - 1) = (j : Int) := by simp [IntKind.wrap, IntKind.bits, IntKind.signed]; omega
      have hmw2 : (m : Int) - 1 = (j : Int) := by omega
      have hmw3 : IntKind.i64.wrap (j : Int) = (j : Int) := by simp [IntKind.wrap, IntKind.bits, IntKind.signed]; omega
      have y1 := cell_keep hb (HPC.out j (by omega))
      have y2 := cell_keep hb (HPC.out m (by omega))
      have hPj := HPL.out j (by omega)
      have HMEM : Hid (((P.getD m 0 : Nat) : Int) ∈ (ss.getD (P.getD j 0) st0).next) := by have := HP4'.out j (by omega); rw [← hmj] at this; exact this
      obtain ⟨nv, cs, hnv, hnl⟩ := HSC.out _ hPj
      obtain ⟨nao, nb, no, ncap, rfl, hna, hnc⟩ := id hnv
      obtain ⟨z0, z1, z2, z3, z4, z5, z6, z7⟩ := cs.keep hb
      have hPi : ((P.getD j 0 : Nat) : Int) < (ss.length : Int) := by omega
      have HG : Hid (goesB (ss.getD (P.getD j 0) st0).next ((P.getD m 0 : Nat) : Int) = true) := by simp only [Hid, goesB, decide_eq_true_eq]; exact HMEM.out
      have HNV : Hid (IntsAt wr (.slice nao (ss.getD (P.getD j 0) st0).next.length ncap) (ss.getD (P.getD j 0) st0).next) := hnv.keep hb
      generalize ss.getD (P.getD j 0) st0 = s at *
      generalize P.getD j 0 = pj at *
      generalize P.getD m 0 = pk at *
      clear hmj hnL hb cs hnv hna hnc HMEM
      go_wp2_with fail
      go_region_held3 (fun wx => wx.cell? ⟨w1.heap.size, 0, none⟩ = some (.slice (some ⟨sb, so, none⟩) ss.length c1) ∧ wx.cell? ⟨w3.heap.size, 2, none⟩ = some (.slice (some ⟨pb, po, none⟩) n c6) ∧ wx.cell? ⟨pb, po + j, none⟩ = some (.int .i64 (pj : Int)) ∧ wx.cell? ⟨pb, po + m, none⟩ = some (.int .i64 (pk : Int)) ∧ wx.cell? ⟨sb, so + pj * 8, none⟩ = some (.int .i64 s.kind) ∧ wx.cell? ⟨sb, so + pj * 8 + 1, none⟩ = some (.int .i64 s.dst) ∧ wx.cell? ⟨sb, so + pj * 8 + 2, none⟩ = some (.int .i64 s.op) ∧ wx.cell? ⟨sb, so + pj * 8 + 3, none⟩ = some (.int .i64 s.av) ∧ wx.cell? ⟨sb, so + pj * 8 + 4, none⟩ = some (.int .i64 s.an) ∧ wx.cell? ⟨sb, so + pj * 8 + 5, none⟩ = some (.int .i64 s.bv) ∧ wx.cell? ⟨sb, so + pj * 8 + 6, none⟩ = some (.int .i64 s.bn) ∧ wx.cell? ⟨sb, so + pj * 8 + 7, none⟩ = some (.slice nao s.next.length ncap)) (go_keep) (first | (go_at_call 27; refine lkGoes_any s (.slice nao s.next.length ncap) (pk : Int) _ (HNV.out.keep ((Below.refl _ _).drew)) (by omega) ?_; intro w7 hb7; have hbw7 : Below wr.heap.size wr w7 := ((Below.refl _ _).drew).trans (hb7.mono (by simp)); rw [HG.out]; have k0 := cell_keep hbw7 xp; have k1 := cell_keep hbw7 x2; have k2 := cell_keep hbw7 y1; have k3 := cell_keep hbw7 y2; have k4 := cell_keep hbw7 z0; have k5 := cell_keep hbw7 z1; have k6 := cell_keep hbw7 z2; have k7 := cell_keep hbw7 z3; have k8 := cell_keep hbw7 z4; have k9 := cell_keep hbw7 z5; have k10 := cell_keep hbw7 z6; have k11 := cell_keep hbw7 z7; clear hb7))
      all_goals
        have HBN : Hid (Below w4.heap.size w4 w7) := HBR.out.trans (hbw7.mono HBR.out.size)
        clear k0 k1 k2 k3 k4 k5 k6 k7 k8 k9 k10 k11 hbw7
        go_wp2
        go_roundw
        case rel => exact ⟨m + 1, by omega, by omega, by go_num, HBN.out⟩
        case measure => simp [intOf]; omega
    · have hji : ¬ ((m : Int) < (n : Int)) := by omega
      have y1 := cell_keep hb (HPC.out L (by omega))
      have y0 := cell_keep hb (HPC.out 0 (by omega))
      rw [HP3.out] at y0
      simp only [Nat.add_zero] at y0
      have hPj := HPL.out L (by omega)
      obtain ⟨nv, cs, _, _⟩ := HSC.out _ hPj
      have z0 := (cs.keep hb).c0
      have hPi : ((P.getD L 0 : Nat) : Int) < (ss.length : Int) := by omega
      have HF : Hid (((ss.getD (P.getD L 0) st0).kind = 7 ↔ cd = 0) ∧ (cd = 2 → (ss.getD (P.getD L 0) st0).kind = 3)) := HP5.out
      generalize (ss.getD (P.getD L 0) st0).kind = kd at *
      generalize P.getD L 0 = pj at *
      clear hb cs hmj hnL HMJ
      by_cases h7 : kd = 7
      · have hc0 : cd = 0 := HF.out.1.1 h7
        subst h7 hc0
        clear HF HP5
        go_wp2_with fail
        go_quiet (fail)
        go_wp2
        exact HQ.out _ (below_drewN HBF.out _)
      · have hc0 : ¬ cd = 0 := fun e => h7 (HF.out.1.2 e)
        have h7b : (kd == 7) = false := by simpa using h7
        have hc0b : ((cd : Int) == 0) = false := by simp; omega
        by_cases hc2 : cd = 2
        · have h3 : kd = 3 := HF.out.2 hc2
          subst hc2 h3
          clear HF HP5 h7 hc0
          go_wp2_with fail
          go_quiet (fail)
          go_wp2
          exact HQ.out _ (below_drewN HBF.out _)
        · have hc2b : ((cd : Int) == 2) = false := by simp; omega
          have hc2i : ¬ ((cd : Int) = 2) := by omega
          clear HF HP5 hc2 h7 hc0
          go_wp2_with fail
          go_quiet (fail)
          go_wp2
          exact HQ.out _ (below_drewN HBF.out _)

set_option maxRecDepth 100000 in
theorem contract (H : Type) (enc : TypeId × Value → H) (W : World) (base : Nat) (args : Array Value) (ds gs : List (DataW H)) (before : List MemPlace)
    (hval : ∀ (j : Nat) t v, Tryd.f5.params[j]? = some t → args[j]? = some v → Value.okWide Tryd.prog W .any base t v)
    (hW : DataW.Whole enc Tryd.prog Tryd.f5.params.toList Rows.fnRunPathSpec.vars false W args.toList ds gs before) (hL : laidMetH Tryd.prog Rows.fnRunPathRow.laid W) :
    Calls Tryd.prog 5 args W fun e W' => ∃ v, e = .returned v ∧ Rows.fnRunPathSpec.post enc Tryd.prog Tryd.f5 false true false false W args v W' := by
  have hW' := hW
  obtain ⟨p, q, hA0, hV, rfl, hfz, hnd⟩ := hW
  have hA : DataW.TrodAll enc Tryd.prog W 0 (fun _ => true) true Tryd.f5.params.toList args.toList ds p := hA0
  rw [Tryd.params5] at hA hval
  obtain ⟨v0, vs0, d0, ds0, p0, q0, hargs, rfl, rfl, h0, r0⟩ := trodAll_cons hA
  obtain ⟨rfl, rfl, rfl⟩ := trodAll_nil r0
  obtain rfl : args = #[v0] := by cases args; simp_all
  obtain ⟨y1, y2, y3, rfl⟩ := vars3 hV
  obtain ⟨a0, a1, a2, hs⟩ := sen_of_laid hL
  have k0 := h0
  have lt0 : ∀ x ∈ p0, x.block < W.heap.size := by obtain ⟨m, hm⟩ := k0; exact DataW.trod_lt m _ _ _ hm
  have c0 := open_code (hval 0 42 v0 rfl rfl) h0
  clear hA0
  refine law_walk v0 W a0 a1 a2 hs c0 fun W' bel => ?_
  exact ⟨_, rfl, _, _, _, [], _, q, hW', trodAll_mk1 (shut_bool Tryd.underlying4 _), (trodAll_cons_mk (Below.trod laidOut (by kernel_rfl) (of_decide_eq_true (by kernel_rfl)) k0 bel lt0) trodAll_mk0), bel.trodVars laidOut (by kernel_rfl) hV, bel.frame _, fun h => by cases h⟩

set_option maxRecDepth 100000 in
theorem lifted (os : Os) (started : os.Started) (H : Type) (enc : TypeId × Value → H) :
    ReturnsInHanded {} Tryd.checked os 5 .any (fun w args => (Rows.fnRunPathSpec.pre enc Tryd.prog Tryd.f5 Rows.fnRunPathRow.domain false w args ∧ laidMetH Tryd.prog Rows.fnRunPathRow.laid w) ∧ sizedMet enc Tryd.prog Tryd.f5 (OpenSpec.ofChange Rows.fnRunPathSpec) false w args)
      (Rows.fnRunPathSpec.post enc Tryd.prog Tryd.f5 false true false false) := by
  refine returnsInHanded_of_change_and (C := Tryd.checked) (X := fun w _ => laidMetH Tryd.prog Rows.fnRunPathRow.laid w) (fun _ _ _ hh h => h.of_heap hh) own started (by kernel_rfl) Tryd.func5
    (ChangeSpec.witness_shaped (enc := enc) (C := Tryd.checked) (os := os) (X := fun w _ => laidMetH Tryd.prog Rows.fnRunPathRow.laid w) false (World.laidAll Tryd.prog os Rows.fnRunPathRow.laid) #[.slice none 0 0] 8 (World.laidAll_os _ _ _)
      (World.shaped_of_ZipB (by kernel_rfl) (by kernel_rfl)) (by kernel_rfl) (by kernel_rfl) (by kernel_rfl)
      (by rw [MakeChecks.laidMetH_plain _ _ _ (by kernel_rfl)]; exact laidMet_laidAll _ (by kernel_rfl) (by kernel_rfl))) ?_
  intro W base args ds gs before hval0 hW _ _ hL _
  exact contract H enc W base args ds gs before hval0 hW hL

theorem said : Rows.FnRunPathSaid :=
  OpenClaim.holds_of_wide 5 Tryd.f5 rfl rfl rfl rfl rfl rfl rfl ⟨rfl, rfl, rfl, rfl, rfl⟩ rfl rfl rfl rfl rfl (by kernel_rfl) Tryd.func5 (by kernel_rfl)
    (of_decide_eq_true (by kernel_rfl)) (by unfold Func.isWrapper; first | (rw [if_pos (by decide +kernel)]; kernel_rfl) | (rw [if_neg (by decide +kernel)]; exact ⟨rfl, rfl⟩))
    (fun os started H enc _ => lifted os started H enc)

theorem plain (f : FuncId) (fn : Func) (hf : Tryd.pinned.checked.prog.funcNamed Rows.fnRunPathRow.func = some f) (hfn : Tryd.pinned.checked.prog.funcs[f]? = some fn) :
    true = Tryd.pinned.checked.prog.looks [] ∧ ∀ (j : Nat) t, fn.params[j]? = some t → Tryd.pinned.checked.prog.wantsStandIn t = false := by
  obtain rfl : f = 5 := Option.some.inj ((show Tryd.prog.funcNamed Rows.fnRunPathRow.func = some 5 by kernel_rfl).symm.trans hf) |>.symm
  obtain rfl : fn = Tryd.f5 := (Option.some.inj (Tryd.func5.symm.trans hfn)).symm
  refine ⟨by kernel_rfl, fun j t ht => ?_⟩
  rw [Tryd.params5] at ht
  obtain rfl : t = 42 := by simpa using Array.mem_of_getElem? ht
  exact (show Tryd.prog.wantsStandIn 42 = false by kernel_rfl)

theorem fnRunPath_card : Rows.FnRunPathCardSaid :=
  Claim7.holds_tied_plain_at .later [] _ _ _ _ said (fun _ h => by cases h) (by kernel_rfl) (fun _ h => by cases h) fnRunPath_row_tie rfl ⟨rfl, rfl⟩ (by kernel_rfl) rfl plain (by kernel_rfl)
#print axioms fnRunPath_card
end Go.Proofs.YtnlcdecokpdkpaaDoor
