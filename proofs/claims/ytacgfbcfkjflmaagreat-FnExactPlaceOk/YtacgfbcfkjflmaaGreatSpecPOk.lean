/- The model's PlaceOk. -/
import Derived.Test.YtacgfbcfkjflmaaGreatSpecHeld
import Derived.Test.YtacgfbcfkjflmaaGreatSpecPC
namespace Go.Proofs.YtacgfbcfkjflmaaGreat
open Go.RowKit

theorem SafeOr.here {P : List St → E5 → List Bool → (Nat → Bool) → Prop} {ss : List St} {e : E5} {bs : List Bool} (h : SafeOr P ss e bs) (hok : okB ss = true) (hex : exprB e = true) : ∃ rs f, IsReach ss rs ∧ P ss e rs f ∧ bs = (List.range ss.length).map f := by
  rcases h with ⟨_, _, rs, f, h1, h2, h3⟩ | ⟨h1, _⟩
  · exact ⟨rs, f, h1, h2, h3⟩
  · exact absurd ⟨hok, hex⟩ h1

set_option maxRecDepth 100000 in
set_option maxHeartbeats 8000000 in
theorem specPlaceOk_any {Q : Ending → World → Prop} (v x1 x2 : Value) (ss : List St) (e : E5) (ps ts : List Bool) (w : World) (h : StepsAt w v ss) (hl : ss.length ≤ 1048576) (hls : ∀ s ∈ ss, s.next.length ≤ 1048576) (hp : BoolsAt w x1 ps) (ht : BoolsAt w x2 ts)
    (hQ : ∀ (b : Bool) w', Below w.heap.size w w' → (b = true ↔ PlaceOkP ss e ps ts) → Q (.returned (.bool b)) w') :
    Calls Tryz.prog 18 #[.agg #[v], .agg #[.int .i64 e.op, .int .i64 e.av, .int .i64 e.an, .int .i64 e.bv, .int .i64 e.bn], .agg #[x1, x2]] w Q := by
  have HQ : Hid _ := hQ
  clear hQ
  obtain ⟨ao, b, o, cap, rfl, _, _⟩ := id h
  obtain ⟨po, pb, pof, pcap, rfl, hpa, hpc⟩ := id hp
  obtain ⟨tp, tb, tof, tcap, rfl, hta, htc⟩ := id ht
  have HH : Hid (StepsAt w (.slice ao ss.length cap) ss) := h
  have HL : Hid (∀ s ∈ ss, s.next.length ≤ 1048576) := hls
  have HP : Hid (BoolsAt w (.slice po ps.length pcap) ps) := hp
  have HT : Hid (BoolsAt w (.slice tp ts.length tcap) ts) := ht
  have HPA : Hid _ := hpa
  have HPC : Hid _ := hpc
  have HTA : Hid _ := hta
  have HTC : Hid _ := htc
  clear h hls hp ht hpa hpc hta htc
  have hb0 : ∀ O O' O'', Below w.heap.size w (((w.alloc O).alloc O').alloc O'') := fun O O' O'' => (((Below.refl _ _).alloc (Nat.le_refl _) O).alloc (by simp) O').alloc (by simp; omega) O''
  go_enter Tryz.func18, Tryz.ntmps18
  go_wp2_with fail
  refine l13Form_any _ _ _ ss e ps ts _ (HH.out.keep (hb0 _ _ _)) hl HL.out (HP.out.keep (hb0 _ _ _)) (HT.out.keep (hb0 _ _ _)) fun fb w2 hb2 hfb => ?_
  have HB2 : Hid (Below w.heap.size w w2) := (hb0 _ _ _).trans (hb2.mono (by simp; omega))
  have q2 : w2.cell? ⟨w.heap.size, 0, none⟩ = some (.slice ao ss.length cap) := cell_keep hb2 (by simp [go_sem])
  have x20 : w2.cell? ⟨w.heap.size + 1, 0, none⟩ = some (.int .i64 e.op) := cell_keep hb2 (by simp [go_sem])
  have x21 : w2.cell? ⟨w.heap.size + 1, 1, none⟩ = some (.int .i64 e.av) := cell_keep hb2 (by simp [go_sem])
  have x22 : w2.cell? ⟨w.heap.size + 1, 2, none⟩ = some (.int .i64 e.an) := cell_keep hb2 (by simp [go_sem])
  have x23 : w2.cell? ⟨w.heap.size + 1, 3, none⟩ = some (.int .i64 e.bv) := cell_keep hb2 (by simp [go_sem])
  have x24 : w2.cell? ⟨w.heap.size + 1, 4, none⟩ = some (.int .i64 e.bn) := cell_keep hb2 (by simp [go_sem])
  have l20 : w2.cell? ⟨w.heap.size + 1 + 1, 0, none⟩ = some (.slice po ps.length pcap) := cell_keep hb2 (by simp [go_sem])
  have l21 : w2.cell? ⟨w.heap.size + 1 + 1, 1, none⟩ = some (.slice tp ts.length tcap) := cell_keep hb2 (by simp [go_sem])
  clear hb2 hb0
  cases fb
  · have HC : Hid (false = true ↔ PlaceOkP ss e ps ts) := ⟨(fun e => by cases e), fun e => hfb.2 e.1⟩
    clear hfb
    go_wp2
    exact HQ.out _ _ HB2.out HC.out
  have HF : Hid (FormP ss e ps ts) := hfb.1 rfl
  obtain ⟨hn1, hn2⟩ := ok_len HF.out.1
  clear hfb
  go_wp2_with fail
  refine specSafeDown_any _ ss e _ (HH.out.keep HB2.out) hl HL.out fun v3 bs3 w3 hb3 hs3 hown3 => ?_
  obtain ⟨rs, d, hre, hd, hbs⟩ := hs3.here HF.out.1 HF.out.2.1
  subst hbs
  obtain ⟨gd, kd, hv3, hf3⟩ := BoolF.of_row hn1 hown3
  subst hv3
  have HRE : Hid (IsReach ss rs) := hre
  have HD : Hid (IsDown ss e rs d) := hd
  have HF3 : Hid (BoolF w2.heap.size w3 gd kd ss.length d) := hf3
  have HB3 : Hid (Below w.heap.size w w3) := HB2.out.trans (hb3.mono HB2.out.size)
  have q3 := cell_keep hb3 q2
  have x30 := cell_keep hb3 x20
  have x31 := cell_keep hb3 x21
  have x32 := cell_keep hb3 x22
  have x33 := cell_keep hb3 x23
  have x34 := cell_keep hb3 x24
  have l30 := cell_keep hb3 l20
  have l31 := cell_keep hb3 l21
  clear hb3 hs3 hown3 hre hd hf3 q2 x20 x21 x22 x23 x24 l20 l21 HB2
  go_wp2_with fail
  refine specSafeUp_any _ ss e _ (HH.out.keep HB3.out) hl HL.out fun v4 bs4 w4 hb4 hs4 hown4 => ?_
  obtain ⟨rs', u, hre', hu, hbs⟩ := hs4.here HF.out.1 HF.out.2.1
  obtain rfl : rs' = rs := hre'.unique HRE.out
  subst hbs
  obtain ⟨gu, ku, hv4, hf4⟩ := BoolF.of_row hn1 hown4
  subst hv4
  have HU : Hid (IsUp ss e rs' u) := hu
  have HFD4 : Hid (BoolF w2.heap.size w4 gd kd ss.length d) := HF3.out.keep hb4
  have HFU4 : Hid (BoolF w3.heap.size w4 gu ku ss.length u) := hf4
  have HB4 : Hid (Below w.heap.size w w4) := HB3.out.trans (hb4.mono HB3.out.size)
  have q4 := cell_keep hb4 q3
  have x40 := cell_keep hb4 x30
  have x41 := cell_keep hb4 x31
  have x42 := cell_keep hb4 x32
  have x43 := cell_keep hb4 x33
  have x44 := cell_keep hb4 x34
  have l40 := cell_keep hb4 l30
  have l41 := cell_keep hb4 l31
  clear hb4 hs4 hown4 hre' hu hf4 q3 x30 x31 x32 x33 x34 l30 l31 HB3 HF3
  go_wp2_with fail
  refine specComp_u _ ss e _ (HH.out.keep HB4.out) hl HL.out fun v5 cs w5 hb5 hcs hown5 => ?_
  obtain ⟨hcl, hcg⟩ := hcs.get HF.out.1 HF.out.2.1
  obtain ⟨g5, c5, hv5, _, _⟩ := hown5.form (by omega)
  subst hv5
  rw [hcl] at hown5
  have HCC5 : Hid (∀ i, i < ss.length → w5.cell? ⟨g5, i, none⟩ = some (.bool (cF e ss i))) := fun i hi => by
    have a1 := (World.ownsRow.cellAt hown5 i (by omega)).trans (show (cs.map Value.bool)[i]? = some (.bool (cs.getD i false)) by
      have : i < cs.length := by omega
      simp [this])
    rw [hcg i hi, ← cF_get hi] at a1
    exact a1
  have HFD5 : Hid (BoolF w2.heap.size w5 gd kd ss.length d) := HFD4.out.keep hb5
  have HFU5 : Hid (BoolF w3.heap.size w5 gu ku ss.length u) := HFU4.out.keep hb5
  have HB5 : Hid (Below w.heap.size w w5) := HB4.out.trans (hb5.mono HB4.out.size)
  have q5 := cell_keep hb5 q4
  have x50 := cell_keep hb5 x40
  have x51 := cell_keep hb5 x41
  have x52 := cell_keep hb5 x42
  have x53 := cell_keep hb5 x43
  have x54 := cell_keep hb5 x44
  have l50 := cell_keep hb5 l40
  have l51 := cell_keep hb5 l41
  clear hb5 hcs hown5 hcg q4 x40 x41 x42 x43 x44 l40 l41 HB4 HFD4 HFU4
  rw [hcl]
  clear hcl
  go_wp2_with fail
  refine specHeld_any _ _ _ ss e ps ts _ (HH.out.keep HB5.out) hl HL.out (HP.out.keep HB5.out) (HT.out.keep HB5.out) HF.out fun gh kh rs2 hh w6 hb6 hre6 hhe hf6 => ?_
  obtain rfl : rs2 = rs' := hre6.unique HRE.out
  have HIF : Hid (PlaceOkP ss e ps ts ↔ ∀ i, i < ss.length → admB d u hh (cF e ss) (fun j => ps.getD j false) (fun j => ts.getD j false) i = true) := PlaceOkP.of HF.out HRE.out HD.out HU.out hhe
  have HFD6 : Hid (BoolF w2.heap.size w6 gd kd ss.length d) := HFD5.out.keep hb6
  have HFU6 : Hid (BoolF w3.heap.size w6 gu ku ss.length u) := HFU5.out.keep hb6
  have HFH6 : Hid (BoolF w5.heap.size w6 gh kh ss.length hh) := hf6
  have HCC6 : Hid (∀ i, i < ss.length → w6.cell? ⟨g5, i, none⟩ = some (.bool (cF e ss i))) := fun i hi => cell_keep hb6 (HCC5.out i hi)
  have HB6 : Hid (Below w.heap.size w w6) := HB5.out.trans (hb6.mono HB5.out.size)
  have q6 := cell_keep hb6 q5
  have l60 := cell_keep hb6 l50
  have l61 := cell_keep hb6 l51
  obtain rfl := HPA.out (by have := HF.out.2.2.1; omega)
  obtain rfl := HTA.out (by have := HF.out.2.2.2; omega)
  clear hb6 hre6 hhe hf6 q5 x50 x51 x52 x53 x54 l50 l51 HB5 HFD5 HFU5 HCC5 HRE HD HU
  go_wp2_with fail
  go_loop [11] (fun i => ∃ k : Nat, k ≤ ss.length ∧ i = .int .i64 k ∧ ∀ j, j < k → admB d u hh (cF e ss) (fun j => ps.getD j false) (fun j => ts.getD j false) j = true) (fun i => ss.length - (intOf i).toNat)
  case atStart => exact ⟨0, Nat.zero_le _, rfl, by omega⟩
  case round =>
    obtain ⟨k, hk, rfl, hall⟩ := hrel
    have HALL : Hid (∀ j, j < k → admB d u hh (cF e ss) (fun j => ps.getD j false) (fun j => ts.getD j false) j = true) := hall
    clear hall
    by_cases hkn : k < ss.length
    · have hki : (k : Int) < (ss.length : Int) := by omega
      have hkp : (k : Int) < (ps.length : Int) := by have := HF.out.2.2.1; omega
      have hkt : (k : Int) < (ts.length : Int) := by have := HF.out.2.2.2; omega
      have m0 := cell_keep HB6.out (HPC.out k (by have := HF.out.2.2.1; omega))
      have m1 := cell_keep HB6.out (HTC.out k (by have := HF.out.2.2.2; omega))
      have cd := HFD6.out.cell hkn
      have cu := HFU6.out.cell hkn
      have ch := HFH6.out.cell hkn
      have cc := HCC6.out k hkn
      have HDEF : Hid (admB d u hh (cF e ss) (fun j => ps.getD j false) (fun j => ts.getD j false) k = !((ps.getD k false && !d k && !u k) || (ts.getD k false && !(cF e ss k && hh k)))) := rfl
      have HNX : Hid (admB d u hh (cF e ss) (fun j => ps.getD j false) (fun j => ts.getD j false) k = true → ∀ j, j < k + 1 → admB d u hh (cF e ss) (fun j => ps.getD j false) (fun j => ts.getD j false) j = true) := fun h j hj => by
        by_cases e1 : j = k
        · subst e1; exact h
        · exact HALL.out j (by omega)
      have HNO : Hid (admB d u hh (cF e ss) (fun j => ps.getD j false) (fun j => ts.getD j false) k = false → (false = true ↔ PlaceOkP ss e ps ts)) := fun h => ⟨(fun e => by cases e), fun e => by have := HIF.out.1 e k hkn; rw [h] at this; cases this⟩
      clear HALL
      obtain ⟨ad, had⟩ : ∃ ad, admB d u hh (cF e ss) (fun j => ps.getD j false) (fun j => ts.getD j false) k = ad := ⟨_, rfl⟩
      have hdef := HDEF.out
      rw [had] at hdef
      have hnx := HNX.out
      have hno := HNO.out
      rw [had] at hnx hno
      obtain ⟨pk, hpk⟩ : ∃ pk, ps.getD k false = pk := ⟨_, rfl⟩
      obtain ⟨tk, htk⟩ : ∃ tk, ts.getD k false = tk := ⟨_, rfl⟩
      obtain ⟨dk, hdk⟩ : ∃ dk, d k = dk := ⟨_, rfl⟩
      obtain ⟨uk, huk⟩ : ∃ uk, u k = uk := ⟨_, rfl⟩
      obtain ⟨hk', hhk⟩ : ∃ hk', hh k = hk' := ⟨_, rfl⟩
      obtain ⟨ck, hck⟩ : ∃ ck, cF e ss k = ck := ⟨_, rfl⟩
      rw [hpk, hdk, huk, htk, hck, hhk] at hdef
      rw [hpk] at m0
      rw [htk] at m1
      rw [hdk] at cd
      rw [huk] at cu
      rw [hhk] at ch
      rw [hck] at cc
      have HNX2 : Hid _ := hnx
      have HNO2 : Hid _ := hno
      have HDF : Hid _ := hdef
      clear hnx hno HNX HNO HDEF had hpk htk hdk huk hhk hck hdef
      cases pk <;> cases dk <;> cases uk <;> cases tk <;> cases ck <;> cases hk'
      all_goals
        have hdef := HDF.out
        (try simp at hdef)
        subst hdef
        first
        | (have HN : Hid _ := HNX2.out rfl
           clear HNX2 HNO2 HDF
           go_wp2
           go_round
           case rel => exact ⟨k + 1, by omega, by go_num, HN.out⟩
           case measure => simp [intOf]; omega)
        | (have HN : Hid _ := HNO2.out rfl
           clear HNX2 HNO2 HDF
           go_wp2
           exact HQ.out _ _ HB6.out HN.out)
    · have hki : ¬ (k : Int) < (ss.length : Int) := by omega
      obtain rfl : k = ss.length := by omega
      have HN : Hid (PlaceOkP ss e ps ts) := HIF.out.2 HALL.out
      go_wp2
      exact HQ.out _ _ HB6.out ⟨fun _ => HN.out, fun _ => rfl⟩
end Go.Proofs.YtacgfbcfkjflmaaGreat
