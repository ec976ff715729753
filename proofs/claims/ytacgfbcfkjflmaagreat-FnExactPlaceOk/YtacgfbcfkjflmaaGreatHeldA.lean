/- The program's view.admits and PlaceOk. -/
import Derived.Test.YtacgfbcfkjflmaaGreatHeldT
namespace Go.Proofs.YtacgfbcfkjflmaaGreat
open Go.RowKit

set_option maxRecDepth 100000 in
set_option maxHeartbeats 8000000 in
theorem admits_any {Q : Ending → World → Prop} {w : World} {V : Nat} {ss : List St} {e : E5} {ord : List Nat} {rs : List Bool} {A : Option Addr} {c og oc : Nat} {pv : Value} {bc bk : BitVec 64} (h : VS w V ss e ord rs A c og oc pv bc bk) (ps ts : List Bool) (hfm : FormP ss e ps ts) (M : Nat) (hm : MRow w M 103 ss.length (fun j => ps.getD j false) (fun j => ts.getD j false))
    (hQ : ∀ (b : Bool) W', Below w.heap.size w W' → (b = true ↔ PlaceOkP ss e ps ts) → Q (.returned (.bool b)) W') :
    Calls Tryz.prog 51 #[.pointer (some ⟨V, 0, none⟩), .slice (some ⟨M, 0, none⟩) ss.length ss.length] w Q := by
  have HQ : Hid _ := hQ
  have HV : Hid (VS w V ss e ord rs A c og oc pv bc bk) := h
  have HFM : Hid (FormP ss e ps ts) := hfm
  have HOK : Hid (okB ss = true) := hfm.1
  have HM : Hid (MRow w M 103 ss.length (fun j => ps.getD j false) (fun j => ts.getD j false)) := hm
  have hn := (ok_len hfm.1).2
  clear hQ h hfm hm
  go_enter Tryz.func51, Tryz.ntmps51
  go_wp2_with fail
  refine down_any HV.out HOK.out fun d D w1 hb1 hD hd hrd => ?_
  have HB1 : Hid (Below w.heap.size w w1) := hb1
  have HD : Hid (IsDown ss e rs d) := hd
  have HRD1 : Hid (w1.rowIs D 4 ss.length (fun j => .bool (d j))) := hrd
  clear hb1 hD hd hrd
  go_wp2_with fail
  refine up_any (HV.out.keep HB1.out) HOK.out fun u U w2 hb2 hU hu hru => ?_
  have HB2 : Hid (Below w.heap.size w w2) := HB1.out.trans (hb2.mono HB1.out.size)
  have HU : Hid (IsUp ss e rs u) := hu
  have HRD2 : Hid (w2.rowIs D 4 ss.length (fun j => .bool (d j))) := rowIs_keep HRD1.out hb2
  have HRU2 : Hid (w2.rowIs U 4 ss.length (fun j => .bool (u j))) := hru
  clear hb2 hU hu hru HRD1
  go_wp2_with fail
  refine held_any (HV.out.keep HB2.out) HOK.out M (fun j => ps.getD j false) (fun j => ts.getD j false) (HM.out.keep HB2.out) fun hh Hb w3 hb3 hH hhe hrh => ?_
  have HB3 : Hid (Below w.heap.size w w3) := HB2.out.trans (hb3.mono HB2.out.size)
  have HRD3 : Hid (w3.rowIs D 4 ss.length (fun j => .bool (d j))) := rowIs_keep HRD2.out hb3
  have HRU3 : Hid (w3.rowIs U 4 ss.length (fun j => .bool (u j))) := rowIs_keep HRU2.out hb3
  have HRH3 : Hid (w3.rowIs Hb 4 ss.length (fun j => .bool (hh j))) := hrh
  have HM3 : Hid (MRow w3 M 103 ss.length (fun j => ps.getD j false) (fun j => ts.getD j false)) := (HM.out.keep HB2.out).keep hb3
  have HV3 : Hid (VS w3 V ss e ord rs A c og oc pv bc bk) := (HV.out.keep HB2.out).keep hb3
  have HIF : Hid (PlaceOkP ss e ps ts ↔ ∀ i, i < ss.length → admB d u hh (cF e ss) (fun j => ps.getD j false) (fun j => ts.getD j false) i = true) := PlaceOkP.of HFM.out HV.out.re HD.out HU.out hhe
  clear hb3 hH hhe hrh HRD2 HRU2 HM HV HB2 HB1
  go_wp2_with fail
  go_loopw [19] (fun i wr => ∃ k : Nat, k ≤ ss.length ∧ i = .int .i64 k ∧ Below w3.heap.size w3 wr ∧ ∀ j, j < k → admB d u hh (cF e ss) (fun j => ps.getD j false) (fun j => ts.getD j false) j = true) (fun i _ => ss.length - (intOf i).toNat)
  case atStart => exact ⟨0, Nat.zero_le _, rfl, Below.refl _ _, by omega⟩
  case round =>
    obtain ⟨k, hk, rfl, hbr, hall⟩ := hrel
    have HBR : Hid (Below w3.heap.size w3 wr) := hbr
    have HBW : Hid (Below w.heap.size w wr) := HB3.out.trans (hbr.mono HB3.out.size)
    have HALL : Hid (∀ j, j < k → admB d u hh (cF e ss) (fun j => ps.getD j false) (fun j => ts.getD j false) j = true) := hall
    clear hall
    by_cases hkn : k < ss.length
    · have hki : (k : Int) < (ss.length : Int) := by omega
      have m0 := cell_keep hbr (HM3.out.put hkn)
      have m1 := cell_keep hbr (HM3.out.take hkn)
      have cd := cell_keep hbr (HRD3.out.cell hkn)
      have cu := cell_keep hbr (HRU3.out.cell hkn)
      have ch := cell_keep hbr (HRH3.out.cell hkn)
      have cc := cell_keep hbr HV3.out.c3
      have lM := cell_lt m0
      have lD := cell_lt cd
      have lU := cell_lt cu
      have lH := cell_lt ch
      have lV := cell_lt cc
      simp only at lM lD lU lH lV
      have HAL : Hid (∀ O, Below w3.heap.size w3 (wr.alloc O)) := fun O => HBR.out.alloc HBR.out.size O
      have HAW : Hid (∀ O, Below w.heap.size w (wr.alloc O)) := fun O => HBW.out.alloc HBW.out.size O
      have HDEF : Hid (admB d u hh (cF e ss) (fun j => ps.getD j false) (fun j => ts.getD j false) k = !((ps.getD k false && !d k && !u k) || (ts.getD k false && !(cF e ss k && hh k)))) := rfl
      have HNX : Hid (admB d u hh (cF e ss) (fun j => ps.getD j false) (fun j => ts.getD j false) k = true → ∀ j, j < k + 1 → admB d u hh (cF e ss) (fun j => ps.getD j false) (fun j => ts.getD j false) j = true) := fun h j hj => by
        by_cases e1 : j = k
        · subst e1; exact h
        · exact HALL.out j (by omega)
      have HNO : Hid (admB d u hh (cF e ss) (fun j => ps.getD j false) (fun j => ts.getD j false) k = false → (false = true ↔ PlaceOkP ss e ps ts)) := fun h => ⟨(fun e => by cases e), fun e => by have := HIF.out.1 e k hkn; rw [h] at this; cases this⟩
      clear hbr HALL
      obtain ⟨ad, had⟩ : ∃ ad, admB d u hh (cF e ss) (fun j => ps.getD j false) (fun j => ts.getD j false) k = ad := ⟨_, rfl⟩
      have hdef := HDEF.out
      rw [had] at hdef
      have hnx := HNX.out
      have hno := HNO.out
      rw [had] at hnx hno
      obtain ⟨pk, hpk⟩ : ∃ pk, ps.getD k false = pk := ⟨_, rfl⟩
      obtain ⟨tk, htk⟩ : ∃ tk, ts.getD k false = tk := ⟨_, rfl⟩
      obtain ⟨dk, hdk⟩ : ∃ dk, d k = dk := ⟨_, rfl⟩
      obtain ⟨uk, huk⟩ : ∃ uk, u k = uk := ⟨_, rfl⟩
      obtain ⟨hk', hhk⟩ : ∃ hk', hh k = hk' := ⟨_, rfl⟩
      obtain ⟨ck, hck⟩ : ∃ ck, cF e ss k = ck := ⟨_, rfl⟩
      rw [hpk, hdk, huk, htk, hck, hhk] at hdef
      rw [hpk] at m0
      rw [htk] at m1
      rw [hdk] at cd
      rw [huk] at cu
      rw [hhk] at ch
      have HNX2 : Hid _ := hnx
      have HNO2 : Hid _ := hno
      have HCK : Hid (cF e ss k = ck) := hck
      clear hnx hno HNX HNO HDEF had hpk htk hdk huk hhk hck
      generalize wr = W5 at *
      have key : ∀ (P : Prop), P → P := fun _ h => h
      cases pk <;> cases dk <;> cases uk <;> cases tk <;> (try simp at hdef)
      all_goals
        first
        | (subst hdef
           have HN : Hid _ := HNX2.out rfl
           clear HNX2 HNO2 key
           go_wp2
           go_roundw
           case rel => exact ⟨k + 1, by omega, by go_num, HAL.out _, HN.out⟩
           case measure => simp [intOf]; omega)
        | (subst hdef
           have HN : Hid _ := HNO2.out rfl
           clear HNX2 HNO2 key
           go_wp2
           exact HQ.out _ _ (HAW.out _) HN.out)
        | (go_wp2_with fail
           refine has_c HV3.out.cw HOK.out k hkn _ ?_
           rw [HCK.out]
           clear HCK key
           cases ck
           · (try simp at hdef)
             subst hdef
             have HN : Hid _ := HNO2.out rfl
             clear HNX2 HNO2
             go_wp2
             exact HQ.out _ _ (HAW.out _) HN.out
           · cases hk'
             · (try simp at hdef)
               subst hdef
               have HN : Hid _ := HNO2.out rfl
               clear HNX2 HNO2
               go_wp2
               exact HQ.out _ _ (HAW.out _) HN.out
             · (try simp at hdef)
               subst hdef
               have HN : Hid _ := HNX2.out rfl
               clear HNX2 HNO2
               go_wp2
               go_roundw
               case rel => exact ⟨k + 1, by omega, by go_num, HAL.out _, HN.out⟩
               case measure => simp [intOf]; omega)
    · have hki : ¬ (k : Int) < (ss.length : Int) := by omega
      obtain rfl : k = ss.length := by omega
      have HN : Hid (PlaceOkP ss e ps ts) := HIF.out.2 HALL.out
      clear hbr
      go_wp2
      exact HQ.out _ _ HBW.out ⟨fun _ => HN.out, fun _ => rfl⟩

set_option maxRecDepth 100000 in
set_option maxHeartbeats 4000000 in
theorem implPlaceOk_any {Q : Ending → World → Prop} (v x1 x2 : Value) (ss : List St) (e : E5) (ps ts : List Bool) (w : World) (h : StepsAt w v ss) (hl : ss.length ≤ 1048576) (hls : ∀ s ∈ ss, s.next.length ≤ 1048576) (hp : BoolsAt w x1 ps) (ht : BoolsAt w x2 ts)
    (hQ : ∀ (b : Bool) w', Below w.heap.size w w' → (b = true ↔ PlaceOkP ss e ps ts) → Q (.returned (.bool b)) w') :
    Calls Tryz.prog 20 #[.agg #[v], .agg #[.int .i64 e.op, .int .i64 e.av, .int .i64 e.an, .int .i64 e.bv, .int .i64 e.bn], .agg #[x1, x2]] w Q := by
  have HQ : Hid _ := hQ
  clear hQ
  obtain ⟨ao, b, o, cap, rfl, _, _⟩ := id h
  obtain ⟨po, pb, pof, pcap, rfl, _, _⟩ := id hp
  obtain ⟨tp, tb, tof, tcap, rfl, _, _⟩ := id ht
  have HH : Hid (StepsAt w (.slice ao ss.length cap) ss) := h
  have HL : Hid (∀ s ∈ ss, s.next.length ≤ 1048576) := hls
  have HP : Hid (BoolsAt w (.slice po ps.length pcap) ps) := hp
  have HT : Hid (BoolsAt w (.slice tp ts.length tcap) ts) := ht
  clear h hls hp ht
  have hb0 : ∀ O O' O'', Below w.heap.size w (((w.alloc O).alloc O').alloc O'') := fun O O' O'' => (((Below.refl _ _).alloc (Nat.le_refl _) O).alloc (by simp) O').alloc (by simp; omega) O''
  go_enter Tryz.func20, Tryz.ntmps20
  go_wp2_with fail
  refine movesOf_any _ _ _ ss e ps ts _ (HH.out.keep (hb0 _ _ _)) hl HL.out (HP.out.keep (hb0 _ _ _)) (HT.out.keep (hb0 _ _ _)) (fun B w2 hb2 hB hf hm => ?_) (fun w2 hb2 hf => ?_)
  · have HB2 : Hid (Below w.heap.size w w2) := (hb0 _ _ _).trans (hb2.mono (by simp; omega))
    have q2 : w2.cell? ⟨w.heap.size, 0, none⟩ = some (.slice ao ss.length cap) := cell_keep hb2 (by simp [go_sem])
    have x0 : w2.cell? ⟨w.heap.size + 1, 0, none⟩ = some (.int .i64 e.op) := cell_keep hb2 (by simp [go_sem])
    have x1 : w2.cell? ⟨w.heap.size + 1, 1, none⟩ = some (.int .i64 e.av) := cell_keep hb2 (by simp [go_sem])
    have x2 : w2.cell? ⟨w.heap.size + 1, 2, none⟩ = some (.int .i64 e.an) := cell_keep hb2 (by simp [go_sem])
    have x3 : w2.cell? ⟨w.heap.size + 1, 3, none⟩ = some (.int .i64 e.bv) := cell_keep hb2 (by simp [go_sem])
    have x4 : w2.cell? ⟨w.heap.size + 1, 4, none⟩ = some (.int .i64 e.bn) := cell_keep hb2 (by simp [go_sem])
    have HF : Hid (FormP ss e ps ts) := hf
    have HM : Hid (MRow w2 B 103 ss.length (fun j => ps.getD j false) (fun j => ts.getD j false)) := hm
    clear hb2 hb0 hB hf hm
    go_wp2_with fail
    refine viewOf_any ao cap ss e _ (HH.out.keep HB2.out) HF.out.1 HF.out.2.1 fun V ord rs og oc pv bc bk w3 hb3 hv3 => ?_
    have HB3 : Hid (Below w.heap.size w w3) := HB2.out.trans (hb3.mono HB2.out.size)
    have HV3 : Hid _ := hv3
    have HM3 : Hid (MRow w3 B 103 ss.length (fun j => ps.getD j false) (fun j => ts.getD j false)) := HM.out.keep hb3
    clear hb3 hv3 HM q2 x0 x1 x2 x3 x4 HB2
    go_wp2_with fail
    refine admits_any HV3.out ps ts HF.out B HM3.out fun bb w4 hb4 hbb => ?_
    have HB4 : Hid (Below w.heap.size w w4) := HB3.out.trans (hb4.mono HB3.out.size)
    have HBB : Hid (bb = true ↔ PlaceOkP ss e ps ts) := hbb
    clear hb4 hbb HM3 HV3 HB3
    go_wp2
    exact HQ.out _ _ HB4.out HBB.out
  · have HB2 : Hid (Below w.heap.size w w2) := (hb0 _ _ _).trans (hb2.mono (by simp; omega))
    have HC : Hid (false = true ↔ PlaceOkP ss e ps ts) := ⟨(fun e => by cases e), fun e => absurd e.1 hf⟩
    clear hb2 hb0 hf
    go_wp2
    exact HQ.out _ _ HB2.out HC.out
end Go.Proofs.YtacgfbcfkjflmaaGreat
