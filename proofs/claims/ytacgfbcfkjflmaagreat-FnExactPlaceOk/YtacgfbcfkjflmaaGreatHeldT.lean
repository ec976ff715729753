/- The program's view.held, view.admits and PlaceOk. -/
import Derived.Test.YtacgfbcfkjflmaaGreatHeldP
import Derived.Test.YtacgfbcfkjflmaaGreatMovesOf
import Derived.Test.YtacgfbcfkjflmaaGreatSafeT
namespace Go.Proofs.YtacgfbcfkjflmaaGreat
open Go.RowKit

set_option maxRecDepth 100000 in
set_option maxHeartbeats 2000000 in
theorem heldFrom_any {Q : Ending → World → Prop} {w W : World} {V : Nat} {ss : List St} {e : E5} {ord : List Nat} {rs : List Bool} {A : Option Addr} {c og oc : Nat} {pv : Value} {bc bk : BitVec 64} (h : VS w V ss e ord rs A c og oc pv bc bk) (hb : Below w.heap.size w W) (hok : okB ss = true) (VB : Nat) (hVB : w.cell? ⟨VB, 0, none⟩ = some (.pointer (some ⟨V, 0, none⟩)))
    (SB B : Nat) (so : Nat → Bool) (x : Int) (h0 : 0 ≤ x) (h1 : x < (ss.length : Int)) (hs : W.cell? ⟨SB, 0, none⟩ = some (.slice (some ⟨B, 0, none⟩) ss.length ss.length)) (hr : W.rowIs B 4 ss.length (fun j => .bool (so j)))
    (hQ : Q (.returned (.bool (kF e ss x.toNat && so x.toNat))) W) :
    Calls Tryz.prog 140 #[.int .i64 x, .pointer (some ⟨VB, 0, none⟩), .pointer (some ⟨SB, 0, none⟩)] W Q := by
  have HQ : Hid _ := hQ
  have HV : Hid (VS w V ss e ord rs A c og oc pv bc bk) := h
  have HOK : Hid (okB ss = true) := hok
  have hv := h.keep hb
  have c4 := hv.c4
  have cv := cell_keep hb hVB
  obtain ⟨m, rfl⟩ := Int.eq_ofNat_of_zero_le h0
  have hm : m < ss.length := by omega
  have hc := hr.cell (i := m) hm
  rw [show ((m : Int)).toNat = m from rfl] at HQ
  clear hQ hr h0 h hok hv hb hVB
  go_enter Tryz.func140, Tryz.ntmps140
  go_wp2_with fail
  refine has_k HV.out.kw HOK.out m hm _ ?_
  cases hk : kF e ss m
  · rw [hk, Bool.false_and] at HQ
    clear hk
    go_wp2
    exact HQ.out
  · rw [hk, Bool.true_and] at HQ
    clear hk
    generalize so m = z at *
    go_wp2
    exact HQ.out

set_option maxRecDepth 100000 in
set_option maxHeartbeats 2000000 in
theorem held_asks {w : World} {V : Nat} {ss : List St} {e : E5} {ord : List Nat} {rs : List Bool} {A : Option Addr} {c og oc : Nat} {pv : Value} {bc bk : BitVec 64} (h : VS w V ss e ord rs A c og oc pv bc bk) (hok : okB ss = true) (VB EB M : Nat) (p t : Nat → Bool) (hVB : w.cell? ⟨VB, 0, none⟩ = some (.pointer (some ⟨V, 0, none⟩)))
    (hEB : w.cell? ⟨EB, 0, none⟩ = some (.slice (some ⟨M, 0, none⟩) ss.length ss.length)) (hre : MRow w M 103 ss.length p t) :
    Asks ss.length (rF rs) 139 #[.pointer (some ⟨EB, 0, none⟩), .pointer (some ⟨VB, 0, none⟩)] w (heldF (kF e ss) p (pF ss rs)) := by
  intro W x B so hb hB hx hr hrow Q hQ
  show Calls Tryz.prog _ #[.int .i64 (x : Int), .slice (some ⟨B, 0, none⟩) ss.length ss.length, .pointer (some ⟨EB, 0, none⟩), .pointer (some ⟨VB, 0, none⟩)] W Q
  have HQ : Hid _ := hQ
  have HV : Hid (VS w V ss e ord rs A c og oc pv bc bk) := h
  have HOK : Hid (okB ss = true) := hok
  have HB : Hid (Below w.heap.size w W) := hb
  have HR : Hid (W.rowIs B 4 ss.length (fun j => .bool (so j))) := hrow
  have HVB : Hid (w.cell? ⟨VB, 0, none⟩ = some (.pointer (some ⟨V, 0, none⟩))) := hVB
  have cv := cell_keep hb hVB
  have ce := cell_keep hb hEB
  have de := cell_keep hb (hre.put (j := x) hx)
  have hVBl := cell_lt cv
  have hEBl := cell_lt ce
  have hEl := cell_lt de
  simp only at hVBl hEBl hEl
  have hn := (ok_len hok).2
  have hxi : (x : Int) < (ss.length : Int) := by omega
  have HLW : Hid (Low ss.length (pF ss rs)) := low_preds ss rs
  have hpl : (pF ss rs x).length ≤ 60 := Nat.le_trans (predsK_len _ _ _ _) hn
  clear hQ h hok hb hrow hVB hEB hre
  have HA : Hid (∀ O, Below W.heap.size W (W.alloc O)) := fun O => (Below.refl _ _).alloc (Nat.le_refl _) O
  have hmf : ∀ (fn : Fn) (first cap : Array Value) (w : World), (Instr.makeFunc fn first cap).run Tryz.prog w = .ok (.func fn first cap) w := fun _ _ _ _ => rfl
  cases he : p x
  · rw [he] at de
    by_cases h0 : x = 0
    · have HF : Hid (heldF (kF e ss) p (pF ss rs) so x = false) := by subst h0; simp [Hid, heldF, he]
      rw [HF.out] at HQ
      clear he
      subst h0
      go_enter Tryz.func139, Tryz.ntmps139
      go_wp2
      exact HQ.out _ (HA.out _)
    · have HF : Hid (heldF (kF e ss) p (pF ss rs) so x = allI (pF ss rs x) (fun m => kF e ss m && so m)) := by simp [Hid, heldF, he, h0]
      have h0i : ((x : Int) != 0) = true := by simp [h0]
      have h0j : ¬ (x : Int) = 0 := by omega
      rw [HF.out] at HQ
      clear he
      go_enter Tryz.func139, Tryz.ntmps139
      go_wp2_with fail
      refine aheadOf_any (w0 := w) (HB.out.trans ((HA.out _).mono HB.out.size)) HV.out x hx fun nv hnv => ?_
      have HN : Hid (IntsAt w nv (pF ss rs x)) := hnv
      clear hnv
      go_wp2_with fail
      refine all_any 140 #[.pointer (some ⟨VB, 0, none⟩), .pointer (some ⟨W.heap.size, 0, none⟩)] (enters_of Tryz.func140 (by kernel_rfl) rfl) _ (pF ss rs x) (fun m => kF e ss m && so m) _ ((HN.out.keep HB.out).keep (HA.out _)) (fun y hy => (HLW.out x hx y hy).1) (by omega) (fun W' y hb' hy Q' hq => ?_) fun W2 hb2 => ?_
      · have hl := HLW.out x hx y hy
        have hbw : Below w.heap.size w W' := HB.out.trans (((HA.out _).trans (hb'.mono (by simp))).mono HB.out.size)
        exact heldFrom_any HV.out hbw HOK.out VB HVB.out W.heap.size B so y hl.1 hl.2 (cell_keep hb' (by simp [go_sem])) (rowIs_keep (rowIs_keep HR.out (HA.out _)) hb') (hq _ (Below.refl _ _))
      · have HF2 : Hid (Below W.heap.size W W2) := (HA.out _).trans (hb2.mono (by simp))
        clear hb2
        go_wp2
        exact HQ.out _ HF2.out
  · have HF : Hid (heldF (kF e ss) p (pF ss rs) so x = true) := by simp [Hid, heldF, he]
    rw [he] at de
    rw [HF.out] at HQ
    clear he
    go_enter Tryz.func139, Tryz.ntmps139
    go_wp2
    exact HQ.out _ (HA.out _)

set_option maxRecDepth 100000 in
set_option maxHeartbeats 4000000 in
theorem held_any {Q : Ending → World → Prop} {w : World} {V : Nat} {ss : List St} {e : E5} {ord : List Nat} {rs : List Bool} {A : Option Addr} {c og oc : Nat} {pv : Value} {bc bk : BitVec 64} (h : VS w V ss e ord rs A c og oc pv bc bk) (hok : okB ss = true) (M : Nat) (p t : Nat → Bool) (hm : MRow w M 103 ss.length p t)
    (hQ : ∀ f B W', Below w.heap.size w W' → w.heap.size ≤ B → IsHeld ss e rs p f → W'.rowIs B 4 ss.length (fun j => .bool (f j)) → Q (.returned (.slice (some ⟨B, 0, none⟩) ss.length ss.length)) W') :
    Calls Tryz.prog 94 #[.pointer (some ⟨V, 0, none⟩), .slice (some ⟨M, 0, none⟩) ss.length ss.length] w Q := by
  have HQ : Hid _ := hQ
  have HV : Hid (VS w V ss e ord rs A c og oc pv bc bk) := h
  have HOK : Hid (okB ss = true) := hok
  have HM : Hid (MRow w M 103 ss.length p t) := hm
  clear hQ h hok hm
  have HA : Hid (∀ O O', Below w.heap.size w ((w.alloc O).alloc O')) := fun O O' => ((Below.refl _ _).alloc (Nat.le_refl _) O).alloc (by simp) O'
  have hmf : ∀ (fn : Fn) (first cap : Array Value) (w : World), (Instr.makeFunc fn first cap).run Tryz.prog w = .ok (.func fn first cap) w := fun _ _ _ _ => rfl
  go_enter Tryz.func94, Tryz.ntmps94
  go_wp2_with fail
  refine mostByAhead_any (HV.out.keep (HA.out _ _)) HOK.out 139 #[.pointer (some ⟨w.heap.size + 1, 0, none⟩), .pointer (some ⟨w.heap.size, 0, none⟩)] (enters_of Tryz.func139 (by kernel_rfl) rfl) _ (heldF_mono (k := kF e ss) (p := p) (low_preds ss rs)) (fun x i g hi hx => heldF_off (low_preds ss rs) hi hx) (held_asks (HV.out.keep (HA.out _ _)) HOK.out w.heap.size (w.heap.size + 1) M p t (by simp [go_sem]) (by simp [go_sem]) (HM.out.keep (HA.out _ _))) fun g B W' hb' hB hg hr => ?_
  have HB : Hid (Below w.heap.size w W') := (HA.out _ _).trans (hb'.mono (by simp; omega))
  have HG : Hid (IsHeld ss e rs p g) := hg
  have HR : Hid (W'.rowIs B 4 ss.length (fun j => .bool (g j))) := hr
  have hB2 : w.heap.size ≤ B := by simp at hB; omega
  clear hb' hg hr hB
  go_wp2
  exact HQ.out g B _ HB.out hB2 HG.out HR.out
end Go.Proofs.YtacgfbcfkjflmaaGreat
