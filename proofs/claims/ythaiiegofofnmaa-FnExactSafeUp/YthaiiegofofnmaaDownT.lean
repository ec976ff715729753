/- The program's all, over whatever function value. The program's SafeDown: what is asked of a step, by closures; the solver over those behind; the view's down. -/
import Derived.Test.YthaiiegofofnmaaSafeP
import Derived.Test.YthaiiegofofnmaaChecked
import Derived.Test.YthaiiegofofnmaaViewT
import Derived.Shelf.Abstract
import Derived.Deep.RegionHeld3
namespace Go.Proofs.Ythaiiegofofnmaa
open Go.RowKit

set_option maxRecDepth 100000 in
set_option maxHeartbeats 2000000 in
theorem all_any {Q : Ending → World → Prop} (g : Nat) (lb : Array Value) (eg : ∀ args w, (callFunc g args).run Try.prog w = .ok (.enter g args) w) (v : Value) (zs : List Int) (f : Nat → Bool) (w : World) (h : IntsAt w v zs) (hz : ∀ x ∈ zs, 0 ≤ x) (hl : zs.length ≤ 1000)
    (hp : ∀ W x, Below w.heap.size w W → x ∈ zs → ∀ {Q' : Ending → World → Prop}, (∀ W', Below W.heap.size W W' → Q' (.returned (.bool (f x.toNat))) W') → Calls Try.prog g (#[.int .i64 x] ++ lb) W Q')
    (hQ : ∀ W', Below w.heap.size w W' → Q (.returned (.bool (allI zs f))) W') :
    Calls Try.prog 45 #[v, .func (.func g) #[] lb] w Q := by
  have HQ : Hid _ := hQ
  have HP : Hid _ := @hp
  clear hQ hp
  obtain ⟨ao, b, o, cap, rfl, ha, hc⟩ := id h
  have HA : Hid (0 < zs.length → ao = some ⟨b, o, none⟩) := ha
  have HC : Hid _ := hc
  clear h ha hc
  go_enter Try.func45, Try.ntmps45
  go_wp2_with fail
  go_loopw [6, 9] (fun _ i wr => ∃ k : Nat, k ≤ zs.length ∧ i = .int .i64 k ∧ Below w.heap.size w wr ∧ ∀ j, j < k → f (zs.getD j 0).toNat = true) (fun _ i _ => zs.length - (intOf i).toNat)
  case atStart => exact ⟨0, Nat.zero_le _, rfl, Below.refl _ _, fun j hj => by omega⟩
  case round =>
    obtain ⟨k, hk, rfl, hbw, hf⟩ := hrel
    have HF : Hid (∀ j, j < k → f (zs.getD j 0).toNat = true) := hf
    have HB : Hid (Below w.heap.size w wr) := hbw
    by_cases hkn : k < zs.length
    · have hki : (k : Int) < (zs.length : Int) := by omega
      obtain rfl := HA.out (by omega)
      have c := cell_keep hbw (HC.out k hkn)
      have HM : Hid (zs.getD k 0 ∈ zs) := by
        rw [Hid, List.getD_eq_getElem?_getD, List.getElem?_eq_getElem hkn]
        exact List.getElem_mem hkn
      have HALL : Hid (f (zs.getD k 0).toNat = false → allI zs f = false) := fun h0 => by
        unfold allI
        rw [List.all_eq_false]
        exact ⟨_, HM.out, by simpa using h0⟩
      have HX : Hid (0 ≤ zs.getD k 0) := hz _ HM.out
      have HS : Hid (f (zs.getD k 0).toNat = true → ∀ j, j < k + 1 → f (zs.getD j 0).toNat = true) := fun h0 j hj => by
        by_cases e : j = k
        · subst e; exact h0
        · exact HF.out j (by omega)
      clear hbw hf
      generalize zs.getD k 0 = x at *
      go_wp2_with fail
      refine HP.out _ x HB.out HM.out fun w1 hb1 => ?_
      have HB1 : Hid (Below w.heap.size w w1) := HB.out.trans (hb1.mono HB.out.size)
      clear hb1
      cases hv : f x.toNat
      · have HR : Hid _ := HALL.out hv
        clear hv HS HALL
        go_wp2
        rw [HR.out] at HQ
        exact HQ.out _ HB1.out
      · have HR : Hid _ := HS.out hv
        clear hv HS HALL
        go_wp2
        go_roundw
        case rel => exact ⟨k + 1, by omega, by go_num, HB1.out, HR.out⟩
        case measure => simp [intOf]; omega
    · have hki : ¬ (k : Int) < (zs.length : Int) := by omega
      have HALL : Hid (allI zs f = true) := by
        unfold allI
        rw [Hid, List.all_eq_true]
        intro x hx
        obtain ⟨j, hj, e⟩ := List.getElem_of_mem hx
        have := HF.out j (by omega)
        rw [List.getD_eq_getElem?_getD, List.getElem?_eq_getElem hj] at this
        rw [← e]
        exact this
      rw [HALL.out] at HQ
      clear hbw hf
      go_wp2
      exact HQ.out _ HB.out
end Go.Proofs.Ythaiiegofofnmaa
namespace Go.Proofs.Ythaiiegofofnmaa
open Go.RowKit

theorem Asks.later {n : Nat} {r : Nat → Bool} {g : Nat} {lb : Array Value} {w W : World} {F : (Nat → Bool) → Nat → Bool} (h : Asks n r g lb w F) (hb : Below w.heap.size w W) : Asks n r g lb W F :=
  fun W' x B so hb' hB hx hr hrow _ hQ => h W' x B so (hb.trans (hb'.mono hb.size)) (Nat.le_trans hb.size hB) hx hr hrow hQ

set_option maxHeartbeats 1000000 in
theorem downSo_any {Q : Ending → World → Prop} (SB B n : Nat) (so : Nat → Bool) (x : Int) (W : World) (h0 : 0 ≤ x) (h1 : x < (n : Int)) (hs : W.cell? ⟨SB, 0, none⟩ = some (.slice (some ⟨B, 0, none⟩) n n)) (hr : W.rowIs B 4 n (fun j => .bool (so j)))
    (hQ : Q (.returned (.bool (so x.toNat))) W) :
    Calls Try.prog 46 #[.int .i64 x, .pointer (some ⟨SB, 0, none⟩)] W Q := by
  have HQ : Hid _ := hQ
  clear hQ
  obtain ⟨m, rfl⟩ := Int.eq_ofNat_of_zero_le h0
  have hm : m < n := by omega
  have hc := hr.cell (i := m) hm
  rw [show ((m : Int)).toNat = m from rfl] at HQ
  clear hr h0
  generalize so m = z at *
  go_enter Try.func46, Try.ntmps46
  go_wp2
  exact HQ.out

set_option maxRecDepth 100000 in
set_option maxHeartbeats 2000000 in
theorem down_asks {w : World} {V : Nat} {ss : List St} {e : E5} {ord : List Nat} {rs : List Bool} {A : Option Addr} {c og oc : Nat} {pv : Value} {bc bk : BitVec 64} (h : VS w V ss e ord rs A c og oc pv bc bk) (hok : okB ss = true) (VB : Nat) (hVB : w.cell? ⟨VB, 0, none⟩ = some (.pointer (some ⟨V, 0, none⟩))) :
    Asks ss.length (rF rs) 42 #[.pointer (some ⟨VB, 0, none⟩)] w (downF (cF e ss) (kF e ss) (nextOf ss)) := by
  intro W x B so hb hB hx hr hrow Q hQ
  show Calls Try.prog _ #[.int .i64 (x : Int), .slice (some ⟨B, 0, none⟩) ss.length ss.length, .pointer (some ⟨VB, 0, none⟩)] W Q
  have HQ : Hid _ := hQ
  have HV : Hid (VS w V ss e ord rs A c og oc pv bc bk) := h
  have HOK : Hid (okB ss = true) := hok
  have HB : Hid (Below w.heap.size w W) := hb
  have HR : Hid (W.rowIs B 4 ss.length (fun j => .bool (so j))) := hrow
  have hv := h.keep hb
  have c3 := hv.c3
  have c4 := hv.c4
  have cv := cell_keep hb hVB
  have hVl := cell_lt c3
  have hVBl := cell_lt cv
  simp only at hVl hVBl
  clear hQ h hok hb hrow hv hVB
  have HA : Hid (∀ O, Below W.heap.size W (W.alloc O)) := fun O => (Below.refl _ _).alloc (Nat.le_refl _) O
  go_enter Try.func42, Try.ntmps42
  go_wp2_with fail
  refine has_c HV.out.cw HOK.out x hx _ ?_
  cases hc : cF e ss x
  · go_wp2_with fail
    refine behind_any (w0 := w) (HB.out.trans ((HA.out _).mono HB.out.size)) HV.out x hx fun nv hnv => ?_
    obtain ⟨nao, nb, no, ncap, rfl, hna, hnc⟩ := id hnv
    have HN : Hid (IntsAt w (.slice nao (nextOf ss x).length ncap) (nextOf ss x)) := hnv
    clear hna hnc hnv
    have HLW : Hid (Low ss.length (nextOf ss)) := low_next HOK.out
    have hnl : (nextOf ss x).length ≤ 2 := next_len HOK.out hx
    go_wp2_with fail
    refine has_k HV.out.kw HOK.out x hx _ ?_
    cases hk : kF e ss x
    · have HF : Hid (downF (cF e ss) (kF e ss) (nextOf ss) so x = false) := by simp [Hid, downF, hc, hk]
      rw [HF.out] at HQ
      go_wp2
      exact HQ.out _ (HA.out _)
    · by_cases hl : (nextOf ss x).length = 0
      · have HF : Hid (downF (cF e ss) (kF e ss) (nextOf ss) so x = false) := by simp [Hid, downF, hc, hk, hl]
        have hli : ¬ (0 : Int) < ((nextOf ss x).length : Int) := by omega
        rw [HF.out] at HQ
        go_wp2
        exact HQ.out _ (HA.out _)
      · have HF : Hid (downF (cF e ss) (kF e ss) (nextOf ss) so x = allI (nextOf ss x) so) := by
          have : 0 < (nextOf ss x).length := by omega
          simp [Hid, downF, hc, hk, this]
        have hli : (0 : Int) < ((nextOf ss x).length : Int) := by omega
        rw [HF.out] at HQ
        clear hc hk
        go_wp2_with fail
        refine all_any 46 #[.pointer (some ⟨W.heap.size, 0, none⟩)] (enters_of Try.func46 (by kernel_rfl) rfl) _ (nextOf ss x) so _ ((HN.out.keep HB.out).keep (HA.out _)) (fun y hy => (HLW.out x hx y hy).1) (by omega) (fun W' y hb' hy Q' hq => ?_) fun W2 hb2 => ?_
        · have hl := HLW.out x hx y hy
          refine downSo_any W.heap.size B ss.length so y W' hl.1 hl.2 (cell_keep hb' (by simp [go_sem])) (rowIs_keep (rowIs_keep HR.out (HA.out _)) hb') (hq _ (Below.refl _ _))
        · have HF2 : Hid (Below W.heap.size W W2) := (HA.out _).trans (hb2.mono (by simp))
          clear hb2
          go_wp2
          exact HQ.out _ HF2.out
  · have HF : Hid (downF (cF e ss) (kF e ss) (nextOf ss) so x = true) := by simp [Hid, downF, hc]
    rw [HF.out] at HQ
    go_wp2
    exact HQ.out _ (HA.out _)

set_option maxRecDepth 100000 in
set_option maxHeartbeats 2000000 in
theorem mostByBehind_any {Q : Ending → World → Prop} {w : World} {V : Nat} {ss : List St} {e : E5} {ord : List Nat} {rs : List Bool} {A : Option Addr} {c og oc : Nat} {pv : Value} {bc bk : BitVec 64} (h : VS w V ss e ord rs A c og oc pv bc bk) (hok : okB ss = true) (ga : Nat) (lb : Array Value) (ea : ∀ args w, (callFunc ga args).run Try.prog w = .ok (.enter ga args) w)
    (F : (Nat → Bool) → Nat → Bool) (hm : Mono ss.length F) (hoff : ∀ (x i : Nat) (g : Nat → Bool), i < ss.length → (x : Int) ∉ nextOf ss i → F (offB g x) i = F g i) (hA : Asks ss.length (rF rs) ga lb w F)
    (hQ : ∀ g B W', Below w.heap.size w W' → w.heap.size ≤ B → Gr ss.length (rF rs) F g → W'.rowIs B 4 ss.length (fun j => .bool (g j)) → Q (.returned (.slice (some ⟨B, 0, none⟩) ss.length ss.length)) W') :
    Calls Try.prog 41 #[.pointer (some ⟨V, 0, none⟩), .func (.func ga) #[] lb] w Q := by
  have HQ : Hid _ := hQ
  have HV : Hid (VS w V ss e ord rs A c og oc pv bc bk) := h
  have HOK : Hid (okB ss = true) := hok
  have HM : Hid _ := hm
  have HOF : Hid _ := hoff
  have HA : Hid (Asks ss.length (rF rs) ga lb w F) := @hA
  have HEA : Hid _ := ea
  have c0 := h.c0
  have c1 := h.c1
  have hn := (ok_len hok).2
  have HY : Hid (∀ x, x < ss.length → rF rs x = true → (pF ss rs x).length ≤ 60 ∧ ∀ y ∈ pF ss rs x, 0 ≤ y ∧ y.toNat < ss.length ∧ rF rs y.toNat = true) := fun x hx _ => ⟨Nat.le_trans (predsK_len _ _ _ _) hn, fun y hy => by
    have h1 := low_preds ss rs x hx y hy
    obtain ⟨m, rfl⟩ := Int.eq_ofNat_of_zero_le h1.1
    exact ⟨h1.1, by have := h1.2; simp; omega, (mem_preds.1 hy).2.1⟩⟩
  have hol : ord.length ≤ 60 := Nat.le_trans (nodup_len h.io.nodup fun i hi => ((h.io.mem i).1 hi).1) hn
  have HRS : Hid (∀ i, i ∈ ord ↔ i < ss.length ∧ rF rs i = true) := fun i => by
    rw [h.io.mem i]
    constructor
    · rintro ⟨h1, h2⟩
      refine ⟨h1, ?_⟩
      have := (h.re.2 i h1).2 h2
      unfold rF
      rw [List.getD_eq_getElem?_getD, this]
      rfl
    · rintro ⟨h1, h2⟩
      refine ⟨h1, (h.re.2 i h1).1 ?_⟩
      unfold rF at h2
      rw [List.getD_eq_getElem?_getD] at h2
      have hl : i < rs.length := by rw [h.re.1]; exact h1
      rw [List.getElem?_eq_getElem hl] at h2 ⊢
      simpa using h2
  clear hQ hm hoff hA ea h hok
  have hmf : ∀ (fn : Fn) (first cap : Array Value) (w : World), (Instr.makeFunc fn first cap).run Try.prog w = .ok (.func fn first cap) w := fun _ _ _ _ => rfl
  go_enter Try.func41, Try.ntmps41
  go_wp2_with fail
  go_region_held3 (fun wx => wx.cell? ⟨V, 0, none⟩ = some (.slice A ss.length c) ∧ wx.cell? ⟨V, 1, none⟩ = some (.slice (some ⟨og, 0, none⟩) ord.length oc)) (go_keep) (first
    | (go_at_call 68; refine solve_any ss.length og oc ord 52 #[.pointer (some ⟨V, 0, none⟩)] ga lb (enters_of Try.func52 (by kernel_rfl) rfl) HEA.out _ (rF rs) F (pF ss rs) hn hol (fun i hi => HV.out.od i hi) HRS.out HV.out.io.nodup HM.out (fun x i g hx hi hr hni => HOF.out x i g hi fun hm => hni (mem_preds.2 ⟨hi, hr, hm⟩)) HY.out (ahead_hangs (HV.out.keep ((Below.refl _ _).drew))) (HA.out.later ((Below.refl _ _).drew)) ?_; intro gg W' hb' hg hr'; have d0 := cell_keep hb' (show w.drew.cell? ⟨V, 0, none⟩ = _ from c0); have d1 := cell_keep hb' (show w.drew.cell? ⟨V, 1, none⟩ = _ from c1)))
  all_goals
    have HB : Hid (Below w.heap.size w W') := ((Below.refl _ _).drew).trans hb'
    have HG : Hid (Gr ss.length (rF rs) F gg) := hg
    have HR : Hid (W'.rowIs w.drew.heap.size 4 ss.length (fun j => .bool (gg j))) := hr'
    clear hb' hg hr'
    go_wp2
    exact HQ.out gg _ _ HB.out (Nat.le_refl _) HG.out HR.out

set_option maxRecDepth 100000 in
set_option maxHeartbeats 2000000 in
theorem down_any {Q : Ending → World → Prop} {w : World} {V : Nat} {ss : List St} {e : E5} {ord : List Nat} {rs : List Bool} {A : Option Addr} {c og oc : Nat} {pv : Value} {bc bk : BitVec 64} (h : VS w V ss e ord rs A c og oc pv bc bk) (hok : okB ss = true)
    (hQ : ∀ f B W', Below w.heap.size w W' → w.heap.size ≤ B → IsDown ss e rs f → W'.rowIs B 4 ss.length (fun j => .bool (f j)) → Q (.returned (.slice (some ⟨B, 0, none⟩) ss.length ss.length)) W') :
    Calls Try.prog 26 #[.pointer (some ⟨V, 0, none⟩)] w Q := by
  have HQ : Hid _ := hQ
  have HV : Hid (VS w V ss e ord rs A c og oc pv bc bk) := h
  have HOK : Hid (okB ss = true) := hok
  clear hQ h hok
  have HA : Hid (∀ O, Below w.heap.size w (w.alloc O)) := fun O => (Below.refl _ _).alloc (Nat.le_refl _) O
  have hmf : ∀ (fn : Fn) (first cap : Array Value) (w : World), (Instr.makeFunc fn first cap).run Try.prog w = .ok (.func fn first cap) w := fun _ _ _ _ => rfl
  go_enter Try.func26, Try.ntmps26
  go_wp2_with fail
  refine mostByBehind_any (HV.out.keep (HA.out _)) HOK.out 42 #[.pointer (some ⟨w.heap.size, 0, none⟩)] (enters_of Try.func42 (by kernel_rfl) rfl) _ (downF_mono (low_next HOK.out)) (fun x i g hi hx => downF_off (low_next HOK.out) hi hx) (down_asks (HV.out.keep (HA.out _)) HOK.out w.heap.size (by simp [go_sem])) fun g B W' hb' hB hg hr => ?_
  have HB : Hid (Below w.heap.size w W') := (HA.out _).trans (hb'.mono (by simp))
  have HG : Hid (IsDown ss e rs g) := hg
  have HR : Hid (W'.rowIs B 4 ss.length (fun j => .bool (g j))) := hr
  have hB2 : w.heap.size ≤ B := by simp at hB; omega
  clear hb' hg hr hB
  go_wp2
  exact HQ.out g B _ HB.out hB2 HG.out HR.out

/-- What a way of looking at a view answers. -/
def Tells (ss : List St) (e : E5) (g : Nat) (P : List Bool → (Nat → Bool) → Prop) : Prop :=
  ∀ (w : World) (V : Nat) (ord : List Nat) (rs : List Bool) (A : Option Addr) (c og oc : Nat) (pv : Value) (bc bk : BitVec 64), VS w V ss e ord rs A c og oc pv bc bk → ∀ {Q : Ending → World → Prop},
    (∀ f B W', Below w.heap.size w W' → w.heap.size ≤ B → P rs f → W'.rowIs B 4 ss.length (fun j => .bool (f j)) → Q (.returned (.slice (some ⟨B, 0, none⟩) ss.length ss.length)) W') → Calls Try.prog g #[.pointer (some ⟨V, 0, none⟩)] w Q

theorem down_tells {ss : List St} {e : E5} (hok : okB ss = true) : Tells ss e 26 (IsDown ss e) := fun _ _ _ _ _ _ _ _ _ _ _ h _ hQ => down_any h hok hQ

set_option maxRecDepth 100000 in
set_option maxHeartbeats 2000000 in
theorem seen_any {Q : Ending → World → Prop} (P : List St → E5 → List Bool → (Nat → Bool) → Prop) (g : Nat) (eg : ∀ args w, (callFunc g args).run Try.prog w = .ok (.enter g args) w) (v : Value) (ss : List St) (e : E5) (w : World) (h : StepsAt w v ss) (hl : ss.length ≤ 1048576) (hls : ∀ s ∈ ss, s.next.length ≤ 1048576)
    (ht : okB ss = true → exprB e = true → Tells ss e g (P ss e))
    (hQ : ∀ v' bs w', Below w.heap.size w w' → SafeOr P ss e bs → w'.ownsRow w.heap.size 4 1 v' bs.length (bs.map Value.bool) → Q (.returned v') w') :
    Calls Try.prog 25 #[.agg #[v], .agg #[.int .i64 e.op, .int .i64 e.av, .int .i64 e.an, .int .i64 e.bv, .int .i64 e.bn], .func (.func g) #[] #[]] w Q := by
  have HQ : Hid _ := hQ
  obtain ⟨ao, b, o, cap, rfl, ha, hc⟩ := id h
  clear ha hc
  have HH : Hid (StepsAt w (.slice ao ss.length cap) ss) := h
  have HL : Hid (∀ s ∈ ss, s.next.length ≤ 1048576) := hls
  have HT : Hid (okB ss = true → exprB e = true → Tells ss e g (P ss e)) := @ht
  clear hQ h hls ht
  have hb0 : ∀ O O', Below w.heap.size w ((w.alloc O).alloc O') := fun O O' => ((Below.refl _ _).alloc (Nat.le_refl _) O).alloc (by simp) O'
  have HXV : Hid (exV e = .agg #[.int .i64 e.op, .int .i64 e.av, .int .i64 e.an, .int .i64 e.bv, .int .i64 e.bn]) := rfl
  go_enter Try.func25, Try.ntmps25
  go_wp2_with fail
  refine implOk_any _ ss _ (HH.out.keep (hb0 _ _)) hl HL.out fun w2 hb2 => ?_
  have HB2 : Hid (Below w.heap.size w w2) := (hb0 _ _).trans (hb2.mono (by simp; omega))
  have q2 : w2.cell? ⟨w.heap.size, 0, none⟩ = some (.slice ao ss.length cap) := cell_keep hb2 (by simp [go_sem])
  have x0 : w2.cell? ⟨w.heap.size + 1, 0, none⟩ = some (.int .i64 e.op) := cell_keep hb2 (by simp [go_sem])
  have x1 : w2.cell? ⟨w.heap.size + 1, 1, none⟩ = some (.int .i64 e.av) := cell_keep hb2 (by simp [go_sem])
  have x2 : w2.cell? ⟨w.heap.size + 1, 2, none⟩ = some (.int .i64 e.an) := cell_keep hb2 (by simp [go_sem])
  have x3 : w2.cell? ⟨w.heap.size + 1, 3, none⟩ = some (.int .i64 e.bv) := cell_keep hb2 (by simp [go_sem])
  have x4 : w2.cell? ⟨w.heap.size + 1, 4, none⟩ = some (.int .i64 e.bn) := cell_keep hb2 (by simp [go_sem])
  clear hb2 hb0
  cases hok : okB ss
  · have HR : Hid (SafeOr P ss e []) := Or.inr ⟨by simp [hok], rfl⟩
    clear hok
    go_wp2
    exact HQ.out _ [] _ HB2.out HR.out (World.ownsRow_nil _ _ _ _)
  have HOK : Hid (okB ss = true) := hok
  have hn2 : ss.length ≤ 60 := (ok_len hok).2
  clear hok
  go_wp2_with fail
  rw [← HXV.out]
  refine implExprOk_any e _ fun w3 hb3 => ?_
  rw [HXV.out]
  have q3 := cell_keep hb3 q2
  have y0 := cell_keep hb3 x0
  have y1 := cell_keep hb3 x1
  have y2 := cell_keep hb3 x2
  have y3 := cell_keep hb3 x3
  have y4 := cell_keep hb3 x4
  have HB3 : Hid (Below w.heap.size w w3) := HB2.out.trans (hb3.mono HB2.out.size)
  clear hb3 q2 x0 x1 x2 x3 x4 HB2
  cases hex : exprB e
  · have HR : Hid (SafeOr P ss e []) := Or.inr ⟨by simp [hex], rfl⟩
    clear hex
    go_wp2
    exact HQ.out _ [] _ HB3.out HR.out (World.ownsRow_nil _ _ _ _)
  have HEX : Hid (exprB e = true) := hex
  clear hex
  go_wp2_with fail
  refine viewOf_any ao cap ss e _ (HH.out.keep HB3.out) HOK.out HEX.out fun V ord rs og oc pv bc bk w4 hb4 hv4 => ?_
  have HV4 : Hid _ := hv4
  have HB4 : Hid (Below w.heap.size w w4) := HB3.out.trans (hb4.mono HB3.out.size)
  clear hb4 hv4 q3 y0 y1 y2 y3 y4
  go_wp2_with fail
  refine HT.out HOK.out HEX.out w4 V ord rs ao cap og oc pv bc bk HV4.out fun f B w5 hb5 hB hP hr => ?_
  have HB5 : Hid (Below w.heap.size w w5) := HB4.out.trans (hb5.mono HB4.out.size)
  have HS : Hid (SafeOr P ss e ((List.range ss.length).map f)) := Or.inl ⟨HOK.out, HEX.out, rs, f, HV4.out.re, hP, rfl⟩
  have HOWN : Hid (w5.ownsRow w.heap.size 4 1 (.slice (some ⟨B, 0, none⟩) ss.length ss.length) ((List.range ss.length).map f).length (((List.range ss.length).map f).map Value.bool)) := by
    have h1 := rowIs_own hr (Nat.le_trans HB4.out.size hB) (by omega)
    rw [Hid, List.length_map, List.length_range, List.map_map]
    exact h1
  clear hb5 hB hP hr
  go_wp2
  exact HQ.out _ _ _ HB5.out HS.out HOWN.out

set_option maxRecDepth 100000 in
theorem implSafeDown_any {Q : Ending → World → Prop} (v : Value) (ss : List St) (e : E5) (w : World) (h : StepsAt w v ss) (hl : ss.length ≤ 1048576) (hls : ∀ s ∈ ss, s.next.length ≤ 1048576)
    (hQ : ∀ v' bs w', Below w.heap.size w w' → SafeOr IsDown ss e bs → w'.ownsRow w.heap.size 4 1 v' bs.length (bs.map Value.bool) → Q (.returned v') w') :
    Calls Try.prog 9 #[.agg #[v], .agg #[.int .i64 e.op, .int .i64 e.av, .int .i64 e.an, .int .i64 e.bv, .int .i64 e.bn]] w Q := by
  have HQ : Hid _ := hQ
  clear hQ
  have HH : Hid (StepsAt w v ss) := h
  have HL : Hid (∀ s ∈ ss, s.next.length ≤ 1048576) := hls
  obtain ⟨ao, b, o, cap, rfl, ha, hc⟩ := id h
  clear ha hc h hls
  have hb0 : ∀ O O', Below w.heap.size w ((w.alloc O).alloc O') := fun O O' => ((Below.refl _ _).alloc (Nat.le_refl _) O).alloc (by simp) O'
  have HB0 : Hid _ := hb0
  clear hb0
  go_enter Try.func9, Try.ntmps9
  go_wp2_with fail
  refine seen_any IsDown 26 (enters_of Try.func26 (by kernel_rfl) rfl) _ ss e _ (HH.out.keep (HB0.out _ _)) hl HL.out (fun hok _ => down_tells hok) fun v' bs w' hb hs hown => ?_
  have HB : Hid (Below w.heap.size w w') := (HB0.out _ _).trans (hb.mono (by simp; omega))
  have HS : Hid _ := hs
  have HO : Hid (w'.ownsRow w.heap.size 4 1 v' bs.length (bs.map Value.bool)) := own_lower hown (by simp; omega)
  clear hb hs hown
  go_wp2
  exact HQ.out _ _ _ HB.out HS.out HO.out
end Go.Proofs.Ythaiiegofofnmaa
