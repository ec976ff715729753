/- The program's solver over yes and no: the greatest that fits, whatever is asked of a step, and whoever hangs on it. -/
import Derived.Test.YthaiiegofofnmaaQueueT
import Derived.Shelf.Abstract
namespace Go.Proofs.Ythaiiegofofnmaa
open Go.RowKit

/-- How many wait. -/
def lenQ (w : World) (b : Nat) : Nat := match w.cell? ⟨b, 0, none⟩ with | some (.slice _ n _) => n | _ => 0

theorem QS.lenQ {lo b : Nat} {W : World} {q : List Nat} (h : QS lo W b q) : lenQ W b = q.length := by
  obtain ⟨v, h1, h2⟩ := h.lst
  obtain ⟨A, c, rfl⟩ := h2.form
  unfold Go.Proofs.Ythaiiegofofnmaa.lenQ
  rw [h1]

theorem cnt_off {m : Nat → Bool} {i n : Nat} (hi : i < n) (hm : m i = true) : cnt (offB m i) n + 1 = cnt m n := by
  induction n with
  | zero => omega
  | succ n ih =>
    have e : cnt m (n + 1) = cnt m n + (if m n = true then 1 else 0) := by simp [cnt]
    have e2 : cnt (offB m i) (n + 1) = cnt (offB m i) n + (if offB m i n = true then 1 else 0) := by simp [cnt]
    by_cases h : i = n
    · subst h
      have : cnt (offB m i) i = cnt m i := cnt_same fun j hj => by unfold offB; rw [if_neg (by omega)]
      rw [e, e2, this, hm]
      simp [offB]
    · have := ih (by omega)
      rw [e, e2, ← this]
      have h2 : offB m i n = m n := by unfold offB; rw [if_neg (by omega)]
      rw [h2]
      omega

/-- What a function value answers that tells who hangs on a step. -/
def Hangs (n : Nat) (r : Nat → Bool) (g : Nat) (fa : Array Value) (w : World) (H : Nat → List Int) : Prop :=
  ∀ W x, Below w.heap.size w W → x < n → r x = true → ∀ {Q' : Ending → World → Prop}, (∀ v W', Below W.heap.size W W' → IntsAt w v (H x) → Q' (.returned v) W') → Calls Try.prog g (fa ++ #[.int .i64 (x : Int)]) W Q'

/-- What a function value answers that is asked what is so of a step. -/
def Asks (n : Nat) (r : Nat → Bool) (g : Nat) (lb : Array Value) (w : World) (F : (Nat → Bool) → Nat → Bool) : Prop :=
  ∀ W x B so, Below w.heap.size w W → w.heap.size ≤ B → x < n → r x = true → W.rowIs B 4 n (fun j => .bool (so j)) → ∀ {Q' : Ending → World → Prop}, (∀ W', Below W.heap.size W W' → Q' (.returned (.bool (F so x))) W') → Calls Try.prog g (#[.int .i64 (x : Int), .slice (some ⟨B, 0, none⟩) n n] ++ lb) W Q'

theorem infoBoolV : (Try.prog.info? 4).map (fun i => (i.zero, i.size, i.bytes)) = some (some (.bool false), 1, 1) := by kernel_rfl

/-- The solver's memory. -/
structure SM (n : Nat) (w wr : World) (so : Nat → Bool) (q : List Nat) : Prop where
  row : wr.rowIs w.heap.size 4 n (fun j => .bool (so j))
  qs : QS (w.heap.size + 2) wr (w.heap.size + 1) q
  bel : Below w.heap.size w wr
  sz : w.heap.size + 2 ≤ wr.heap.size

theorem SM.keep {n : Nat} {w wr wr' : World} {so : Nat → Bool} {q : List Nat} (h : SM n w wr so q) (hb : Below wr.heap.size wr wr') : SM n w wr' so q :=
  ⟨rowIs_keep h.row hb, h.qs.keep hb, h.bel.trans (hb.mono h.bel.size), Nat.le_trans h.sz hb.size⟩

theorem SM.qf {n : Nat} {w wr wr' : World} {so : Nat → Bool} {q q' : List Nat} (h : SM n w wr so q) (hq : QS (w.heap.size + 2) wr' (w.heap.size + 1) q') (hf : QF (w.heap.size + 1) (w.heap.size + 2) wr wr') : SM n w wr' so q' :=
  ⟨h.row.of_block (hf.block _ h.row.lt (by omega) (by omega)), hq, h.bel.trans (hf.below (by omega) (by omega) h.bel.size), Nat.le_trans h.sz hf.size⟩

theorem SM.set {n : Nat} {w wr : World} {so : Nat → Bool} {q : List Nat} (h : SM n w wr so q) (x : Nat) (u : Bool) : SM n w (wr.setCell ⟨w.heap.size, x, none⟩ (.bool u)) (fun j => if j = x then u else so j) q :=
  ⟨(h.row.set x _).congr fun j _ => by by_cases e : j = x <;> simp [e], h.qs.far (by show w.heap.size ≠ w.heap.size + 1; omega) (by show w.heap.size < w.heap.size + 2; omega) _, h.bel.setCell (Nat.le_refl _) _, by simpa using h.sz⟩

theorem toNats {l : List Int} (h : ∀ x ∈ l, 0 ≤ x) : (l.map Int.toNat).map (fun (k : Nat) => (k : Int)) = l := by
  rw [List.map_map]
  conv => rhs; rw [← List.map_id l]
  exact List.map_congr_left fun x hx => by have := h x hx; simp; omega

set_option maxRecDepth 100000 in
set_option maxHeartbeats 4000000 in
theorem solve_any {Q : Ending → World → Prop} (n : Nat) (og ocap : Nat) (ord : List Nat) (gh : Nat) (fa : Array Value) (ga : Nat) (lb : Array Value) (eh : ∀ args w, (callFunc gh args).run Try.prog w = .ok (.enter gh args) w) (ea : ∀ args w, (callFunc ga args).run Try.prog w = .ok (.enter ga args) w)
    (w : World) (r : Nat → Bool) (F : (Nat → Bool) → Nat → Bool) (H : Nat → List Int) (hn : n ≤ 60) (ho : ord.length ≤ 60) (hO : ∀ i, i < ord.length → w.cell? ⟨og, i, none⟩ = some (intV (ord.getD i 0)))
    (hq : ∀ i, i ∈ ord ↔ i < n ∧ r i = true) (hnd : ord.Nodup) (hm : Mono n F)
    (hd : ∀ x i g, x < n → i < n → r i = true → (i : Int) ∉ H x → F (offB g x) i = F g i) (hl : ∀ x, x < n → r x = true → (H x).length ≤ 60 ∧ ∀ y ∈ H x, 0 ≤ y ∧ y.toNat < n ∧ r y.toNat = true)
    (HH : Hangs n r gh fa w H) (HA : Asks n r ga lb w F)
    (hQ : ∀ g W', Below w.heap.size w W' → Gr n r F g → W'.rowIs w.heap.size 4 n (fun j => .bool (g j)) → Q (.returned (.slice (some ⟨w.heap.size, 0, none⟩) n n)) W') :
    Calls Try.prog 68 #[.int .i64 (n : Int), .slice (some ⟨og, 0, none⟩) ord.length ocap, .bool true, .func (.func gh) fa #[], .func (.func ga) #[] lb] w Q := by
  have HQ : Hid _ := hQ
  have HHH : Hid (Hangs n r gh fa w H) := @HH
  have HAA : Hid (Asks n r ga lb w F) := @HA
  have HO : Hid _ := hO
  have HOM : Hid _ := hq
  have HND : Hid (ord.Nodup) := hnd
  have HM : Hid (Mono n F) := hm
  have HD : Hid _ := hd
  have HL : Hid _ := hl
  clear hQ HH HA hO hq hnd hm hd hl
  go_enter Try.func68, Try.ntmps68
  go_wp2_with (at_make; refine wpList_make_is _ rfl (.tmp 19) (.tmp 19) 30 rfl 4 (.bool false) 1 Try.underlying30 infoBoolV rfl .i64 .i64 n rfl rfl (by omega) (by omega) ?_)
  intro w1 hrow1 hb1 hs1
  go_wp2_with fail
  have hsm : SM n w (w1.alloc (.cells #[.slice none 0 0, .int .u64 0] 120)) (fun _ => false) [] := by
    refine ⟨rowIs_keep hrow1 ((Below.refl _ _).alloc (Nat.le_refl _) _), ?_, hb1.alloc (by omega) _, by simp; omega⟩
    rw [← hs1]
    exact ⟨⟨.slice none 0 0, by simp [go_sem], QRow.nil _ _⟩, ⟨0#64, by simp [go_sem, bsV], fun j hj => by simp⟩, by simp [go_sem], by simp [go_sem], by omega, fun x hx => by cases hx⟩
  have hb0 : Below w.heap.size w (w1.alloc (.cells #[.slice none 0 0, .int .u64 0] 120)) := hsm.bel
  have HSM : Hid _ := hsm
  simp only [hs1] at *
  generalize w1.alloc (.cells #[.slice none 0 0, .int .u64 0] 120) = W0 at *
  clear hsm hrow1 hb1 hs1
  go_loopw [14, 23] (fun _ i wr => ∃ k : Nat, k ≤ ord.length ∧ i = .int .i64 k ∧ SM n w wr (fun j => decide (j ∈ ord.take k)) (ord.take k)) (fun _ i _ => ord.length - (intOf i).toNat)
  case atStart => exact ⟨0, Nat.zero_le _, rfl, by simpa [Hid] using HSM.out⟩
  case round =>
    clear HSM hb0
    obtain ⟨k, hk, rfl, hsm⟩ := hrel
    have HS : Hid (SM n w wr (fun j => decide (j ∈ ord.take k)) (ord.take k)) := hsm
    by_cases hkn : k < ord.length
    · have hki : (k : Int) < (ord.length : Int) := by omega
      obtain ⟨x, hx⟩ : ∃ x, ord[k]? = some x := ⟨_, List.getElem?_eq_getElem hkn⟩
      have hxm : x ∈ ord := List.mem_of_getElem? hx
      obtain ⟨hxn, hxr⟩ := (HOM.out x).1 hxm
      have hc := cell_keep hsm.bel (HO.out k hkn)
      rw [List.getD_eq_getElem?_getD, hx] at hc
      simp only [Option.getD_some, intV] at hc
      have hxi : (x : Int) < (n : Int) := by omega
      have hcr := hsm.row.cell (i := x) hxn
      have hfr := hsm.row.frozen x
      have hset := hsm.set x true
      have hlen : (ord.take k).length ≤ 100 := by simp; omega
      have htk : ord.take (k + 1) = ord.take k ++ [x] := by rw [List.take_add_one, hx]; rfl
      have hni : x ∉ ord.take k := by
        have h1 := (List.take_sublist (k + 1) ord).nodup HND.out
        rw [htk, List.nodup_append] at h1
        exact fun hm => h1.2.2 x hm x (by simp) rfl
      have HPQ : Hid (putQ (ord.take k) x = ord.take (k + 1)) := by rw [Hid, putQ, if_neg hni, htk]
      have HFN : Hid (∀ j, (if j = x then true else decide (j ∈ ord.take k)) = decide (j ∈ ord.take (k + 1))) := fun j => by
        rw [htk]
        by_cases e : j = x
        · simp [e]
        · simp [e]
      have HSET : Hid _ := hset
      clear hsm hset hni htk hxm hxr HS hx
      go_wp2_with fail
      refine put_any (w.heap.size + 2) (w.heap.size + 1) x (ord.take k) _ HSET.out.qs (by omega) hlen HSET.out.sz fun u W' hq' hf' => ?_
      have HN : Hid (SM n w W' (fun j => decide (j ∈ ord.take (k + 1))) (ord.take (k + 1))) := by
        have h1 := HSET.out.qf hq' hf'
        rw [HPQ.out] at h1
        exact { h1 with row := h1.row.congr fun j _ => by rw [HFN.out j] }
      clear hq' hf' HSET hcr hfr hc
      go_wp2
      go_roundw
      case rel => exact ⟨k + 1, by omega, by go_num, HN.out⟩
      case measure => simp [intOf]; omega
    · have hki : ¬ (k : Int) < (ord.length : Int) := by omega
      obtain rfl : k = ord.length := by omega
      rw [List.take_length] at hsm
      have hdr : ∀ j, j < n → decide (j ∈ ord) = r j := by
        intro j hj
        have h0 := HOM.out j
        cases h1 : r j
        · have : j ∉ ord := fun h => by
            have := (h0.1 h).2
            rw [h1] at this
            cases this
          simp [this]
        · have : j ∈ ord := h0.2 ⟨hj, h1⟩
          simp [this]
      have HS2 : Hid (SM n w wr r ord) := ⟨hsm.row.congr fun j hj => by rw [hdr j hj], hsm.qs, hsm.bel, hsm.sz⟩
      clear hdr
      have HWL : Hid (WL n r F r ord) := WL.start HOM.out HND.out
      clear hsm HS HO
      go_wp2_with fail
      go_loopw [15, 16, 18] (fun _ _ _ wx => ∃ so q, SM n w wx so q ∧ WL n r F so q) (fun _ _ _ wx => cnt (trueAt wx w.heap.size) n * 61 + lenQ wx (w.heap.size + 1))
      case atStart => exact ⟨r, ord, HS2.out, HWL.out⟩
      case round =>
        clear HS2 HWL
        obtain ⟨so, q, hs, hwl⟩ := hrel
        have HS : Hid (SM n w wr so q) := hs
        have HW : Hid (WL n r F so q) := hwl
        have HME : Hid (cnt (trueAt wr w.heap.size) n * 61 + lenQ wr (w.heap.size + 1) = cnt so n * 61 + q.length) := by
          rw [Hid, hs.qs.lenQ, cnt_same fun j hj => trueAt_row hs.row hj]
        clear hs hwl
        go_wp2_with fail
        refine empty_any (w.heap.size + 2) (w.heap.size + 1) q _ HS.out.qs ?_
        cases q with
        | nil =>
          have HB : Hid _ := HS.out.bel
          have HR : Hid _ := HS.out.row
          have HG : Hid (Gr n r F so) := HW.out.done
          clear HS HW
          go_wp2
          exact HQ.out so _ HB.out HG.out HR.out
        | cons x q =>
          obtain ⟨hxn, hxr⟩ := HW.out.qr x List.mem_cons_self
          have hxi : (x : Int) < (n : Int) := by omega
          have hql : q.length + 1 ≤ n := HW.out.len
          have hde : decide ((x :: q).length = 0) = false := by simp
          rw [hde]
          clear hde
          go_wp2_with fail
          refine take_any (w.heap.size + 2) (w.heap.size + 1) x q _ HS.out.qs HW.out.nd HS.out.sz fun w2 hq2 hf2 => ?_
          have HS2 : Hid (SM n w w2 so q) := HS.out.qf hq2 hf2
          clear hq2 hf2 HS
          go_wp2_with fail
          refine HAA.out w2 x w.heap.size so HS2.out.bel (Nat.le_refl _) hxn hxr HS2.out.row fun w3 hb3 => ?_
          have HS3 : Hid (SM n w w3 so q) := HS2.out.keep hb3
          have hcr := HS3.out.row.cell (i := x) hxn
          have hfr := HS3.out.row.frozen x
          clear hb3 HS2
          by_cases hF : F so x = so x
          · have HW2 : Hid (WL n r F so q) := HW.out.same hF
            rw [hF]
            have hbe : (so x == so x) = true := by simp
            generalize so x = bx at *
            clear hF
            go_wp2_with fail
            go_roundw
            case rel => exact ⟨so, q, HS3.out, HW2.out⟩
            case measure =>
              have e1 := HME.out
              have e2 := HS3.out.qs.lenQ
              have e3 : cnt (trueAt w3 w.heap.size) n = cnt so n := cnt_same fun j hj => trueAt_row HS3.out.row hj
              rw [e1, e2, e3]
              simp
          · obtain ⟨t1, t2⟩ := HW.out.turned hF
            rw [t1] at hcr
            rw [t2]
            have HCO : Hid (cnt (offB so x) n + 1 = cnt so n) := cnt_off hxn t1
            have HS4 : Hid (SM n w (w3.setCell ⟨w.heap.size, x, none⟩ (.bool false)) (offB so x) q) := HS3.out.set x false
            have HNF : Hid (F so x ≠ so x) := hF
            clear hF t1 t2
            go_wp2_with fail
            have hb4 := HS4.out.bel
            obtain ⟨hHl, hHy⟩ := HL.out x hxn hxr
            refine HHH.out _ x hb4 hxn hxr fun v5 w5 hb5 hi5 => ?_
            have HS5 : Hid (SM n w w5 (offB so x) q) := HS4.out.keep hb5
            have HY : Hid (∀ y ∈ H x, 0 ≤ y ∧ y.toNat < n ∧ r y.toNat = true) := hHy
            have HWN : Hid (WL n r F (offB so x) (((H x).map Int.toNat).foldl putQ q)) := HW.out.turn HM.out HNF.out
              (fun i hi hri hni => HD.out x i so hxn hi hri fun hm => hni (List.mem_map.2 ⟨(i : Int), hm, by simp⟩))
              (fun y hy => by
                obtain ⟨z, hz, rfl⟩ := List.mem_map.1 hy
                exact (HY.out z hz).2)
            have HQR : Hid (∀ y ∈ q, y < n ∧ r y = true) := fun y hy => HW.out.qr y (List.mem_cons_of_mem _ hy)
            have HQN : Hid (q.Nodup) := (List.nodup_cons.1 HW.out.nd).2
            obtain ⟨A5, b5, o5, c5, rfl, hA5, hC5⟩ := hi5
            have HA5 : Hid _ := hA5
            have HC5 : Hid _ := hC5
            clear hb4 hb5 hHy HS4 HS3 hcr hfr hA5 hC5 HW HNF
            generalize H x = hs at *
            go_wp2_with fail
            go_loopw [18, 55] (fun _ i wx => ∃ k : Nat, k ≤ hs.length ∧ i = .int .i64 k ∧ SM n w wx (offB so x) (((hs.take k).map Int.toNat).foldl putQ q)) (fun _ i _ => hs.length - (intOf i).toNat)
            case atStart => exact ⟨0, Nat.zero_le _, rfl, by simpa using HS5.out⟩
            case round =>
              clear HS5
              obtain ⟨k, hk, rfl, hsm⟩ := hrel
              have HSK : Hid (SM n w wr (offB so x) (((hs.take k).map Int.toNat).foldl putQ q)) := hsm
              by_cases hkn : k < hs.length
              · have hki : (k : Int) < (hs.length : Int) := by omega
                obtain rfl := HA5.out (by omega)
                have hc := cell_keep hsm.bel (HC5.out k hkn)
                have hgk : hs.getD k 0 = hs[k] := by rw [List.getD_eq_getElem?_getD, List.getElem?_eq_getElem hkn]; rfl
                have hmem : hs[k] ∈ hs := List.getElem_mem hkn
                obtain ⟨y0, y1, y2⟩ := HY.out _ hmem
                obtain ⟨m, hm⟩ := Int.eq_ofNat_of_zero_le y0
                have hmn : m < n := by rw [hm] at y1; simpa using y1
                rw [hgk, hm] at hc
                have htk : (((hs.take (k + 1)).map Int.toNat).foldl putQ q) = putQ (((hs.take k).map Int.toNat).foldl putQ q) m := by
                  rw [List.take_add_one, List.getElem?_eq_getElem hkn]
                  simp [hm]
                have HTK : Hid _ := htk
                have hlen : (((hs.take k).map Int.toNat).foldl putQ q).length ≤ 100 := by
                  have h1 : (((hs.take k).map Int.toNat).foldl putQ q).length ≤ n := nodup_len (putsQ_nodup HQN.out) fun i hi => by
                    rcases putsQ_mem.1 hi with h2 | h2
                    · exact (HQR.out i h2).1
                    · obtain ⟨z, hz, rfl⟩ := List.mem_map.1 h2
                      exact (HY.out z (List.mem_of_mem_take hz)).2.1
                  omega
                clear hsm hgk hmem y0 y1 y2 hm htk
                go_wp2_with fail
                refine put_any (w.heap.size + 2) (w.heap.size + 1) m _ _ HSK.out.qs (by omega) hlen HSK.out.sz fun u W' hq' hf' => ?_
                have HN : Hid (SM n w W' (offB so x) (((hs.take (k + 1)).map Int.toNat).foldl putQ q)) := by
                  have h1 := HSK.out.qf hq' hf'
                  rw [← HTK.out] at h1
                  exact h1
                clear hq' hf' HSK hc hlen HTK
                go_wp2
                go_roundw
                case rel => exact ⟨k + 1, by omega, by go_num, HN.out⟩
                case measure => simp [intOf]; omega
              · have hki : ¬ (k : Int) < (hs.length : Int) := by omega
                obtain rfl : k = hs.length := by omega
                rw [List.take_length] at hsm
                have HSF : Hid (SM n w wr (offB so x) ((hs.map Int.toNat).foldl putQ q)) := hsm
                clear hsm HSK
                go_wp2
                go_roundw
                case rel => exact ⟨_, _, HSF.out, HWN.out⟩
                case measure =>
                  have e1 := HME.out
                  have e2 := HSF.out.qs.lenQ
                  have e3 : cnt (trueAt wr w.heap.size) n = cnt (offB so x) n := cnt_same fun j hj => trueAt_row HSF.out.row hj
                  have e4 := HCO.out
                  have e5 := HWN.out.len
                  rw [e2, e3]
                  simp only [List.length_cons] at e1
                  omega
end Go.Proofs.Ythaiiegofofnmaa
