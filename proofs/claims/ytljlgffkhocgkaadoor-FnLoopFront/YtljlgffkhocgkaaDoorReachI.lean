/- What the program's leaveOrder and reachOf answer. -/
import Derived.Test.YtljlgffkhocgkaaDoorLeave
import Derived.Test.YtljlgffkhocgkaaDoorKit
import Derived.Test.YtljlgffkhocgkaaDoorImplOk
import Derived.Test.YtljlgffkhocgkaaDoorSpecReach
import Derived.Deep.QuietTactic
import Derived.BigQuiet
namespace Go.Proofs.YtljlgffkhocgkaaDoor
open Go.RowKit

theorem infoInt1 : (Tryd.prog.info? 3).map (fun i => (i.zero, i.size, i.bytes)) = some (some (.int .i64 0), 1, 8) := by kernel_rfl

def intV (x : Nat) : Value := .int .i64 (x : Int)

/-- The number in a cell. -/
def natAt (w : World) (b j : Nat) : Nat := match w.cell? ⟨b, j, none⟩ with | some (.int _ z) => z.toNat | _ => 0

theorem natAt_row {w : World} {b n : Nat} {t : TypeId} {f : Nat → Nat} (h : w.rowIs b t n (fun j => intV (f j))) {j : Nat} (hj : j < n) : natAt w b j = f j := by
  unfold natAt; rw [h.cell hj]; simp [intV]

def lenOf : Value → Nat | .slice _ l _ => l | _ => 0

/-- What leaveOrder has in memory, round by round. -/
structure LI (ss : List St) (w wr : World) (m : Nat → Bool) (tr : Nat → Nat) (ord stk : List Nat) (sv : Value) : Prop where
  below : Below w.heap.size w wr
  rowM : wr.rowIs w.heap.size 4 ss.length (fun j => .bool (m j))
  rowT : wr.rowIs (w.heap.size + 1) 3 ss.length (fun j => intV (tr j))
  rowO : wr.ownsRow w.heap.size 3 1 (.slice (some ⟨w.heap.size + 2, 0, none⟩) ord.length ss.length) ord.length (ord.map intV)
  rowS : wr.ownsRow (w.heap.size + 3) 3 1 sv stk.length (stk.map intV)

theorem own_drewN {w : World} {base : Nat} {e : TypeId} {size : Nat} {v : Value} {n : Nat} {xs : List Value} (h : w.ownsRow base e size v n xs) (k : Nat) : (w.drewN k).ownsRow base e size v n xs := h

theorem LI.drewN {ss : List St} {w wr : World} {m : Nat → Bool} {tr : Nat → Nat} {ord stk : List Nat} {sv : Value} (h : LI ss w wr m tr ord stk sv) (k : Nat) : LI ss w (wr.drewN k) m tr ord stk sv :=
  ⟨below_drewN h.below k, h.rowM, h.rowT, h.rowO, h.rowS⟩

theorem LI.setT {ss : List St} {w wr : World} {m : Nat → Bool} {tr : Nat → Nat} {ord stk : List Nat} {sv : Value} (h : LI ss w wr m tr ord stk sv) (x v : Nat) {z : Int} (hz : z = (v : Int)) : LI ss w (wr.setCell ⟨w.heap.size + 1, x, none⟩ (.int .i64 z)) m (fun j => if j = x then v else tr j) ord stk sv where
  below := h.below.setCell (by simp) _
  rowM := h.rowM.setOther (by simp) _
  rowT := (h.rowT.set x _).congr fun i _ => by by_cases e : i = x <;> simp [e, intV, hz]
  rowO := ownsRow_setCell_other h.rowO (by simp [Value.ownBlock]) _
  rowS := ownsRow_setCell_below h.rowS (by simp) _

theorem LI.setM {ss : List St} {w wr : World} {m : Nat → Bool} {tr : Nat → Nat} {ord stk : List Nat} {sv : Value} (h : LI ss w wr m tr ord stk sv) (y : Nat) : LI ss w (wr.setCell ⟨w.heap.size, y, none⟩ (.bool true)) (fun j => if j = y then true else m j) tr ord stk sv where
  below := h.below.setCell (by simp) _
  rowM := (h.rowM.set y _).congr fun i _ => by by_cases e : i = y <;> simp [e]
  rowT := h.rowT.setOther (by simp) _
  rowO := ownsRow_setCell_other h.rowO (by simp [Value.ownBlock]) _
  rowS := ownsRow_setCell_below h.rowS (by simp) _

theorem LI.left {ss : List St} {w W w4 : World} {m : Nat → Bool} {tr : Nat → Nat} {ord ini : List Nat} {x g cap2 : Nat} (h : LI ss w W m tr ord (ini ++ [x]) (.slice (some ⟨g, 0, none⟩) (ini.length + 1) cap2)) {O : Obj}
    (hg : (W.alloc O).grownBy w4 (some (w.heap.size + 2))) (hown : w4.ownsRow w.heap.size 3 1 (.slice (some ⟨w.heap.size + 2, 0, none⟩) (ord.length + 1) ss.length) (ord.length + 1) (ord.map intV ++ [intV x])) :
    LI ss w w4 m tr (ord ++ [x]) ini (.slice (some ⟨g, 0, none⟩) ini.length cap2) where
  below := (h.below.alloc h.below.size _).grown hg (Nat.le_trans h.below.size (by simp)) (fun k hk => by cases hk; omega)
  rowM := (h.rowM.alloc O).of_block (hg.block _ (Nat.lt_of_lt_of_le h.rowM.lt (by simp)) (by simp))
  rowT := (h.rowT.alloc O).of_block (hg.block _ (Nat.lt_of_lt_of_le h.rowT.lt (by simp)) (by simp))
  rowO := by simpa using hown
  rowS := by
    have h1 := h.rowS
    rw [List.length_append, List.length_singleton, List.map_append] at h1
    have h2 := ownsRow_pop (by simp) h1
    have h3 : w.heap.size + 3 ≤ g := (h1.lt _ rfl).1
    exact (h2.alloc O).kept hg (Or.inr (by intro e; simp [Value.ownBlock] at e; omega))

theorem LI.pushed {ss : List St} {w W w4 : World} {m : Nat → Bool} {tr : Nat → Nat} {ord stk : List Nat} {y g cap2 l : Nat} {v' : Value} (h : LI ss w W m tr ord stk (.slice (some ⟨g, 0, none⟩) l cap2)) {O : Obj}
    (hg : (W.alloc O).grownBy w4 (some g)) (hown : w4.ownsRow (w.heap.size + 3) 3 1 v' (stk.length + 1) (stk.map intV ++ [intV y])) (hgl : w.heap.size + 3 ≤ g) :
    LI ss w w4 m tr ord (stk ++ [y]) v' where
  below := (h.below.alloc h.below.size _).grown hg (Nat.le_trans h.below.size (by simp)) (fun k hk => by cases hk; omega)
  rowM := (h.rowM.alloc O).of_block (hg.block _ (Nat.lt_of_lt_of_le h.rowM.lt (by simp)) (by simp; omega))
  rowT := (h.rowT.alloc O).of_block (hg.block _ (Nat.lt_of_lt_of_le h.rowT.lt (by simp)) (by simp; omega))
  rowO := (h.rowO.alloc O).kept hg (Or.inr (by simp [Value.ownBlock]; omega))
  rowS := by simpa using hown

theorem snoc_of {l : List Nat} (h : l ≠ []) : ∃ ini x, l = ini ++ [x] := ⟨l.dropLast, l.getLast h, (List.dropLast_concat_getLast h).symm⟩

set_option maxRecDepth 100000 in
set_option maxHeartbeats 4000000 in
theorem leaveOrder_any {Q : Ending → World → Prop} (v : Value) (ss : List St) (w : World) (h : StepsAt w v ss) (hok : okB ss = true)
    (hQ : ∀ v' ord w', Below w.heap.size w w' → IsOrder ss ord → w'.ownsRow w.heap.size 3 1 v' ord.length (ord.map intV) → Q (.returned v') w') :
    Calls Tryd.prog 75 #[v] w Q := by
  have HQ : Hid _ := hQ
  clear hQ
  obtain ⟨hn1, hn2⟩ := ok_len hok
  have HOK : Hid (okB ss = true) := hok
  obtain ⟨ao, b, o, cap, rfl, ha, hc⟩ := id h
  obtain rfl := ha (by omega)
  have HC : Hid _ := hc
  clear ha hc h hok
  obtain ⟨i0, hi, hz0, hz1, hz2⟩ := info_parts infoInt1
  go_enter Tryd.func75, Tryd.ntmps75
  go_wp2_with (first | (at_make; refine wpList_make_is _ rfl (.tmp 10) (.tmp 10) 30 rfl 4 (.bool false) 1 Tryd.underlying30 infoBool rfl .i64 .i64 ss.length rfl rfl (by omega) (by omega) ?_; intro w1 hrow1 hb1 hs1) | (at_make; refine wpList_make_is _ rfl (.tmp 13) (.tmp 13) 55 rfl 3 (.int .i64 0) 8 Tryd.underlying55 infoInt1 rfl .i64 .i64 ss.length rfl rfl (by omega) (by omega) ?_; intro w2 hrow2 hb2 hs2) | (at_make; refine wpList_make_own _ rfl _ (.tmp 16) 55 rfl w.heap.size 3 i0 (.int .i64 0) 1 Tryd.underlying55 hi hz0 hz1 .i64 .i64 _ ss.length rfl rfl (by omega) (by rw [hz2]; omega) (by unfold maxLen; omega) (by omega) ?_; intro w3 hown3 hgrow3; have hb3 : Below w2.heap.size w2 w3 := (Below.refl _ _).grown hgrow3 (Nat.le_refl _) (by simp); have hM := rowIs_keep (rowIs_keep hrow1 hb2) hb3; have c3 := hM.cell (i := 0) (by omega); have f3 := hM.frozen 0; have g3 := (hown3.lt _ rfl).2; have l3 : w.heap.size < w3.heap.size := hM.lt))
  have hT := rowIs_keep hrow2 hb3
  have hLI : LI ss w ((w3.setCell ⟨w.heap.size, 0, none⟩ (.bool true)).alloc (.cells #[.int .i64 0] 3)) (fun j => if j = 0 then true else false) (fun _ => 0) [] [0] (.slice (some ⟨w3.heap.size, 0, none⟩) 1 1) := by
    refine ⟨?_, ((hM.set 0 _).alloc _).congr fun i _ => by by_cases e : i = 0 <;> simp [e], ?_, ?_, ?_⟩
    · exact ((((hb1.trans (hb2.mono (by omega))).trans (hb3.mono (by omega))).setCell (Nat.le_refl _) _).alloc (by simp; omega) _)
    · rw [hs1] at hT
      exact (hT.setOther (by simp) _).alloc _
    · rw [hs2, hs1] at hown3
      exact (ownsRow_setCell_other hown3 (by simp [Value.ownBlock]; omega) _).alloc _
    · have := World.ownsRow_lit (base := w.heap.size + 3) (e := 3) (size := 1) (w3.setCell ⟨w.heap.size, 0, none⟩ (.bool true)) #[.int .i64 0] 1 (by simp; omega) (by decide) (by simp)
      simpa [intV] using this
  have HLI : Hid _ := hLI
  have HLP : Hid (LP ss (fun j => if j = 0 then true else false) (fun _ => 0) [] [0]) := by have := LP.start (ss := ss) (by omega); simpa [Hid] using this
  simp only [hs1, hs2] at *
  clear hLI hT c3 f3 hM hb3 hgrow3 hown3 hb2 hrow2 hb1 hrow1 hs1 hs2 g3 l3
  go_loopw [5, 6] (fun ov sv wr => ∃ m tr ord stk, ov = .slice (some ⟨w.heap.size + 2, 0, none⟩) ord.length ss.length ∧ LI ss w wr m tr ord stk sv ∧ LP ss m tr ord stk) (fun _ sv wr => 2 * (tot (lenN ss) ss.length - tot (natAt wr (w.heap.size + 1)) ss.length) + lenOf sv)
  case atStart => exact ⟨_, _, [], [0], rfl, HLI.out, HLP.out⟩
  case round =>
    clear HLI HLP
    obtain ⟨m, tr, ord, stk, rfl, hLI, hLP⟩ := hrel
    have HLI : Hid (LI ss w wr m tr ord stk _) := hLI
    have HLP : Hid (LP ss m tr ord stk) := hLP
    have HTOT : Hid (tot (natAt wr (w.heap.size + 1)) ss.length = tot tr ss.length) := tot_same fun j hj => natAt_row hLI.rowT hj
    clear hLI hLP
    by_cases hst : stk = []
    · subst hst
      rcases HLI.out.rowS.2 with ⟨hv, _⟩ | ⟨g, cap2, cur, hv, _⟩
      all_goals
        subst hv
        go_wp2
        exact HQ.out _ ord _ HLI.out.below (HLP.out.fin HOK.out) HLI.out.rowO
    · obtain ⟨ini, x, rfl⟩ := snoc_of hst
      obtain ⟨hmx, hxn⟩ := HLP.out.inS x (by simp)
      have hcount := HLP.out.count
      have hcle := cnt_le m ss.length
      rw [List.length_append, List.length_singleton] at hcount
      obtain ⟨g, cap2, hsv⟩ : ∃ g cap2, u6 = .slice (some ⟨g, 0, none⟩) (ini.length + 1) cap2 := by
        rcases HLI.out.rowS.2 with ⟨_, h0⟩ | ⟨g, cap2, cur, hv, _⟩
        · simp at h0
        · exact ⟨g, cap2, by simpa using hv⟩
      subst hsv
      have hown : wr.ownsRow (w.heap.size + 3) 3 1 (.slice (some ⟨g, 0, none⟩) (ini.length + 1) cap2) (ini.length + 1) (ini.map intV ++ [intV x]) := by
        have := HLI.out.rowS
        rwa [List.length_append, List.length_singleton, List.map_append] at this
      have hgl : w.heap.size + 3 ≤ g := (hown.lt _ rfl).1
      have hgr : g < wr.heap.size := (hown.lt _ rfl).2
      have hcap : ini.length + 1 ≤ cap2 := by
        rcases hown.2 with ⟨h0, _⟩ | ⟨g', cap', cur, hv, _, _, hn, _⟩
        · cases h0
        · cases hv; exact hn
      have HOWN : Hid _ := hown
      have cx : wr.cell? ⟨g, ini.length, none⟩ = some (.int .i64 (x : Int)) := by
        rw [hown.cellAt ini.length (by omega)]
        rw [List.getElem?_append_right (by simp)]
        simp [intV]
      clear hown
      obtain ⟨nu, cu, iu⟩ := HC.out x ss[x] (by simp [hxn])
      obtain ⟨nao, nb, no, ncap, rfl, hna, hnc⟩ := id iu
      have c7 := cell_keep HLI.out.below cu.c7
      have rt : wr.cell? ⟨w.heap.size + 1, x, none⟩ = some (.int .i64 (tr x : Int)) := HLI.out.rowT.cell hxn
      have ft := HLI.out.rowT.frozen x
      have hxi : (x : Int) < (ss.length : Int) := by omega
      have hss : ss[x]? = some ss[x] := by simp [hxn]
      have HSS : Hid (ss[x]? = some ss[x]) := hss
      have hlx := lenN_of hss
      have htl := HLP.out.tle x hxn
      have HNA : Hid _ := hna
      have HNC : Hid _ := hnc
      have h2 := step_many (ok_step HOK.out hss)
      clear hna hnc cu iu hss
      have hil : ini.length ≤ 60 := by omega
      have hol : ord.length < ss.length := by omega
      clear hcount hcle
      by_cases htx : tr x = ss[x].next.length
      · have hti : ((tr x : Nat) : Int) = (ss[x].next.length : Int) := by omega
        rw [htx] at rt
        have HO := HLI.out.rowO
        have HTX : Hid (tr x = lenN ss x) := by rw [hlx]; exact htx
        clear htx hlx htl
        go_wp2_with fail
        go_quiet (fail)
        go_wp2_with (at_builtin; refine wpList_append_fits _ rfl _ _ 55 rfl w.heap.size 3 i0 1 Tryd.underlying55 hi hz1 (w.heap.size + 2) ord.length ss.length (ord.map intV) rfl ((own_drewN HO _).alloc _) ⟨wr.heap.size, 0, none⟩ 1 1 [intV x] rfl rfl (cell_one_new (wr.drewN nq) _ _) (int_oneCell _ _) hol ?_; intro w4 hown4 hgrow4)
        have hL4 := (HLI.out.drewN nq).left hgrow4 hown4
        have HL4 : Hid _ := hL4
        have HT4 : Hid (tot (natAt w4 (w.heap.size + 1)) ss.length = tot tr ss.length) := tot_same fun j hj => natAt_row hL4.rowT hj
        clear hL4 hown4 hgrow4
        go_roundw
        case rel => exact ⟨m, tr, ord ++ [x], ini, by simp, HL4.out, HLP.out.pop HTX.out⟩
        case measure =>
          have e1 := HTOT.out
          have e2 := HT4.out
          simp [e1, e2, lenOf]
      · have htl2 : tr x < ss[x].next.length := by omega
        have hti : ((tr x : Nat) : Int) ≠ (ss[x].next.length : Int) := by omega
        obtain ⟨y, hy, hyn, hym⟩ := ok_next HOK.out HSS.out htl2
        obtain rfl := HNA.out (by omega)
        have cy := cell_keep HLI.out.below (HNC.out (tr x) htl2)
        rw [hy] at cy
        have ry : wr.cell? ⟨w.heap.size, y, none⟩ = some (.bool (m y)) := HLI.out.rowM.cell hyn
        have fy := HLI.out.rowM.frozen y
        have hyi : (y : Int) < (ss.length : Int) := by omega
        have HY : Hid (ss[x].next.getD (tr x) 0 = (y : Int)) := hy
        have htot : tot tr ss.length + 1 ≤ tot (lenN ss) ss.length := by
          have h1 := tot_set (f := tr) (v := tr x + 1) hxn
          have h2 : tot (fun j => if j = x then tr x + 1 else tr j) ss.length ≤ tot (lenN ss) ss.length := tot_le fun j hj => by
            by_cases e : j = x
            · subst e; rw [if_pos rfl]; omega
            · rw [if_neg e]; exact HLP.out.tle j hj
          omega
        have hset := tot_set (f := tr) (v := tr x + 1) hxn
        have HSET : Hid _ := hset
        clear hset htx hy hym hlx htl
        go_wp2_with fail
        go_quiet (fail)
        go_wp2_with fail
        go_quiet (fail)
        cases hmy : m y
        · rw [hmy] at ry
          have hLn : ∀ k, LI ss w (((wr.drewN k).setCell ⟨w.heap.size + 1, x, none⟩ (.int .i64 ((tr x : Int) + 1))).setCell ⟨w.heap.size, y, none⟩ (.bool true)) (fun j => if j = y then true else m j) (fun j => if j = x then tr x + 1 else tr j) ord (ini ++ [x]) (.slice (some ⟨g, 0, none⟩) (ini.length + 1) cap2) := fun k => ((HLI.out.drewN k).setT x (tr x + 1) (by omega)).setM y
          have hSn : ∀ k, World.ownsRow (((wr.drewN k).setCell ⟨w.heap.size + 1, x, none⟩ (.int .i64 ((tr x : Int) + 1))).setCell ⟨w.heap.size, y, none⟩ (.bool true)) (w.heap.size + 3) 3 1 (.slice (some ⟨g, 0, none⟩) (ini.length + 1) cap2) (ini.length + 1) (ini.map intV ++ [intV x]) := fun k => by
            have := (hLn k).rowS
            rwa [List.length_append, List.length_singleton, List.map_append] at this
          have HLn : Hid _ := hLn
          have HSn : Hid _ := hSn
          clear hLn hSn
          go_wp2_with (at_builtin; refine wpList_append_own _ rfl _ _ 55 rfl (w.heap.size + 3) 3 i0 (.int .i64 0) 1 8 Tryd.underlying55 hi hz0 hz1 hz2 rfl (by decide) (.slice (some ⟨g, 0, none⟩) (ini.length + 1) cap2) (ini.length + 1) (ini.map intV ++ [intV x]) rfl ((HSn.out _).alloc _) ⟨wr.heap.size, 0, none⟩ 1 1 [intV y] rfl rfl (cell_one_at _ _ _ (by simp)) (int_oneCell _ _) (by unfold maxLen; omega) (by omega) (by simp; omega) ?_; intro v' w5 hown5 hgrow5 _)
          have hL5 := (HLn.out _).pushed hgrow5 (by simpa using hown5) hgl
          have HL5 : Hid _ := hL5
          have HT5 : Hid (tot (natAt w5 (w.heap.size + 1)) ss.length = tot (fun j => if j = x then tr x + 1 else tr j) ss.length) := tot_same fun j hj => natAt_row hL5.rowT hj
          have HV5 : Hid (lenOf v' = ini.length + 2) := by
            rcases hown5.2 with ⟨_, h0⟩ | ⟨g', cap', cur, hv, _⟩
            · omega
            · rw [hv]; rfl
          clear hL5 hown5 hgrow5
          go_roundw
          case rel => exact ⟨_, _, ord, _, rfl, HL5.out, HLP.out.push HSS.out htl2 HY.out hyn hmy⟩
          case measure =>
            have e1 := HTOT.out
            have e2 := HT5.out
            have e3 := HV5.out
            have e4 := HSET.out
            have e5 : lenOf (.slice (some ⟨g, 0, none⟩) (ini.length + 1) cap2) = ini.length + 1 := rfl
            simp [e1, e2, e3, e5]
            omega
        · rw [hmy] at ry
          have hLn : ∀ k, LI ss w ((wr.drewN k).setCell ⟨w.heap.size + 1, x, none⟩ (.int .i64 ((tr x : Int) + 1))) m (fun j => if j = x then tr x + 1 else tr j) ord (ini ++ [x]) (.slice (some ⟨g, 0, none⟩) (ini.length + 1) cap2) := fun k => (HLI.out.drewN k).setT x (tr x + 1) (by omega)
          have HLn : Hid _ := hLn
          have HTn : Hid (∀ k, tot (natAt ((wr.drewN k).setCell ⟨w.heap.size + 1, x, none⟩ (.int .i64 ((tr x : Int) + 1))) (w.heap.size + 1)) ss.length = tot (fun j => if j = x then tr x + 1 else tr j) ss.length) := fun k => tot_same fun j hj => natAt_row (hLn k).rowT hj
          clear hLn
          go_wp2
          go_roundw
          case rel => exact ⟨m, _, ord, ini ++ [x], rfl, HLn.out _, HLP.out.seen HSS.out htl2 HY.out hmy⟩
          case measure =>
            have e1 := HTOT.out
            have e2 := HTn.out
            have e4 := HSET.out
            simp [e1, e2, lenOf]
            omega

set_option maxHeartbeats 1000000 in
theorem reachOf_any {Q : Ending → World → Prop} (v : Value) (ss : List St) (w : World) (h : StepsAt w v ss) (hok : okB ss = true)
    (hQ : ∀ v' rs w', Below w.heap.size w w' → IsReach ss rs → w'.ownsRow w.heap.size 4 1 v' ss.length (rs.map Value.bool) → Q (.returned v') w') :
    Calls Tryd.prog 78 #[v] w Q := by
  have HQ : Hid _ := hQ
  clear hQ
  obtain ⟨hn1, hn2⟩ := ok_len hok
  have HOK : Hid (okB ss = true) := hok
  obtain ⟨ao, b, o, cap, rfl, ha, hc⟩ := id h
  obtain rfl := ha (by omega)
  have HH : Hid (StepsAt w (.slice (some ⟨b, o, none⟩) ss.length cap) ss) := h
  clear ha hc h hok
  go_enter Tryd.func78, Tryd.ntmps78
  go_wp2_with (at_make; refine wpList_make_is _ rfl (.tmp 7) (.tmp 7) 30 rfl 4 (.bool false) 1 Tryd.underlying30 infoBool rfl .i64 .i64 ss.length rfl rfl (by omega) (by omega) ?_; intro w1 hrow1 hb1 hs1)
  refine leaveOrder_any _ ss _ (HH.out.keep hb1) HOK.out fun v2 ord w2 hb2 hord hown2 => ?_
  have hrow2 := rowIs_keep hrow1 hb2
  have HB2 : Hid (Below w.heap.size w w2) := hb1.trans (hb2.mono (by omega))
  have HR2 : Hid (w2.rowIs w.heap.size 4 ss.length (fun _ => .bool false)) := hrow2
  have HORD : Hid (IsOrder ss ord) := hord
  have hlen : ord.length ≤ 60 := by
    have h1 := hord.nodup
    have h2 : ord.length ≤ (List.range ss.length).length := h1.length_le_of_subset fun x hx => by simp [((hord.mem x).1 hx).1]
    simp at h2
    omega
  obtain ⟨r, hr⟩ := hord.last
  obtain ⟨g, cap2, hsv⟩ : ∃ g cap2, v2 = .slice (some ⟨g, 0, none⟩) ord.length cap2 := by
    rcases hown2.2 with ⟨_, h0⟩ | ⟨g, cap2, cur, hv, _⟩
    · rw [hr] at h0; simp at h0
    · exact ⟨g, cap2, hv⟩
  subst hsv
  have hg1 : w1.heap.size ≤ g := (hown2.lt _ rfl).1
  have HO2 : Hid (w2.ownsRow w1.heap.size 3 1 (.slice (some ⟨g, 0, none⟩) ord.length cap2) ord.length (ord.map intV)) := hown2
  clear hown2 hrow2 hb2 hrow1 hb1 hord hr
  go_wp2_with fail
  go_loopw [12] (fun i wr => ∃ k : Nat, k ≤ ord.length ∧ i = .int .i64 k ∧ Below w.heap.size w wr ∧ wr.rowIs w.heap.size 4 ss.length (fun j => .bool (decide (j ∈ ord.take k))) ∧ wr.ownsRow w1.heap.size 3 1 (.slice (some ⟨g, 0, none⟩) ord.length cap2) ord.length (ord.map intV)) (fun i _ => ord.length - (intOf i).toNat)
  case atStart => exact ⟨0, Nat.zero_le _, rfl, HB2.out, HR2.out.congr fun i _ => by simp, HO2.out⟩
  case round =>
    obtain ⟨k, hk, rfl, hb, hrow, hown⟩ := hrel
    have HB : Hid _ := hb
    have HROW : Hid (wr.rowIs w.heap.size 4 ss.length (fun j => .bool (decide (j ∈ ord.take k)))) := hrow
    have HOWN : Hid (wr.ownsRow w1.heap.size 3 1 (.slice (some ⟨g, 0, none⟩) ord.length cap2) ord.length (ord.map intV)) := hown
    by_cases hkl : k < ord.length
    · have hki : (k : Int) < (ord.length : Int) := by omega
      have hxn : ord[k] < ss.length := ((HORD.out.mem _).1 (List.getElem_mem hkl)).1
      have cx : wr.cell? ⟨g, k, none⟩ = some (.int .i64 (ord[k] : Int)) := by
        rw [hown.cellAt k (by omega)]
        simp [hkl, intV]
      have rx := hrow.cell hxn
      have fx := hrow.frozen ord[k]
      have hxi : (ord[k] : Int) < (ss.length : Int) := by omega
      have HE : Hid (ord.take (k + 1) = ord.take k ++ [ord[k]]) := List.take_succ_eq_append_getElem hkl
      clear hb hrow hown
      generalize ord[k] = x at *
      go_wp2
      go_roundw
      case rel =>
        refine ⟨k + 1, by omega, by go_num, HB.out.setCell (Nat.le_refl _) _, (HROW.out.set x _).congr fun i hi => ?_, ownsRow_setCell_below HOWN.out (by simp; omega) _⟩
        rw [HE.out]
        by_cases e : i = x
        · simp [e]
        · simp [e]
      case measure => simp [intOf]; omega
    · obtain rfl : k = ord.length := by omega
      have hki : ¬ (ord.length : Int) < (ord.length : Int) := by omega
      rw [List.take_of_length_le (Nat.le_refl _)] at HROW
      clear hb hrow hown
      go_wp2
      refine HQ.out _ ((List.range ss.length).map (fun j => decide (j ∈ ord))) _ HB.out ⟨by simp, fun i hi => ?_⟩ ?_
      · simp only [List.getElem?_map, List.getElem?_range hi, Option.map_some, Option.some.injEq, decide_eq_true_eq]
        exact ⟨fun h => ((HORD.out.mem i).1 h).2, fun h => (HORD.out.mem i).2 ⟨hi, h⟩⟩
      · rw [map_boolV]
        exact rowIs_own HROW.out (Nat.le_refl _) (by omega)
end Go.Proofs.YtljlgffkhocgkaaDoor
