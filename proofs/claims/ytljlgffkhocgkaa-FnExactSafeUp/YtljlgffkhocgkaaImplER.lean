/- What steps reckon, as the program keeps it: a map, a list, and words of bits; numberOf. -/
import Derived.Test.YtljlgffkhocgkaaKeyE
import Derived.Test.YtljlgffkhocgkaaBits
import Derived.Test.YtljlgffkhocgkaaOwnK
import Derived.Deep.AppendLies
import Derived.Deep.MidRow
import Derived.Deep.RegionLaw
import Derived.Deep.QuietTactic
import Derived.Deep.RegionHeld3
import Derived.BigQuiet
namespace Go.Proofs.Ytljlgffkhocgkaa
open Go.RowKit Go.Maps

/-- A reckoning's five cells. -/
def exC (e : E5) : List Value := [.int .i64 e.op, .int .i64 e.av, .int .i64 e.an, .int .i64 e.bv, .int .i64 e.bn]

theorem length_exC (es : List E5) : (es.flatMap exC).length = es.length * 5 := by
  induction es with
  | nil => rfl
  | cons e r ih => simp only [List.flatMap_cons, List.length_append, ih, List.length_cons]; simp [exC]; omega

theorem zeroInt (w : World) : (zeroValue 3).run Try.prog w = .ok (.int .i64 0) w := by kernel_rfl

theorem infoExpr : (Try.prog.info? 38).map (fun i => (i.zero, i.size, i.bytes)) = some (some (.agg #[.int .i64 0, .int .i64 0, .int .i64 0, .int .i64 0, .int .i64 0]), 5, 40) := by kernel_rfl

theorem infoSetR : (Try.prog.info? 75).map (fun i => (i.zero, i.size, i.bytes)) = some (some (.int .u64 0), 1, 8) := by kernel_rfl

theorem info_partsR {t : TypeId} {z : Value} {n k : Nat} (h : (Try.prog.info? t).map (fun i => (i.zero, i.size, i.bytes)) = some (some z, n, k)) : ∃ i, Try.prog.info? t = some i ∧ i.zero = some z ∧ i.size = n ∧ i.bytes = k := by
  simp only [Option.map_eq_some_iff, Prod.mk.injEq] at h
  obtain ⟨i, h1, h2, h3, h4⟩ := h
  exact ⟨i, h1, h2, h3, h4⟩

/-- What is kept of steps' reckonings, in memory: the struct's block R, the map's block M. -/
structure RS (lo M R : Nat) (W : World) (es : List E5) (bs : List (BitVec 64)) (D : DataW Unit) (lv sv : Value) : Prop where
  row : W.rowIs R 115 3 (fun j => if j = 0 then .map (some M) else if j = 1 then lv else sv)
  lst : W.ownsRow lo 38 5 lv es.length (es.flatMap exC)
  stp : W.ownsRow lo 75 1 sv bs.length (bs.map bsV)
  map : W.ownsMap Try.prog 38 (plainElem Try.prog 3) M es.length D
  agr : Agr D es
  len : bs.length = es.length

theorem RS.keep {lo M R : Nat} {W W' : World} {es : List E5} {bs : List (BitVec 64)} {D : DataW Unit} {lv sv : Value} (h : RS lo M R W es bs D lv sv) (hb : Below W.heap.size W W') : RS lo M R W' es bs D lv sv where
  row := rowIs_keep h.row hb
  lst := ownsRow_out h.lst (Out.of_below (lo := 0) (hi := 0) hb) (fun _ _ => Or.inr (Nat.zero_le _))
  stp := ownsRow_out h.stp (Out.of_below (lo := 0) (hi := 0) hb) (fun _ _ => Or.inr (Nat.zero_le _))
  map := by
    obtain ⟨es', clock, h1, h2⟩ := h.map
    exact ⟨es', clock, (hb.block M h.map.lt).trans h1, h2⟩
  agr := h.agr
  len := h.len

theorem own_form {w : World} {lo : Nat} {e : TypeId} {s : Nat} {v : Value} {n : Nat} {xs : List Value} (h : w.ownsRow lo e s v n xs) : ∃ A c, v = .slice A n c := by
  rcases h.2 with ⟨e1, e2⟩ | ⟨g', c, _, e1, _⟩
  · exact ⟨none, 0, by rw [e2]; exact e1⟩
  · exact ⟨_, _, e1⟩

theorem exC_one (e : E5) : ∀ u ∈ exC e, u.oneCell' = true := by
  intro u hu
  simp [exC] at hu
  rcases hu with rfl | rfl | rfl | rfl | rfl <;> rfl

theorem exC_new (W : World) (e : E5) (t : TypeId) : ∀ j u, (exC e)[j]? = some u → (W.alloc (.cells #[.int .i64 e.op, .int .i64 e.av, .int .i64 e.an, .int .i64 e.bv, .int .i64 e.bn] t)).cell? ((⟨W.heap.size, 0, none⟩ : Addr).add j) = some u := by
  intro j u hj
  rw [Addr.add_mid, Nat.zero_add]
  have hl : j < 5 := (List.getElem?_eq_some_iff.1 hj).1
  match j, hl, hj with
  | 0, _, hj => simpa [exC, go_sem] using hj
  | 1, _, hj => simpa [exC, go_sem] using hj
  | 2, _, hj => simpa [exC, go_sem] using hj
  | 3, _, hj => simpa [exC, go_sem] using hj
  | 4, _, hj => simpa [exC, go_sem] using hj
  | n + 5, h, _ => omega

theorem cell_far {W W' : World} {row : Option Nat} {a : Addr} {v : Value} (h : W.cell? a = some v) (hg : W.grownBy W' row) (hne : some a.block ≠ row) : W'.cell? a = some v :=
  (World.cell?_of_block (w := W) (a := a) (hg.block a.block (cell_lt h) hne)).trans h

theorem rowIs_far {W W' : World} {row : Option Nat} {b n : Nat} {t : TypeId} {f : Nat → Value} (h : W.rowIs b t n f) (hg : W.grownBy W' row) (hne : some b ≠ row) : W'.rowIs b t n f :=
  h.of_block (hg.block b h.lt hne)

theorem own_ne {w : World} {lo : Nat} {e : TypeId} {s : Nat} {v : Value} {n : Nat} {xs : List Value} (h : w.ownsRow lo e s v n xs) {b : Nat} (hb : b < lo) : some b ≠ v.ownBlock := fun q => by
  have := (h.lt b q.symm).1
  omega

theorem own_farE {w w' : World} {lo : Nat} {e : TypeId} {s : Nat} {v : Value} {n : Nat} {xs : List Value} {row : Option Nat} (h : w.ownsRow lo e s v n xs) (hg : w.grownBy w' row) (hne : v.ownBlock = none ∨ v.ownBlock ≠ row) : w'.ownsRow lo e s v n xs := h.kept hg hne

set_option maxRecDepth 100000 in
set_option maxHeartbeats 2000000 in
theorem numberOf_any {Q : Ending → World → Prop} (lo M R : Nat) (hMR : M < R) (hRl : R < lo) (W : World) (es : List E5) (bs : List (BitVec 64)) (D : DataW Unit) (lv sv : Value) (h : RS lo M R W es bs D lv sv) (hlo : lo ≤ W.heap.size) (hn : es.length ≤ 60) (e : E5) (he : exprB e = true)
    (hQ : ∀ (i : Nat) W' es' bs' D' lv' sv', RS lo M R W' es' bs' D' lv' sv' → Below M W W' → es'[i]? = some e → ((e ∈ es ∧ es' = es ∧ bs' = bs) ∨ (e ∉ es ∧ es' = es ++ [e] ∧ bs' = bs ++ [0#64])) → Q (.returned (.int .i64 (i : Int))) W') :
    Calls Try.prog 77 #[.pointer (some ⟨R, 0, none⟩), exV e] W Q := by
  have HQ : Hid _ := hQ
  clear hQ
  have HH : Hid (RS lo M R W es bs D lv sv) := h
  have HE : Hid (exprB e = true) := he
  have hex : exV e = .agg #[.int .i64 e.op, .int .i64 e.av, .int .i64 e.an, .int .i64 e.bv, .int .i64 e.bn] := rfl
  have hRW : R < W.heap.size := by omega
  obtain ⟨A, c, hlv⟩ := own_form h.lst
  subst hlv
  obtain ⟨i0, hi, hz0, hz1, hz2⟩ := info_partsR infoExpr
  have hkey := keyE he
  rw [hex] at hkey ⊢
  clear hex
  obtain ⟨W1, hW1⟩ : ∃ W1, W.alloc (.cells #[.int .i64 e.op, .int .i64 e.av, .int .i64 e.an, .int .i64 e.bv, .int .i64 e.bn] 38) = W1 := ⟨_, rfl⟩
  have hbW : Below W.heap.size W W1 := hW1 ▸ (Below.refl _ _).alloc (Nat.le_refl _) _
  have h1 := h.keep hbW
  obtain ⟨cc, hrunN, HC0⟩ : ∃ cc : Int, (∀ n, (Instr.lookup 111 (.map (some M)) (.agg #[.int .i64 e.op, .int .i64 e.av, .int .i64 e.an, .int .i64 e.bv, .int .i64 e.bn]) true).run Try.prog (W1.drewN n) = .ok (.tuple #[.int .i64 cc, .bool (decide (e ∈ es))]) (W1.drewN n)) ∧ D.atKey (klE e) (.lit (.int .i64 0)) = .lit (.int .i64 cc) := by
    obtain ⟨v, ps, hrun, hRv⟩ := h1.map.look_ok lawE Try.underlying111 (zeroInt _) (plainElem_int Try.underlying3 (by decide)) hkey
    obtain ⟨cc, rfl, hc, _⟩ := plainElem_int_inv Try.underlying3 hRv
    refine ⟨cc, fun n => ?_, congrArg Prod.fst hc⟩
    have h1n : (W1.drewN n).ownsMap Try.prog 38 (plainElem Try.prog 3) M es.length D := h1.map
    obtain ⟨v', ps', hrun', hRv'⟩ := h1n.look_ok lawE Try.underlying111 (zeroInt _) (plainElem_int Try.underlying3 (by decide)) hkey
    obtain ⟨c', rfl, hc', _⟩ := plainElem_int_inv Try.underlying3 hRv'
    have e1 : c' = cc := by
      have a1 : D.atKey (klE e) (.lit (.int .i64 0)) = .lit (.int .i64 cc) := congrArg Prod.fst hc
      have a2 : D.atKey (klE e) (.lit (.int .i64 0)) = .lit (.int .i64 c') := congrArg Prod.fst hc'
      have a3 := a2.symm.trans a1
      simpa using a3
    rw [(h.agr e he).1] at hrun'
    rw [hrun', e1]
  have c0 : W1.cell? ⟨R, 0, none⟩ = some (.map (some M)) := h1.row.cell (i := 0) (by omega)
  have c1 : W1.cell? ⟨R, 1, none⟩ = some (.slice A es.length c) := h1.row.cell (i := 1) (by omega)
  have z0 : W1.cell? ⟨W.heap.size, 0, none⟩ = some (.int .i64 e.op) := by rw [← hW1]; simp [go_sem]
  have z1 : W1.cell? ⟨W.heap.size, 1, none⟩ = some (.int .i64 e.av) := by rw [← hW1]; simp [go_sem]
  have z2 : W1.cell? ⟨W.heap.size, 2, none⟩ = some (.int .i64 e.an) := by rw [← hW1]; simp [go_sem]
  have z3 : W1.cell? ⟨W.heap.size, 3, none⟩ = some (.int .i64 e.bv) := by rw [← hW1]; simp [go_sem]
  have z4 : W1.cell? ⟨W.heap.size, 4, none⟩ = some (.int .i64 e.bn) := by rw [← hW1]; simp [go_sem]
  have HH1 : Hid (RS lo M R W1 es bs D (.slice A es.length c) sv) := h1
  have HBW : Hid (Below W.heap.size W W1) := hbW
  have hs1 : W1.heap.size = W.heap.size + 1 := by rw [← hW1]; simp
  have HC : Hid (D.atKey (klE e) (.lit (.int .i64 0)) = .lit (.int .i64 cc)) := HC0
  clear h h1 hbW HC0
  go_enter Try.func77, Try.ntmps77
  go_wp2_with fail
  go_quiet (fail)
  by_cases hm : e ∈ es
  · obtain ⟨i, hi⟩ := List.mem_iff_getElem?.1 hm
    have hci : cc = (i : Int) := by
      have h2 := (HH1.out.agr e HE.out).2 i hi
      have h3 := HC.out.symm.trans h2
      simpa using h3
    subst hci
    have HI : Hid (es[i]? = some e) := hi
    have HM : Hid (e ∈ es) := hm
    clear hi
    simp only [hm, decide_true]
    clear hm hrunN
    go_wp2
    exact HQ.out i _ es bs D _ sv (HH1.out.keep (below_drewN (Below.refl _ _) _)) ((below_drewN HBW.out _).mono (by omega)) HI.out (Or.inl ⟨HM.out, rfl, rfl⟩)
  · have HM : Hid (e ∉ es) := hm
    simp only [hm, decide_false]
    clear hrunN hm
    have HH2 : Hid (RS lo M R (W1.drewN nq) es bs D (.slice A es.length c) sv) := HH1.out.keep (below_drewN (Below.refl _ _) _)
    have HB2 : Hid (Below W.heap.size W (W1.drewN nq)) := below_drewN HBW.out _
    have hs2 : (W1.drewN nq).heap.size = W.heap.size + 1 := hs1
    replace c0 : (W1.drewN nq).cell? ⟨R, 0, none⟩ = some (.map (some M)) := c0
    replace c1 : (W1.drewN nq).cell? ⟨R, 1, none⟩ = some (.slice A es.length c) := c1
    replace z0 : (W1.drewN nq).cell? ⟨W.heap.size, 0, none⟩ = some (.int .i64 e.op) := z0
    replace z1 : (W1.drewN nq).cell? ⟨W.heap.size, 1, none⟩ = some (.int .i64 e.av) := z1
    replace z2 : (W1.drewN nq).cell? ⟨W.heap.size, 2, none⟩ = some (.int .i64 e.an) := z2
    replace z3 : (W1.drewN nq).cell? ⟨W.heap.size, 3, none⟩ = some (.int .i64 e.bv) := z3
    replace z4 : (W1.drewN nq).cell? ⟨W.heap.size, 4, none⟩ = some (.int .i64 e.bn) := z4
    clear HH1 HBW hW1 hs1
    generalize W1.drewN nq = W2 at *
    go_wp2_with fail
    obtain ⟨W3, hup, hmap3, hgr3⟩ := (show W2.drew.ownsMap Try.prog 38 (plainElem Try.prog 3) M es.length D from HH2.out.map).update lawE Try.underlying111 (by unfold maxLen; omega) hkey (plainElem_int Try.underlying3 (a := (es.length : Int)) (WalkArith.wf_i64 (by omega)))
    have HUP : Hid (W3.ownsMap Try.prog 38 (plainElem Try.prog 3) M (es.length + 1) (D.put (klE e) (.lit (.int .i64 (es.length : Int))))) := hmap3
    have HGR : Hid (W2.drew.grownBy W3 (some M)) := hgr3
    have hne : W.heap.size ≠ M := by omega
    have x0 : W3.cell? ⟨R, 0, none⟩ = some (.map (some M)) := cell_far (W := W2.drew) c0 hgr3 (by simp; omega)
    have x1 : W3.cell? ⟨R, 1, none⟩ = some (.slice A es.length c) := cell_far (W := W2.drew) c1 hgr3 (by simp; omega)
    have y0 : W3.cell? ⟨W.heap.size, 0, none⟩ = some (.int .i64 e.op) := cell_far (W := W2.drew) z0 hgr3 (by simp; omega)
    have y1 : W3.cell? ⟨W.heap.size, 1, none⟩ = some (.int .i64 e.av) := cell_far (W := W2.drew) z1 hgr3 (by simp; omega)
    have y2 : W3.cell? ⟨W.heap.size, 2, none⟩ = some (.int .i64 e.an) := cell_far (W := W2.drew) z2 hgr3 (by simp; omega)
    have y3 : W3.cell? ⟨W.heap.size, 3, none⟩ = some (.int .i64 e.bv) := cell_far (W := W2.drew) z3 hgr3 (by simp; omega)
    have y4 : W3.cell? ⟨W.heap.size, 4, none⟩ = some (.int .i64 e.bn) := cell_far (W := W2.drew) z4 hgr3 (by simp; omega)
    have hs3 : W.heap.size + 1 ≤ W3.heap.size := by have := hgr3.size; simp at this; omega
    clear hmap3 hgr3
    go_region_held3 (fun wx => wx.cell? ⟨R, 0, none⟩ = some (.map (some M)) ∧ wx.cell? ⟨W.heap.size, 0, none⟩ = some (.int .i64 e.op) ∧ wx.cell? ⟨W.heap.size, 1, none⟩ = some (.int .i64 e.av) ∧ wx.cell? ⟨W.heap.size, 2, none⟩ = some (.int .i64 e.an) ∧ wx.cell? ⟨W.heap.size, 3, none⟩ = some (.int .i64 e.bv) ∧ wx.cell? ⟨W.heap.size, 4, none⟩ = some (.int .i64 e.bn)) (go_keep) (fail)
    all_goals
      have HB3 : Hid (Below M W W3) := ((HB2.out.drew).mono (by omega)).grown HGR.out (by show M ≤ W2.heap.size; omega) (fun q hq => by cases hq; exact Nat.le_refl _)
      have HL3 : Hid (W3.ownsRow lo 38 5 (.slice A es.length c) es.length (es.flatMap exC)) := own_farE (w := W2.drew) HH2.out.lst HGR.out (Or.inr fun q => own_ne HH2.out.lst (show M < lo by omega) q.symm)
      have HS3 : Hid (W3.ownsRow lo 75 1 sv bs.length (bs.map bsV)) := own_farE (w := W2.drew) HH2.out.stp HGR.out (Or.inr fun q => own_ne HH2.out.stp (show M < lo by omega) q.symm)
      have HR3 : Hid (W3.rowIs R 115 3 (fun j => if j = 0 then .map (some M) else if j = 1 then .slice A es.length c else sv)) := rowIs_far (W := W2.drew) HH2.out.row HGR.out (by simp; omega)
      have HNB : Hid (some W.heap.size ≠ (Value.slice A es.length c).ownBlock) := fun q => by have := (HH.out.lst.lt _ q.symm).2; omega
      clear hup z0 z1 z2 z3 z4 c0 c1
      go_wp2_with fail
      have hRn : ¬ W.heap.size = R := by omega
      have hRn' : ¬ R = W.heap.size := by omega
      have hR3 : R < W3.heap.size := by omega
      have hR4 : ¬ R = W3.heap.size := by omega
      have hE3 : W.heap.size < W3.heap.size := by omega
      have hE4 : ¬ W.heap.size = W3.heap.size := by omega
      go_region_law (first | (refine step_append_lies _ rfl (.tmp 33) (.tmp 35) 112 rfl lo 38 i0 (.agg #[.int .i64 0, .int .i64 0, .int .i64 0, .int .i64 0, .int .i64 0]) 5 40 Try.underlying112 hi hz0 hz1 hz2 rfl (by decide) (.slice A es.length c) es.length (es.flatMap exC) (by simp [Act.eval]) ((show W3.drew.ownsRow lo 38 5 (.slice A es.length c) es.length (es.flatMap exC) from HL3.out).alloc _) ⟨W3.heap.size, 0, none⟩ 1 1 (exC e) (by simp [Act.eval]) rfl (exC_new W3.drew e _) (exC_one e) (by decide) (by unfold maxLen; omega) (by omega) (by simp; omega) (W3.heap.size + 1) (by simp) ?_; intro g5 cap5 W5 hown5 hgrow5 hat5 hlt5; have q0 : W5.cell? ⟨R, 1, none⟩ = some (.slice A es.length c) := cell_far (W := W3.drew.alloc _) (cell_keep (w := W3.drew) ((Below.refl _ _).alloc (Nat.le_refl _) _) x1) hgrow5 (own_ne HL3.out (show R < lo by omega)); have u0 : W5.cell? ⟨W.heap.size, 0, none⟩ = some (.int .i64 e.op) := cell_far (W := W3.drew.alloc _) (cell_keep (w := W3.drew) ((Below.refl _ _).alloc (Nat.le_refl _) _) y0) hgrow5 HNB.out; have u1 : W5.cell? ⟨W.heap.size, 1, none⟩ = some (.int .i64 e.av) := cell_far (W := W3.drew.alloc _) (cell_keep (w := W3.drew) ((Below.refl _ _).alloc (Nat.le_refl _) _) y1) hgrow5 HNB.out; have u2 : W5.cell? ⟨W.heap.size, 2, none⟩ = some (.int .i64 e.an) := cell_far (W := W3.drew.alloc _) (cell_keep (w := W3.drew) ((Below.refl _ _).alloc (Nat.le_refl _) _) y2) hgrow5 HNB.out; have u3 : W5.cell? ⟨W.heap.size, 3, none⟩ = some (.int .i64 e.bv) := cell_far (W := W3.drew.alloc _) (cell_keep (w := W3.drew) ((Below.refl _ _).alloc (Nat.le_refl _) _) y3) hgrow5 HNB.out; have u4 : W5.cell? ⟨W.heap.size, 4, none⟩ = some (.int .i64 e.bn) := cell_far (W := W3.drew.alloc _) (cell_keep (w := W3.drew) ((Below.refl _ _).alloc (Nat.le_refl _) _) y4) hgrow5 HNB.out; have f5 : W5.frozen? ⟨R, 1, none⟩ = false := (rowIs_far (W := W3.drew.alloc _) (rowIs_keep (w := W3.drew) HR3.out ((Below.refl _ _).alloc (Nat.le_refl _) _)) hgrow5 (own_ne HL3.out (show R < lo by omega))).frozen 1))
      all_goals
        have HB5 : Hid (Below M W W5) := (((HB3.out.drew).alloc (by show M ≤ W3.heap.size; omega) _).grown hgrow5 (by simp; omega) (fun q hq => by have := (HL3.out.lt q hq).1; omega))
        have HL5 : Hid (W5.ownsRow lo 38 5 (.slice (some ⟨g5, 0, none⟩) (es.length + 1) cap5) (es.length + 1) (es.flatMap exC ++ exC e)) := hown5
        have HS5 : Hid (W5.ownsRow lo 75 1 sv bs.length (bs.map bsV)) := own_farE (w := W3.drew.alloc _) ((show W3.drew.ownsRow lo 75 1 sv bs.length (bs.map bsV) from HS3.out).alloc _) hgrow5 (own_diff HS3.out HL3.out (by decide))
        have HR5 : Hid (W5.rowIs R 115 3 (fun j => if j = 0 then .map (some M) else if j = 1 then .slice A es.length c else sv)) := rowIs_far (W := W3.drew.alloc _) (rowIs_keep (w := W3.drew) HR3.out ((Below.refl _ _).alloc (Nat.le_refl _) _)) hgrow5 (own_ne HL3.out (show R < lo by omega))
        have HM5 : Hid (W5.ownsMap Try.prog 38 (plainElem Try.prog 3) M (es.length + 1) (D.put (klE e) (.lit (.int .i64 (es.length : Int))))) := (HUP.out.drew.alloc _).kept hgrow5 (own_ne HL3.out (show M < lo by omega))
        have HB6 : Hid (Below M W (W5.setCell ⟨R, 1, none⟩ (.slice (some ⟨g5, 0, none⟩) (es.length + 1) cap5))) := HB5.out.setCell (p := ⟨R, 1, none⟩) (by show M ≤ R; omega) _
        have HO : ∀ u, Out R (R + 1) W5 (W5.setCell ⟨R, 1, none⟩ u) := fun u => Out.setCell (lo := R) (hi := R + 1) (Out.refl _ _ _) (p := ⟨R, 1, none⟩) (Nat.le_refl _) (Nat.lt_succ_self _) u
        have HL6 : Hid ((W5.setCell ⟨R, 1, none⟩ (.slice (some ⟨g5, 0, none⟩) (es.length + 1) cap5)).ownsRow lo 38 5 (.slice (some ⟨g5, 0, none⟩) (es.length + 1) cap5) (es.length + 1) (es.flatMap exC ++ exC e)) := ownsRow_out HL5.out (HO _) (fun q hq => Or.inr (by have := (HL5.out.lt q hq).1; omega))
        have HS6 : Hid ((W5.setCell ⟨R, 1, none⟩ (.slice (some ⟨g5, 0, none⟩) (es.length + 1) cap5)).ownsRow lo 75 1 sv bs.length (bs.map bsV)) := ownsRow_out HS5.out (HO _) (fun q hq => Or.inr (by have := (HS5.out.lt q hq).1; omega))
        have HR6 : Hid ((W5.setCell ⟨R, 1, none⟩ (.slice (some ⟨g5, 0, none⟩) (es.length + 1) cap5)).rowIs R 115 3 (fun j => if j = 1 then .slice (some ⟨g5, 0, none⟩) (es.length + 1) cap5 else if j = 0 then .map (some M) else if j = 1 then .slice A es.length c else sv)) := HR5.out.set 1 _
        have HM6 : Hid ((W5.setCell ⟨R, 1, none⟩ (.slice (some ⟨g5, 0, none⟩) (es.length + 1) cap5)).ownsMap Try.prog 38 (plainElem Try.prog 3) M (es.length + 1) (D.put (klE e) (.lit (.int .i64 (es.length : Int))))) := HM5.out.setCell (by show M ≠ R; omega) _
        have hs6 : lo ≤ (W5.setCell ⟨R, 1, none⟩ (.slice (some ⟨g5, 0, none⟩) (es.length + 1) cap5)).heap.size := by have := HB6.out.size; omega
        clear HO hown5 hgrow5 hat5 hlt5 q0 u0 u1 u2 u3 u4 f5 HB5 HL5 HS5 HR5 HM5
        generalize W5.setCell ⟨R, 1, none⟩ (.slice (some ⟨g5, 0, none⟩) (es.length + 1) cap5) = W6 at *
        obtain ⟨A2, c2, hsv⟩ := own_form HS6.out
        subst hsv
        obtain ⟨i1, hj, hy0, hy1, hy2⟩ := info_partsR infoSetR
        have k2 : W6.cell? ⟨R, 2, none⟩ = some (.slice A2 bs.length c2) := HR6.out.cell (i := 2) (by omega)
        have hbl : bs.length ≤ 60 := by have := HH2.out.len; omega
        go_wp2_with (at_builtin; refine wpList_append_lies _ rfl _ _ 113 rfl lo 75 i1 (.int .u64 0) 1 8 Try.underlying113 hj hy0 hy1 hy2 rfl (by decide) (.slice A2 bs.length c2) bs.length (bs.map bsV) rfl (HS6.out.alloc _) ⟨W6.heap.size, 0, none⟩ 1 1 [.int .u64 0] rfl rfl (cell_one_new W6 _ _) (fun u hu => by simp at hu; subst hu; rfl) (by decide) (by unfold maxLen; omega) (by omega) (by simp; omega) (W6.heap.size + 1) (by simp) ?_; intro g7 cap7 W7 hown7 hgrow7 hat7 hlt7; have r7 := rowIs_far (W := W6.alloc _) (HR6.out.alloc _) hgrow7 (own_ne HS6.out (show R < lo by omega)); have k3 := r7.cell (i := 2) (by omega); have f3 := r7.frozen 2)
        have HB7 : Below M W W7 := ((HB6.out.alloc (by omega) _).grown hgrow7 (by simp; omega) (fun q hq => by have := (HS6.out.lt q hq).1; omega))
        have HL7 := own_farE (w := W6.alloc (.cells #[.int .u64 0] 75)) (HL6.out.alloc _) hgrow7 (own_diff HL6.out HS6.out (by decide))
        have HM7 := (HM6.out.alloc (.cells #[.int .u64 0] 75)).kept hgrow7 (own_ne HS6.out (show M < lo by omega))
        have HO : Out R (R + 1) W7 (W7.setCell ⟨R, 2, none⟩ (.slice (some ⟨g7, 0, none⟩) (bs.length + 1) cap7)) := Out.setCell (lo := R) (hi := R + 1) (Out.refl _ _ _) (p := ⟨R, 2, none⟩) (Nat.le_refl _) (Nat.lt_succ_self _) _
        refine HQ.out es.length _ (es ++ [e]) (bs ++ [0#64]) _ (.slice (some ⟨g5, 0, none⟩) (es.length + 1) cap5) (.slice (some ⟨g7, 0, none⟩) (bs.length + 1) cap7) ⟨(r7.set 2 _).congr fun j hj => ?_, ?_, ?_, ?_, HH2.out.agr.snoc HH2.out.map.isMap HE.out HM.out, by have := HH2.out.len; simp; omega⟩ (HB7.setCell (p := ⟨R, 2, none⟩) (by show M ≤ R; omega) _) (by simp) (Or.inr ⟨HM.out, rfl, rfl⟩)
        · match j, hj with
          | 0, _ => rfl
          | 1, _ => rfl
          | 2, _ => rfl
          | n + 3, h => omega
        · rw [List.length_append, List.length_singleton, List.flatMap_append]
          have := ownsRow_out HL7 HO (fun q hq => Or.inr (by have := (HL7.lt q hq).1; omega))
          simpa using this
        · rw [List.length_append, List.length_singleton, List.map_append]
          exact ownsRow_out hown7 HO (fun q hq => Or.inr (by have := (hown7.lt q hq).1; omega))
        · rw [List.length_append, List.length_singleton]
          exact HM7.setCell (by show M ≠ R; omega) _
end Go.Proofs.Ytljlgffkhocgkaa
