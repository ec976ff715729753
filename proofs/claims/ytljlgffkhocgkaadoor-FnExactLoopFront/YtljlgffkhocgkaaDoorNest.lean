/- What the program's nestOf makes: of each step those ahead of it, and those over which it stands. -/
import Derived.Test.YtljlgffkhocgkaaDoorBits
import Derived.Test.YtljlgffkhocgkaaDoorWayUp
import Derived.Test.YtljlgffkhocgkaaDoorOnB
import Derived.Stop.RegionWithIn
import Derived.RegionIn
import Derived.Sort.CutIn
namespace Go.Proofs.YtljlgffkhocgkaaDoor
open Go.RowKit Go.Shelf

attribute [local go_sem] Oper.semAt_some

def setOf (ps : List Nat) : BitVec 64 := ps.foldl addB 0#64

theorem setOf_snoc (ps : List Nat) (p : Nat) : setOf (ps ++ [p]) = addB (setOf ps) p := by simp [setOf]

theorem setOf_get {ps : List Nat} (h : ∀ p ∈ ps, p < 64) {j : Nat} (hj : j < 64) : (setOf ps).getLsbD j = decide (j ∈ ps) := by
  have main : ∀ (ps : List Nat) (b : BitVec 64), (∀ p ∈ ps, p < 64) → (ps.foldl addB b).getLsbD j = (b.getLsbD j || decide (j ∈ ps)) := by
    intro ps
    induction ps with
    | nil => intro b _; simp
    | cons p ps ih =>
      intro b hp
      simp only [List.foldl_cons]
      rw [ih _ (fun q hq => hp q (List.mem_cons_of_mem _ hq)), addB_get (hp p (by simp)) hj]
      by_cases e : j = p <;> simp [e]
  have := main ps 0#64 h
  simpa [setOf] using this

theorem infoSet : (Tryd.prog.info? 66).map (fun i => (i.zero, i.size, i.bytes)) = some (some (.int .u64 0), 1, 8) := by kernel_rfl

structure NM (w : World) (nb ag ug n : Nat) (ah un : Nat → BitVec 64) : Prop where
  c0 : w.cell? ⟨nb, 0, none⟩ = some (.slice (some ⟨ag, 0, none⟩) n n)
  c1 : w.cell? ⟨nb, 1, none⟩ = some (.slice (some ⟨ug, 0, none⟩) n n)
  rowA : w.rowIs ag 66 n (fun j => bsV (ah j))
  rowU : w.rowIs ug 66 n (fun j => bsV (un j))
  ne1 : nb ≠ ag
  ne2 : nb ≠ ug
  ne3 : ag ≠ ug

theorem NM.keep {w w' : World} {nb ag ug n : Nat} {ah un : Nat → BitVec 64} (h : NM w nb ag ug n ah un) (hb : Below w.heap.size w w') : NM w' nb ag ug n ah un :=
  ⟨cell_keep hb h.c0, cell_keep hb h.c1, rowIs_keep h.rowA hb, rowIs_keep h.rowU hb, h.ne1, h.ne2, h.ne3⟩

theorem NM.drew {w : World} {nb ag ug n : Nat} {ah un : Nat → BitVec 64} (h : NM w nb ag ug n ah un) : NM w.drew nb ag ug n ah un := h.keep ((Below.refl _ _).drew)

theorem NM.addA {w : World} {nb ag ug n : Nat} {ah un : Nat → BitVec 64} (h : NM w nb ag ug n ah un) (x : Nat) (b : BitVec 64) : NM (w.setCell ⟨ag, x, none⟩ (bsV b)) nb ag ug n (fun j => if j = x then b else ah j) un :=
  ⟨by rw [cell_setOther _ _ _ _ h.ne1]; exact h.c0, by rw [cell_setOther _ _ _ _ h.ne1]; exact h.c1, (h.rowA.set x _).congr fun j _ => by by_cases e : j = x <;> simp [e], h.rowU.setOther (Ne.symm h.ne3) _, h.ne1, h.ne2, h.ne3⟩

theorem NM.addU {w : World} {nb ag ug n : Nat} {ah un : Nat → BitVec 64} (h : NM w nb ag ug n ah un) (x : Nat) (b : BitVec 64) : NM (w.setCell ⟨ug, x, none⟩ (bsV b)) nb ag ug n ah (fun j => if j = x then b else un j) :=
  ⟨by rw [cell_setOther _ _ _ _ h.ne2]; exact h.c0, by rw [cell_setOther _ _ _ _ h.ne2]; exact h.c1, h.rowA.setOther h.ne3 _, (h.rowU.set x _).congr fun j _ => by by_cases e : j = x <;> simp [e], h.ne1, h.ne2, h.ne3⟩

theorem NM.congr {w : World} {nb ag ug n : Nat} {ah un ah' un' : Nat → BitVec 64} (h : NM w nb ag ug n ah un) (e1 : ∀ j, j < n → ah' j = ah j) (e2 : ∀ j, j < n → un' j = un j) : NM w nb ag ug n ah' un' :=
  ⟨h.c0, h.c1, h.rowA.congr fun j hj => by rw [e1 j hj], h.rowU.congr fun j hj => by rw [e2 j hj], h.ne1, h.ne2, h.ne3⟩

theorem heap_of4 (w : World) (O O1 O2 O3 : Obj) : ((((w.alloc O).alloc O1).alloc O2).alloc O3).drew.heap[w.heap.size]? = some O ∧ ((((w.alloc O).alloc O1).alloc O2).alloc O3).drew.heap[w.heap.size + 1]? = some O1 ∧ ((((w.alloc O).alloc O1).alloc O2).alloc O3).drew.heap[w.heap.size + 1 + 1]? = some O2 ∧ ((((w.alloc O).alloc O1).alloc O2).alloc O3).drew.heap[w.heap.size + 1 + 1 + 1]? = some O3 := by
  have a0 := World.alloc_heap_new w O
  have a1 := World.alloc_heap_new (w.alloc O) O1
  have a2 := World.alloc_heap_new ((w.alloc O).alloc O1) O2
  have a3 := World.alloc_heap_new (((w.alloc O).alloc O1).alloc O2) O3
  simp only [World.size_alloc] at a1 a2 a3
  refine ⟨?_, ?_, ?_, a3⟩
  · exact (Below.heap_alloc _ O3 _ (by simp; omega)).trans ((Below.heap_alloc _ O2 _ (by simp; omega)).trans ((Below.heap_alloc _ O1 _ (by simp)).trans a0))
  · exact (Below.heap_alloc _ O3 _ (by simp)).trans ((Below.heap_alloc _ O2 _ (by simp)).trans a1)
  · exact (Below.heap_alloc _ O3 _ (by simp)).trans a2

theorem cells2_of_heap {W : World} {b : Nat} {x y : Value} {t : TypeId} (h : W.heap[b]? = some (.cells #[x, y] t (0, 0))) : W.cell? ⟨b, 0, none⟩ = some x ∧ W.cell? ⟨b, 1, none⟩ = some y := by
  constructor <;> simp [World.cell?, h]

theorem rowIs_of_heap {w : World} {b n : Nat} {t : TypeId} (h : w.heap[b]? = some (.cells (madeCells #[.int .u64 0] n) t (0, 0))) : w.rowIs b t n (fun _ => bsV 0#64) := by
  have h0 := World.rowIs_made default (.int .u64 0) n t
  obtain ⟨c, hc, hs, hv⟩ := h0
  rw [World.alloc_heap_new] at hc
  simp only [Option.some.injEq, Obj.cells.injEq, true_and] at hc
  refine ⟨madeCells #[.int .u64 0] n, h, ?_, fun i hi => ?_⟩
  · rw [hc.1]; exact hs
  · rw [hc.1, hv i hi]; rfl

def dfr (D : Nat) : Deferred := { target := .collected D, args := #[] }

theorem leaves_all {F : Fence} {n : Nat} {P : Program} {fn : Func} {tmps : Array Value} {R : Ending → World → Prop} : ∀ (Ds : List Nat) (W : World), Ds.Nodup → (∀ D ∈ Ds, W.heap[D]? = some (.deferred (some []))) →
    (∀ W' : World, W'.os = W.os → W'.tape = W.tape → W'.output = W.output → W.heap.size ≤ W'.heap.size → (∀ q, q < W.heap.size → q ∉ Ds → W'.heap[q]? = W.heap[q]?) → LeavesIn F n P fn tmps R [] .returning W') →
    LeavesInM F n P fn tmps R (Ds.map dfr) .returning W
  | [], W, _, _, h => h W rfl rfl rfl (Nat.le_refl _) (fun _ _ _ => rfl)
  | D :: Ds, W, hnd, hD, h => by
    have g := grownBy_putObj' W D (.deferred none)
    have hnd' := List.nodup_cons.1 hnd
    have hDl : ∀ E ∈ Ds, E < W.heap.size := fun E hE => (Array.getElem?_eq_some_iff.1 (hD E (List.mem_cons_of_mem _ hE))).1
    refine ⟨by simp, .inl ⟨D, _, rfl, run_takeDeferred (hD D (by simp)), leaves_all Ds (W.putObj D (.deferred none)) hnd'.2 (fun E hE => ?_) (fun W' h1 h2 h3 h4 h5 => ?_)⟩⟩
    · rw [g.block E (hDl E hE) (fun e => by cases e; exact hnd'.1 hE)]
      exact hD E (List.mem_cons_of_mem _ hE)
    · refine h W' (h1.trans g.os) (h2.trans g.tape) (h3.trans g.output) (Nat.le_trans g.size h4) (fun q hq hqn => ?_)
      have hqn' : q ≠ D ∧ q ∉ Ds := ⟨fun e => hqn (by simp [e]), fun e => hqn (List.mem_cons_of_mem _ e)⟩
      rw [h5 q (Nat.lt_of_lt_of_le hq g.size) hqn'.2]
      exact g.block q hq (fun e => by simp at e; exact hqn'.1 e)

theorem Out.far {lo hi : Nat} {W Wx Wy : World} {row : Option Nat} (h : Out lo hi W Wx) (hg : Wx.grownBy Wy row) (hr : ∀ r, row = some r → W.heap.size ≤ r ∧ ∃ o : Obj, Wx.heap[r]? = some o ∧ o.isCells = false) : Out lo hi W Wy :=
  ⟨hg.os.trans h.os, hg.tape.trans h.tape, hg.output.trans h.output, Nat.le_trans h.size hg.size, fun k hk hkr => (hg.block k (Nat.lt_of_lt_of_le hk h.size) fun e => by have := (hr k e.symm).1; omega).trans (h.block k hk hkr)⟩

theorem addB_idem (b : BitVec 64) (i : Nat) : addB (addB b i) i = addB b i := by
  unfold addB
  rw [BitVec.or_assoc, BitVec.or_self]

/-- What the second loop of nestOf has, round by round. -/
def NestB (ss : List St) (w w6 : World) (rb nb ag ug vg : Nat) (ov : Nat → Option Nat) (ah : Nat → BitVec 64) (a : Act) (W : World) : Prop :=
  ∃ (k : Nat) (Ds : List Nat) (un : Nat → BitVec 64) (u0 u1 u4 u5 u6 u7 u9 u10 u11 u12 u13 u14 u15 u16 u17 u18 u19 u20 u21 u22 u23 u24 u25 u26 u27 u28 u29 u30 u31 u32 u33 u34 u35 u36 u37 u38 u39 u40 u41 u42 u45 u46 u47 u48 u49 u50 u51 u52 u53 u54 u55 u56 u57 u58 : Value), a = { tmps := #[u0, u1, .pointer (some ⟨rb, 0, none⟩), .pointer (some ⟨nb, 0, none⟩), u4, u5, u6, u7, .slice (some ⟨vg, 0, none⟩) ss.length ss.length, u9, u10, u11, u12, u13, u14, u15, u16, u17, u18, u19, u20, u21, u22, u23, u24, u25, u26, u27, u28, u29, u30, u31, u32, u33, u34, u35, u36, u37, u38, u39, u40, u41, u42, .int .i64 (ss.length : Int), .int .i64 (k : Int), u45, u46, u47, u48, u49, u50, u51, u52, u53, u54, u55, u56, u57, u58], defers := Ds.map dfr } ∧ k ≤ ss.length ∧ Below w.heap.size w W ∧ w6.heap.size ≤ W.heap.size ∧ W.rowIs vg 3 ss.length (ovV ov) ∧ NM W nb ag ug ss.length ah un ∧
    (∀ j x, j < ss.length → x < 64 → ((un j).getLsbD x = true ↔ (x < k ∧ Dom ss j x))) ∧ W.heap[rb]? = some (.cells #[.slice none 0 0, .slice none 0 0] 76 (0, 0)) ∧ Ds.Nodup ∧ ∀ D ∈ Ds, W.heap[D]? = some (.deferred (some [])) ∧ w6.heap.size ≤ D

set_option maxRecDepth 100000 in
set_option maxHeartbeats 4000000 in
theorem nestOf_in {R : Ending → World → Prop} (v : Value) (ss : List St) (w : World) (h : StepsAt w v ss) (hok : okB ss = true)
    (hR : ∀ (ag ug : Nat) (ah un : Nat → BitVec 64) (w' : World), Below w.heap.size w w' → w'.rowIs ag 66 ss.length (fun j => bsV (ah j)) → w'.rowIs ug 66 ss.length (fun j => bsV (un j)) → w.heap.size < ag → w.heap.size < ug → (∀ j x, j < ss.length → x < 64 → ((ah j).getLsbD x = true ↔ (Reaches ss x ∧ Edge ss x j))) → (∀ j x, j < ss.length → x < 64 → ((un j).getLsbD x = true ↔ Dom ss j x)) → R (.returned (.agg #[.slice (some ⟨ag, 0, none⟩) ss.length ss.length, .slice (some ⟨ug, 0, none⟩) ss.length ss.length])) w') :
    CallsIn Fence.wide 10 Tryd.prog 40 #[v] w R := by
  have HR : Hid _ := hR
  clear hR
  obtain ⟨hn1, hn2⟩ := ok_len hok
  have HOK : Hid (okB ss = true) := hok
  obtain ⟨ao, b, o, cap, rfl, ha, hc⟩ := id h
  obtain rfl := ha (by omega)
  have HH : Hid (StepsAt w (.slice (some ⟨b, o, none⟩) ss.length cap) ss) := h
  clear ha hc h hok
  obtain ⟨i0, hi, hz0, hz1, hz2⟩ := info_parts infoSet
  have hmk : ∀ w, (Instr.makeSlice 74 (.int .i64 (ss.length : Int)) (.int .i64 (ss.length : Int))).run Tryd.prog w = .ok (.slice (some ⟨w.heap.size, 0, none⟩) ss.length ss.length) (w.alloc (.cells (madeCells #[.int .u64 0] ss.length) 66)) := fun w => run_make_row 74 66 i0 (.int .u64 0) Tryd.underlying74 hi hz0 hz1 rfl .i64 .i64 ss.length (by rw [hz2]; omega) (by omega) w
  refine callsIn_of_wp_marks Tryd.func40 rfl trivial ?_ rfl
  simp only [Tryd.ntmps40, List.size_toArray, List.length_cons, List.length_nil, Nat.reduceAdd, Nat.reduceSub, Array.replicate_succ, Array.replicate_zero, List.push_toArray, List.append_toArray, List.nil_append, List.cons_append]
  gi_wp2
  have HB : Hid (∀ O O1 O2 O3, Below w.heap.size w ((((w.alloc O).alloc O1).alloc O2).alloc O3).drew) := fun O O1 O2 O3 => (((((Below.refl _ _).alloc (Nat.le_refl _) O).alloc (by simp) O1).alloc (by simp; omega) O2).alloc (by simp; omega) O3).drew
  gi_cut [3] from 11 (fun p W => ∃ nb ag ug, p = .pointer (some ⟨nb, 0, none⟩) ∧ NM W nb ag ug ss.length (fun _ => 0#64) (fun _ => 0#64) ∧ Below w.heap.size w W ∧ w.heap.size < nb ∧ w.heap.size < ag ∧ w.heap.size < ug ∧ W.heap[w.heap.size]? = some (.cells #[.slice none 0 0, .slice none 0 0] 76 (0, 0)))
  case first =>
    rename_i J K' hJ hK
    gi_region
    · refine hK _ _ (Met.intro (hJ _ _ ?_))
      (repeat apply Exists.intro)
      refine ⟨?_, rfl⟩
      exact ⟨w.heap.size + 1 + 1 + 1, w.heap.size + 1, w.heap.size + 1 + 1, rfl, ⟨(cells2_of_heap (heap_of4 _ _ _ _ _).2.2.2).1, (cells2_of_heap (heap_of4 _ _ _ _ _).2.2.2).2, rowIs_of_heap (heap_of4 _ _ _ _ _).2.1, rowIs_of_heap (heap_of4 _ _ _ _ _).2.2.1, by omega, by omega, by omega⟩, HB.out _ _ _ _, by omega, by omega, by omega, (heap_of4 _ _ _ _ _).1⟩
    · refine hK _ _ (Met.intro (hJ _ _ ?_))
      (repeat apply Exists.intro)
      refine ⟨?_, rfl⟩
      exact ⟨w.heap.size + 1 + 1, w.heap.size + 1, w.heap.size + 1 + 1 + 1, rfl, ⟨(cells2_of_heap (heap_of4 _ _ _ _ _).2.2.1).1, (cells2_of_heap (heap_of4 _ _ _ _ _).2.2.1).2, rowIs_of_heap (heap_of4 _ _ _ _ _).2.1, rowIs_of_heap (heap_of4 _ _ _ _ _).2.2.2, by omega, by omega, by omega⟩, HB.out _ _ _ _, by omega, by omega, by omega, (heap_of4 _ _ _ _ _).1⟩
    · refine hK _ _ (Met.intro (hJ _ _ ?_))
      (repeat apply Exists.intro)
      refine ⟨?_, rfl⟩
      exact ⟨w.heap.size + 1 + 1 + 1, w.heap.size + 1 + 1, w.heap.size + 1, rfl, ⟨(cells2_of_heap (heap_of4 _ _ _ _ _).2.2.2).1, (cells2_of_heap (heap_of4 _ _ _ _ _).2.2.2).2, rowIs_of_heap (heap_of4 _ _ _ _ _).2.2.1, rowIs_of_heap (heap_of4 _ _ _ _ _).2.1, by omega, by omega, by omega⟩, HB.out _ _ _ _, by omega, by omega, by omega, (heap_of4 _ _ _ _ _).1⟩
    · refine hK _ _ (Met.intro (hJ _ _ ?_))
      (repeat apply Exists.intro)
      refine ⟨?_, rfl⟩
      exact ⟨w.heap.size + 1 + 1, w.heap.size + 1 + 1 + 1, w.heap.size + 1, rfl, ⟨(cells2_of_heap (heap_of4 _ _ _ _ _).2.2.1).1, (cells2_of_heap (heap_of4 _ _ _ _ _).2.2.1).2, rowIs_of_heap (heap_of4 _ _ _ _ _).2.2.2, rowIs_of_heap (heap_of4 _ _ _ _ _).2.1, by omega, by omega, by omega⟩, HB.out _ _ _ _, by omega, by omega, by omega, (heap_of4 _ _ _ _ _).1⟩
    · refine hK _ _ (Met.intro (hJ _ _ ?_))
      (repeat apply Exists.intro)
      refine ⟨?_, rfl⟩
      exact ⟨w.heap.size + 1, w.heap.size + 1 + 1, w.heap.size + 1 + 1 + 1, rfl, ⟨(cells2_of_heap (heap_of4 _ _ _ _ _).2.1).1, (cells2_of_heap (heap_of4 _ _ _ _ _).2.1).2, rowIs_of_heap (heap_of4 _ _ _ _ _).2.2.1, rowIs_of_heap (heap_of4 _ _ _ _ _).2.2.2, by omega, by omega, by omega⟩, HB.out _ _ _ _, by omega, by omega, by omega, (heap_of4 _ _ _ _ _).1⟩
    · refine hK _ _ (Met.intro (hJ _ _ ?_))
      (repeat apply Exists.intro)
      refine ⟨?_, rfl⟩
      exact ⟨w.heap.size + 1, w.heap.size + 1 + 1 + 1, w.heap.size + 1 + 1, rfl, ⟨(cells2_of_heap (heap_of4 _ _ _ _ _).2.1).1, (cells2_of_heap (heap_of4 _ _ _ _ _).2.1).2, rowIs_of_heap (heap_of4 _ _ _ _ _).2.2.2, rowIs_of_heap (heap_of4 _ _ _ _ _).2.2.1, by omega, by omega, by omega⟩, HB.out _ _ _ _, by omega, by omega, by omega, (heap_of4 _ _ _ _ _).1⟩
  case rest =>
    obtain ⟨nb, ag, ug, rfl, hN, hB, hl1, hl2, hl3, hres⟩ := hcut
    have HN : Hid (NM wc nb ag ug ss.length (fun _ => 0#64) (fun _ => 0#64)) := hN
    have HBC : Hid (Below w.heap.size w wc) := hB
    have HRES : Hid (wc.heap[w.heap.size]? = some (.cells #[.slice none 0 0, .slice none 0 0] 76 (0, 0))) := hres
    have hnbl : nb < wc.heap.size := cell_lt hN.c0
    have hagl : ag < wc.heap.size := hN.rowA.lt
    have hugl : ug < wc.heap.size := hN.rowU.lt
    clear hN hB hres hmk HB
    gi_wp2
    refine ⟨trivial, callsIn_wide.2 ?_⟩
    refine predsOf_any _ ss _ (HH.out.keep HBC.out) HOK.out fun v4 rs w4 hb4 hrs hrow4 => ?_
    have HB4 : Hid (Below w.heap.size w w4) := HBC.out.trans (hb4.mono HBC.out.size)
    have HN4 : Hid (NM w4 nb ag ug ss.length (fun _ => 0#64) (fun _ => 0#64)) := HN.out.keep hb4
    have HRS : Hid (IsReach ss rs) := hrs
    have HRES4 : Hid (w4.heap[w.heap.size]? = some (.cells #[.slice none 0 0, .slice none 0 0] 76 (0, 0))) := (hb4.block _ (by have := hl1; omega)).trans HRES.out
    obtain ⟨pao, pg, pcap, hpv, hpr⟩ := hrow4.read
    rw [show (predsL ss rs).length = ss.length by simp [predsL]] at hpv
    subst hpv
    have HPG : Hid (pao = some ⟨pg, 0, none⟩ → wc.heap.size ≤ pg ∧ pg < w4.heap.size) := by
      intro e
      obtain ⟨vs, _, h2, h3, _⟩ := hrow4
      subst e
      have h5 := (h2.lt pg rfl).1
      have h6 := h3 pg rfl
      exact ⟨by omega, h6⟩
    have hs4 := hb4.size
    have HPW : Hid (∀ (i : Nat), i < ss.length → ∃ A pb po c, pao = some ⟨pg, 0, none⟩ ∧ (0 < (predsN ss rs i).length → A = some ⟨pb, po, none⟩) ∧ ∀ wx : World, Out ag (ag + 1) w4 wx → wx.cell? ⟨pg, i, none⟩ = some (.slice A (predsN ss rs i).length c) ∧ ∀ t (ht : t < (predsN ss rs i).length), wx.cell? ⟨pb, po + t, none⟩ = some (.int .i64 ((predsN ss rs i)[t] : Int))) := by
      intro i hi
      obtain ⟨x, A, c, h1, h2, h3, h4⟩ := hpr i (predsK ss rs i ss.length) (by simp [predsL, hi])
      subst h3
      have hpg := HPG.out h1
      rw [predsN_map, List.length_map] at h2
      rw [predsN_map, List.length_map] at h4
      obtain ⟨A', pb, c', e, e2⟩ := h4.read
      rw [List.length_map] at e e2
      cases e
      refine ⟨A, pb, 0, c, h1, fun hp => (e2 0 hp).1, fun wx hbx => ⟨hbx.cell h2 (Or.inr (by show ag + 1 ≤ pg; omega)), fun t ht => ?_⟩⟩
      obtain ⟨_, e3, _, e5, _⟩ := e2 t ht
      rw [Nat.zero_add, hbx.cell e3 (Or.inr (by show ag + 1 ≤ pb; omega))]
      simp [List.getD, ht]
    clear hb4 hrs hrow4 hpr HPG HN HRES
    gi_wp2
    gi_loopw [21] (fun i wr => ∃ k : Nat, k ≤ ss.length ∧ i = .int .i64 k ∧ Out ag (ag + 1) w4 wr ∧ NM wr nb ag ug ss.length (fun j => if j < k then setOf (predsN ss rs j) else 0#64) (fun _ => 0#64)) (fun i _ => ss.length - (intOf i).toNat)
    case atStart => exact ⟨0, Nat.zero_le _, rfl, Out.refl _ _ _, HN4.out.congr (fun j _ => by simp) (fun _ _ => rfl)⟩
    case round =>
      obtain ⟨k, hk, rfl, hO, hN5⟩ := hrel
      have HO : Hid (Out ag (ag + 1) w4 wr) := hO
      have HN5 : Hid (NM wr nb ag ug ss.length (fun j => if j < k then setOf (predsN ss rs j) else 0#64) (fun _ => 0#64)) := hN5
      by_cases hkn : k < ss.length
      · have hki : (k : Int) < (ss.length : Int) := by omega
        obtain ⟨A, pb, po, pc, rfl, hA, hps⟩ := HPW.out k hkn
        have cp := (hps wr hO).1
        have HA : Hid _ := hA
        have HPS : Hid (∀ wx, Out ag (ag + 1) w4 wx → ∀ t (ht : t < (predsN ss rs k).length), wx.cell? ⟨pb, po + t, none⟩ = some (.int .i64 ((predsN ss rs k)[t] : Int))) := fun wx hwx => (hps wx hwx).2
        have HPN : Hid (∀ p ∈ predsN ss rs k, p < ss.length) := fun p hp => reach_lt HOK.out ((predsN_mem HRS.out HOK.out).1 hp).1
        have hpl := predsN_len ss rs k
        clear hO hN5 hA hps
        gi_wp2
        gi_loopw [28] (fun i wr => ∃ t : Nat, t ≤ (predsN ss rs k).length ∧ i = .int .i64 t ∧ Out ag (ag + 1) w4 wr ∧ NM wr nb ag ug ss.length (fun j => if j = k then setOf ((predsN ss rs k).take t) else if j < k then setOf (predsN ss rs j) else 0#64) (fun _ => 0#64)) (fun i _ => (predsN ss rs k).length - (intOf i).toNat)
        case atStart => exact ⟨0, Nat.zero_le _, rfl, HO.out, HN5.out.congr (fun j _ => by by_cases e : j = k <;> simp [e, setOf]) (fun _ _ => rfl)⟩
        case round =>
          obtain ⟨t, ht, rfl, hO6, hN6⟩ := hrel
          have HO6 : Hid (Out ag (ag + 1) w4 wr) := hO6
          have HN6 : Hid (NM wr nb ag ug ss.length (fun j => if j = k then setOf ((predsN ss rs k).take t) else if j < k then setOf (predsN ss rs j) else 0#64) (fun _ => 0#64)) := hN6
          by_cases htl : t < (predsN ss rs k).length
          · have hti : (t : Int) < ((predsN ss rs k).length : Int) := by omega
            have HPK : Hid _ := HPS.out wr hO6
            obtain rfl := HA.out (by omega)
            have cpt := HPK.out t htl
            have hpn := HPN.out (predsN ss rs k)[t] (List.getElem_mem htl)
            have HTK : Hid ((predsN ss rs k).take (t + 1) = (predsN ss rs k).take t ++ [(predsN ss rs k)[t]]) := List.take_succ_eq_append_getElem htl
            generalize (predsN ss rs k)[t] = p at *
            have d0 := hN6.c0
            have rk := hN6.rowA.cell hkn
            simp only [if_true] at rk
            have fk := hN6.rowA.frozen k
            clear hO6 hN6
            gi_wp2
            refine ⟨trivial, callsIn_wide.2 ?_⟩
            refine add_any ag k (setOf ((predsN ss rs k).take t)) p _ (by omega) rk fk fun v9 => ?_
            have HN9 : Hid (NM ((wr.setCell ⟨ag, k, none⟩ (bsV (addB (setOf ((predsN ss rs k).take t)) p))).drew) nb ag ug ss.length (fun j => if j = k then setOf ((predsN ss rs k).take (t + 1)) else if j < k then setOf (predsN ss rs j) else 0#64) (fun _ => 0#64)) := by
              refine ((HN6.out.addA k _).drew).congr (fun j _ => ?_) (fun _ _ => rfl)
              by_cases e : j = k
              · simp [e, HTK.out, setOf_snoc]
              · simp [e]
            have HO9 : Hid (Out ag (ag + 1) w4 ((wr.setCell ⟨ag, k, none⟩ (bsV (addB (setOf ((predsN ss rs k).take t)) p))).drew)) := (HO6.out.setCell (p := ⟨ag, k, none⟩) (Nat.le_refl _) (Nat.lt_succ_self _) _).trans (Out.of_below ((Below.refl _ _).drew))
            clear rk fk d0 cpt
            generalize (wr.setCell ⟨ag, k, none⟩ (bsV (addB (setOf ((predsN ss rs k).take t)) p))).drew = W9 at *
            gi_wp2
            go_roundw
            case rel => exact ⟨t + 1, by omega, by go_num, HO9.out, HN9.out⟩
            case measure => simp [intOf]; omega
          · have hti : ¬ (t : Int) < ((predsN ss rs k).length : Int) := by omega
            obtain rfl : t = (predsN ss rs k).length := by omega
            clear hO6 hN6
            gi_wp2
            go_roundw
            case rel =>
              refine ⟨k + 1, by omega, by go_num, HO6.out, HN6.out.congr (fun j _ => ?_) (fun _ _ => rfl)⟩
              by_cases e : j = k
              · simp [e]
              · have : (j < k + 1) ↔ j < k := by omega
                simp [e, this]
            case measure => simp [intOf]; omega
      · have hki : ¬ (k : Int) < (ss.length : Int) := by omega
        obtain rfl : k = ss.length := by omega
        have HN7 : Hid (NM wr nb ag ug ss.length (fun j => setOf (predsN ss rs j)) (fun _ => 0#64)) := HN5.out.congr (fun j hj => by simp [hj]) (fun _ _ => rfl)
        have HBR : Hid (Below w.heap.size w wr) := HB4.out.trans (HO.out.below (by omega) (by omega))
        have HRES5 : Hid (wr.heap[w.heap.size]? = some (.cells #[.slice none 0 0, .slice none 0 0] 76 (0, 0))) := (HO.out.block _ (by omega) (by omega)).trans HRES4.out
        have hsz5 := HO.out.size
        clear hO hN5 HN5
        gi_wp2
        refine ⟨trivial, callsIn_wide.2 ?_⟩
        refine nearestOver_any _ ss _ (HH.out.keep HBR.out) HOK.out fun vg ov w6 hb6 hov hvg hrow6 => ?_
        have HB6 : Hid (Below w.heap.size w w6) := HBR.out.trans (hb6.mono HBR.out.size)
        have HOV : Hid (OverF ss ov) := hov
        have HV6 : Hid (w6.rowIs vg 3 ss.length (ovV ov)) := hrow6
        have HN6 : Hid (NM w6 nb ag ug ss.length (fun j => setOf (predsN ss rs j)) (fun _ => 0#64)) := HN7.out.keep hb6
        have HRES6 : Hid (w6.heap[w.heap.size]? = some (.cells #[.slice none 0 0, .slice none 0 0] 76 (0, 0))) := (hb6.block _ (by omega)).trans HRES5.out
        have hsz6 := hb6.size
        have hvg6 := hrow6.lt
        clear hb6 hov hrow6 HN7 HRES5 HRES4 HBR HN4 HPW
        have HU : Hid (∀ x, x < ss.length → ∃ xs : List (Fin ss.length), UpOr ov ss.length x xs ∧ ∀ j : Fin ss.length, (j ∈ xs ↔ Dom ss j.1 x)) := by
          intro x hx
          by_cases hr : Reaches ss x
          · obtain ⟨xs, hxs⟩ := HOV.out.isUp HOK.out hr
            exact ⟨xs, Or.inr ⟨(HOV.out.reach x).1 hr, hxs⟩, fun j => (hxs.mem j).trans (HOV.out.dom hr)⟩
          · have hn : ov x = none := by
              cases e : ov x with
              | none => rfl
              | some y => exact absurd ((HOV.out.reach x).2 ⟨y, e⟩) hr
            exact ⟨[], Or.inl ⟨hn, rfl⟩, fun j => ⟨fun h => by simp at h, fun h => absurd h.1 hr⟩⟩
        obtain ⟨rk, hk1, _, hk2⟩ := HOV.out.rk
        have HTOP : Hid (∀ x, (∃ y, ov x = some y) → rk x ≤ rk 0) := fun x hx => hk1 x ((HOV.out.reach x).2 hx)
        have HUP : Hid (∀ x y, ov x = some y → x ≠ 0 → rk x < rk y) := hk2
        have H0 : Hid (ov 0 = some 0) := HOV.out.zero
        clear hk1 hk2
        gi_wp2
        refine wpIn_loop (NestB ss w w6 w.heap.size nb ag ug vg ov (fun j => setOf (predsN ss rs j))) (fun a _ => ss.length - (intOf (a.tmps.getD 44 undef)).toNat) ?_ ?_
        · exact ⟨0, [], fun _ => 0#64, _, _, _, _, _, _, _, _, _, _, _, _, _, _, _, _, _, _, _, _, _, _, _, _, _, _, _, _, _, _, _, _, _, _, _, _, _, _, _, _, _, _, _, _, _, _, _, _, _, _, _, _, _, _, rfl, Nat.zero_le _, HB6.out, Nat.le_refl _, HV6.out, HN6.out, fun j x _ _ => by simp, HRES6.out, List.nodup_nil, by simp⟩
        · rintro a W ⟨k, Ds, un, u0, u1, u4, u5, u6, u7, u9, u10, u11, u12, u13, u14, u15, u16, u17, u18, u19, u20, u21, u22, u23, u24, u25, u26, u27, u28, u29, u30, u31, u32, u33, u34, u35, u36, u37, u38, u39, u40, u41, u42, u45, u46, u47, u48, u49, u50, u51, u52, u53, u54, u55, u56, u57, u58, rfl, hk, hB, hs, hV, hN, hun, hrs, hnd, hD⟩
          have HB : Hid (Below w.heap.size w W) := hB
          have HV : Hid (W.rowIs vg 3 ss.length (ovV ov)) := hV
          have HN : Hid (NM W nb ag ug ss.length (fun j => setOf (predsN ss rs j)) un) := hN
          have HUN : Hid (∀ j x, j < ss.length → x < 64 → ((un j).getLsbD x = true ↔ (x < k ∧ Dom ss j x))) := hun
          have HRS2 : Hid (W.heap[w.heap.size]? = some (.cells #[.slice none 0 0, .slice none 0 0] 76 (0, 0))) := hrs
          have HND : Hid (Ds.Nodup) := hnd
          have HD : Hid (∀ D ∈ Ds, W.heap[D]? = some (.deferred (some [])) ∧ w6.heap.size ≤ D) := hD
          have hB' := hB.size
          clear hB hV hun hrs hnd hD
          by_cases hkn : k < ss.length
          · have hki : (k : Int) < (ss.length : Int) := by omega
            have hnb : nb < w6.heap.size := by omega
            have hug : ug < w6.heap.size := by omega
            have hag : ag < w6.heap.size := by omega
            clear hN
            gi_wp2
            refine ⟨trivial, (wayUp_in 9 _ _ _ _ _).mono ?_⟩
            rintro e w' ⟨rfl, rfl⟩
            simp only [World.size_alloc]
            obtain ⟨xs, hxu, hxm⟩ := HU.out k hkn
            have HXM : Hid (∀ j : Fin ss.length, (j ∈ xs ↔ Dom ss j.1 k)) := hxm
            have hb3 : Below W.heap.size W (((W.alloc (.cells #[.int .i64 (k : Int)] 3)).alloc (.cells #[.slice (some ⟨vg, 0, none⟩) ss.length ss.length] 55)).alloc (.cells #[.int .i64 (k : Int)] 3)) := (((Below.refl _ W).alloc (Nat.le_refl _) _).alloc (by simp) _).alloc (by simp; omega) _
            have hc9 : (((W.alloc (.cells #[.int .i64 (k : Int)] 3)).alloc (.cells #[.slice (some ⟨vg, 0, none⟩) ss.length ss.length] 55)).alloc (.cells #[.int .i64 (k : Int)] 3)).cell? ⟨W.heap.size, 0, none⟩ = some (.int .i64 (k : Int)) := by simp [go_sem]
            have hco : (((W.alloc (.cells #[.int .i64 (k : Int)] 3)).alloc (.cells #[.slice (some ⟨vg, 0, none⟩) ss.length ss.length] 55)).alloc (.cells #[.int .i64 (k : Int)] 3)).cell? ⟨W.heap.size + 1, 0, none⟩ = some (.slice (some ⟨vg, 0, none⟩) ss.length ss.length) := by simp [go_sem]
            have hca : (((W.alloc (.cells #[.int .i64 (k : Int)] 3)).alloc (.cells #[.slice (some ⟨vg, 0, none⟩) ss.length ss.length] 55)).alloc (.cells #[.int .i64 (k : Int)] 3)).cell? ⟨W.heap.size + 1 + 1, 0, none⟩ = some (.int .i64 (k : Int)) := by simp [go_sem]
            have hs3 : (((W.alloc (.cells #[.int .i64 (k : Int)] 3)).alloc (.cells #[.slice (some ⟨vg, 0, none⟩) ss.length ss.length] 55)).alloc (.cells #[.int .i64 (k : Int)] 3)).heap.size = W.heap.size + 3 := by simp
            gi_wp2
            generalize hW3 : ((W.alloc (.cells #[.int .i64 (k : Int)] 3)).alloc (.cells #[.slice (some ⟨vg, 0, none⟩) ss.length ss.length] 55)).alloc (.cells #[.int .i64 (k : Int)] 3) = W3 at *
            clear hW3
            have HN3 : Hid (NM W3 nb ag ug ss.length (fun j => setOf (predsN ss rs j)) un) := HN.out.keep hb3
            refine wpIn_rangeFunc_ownF (N := xs.length) (encs := fun y : Fin ss.length => #[Value.int .i64 (y.1 : Int)]) rfl (by omega) (gf := 88) (lb := #[.pointer (some ⟨W.heap.size + 1, 0, none⟩), .pointer (some ⟨W.heap.size + 1 + 1, 0, none⟩)]) rfl trivial (enters_of Tryd.func88 (by kernel_rfl) rfl)
              (wayUp_stops 9 (W.heap.size + 1) (W.heap.size + 1 + 1) vg ss.length k (by omega) ov rk H0.out HUP.out HTOP.out xs hkn hxu W3 hco hca (rowIs_keep HV.out hb3)) (fun h k => Kp2.t h k) (fun Wx l o o' h1 h2 h3 h4 => Kp2.b (w := W3) (by omega) (by omega) Wx l o o' h1 h2 h3 h4) (Below.refl _ _) (fun _ => rfl)
              (fun pre Wx => Out ug (ug + 1) W3 Wx ∧ Wx.rowIs ug 66 ss.length (fun j => bsV (if onB pre j then addB (un j) k else un j)))
              (fun _ _ _ => False)
              (fun sx A B row hs hg hr => ⟨hs.1.far hg hr, hs.2.of_block (hg.block ug hs.2.lt fun e => by have := (hr ug e.symm).1; omega)⟩)
              (fun _ _ _ _ _ hs _ _ => hs)
              ⟨Out.refl _ _ _, HN3.out.rowU.congr fun j _ => by simp [onB]⟩
              (fun y => { tmps := #[u0, u1, .pointer (some ⟨w.heap.size, 0, none⟩), .pointer (some ⟨nb, 0, none⟩), u4, u5, u6, u7, .slice (some ⟨vg, 0, none⟩) ss.length ss.length, .pointer (some ⟨W.heap.size, 0, none⟩), .int .i64 (y.1 : Int), u11, u12, u13, u14, u15, u16, u17, u18, u19, u20, u21, u22, u23, u24, u25, u26, u27, u28, u29, u30, u31, u32, u33, u34, u35, u36, u37, u38, u39, u40, u41, u42, .int .i64 (ss.length : Int), .int .i64 (k : Int), .bool true, .int .i64 (k : Int), .slice (some ⟨vg, 0, none⟩) ss.length ss.length, .int .i64 (k : Int), .func (.func 88) #[] #[.pointer (some ⟨W.heap.size + 1, 0, none⟩), .pointer (some ⟨W.heap.size + 1 + 1, 0, none⟩)], .int .i64 (y.1 : Int), u51, u52, u53, u54, u55, u56, u57, u58], defers := [] }) ?assign ?body ?done ?stop
            case assign =>
              intro l y Wx K hK
              gi_wp2
              exact hK
            case body =>
              rintro l pre y Wx ⟨hO, hrow⟩ _
              have hy := y.2
              have hyi : (y.1 : Int) < (ss.length : Int) := by omega
              have c1 := hO.cell HN3.out.c1 (by have := HN3.out.ne2; show nb < ug ∨ ug + 1 ≤ nb; omega)
              have c9 := hO.cell hc9 (Or.inr (by show ug + 1 ≤ W.heap.size; omega))
              have cy := hrow.cell hy
              have fy := hrow.frozen y.1
              have HO : Hid (Out ug (ug + 1) W3 Wx) := hO
              have HROW : Hid (Wx.rowIs ug 66 ss.length (fun j => bsV (if onB pre j then addB (un j) k else un j))) := hrow
              clear hO hrow
              have hmx : Tryd.prog.follows .mixedOrders = true := by kernel_rfl
              obtain ⟨sy, hsy⟩ : ∃ sy, sy = (if onB pre y.1 then addB (un y.1) k else un y.1) := ⟨_, rfl⟩
              rw [← hsy] at cy
              have HSY : Hid (sy = (if onB pre y.1 then addB (un y.1) k else un y.1)) := hsy
              clear hsy
              gi_wp2
              gi_region_with_o (refine ⟨trivial, ?_⟩; gi_at_call 60; refine (CallsIn.inRound l (callsIn_wide.2 (add_any (Q := fun e W' => (∃ v, e = .returned v) ∧ W' = (Wx.drew.setCell ⟨ug, y.1, none⟩ (bsV (addB sy k))).drew) ug y.1 sy k Wx.drew (by omega) cy fy (fun v => ⟨⟨v, rfl⟩, rfl⟩)))).mono ?_; rintro e w' ⟨⟨v, rfl⟩, rfl⟩)
              all_goals gi_wp2
              all_goals
                refine ⟨((KeepsOthers.drew _).trans (KeepsOthers.setCell _ _ _)).trans (KeepsOthers.drew _), ⟨Below.heap_setCell Wx.drew ⟨ug, y.1, none⟩ _ vg (by show vg ≠ ug; omega), Below.heap_setCell Wx.drew ⟨ug, y.1, none⟩ _ _ (by show W.heap.size + 1 ≠ ug; omega)⟩, ?_, ?_⟩
                · exact ((HO.out.trans (Out.of_below ((Below.refl _ _).drew))).setCell (p := ⟨ug, y.1, none⟩) (Nat.le_refl _) (Nat.lt_succ_self _) _).trans (Out.of_below ((Below.refl _ _).drew))
                · refine World.rowIs.congr (f := fun j => if j = y.1 then bsV (addB sy k) else bsV (if onB pre j then addB (un j) k else un j)) ?_ (fun j hj => ?_)
                  · exact (show Wx.drew.rowIs ug 66 ss.length (fun j => bsV (if onB pre j then addB (un j) k else un j)) from HROW.out).set y.1 _
                  · rw [onB_snoc]
                    by_cases e : j = y.1
                    · rw [if_pos e, if_pos e, HSY.out]
                      cases ho : onB pre y.1 <;> simp [e, addB_idem]
                    · rw [if_neg e, if_neg e]
            case done =>
              rintro D ys Wx hD rfl ⟨hO, hrow⟩ hK
              have HO : Hid (Out ug (ug + 1) W3 Wx) := hO
              have HROW : Hid (Wx.rowIs ug 66 ss.length (fun j => bsV (if onB ys j then addB (un j) k else un j))) := hrow
              have HK : Hid (Wx.heap[D]? = some (.deferred (some []))) := hK
              have hsx : W3.heap.size ≤ Wx.heap.size := hO.size
              clear hO hrow hK
              gi_wp2
              have hkp : ∀ q, q < W.heap.size → q ≠ ug → Wx.heap[q]? = W.heap[q]? := fun q hq hne => (HO.out.block q (by omega) (by omega)).trans (hb3.block q hq)
              refine ⟨⟨k + 1, D :: Ds, fun j => if onB ys j then addB (un j) k else un j, _, _, _, _, _, _, _, _, _, _, _, _, _, _, _, _, _, _, _, _, _, _, _, _, _, _, _, _, _, _, _, _, _, _, _, _, _, _, _, _, _, _, _, _, _, _, _, _, _, _, _, _, _, _, rfl, by omega, ?_, by omega, ?_, ⟨?_, ?_, ?_, HROW.out, HN.out.ne1, HN.out.ne2, HN.out.ne3⟩, fun j x hj hx => ?_, ?_, ?_, fun E hE => ?_⟩, by simp [intOf]; omega⟩
              · exact HB.out.trans ((hb3.mono hB').trans (HO.out.below (by omega) (by omega)))
              · exact (rowIs_keep HV.out hb3).of_block (HO.out.block vg (by omega) (by omega))
              · exact HO.out.cell HN3.out.c0 (by have := HN.out.ne2; show nb < ug ∨ ug + 1 ≤ nb; omega)
              · exact HO.out.cell HN3.out.c1 (by have := HN.out.ne2; show nb < ug ∨ ug + 1 ≤ nb; omega)
              · exact HN3.out.rowA.of_block (HO.out.block ag (by omega) (by have := HN.out.ne3; omega))
              · have h1 := HUN.out j x hj hx
                have h2 := HXM.out ⟨j, hj⟩
                have h3 : onB ys j = true ↔ Dom ss j k := by
                  rw [onB_mem, ← h2]
                  constructor
                  · rintro ⟨k', hk', e⟩
                    exact (show k' = ⟨j, hj⟩ from Fin.ext e) ▸ hk'
                  · intro h
                    exact ⟨⟨j, hj⟩, h, rfl⟩
                cases ho : onB ys j
                · have h4 : ¬ Dom ss j k := fun h => by have := h3.2 h; rw [ho] at this; cases this
                  show ((if onB ys j = true then addB (un j) k else un j).getLsbD x = true ↔ _)
                  rw [if_neg (by rw [ho]; simp), h1]
                  constructor
                  · exact fun h => ⟨by omega, h.2⟩
                  · rintro ⟨h5, h6⟩
                    refine ⟨?_, h6⟩
                    by_cases e : x = k
                    · subst e; exact absurd h6 h4
                    · omega
                · have h4 := h3.1 ho
                  show ((if onB ys j = true then addB (un j) k else un j).getLsbD x = true ↔ _)
                  rw [if_pos ho, addB_get (by omega) hx, Bool.or_eq_true, h1, decide_eq_true_eq]
                  constructor
                  · rintro (h | rfl)
                    · exact ⟨by omega, h.2⟩
                    · exact ⟨by omega, h4⟩
                  · rintro ⟨h5, h6⟩
                    by_cases e : x = k
                    · exact Or.inr e
                    · exact Or.inl ⟨by omega, h6⟩
              · rw [hkp _ (by omega) (by omega)]; exact HRS2.out
              · refine List.nodup_cons.2 ⟨fun hm => ?_, HND.out⟩
                have h5 := (Array.getElem?_eq_some_iff.1 (HD.out D hm).1).1
                omega
              · rcases List.mem_cons.1 hE with rfl | hE
                · exact ⟨HK.out, by omega⟩
                · have h5 := HD.out E hE
                  have h6 := (Array.getElem?_eq_some_iff.1 h5.1).1
                  exact ⟨(hkp E h6 (by omega)).trans h5.1, h5.2⟩
            case stop =>
              rintro D c pre Wx _ _ h _
              exact h.elim
          · have hki : ¬ (k : Int) < (ss.length : Int) := by omega
            obtain rfl : k = ss.length := by omega
            have n0 := hN.c0
            have n1 := hN.c1
            have r0 := cells2_of_heap HRS2.out
            obtain ⟨r00, r01⟩ := r0
            have f0 : W.frozen? ⟨w.heap.size, 0, none⟩ = false := by simp [World.frozen?, HRS2.out]
            have f1 : W.frozen? ⟨w.heap.size, 1, none⟩ = false := by simp [World.frozen?, HRS2.out]
            clear hN
            gi_wp2
            have hrl : w.heap.size < W.heap.size := (Array.getElem?_eq_some_iff.1 HRS2.out).1
            have hset : ∀ q, q ≠ w.heap.size → ((W.setCell ⟨w.heap.size, 0, none⟩ (.slice (some ⟨ag, 0, none⟩) ss.length ss.length)).setCell ⟨w.heap.size, 1, none⟩ (.slice (some ⟨ug, 0, none⟩) ss.length ss.length)).heap[q]? = W.heap[q]? := fun q hq => (Below.heap_setCell _ ⟨w.heap.size, 1, none⟩ _ q hq).trans (Below.heap_setCell W ⟨w.heap.size, 0, none⟩ _ q hq)
            have hca : ((W.setCell ⟨w.heap.size, 0, none⟩ (.slice (some ⟨ag, 0, none⟩) ss.length ss.length)).setCell ⟨w.heap.size, 1, none⟩ (.slice (some ⟨ug, 0, none⟩) ss.length ss.length)).cell? ⟨w.heap.size, 0, none⟩ = some (.slice (some ⟨ag, 0, none⟩) ss.length ss.length) := by simp [go_sem, r00]
            have hcb : ((W.setCell ⟨w.heap.size, 0, none⟩ (.slice (some ⟨ag, 0, none⟩) ss.length ss.length)).setCell ⟨w.heap.size, 1, none⟩ (.slice (some ⟨ug, 0, none⟩) ss.length ss.length)).cell? ⟨w.heap.size, 1, none⟩ = some (.slice (some ⟨ug, 0, none⟩) ss.length ss.length) := by simp [go_sem, r01]
            have hszz : ((W.setCell ⟨w.heap.size, 0, none⟩ (.slice (some ⟨ag, 0, none⟩) ss.length ss.length)).setCell ⟨w.heap.size, 1, none⟩ (.slice (some ⟨ug, 0, none⟩) ss.length ss.length)).heap.size = W.heap.size := by simp [World.setCell]
            have hbz : Below w.heap.size W ((W.setCell ⟨w.heap.size, 0, none⟩ (.slice (some ⟨ag, 0, none⟩) ss.length ss.length)).setCell ⟨w.heap.size, 1, none⟩ (.slice (some ⟨ug, 0, none⟩) ss.length ss.length)) := ((Below.refl _ W).setCell (p := ⟨w.heap.size, 0, none⟩) (Nat.le_refl _) _).setCell (p := ⟨w.heap.size, 1, none⟩) (Nat.le_refl _) _
            generalize (W.setCell ⟨w.heap.size, 0, none⟩ (.slice (some ⟨ag, 0, none⟩) ss.length ss.length)).setCell ⟨w.heap.size, 1, none⟩ (.slice (some ⟨ug, 0, none⟩) ss.length ss.length) = W2 at *
            refine leaves_all Ds W2 HND.out (fun D hD => (hset D (by have := (HD.out D hD).2; omega)).trans (HD.out D hD).1) (fun W' h1 h2 h3 h4 h5 => ?_)
            have hnot : ∀ q, q < w6.heap.size → q ∉ Ds := fun q hq hm => by have := (HD.out q hm).2; omega
            have hcA : W'.cell? ⟨w.heap.size, 0, none⟩ = some (.slice (some ⟨ag, 0, none⟩) ss.length ss.length) := (World.cell?_of_block (w := W2) (a := ⟨w.heap.size, 0, none⟩) (h5 w.heap.size (by omega) (hnot w.heap.size (by omega)))).trans hca
            have hcB : W'.cell? ⟨w.heap.size, 1, none⟩ = some (.slice (some ⟨ug, 0, none⟩) ss.length ss.length) := (World.cell?_of_block (w := W2) (a := ⟨w.heap.size, 1, none⟩) (h5 w.heap.size (by omega) (hnot w.heap.size (by omega)))).trans hcb
            have hkq : ∀ q, q < w6.heap.size → q ≠ w.heap.size → W'.heap[q]? = W.heap[q]? := fun q hq hne => (h5 q (by omega) (hnot q hq)).trans (hset q hne)
            refine ⟨.agg #[.slice (some ⟨ag, 0, none⟩) ss.length ss.length, .slice (some ⟨ug, 0, none⟩) ss.length ss.length], by simp [results, Tryd.f40, go_sem, hcA, hcB], ?_⟩
            refine HR.out ag ug (fun j => setOf (predsN ss rs j)) un W' ?_ (HN.out.rowA.of_block (hkq ag (by omega) (by omega))) (HN.out.rowU.of_block (hkq ug (by omega) (by omega))) (by omega) (by omega) (fun j x hj hx => ?_) (fun j x hj hx => ?_)
            · exact (HB.out.trans hbz).trans ⟨h1, h2, h3, h4, fun q hq => h5 q (by omega) (hnot q (by omega))⟩
            · rw [setOf_get (fun p hp => by have := reach_lt HOK.out ((predsN_mem HRS.out HOK.out).1 hp).1; omega) hx, decide_eq_true_eq]
              exact predsN_mem HRS.out HOK.out
            · rw [HUN.out j x hj hx]
              exact ⟨fun h => h.2, fun h => ⟨reach_lt HOK.out h.1, h⟩⟩

/-- nestOf: of each step those ahead of it, and those over which it stands, as words of bits. -/
theorem nestOf_any {Q : Ending → World → Prop} (v : Value) (ss : List St) (w : World) (h : StepsAt w v ss) (hok : okB ss = true)
    (hQ : ∀ (ag ug : Nat) (ah un : Nat → BitVec 64) (w' : World), Below w.heap.size w w' → w'.rowIs ag 66 ss.length (fun j => bsV (ah j)) → w'.rowIs ug 66 ss.length (fun j => bsV (un j)) → w.heap.size < ag → w.heap.size < ug → (∀ j x, j < ss.length → x < 64 → ((ah j).getLsbD x = true ↔ (Reaches ss x ∧ Edge ss x j))) → (∀ j x, j < ss.length → x < 64 → ((un j).getLsbD x = true ↔ Dom ss j x)) → Q (.returned (.agg #[.slice (some ⟨ag, 0, none⟩) ss.length ss.length, .slice (some ⟨ug, 0, none⟩) ss.length ss.length])) w') :
    Calls Tryd.prog 40 #[v] w Q := (callsIn_wide (n := 10)).1 (nestOf_in v ss w h hok hQ)
end Go.Proofs.YtljlgffkhocgkaaDoor
