/- What the model's LiveFold answers, of any program. -/
import Derived.Test.YtancacjnbbdbfaaFoldP
import Derived.Test.YtancacjnbbdbfaaImplRm
import Derived.Test.YtancacjnbbdbfaaSpecOk
import Derived.Deep.RegionWith
import Derived.Deep.RegionHeld3
namespace Go.Proofs.Ytancacjnbbdbfaa
open Go.RowKit

theorem cell_drew {W : World} {a : Addr} {v : Value} (h : W.cell? a = some v) : W.drew.cell? a = some v := h

theorem frozen_drew {W : World} {a : Addr} {b : Bool} (h : W.frozen? a = b) : W.drew.frozen? a = b := h

theorem alloc_set (w : World) (o : Obj) {g : Nat} (i : Nat) (v : Value) (h : g < w.heap.size) : (w.alloc o).setCell ⟨g, i, none⟩ v = (w.setCell ⟨g, i, none⟩ v).alloc o := World.setCell_alloc_past o g i v h

theorem alloc_set8 (w : World) (O : Obj) {g : Nat} (o : Nat) (s : St) (nv : Value) (h : g < w.heap.size) : set8 (w.alloc O) g o s nv = (set8 w g o s nv).alloc O := by
  have hs : ∀ (W : World) (a : Addr) (v : Value), (W.setCell a v).heap.size = W.heap.size := fun W a v => by simp [World.setCell]
  unfold set8
  rw [alloc_set w O _ _ h, alloc_set _ O _ _ (by simp only [hs]; exact h), alloc_set _ O _ _ (by simp only [hs]; exact h), alloc_set _ O _ _ (by simp only [hs]; exact h), alloc_set _ O _ _ (by simp only [hs]; exact h), alloc_set _ O _ _ (by simp only [hs]; exact h), alloc_set _ O _ _ (by simp only [hs]; exact h), alloc_set _ O _ _ (by simp only [hs]; exact h)]

theorem set8_past {w : World} {g : Nat} (h : g < w.heap.size) (O O' : Obj) (o : Nat) (s : St) (nv : Value) : set8 ((w.alloc O).alloc O') g o s nv = ((set8 w g o s nv).alloc O).alloc O' := by
  rw [alloc_set8 _ _ _ _ _ (by rw [World.size_alloc]; omega), alloc_set8 _ _ _ _ _ h]

theorem remL_foldS (ss : List St) : remL (fun _ s => foldS s) ss = foldL ss := by
  unfold remL foldL
  apply List.ext_getElem?
  intro i
  by_cases hi : i < ss.length
  · simp [hi, remF, List.getD]
  · simp [hi]

set_option maxRecDepth 100000 in
set_option maxHeartbeats 4000000 in
theorem specFold_any {Q : Ending → World → Prop} (v : Value) (ss : List St) (w : World) (h : StepsN w v ss) (hl : ss.length ≤ 1048576) (hls : ∀ s ∈ ss, s.next.length ≤ 1048576)
    (hQ : ∀ v' ts xs nvs w', Below w.heap.size w w' → FoldOr ss ts → PO w.heap.size w' v' ts xs nvs → Q (.returned (.agg #[v'])) w') :
    Calls Try.prog 10 #[.agg #[v]] w Q := by
  have HQ : Hid _ := hQ
  clear hQ
  obtain ⟨ao, b, o, cap, rfl, ha, hc⟩ := id h
  clear ha hc
  have HH : Hid (StepsN w (.slice ao ss.length cap) ss) := h
  have HL : Hid _ := hls
  clear hls h
  obtain ⟨i0, hi, hz0, hz1, hz2⟩ := info_parts infoInt2
  have hb0 : ∀ O O', Below w.heap.size w ((w.alloc O).alloc O') := fun O O' => ((Below.refl _ _).alloc (Nat.le_refl _) O).alloc (by simp) O'
  go_enter Try.func10, Try.ntmps10
  go_wp2_with fail
  refine specOk_any _ ss _ (HH.out.at.keep (hb0 _ _)) hl HL.out fun w1 hb1 => ?_
  have hbA : Below w.heap.size w w1 := (hb0 _ _).trans (hb1.mono (by simp; omega))
  have q1 : w1.cell? ⟨w.heap.size, 0, none⟩ = some (.slice ao ss.length cap) := cell_keep hb1 (by simp [go_sem])
  have r1 : w1.cell? ⟨w.heap.size + 1, 0, none⟩ = some (.slice none 0 0) := cell_keep hb1 (by simp [go_sem])
  have rf1 : w1.frozen? ⟨w.heap.size + 1, 0, none⟩ = false := (hb1.frozen (by simp)).trans (by simp [go_sem])
  have HBA : Hid (Below w.heap.size w w1) := hbA
  clear hb1 hb0 hbA
  cases hok : okB ss
  · have HOR : Hid (FoldOr ss []) := by rw [Hid, FoldOr, hok]; rfl
    clear hok
    go_wp2
    exact bodyPost_ret (v := .agg #[.slice none 0 0]) (by simp [results, Try.results10, go_sem, r1]) rfl (HQ.out _ _ [] (fun _ => .slice none 0 0) _ (HBA.out.setCell (by simp) _) HOR.out (PO.nil _ _ _))
  · have HOK : Hid (okB ss = true) := hok
    have HOR : Hid (FoldOr ss (foldL ss)) := by rw [Hid, FoldOr, hok]; rfl
    obtain ⟨hn1, hn2⟩ := ok_len hok
    clear hok
    go_wp2_with fail
    refine l1Copy_any _ ss _ (HH.out.keep HBA.out) (by omega) (fun s hs => Nat.le_trans ((ok_fitN HOK.out).1 s hs) (by decide)) fun v2 xs2 nvs2 w2 hP2 hb2 => ?_
    have HB2 : Hid (Below w.heap.size w w2) := HBA.out.trans (hb2.mono HBA.out.size)
    have r2 := cell_keep hb2 r1
    have rf2 := (hb2.frozen (p := ⟨w.heap.size + 1, 0, none⟩) (cell_lt r1)).trans rf1
    have hlt : w.heap.size + 1 < w1.heap.size := cell_lt r1
    have hsz2 := hb2.size
    obtain ⟨A, c, rfl, hA⟩ := hP2.slice
    obtain ⟨gl, rfl, hgl, hglw⟩ := hA 0 (by omega)
    have HP2 : Hid (PF w1.heap.size w2 (.slice (some ⟨gl, 0, none⟩) ss.length c) ss.length (remF (fun _ s => foldS s) ss 0) xs2 nvs2) := (hP2.pf step00).congr fun j _ => by simp [remF]
    have HA2 : Hid (Apart nvs2 ss.length) := hP2.apart
    clear hP2 hb2 q1 r1 rf1 hA
    go_wp2_with fail
    have hX : ∀ O, Below w2.heap.size w2 (w2.alloc O) := fun O => (Below.refl _ _).alloc (Nat.le_refl _) O
    have HX : Hid _ := hX
    have HR3 : Hid (∀ O, (w2.alloc O).cell? ⟨w.heap.size + 1, 0, none⟩ = some (.slice none 0 0) ∧ (w2.alloc O).frozen? ⟨w.heap.size + 1, 0, none⟩ = false) := fun O => ⟨cell_keep (hX O) r2, ((hX O).frozen (p := ⟨w.heap.size + 1, 0, none⟩) (cell_lt r2)).trans rf2⟩
    have HQ3 : Hid ((w2.alloc (.cells #[.slice (some ⟨gl, 0, none⟩) ss.length c] 28)).cell? ⟨w2.heap.size, 0, none⟩ = some (.slice (some ⟨gl, 0, none⟩) ss.length c)) := by simp [Hid, go_sem]
    clear hX r2 rf2
    go_loopw [4] (fun i wr => ∃ (k : Nat) (xs : List Value) (nvs : Nat → Value), k ≤ ss.length ∧ i = .int .i64 k ∧ Below w.heap.size w wr ∧ wr.cell? ⟨w2.heap.size, 0, none⟩ = some (.slice (some ⟨gl, 0, none⟩) ss.length c) ∧ (wr.cell? ⟨w.heap.size + 1, 0, none⟩ = some (.slice none 0 0) ∧ wr.frozen? ⟨w.heap.size + 1, 0, none⟩ = false) ∧ PF w1.heap.size wr (.slice (some ⟨gl, 0, none⟩) ss.length c) ss.length (remF (fun _ s => foldS s) ss k) xs nvs ∧ Apart nvs ss.length) (fun i _ => ss.length - (intOf i).toNat)
    case atStart => exact ⟨0, xs2, nvs2, Nat.zero_le _, rfl, HB2.out.trans ((HX.out _).mono HB2.out.size), HQ3.out, HR3.out _, HP2.out.keep (HX.out _), HA2.out⟩
    case round =>
      clear HP2 HA2 HR3 HQ3 HX
      obtain ⟨k, xs, nvs, hk, rfl, hb, q, ⟨r, rf⟩, hP, hap⟩ := hrel
      have HB : Hid (Below w.heap.size w wr) := hb
      have HPF : Hid (PF w1.heap.size wr (.slice (some ⟨gl, 0, none⟩) ss.length c) ss.length (remF (fun _ s => foldS s) ss k) xs nvs) := hP
      have HAP : Hid (Apart nvs ss.length) := hap
      by_cases hkl : k < ss.length
      · have hki : (k : Int) < (ss.length : Int) := by omega
        have hF : remF (fun _ s => foldS s) ss k k = ss[k] := by simp [remF, List.getD, hkl]
        obtain ⟨A9, c9, hv9, hat9⟩ := hP.at
        obtain ⟨g9, hg9, _, hg9lt, hd9, hfz9⟩ := hat9 k hkl
        cases hv9
        cases hg9
        have hown := hP.own k hkl
        rw [hF] at hd9 hown
        obtain ⟨A0, n0, k0, hn0⟩ := own_is_slice hown
        have HN0 : Hid (nvs k = .slice A0 n0 k0) := hn0
        rw [hn0] at hd9 hown
        have HOWN : Hid (wr.ownsRow w1.heap.size 3 1 (.slice A0 n0 k0) ss[k].next.length (ss[k].next.map (Value.int .i64))) := hown
        obtain ⟨c0, c1, c2, c3, c4, c5, c6, c7⟩ := hd9
        have hq2 : w2.heap.size < wr.heap.size := cell_lt q
        have hq3 : w2.heap.size ≠ wr.heap.size := by omega
        have hglq : gl ≠ w2.heap.size := by omega
        have HSB : Hid (stepB ss[k] ss.length = true) := ok_stepM HOK.out (List.getElem_mem hkl)
        have HREM : Hid (∀ j, remF (fun _ s => foldS s) ss (k + 1) j = if j = k then foldS ss[k] else remF (fun _ s => foldS s) ss k j) := fun j => by
          unfold remF
          by_cases e : j = k
          · subst e
            rw [if_pos (Nat.lt_succ_self _), if_pos rfl]
            simp [List.getD, hkl]
          · rw [if_neg e]
            by_cases e2 : j < k
            · rw [if_pos (by omega), if_pos e2]
            · rw [if_neg (by omega), if_neg e2]
        have HBS : Hid (∀ O, Below wr.heap.size wr (wr.alloc O)) := fun O => (Below.refl _ _).alloc (Nat.le_refl _) O
        have HKEEP : Hid (foldS ss[k] = ss[k] → ∀ O, Below w.heap.size w (wr.alloc O) ∧ (wr.alloc O).cell? ⟨w2.heap.size, 0, none⟩ = some (.slice (some ⟨gl, 0, none⟩) ss.length c) ∧ ((wr.alloc O).cell? ⟨w.heap.size + 1, 0, none⟩ = some (.slice none 0 0) ∧ (wr.alloc O).frozen? ⟨w.heap.size + 1, 0, none⟩ = false) ∧ PF w1.heap.size (wr.alloc O) (.slice (some ⟨gl, 0, none⟩) ss.length c) ss.length (remF (fun _ s => foldS s) ss (k + 1)) xs nvs ∧ Apart nvs ss.length) := fun e O => by
          refine ⟨HB.out.trans ((HBS.out O).mono HB.out.size), cell_keep (HBS.out O) q, ⟨cell_keep (HBS.out O) r, ((HBS.out O).frozen (p := ⟨w.heap.size + 1, 0, none⟩) (cell_lt r)).trans rf⟩, (HPF.out.keep (HBS.out O)).congr fun j _ => ?_, HAP.out⟩
          rw [HREM.out j]
          by_cases ej : j = k
          · rw [if_pos ej, ej, e, hF]
          · rw [if_neg ej]
        clear hb hP hap hat9 hF hown hn0
        by_cases h1 : ss[k].kind = 1
        · by_cases ha : ss[k].av = -1
          · by_cases hbv : ss[k].bv = -1
            · rw [h1] at c0
              rw [ha] at c3
              rw [hbv] at c5
              obtain ⟨y, hy⟩ : ∃ y, opR ss[k].op ss[k].an ss[k].bn = y := ⟨_, rfl⟩
              have HY : Hid (opR ss[k].op ss[k].an ss[k].bn = y) := hy
              have HF : Hid (foldS ss[k] = ⟨2, ss[k].dst, 0, -1, y, 0, 0, ss[k].next⟩) := by rw [Hid]; unfold foldS; rw [if_pos ⟨h1, ha, hbv⟩, hy]
              clear hy
              have HNEW : Hid ((∀ O, (wr.alloc O).ownsRow w1.heap.size 3 1 (.slice A0 n0 k0) (foldS ss[k]).next.length ((foldS ss[k]).next.map (Value.int .i64))) ∧ Apart (fun j => if j = k then .slice A0 n0 k0 else nvs j) ss.length) := by
                refine ⟨fun O => ?_, fun i j q hi hj hij => ?_⟩
                · rw [HF.out]
                  exact World.ownsRow.alloc HOWN.out O
                · have key : ∀ i, (if i = k then (.slice A0 n0 k0 : Value) else nvs i) = nvs i := fun i => by
                    by_cases e : i = k
                    · rw [if_pos e, e, HN0.out]
                    · rw [if_neg e]
                  simp only [key]
                  exact HAP.out i j q hi hj hij
              go_wp2_with fail
              have hW : Below wr.heap.size wr (wr.alloc (.cells #[.int .i64 1, .int .i64 ss[k].dst, .int .i64 ss[k].op, .int .i64 (-1), .int .i64 ss[k].an, .int .i64 (-1), .int .i64 ss[k].bn, .slice A0 n0 k0] 43)) := HBS.out _
              have m0 := cell_keep hW c0
              have m1 := cell_keep hW c1
              have m2 := cell_keep hW c2
              have m3 := cell_keep hW c3
              have m4 := cell_keep hW c4
              have m5 := cell_keep hW c5
              have m6 := cell_keep hW c6
              have m7 := cell_keep hW c7
              have mf : ∀ j, (wr.alloc (.cells #[.int .i64 1, .int .i64 ss[k].dst, .int .i64 ss[k].op, .int .i64 (-1), .int .i64 ss[k].an, .int .i64 (-1), .int .i64 ss[k].bn, .slice A0 n0 k0] 43)).frozen? ⟨gl, j, none⟩ = false := fun j => (hW.frozen (p := ⟨gl, j, none⟩) hg9lt).trans (hfz9 j)
              have x0 := cell_keep hW q
              have xk : (wr.alloc (.cells #[.int .i64 1, .int .i64 ss[k].dst, .int .i64 ss[k].op, .int .i64 (-1), .int .i64 ss[k].an, .int .i64 (-1), .int .i64 ss[k].bn, .slice A0 n0 k0] 43)).cell? ⟨wr.heap.size, 0, none⟩ = some (.int .i64 1) := by simp [go_sem]
              have x1 : (wr.alloc (.cells #[.int .i64 1, .int .i64 ss[k].dst, .int .i64 ss[k].op, .int .i64 (-1), .int .i64 ss[k].an, .int .i64 (-1), .int .i64 ss[k].bn, .slice A0 n0 k0] 43)).cell? ⟨wr.heap.size, 1, none⟩ = some (.int .i64 ss[k].dst) := by simp [go_sem]
              have x2 : (wr.alloc (.cells #[.int .i64 1, .int .i64 ss[k].dst, .int .i64 ss[k].op, .int .i64 (-1), .int .i64 ss[k].an, .int .i64 (-1), .int .i64 ss[k].bn, .slice A0 n0 k0] 43)).cell? ⟨wr.heap.size, 2, none⟩ = some (.int .i64 ss[k].op) := by simp [go_sem]
              have x4 : (wr.alloc (.cells #[.int .i64 1, .int .i64 ss[k].dst, .int .i64 ss[k].op, .int .i64 (-1), .int .i64 ss[k].an, .int .i64 (-1), .int .i64 ss[k].bn, .slice A0 n0 k0] 43)).cell? ⟨wr.heap.size, 4, none⟩ = some (.int .i64 ss[k].an) := by simp [go_sem]
              have x6 : (wr.alloc (.cells #[.int .i64 1, .int .i64 ss[k].dst, .int .i64 ss[k].op, .int .i64 (-1), .int .i64 ss[k].an, .int .i64 (-1), .int .i64 ss[k].bn, .slice A0 n0 k0] 43)).cell? ⟨wr.heap.size, 6, none⟩ = some (.int .i64 ss[k].bn) := by simp [go_sem]
              have x7 : (wr.alloc (.cells #[.int .i64 1, .int .i64 ss[k].dst, .int .i64 ss[k].op, .int .i64 (-1), .int .i64 ss[k].an, .int .i64 (-1), .int .i64 ss[k].bn, .slice A0 n0 k0] 43)).cell? ⟨wr.heap.size, 7, none⟩ = some (.slice A0 n0 k0) := by simp [go_sem]
              have HW : Hid (Below wr.heap.size wr (wr.alloc (.cells #[.int .i64 1, .int .i64 ss[k].dst, .int .i64 ss[k].op, .int .i64 (-1), .int .i64 ss[k].an, .int .i64 (-1), .int .i64 ss[k].bn, .slice A0 n0 k0] 43))) := hW
              have HPW : Hid (PF w1.heap.size (wr.alloc (.cells #[.int .i64 1, .int .i64 ss[k].dst, .int .i64 ss[k].op, .int .i64 (-1), .int .i64 ss[k].an, .int .i64 (-1), .int .i64 ss[k].bn, .slice A0 n0 k0] 43)) (.slice (some ⟨gl, 0, none⟩) ss.length c) ss.length (remF (fun _ s => foldS s) ss k) xs nvs) := HPF.out.keep hW
              have HNW : Hid ((wr.alloc (.cells #[.int .i64 1, .int .i64 ss[k].dst, .int .i64 ss[k].op, .int .i64 (-1), .int .i64 ss[k].an, .int .i64 (-1), .int .i64 ss[k].bn, .slice A0 n0 k0] 43)).ownsRow w1.heap.size 3 1 (.slice A0 n0 k0) (foldS ss[k]).next.length ((foldS ss[k]).next.map (Value.int .i64))) := HNEW.out.1 _
              clear c0 c1 c2 c3 c4 c5 c6 c7 hW hfz9
              have hne1 : gl ≠ wr.heap.size := by omega
              have hne2 : wr.heap.size ≠ gl := by omega
              generalize (wr.alloc (.cells #[.int .i64 1, .int .i64 ss[k].dst, .int .i64 ss[k].op, .int .i64 (-1), .int .i64 ss[k].an, .int .i64 (-1), .int .i64 ss[k].bn, .slice A0 n0 k0] 43)) = W5 at *
              go_region_held3 (fun wx => wx.cell? ⟨w2.heap.size, 0, none⟩ = some (.slice (some ⟨gl, 0, none⟩) ss.length c) ∧ wx.cell? ⟨wr.heap.size, 1, none⟩ = some (.int .i64 ss[k].dst) ∧ wx.cell? ⟨wr.heap.size, 2, none⟩ = some (.int .i64 ss[k].op) ∧ wx.cell? ⟨wr.heap.size, 4, none⟩ = some (.int .i64 ss[k].an) ∧ wx.cell? ⟨wr.heap.size, 6, none⟩ = some (.int .i64 ss[k].bn) ∧ wx.cell? ⟨wr.heap.size, 7, none⟩ = some (.slice A0 n0 k0)) (go_keep) (first | (go_at_call 28; refine specRunOp_any _ _ _ _ ?_; rw [HY.out]))
              all_goals
                obtain ⟨ys, h8⟩ := PF.put8 (o := k * 8) rfl HPW.out hkl HNW.out
                have HP8 : Hid _ := h8
                have HWD : Hid (Below wr.heap.size wr W5) := HW.out
                have HB8 : Hid (Below w.heap.size w (set8 W5 gl (k * 8) (foldS ss[k]) (.slice A0 n0 k0))) := set8_below (HB.out.trans (HWD.out.mono HB.out.size)) (by omega)
                have HQ8 : Hid ((set8 W5 gl (k * 8) (foldS ss[k]) (.slice A0 n0 k0)).cell? ⟨w2.heap.size, 0, none⟩ = some (.slice (some ⟨gl, 0, none⟩) ss.length c) ∧ (set8 W5 gl (k * 8) (foldS ss[k]) (.slice A0 n0 k0)).cell? ⟨w.heap.size + 1, 0, none⟩ = some (.slice none 0 0) ∧ (set8 W5 gl (k * 8) (foldS ss[k]) (.slice A0 n0 k0)).frozen? ⟨w.heap.size + 1, 0, none⟩ = false) := by
                  have e := set8_block W5 gl (k * 8) (foldS ss[k]) (.slice A0 n0 k0) w2.heap.size (by omega)
                  have e' := set8_block W5 gl (k * 8) (foldS ss[k]) (.slice A0 n0 k0) (w.heap.size + 1) (by omega)
                  exact ⟨(World.cell?_of_block (a := ⟨w2.heap.size, 0, none⟩) e).trans (cell_keep HWD.out q), (World.cell?_of_block (a := ⟨w.heap.size + 1, 0, none⟩) e').trans (cell_keep HWD.out r), (World.frozen?_of_block (a := ⟨w.heap.size + 1, 0, none⟩) e').trans ((HWD.out.frozen (p := ⟨w.heap.size + 1, 0, none⟩) (cell_lt r)).trans rf)⟩
                rw [HF.out] at HB8 HQ8
                have HP9 : Hid (PF w1.heap.size (set8 W5 gl (k * 8) ⟨2, ss[k].dst, 0, -1, y, 0, 0, ss[k].next⟩ (.slice A0 n0 k0)) (.slice (some ⟨gl, 0, none⟩) ss.length c) ss.length (remF (fun _ s => foldS s) ss (k + 1)) ys (fun j => if j = k then .slice A0 n0 k0 else nvs j)) := by
                  have h9 := HP8.out.congr (G := remF (fun _ s => foldS s) ss (k + 1)) fun j _ => HREM.out j
                  rw [HF.out] at h9
                  exact h9
                clear h8 HP8
                go_wp2
                go_roundw
                case rel => exact ⟨k + 1, ys, _, by omega, by go_num, HB8.out.drew, cell_drew HQ8.out.1, ⟨cell_drew HQ8.out.2.1, frozen_drew HQ8.out.2.2⟩, HP9.out.keep ((Below.refl _ _).drew), HNEW.out.2⟩
                case measure => simp [intOf]; omega
            · have hbb : (ss[k].bv == -1) = false := by simpa using hbv
              have HE := HKEEP.out (by unfold foldS; rw [if_neg (by rintro ⟨h, h2, h3⟩; omega), if_neg (by rintro ⟨h, h2⟩; omega)])
              have HE2 : Hid _ := HE
              clear HE
              (try rw [h1] at c0); (try rw [ha] at c3)
              go_wp2
              go_roundw
              case rel =>
                obtain ⟨e1, e2, e3, e4, e5⟩ := HE2.out _
                exact ⟨k + 1, xs, nvs, by omega, by go_num, e1, e2, e3, e4, e5⟩
              case measure => simp [intOf]; omega
          · have hab : (ss[k].av == -1) = false := by simpa using ha
            have HE := HKEEP.out (by unfold foldS; rw [if_neg (by rintro ⟨h, h2, h3⟩; omega), if_neg (by rintro ⟨h, h2⟩; omega)])
            have HE2 : Hid _ := HE
            clear HE
            (try rw [h1] at c0); (try rw [ha] at c3)
            go_wp2
            go_roundw
            case rel =>
              obtain ⟨e1, e2, e3, e4, e5⟩ := HE2.out _
              exact ⟨k + 1, xs, nvs, by omega, by go_num, e1, e2, e3, e4, e5⟩
            case measure => simp [intOf]; omega
        · have h1b : (ss[k].kind == 1) = false := by simpa using h1
          by_cases h5 : ss[k].kind = 5
          · by_cases ha : ss[k].av = -1
            · rw [h5] at c0 h1b
              rw [ha] at c3
              have hl2 := (test_opnd HSB.out h5).2
              have hrow := HOWN.out
              rw [hl2] at hrow
              obtain ⟨A5, c5', hv5, hA5⟩ := own_len hrow
              cases hv5
              obtain ⟨nb, rfl, hnb⟩ := hA5 (by omega)
              have HF0 : Hid (foldS ss[k] = skipSt (if ss[k].an = 0 then ss[k].next.getD 1 0 else ss[k].next.getD 0 0)) := by rw [Hid]; unfold foldS; rw [if_neg (by rintro ⟨h, _⟩; omega), if_pos ⟨h5, ha⟩]
              have z0 : wr.cell? ⟨nb, 0, none⟩ = some (.int .i64 (ss[k].next.getD 0 0)) := (hrow.cellAt 0 (by omega)).trans (by simp [List.getD, hl2])
              have z1 : wr.cell? ⟨nb, 1, none⟩ = some (.int .i64 (ss[k].next.getD 1 0)) := (hrow.cellAt 1 (by omega)).trans (by simp [List.getD, hl2])
              have hnw : nb < wr.heap.size := cell_lt z0
              have hnw2 : nb ≠ wr.heap.size := by omega
              have hgw2 : gl ≠ wr.heap.size := by omega
              have HWB : Hid (∀ O O', Below wr.heap.size wr ((wr.alloc O).alloc O')) := fun O O' => ((Below.refl _ _).alloc (Nat.le_refl _) O).alloc (by simp) O'
              have hw1r : w1.heap.size ≤ wr.heap.size := by omega
              have HNL : Hid (∀ O (x : Int), ((wr.alloc O).alloc (.cells #[.int .i64 x] 3)).ownsRow w1.heap.size 3 1 (.slice (some ⟨wr.heap.size + 1, 0, none⟩) 1 1) 1 [.int .i64 x]) := fun O x => by
                have h1 := World.ownsRow_lit (base := w1.heap.size) (e := 3) (size := 1) (wr.alloc O) #[.int .i64 x] 1 (by simp; omega) (by decide) (by simp)
                simpa using h1
              have HAN : Hid (Apart (fun j => if j = k then .slice (some ⟨wr.heap.size + 1, 0, none⟩) 1 1 else nvs j) ss.length) := by
                intro i j q hi hj hij
                have old : ∀ i, i < ss.length → ∀ q, (nvs i).ownBlock = some q → q < wr.heap.size := fun i hi q hq => HPF.out.nvLt hi hq
                by_cases e1 : i = k <;> by_cases e2 : j = k
                · omega
                · simp only [if_pos e1, if_neg e2]
                  intro hq hq2
                  simp [Value.ownBlock] at hq
                  have := old j hj q hq2
                  omega
                · simp only [if_neg e1, if_pos e2]
                  intro hq hq2
                  simp [Value.ownBlock] at hq2
                  have := old i hi q hq
                  omega
                · simp only [if_neg e1, if_neg e2]
                  exact HAP.out i j q hi hj hij
              clear hrow hA5 hl2
              generalize ss[k].next.getD 0 0 = y0 at *
              generalize ss[k].next.getD 1 0 = y1 at *
              by_cases hz : ss[k].an = 0
              · have HF : Hid (foldS ss[k] = skipSt y1) := by rw [Hid, HF0.out, if_pos hz]
                rw [hz] at c4
                obtain ⟨ys, h8⟩ := PF.put8 (o := k * 8) rfl (HPF.out.keep (HWB.out _ _)) hkl (s := skipSt y1) (nv := .slice (some ⟨wr.heap.size + 1, 0, none⟩) 1 1) (HNL.out (.cells #[.int .i64 5, .int .i64 ss[k].dst, .int .i64 ss[k].op, .int .i64 (-1), .int .i64 0, .int .i64 ss[k].bv, .int .i64 ss[k].bn, .slice (some ⟨nb, 0, none⟩) 2 k0] 43) y1)
                have HB8 : Hid (Below w.heap.size w (set8 ((wr.alloc (.cells #[.int .i64 5, .int .i64 ss[k].dst, .int .i64 ss[k].op, .int .i64 (-1), .int .i64 0, .int .i64 ss[k].bv, .int .i64 ss[k].bn, .slice (some ⟨nb, 0, none⟩) 2 k0] 43)).alloc (.cells #[.int .i64 y1] 3)) gl (k * 8) (skipSt y1) (.slice (some ⟨wr.heap.size + 1, 0, none⟩) 1 1))) := set8_below (HB.out.trans ((HWB.out _ _).mono HB.out.size)) (by omega)
                have HQ8 : Hid ((set8 ((wr.alloc (.cells #[.int .i64 5, .int .i64 ss[k].dst, .int .i64 ss[k].op, .int .i64 (-1), .int .i64 0, .int .i64 ss[k].bv, .int .i64 ss[k].bn, .slice (some ⟨nb, 0, none⟩) 2 k0] 43)).alloc (.cells #[.int .i64 y1] 3)) gl (k * 8) (skipSt y1) (.slice (some ⟨wr.heap.size + 1, 0, none⟩) 1 1)).cell? ⟨w2.heap.size, 0, none⟩ = some (.slice (some ⟨gl, 0, none⟩) ss.length c) ∧ (set8 ((wr.alloc (.cells #[.int .i64 5, .int .i64 ss[k].dst, .int .i64 ss[k].op, .int .i64 (-1), .int .i64 0, .int .i64 ss[k].bv, .int .i64 ss[k].bn, .slice (some ⟨nb, 0, none⟩) 2 k0] 43)).alloc (.cells #[.int .i64 y1] 3)) gl (k * 8) (skipSt y1) (.slice (some ⟨wr.heap.size + 1, 0, none⟩) 1 1)).cell? ⟨w.heap.size + 1, 0, none⟩ = some (.slice none 0 0) ∧ (set8 ((wr.alloc (.cells #[.int .i64 5, .int .i64 ss[k].dst, .int .i64 ss[k].op, .int .i64 (-1), .int .i64 0, .int .i64 ss[k].bv, .int .i64 ss[k].bn, .slice (some ⟨nb, 0, none⟩) 2 k0] 43)).alloc (.cells #[.int .i64 y1] 3)) gl (k * 8) (skipSt y1) (.slice (some ⟨wr.heap.size + 1, 0, none⟩) 1 1)).frozen? ⟨w.heap.size + 1, 0, none⟩ = false) := by
                  have e := set8_block ((wr.alloc (.cells #[.int .i64 5, .int .i64 ss[k].dst, .int .i64 ss[k].op, .int .i64 (-1), .int .i64 0, .int .i64 ss[k].bv, .int .i64 ss[k].bn, .slice (some ⟨nb, 0, none⟩) 2 k0] 43)).alloc (.cells #[.int .i64 y1] 3)) gl (k * 8) (skipSt y1) (.slice (some ⟨wr.heap.size + 1, 0, none⟩) 1 1) w2.heap.size (by omega)
                  have e' := set8_block ((wr.alloc (.cells #[.int .i64 5, .int .i64 ss[k].dst, .int .i64 ss[k].op, .int .i64 (-1), .int .i64 0, .int .i64 ss[k].bv, .int .i64 ss[k].bn, .slice (some ⟨nb, 0, none⟩) 2 k0] 43)).alloc (.cells #[.int .i64 y1] 3)) gl (k * 8) (skipSt y1) (.slice (some ⟨wr.heap.size + 1, 0, none⟩) 1 1) (w.heap.size + 1) (by omega)
                  exact ⟨(World.cell?_of_block (a := ⟨w2.heap.size, 0, none⟩) e).trans (cell_keep (HWB.out _ _) q), (World.cell?_of_block (a := ⟨w.heap.size + 1, 0, none⟩) e').trans (cell_keep (HWB.out _ _) r), (World.frozen?_of_block (a := ⟨w.heap.size + 1, 0, none⟩) e').trans (((HWB.out _ _).frozen (p := ⟨w.heap.size + 1, 0, none⟩) (cell_lt r)).trans rf)⟩
                have HP9 : Hid (PF w1.heap.size (set8 ((wr.alloc (.cells #[.int .i64 5, .int .i64 ss[k].dst, .int .i64 ss[k].op, .int .i64 (-1), .int .i64 0, .int .i64 ss[k].bv, .int .i64 ss[k].bn, .slice (some ⟨nb, 0, none⟩) 2 k0] 43)).alloc (.cells #[.int .i64 y1] 3)) gl (k * 8) (skipSt y1) (.slice (some ⟨wr.heap.size + 1, 0, none⟩) 1 1)) (.slice (some ⟨gl, 0, none⟩) ss.length c) ss.length (remF (fun _ s => foldS s) ss (k + 1)) ys (fun j => if j = k then .slice (some ⟨wr.heap.size + 1, 0, none⟩) 1 1 else nvs j)) := h8.congr fun j _ => by
                  have e := HREM.out j
                  rw [HF.out] at e
                  exact e
                clear h8
                have HEQ : set8 ((wr.alloc (.cells #[.int .i64 5, .int .i64 ss[k].dst, .int .i64 ss[k].op, .int .i64 (-1), .int .i64 0, .int .i64 ss[k].bv, .int .i64 ss[k].bn, .slice (some ⟨nb, 0, none⟩) 2 k0] 43)).alloc (.cells #[.int .i64 y1] 3)) gl (k * 8) (skipSt y1) (.slice (some ⟨wr.heap.size + 1, 0, none⟩) 1 1) = ((set8 wr gl (k * 8) (skipSt y1) (.slice (some ⟨wr.heap.size + 1, 0, none⟩) 1 1)).alloc (.cells #[.int .i64 5, .int .i64 ss[k].dst, .int .i64 ss[k].op, .int .i64 (-1), .int .i64 0, .int .i64 ss[k].bv, .int .i64 ss[k].bn, .slice (some ⟨nb, 0, none⟩) 2 k0] 43)).alloc (.cells #[.int .i64 y1] 3) := set8_past hg9lt _ _ _ _ _
                rw [HEQ] at HB8 HQ8 HP9
                clear HEQ
                go_wp2
                go_roundw
                case rel => exact ⟨k + 1, ys, _, by omega, by go_num, HB8.out, HQ8.out.1, HQ8.out.2, HP9.out, HAN.out⟩
                case measure => simp [intOf]; omega
              · have HF : Hid (foldS ss[k] = skipSt y0) := by rw [Hid, HF0.out, if_neg hz]
                have hzb : (ss[k].an == 0) = false := by simpa using hz
                obtain ⟨ys, h8⟩ := PF.put8 (o := k * 8) rfl (HPF.out.keep (HWB.out _ _)) hkl (s := skipSt y0) (nv := .slice (some ⟨wr.heap.size + 1, 0, none⟩) 1 1) (HNL.out (.cells #[.int .i64 5, .int .i64 ss[k].dst, .int .i64 ss[k].op, .int .i64 (-1), .int .i64 ss[k].an, .int .i64 ss[k].bv, .int .i64 ss[k].bn, .slice (some ⟨nb, 0, none⟩) 2 k0] 43) y0)
                have HB8 : Hid (Below w.heap.size w (set8 ((wr.alloc (.cells #[.int .i64 5, .int .i64 ss[k].dst, .int .i64 ss[k].op, .int .i64 (-1), .int .i64 ss[k].an, .int .i64 ss[k].bv, .int .i64 ss[k].bn, .slice (some ⟨nb, 0, none⟩) 2 k0] 43)).alloc (.cells #[.int .i64 y0] 3)) gl (k * 8) (skipSt y0) (.slice (some ⟨wr.heap.size + 1, 0, none⟩) 1 1))) := set8_below (HB.out.trans ((HWB.out _ _).mono HB.out.size)) (by omega)
                have HQ8 : Hid ((set8 ((wr.alloc (.cells #[.int .i64 5, .int .i64 ss[k].dst, .int .i64 ss[k].op, .int .i64 (-1), .int .i64 ss[k].an, .int .i64 ss[k].bv, .int .i64 ss[k].bn, .slice (some ⟨nb, 0, none⟩) 2 k0] 43)).alloc (.cells #[.int .i64 y0] 3)) gl (k * 8) (skipSt y0) (.slice (some ⟨wr.heap.size + 1, 0, none⟩) 1 1)).cell? ⟨w2.heap.size, 0, none⟩ = some (.slice (some ⟨gl, 0, none⟩) ss.length c) ∧ (set8 ((wr.alloc (.cells #[.int .i64 5, .int .i64 ss[k].dst, .int .i64 ss[k].op, .int .i64 (-1), .int .i64 ss[k].an, .int .i64 ss[k].bv, .int .i64 ss[k].bn, .slice (some ⟨nb, 0, none⟩) 2 k0] 43)).alloc (.cells #[.int .i64 y0] 3)) gl (k * 8) (skipSt y0) (.slice (some ⟨wr.heap.size + 1, 0, none⟩) 1 1)).cell? ⟨w.heap.size + 1, 0, none⟩ = some (.slice none 0 0) ∧ (set8 ((wr.alloc (.cells #[.int .i64 5, .int .i64 ss[k].dst, .int .i64 ss[k].op, .int .i64 (-1), .int .i64 ss[k].an, .int .i64 ss[k].bv, .int .i64 ss[k].bn, .slice (some ⟨nb, 0, none⟩) 2 k0] 43)).alloc (.cells #[.int .i64 y0] 3)) gl (k * 8) (skipSt y0) (.slice (some ⟨wr.heap.size + 1, 0, none⟩) 1 1)).frozen? ⟨w.heap.size + 1, 0, none⟩ = false) := by
                  have e := set8_block ((wr.alloc (.cells #[.int .i64 5, .int .i64 ss[k].dst, .int .i64 ss[k].op, .int .i64 (-1), .int .i64 ss[k].an, .int .i64 ss[k].bv, .int .i64 ss[k].bn, .slice (some ⟨nb, 0, none⟩) 2 k0] 43)).alloc (.cells #[.int .i64 y0] 3)) gl (k * 8) (skipSt y0) (.slice (some ⟨wr.heap.size + 1, 0, none⟩) 1 1) w2.heap.size (by omega)
                  have e' := set8_block ((wr.alloc (.cells #[.int .i64 5, .int .i64 ss[k].dst, .int .i64 ss[k].op, .int .i64 (-1), .int .i64 ss[k].an, .int .i64 ss[k].bv, .int .i64 ss[k].bn, .slice (some ⟨nb, 0, none⟩) 2 k0] 43)).alloc (.cells #[.int .i64 y0] 3)) gl (k * 8) (skipSt y0) (.slice (some ⟨wr.heap.size + 1, 0, none⟩) 1 1) (w.heap.size + 1) (by omega)
                  exact ⟨(World.cell?_of_block (a := ⟨w2.heap.size, 0, none⟩) e).trans (cell_keep (HWB.out _ _) q), (World.cell?_of_block (a := ⟨w.heap.size + 1, 0, none⟩) e').trans (cell_keep (HWB.out _ _) r), (World.frozen?_of_block (a := ⟨w.heap.size + 1, 0, none⟩) e').trans (((HWB.out _ _).frozen (p := ⟨w.heap.size + 1, 0, none⟩) (cell_lt r)).trans rf)⟩
                have HP9 : Hid (PF w1.heap.size (set8 ((wr.alloc (.cells #[.int .i64 5, .int .i64 ss[k].dst, .int .i64 ss[k].op, .int .i64 (-1), .int .i64 ss[k].an, .int .i64 ss[k].bv, .int .i64 ss[k].bn, .slice (some ⟨nb, 0, none⟩) 2 k0] 43)).alloc (.cells #[.int .i64 y0] 3)) gl (k * 8) (skipSt y0) (.slice (some ⟨wr.heap.size + 1, 0, none⟩) 1 1)) (.slice (some ⟨gl, 0, none⟩) ss.length c) ss.length (remF (fun _ s => foldS s) ss (k + 1)) ys (fun j => if j = k then .slice (some ⟨wr.heap.size + 1, 0, none⟩) 1 1 else nvs j)) := h8.congr fun j _ => by
                  have e := HREM.out j
                  rw [HF.out] at e
                  exact e
                clear h8
                have HEQ : set8 ((wr.alloc (.cells #[.int .i64 5, .int .i64 ss[k].dst, .int .i64 ss[k].op, .int .i64 (-1), .int .i64 ss[k].an, .int .i64 ss[k].bv, .int .i64 ss[k].bn, .slice (some ⟨nb, 0, none⟩) 2 k0] 43)).alloc (.cells #[.int .i64 y0] 3)) gl (k * 8) (skipSt y0) (.slice (some ⟨wr.heap.size + 1, 0, none⟩) 1 1) = ((set8 wr gl (k * 8) (skipSt y0) (.slice (some ⟨wr.heap.size + 1, 0, none⟩) 1 1)).alloc (.cells #[.int .i64 5, .int .i64 ss[k].dst, .int .i64 ss[k].op, .int .i64 (-1), .int .i64 ss[k].an, .int .i64 ss[k].bv, .int .i64 ss[k].bn, .slice (some ⟨nb, 0, none⟩) 2 k0] 43)).alloc (.cells #[.int .i64 y0] 3) := set8_past hg9lt _ _ _ _ _
                rw [HEQ] at HB8 HQ8 HP9
                clear HEQ
                go_wp2
                go_roundw
                case rel => exact ⟨k + 1, ys, _, by omega, by go_num, HB8.out, HQ8.out.1, HQ8.out.2, HP9.out, HAN.out⟩
                case measure => simp [intOf]; omega
            · have hab : (ss[k].av == -1) = false := by simpa using ha
              rw [h5] at c0 h1b
              have HE := HKEEP.out (by unfold foldS; rw [if_neg (by rintro ⟨h, h2, h3⟩; omega), if_neg (by rintro ⟨h, h2⟩; omega)])
              have HE2 : Hid _ := HE
              clear HE
              (try rw [h1] at c0); (try rw [ha] at c3)
              go_wp2
              go_roundw
              case rel =>
                obtain ⟨e1, e2, e3, e4, e5⟩ := HE2.out _
                exact ⟨k + 1, xs, nvs, by omega, by go_num, e1, e2, e3, e4, e5⟩
              case measure => simp [intOf]; omega
          · have h5b : (ss[k].kind == 5) = false := by simpa using h5
            have HE := HKEEP.out (by unfold foldS; rw [if_neg (by rintro ⟨h, h2, h3⟩; omega), if_neg (by rintro ⟨h, h2⟩; omega)])
            have HE2 : Hid _ := HE
            clear HE
            (try rw [h1] at c0); (try rw [ha] at c3)
            go_wp2
            go_roundw
            case rel =>
              obtain ⟨e1, e2, e3, e4, e5⟩ := HE2.out _
              exact ⟨k + 1, xs, nvs, by omega, by go_num, e1, e2, e3, e4, e5⟩
            case measure => simp [intOf]; omega
      · have hki : ¬ (k : Int) < (ss.length : Int) := by omega
        obtain rfl : k = ss.length := by omega
        clear hb hP hap
        go_wp2
        refine bodyPost_ret (v := .agg #[.slice (some ⟨gl, 0, none⟩) ss.length c]) (by simp [results, Try.results10, go_sem, r]) rfl ?_
        have hlen : (foldL ss).length = ss.length := by simp [foldL]
        have h1 := HPF.out.po HAP.out
        rw [show (List.range ss.length).map (remF (fun _ s => foldS s) ss ss.length) = foldL ss from remL_foldS ss] at h1
        exact HQ.out _ _ xs nvs _ (HB.out.setCell (Nat.le_succ _) _) HOR.out ((h1.below (a := ⟨w.heap.size + 1, 0, none⟩) hlt _).lower (by omega))
end Go.Proofs.Ytancacjnbbdbfaa
