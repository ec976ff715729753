/- What the model's l71Two draws: a program and a reckoning. -/
import Derived.Test.YtajgioeifhgfhaaDoorDraw8L
import Derived.Test.YtajgioeifhgfhaaDoorSpecEL
import Derived.Deep.Cut
import Derived.Deep.RegionHeld3
namespace Go.Proofs.YtajgioeifhgfhaaDoor
open Go.RowKit

/-- What is known while l71Two draws: the boxes of its answers, the program's box, what the program is, and the reader. -/
structure TS (rb p d : Nat) (w W : World) (b4 l : Nat) (v : Value) (ss : List St) (p' : Nat) : Prop where
  st : StepsNF (w.heap.size + 2) W v ss
  ln : ss.length ≤ l
  ns : ∀ s ∈ ss, s.next.length ≤ l
  pc : W.cell? ⟨b4, 0, none⟩ = some v
  pf : W.frozen? ⟨b4, 0, none⟩ = false
  q0 : W.cell? ⟨w.heap.size, 0, none⟩ = some (.slice none 0 0)
  e0 : W.cell? ⟨w.heap.size + 1, 0, none⟩ = some (.int .i64 0)
  e1 : W.cell? ⟨w.heap.size + 1, 1, none⟩ = some (.int .i64 0)
  e2 : W.cell? ⟨w.heap.size + 1, 2, none⟩ = some (.int .i64 0)
  e3 : W.cell? ⟨w.heap.size + 1, 3, none⟩ = some (.int .i64 0)
  e4 : W.cell? ⟨w.heap.size + 1, 4, none⟩ = some (.int .i64 0)
  fq : ∀ j, W.frozen? ⟨w.heap.size, j, none⟩ = false
  fe : ∀ j, W.frozen? ⟨w.heap.size + 1, j, none⟩ = false
  b1 : w.heap.size + 2 ≤ b4
  b2 : b4 < W.heap.size
  rd : Rd W rb p'
  pb : p' ≤ p + d
  ex : Ex rb w W

theorem TS.go {rb p d d' : Nat} {w W W' : World} {b4 l : Nat} {v : Value} {ss : List St} {p' p'' : Nat} (h : TS rb p d w W b4 l v ss p') (hr : rb < w.heap.size) (hx : Ex rb W W') (hd : Rd W' rb p'') (hp : p'' ≤ p + d') : TS rb p d' w W' b4 l v ss p'' := by
  have hb1 := h.b1
  have hb2 := h.b2
  exact ⟨h.st.ex hx (by omega), h.ln, h.ns, hx.cell h.pc (by show b4 ≠ rb; omega), (hx.frozen (p := ⟨b4, 0, none⟩) h.b2 (by show b4 ≠ rb; omega)).trans h.pf,
    hx.cell h.q0 (by show w.heap.size ≠ rb; omega), hx.cell h.e0 (by show w.heap.size + 1 ≠ rb; omega), hx.cell h.e1 (by show w.heap.size + 1 ≠ rb; omega), hx.cell h.e2 (by show w.heap.size + 1 ≠ rb; omega), hx.cell h.e3 (by show w.heap.size + 1 ≠ rb; omega), hx.cell h.e4 (by show w.heap.size + 1 ≠ rb; omega),
    fun j => (hx.frozen (p := ⟨w.heap.size, j, none⟩) (by show w.heap.size < _; omega) (by show w.heap.size ≠ rb; omega)).trans (h.fq j),
    fun j => (hx.frozen (p := ⟨w.heap.size + 1, j, none⟩) (by show w.heap.size + 1 < _; omega) (by show w.heap.size + 1 ≠ rb; omega)).trans (h.fe j),
    h.b1, Nat.lt_of_lt_of_le h.b2 hx.size, hd, hp, h.ex.trans hx⟩

theorem TS.put {rb p d : Nat} {w W : World} {b4 l l' : Nat} {v v' : Value} {ss ts : List St} {p' lo : Nat} (h : TS rb p d w W b4 l v ss p') (hr : rb < w.heap.size) (ht : StepsNF lo W v' ts) (hlo : b4 < lo) (hl : ts.length ≤ l') (hn : ∀ s ∈ ts, s.next.length ≤ l') : TS rb p d w (W.setCell ⟨b4, 0, none⟩ v') b4 l' v' ts p' := by
  have hb1 := h.b1
  have hb2 := h.b2
  have k : ∀ b j u, b ≠ b4 → W.cell? ⟨b, j, none⟩ = some u → (W.setCell ⟨b4, 0, none⟩ v').cell? ⟨b, j, none⟩ = some u := fun b j u hb hc => by
    rw [cell_setOther _ _ _ _ (by show b ≠ b4; exact hb)]
    exact hc
  exact ⟨(ht.put (by show b4 < lo; exact hlo) _).mono (by omega), hl, hn, by simp [go_sem, h.pc], by simpa [go_sem] using h.pf,
    k _ _ _ (by omega) h.q0, k _ _ _ (by omega) h.e0, k _ _ _ (by omega) h.e1, k _ _ _ (by omega) h.e2, k _ _ _ (by omega) h.e3, k _ _ _ (by omega) h.e4,
    fun j => by simpa [go_sem] using h.fq j, fun j => by simpa [go_sem] using h.fe j, h.b1, by simpa using h.b2, h.rd.setCell (by show rb < b4; omega) _, h.pb, h.ex.setCell (Or.inr (by show w.heap.size ≤ b4; omega)) _⟩

/-- Behind the answers' stores. -/
theorem TS.fin {rb p d : Nat} {w W : World} {b4 l : Nat} {v : Value} {ss : List St} {p' : Nat} (h : TS rb p d w W b4 l v ss p') (hr : rb < w.heap.size) (u0 u1 u2 u3 u4 u5 : Value) :
    let W' := (((((W.setCell ⟨w.heap.size, 0, none⟩ u0).setCell ⟨w.heap.size + 1, 0, none⟩ u1).setCell ⟨w.heap.size + 1, 1, none⟩ u2).setCell ⟨w.heap.size + 1, 2, none⟩ u3).setCell ⟨w.heap.size + 1, 3, none⟩ u4).setCell ⟨w.heap.size + 1, 4, none⟩ u5
    StepsNF (w.heap.size + 2) W' v ss ∧ Rd W' rb p' ∧ Ex rb w W' := by
  refine ⟨(((((h.st.put ?_ _).put ?_ _).put ?_ _).put ?_ _).put ?_ _).put ?_ _, (((((h.rd.setCell ?_ _).setCell ?_ _).setCell ?_ _).setCell ?_ _).setCell ?_ _).setCell ?_ _,
    (((((h.ex.setCell (Or.inr ?_) _).setCell (Or.inr ?_) _).setCell (Or.inr ?_) _).setCell (Or.inr ?_) _).setCell (Or.inr ?_) _).setCell (Or.inr ?_) _⟩
  all_goals (simp only []; omega)

theorem TS.finD {rb p d : Nat} {w W : World} {b4 l : Nat} {v : Value} {ss : List St} {p' : Nat} (h : TS rb p d w W b4 l v ss p') (hr : rb < w.heap.size) (u0 u1 u2 u3 u4 u5 : Value) :
    let W' := ((((((W.setCell ⟨w.heap.size, 0, none⟩ u0).setCell ⟨w.heap.size + 1, 0, none⟩ u1).setCell ⟨w.heap.size + 1, 1, none⟩ u2).setCell ⟨w.heap.size + 1, 2, none⟩ u3).setCell ⟨w.heap.size + 1, 3, none⟩ u4).setCell ⟨w.heap.size + 1, 4, none⟩ u5).drew
    StepsNF (w.heap.size + 2) W' v ss ∧ Rd W' rb p' ∧ Ex rb w W' := by
  obtain ⟨h1, h2, h3⟩ := h.fin hr u0 u1 u2 u3 u4 u5
  exact ⟨h1.ex (Ex.refl rb _).drew (by omega), h2.drewN 1, h3.drew⟩

set_option maxRecDepth 100000 in
set_option maxHeartbeats 4000000 in
theorem l71Two_any {Q : Ending → World → Prop} (rb p : Nat) (w : World) (h : Rd w rb p) (hp : p + 1000 ≤ 1000000)
    (hQ : ∀ (v : Value) (ss : List St) (e : E5) (p' : Nat) w', StepsNF w.heap.size w' v ss → ss.length ≤ 61 → (∀ s ∈ ss, s.next.length ≤ 61) → Rd w' rb p' → p' ≤ p + 1000 → Ex rb w w' → Q (.returned (.tuple #[.agg #[v], .agg #[.int .i64 e.op, .int .i64 e.av, .int .i64 e.an, .int .i64 e.bv, .int .i64 e.bn]])) w') :
    Calls Tryd.prog 43 #[.pointer (some ⟨rb, 0, none⟩)] w Q := by
  have HQ : Hid _ := hQ
  clear hQ
  have hlt := h.lt
  go_enter Tryd.func43, Tryd.ntmps43
  go_wp2_with fail
  refine l71Prog_any rb p _ ((h.alloc _).alloc _) (by omega) fun v1 ss p1 w1 hok hl15 hS1 hr1 hp1 hx1 => ?_
  obtain ⟨A1, c1, rfl⟩ : ∃ A1 c1, v1 = .slice A1 ss.length c1 := by obtain ⟨A1, b1, o1, c1, rfl, _⟩ := id hS1; exact ⟨_, _, rfl⟩
  have sz1 := hx1.size
  simp at sz1
  have hT : TS rb p 400 w (w1.alloc (.cells #[.slice A1 ss.length c1] 25)) w1.heap.size 60 (.slice A1 ss.length c1) ss p1 := by
    have hS := hS1.mono (lo' := w.heap.size + 2) (by simp)
    have hn1 : w.heap.size ≠ rb := by omega
    have hn2 : w.heap.size + 1 ≠ rb := by omega
    have hx2 := hx1.alloc (.cells #[.slice A1 ss.length c1] 25)
    refine ⟨hS.ex ((Ex.refl rb w1).alloc _) (by omega), by omega, ok_many hok, by simp [go_sem], by simp [go_sem], hx2.cell (by simp [go_sem]) hn1,
      hx2.cell (by simp [go_sem]) hn2, hx2.cell (by simp [go_sem]) hn2, hx2.cell (by simp [go_sem]) hn2, hx2.cell (by simp [go_sem]) hn2, hx2.cell (by simp [go_sem]) hn2,
      fun j => (hx2.frozen (p := ⟨w.heap.size, j, none⟩) (by simp <;> omega) hn1).trans (by simp [go_sem]), fun j => (hx2.frozen (p := ⟨w.heap.size + 1, j, none⟩) (by simp <;> omega) hn2).trans (by simp [go_sem]), by omega, by simp, hr1.alloc _, by omega, (((Ex.refl rb w).alloc _).alloc _).trans hx2⟩
  have HT : Hid (TS rb p 400 w (w1.alloc (.cells #[.slice A1 ss.length c1] 25)) w1.heap.size 60 (.slice A1 ss.length c1) ss p1) := hT
  have HOK : Hid (okB ss = true) := hok
  clear hS1 hx1 hr1 hok hT
  go_wp2_with fail
  generalize hW1 : w1.alloc (.cells #[.slice A1 ss.length c1] 25) = W1 at *
  generalize hB4 : w1.heap.size = b4 at *
  clear hW1 hB4
  refine pick_any rb p1 4 _ HT.out.rd (by omega) (by omega) fun z2 w2 _ hr2 hx2 => ?_
  have HT2 : Hid (TS rb p 401 w w2 b4 60 (.slice A1 ss.length c1) ss (p1 + 1)) := HT.out.go hlt hx2 hr2 (by omega)
  clear hr2 hx2 HT
  go_upto_if 11 with fail
  go_cut [4] from 7 (fun s4 wx => s4 = .pointer (some ⟨b4, 0, none⟩) ∧ ∃ A ts c p', okB ts = true ∧ TS rb p 401 w wx b4 60 (.slice A ts.length c) ts p')
  case first =>
    have hpc := HT2.out.pc
    have hpf := HT2.out.pf
    have hsz2 := HT2.out.b2
    have hb1 := HT2.out.b1
    by_cases hz : z2 = 0
    · subst hz
      go_wp2_with fail
      go_meet
      exact ⟨rfl, A1, ss, c1, _, HOK.out, HT2.out⟩
    · have hzi : (0 : Int) < (z2 : Int) := by omega
      go_wp2_with fail
      refine specTidy_any _ ss _ HT2.out.st.n.at (by omega) (fun s hs => Nat.le_trans (ok_many HOK.out s hs) (by decide)) fun v3 ts b3 xs3 nv3 w3 hb3 hT3 hP3 => ?_
      obtain ⟨A3, c3, rfl, _⟩ := hP3.slice
      have okT := tidyOr_small HOK.out hl15 hT3
      have HF : Hid (TS rb p 401 w (w3.setCell ⟨b4, 0, none⟩ (.slice A3 ts.length c3)) b4 60 (.slice A3 ts.length c3) ts (p1 + 1)) :=
        TS.put (HT2.out.go hlt (Ex.of_below hb3) (HT2.out.rd.keep hb3) HT2.out.pb) hlt hP3.nf (by omega) (ok_len okT).2 (ok_many okT)
      have HOT : Hid (okB ts = true) := okT
      have hpc3 := cell_keep hb3 hpc
      have hpf3 := (hb3.frozen (p := ⟨b4, 0, none⟩) (by show b4 < w2.heap.size; omega)).trans hpf
      clear hT3 hP3 okT hb3
      go_wp2_with fail
      go_meet
      exact ⟨rfl, A3, ts, c3, _, HOT.out, HF.out⟩
  case rest =>
    clear HOK HT2 hl15 hp1 sz1
    clear A1 c1 ss p1 w2
    obtain ⟨rfl, A2, ss, c2, p2, hok, hT⟩ := hcut
    have HT2 : Hid (TS rb p 401 w wc b4 60 (.slice A2 ss.length c2) ss p2) := hT
    have HOK : Hid (okB ss = true) := hok
    have hp2 := hT.pb
    clear hok hT
    go_wp2_with fail
    refine pick_any rb p2 16 _ HT2.out.rd (by omega) (by omega) fun z3 w3 _ hr3 hx3 => ?_
    have HT3 : Hid (TS rb p 402 w w3 b4 60 (.slice A2 ss.length c2) ss (p2 + 1)) := HT2.out.go hlt hx3 hr3 (by omega)
    clear hr3 hx3 HT2
    go_upto_if 19 with fail
    go_cut [4] from 7 (fun s4 wx => s4 = .pointer (some ⟨b4, 0, none⟩) ∧ ∃ A ts c p', TS rb p 802 w wx b4 61 (.slice A ts.length c) ts p')
    case first =>
      have hpc := HT3.out.pc
      have hpf := HT3.out.pf
      have hsz3 := HT3.out.b2
      have hb1 := HT3.out.b1
      by_cases hz : z3 = 0
      · subst hz
        obtain ⟨n1, n2⟩ := ok_len HOK.out
        go_wp2_with fail
        refine l71Spoil_any rb (p2 + 1) _ ss _ HT3.out.rd (by omega) HT3.out.st.n n1 n2 (ok_many HOK.out) fun v5 us p5 w5 hS5 hul hus hr5 hp5 hx5 => ?_
        obtain ⟨A5, b5, o5, c5, rfl, hS5'⟩ := id hS5
        clear hS5'
        have HF : Hid (TS rb p 802 w (w5.setCell ⟨b4, 0, none⟩ (.slice A5 us.length c5)) b4 61 (.slice A5 us.length c5) us p5) :=
          TS.put (HT3.out.go hlt hx5 hr5 (by omega)) hlt hS5 (by omega) hul hus
        have hpc5 := hx5.cell hpc (by show b4 ≠ rb; omega)
        have hpf5 := (hx5.frozen (p := ⟨b4, 0, none⟩) (by show b4 < w3.heap.size; omega) (by show b4 ≠ rb; omega)).trans hpf
        clear hS5 hul hus hr5 hx5
        go_wp2_with fail
        go_meet
        exact ⟨rfl, A5, us, c5, _, HF.out⟩
      · have hzi : ((z3 : Int) == 0) = false := by simp [hz]
        have HF : Hid (TS rb p 802 w w3 b4 61 (.slice A2 ss.length c2) ss (p2 + 1)) := by
          have h1 := HT3.out
          exact { h1 with ln := by have := h1.ln; omega, ns := fun s hs => by have := h1.ns s hs; omega, pb := by have := h1.pb; omega }
        go_wp2_with fail
        go_meet
        exact ⟨rfl, A2, ss, c2, _, HF.out⟩
    case rest =>
      clear HOK HT3 hp2
      clear A2 c2 ss p2 w3
      obtain ⟨rfl, A, ss, c, p4, hT⟩ := hcut
      have HT4 : Hid (TS rb p 802 w wc b4 61 (.slice A ss.length c) ss p4) := hT
      have hp4 := hT.pb
      have hb1 := hT.b1
      have hl61 := hT.ln
      have hpc := hT.pc
      have hns : Hid (∀ s ∈ ss, s.next.length ≤ 61) := hT.ns
      clear hT
      go_wp2_with fail
      refine specExprList_any _ ss _ HT4.out.st.n.at (by omega) (fun s hs => Nat.le_trans (hns.out s hs) (by decide)) fun v6 es w6 hb6 hes hown6 => ?_
      have HT6 : Hid (TS rb p 802 w w6 b4 61 (.slice A ss.length c) ss p4) := HT4.out.go hlt (Ex.of_below hb6) (HT4.out.rd.keep hb6) hp4
      obtain ⟨A6, g6, c6, rfl, hA6, hC6⟩ := own_exprs hown6 rfl
      have HA6 : Hid (0 < es.length → A6 = some ⟨g6, 0, none⟩) := hA6
      have HC6 : Hid _ := hC6
      have hel : es.length ≤ 61 := by have h1 := hes; rw [ExprsOr] at h1; rw [h1]; split; exact Nat.le_trans (exprsOf_len ss) hl61; simp
      have HG6 : Hid (∀ q, A6 = some ⟨q, 0, none⟩ → w.heap.size + 2 ≤ q ∧ q < w6.heap.size) := fun q hq => by
        subst hq
        have := hown6.lt q rfl
        have := HT4.out.b2
        omega
      clear hb6 hown6 hA6 hC6 hes HT4 hpc
      have hpc := HT6.out.pc
      by_cases hee : es.length = 0
      · have h0 : ¬ (0 : Int) < (es.length : Int) := by omega
        clear HC6 HA6 HG6
        go_wp2_with fail
        refine l71Expr_any rb (p4) _ HT6.out.rd (by omega) fun op av an bv bn p8 w8 _ hr8 hp8 hx8 => ?_
        have HT8 : Hid (TS rb p 900 w w8 b4 61 (.slice A ss.length c) ss p8) := HT6.out.go hlt hx8 hr8 (by omega)
        have hb2 := HT8.out.b2
        clear hr8 hx8 HT6 hpc
        go_wp2_with fail
        have HX8 : Hid (Ex rb w8 (w8.alloc (.cells #[.int .i64 op, .int .i64 av, .int .i64 an, .int .i64 bv, .int .i64 bn] 29))) := (Ex.refl rb w8).alloc _
        have HT9 : Hid (TS rb p 900 w (w8.alloc (.cells #[.int .i64 op, .int .i64 av, .int .i64 an, .int .i64 bv, .int .i64 bn] 29)) b4 61 (.slice A ss.length c) ss p8) := HT8.out.go hlt ((Ex.refl rb w8).alloc _) (HT8.out.rd.alloc _) HT8.out.pb
        refine pick_any rb p8 8 _ HT9.out.rd (by omega) (by omega) fun z9 w9 _ hr9 hx9 => ?_
        have HT10 : Hid (TS rb p 901 w w9 b4 61 (.slice A ss.length c) ss (p8 + 1)) := HT9.out.go hlt hx9 hr9 (by omega)
        have n8 : w8.heap.size ≠ rb := by omega
        have x0 : w9.cell? ⟨w8.heap.size, 0, none⟩ = some (.int .i64 op) := hx9.cell (by simp [go_sem]) n8
        have x1 : w9.cell? ⟨w8.heap.size, 1, none⟩ = some (.int .i64 av) := hx9.cell (by simp [go_sem]) n8
        have x2 : w9.cell? ⟨w8.heap.size, 2, none⟩ = some (.int .i64 an) := hx9.cell (by simp [go_sem]) n8
        have x3 : w9.cell? ⟨w8.heap.size, 3, none⟩ = some (.int .i64 bv) := hx9.cell (by simp [go_sem]) n8
        have x4 : w9.cell? ⟨w8.heap.size, 4, none⟩ = some (.int .i64 bn) := hx9.cell (by simp [go_sem]) n8
        have fx : ∀ j, w9.frozen? ⟨w8.heap.size, j, none⟩ = false := fun j => (hx9.frozen (p := ⟨w8.heap.size, j, none⟩) (by simp) n8).trans (by simp [go_sem])
        have sz9 : w8.heap.size < w9.heap.size := by have := hx9.size; simp at this; omega
        have hb3 := HT10.out.b1
        have HX9 : Hid (Ex rb w8 w9) := HX8.out.trans hx9
        clear hr9 hx9 HX8 HT9
        go_upto_if 45 with fail
        go_cut [4, 6] from 7 (fun s4 s6 wx => s4 = .pointer (some ⟨b4, 0, none⟩) ∧ s6 = .pointer (some ⟨w8.heap.size, 0, none⟩) ∧ ∃ op' p', TS rb p 902 w wx b4 61 (.slice A ss.length c) ss p' ∧ wx.cell? ⟨w8.heap.size, 0, none⟩ = some (.int .i64 op') ∧ wx.cell? ⟨w8.heap.size, 1, none⟩ = some (.int .i64 av) ∧ wx.cell? ⟨w8.heap.size, 2, none⟩ = some (.int .i64 an) ∧ wx.cell? ⟨w8.heap.size, 3, none⟩ = some (.int .i64 bv) ∧ wx.cell? ⟨w8.heap.size, 4, none⟩ = some (.int .i64 bn))
        case first =>
          by_cases hz9 : z9 = 0
          · subst hz9
            go_wp2_with fail
            refine pick_any rb (p8 + 1) 6 _ HT10.out.rd (by omega) (by omega) fun z10 w10 _ hr10 hx10 => ?_
            have y0 := hx10.cell x0 n8
            have y1 := hx10.cell x1 n8
            have y2 := hx10.cell x2 n8
            have y3 := hx10.cell x3 n8
            have y4 := hx10.cell x4 n8
            have fy : ∀ j, w10.frozen? ⟨w8.heap.size, j, none⟩ = false := fun j => (hx10.frozen (p := ⟨w8.heap.size, j, none⟩) sz9 n8).trans (fx j)
            have HF : Hid (TS rb p 902 w (w10.setCell ⟨w8.heap.size, 0, none⟩ (.int .i64 (z10 : Int))) b4 61 (.slice A ss.length c) ss (p8 + 1 + 1)) := HT8.out.go hlt ((HX9.out.trans hx10).setCell (Or.inr (Nat.le_refl _)) _) (hr10.setCell (by show rb < w8.heap.size; omega) _) (by omega)
            clear hr10 hx10 x0 x1 x2 x3 x4 fx
            go_wp2_with fail
            go_meet
            exact ⟨rfl, rfl, (z10 : Int), _, HF.out, by simp [go_sem, y0], by simpa [go_sem] using y1, by simpa [go_sem] using y2, by simpa [go_sem] using y3, by simpa [go_sem] using y4⟩
          · have hzi9 : ((z9 : Int) == 0) = false := by simp [hz9]
            have HF : Hid (TS rb p 902 w w9 b4 61 (.slice A ss.length c) ss (p8 + 1)) := by
              have h1 := HT10.out
              exact { h1 with pb := by have := h1.pb; omega }
            go_wp2_with fail
            go_meet
            exact ⟨rfl, rfl, op, _, HF.out, x0, x1, x2, x3, x4⟩
        case rest =>
          clear x0 x1 x2 x3 x4 fx HT10
          obtain ⟨rfl, rfl, op', p9, hT, x0, x1, x2, x3, x4⟩ := hcut
          have HT : Hid (TS rb p 902 w wc b4 61 (.slice A ss.length c) ss p9) := hT
          have hpc := hT.pc
          have q0 := hT.q0
          have e0 := hT.e0
          have e1 := hT.e1
          have e2 := hT.e2
          have e3 := hT.e3
          have e4 := hT.e4
          have fq := hT.fq
          have fe := hT.fe
          clear hT
          go_wp2_with fail
          go_region_law (fail)
          all_goals
            have F := HT.out.finD hlt (.slice A ss.length c) (.int .i64 op') (.int .i64 av) (.int .i64 an) (.int .i64 bv) (.int .i64 bn)
            have HF : Hid _ := F
            have hp9 := HT.out.pb
            clear F HT
            try go_wp2_with fail
            refine bodyPost_ret (v := .tuple #[.agg #[.slice A ss.length c], .agg #[.int .i64 op', .int .i64 av, .int .i64 an, .int .i64 bv, .int .i64 bn]]) (by simp [results, Tryd.results43, go_sem, q0, e0, e1, e2, e3, e4]) rfl ?_
            exact HQ.out _ ss ⟨op', av, an, bv, bn⟩ p9 _ (HF.out.1.mono (by omega)) hl61 hns.out HF.out.2.1 (by omega) HF.out.2.2
      · have h0 : (0 : Int) < (es.length : Int) := by omega
        go_wp2_with fail
        refine pick_any rb p4 8 _ HT6.out.rd (by omega) (by omega) fun z7 w7 _ hr7 hx7 => ?_
        have HT7 : Hid (TS rb p 803 w w7 b4 61 (.slice A ss.length c) ss (p4 + 1)) := HT6.out.go hlt hx7 hr7 (by omega)
        obtain rfl := HA6.out (by omega)
        obtain ⟨g1, g2⟩ := HG6.out _ rfl
        have HC7 : Hid (∀ (i : Nat) (hi : i < es.length), w7.cell? ⟨g6, i * 5, none⟩ = some (.int .i64 es[i].op) ∧ w7.cell? ⟨g6, i * 5 + 1, none⟩ = some (.int .i64 es[i].av) ∧ w7.cell? ⟨g6, i * 5 + 2, none⟩ = some (.int .i64 es[i].an) ∧ w7.cell? ⟨g6, i * 5 + 3, none⟩ = some (.int .i64 es[i].bv) ∧ w7.cell? ⟨g6, i * 5 + 4, none⟩ = some (.int .i64 es[i].bn)) := fun i hi => by
          obtain ⟨a0, a1, a2, a3, a4⟩ := HC6.out i hi
          have hne : g6 ≠ rb := by omega
          exact ⟨hx7.cell a0 hne, hx7.cell a1 hne, hx7.cell a2 hne, hx7.cell a3 hne, hx7.cell a4 hne⟩
        have hsz7 := hx7.size
        clear hr7 hx7 HT6 HC6 HA6 HG6 hpc
        have hpc := HT7.out.pc
        by_cases hz7 : z7 = 0
        · subst hz7
          clear HC7
          go_wp2_with fail
          refine l71Expr_any rb (p4 + 1) _ HT7.out.rd (by omega) fun op av an bv bn p8 w8 _ hr8 hp8 hx8 => ?_
          have HT8 : Hid (TS rb p 900 w w8 b4 61 (.slice A ss.length c) ss p8) := HT7.out.go hlt hx8 hr8 (by omega)
          have hb2 := HT8.out.b2
          clear hr8 hx8 HT7 hpc
          go_wp2_with fail
          have HX8 : Hid (Ex rb w8 (w8.alloc (.cells #[.int .i64 op, .int .i64 av, .int .i64 an, .int .i64 bv, .int .i64 bn] 29))) := (Ex.refl rb w8).alloc _
          have HT9 : Hid (TS rb p 900 w (w8.alloc (.cells #[.int .i64 op, .int .i64 av, .int .i64 an, .int .i64 bv, .int .i64 bn] 29)) b4 61 (.slice A ss.length c) ss p8) := HT8.out.go hlt ((Ex.refl rb w8).alloc _) (HT8.out.rd.alloc _) HT8.out.pb
          refine pick_any rb p8 8 _ HT9.out.rd (by omega) (by omega) fun z9 w9 _ hr9 hx9 => ?_
          have HT10 : Hid (TS rb p 901 w w9 b4 61 (.slice A ss.length c) ss (p8 + 1)) := HT9.out.go hlt hx9 hr9 (by omega)
          have n8 : w8.heap.size ≠ rb := by omega
          have x0 : w9.cell? ⟨w8.heap.size, 0, none⟩ = some (.int .i64 op) := hx9.cell (by simp [go_sem]) n8
          have x1 : w9.cell? ⟨w8.heap.size, 1, none⟩ = some (.int .i64 av) := hx9.cell (by simp [go_sem]) n8
          have x2 : w9.cell? ⟨w8.heap.size, 2, none⟩ = some (.int .i64 an) := hx9.cell (by simp [go_sem]) n8
          have x3 : w9.cell? ⟨w8.heap.size, 3, none⟩ = some (.int .i64 bv) := hx9.cell (by simp [go_sem]) n8
          have x4 : w9.cell? ⟨w8.heap.size, 4, none⟩ = some (.int .i64 bn) := hx9.cell (by simp [go_sem]) n8
          have fx : ∀ j, w9.frozen? ⟨w8.heap.size, j, none⟩ = false := fun j => (hx9.frozen (p := ⟨w8.heap.size, j, none⟩) (by simp) n8).trans (by simp [go_sem])
          have sz9 : w8.heap.size < w9.heap.size := by have := hx9.size; simp at this; omega
          have hb3 := HT10.out.b1
          have HX9 : Hid (Ex rb w8 w9) := HX8.out.trans hx9
          clear hr9 hx9 HX8 HT9
          go_upto_if 45 with fail
          go_cut [4, 6] from 7 (fun s4 s6 wx => s4 = .pointer (some ⟨b4, 0, none⟩) ∧ s6 = .pointer (some ⟨w8.heap.size, 0, none⟩) ∧ ∃ op' p', TS rb p 902 w wx b4 61 (.slice A ss.length c) ss p' ∧ wx.cell? ⟨w8.heap.size, 0, none⟩ = some (.int .i64 op') ∧ wx.cell? ⟨w8.heap.size, 1, none⟩ = some (.int .i64 av) ∧ wx.cell? ⟨w8.heap.size, 2, none⟩ = some (.int .i64 an) ∧ wx.cell? ⟨w8.heap.size, 3, none⟩ = some (.int .i64 bv) ∧ wx.cell? ⟨w8.heap.size, 4, none⟩ = some (.int .i64 bn))
          case first =>
            by_cases hz9 : z9 = 0
            · subst hz9
              go_wp2_with fail
              refine pick_any rb (p8 + 1) 6 _ HT10.out.rd (by omega) (by omega) fun z10 w10 _ hr10 hx10 => ?_
              have y0 := hx10.cell x0 n8
              have y1 := hx10.cell x1 n8
              have y2 := hx10.cell x2 n8
              have y3 := hx10.cell x3 n8
              have y4 := hx10.cell x4 n8
              have fy : ∀ j, w10.frozen? ⟨w8.heap.size, j, none⟩ = false := fun j => (hx10.frozen (p := ⟨w8.heap.size, j, none⟩) sz9 n8).trans (fx j)
              have HF : Hid (TS rb p 902 w (w10.setCell ⟨w8.heap.size, 0, none⟩ (.int .i64 (z10 : Int))) b4 61 (.slice A ss.length c) ss (p8 + 1 + 1)) := HT8.out.go hlt ((HX9.out.trans hx10).setCell (Or.inr (Nat.le_refl _)) _) (hr10.setCell (by show rb < w8.heap.size; omega) _) (by omega)
              clear hr10 hx10 x0 x1 x2 x3 x4 fx
              go_wp2_with fail
              go_meet
              exact ⟨rfl, rfl, (z10 : Int), _, HF.out, by simp [go_sem, y0], by simpa [go_sem] using y1, by simpa [go_sem] using y2, by simpa [go_sem] using y3, by simpa [go_sem] using y4⟩
            · have hzi9 : ((z9 : Int) == 0) = false := by simp [hz9]
              have HF : Hid (TS rb p 902 w w9 b4 61 (.slice A ss.length c) ss (p8 + 1)) := by
                have h1 := HT10.out
                exact { h1 with pb := by have := h1.pb; omega }
              go_wp2_with fail
              go_meet
              exact ⟨rfl, rfl, op, _, HF.out, x0, x1, x2, x3, x4⟩
          case rest =>
            clear x0 x1 x2 x3 x4 fx HT10
            obtain ⟨rfl, rfl, op', p9, hT, x0, x1, x2, x3, x4⟩ := hcut
            have HT : Hid (TS rb p 902 w wc b4 61 (.slice A ss.length c) ss p9) := hT
            have hpc := hT.pc
            have q0 := hT.q0
            have e0 := hT.e0
            have e1 := hT.e1
            have e2 := hT.e2
            have e3 := hT.e3
            have e4 := hT.e4
            have fq := hT.fq
            have fe := hT.fe
            clear hT
            go_wp2_with fail
            go_region_law (fail)
            all_goals
              have F := HT.out.finD hlt (.slice A ss.length c) (.int .i64 op') (.int .i64 av) (.int .i64 an) (.int .i64 bv) (.int .i64 bn)
              have HF : Hid _ := F
              have hp9 := HT.out.pb
              clear F HT
              try go_wp2_with fail
              refine bodyPost_ret (v := .tuple #[.agg #[.slice A ss.length c], .agg #[.int .i64 op', .int .i64 av, .int .i64 an, .int .i64 bv, .int .i64 bn]]) (by simp [results, Tryd.results43, go_sem, q0, e0, e1, e2, e3, e4]) rfl ?_
              exact HQ.out _ ss ⟨op', av, an, bv, bn⟩ p9 _ (HF.out.1.mono (by omega)) hl61 hns.out HF.out.2.1 (by omega) HF.out.2.2
        · have hzi : (0 : Int) < (z7 : Int) := by omega
          have hgr : g6 ≠ rb := by omega
          have hbr : b4 ≠ rb := by omega
          have hB0 : w.heap.size ≠ rb := by omega
          have hB1 : w.heap.size + 1 ≠ rb := by omega
          go_wp2_with fail
          go_region_with (first | (go_at_call 58; refine pick_any rb (p4 + 1) (es.length : Int) _ (HT7.out.rd.drewN 1) (by omega) (by omega) ?_; intro z8 w8 hz8 hr8 hx8; have hzl : z8 < es.length := (by have := hz8 h0; omega); have hzi8 : (z8 : Int) < (es.length : Int) := hz8 h0; have pc8 := hx8.cell (w := w7.drewN 1) hpc hbr; have HT8 : Hid (TS rb p 804 w w8 b4 61 (.slice A ss.length c) ss (p4 + 1 + 1)) := HT7.out.go hlt (((Ex.refl rb w7).drewN 1).trans hx8) hr8 (by omega); have HC8 := HC7.out z8 hzl; have c0 := hx8.cell (w := w7.drewN 1) HC8.1 hgr; have c1 := hx8.cell (w := w7.drewN 1) HC8.2.1 hgr; have c2 := hx8.cell (w := w7.drewN 1) HC8.2.2.1 hgr; have c3 := hx8.cell (w := w7.drewN 1) HC8.2.2.2.1 hgr; have c4 := hx8.cell (w := w7.drewN 1) HC8.2.2.2.2 hgr; have q0 := HT8.out.q0; have e0 := HT8.out.e0; have e1 := HT8.out.e1; have e2 := HT8.out.e2; have e3 := HT8.out.e3; have e4 := HT8.out.e4; have fq := HT8.out.fq; have fe := HT8.out.fe))
          all_goals
            have F := HT8.out.fin hlt (.slice A ss.length c) (.int .i64 es[z8].op) (.int .i64 es[z8].av) (.int .i64 es[z8].an) (.int .i64 es[z8].bv) (.int .i64 es[z8].bn)
            have HF : Hid _ := F
            have hp9 := HT8.out.pb
            clear F HT8
            try go_wp2_with fail
            refine bodyPost_ret (v := .tuple #[.agg #[.slice A ss.length c], .agg #[.int .i64 es[z8].op, .int .i64 es[z8].av, .int .i64 es[z8].an, .int .i64 es[z8].bv, .int .i64 es[z8].bn]]) (by simp [results, Tryd.results43, go_sem, q0, e0, e1, e2, e3, e4]) rfl ?_
            exact HQ.out _ ss es[z8] _ _ (HF.out.1.mono (by omega)) hl61 hns.out HF.out.2.1 (by omega) HF.out.2.2
end Go.Proofs.YtajgioeifhgfhaaDoor
