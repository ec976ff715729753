/- The way up, told by an iterator: wayUp; and rowUp. -/
import Derived.Test.YtljlgffkhocgkaaDoorSeqK
import Derived.Test.YtljlgffkhocgkaaDoorOverI
namespace Go.Proofs.YtljlgffkhocgkaaDoor
open Go.RowKit Go.Shelf

attribute [local go_sem] Oper.semAt_some

/-- The way up from a step, as a list. -/
def GoesUp (ov : Nat → Option Nat) (N : Nat) : Nat → List (Fin N) → Prop
  | _, [] => False
  | x, [y] => y.1 = x ∧ ov x = some x
  | x, y :: z :: r => y.1 = x ∧ ov x = some z.1 ∧ z.1 ≠ x ∧ GoesUp ov N z.1 (z :: r)

theorem GoesUp.mem {ov : Nat → Option Nat} {N : Nat} : ∀ {xs : List (Fin N)} {x : Nat}, GoesUp ov N x xs → ∀ k : Fin N, k ∈ xs ↔ Up ov x k.1
  | [], _, h => h.elim
  | [y], x, h => fun k => by
    obtain ⟨rfl, h2⟩ := h
    constructor
    · intro hk
      simp at hk
      subst hk
      exact Up.refl _ _
    · intro hk
      have : k.1 = y.1 := hk (fun k => k = y.1) rfl (fun a b ha e => by subst ha; rw [h2] at e; cases e; rfl)
      simp [Fin.ext this]
  | y :: z :: r, x, h => fun k => by
    obtain ⟨rfl, h2, h3, h4⟩ := h
    have ih := GoesUp.mem h4 k
    constructor
    · intro hk
      rcases List.mem_cons.1 hk with rfl | hk
      · exact Up.refl _ _
      · exact Up.cons h2 (ih.1 hk)
    · intro hk
      rcases hk.cases with e | ⟨u, e, hu⟩
      · exact List.mem_cons.2 (Or.inl (Fin.ext e))
      · rw [h2] at e
        cases e
        exact List.mem_cons.2 (Or.inr (ih.2 hu))

theorem OverF.isUp {ss : List St} (hok : okB ss = true) {ov : Nat → Option Nat} (h : OverF ss ov) {x : Nat} (hx : Reaches ss x) : ∃ xs : List (Fin ss.length), GoesUp ov ss.length x xs := by
  obtain ⟨rk, h1, _, h2⟩ := h.rk
  have main : ∀ n x, rk 0 - rk x ≤ n → Reaches ss x → ∃ xs : List (Fin ss.length), GoesUp ov ss.length x xs := by
    intro n
    induction n with
    | zero =>
      intro x hn hx
      by_cases e0 : x = 0
      · subst e0
        exact ⟨[⟨0, reach_lt hok hx⟩], rfl, h.zero⟩
      · obtain ⟨y, hy⟩ := (h.reach x).1 hx
        have := h2 x y hy e0
        have := h1 y (h.near x y hy e0).2.1.reach
        omega
    | succ n ih =>
      intro x hn hx
      by_cases e0 : x = 0
      · subst e0
        exact ⟨[⟨0, reach_lt hok hx⟩], rfl, h.zero⟩
      · obtain ⟨y, hy⟩ := (h.reach x).1 hx
        have := h2 x y hy e0
        have hr := (h.near x y hy e0).2.1.reach
        have := h1 y hr
        obtain ⟨ys, hys⟩ := ih y (by omega) hr
        cases ys with
        | nil => exact hys.elim
        | cons z r =>
          have hz : z.1 = y := by
            cases r with
            | nil => exact hys.1
            | cons _ _ => exact hys.1
          exact ⟨⟨x, reach_lt hok hx⟩ :: z :: r, rfl, by rw [hz]; exact hy, by rw [hz]; exact (h.near x y hy e0).1, by rw [hz]; exact hys⟩
  exact main _ x (Nat.le_refl _) hx

/-- All that a step's way up tells: nothing of one that cannot be come to. -/
def UpOr (ov : Nat → Option Nat) (N x : Nat) (xs : List (Fin N)) : Prop := (ov x = none ∧ xs = []) ∨ ((∃ y, ov x = some y) ∧ GoesUp ov N x xs)

theorem GoesUp.len {ss : List St} {ov : Nat → Option Nat} {N : Nat} {rk : Nat → Nat} (h0 : ov 0 = some 0) (h1 : ∀ x, (∃ y, ov x = some y) → rk x ≤ rk 0) (h2 : ∀ x y, ov x = some y → x ≠ 0 → rk x < rk y) : ∀ {xs : List (Fin N)} {x : Nat}, GoesUp ov N x xs → (ss = ss) ∧ xs.length + rk x ≤ rk 0 + 1
  | [], _, h => h.elim
  | [y], x, h => by
    have := h1 x ⟨x, h.2⟩
    simp; omega
  | y :: z :: r, x, h => by
    obtain ⟨rfl, e, h3, h4⟩ := h
    have ih := (GoesUp.len (ss := ss) h0 h1 h2 h4).2
    have hne : y.1 ≠ 0 := fun e0 => by rw [e0, h0] at e; rw [e0] at h3; simp at e; exact h3 e.symm
    have := h2 y.1 z.1 e hne
    simp at ih ⊢
    omega

set_option maxRecDepth 100000 in
set_option maxHeartbeats 1000000 in
theorem wayUp1_in {R : Ending → World → Prop} (n l Bo Ba vg N x : Nat) (hn : 1 ≤ n) (ov : Nat → Option Nat) (rk : Nat → Nat) (h0 : ov 0 = some 0) (hup : ∀ x y, ov x = some y → x ≠ 0 → rk x < rk y) (htop : ∀ x, (∃ y, ov x = some y) → rk x ≤ rk 0) (xs : List (Fin N)) (hx : x < N) (hU : UpOr ov N x xs) (J Jx : List (Fin N) → World → Prop)
    (hY : ∀ pre y W, J pre W → pre.length < xs.length → YieldAt Fence.wide (n - 1) Tryd.prog l #[.int .i64 ((y : Fin N).1 : Int)] W fun e W' =>
      (e = .returned (.bool true) ∧ J (pre ++ [y]) W' ∧ Kp2 vg Bo W W') ∨ (e = .returned (.bool false) ∧ Jx (pre ++ [y]) W'))
    (W : World) (hBo : W.cell? ⟨Bo, 0, none⟩ = some (.slice (some ⟨vg, 0, none⟩) N N)) (hBa : W.cell? ⟨Ba, 0, none⟩ = some (.int .i64 (x : Int))) (hV : W.rowIs vg 3 N (ovV ov)) (hJ0 : J [] W) (hR1 : ∀ v W', J xs W' → R (.returned v) W') (hR2 : ∀ v pre W', pre <+: xs → Jx pre W' → R (.returned v) W') :
    CallsIn Fence.wide n Tryd.prog 88 #[.func (.yield l) #[] #[], .pointer (some ⟨Bo, 0, none⟩), .pointer (some ⟨Ba, 0, none⟩)] W R := by
  have hxi : (x : Int) < (N : Int) := by omega
  have vx := hV.cell hx
  unfold ovV at vx
  have HU : Hid _ := hU
  have HY : Hid _ := hY
  have HV : Hid (W.rowIs vg 3 N (ovV ov)) := hV
  have HUP : Hid _ := hup
  have HTOP : Hid _ := htop
  have H0 : Hid (ov 0 = some 0) := h0
  have HR1 : Hid _ := hR1
  have HR2 : Hid _ := hR2
  clear hU hY hV hup htop h0 hR1 hR2
  refine callsIn_of_wp Tryd.func88 rfl trivial ?_ rfl
  simp only [Tryd.ntmps88, List.size_toArray, List.length_cons, List.length_nil, Nat.reduceAdd, Nat.reduceSub, Array.replicate_succ, Array.replicate_zero, List.push_toArray, List.append_toArray, List.nil_append, List.cons_append]
  cases hov : ov x with
  | none =>
    rw [hov] at vx
    simp only [ovI] at vx
    obtain rfl : xs = [] := by
      rcases HU.out with ⟨_, e⟩ | ⟨⟨y, e⟩, _⟩
      · exact e
      · rw [hov] at e; cases e
    clear hov
    gi_wp2
    refine bodyPost_ret (results_none rfl _ _ _) rfl ?_
    exact HR1.out _ _ hJ0
  | some y0 =>
    rw [hov] at vx
    simp only [ovI] at vx
    have hz1 : ((y0 : Int) == -1) = false := by simp
    have HIU : Hid (GoesUp ov N x xs) := by
      rcases HU.out with ⟨e, _⟩ | ⟨_, e⟩
      · rw [hov] at e; cases e
      · exact e
    clear hov
    gi_wp2
    gi_loopw [4] (fun p wr => ∃ (pre rest : List (Fin N)) (q : Nat), p = .int .i64 (q : Int) ∧ xs = pre ++ rest ∧ GoesUp ov N q rest ∧ J pre wr ∧ Kp2 vg Bo W wr) (fun p _ => rk 0 - rk (intOf p).toNat)
    case atStart => exact ⟨[], xs, x, rfl, rfl, HIU.out, hJ0, Kp2.refl _ _ _⟩
    case round =>
      obtain ⟨pre, rest, q, rfl, hx2, hl, hJs, hK⟩ := hrel
      have HX2 : Hid (xs = pre ++ rest) := hx2
      have HK : Hid (Kp2 vg Bo W wr) := hK
      have HL : Hid (GoesUp ov N q rest) := hl
      clear hx2 hK hl
      cases rest with
      | nil => exact HL.out.elim
      | cons y rest =>
        have hyq : y.1 = q := by
          cases rest with
          | nil => exact HL.out.1
          | cons _ _ => exact HL.out.1
        subst hyq
        have hyN := y.2
        have hyi : (y.1 : Int) < (N : Int) := by omega
        have HJ : Hid (J pre wr) := hJs
        obtain ⟨fn, tmps, assign, body, hy, hR⟩ := HY.out pre y wr hJs (by rw [HX2.out]; simp)
        clear hJs
        gi_wp2
        refine hR.mono ?_
        rintro e W3 (⟨rfl, hJ3, hk3⟩ | ⟨rfl, hJx3⟩)
        · have HK3 : Hid (Kp2 vg Bo W W3) := HK.out.t hk3
          have b3 : W3.cell? ⟨Bo, 0, none⟩ = some (.slice (some ⟨vg, 0, none⟩) N N) := (World.cell?_of_block (w := W) (a := ⟨Bo, 0, none⟩) HK3.out.2).trans hBo
          have v3 := (HV.out.of_block HK3.out.1).cell hyN
          unfold ovV at v3
          have HJ3 : Hid (J (pre ++ [y]) W3) := hJ3
          clear hk3 hJ3
          cases rest with
          | nil =>
            rw [HL.out.2] at v3
            simp only [ovI] at v3
            gi_wp2
            go_end0
            exact HR1.out _ _ (by rw [HX2.out]; exact HJ3.out)
          | cons z r =>
            rw [HL.out.2.1] at v3
            simp only [ovI] at v3
            have hne := HL.out.2.2.1
            have hneb : ((z.1 : Int) == (y.1 : Int)) = false := by simp; omega
            have hnen : ¬ (z.1 : Int) = (y.1 : Int) := by omega
            gi_wp2
            go_roundw
            case rel => exact ⟨pre ++ [y], z :: r, z.1, rfl, by rw [HX2.out]; simp, HL.out.2.2.2, HJ3.out, HK3.out⟩
            case measure =>
              have e := HL.out.2.1
              have hy0 : y.1 ≠ 0 := fun e0 => by
                have e5 := H0.out
                rw [e0, e5] at e
                simp at e
                omega
              have h5 := HUP.out y.1 z.1 e hy0
              have h6 := HTOP.out z.1 (by
                cases r with
                | nil => exact ⟨_, HL.out.2.2.2.2⟩
                | cons u _ => exact ⟨_, HL.out.2.2.2.2.1⟩)
              simp [intOf]; omega
        · have HJx : Hid (Jx (pre ++ [y]) W3) := hJx3
          clear hJx3
          gi_wp2
          go_end0
          exact HR2.out _ (pre ++ [y]) _ ⟨rest, by rw [HX2.out]; simp⟩ HJx.out

theorem wayUp_stops (n Bo Ba vg N x : Nat) (hn : 1 ≤ n) (ov : Nat → Option Nat) (rk : Nat → Nat) (h0 : ov 0 = some 0) (hup : ∀ x y, ov x = some y → x ≠ 0 → rk x < rk y) (htop : ∀ x, (∃ y, ov x = some y) → rk x ≤ rk 0) (xs : List (Fin N)) (hx : x < N) (hU : UpOr ov N x xs) (w : World)
    (hBo : w.cell? ⟨Bo, 0, none⟩ = some (.slice (some ⟨vg, 0, none⟩) N N)) (hBa : w.cell? ⟨Ba, 0, none⟩ = some (.int .i64 (x : Int))) (hV : w.rowIs vg 3 N (ovV ov)) :
    SeqStopsK Fence.wide n Tryd.prog 88 #[.pointer (some ⟨Bo, 0, none⟩), .pointer (some ⟨Ba, 0, none⟩)] (fun y : Fin N => #[Value.int .i64 (y.1 : Int)]) (Kp2 vg Bo) (fun ys => ys = xs) (fun pre => pre <+: xs) xs.length w := fun l J Jx W hW _ _ hY hJ0 =>
  wayUp1_in n l Bo Ba vg N x hn ov rk h0 hup htop xs hx hU J Jx hY W (cell_keep hW hBo) (cell_keep hW hBa) (rowIs_keep hV hW) hJ0 (fun v _ h => ⟨⟨v, rfl⟩, .inl ⟨xs, rfl, h⟩⟩) (fun v pre _ h1 h2 => ⟨⟨v, rfl⟩, .inr ⟨pre, h1, h2⟩⟩)

set_option maxHeartbeats 1000000 in
theorem wayUp_in (n : Nat) (A : Option Addr) (k c : Nat) (x : Int) (w : World) :
    CallsIn Fence.wide n Tryd.prog 68 #[.slice A k c, .int .i64 x] w fun e w' => e = .returned (.func (.func 88) #[] #[.pointer (some ⟨w.heap.size, 0, none⟩), .pointer (some ⟨w.heap.size + 1, 0, none⟩)]) ∧ w' = (w.alloc (.cells #[.slice A k c] 55)).alloc (.cells #[.int .i64 x] 3) := by
  refine callsIn_of_wp Tryd.func68 rfl trivial ?_ rfl
  simp only [Tryd.ntmps68, List.size_toArray, List.length_cons, List.length_nil, Nat.reduceAdd, Nat.reduceSub, Array.replicate_succ, Array.replicate_zero, List.push_toArray, List.append_toArray, List.nil_append, List.cons_append]
  gi_wp2
  go_ret
  exact ⟨rfl, rfl⟩
end Go.Proofs.YtljlgffkhocgkaaDoor
