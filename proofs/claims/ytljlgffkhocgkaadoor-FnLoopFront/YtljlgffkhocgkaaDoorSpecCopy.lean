/- What the model's l1Copy answers: the same program, anew. -/
import Derived.Test.YtljlgffkhocgkaaDoorProgO
import Derived.Test.YtljlgffkhocgkaaDoorSpecWays
import Derived.Deep.AppendLies
namespace Go.Proofs.YtljlgffkhocgkaaDoor
open Go.RowKit

theorem infoStep1 : (Tryd.prog.info? 62).map (fun i => (i.zero, i.size, i.bytes)) = some (some (.agg #[.int .i64 0, .int .i64 0, .int .i64 0, .int .i64 0, .int .i64 0, .int .i64 0, .int .i64 0, .slice none 0 0]), 8, 80) := by kernel_rfl

/-- 'append' of nothing, from nil: the value stays, and the world. -/
theorem wpList_append_nil {P : Program} (w : World) {ops : Array Oper} {rest : List Oper} {o : Oper} {a : Act} {Q : Exit → Act → World → Prop}
    (hg : o.guard = none) (s x : Operand) (t : TypeId) (hop : o.op = Op.call { callee := Callee.builtin Builtin.append, args := #[s, x], argTypes := #[t, t] })
    (base : Nat) (e : TypeId) (i : TypeInfo) (size : Nat) (h1 : P.underlying t = some (.slice e)) (h2 : P.info? e = some i)
    (v : Value) (n : Nat) (xs : List Value) (hs : a.eval s = v) (hown : w.ownsRow base e size v n xs) (hx : a.eval x = .slice none 0 0)
    (hK : wpList P ops Q rest (a.put o.dst v) w) : wpList P ops Q (o :: rest) a w := by
  refine wpList_plain hg fun K hK' => ?_
  have hrun := run_append_owned_none (P := P) w base t o.type e i size h1 h2 v n xs hown
  unfold Oper.wp
  simp [execOp, hop, resolve, invoke, builtin, hs, hx, hrun, Result.andThen]
  exact hK' _ _ hK

theorem ints_cells {w : World} {b o : Nat} {zs : List Int} (hc : ∀ i, i < zs.length → w.cell? ⟨b, o + i, none⟩ = some (.int .i64 (zs.getD i 0))) : ∀ j u, (zs.map (Value.int .i64))[j]? = some u → w.cell? ((⟨b, o, none⟩ : Addr).add j) = some u := by
  intro j u hu
  have hj : j < zs.length := by have := (List.getElem?_eq_some_iff.1 hu).1; simpa using this
  rw [Go.WideShapes.add_plain, hc j hj]
  simp [hj] at hu
  simp [List.getD, hj, hu]

/-- 'append(v, zs...)' of numbers, whatever the shape of zs. -/
theorem wpList_append_ints {P : Program} (w : World) {ops : Array Oper} {rest : List Oper} {o : Oper} {a : Act} {Q : Exit → Act → World → Prop}
    (hg : o.guard = none) (s x : Operand) (t : TypeId) (hop : o.op = Op.call { callee := Callee.builtin Builtin.append, args := #[s, x], argTypes := #[t, t] })
    (base : Nat) (e : TypeId) (i : TypeInfo) (h1 : P.underlying t = some (.slice e)) (h2 : P.info? e = some i) (h3 : i.zero = some (.int .i64 0)) (h4 : i.size = 1) (h5 : i.bytes = 8)
    (v : Value) (n : Nat) (xs : List Value) (hs : a.eval s = v) (hown : w.ownsRow base e 1 v n xs) (nao : Option Addr) (nc : Nat) (zs : List Int) (hx : a.eval x = .slice nao zs.length nc) (hI : IntsAt w (.slice nao zs.length nc) zs) (hN : Nice (.slice nao zs.length nc))
    (b1 : n + zs.length ≤ 1048576) (hb : base ≤ w.heap.size)
    (hK : ∀ v' w', w'.ownsRow base e 1 v' (n + zs.length) (xs ++ zs.map (Value.int .i64)) → w.grownBy w' v.ownBlock → (v'.ownBlock = v.ownBlock ∨ v'.ownBlock = some w.heap.size) → wpList P ops Q rest (a.put o.dst v') w') : wpList P ops Q (o :: rest) a w := by
  by_cases h0 : zs.length = 0
  · have hz : zs = [] := List.eq_nil_of_length_eq_zero h0
    subst hz
    cases nao with
    | none =>
      obtain ⟨_, rfl⟩ := hN _ _ rfl
      exact wpList_append_nil w hg s x t hop base e i 1 h1 h2 v n xs hs hown hx (hK v w (by simpa using hown) (World.grownBy.refl _ _) (Or.inl rfl))
    | some ad =>
      refine wpList_plain hg fun K hK' => ?_
      obtain ⟨v', w', hr, g1, g2, _, g3⟩ := run_append_own_at (P := P) w base t o.type e i (.int .i64 0) 1 8 h1 h2 h3 h4 h5 rfl (by decide) v n xs hown ad 0 nc [] (by simp) (by simp) (by simp) (by unfold maxLen; omega) (by omega) hb
      unfold Oper.wp
      simp [execOp, hop, resolve, invoke, builtin, hs, hx, hr, Result.andThen]
      exact hK' _ _ (hK v' w' (by simpa using g1) g2 g3)
  · obtain ⟨ao, b, oo, cap, hv, ha, hc⟩ := hI
    obtain ⟨rfl, _, rfl⟩ : nao = ao ∧ True ∧ nc = cap := by cases hv; exact ⟨rfl, trivial, rfl⟩
    obtain rfl := ha (by omega)
    refine wpList_plain hg fun K hK' => ?_
    obtain ⟨v', w', hr, g1, g2, _, g3⟩ := run_append_own_at (P := P) w base t o.type e i (.int .i64 0) 1 8 h1 h2 h3 h4 h5 rfl (by decide) v n xs hown ⟨b, oo, none⟩ zs.length nc (zs.map (Value.int .i64)) (by simp) (ints_cells hc) (ints_oneCell _ _) (by unfold maxLen; omega) (by omega) hb
    unfold Oper.wp
    simp [execOp, hop, resolve, invoke, builtin, hs, hx, hr, Result.andThen]
    exact hK' _ _ (hK v' w' g1 g2 g3)

theorem box_keep {w0 w' : World} {s : St} {nv : Value} {O' : Obj} (hb : Below (w0.heap.size + 1) ((w0.alloc (.cells #[.int .i64 s.kind, .int .i64 s.dst, .int .i64 s.op, .int .i64 s.av, .int .i64 s.an, .int .i64 s.bv, .int .i64 s.bn, nv] 62)).alloc O') w') : StepCells w' w0.heap.size 0 s nv := by
  have rd : ∀ j u, ((w0.alloc (.cells #[.int .i64 s.kind, .int .i64 s.dst, .int .i64 s.op, .int .i64 s.av, .int .i64 s.an, .int .i64 s.bv, .int .i64 s.bn, nv] 62)).alloc O').cell? ⟨w0.heap.size, j, none⟩ = some u → w'.cell? ⟨w0.heap.size, j, none⟩ = some u := fun j u h => (hb.cell (by simp)).trans h
  exact ⟨rd _ _ (by simp [go_sem]), rd _ _ (by simp [go_sem]), rd _ _ (by simp [go_sem]), rd _ _ (by simp [go_sem]), rd _ _ (by simp [go_sem]), rd _ _ (by simp [go_sem]), rd _ _ (by simp [go_sem]), rd _ _ (by simp [go_sem])⟩

theorem box_zero {w : World} {b : Nat} {s : St} {nv : Value} (h : StepCells w b 0 s nv) :
    w.cell? ⟨b, 0, none⟩ = some (.int .i64 s.kind) ∧ w.cell? ⟨b, 1, none⟩ = some (.int .i64 s.dst) ∧ w.cell? ⟨b, 2, none⟩ = some (.int .i64 s.op) ∧ w.cell? ⟨b, 3, none⟩ = some (.int .i64 s.av) ∧ w.cell? ⟨b, 4, none⟩ = some (.int .i64 s.an) ∧ w.cell? ⟨b, 5, none⟩ = some (.int .i64 s.bv) ∧ w.cell? ⟨b, 6, none⟩ = some (.int .i64 s.bn) ∧ w.cell? ⟨b, 7, none⟩ = some nv := by
  obtain ⟨a0, a1, a2, a3, a4, a5, a6, a7⟩ := h
  simp only [Nat.zero_add] at a1 a2 a3 a4 a5 a6 a7
  exact ⟨a0, a1, a2, a3, a4, a5, a6, a7⟩

theorem own_is_slice {w : World} {lo n m : Nat} {e : TypeId} {v : Value} {xs : List Value} (h : w.ownsRow lo e m v n xs) : ∃ A l c, v = .slice A l c := by
  rcases h.2 with ⟨e, _⟩ | ⟨g, cap, cur, e, _⟩
  · exact ⟨_, _, _, e⟩
  · exact ⟨_, _, _, e⟩

set_option maxRecDepth 100000 in
set_option maxHeartbeats 8000000 in
theorem l1Copy_any {Q : Ending → World → Prop} (v : Value) (ss : List St) (w : World) (h : StepsN w v ss) (hl : ss.length ≤ 1000) (hls : ∀ s ∈ ss, s.next.length ≤ 1000)
    (hQ : ∀ v' xs nvs w', PO w.heap.size w' v' ss xs nvs → Below w.heap.size w w' → Q (.returned (.agg #[v'])) w') :
    Calls Tryd.prog 93 #[.agg #[v]] w Q := by
  have HQ : Hid _ := hQ
  clear hQ
  obtain ⟨ao, b, o, cap, rfl, ha, hc⟩ := h
  have HA : Hid _ := ha
  have HC : Hid _ := hc
  have HL : Hid _ := hls
  clear ha hc hls
  obtain ⟨i0, hi, hz0, hz1, hz2⟩ := info_parts infoInt2
  obtain ⟨i1, hj, hy0, hy1, hy2⟩ := info_parts infoStep1
  go_enter Tryd.func93, Tryd.ntmps93
  go_wp2
  have hbL : Below (w.heap.size + 2) (((w.alloc (.cells #[.slice ao ss.length cap] 34)).alloc (.cells #[.slice none 0 0] 34)).alloc (.cells #[.slice none 0 0] 34)) (((w.alloc (.cells #[.slice ao ss.length cap] 34)).alloc (.cells #[.slice none 0 0] 34)).alloc (.cells #[.slice none 0 0] 34)) := Below.refl _ _
  have hq0 : (((w.alloc (.cells #[.slice ao ss.length cap] 34)).alloc (.cells #[.slice none 0 0] 34)).alloc (.cells #[.slice none 0 0] 34)).cell? ⟨w.heap.size, 0, none⟩ = some (.slice ao ss.length cap) := by simp [go_sem]
  have hq1 : (((w.alloc (.cells #[.slice ao ss.length cap] 34)).alloc (.cells #[.slice none 0 0] 34)).alloc (.cells #[.slice none 0 0] 34)).cell? ⟨w.heap.size + 1, 0, none⟩ = some (.slice none 0 0) := by simp [go_sem]
  have hq2 : (((w.alloc (.cells #[.slice ao ss.length cap] 34)).alloc (.cells #[.slice none 0 0] 34)).alloc (.cells #[.slice none 0 0] 34)).cell? ⟨w.heap.size + 1 + 1, 0, none⟩ = some (.slice none 0 0) := by simp [go_sem]
  have hf1 : (((w.alloc (.cells #[.slice ao ss.length cap] 34)).alloc (.cells #[.slice none 0 0] 34)).alloc (.cells #[.slice none 0 0] 34)).frozen? ⟨w.heap.size + 1, 0, none⟩ = false := by simp [go_sem]
  have hf2 : (((w.alloc (.cells #[.slice ao ss.length cap] 34)).alloc (.cells #[.slice none 0 0] 34)).alloc (.cells #[.slice none 0 0] 34)).frozen? ⟨w.heap.size + 1 + 1, 0, none⟩ = false := by simp [go_sem]
  have hbW : Below w.heap.size w (((w.alloc (.cells #[.slice ao ss.length cap] 34)).alloc (.cells #[.slice none 0 0] 34)).alloc (.cells #[.slice none 0 0] 34)) := (((Below.refl _ _).alloc (Nat.le_refl _) _).alloc (by simp) _).alloc (by simp; omega) _
  have hsL : (((w.alloc (.cells #[.slice ao ss.length cap] 34)).alloc (.cells #[.slice none 0 0] 34)).alloc (.cells #[.slice none 0 0] 34)).heap.size = w.heap.size + 3 := by simp
  generalize (((w.alloc (.cells #[.slice ao ss.length cap] 34)).alloc (.cells #[.slice none 0 0] 34)).alloc (.cells #[.slice none 0 0] 34)) = wL at *
  have HBL : Hid _ := hbL
  have HBW : Hid _ := hbW
  clear hbL hbW
  go_loopw [4] (fun i wr => ∃ (k : Nat) (ov : Value) (xs : List Value) (nvs : Nat → Value), k ≤ ss.length ∧ i = .int .i64 k ∧ Below (w.heap.size + 2) wL wr ∧ wr.cell? ⟨w.heap.size + 1 + 1, 0, none⟩ = some ov ∧ wr.frozen? ⟨w.heap.size + 1 + 1, 0, none⟩ = false ∧ PO (w.heap.size + 3) wr ov (ss.take k) xs nvs) (fun i _ => ss.length - (intOf i).toNat)
  case atStart => exact ⟨0, _, [], fun _ => .slice none 0 0, Nat.zero_le _, rfl, HBL.out, hq2, hf2, by simpa using PO.nil _ _ _⟩
  case round =>
    clear hq2 hf2
    obtain ⟨k, ov, xs, nvs, hk, rfl, hb, hq2, hf2, hP⟩ := hrel
    have HB : Hid (Below (w.heap.size + 2) wL wr) := hb
    have HP : Hid (PO (w.heap.size + 3) wr ov (ss.take k) xs nvs) := hP
    have p0 := (hb.cell (p := ⟨w.heap.size, 0, none⟩) (by show w.heap.size < w.heap.size + 2; omega)).trans hq0
    have p1 := (hb.cell (p := ⟨w.heap.size + 1, 0, none⟩) (by show w.heap.size + 1 < w.heap.size + 2; omega)).trans hq1
    have g1 := (hb.frozen (p := ⟨w.heap.size + 1, 0, none⟩) (by show w.heap.size + 1 < w.heap.size + 2; omega)).trans hf1
    have HBw : Hid (Below w.heap.size w wr) := HBW.out.trans (hb.mono (by omega))
    have hs2 : w.heap.size + 1 + 1 < wr.heap.size := cell_lt hq2
    have hlt : (ss.take k).length = k := by simp; omega
    obtain ⟨A, c, hov, _⟩ := hP.slice
    rw [hlt] at hov
    subst hov
    have HLT : Hid ((ss.take k).length = k) := hlt
    clear hb hP hlt
    by_cases hkl : k < ss.length
    · have hki : (k : Int) < (ss.length : Int) := by omega
      obtain rfl := HA.out (by omega)
      obtain ⟨nu, cu, iu, hnice⟩ := HC.out k ss[k] (by simp [hkl])
      obtain ⟨nao, nb, no, ncap, rfl, hna, hnc⟩ := id iu
      obtain ⟨c0, c1, c2, c3, c4, c5, c6, c7⟩ := cu.keep HBw.out
      have HNA : Hid _ := hna
      have HNC : Hid _ := hnc
      have h2 := HL.out _ (List.getElem_mem hkl)
      have HNI : Hid (Nice (.slice nao ss[k].next.length ncap)) := hnice
      have HIU : Hid (IntsAt w (.slice nao ss[k].next.length ncap) ss[k].next) := iu
      clear cu iu hna hnc hnice HNA HNC
      have HE : Hid (∀ O, ((wr.alloc O).alloc (.cells #[] 3)).ownsRow (wr.heap.size + 1) 3 1 (.slice (some ⟨wr.heap.size + 1, 0, none⟩) 0 0) 0 []) := by
        intro O
        have h0 := World.ownsRow_lit (base := wr.heap.size + 1) (e := 3) (size := 1) (wr.alloc O) #[] 0 (by simp) (by decide) (by simp)
        simpa using h0
      have HBX : Hid (∀ O O', Below wr.heap.size wr ((wr.alloc O).alloc O')) := fun O O' => ((Below.refl _ _).alloc (Nat.le_refl _) O).alloc (by simp) O'
      have HSS : Hid (ss.take (k + 1) = ss.take k ++ [ss[k]]) := List.take_succ_eq_append_getElem hkl
      go_wp2_with (at_builtin; refine wpList_append_ints _ rfl (.tmp 19) (.tmp 21) 55 rfl (wr.heap.size + 1) 3 i0 Tryd.underlying55 hi hz0 hz1 hz2 (.slice (some ⟨wr.heap.size + 1, 0, none⟩) 0 0) 0 [] rfl (HE.out _) nao ncap ss[k].next rfl (HIU.out.keep (HBw.out.trans ((HBX.out _ _).mono (by omega)))) HNI.out (by omega) (by simp) ?_)
      intro v7 w7 hown7 hgrow7 hat7
      have hb7 : Below (wr.heap.size + 1) ((wr.alloc (.cells #[.int .i64 ss[k].kind, .int .i64 ss[k].dst, .int .i64 ss[k].op, .int .i64 ss[k].av, .int .i64 ss[k].an, .int .i64 ss[k].bv, .int .i64 ss[k].bn, .slice nao ss[k].next.length ncap] 62)).alloc (.cells #[] 3)) w7 := (Below.refl _ _).grown hgrow7 (by simp) (fun q hq => by simp [Value.ownBlock] at hq; omega)
      have hs7 : wr.heap.size + 2 ≤ w7.heap.size := Nat.le_trans (by simp) hgrow7.size
      have hw7 : Below wr.heap.size wr w7 := (HBX.out _ _).trans (hb7.mono (by omega))
      have fz7 : ∀ j, w7.frozen? ⟨wr.heap.size, j, none⟩ = false := fun j => (hb7.frozen (by simp)).trans (by simp [go_sem])
      obtain ⟨d0, d1, d2, d3, d4, d5, d6, d7⟩ := box_zero (box_keep hb7)
      have q7 := cell_keep hw7 hq2
      have f7 := (hw7.frozen (p := ⟨w.heap.size + 1 + 1, 0, none⟩) hs2).trans hf2
      obtain ⟨A7, n7, c7', hv7⟩ := own_is_slice hown7
      subst hv7
      have hn7 : wr.heap.size < w7.heap.size := by omega
      have hne7 : ¬ w.heap.size + 1 + 1 = wr.heap.size := by omega
      have HW7 : Hid (Below wr.heap.size wr (w7.setCell ⟨wr.heap.size, 7, none⟩ (.slice A7 n7 c7'))) := hw7.setCell (Nat.le_refl _) _
      have HO7 : Hid ((w7.setCell ⟨wr.heap.size, 7, none⟩ (.slice A7 n7 c7')).ownsRow (wr.heap.size + 1) 3 1 (.slice A7 n7 c7') ss[k].next.length (ss[k].next.map (Value.int .i64))) := by
        have := ownsRow_setCell_below hown7 (a := ⟨wr.heap.size, 7, none⟩) (by simp) (.slice A7 n7 c7')
        simpa [Hid] using this
      have HP7 : Hid (PO (w.heap.size + 3) (w7.setCell ⟨wr.heap.size, 7, none⟩ (.slice A7 n7 c7')) (.slice A k c) (ss.take k) xs nvs) := HP.out.keep HW7.out
      have HR7 : Hid ((w7.setCell ⟨wr.heap.size, 7, none⟩ (.slice A7 n7 c7')).ownsRow (w.heap.size + 3) 62 8 (.slice A k c) k xs) := by
        have := HP7.out.row
        rwa [HLT.out] at this
      clear hb7 hgrow7 hat7 hown7 hw7 c0 c1 c2 c3 c4 c5 c6 c7
      go_wp2_with (at_builtin; refine wpList_append_own _ rfl (.tmp 25) (.tmp 27) 32 rfl (w.heap.size + 3) 62 i1 (.agg #[.int .i64 0, .int .i64 0, .int .i64 0, .int .i64 0, .int .i64 0, .int .i64 0, .int .i64 0, .slice none 0 0]) 8 80 Tryd.underlying32 hj hy0 hy1 hy2 rfl (by decide) (.slice A k c) k xs rfl (HR7.out.alloc _) ⟨w7.heap.size, 0, none⟩ 1 1 (cells8 ss[k] (.slice A7 n7 c7')) rfl rfl (cells8_new _ ss[k] _ _ (by simp)) (cells8_one _ _ _ _) (by unfold maxLen; omega) (by omega) (by simp; omega) ?_)
      intro v8 w8 hown8 hgrow8 _
      have hb8 : Below (w.heap.size + 3) ((w7.setCell ⟨wr.heap.size, 7, none⟩ (.slice A7 n7 c7')).alloc (.cells #[.int .i64 ss[k].kind, .int .i64 ss[k].dst, .int .i64 ss[k].op, .int .i64 ss[k].av, .int .i64 ss[k].an, .int .i64 ss[k].bv, .int .i64 ss[k].bn, .slice A7 n7 c7'] 62)) w8 := (Below.refl _ _).grown hgrow8 (by simp; omega) (fun q hq => (HR7.out.lt q hq).1)
      have hX : Below wr.heap.size wr ((w7.setCell ⟨wr.heap.size, 7, none⟩ (.slice A7 n7 c7')).alloc (.cells #[.int .i64 ss[k].kind, .int .i64 ss[k].dst, .int .i64 ss[k].op, .int .i64 ss[k].av, .int .i64 ss[k].an, .int .i64 ss[k].bv, .int .i64 ss[k].bn, .slice A7 n7 c7'] 62)) := HW7.out.alloc HW7.out.size _
      have hw8 : Below (w.heap.size + 3) wr w8 := (hX.mono (by omega)).trans hb8
      have q8 := (hw8.cell (p := ⟨w.heap.size + 1 + 1, 0, none⟩) (by show w.heap.size + 1 + 1 < w.heap.size + 3; omega)).trans hq2
      have f8 := (hw8.frozen (p := ⟨w.heap.size + 1 + 1, 0, none⟩) (by show w.heap.size + 1 + 1 < w.heap.size + 3; omega)).trans hf2
      have hPN := (HP7.out.keep ((Below.refl _ _).alloc (Nat.le_refl _) _)).snoc (hi := wr.heap.size) (fun i q hi hq => by
        obtain ⟨si, hsi⟩ : ∃ si, (ss.take k)[i]? = some si := ⟨_, List.getElem?_eq_getElem hi⟩
        exact ((HP.out.own i si hsi).lt q hq).2) (HO7.out.alloc _) (by omega) (by omega) hgrow8 (by rw [HLT.out]; exact hown8)
      have HPN : Hid _ := hPN
      have HB8 : Hid (Below (w.heap.size + 2) wL w8) := HB.out.trans (hw8.mono (by omega))
      have hs8 : w.heap.size + 1 + 1 < w8.heap.size := cell_lt q8
      obtain ⟨A8, n8, c8, hv8⟩ := own_is_slice hown8
      subst hv8
      clear hPN hown8 hgrow8 hb8 hX hw8 q7 f7 d0 d1 d2 d3 d4 d5 d6 d7 fz7
      go_wp2
      go_roundw
      case rel =>
        have hfin := PO.below HPN.out (a := ⟨w.heap.size + 1 + 1, 0, none⟩) (by show w.heap.size + 1 + 1 < w.heap.size + 3; omega) (.slice A8 n8 c8)
        rw [← HSS.out] at hfin
        exact ⟨k + 1, .slice A8 n8 c8, _, _, by omega, by go_num, HB8.out.setCell (by show w.heap.size + 2 ≤ w.heap.size + 1 + 1; omega) _, by simp [go_sem, q8], by simp [go_sem, f8], hfin⟩
      case measure => simp [intOf]; omega
    · have hki : ¬ (k : Int) < (ss.length : Int) := by omega
      obtain rfl : k = ss.length := by omega
      rw [List.take_of_length_le (Nat.le_refl _)] at *
      go_wp2
      refine bodyPost_ret (v := .agg #[.slice A ss.length c]) (by simp [results, Tryd.results93, go_sem, p1]) rfl ?_
      refine HQ.out _ xs nvs _ ((HP.out.below (by simp) _).lower (by omega)) (HBw.out.setCell (by simp) _)
end Go.Proofs.YtljlgffkhocgkaaDoor
