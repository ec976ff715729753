/- What the program's ProgWrite writes: nothing of a program that is not ok, else a line for each step. -/
import Derived.Test.YtaepeommfdchgaaDoorWords
import Derived.Test.YtaepeommfdchgaaDoorSpecWrite
import Derived.Test.YtaepeommfdchgaaDoorFormsOf
namespace Go.Proofs.YtaepeommfdchgaaDoor
open Go.RowKit

/-- The words of a step that is ok. -/
def wordsT (s : St) : List (List UInt8) :=
  if s.kind = 1 then [varT s.dst, [61], sayT s.av s.an, signT s.op, sayT s.bv s.bn, decT (s.next.getD 0 0)]
  else if s.kind = 2 then [varT s.dst, [61], sayT s.av s.an, decT (s.next.getD 0 0)]
  else if s.kind = 3 then [varT s.dst, [61], [105, 110], decT (s.next.getD 0 0)]
  else if s.kind = 4 then [[111, 117, 116], sayT s.av s.an, decT (s.next.getD 0 0)]
  else if s.kind = 5 then [[116, 101, 115, 116], sayT s.av s.an, decT (s.next.getD 0 0), decT (s.next.getD 1 0)]
  else if s.kind = 6 then [[115, 107, 105, 112], decT (s.next.getD 0 0)]
  else [[101, 110, 100]]

def asWords (l : List (List UInt8)) : List ByteArray := l.map (fun t => (⟨t.toArray⟩ : ByteArray))

theorem next_of {s : St} {n : Int} (h : stepB s n = true) (hn : n ≤ 1048576) : (s.kind = 5 ∧ ∃ x y, s.next = [x, y]) ∨ (s.kind = 7 ∧ s.next = []) ∨ ((s.kind = 1 ∨ s.kind = 2 ∨ s.kind = 3 ∨ s.kind = 4 ∨ s.kind = 6) ∧ ∃ x, s.next = [x]) := by
  obtain ⟨h1, _, _, _, hm⟩ := step_parts h hn
  rcases many_cases hm with e | e | e | e | e | e | e
  · exact Or.inr (Or.inr ⟨by omega, len1 (by rw [e] at h1; simp [many] at h1; omega)⟩)
  · exact Or.inr (Or.inr ⟨by omega, len1 (by rw [e] at h1; simp [many] at h1; omega)⟩)
  · exact Or.inr (Or.inr ⟨by omega, len1 (by rw [e] at h1; simp [many] at h1; omega)⟩)
  · exact Or.inr (Or.inr ⟨by omega, len1 (by rw [e] at h1; simp [many] at h1; omega)⟩)
  · exact Or.inl ⟨e, len2 (by rw [e] at h1; simp [many] at h1; omega)⟩
  · exact Or.inr (Or.inr ⟨by omega, len1 (by rw [e] at h1; simp [many] at h1; omega)⟩)
  · exact Or.inr (Or.inl ⟨e, len0 (by rw [e] at h1; simpa [many] using h1)⟩)

theorem join_line {s : St} {n : Int} (h : stepB s n = true) (hn : n ≤ 1048576) : Lib.join (wordsT s) [32] ++ [10] = lineT s := by
  obtain ⟨kind, dst, op, av, an, bv, bn, next⟩ := s
  rcases next_of h hn with ⟨e, x, y, hx⟩ | ⟨e, hx⟩ | ⟨e, x, hx⟩
  · simp only at e hx
    subst e; subst hx
    simp [wordsT, lineT, headT, Lib.join, List.intercalate, List.intersperse]
  · simp only at e hx
    subst e; subst hx
    simp [wordsT, lineT, headT, Lib.join, List.intercalate]
  · simp only at e hx
    subst hx
    rcases e with rfl | rfl | rfl | rfl | rfl <;> simp [wordsT, lineT, headT, Lib.join, List.intercalate, List.intersperse]

theorem wordsOf_any {Q : Ending → World → Prop} (s : St) (n : Int) (w : World) (hp : Pow w) (hs : stepB s n = true) (hn : n ≤ 1048576)
    (hQ : ∀ b w', Below w.heap.size w w' → b < w'.heap.size → (∀ (j : Nat) (u : ByteArray), (asWords (wordsT s))[j]? = some u → w'.cell? ⟨b, 0 + j, none⟩ = some (.string u)) → Q (.returned (.slice (some ⟨b, 0, none⟩) (asWords (wordsT s)).length (asWords (wordsT s)).length)) w') :
    Calls Tryd.prog 16 #[formV s] w Q := by
  obtain ⟨_, _, hxs, hr, _⟩ := step_parts hs hn
  have hnx := next_of hs hn
  obtain ⟨kind, dst, op, av, an, bv, bn, next⟩ := s
  simp only at hxs hr hnx hQ
  rcases hnx with ⟨rfl, x, y, rfl⟩ | ⟨rfl, rfl⟩ | ⟨e, x, rfl⟩
  · simp [restB] at hr
    rw [show wordsT ⟨5, dst, op, av, an, bv, bn, [x, y]⟩ = [[116, 101, 115, 116], sayT av an, decT x, decT y] by simp [wordsT]] at hQ
    rw [show formV ⟨5, dst, op, av, an, bv, bn, [x, y]⟩ = .iface 82 (testV av an x y) by simp [formV]]
    exact testWords_any av an x y w hp hr.2.1.2 (hxs x (by simp)) (hxs y (by simp)) hQ
  · rw [show wordsT ⟨7, dst, op, av, an, bv, bn, []⟩ = [[101, 110, 100]] by simp [wordsT]] at hQ
    rw [show formV ⟨7, dst, op, av, an, bv, bn, []⟩ = .iface 94 (endV) by simp [formV]]
    exact endWords_any w hp hQ
  · have hx := hxs x (by simp)
    rcases e with rfl | rfl | rfl | rfl | rfl
    · simp [restB, inB] at hr
      have hop : op = 1 ∨ op = 2 ∨ op = 3 ∨ op = 4 := by omega
      rcases hop with rfl | rfl | rfl | rfl
      · rw [show wordsT ⟨1, dst, 1, av, an, bv, bn, [x]⟩ = [varT dst, [61], sayT av an, [43], sayT bv bn, decT x] by simp [wordsT, signT]] at hQ
        rw [show formV ⟨1, dst, 1, av, an, bv, bn, [x]⟩ = .iface 74 (setV dst 1 av an bv bn x) by simp [formV]]
        exact setWords1_any dst av an bv bn x w hp (by omega) hr.2.1.2 hr.2.2 hx hQ
      · rw [show wordsT ⟨1, dst, 2, av, an, bv, bn, [x]⟩ = [varT dst, [61], sayT av an, [45], sayT bv bn, decT x] by simp [wordsT, signT]] at hQ
        rw [show formV ⟨1, dst, 2, av, an, bv, bn, [x]⟩ = .iface 74 (setV dst 2 av an bv bn x) by simp [formV]]
        exact setWords2_any dst av an bv bn x w hp (by omega) hr.2.1.2 hr.2.2 hx hQ
      · rw [show wordsT ⟨1, dst, 3, av, an, bv, bn, [x]⟩ = [varT dst, [61], sayT av an, [42], sayT bv bn, decT x] by simp [wordsT, signT]] at hQ
        rw [show formV ⟨1, dst, 3, av, an, bv, bn, [x]⟩ = .iface 74 (setV dst 3 av an bv bn x) by simp [formV]]
        exact setWords3_any dst av an bv bn x w hp (by omega) hr.2.1.2 hr.2.2 hx hQ
      · rw [show wordsT ⟨1, dst, 4, av, an, bv, bn, [x]⟩ = [varT dst, [61], sayT av an, [60], sayT bv bn, decT x] by simp [wordsT, signT]] at hQ
        rw [show formV ⟨1, dst, 4, av, an, bv, bn, [x]⟩ = .iface 74 (setV dst 4 av an bv bn x) by simp [formV]]
        exact setWords4_any dst av an bv bn x w hp (by omega) hr.2.1.2 hr.2.2 hx hQ
    · simp [restB, inB] at hr
      rw [show wordsT ⟨2, dst, op, av, an, bv, bn, [x]⟩ = [varT dst, [61], sayT av an, decT x] by simp [wordsT]] at hQ
      rw [show formV ⟨2, dst, op, av, an, bv, bn, [x]⟩ = .iface 76 (copyV dst av an x) by simp [formV]]
      exact copyWords_any dst av an x w hp (by omega) hr.2.1.2 hx hQ
    · simp [restB, inB] at hr
      rw [show wordsT ⟨3, dst, op, av, an, bv, bn, [x]⟩ = [varT dst, [61], [105, 110], decT x] by simp [wordsT]] at hQ
      rw [show formV ⟨3, dst, op, av, an, bv, bn, [x]⟩ = .iface 78 (inV dst x) by simp [formV]]
      exact inWords_any dst x w hp (by omega) hx hQ
    · simp [restB] at hr
      rw [show wordsT ⟨4, dst, op, av, an, bv, bn, [x]⟩ = [[111, 117, 116], sayT av an, decT x] by simp [wordsT]] at hQ
      rw [show formV ⟨4, dst, op, av, an, bv, bn, [x]⟩ = .iface 80 (outV av an x) by simp [formV]]
      exact outWords_any av an x w hp hr.2.1.2 hx hQ
    · rw [show wordsT ⟨6, dst, op, av, an, bv, bn, [x]⟩ = [[115, 107, 105, 112], decT x] by simp [wordsT]] at hQ
      rw [show formV ⟨6, dst, op, av, an, bv, bn, [x]⟩ = .iface 84 (skipV x) by simp [formV]]
      exact skipWords_any x w hp hx hQ

theorem IsBuilder.keep {T e : TypeId} {B b : Nat} {bs : List Value} {w w' : World} (h : Lib.IsBuilder T e B b bs w) (hb : Below w.heap.size w w') : Lib.IsBuilder T e B b bs w' := by
  have k : ∀ p, Lib.BuilderAt T e B b p bs w → Lib.BuilderAt T e B b p bs w' := by
    intro p hp
    obtain ⟨h1, v, h2, h3, h4⟩ := hp
    obtain ⟨hlt, _⟩ := Array.getElem?_eq_some_iff.1 h2
    exact ⟨h1, v, (hb.block b hlt).trans h2, ownsRow_keep h3 hb, h4⟩
  exact h.elim (fun x => .inl (k _ x)) (fun x => .inr (k _ x))

theorem form_cell {w : World} {base : Nat} {T : TypeId} {fv : Value} {ss : List St} (h : w.ownsRow base T 1 fv ss.length (ss.map formV)) (hp : 0 < ss.length) :
    ∃ g cap, fv = .slice (some ⟨g, 0, none⟩) ss.length cap ∧ ∀ k (hk : k < ss.length), w.cell? ⟨g, k, none⟩ = some (formV ss[k]) := by
  obtain ⟨_, h2⟩ := h
  rcases h2 with ⟨_, h2⟩ | ⟨g, cap, cur, hv, _, hh, _, _, _, ht⟩
  · omega
  · refine ⟨g, cap, hv, fun k hk => ?_⟩
    have e : cur[k]? = some (formV ss[k]) := by
      have h3 : (cur.toList.take (ss.length * 1))[k]? = (ss.map formV)[k]? := by rw [ht]
      rw [List.getElem?_take_of_lt (by omega)] at h3
      simpa [hk] using h3
    simp [World.cell?, hh, e]

set_option maxHeartbeats 4000000 in
theorem implWrite_any {Q : Ending → World → Prop} (v : Value) (ss : List St) (w : World) (hp : Pow w) (h : StepsAt w v ss) (hl : ss.length ≤ 1048576) (hls : ∀ s ∈ ss, s.next.length ≤ 1048576)
    (hQ : ∀ w', Below w.heap.size w w' → Q (.returned (.string ⟨(if okB ss = true then textT ss else []).toArray⟩)) w') :
    Calls Tryd.prog 7 #[.agg #[v]] w Q := by
  have HQ : Hid (∀ w', Below w.heap.size w w' → Q (.returned (.string ⟨(if okB ss = true then textT ss else []).toArray⟩)) w') := hQ
  have HP : Hid (Pow w) := hp
  clear hQ hp
  obtain ⟨ao, b, o, cap, rfl, ha, hc⟩ := id h
  clear ha hc
  have HL : Hid _ := hls
  clear hls
  have hb0 : ∀ O, Below w.heap.size w (w.alloc O) := fun O => (Below.refl _ _).alloc (Nat.le_refl _) O
  go_enter Tryd.func7, Tryd.ntmps7
  go_wp2_with fail
  refine formsOf_any _ ss _ (h.keep (hb0 _)) hl HL.out ?_ ?_
  · intro w1 hb1 hf
    have hb2 : Below w.heap.size w w1 := (hb0 _).trans (hb1.mono (by simp))
    rw [hf] at HQ
    clear hb1 hf hb0
    go_wp2
    exact HQ.out _ hb2
  · intro fv w1 hb1 hok hown
    have hbA : Below w.heap.size w w1 := (hb0 _).trans (hb1.mono (by simp))
    obtain ⟨h60, h1, hst⟩ := ok_each hok
    rw [hok, if_pos rfl] at HQ
    have HST : Hid (∀ s ∈ ss, stepB s ss.length = true) := hst
    obtain ⟨g, fcap, hfv, hcells⟩ := form_cell hown (by omega)
    subst hfv
    have HCE : Hid (∀ k (hk : k < ss.length), w1.cell? ⟨g, k, none⟩ = some (formV ss[k])) := hcells
    have HP1 : Hid (Pow w1) := HP.out.keep hbA
    clear hb1 hok hown hst hcells h hb0
    go_wp2
    go_loopw [17] (fun i wr => ∃ k : Nat, k ≤ ss.length ∧ i = .int .i64 k ∧ Below w1.heap.size w1 wr ∧ Lib.IsBuilder 48 5 w1.heap.size w1.heap.size (Lib.byteCells (textT (ss.take k))) wr) (fun i _ => ss.length - (intOf i).toNat)
    case atStart =>
      refine ⟨0, Nat.zero_le _, rfl, (Below.refl _ _).alloc (Nat.le_refl _) _, Or.inl ⟨Nat.le_refl _, .slice none 0 0, ?_, ⟨rfl, Or.inl ⟨rfl, rfl⟩⟩, by simp [Value.ownBlock]⟩⟩
      exact Go.Deep.blk_alloc_new _ _
    case round =>
      obtain ⟨k, hk, rfl, hb, hbu⟩ := hrel
      have hsz : w1.heap.size ≤ wr.heap.size := hb.size
      have HBU : Hid (Lib.IsBuilder 48 5 w1.heap.size w1.heap.size (Lib.byteCells (textT (ss.take k))) wr) := hbu
      clear hbu
      by_cases hkl : k < ss.length
      · have hcell := cell_keep hb (HCE.out k hkl)
        have HPR : Hid (Pow wr) := HP1.out.keep hb
        have HM : Hid (stepB ss[k] ss.length = true) := HST.out _ (List.getElem_mem hkl)
        have HE : Hid (textT (ss.take (k + 1)) = textT (ss.take k) ++ (Lib.join (wordsT ss[k]) [32] ++ [10])) := by
          rw [Hid, join_line HM.out (by omega), textT, textT, List.take_succ_eq_append_getElem hkl, List.flatMap_append]; simp only [List.flatMap_cons, List.flatMap_nil, List.append_nil]
        have HLEN : Hid ((textT (ss.take k)).length ≤ 201 * 60 ∧ (Lib.join (wordsT ss[k]) [32]).length ≤ 201) := by
          refine ⟨?_, ?_⟩
          · have h2 := textT_len (n := ss.length) (by omega) (ss.take k) (fun s hs => HST.out s (List.mem_of_mem_take hs))
            have h3 : (ss.take k).length ≤ 60 := by simp; omega
            omega
          · have h2 := lineT_len HM.out (by omega)
            rw [← join_line HM.out (by omega)] at h2
            simp at h2
            omega
        go_wp2_with fail
        refine wordsOf_any ss[k] ss.length wr HPR.out HM.out (by omega) fun bk w2 hb2 hbk hcl => ?_
        have hsz2 := hb2.size
        have HJ : Hid ((asWords (wordsT ss[k])).map (·.data.toList) = wordsT ss[k]) := by
          simp [Hid, asWords, Function.comp_def]
        have HWL : Hid ((asWords (wordsT ss[k])).length ≤ 6) := by
          rw [Hid, asWords, List.length_map]; unfold wordsT; (repeat' split) <;> simp
        have HJN : Hid (∀ wx, Below w2.heap.size w2 wx → wx = wx) := fun _ _ => rfl
        generalize hws : asWords (wordsT ss[k]) = ws at *
        clear hws HJN hcell
        have HCL : Hid (∀ (j : Nat) (u : ByteArray), ws[j]? = some u → w2.cell? ⟨bk, 0 + j, none⟩ = some (.string u)) := hcl
        have HBK : Hid (bk < w2.heap.size) := hbk
        clear hcl hbk
        go_wp2_with fail
        refine (shelf_strings_Join bk 0 ws.length ws ⟨#[32]⟩ w2 HCL.out HBK.out (by have := HWL.out; omega) (Nat.le_refl _) (by rw [HJ.out]; have := HLEN.out.2; simpa using (by omega : (Lib.join (wordsT ss[k]) [32]).length ≤ 140737488355328))).mono ?_
        rintro e w3 ⟨rfl, hb3⟩
        have HJ2 : Hid ((⟨(Lib.join (ws.map (·.data.toList)) (⟨#[32]⟩ : ByteArray).data.toList).toArray⟩ : ByteArray) = ⟨(Lib.join (wordsT ss[k]) [32]).toArray⟩) := by rw [Hid, HJ.out]
        rw [HJ2.out]
        have hb23 : Below wr.heap.size wr w3 := hb2.trans (hb3.mono hb2.size)
        have HBU3 : Hid (Lib.IsBuilder 48 5 w1.heap.size w1.heap.size (Lib.byteCells (textT (ss.take k))) w3) := IsBuilder.keep HBU.out hb23
        have hb13 : Below w1.heap.size w1 w3 := hb.trans (hb23.mono hsz)
        clear hb2 hb3 HJ2 HJ HCL HBK HWL hb23 hsz2
        generalize hJ : Lib.join (wordsT ss[k]) [32] = J at *
        clear hJ
        go_wp2_with fail
        refine (shelf_Builder_WriteString w1.heap.size w1.heap.size (Lib.byteCells (textT (ss.take k))) ⟨J.toArray⟩ w3 HBU3.out (by rw [Lib.byteCells_length]; have := HLEN.out; show _ + J.toArray.size ≤ _; simp; omega) hb13.size).mono ?_
        rintro e w4 ⟨rfl, hbu4, hb4⟩
        have HBU4 : Hid (Lib.IsBuilder 48 5 w1.heap.size w1.heap.size (Lib.byteCells (textT (ss.take k) ++ J)) w4) := by
          rw [Hid, Lib.byteCells_append]
          exact Or.inr hbu4
        have hb14 : Below w1.heap.size w1 w4 := hb13.trans hb4
        clear hbu4 hb4 hb13 HBU3
        go_wp2_with fail
        refine (shelf_Builder_WriteByte w1.heap.size w1.heap.size (Lib.byteCells (textT (ss.take k) ++ J)) 10 w4 HBU4.out (by rw [Lib.byteCells_length, List.length_append]; have := HLEN.out; omega) hb14.size).mono ?_
        rintro e w5 ⟨rfl, hbu5, hb5⟩
        have HBU5 : Hid (Lib.IsBuilder 48 5 w1.heap.size w1.heap.size (Lib.byteCells (textT (ss.take (k + 1)))) w5) := by
          rw [Hid, HE.out, ← List.append_assoc, Lib.byteCells_append]
          exact Or.inr hbu5
        have hb15 : Below w1.heap.size w1 w5 := hb14.trans hb5
        clear hbu5 hb5 hb14 HBU4
        go_wp2
        go_roundw
        case rel => exact ⟨k + 1, by omega, by go_num, hb15, HBU5.out⟩
        case measure => simp [intOf]; omega
      · obtain rfl : k = ss.length := by omega
        rw [List.take_of_length_le (Nat.le_refl _)] at HBU
        have hbw : Below w.heap.size w wr := hbA.trans (hb.mono hbA.size)
        go_wp2_with fail
        refine (shelf_Builder_String_any w1.heap.size w1.heap.size (textT ss) wr HBU.out hsz).mono ?_
        rintro e w6 ⟨rfl, hb6⟩
        have hbw6 : Below w.heap.size w w6 := hbw.trans (hb6.mono hbA.size)
        clear hb6 hbw hb
        go_wp2
        exact HQ.out _ hbw6
end Go.Proofs.YtaepeommfdchgaaDoor
