/- A queue of steps: a slice that begins anywhere in a row; one more put behind it. -/
import Derived.Test.YthaiiegofofnmaaKit
import Derived.Test.YthaiiegofofnmaaReachI
import Derived.Deep.AppendSrc
import Derived.Laws.IdiomCopy
namespace Go.Proofs.Ythaiiegofofnmaa
open Go.RowKit

/-- A slice of the call's own, from block lo on, wherever it begins in its row, that holds these places; its room may be written. -/
def QRow (lo : Nat) (w : World) (v : Value) (q : List Nat) : Prop :=
  (v = .slice none 0 0 ∧ q = []) ∨ ∃ g o cap, v = .slice (some ⟨g, o, none⟩) q.length cap ∧ lo ≤ g ∧ g < w.heap.size ∧ q.length ≤ cap ∧ cap ≤ maxLen ∧
    (∀ j, j < cap → (w.cell? ⟨g, o + j, none⟩).isSome = true ∧ w.frozen? ⟨g, o + j, none⟩ = false) ∧ (∀ i, i < q.length → w.cell? ⟨g, o + i, none⟩ = some (intV (q.getD i 0)))

theorem QRow.nil (lo : Nat) (w : World) : QRow lo w (.slice none 0 0) [] := Or.inl ⟨rfl, rfl⟩

theorem QRow.form {lo : Nat} {w : World} {v : Value} {q : List Nat} (h : QRow lo w v q) : ∃ A c, v = .slice A q.length c := by
  rcases h with ⟨rfl, rfl⟩ | ⟨g, o, cap, rfl, _⟩
  · exact ⟨none, 0, rfl⟩
  · exact ⟨_, _, rfl⟩

theorem QRow.lt {lo : Nat} {w : World} {v : Value} {q : List Nat} (h : QRow lo w v q) : ∀ k, v.ownBlock = some k → lo ≤ k ∧ k < w.heap.size := by
  intro k hk
  rcases h with ⟨rfl, rfl⟩ | ⟨g, o, cap, rfl, h1, h2, _⟩
  · cases hk
  · cases hk
    exact ⟨h1, h2⟩

theorem QRow.of_blocks {lo : Nat} {w w' : World} {v : Value} {q : List Nat} (h : QRow lo w v q) (hs : w.heap.size ≤ w'.heap.size) (hb : ∀ g, lo ≤ g → g < w.heap.size → w'.heap[g]? = w.heap[g]?) : QRow lo w' v q := by
  rcases h with h | ⟨g, o, cap, h1, h2, h3, h4, h5, h6, h7⟩
  · exact Or.inl h
  · refine Or.inr ⟨g, o, cap, h1, h2, by omega, h4, h5, fun j hj => ?_, fun i hi => ?_⟩
    · rw [World.cell?_of_block (w := w) (a := ⟨g, o + j, none⟩) (hb g h2 h3), World.frozen?_of_block (w := w) (a := ⟨g, o + j, none⟩) (hb g h2 h3)]
      exact h6 j hj
    · rw [World.cell?_of_block (w := w) (a := ⟨g, o + i, none⟩) (hb g h2 h3)]
      exact h7 i hi

theorem QRow.keep {lo : Nat} {w w' : World} {v : Value} {q : List Nat} (h : QRow lo w v q) (hb : Below w.heap.size w w') : QRow lo w' v q := h.of_blocks hb.size fun g _ hg => hb.block g hg

theorem QRow.drewN {lo : Nat} {w : World} {v : Value} {q : List Nat} (h : QRow lo w v q) (n : Nat) : QRow lo (w.drewN n) v q := h

theorem QRow.put {lo : Nat} {w : World} {v : Value} {q : List Nat} (h : QRow lo w v q) {a : Addr} (ha : a.block < lo) (u : Value) : QRow lo (w.setCell a u) v q :=
  h.of_blocks (by simp) fun g hg _ => by exact heap_setCell_other w a g u (by omega)

/-- The first is taken. -/
theorem QRow.tail {lo : Nat} {w : World} {g o cap x : Nat} {q : List Nat} (h : QRow lo w (.slice (some ⟨g, o, none⟩) (q.length + 1) cap) (x :: q)) : QRow lo w (.slice (some ⟨g, o + 1, none⟩) q.length (cap - 1)) q := by
  rcases h with ⟨h, _⟩ | ⟨g', o', cap', h1, h2, h3, h4, h5, h6, h7⟩
  · cases h
  · cases h1
    simp only [List.length_cons] at h4 h7
    refine Or.inr ⟨g, o + 1, cap - 1, rfl, h2, h3, by omega, by omega, fun j hj => ?_, fun i hi => ?_⟩
    · have := h6 (j + 1) (by omega)
      rwa [show o + (j + 1) = o + 1 + j by omega] at this
    · have := h7 (i + 1) (by omega)
      rwa [show o + (i + 1) = o + 1 + i by omega, show (x :: q).getD (i + 1) 0 = q.getD i 0 from rfl] at this

theorem getD_snoc {q : List Nat} {y i : Nat} : (q ++ [y]).getD i 0 = if i < q.length then q.getD i 0 else if i = q.length then y else 0 := by
  simp only [List.getD_eq_getElem?_getD, List.getElem?_append]
  split
  · rfl
  · split
    · rename_i h; subst h; simp
    · rename_i h1 h2
      rw [show ([y] : List Nat)[i - q.length]? = none from List.getElem?_eq_none (by simp; omega)]
      rfl

theorem intV_one (y : Nat) : ∀ u ∈ [intV y], u.oneCell' = true := by
  intro u hu
  simp only [List.mem_singleton] at hu
  subst hu
  rfl

/-- One more behind: in the row, if there is room; else in a new one. -/
theorem run_put {P : Program} (w : World) (t ty e : TypeId) (i : TypeInfo) (ht : P.underlying t = some (.slice e)) (hi : P.info? e = some i) (hz : i.zero = some (.int .i64 0)) (hsize : i.size = 1) (hby : i.bytes = 8)
    {lo : Nat} {v : Value} {q : List Nat} (hq : QRow lo w v q) (ad : Addr) (y : Nat) (hy : w.cell? ad = some (intV y)) (hl : q.length ≤ 1000) (hlo : lo ≤ w.heap.size) :
    ∃ v' w', (Builtin.append_ #[t, t] ty #[v, .slice (some ad) 1 1]).run P w = .ok v' w' ∧ QRow lo w' v' (q ++ [y]) ∧ w.grownBy w' v.ownBlock := by
  have hnews : ∀ j u, [intV y][j]? = some u → w.cell? (ad.add j) = some u := by
    intro j u hj
    match j, hj with
    | 0, hj =>
      simp at hj
      subst hj
      rw [show ad.add 0 = ad from by cases ad; unfold Addr.add; split <;> simp_all]
      exact hy
  have hsrc : Src P i.size t (.slice (some ad) 1 1) 1 [intV y] w := by
    rw [hsize]
    exact Src.ofSlice w ht ad 1 1 [intV y] rfl hnews (intV_one y)
  have grow : ∀ (A : Option Addr) (n c : Nat), n = q.length → c < n + 1 → v = .slice A n c → (Builtin.firstCells i.size n (.slice A n c)).run P w.drew = .ok ((q.map intV).toArray) w.drew → ∃ v' w', (Builtin.append_ #[t, t] ty #[v, .slice (some ad) 1 1]).run P w = .ok v' w' ∧ QRow lo w' v' (q ++ [y]) ∧ w.grownBy w' v.ownBlock := by
    intro A n c hn hc hv hold
    subst hn
    subst hv
    have hfit : Builtin.nextslicecap (q.length + 1) c * i.bytes ≤ 281474976710656 := growslice_fits hc (by rw [hby]; omega)
    have hr := run_append_grow_src (P := P) w t t ty e i _ ht hi hz A q.length c (q.map intV) hold _ 1 [intV y] hsrc hc (by omega) hfit
    have hge := grownCap_ge w (q.length + 1) c e
    have hcm : grownCap w (q.length + 1) c e ≤ maxLen := grownCap_le_maxLen w (q.length + 1) c e (by unfold maxLen; omega)
    refine ⟨_, _, hr, Or.inr ⟨w.heap.size, 0, grownCap w (q.length + 1) c e, by simp, hlo, by simp, by simpa using hge, hcm, fun j hj => ?_, fun k hk => ?_⟩, ⟨rfl, rfl, rfl, by simp, fun k hk _ => heap_alloc_old w.drew _ hk⟩⟩
    · have hh := heap_alloc_new w.drew (.cells ((q.map intV ++ [intV y]).toArray ++ Builtin.zeroCells (Value.cells (.int .i64 0)) (grownCap w (q.length + 1) c e - (q.length + 1))) e)
      have hsz : ((q.map intV ++ [intV y]).toArray ++ Builtin.zeroCells (Value.cells (.int .i64 0)) (grownCap w (q.length + 1) c e - (q.length + 1))).size = grownCap w (q.length + 1) c e := by
        rw [Array.size_append, size_zeroCells]
        simp [Value.cells]
        omega
      constructor
      · rw [cell_of_row _ w.heap.size (0 + j) _ e (0, 0) hh]
        rw [Array.getElem?_eq_getElem (by rw [hsz]; omega)]
        rfl
      · exact frozen_of_row _ w.heap.size (0 + j) _ e hh
    · have hh := heap_alloc_new w.drew (.cells ((q.map intV ++ [intV y]).toArray ++ Builtin.zeroCells (Value.cells (.int .i64 0)) (grownCap w (q.length + 1) c e - (q.length + 1))) e)
      rw [cell_of_row _ w.heap.size (0 + k) _ e (0, 0) hh]
      rw [Nat.zero_add, Array.getElem?_append_left (by simpa using hk)]
      simp only [List.getElem?_toArray]
      rw [show q.map intV ++ [intV y] = (q ++ [y]).map intV by simp, List.getElem?_map, List.getElem?_eq_getElem hk, List.getD_eq_getElem?_getD, List.getElem?_eq_getElem hk]
      rfl
  rcases id hq with ⟨rfl, rfl⟩ | ⟨g, o, cap, hv, h2, h3, h4, h5, h6, h7⟩
  · exact grow none 0 0 rfl (by omega) rfl (by rw [run_firstCells_none]; rfl)
  · by_cases hroom : q.length + 1 ≤ cap
    · subst hv
      have hr := run_append_room_src (P := P) w t t ty e i ht hi g o q.length cap _ 1 [intV y] hsrc hroom (fun j hj => by
        rw [hsize, Nat.mul_one, Nat.add_assoc]
        exact (h6 (q.length + j) (by simp at hj; omega)).1) (fun j hj => by
        rw [hsize, Nat.mul_one, Nat.add_assoc]
        exact (h6 (q.length + j) (by simp at hj; omega)).2)
      rw [hsize, Nat.mul_one] at hr
      refine ⟨_, _, hr, Or.inr ⟨g, o, cap, by simp, h2, by simpa [World.setCells] using h3, by simpa using hroom, h5, fun j hj => ?_, fun k hk => ?_⟩, ⟨rfl, rfl, rfl, by simp [World.setCells], fun k hk hne => ?_⟩⟩
      · obtain ⟨a1, a2⟩ := h6 j hj
        refine ⟨?_, by simpa [World.setCells, go_sem] using a2⟩
        by_cases e1 : j = q.length
        · subst e1
          simp [World.setCells, go_sem, a1]
        · simp only [World.setCells]
          rw [World.cell?_setCell_other (h := by simp <;> omega)]
          exact a1
      · rw [getD_snoc]
        split
        · rename_i hlt
          simp only [World.setCells]
          rw [World.cell?_setCell_other (h := by simp <;> omega)]
          exact h7 k hlt
        · have e1 : k = q.length := by simp at hk; omega
          subst e1
          simp [World.setCells, go_sem, (h6 q.length (by omega)).1]
      · simp only [World.setCells]
        rw [heap_setCell_other _ _ _ _ (by simpa [Value.ownBlock] using hne)]
    · refine grow (some ⟨g, o, none⟩) q.length cap rfl (by omega) hv ?_
      rw [hsize]
      refine run_firstCells_some (P := P) w.drew 1 q.length ⟨g, o, none⟩ q.length cap (q.map intV) (by simp) fun j u hj => ?_
      rw [List.getElem?_map] at hj
      cases hqj : q[j]? with
      | none => rw [hqj] at hj; cases hj
      | some z =>
        rw [hqj] at hj
        simp at hj
        subst hj
        have hjl := (List.getElem?_eq_some_iff.1 hqj).1
        have := h7 j hjl
        rw [List.getD_eq_getElem?_getD, hqj] at this
        rw [show (⟨g, o, none⟩ : Addr).add j = ⟨g, o + j, none⟩ from by unfold Addr.add; split <;> simp_all]
        exact this

/-- At the list of a plain region's operations. -/
theorem wpList_append_q {P : Program} (w : World) {ops : Array Oper} {rest : List Oper} {o : Oper} {a : Act} {Q : Exit → Act → World → Prop} (hgd : o.guard = none) (s x : Operand) (t : TypeId)
    (ho : o.op = .call { callee := .builtin .append, args := #[s, x], argTypes := #[t, t] })
    (e : TypeId) (i : TypeInfo) (ht : P.underlying t = some (.slice e)) (hi : P.info? e = some i) (hz : i.zero = some (.int .i64 0)) (hsize : i.size = 1) (hby : i.bytes = 8)
    {lo : Nat} (v : Value) (q : List Nat) (hs : a.eval s = v) (hq : QRow lo w v q)
    (ad : Addr) (y : Nat) (hx : a.eval x = .slice (some ad) 1 1) (hy : w.cell? ad = some (intV y)) (hl : q.length ≤ 1000) (hlo : lo ≤ w.heap.size)
    (h : ∀ v' w', QRow lo w' v' (q ++ [y]) → w.grownBy w' v.ownBlock → wpList P ops Q rest (a.put o.dst v') w') : wpList P ops Q (o :: rest) a w :=
  wpList_plain hgd fun _ hK => by
    obtain ⟨v', w', hr, h2, h3⟩ := run_put (P := P) w t o.type e i ht hi hz hsize hby hq ad y hy hl hlo
    unfold Oper.wp execOp
    simp only [ho, resolve, invoke, builtin, Sem.run_bind, Sem.run_pure, Result.andThen_ok, List.map_toArray, List.map_cons, List.map_nil, hs, hx, hr]
    exact hK _ _ (h v' w' h2 h3)
end Go.Proofs.Ythaiiegofofnmaa
