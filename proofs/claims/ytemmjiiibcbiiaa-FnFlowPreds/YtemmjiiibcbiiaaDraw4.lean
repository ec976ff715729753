/- The model's drawing of a program. -/
import Derived.Test.YtemmjiiibcbiiaaDraw3
import Derived.Deep.AppendLies
import Derived.Deep.RegionLaw
namespace Go.Proofs.Ytemmjiiibcbiiaa
open Go.RowKit

/-- Steps in memory, all of it in blocks from lo on; lists, if nil, without room. -/
def StepsNF (lo : Nat) (w : World) (v : Value) (ss : List St) : Prop :=
  ∃ ao b o cap, v = .slice ao ss.length cap ∧ (0 < ss.length → ao = some ⟨b, o, none⟩) ∧ lo ≤ b ∧
    ∀ (i : Nat) (s : St), ss[i]? = some s → ∃ nv, StepCells w b (o + i * 8) s nv ∧ IntsFrom lo w nv s.next ∧ Nice nv

theorem StepsNF.n {lo : Nat} {w : World} {v : Value} {ss : List St} (h : StepsNF lo w v ss) : StepsN w v ss := by
  obtain ⟨ao, b, o, cap, hv, ha, _, hc⟩ := h
  refine ⟨ao, b, o, cap, hv, ha, fun i s hs => ?_⟩
  obtain ⟨nv, h1, h2, h3⟩ := hc i s hs
  exact ⟨nv, h1, h2.at, h3⟩

theorem StepsNF.ex {lo rb : Nat} {w w' : World} {v : Value} {ss : List St} (h : StepsNF lo w v ss) (hx : Ex rb w w') (hr : rb < lo) : StepsNF lo w' v ss := by
  obtain ⟨ao, b, o, cap, hv, ha, hb, hc⟩ := h
  refine ⟨ao, b, o, cap, hv, ha, hb, fun i s hs => ?_⟩
  obtain ⟨nv, h1, h2, h3⟩ := hc i s hs
  exact ⟨nv, h1.ex hx (by omega), h2.ex hx hr, h3⟩

/-- The eight cells of a step, as a list. -/
def cells8D (s : St) (nv : Value) : List Value := [.int .i64 s.kind, .int .i64 s.dst, .int .i64 s.op, .int .i64 s.av, .int .i64 s.an, .int .i64 s.bv, .int .i64 s.bn, nv]

/-- What has been drawn: a row of steps, and lists that lie in none of its cells. -/
def DrawnL (lo : Nat) (w : World) (ov : Value) (xs : List Value) (ss : List St) : Prop :=
  ∀ (i : Nat) (s : St), ss[i]? = some s → ∃ nv b, (∀ j u, (cells8D s nv)[j]? = some u → xs[i * 8 + j]? = some u) ∧ (∃ ao o cap, nv = .slice ao s.next.length cap ∧ (0 < s.next.length → ao = some ⟨b, o, none⟩ ∧ lo ≤ b ∧ b < w.heap.size ∧ ov.ownBlock ≠ some b ∧ ∀ t, t < s.next.length → w.cell? ⟨b, o + t, none⟩ = some (.int .i64 (s.next.getD t 0)))) ∧ Nice nv

theorem DrawnL.keep {lo : Nat} {w w' : World} {ov : Value} {xs : List Value} {ss : List St} (h : DrawnL lo w ov xs ss) (hs : w.heap.size ≤ w'.heap.size) (hc : ∀ (p : Addr) (v : Value), w.cell? p = some v → lo ≤ p.block → ov.ownBlock ≠ some p.block → w'.cell? p = some v) : DrawnL lo w' ov xs ss := by
  intro i s hsi
  obtain ⟨nv, b, h1, ⟨ao, o, cap, h2, h3⟩, h4⟩ := h i s hsi
  refine ⟨nv, b, h1, ⟨ao, o, cap, h2, fun hp => ?_⟩, h4⟩
  obtain ⟨a1, a2, a3, a4, a5⟩ := h3 hp
  exact ⟨a1, a2, by omega, a4, fun t ht => hc _ _ (a5 t ht) a2 a4⟩

theorem DrawnL.snoc {lo H g n c : Nat} {w w' : World} {ov : Value} {xs : List Value} {ss : List St} {s : St} {nv : Value} (h : DrawnL lo w ov xs ss) (hxl : xs.length = ss.length * 8) (hI : IntsFrom lo w nv s.next) (hlt : ∀ (b o : Nat) (cap : Nat), nv = .slice (some ⟨b, o, none⟩) s.next.length cap → 0 < s.next.length → b < w.heap.size ∧ ov.ownBlock ≠ some b) (hN : Nice nv)
    (hH : H = w.heap.size) (hs : w.heap.size ≤ w'.heap.size) (hat : ov.ownBlock = some g ∨ H ≤ g) (hc : ∀ (p : Addr) (v : Value), w.cell? p = some v → ov.ownBlock ≠ some p.block → w'.cell? p = some v) : DrawnL lo w' (.slice (some ⟨g, 0, none⟩) n c) (xs ++ cells8D s nv) (ss ++ [s]) := by
  have hne : ∀ b, b < w.heap.size → ov.ownBlock ≠ some b → (Value.slice (some ⟨g, 0, none⟩) n c).ownBlock ≠ some b := by
    intro b hb hn e
    simp [Value.ownBlock] at e
    subst e
    rcases hat with a | a
    · exact hn a
    · omega
  intro i t ht
  by_cases hi : i < ss.length
  · rw [List.getElem?_append_left hi] at ht
    obtain ⟨mv, b, h1, ⟨ao, o, cap, h2, h3⟩, h4⟩ := h i t ht
    refine ⟨mv, b, fun j u hu => ?_, ⟨ao, o, cap, h2, fun hp => ?_⟩, h4⟩
    · have hj : j < 8 := by have := (List.getElem?_eq_some_iff.1 hu).1; simpa [cells8D] using this
      rw [List.getElem?_append_left (by omega)]
      exact h1 j u hu
    · obtain ⟨a1, a2, a3, a4, a5⟩ := h3 hp
      exact ⟨a1, a2, by omega, hne b a3 a4, fun q hq => hc _ _ (a5 q hq) a4⟩
  · have l := (List.getElem?_eq_some_iff.1 ht).1
    simp at l
    have e : i = ss.length := by omega
    subst e
    simp at ht
    subst ht
    obtain ⟨ao, b, o, cap, h1, h2, h3, h4⟩ := hI
    refine ⟨nv, b, fun j u hu => ?_, ⟨ao, o, cap, h1, fun hp => ?_⟩, hN⟩
    · rw [List.getElem?_append_right (by omega), hxl]
      rwa [show ss.length * 8 + j - ss.length * 8 = j by omega]
    · have hao := h2 hp
      rw [hao] at h1
      obtain ⟨b1, b2⟩ := hlt b o cap h1 hp
      exact ⟨hao, h3, by omega, hne b b1 b2, fun q hq => hc _ _ (h4 q hq) b2⟩

theorem DrawnL.steps {lo : Nat} {w : World} {ov : Value} {xs : List Value} {ss : List St} (h : DrawnL lo w ov xs ss) (hrow : w.ownsRow lo 60 8 ov ss.length xs) : StepsNF lo w ov ss := by
  rcases id hrow.2 with ⟨e, e2⟩ | ⟨g, cap, cur, e, hg, _⟩
  · refine ⟨none, lo, 0, 0, by rw [e2]; exact e, fun hp => by omega, Nat.le_refl _, fun i s hs => ?_⟩
    have := (List.getElem?_eq_some_iff.1 hs).1
    omega
  · refine ⟨_, g, 0, cap, e, fun _ => rfl, hg, fun i s hs => ?_⟩
    have hi := (List.getElem?_eq_some_iff.1 hs).1
    obtain ⟨nv, b, h1, ⟨ao, o, cap2, h2, h3⟩, h4⟩ := h i s hs
    rw [e] at hrow
    have rd : ∀ j u, (cells8D s nv)[j]? = some u → w.cell? ⟨g, i * 8 + j, none⟩ = some u := fun j u hu => by
      have hj : j < 8 := by have := (List.getElem?_eq_some_iff.1 hu).1; simpa [cells8D] using this
      rw [hrow.cellAt _ (by omega)]
      exact h1 j u hu
    refine ⟨nv, ?_, ?_, h4⟩
    · rw [Nat.zero_add]
      exact ⟨rd 0 _ rfl, rd 1 _ rfl, rd 2 _ rfl, rd 3 _ rfl, rd 4 _ rfl, rd 5 _ rfl, rd 6 _ rfl, rd 7 _ rfl⟩
    · by_cases hp : 0 < s.next.length
      · obtain ⟨a1, a2, a3, a4, a5⟩ := h3 hp
        exact ⟨ao, b, o, cap2, h2, fun _ => a1, a2, a5⟩
      · exact ⟨ao, lo, o, cap2, h2, fun h => absurd h hp, Nat.le_refl _, fun q hq => by omega⟩
end Go.Proofs.Ytemmjiiibcbiiaa
