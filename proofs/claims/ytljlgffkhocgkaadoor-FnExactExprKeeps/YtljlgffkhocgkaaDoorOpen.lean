/- An argument of the laws' own type Prog, opened: a slice of steps in memory, told by a list. -/
import Derived.Test.YtljlgffkhocgkaaDoorBase
import Derived.Test.YtljlgffkhocgkaaDoorChecked
import Derived.ProofKit
import Derived.Deep.Slices
import Derived.Lib.SmallJoins
namespace Go.Proofs.YtljlgffkhocgkaaDoor
open Go.RowKit Go.ChangeShapes Go.WideShapes Go.ChangeAt

theorem cellsInt : Tryd.prog.cellsOf 3 = 1 := by kernel_rfl
theorem cellsInts : Tryd.prog.cellsOf 55 = 1 := by kernel_rfl
theorem cellsOpnd : Tryd.prog.cellsOf 26 = 2 := by kernel_rfl
theorem cellsStep : Tryd.prog.cellsOf 89 = 8 := by kernel_rfl
theorem cellsSteps : Tryd.prog.cellsOf 22 = 1 := by kernel_rfl
theorem cellsProg : Tryd.prog.cellsOf 24 = 1 := by kernel_rfl

section
variable {H : Type} {enc : TypeId × Value → H} {w : World} {base : Nat} {spare : Nat → Bool} {held : Bool}

theorem open_next {fuel : Nat} {cs : List Value} {x : DataW H × List MemPlace} (h : DataW.trod enc Tryd.prog w base spare held fuel 55 cs = some x) :
    ∃ nv zs, cs = [nv] ∧ IntsAt w nv zs ∧ zs.length ≤ 9223372036854775807 := by
  rcases open_ints Tryd.underlying55 Tryd.underlying3 cellsInt h with ⟨hcs, _⟩ | ⟨a, len, cap, zs, hcs, _, hl, hm, hz, _, hcell, _⟩
  · exact ⟨_, [], hcs, ⟨none, 0, 0, 0, rfl, fun h => absurd h (by simp), fun i hi => absurd hi (by simp)⟩, by simp⟩
  · have hzl : len ≤ zs.length := by rw [hz]; split <;> omega
    have hlen : (zs.take len).length = len := by simp [hzl]
    refine ⟨_, zs.take len, hcs, ?_, by rw [hlen]; unfold maxLen at hm; omega⟩
    obtain ⟨b, o, spot⟩ := a
    refine ⟨some ⟨b, o, spot⟩, b, o, cap, by rw [hlen], fun hp => ?_, fun i hi => ?_⟩
    · have hspot : spot = none := by simpa [Addr.add] using World.cell?_spot (hcell 0 (by omega))
      rw [hspot]
    · rw [hlen] at hi
      have hspot : spot = none := by simpa [Addr.add] using World.cell?_spot (hcell 0 (by omega))
      subst hspot
      have := hcell i (by omega)
      rw [Go.WideShapes.add_plain] at this
      rw [this]
      simp [List.getD_eq_getElem?_getD, hi]

set_option maxRecDepth 100000 in
theorem open_opnd {fuel : Nat} {cs : List Value} {x : DataW H × List MemPlace} (h : DataW.trod enc Tryd.prog w base spare held fuel 26 cs = some x) :
    ∃ a n, cs = [.int .i64 a, .int .i64 n] := by
  obtain ⟨xs, m, _, _, hlen, hxs, hf⟩ := DataW.trod_struct Tryd.underlying26 h
  rw [cellsOpnd] at hlen
  match cs, hlen with
  | [c0, c1], _ =>
    have h0 : DataW.trod enc Tryd.prog w base spare held m 3 (([c0, c1].drop 0).take (Tryd.prog.cellsOf 3)) = xs[0]? := hf 0 _ rfl
    have h1 : DataW.trod enc Tryd.prog w base spare held m 3 (([c0, c1].drop 1).take (Tryd.prog.cellsOf 3)) = xs[1]? := hf 1 _ rfl
    simp only [cellsInt, List.drop_zero, List.drop_succ_cons, List.take_succ_cons, List.take_zero] at h0 h1
    rw [List.getElem?_eq_getElem (by rw [hxs]; simp)] at h0 h1
    obtain ⟨a, e0, _⟩ := DataW.trod_int Tryd.underlying3 h0
    obtain ⟨n, e1, _⟩ := DataW.trod_int Tryd.underlying3 h1
    simp at e0 e1
    exact ⟨a, n, by rw [e0, e1]⟩

set_option maxRecDepth 100000 in
theorem open_step {fuel : Nat} {cs : List Value} {x : DataW H × List MemPlace} (h : DataW.trod enc Tryd.prog w base spare held fuel 89 cs = some x) :
    ∃ (s : St) (nv : Value), cs = [.int .i64 s.kind, .int .i64 s.dst, .int .i64 s.op, .int .i64 s.av, .int .i64 s.an, .int .i64 s.bv, .int .i64 s.bn, nv] ∧ IntsAt w nv s.next ∧ s.next.length ≤ 9223372036854775807 := by
  obtain ⟨xs, m, _, _, hlen, hxs, hf⟩ := DataW.trod_struct Tryd.underlying89 h
  rw [cellsStep] at hlen
  match cs, hlen with
  | [c0, c1, c2, c3, c4, c5, c6, c7], _ =>
    have h0 : DataW.trod enc Tryd.prog w base spare held m 3 (([c0, c1, c2, c3, c4, c5, c6, c7].drop 0).take (Tryd.prog.cellsOf 3)) = xs[0]? := hf 0 _ rfl
    have h1 : DataW.trod enc Tryd.prog w base spare held m 3 (([c0, c1, c2, c3, c4, c5, c6, c7].drop 1).take (Tryd.prog.cellsOf 3)) = xs[1]? := hf 1 _ rfl
    have h2 : DataW.trod enc Tryd.prog w base spare held m 3 (([c0, c1, c2, c3, c4, c5, c6, c7].drop 2).take (Tryd.prog.cellsOf 3)) = xs[2]? := hf 2 _ rfl
    have h3 : DataW.trod enc Tryd.prog w base spare held m 26 (([c0, c1, c2, c3, c4, c5, c6, c7].drop 3).take (Tryd.prog.cellsOf 26)) = xs[3]? := hf 3 _ rfl
    have h4 : DataW.trod enc Tryd.prog w base spare held m 26 (([c0, c1, c2, c3, c4, c5, c6, c7].drop 5).take (Tryd.prog.cellsOf 26)) = xs[4]? := hf 4 _ rfl
    have h5 : DataW.trod enc Tryd.prog w base spare held m 55 (([c0, c1, c2, c3, c4, c5, c6, c7].drop 7).take (Tryd.prog.cellsOf 55)) = xs[5]? := hf 5 _ rfl
    simp only [cellsInt, cellsOpnd, cellsInts, List.drop_zero, List.drop_succ_cons, List.take_succ_cons, List.take_zero] at h0 h1 h2 h3 h4 h5
    rw [List.getElem?_eq_getElem (by rw [hxs]; simp)] at h0 h1 h2 h3 h4 h5
    obtain ⟨kind, e0, _⟩ := DataW.trod_int Tryd.underlying3 h0
    obtain ⟨dst, e1, _⟩ := DataW.trod_int Tryd.underlying3 h1
    obtain ⟨op, e2, _⟩ := DataW.trod_int Tryd.underlying3 h2
    obtain ⟨av, an, e3⟩ := open_opnd h3
    obtain ⟨bv, bn, e4⟩ := open_opnd h4
    obtain ⟨nv, zs, e5, hi, hz⟩ := open_next h5
    simp at e0 e1 e2 e3 e4 e5
    refine ⟨⟨kind, dst, op, av, an, bv, bn, zs⟩, nv, ?_, hi, hz⟩
    rw [e0, e1, e2, e3.1, e3.2, e4.1, e4.2, e5]

set_option maxRecDepth 100000 in
theorem open_steps {fuel : Nat} {cs : List Value} {x : DataW H × List MemPlace} (h : DataW.trod enc Tryd.prog w base spare held fuel 22 cs = some x) :
    ∃ (v : Value) (ss : List St), cs = [v] ∧ StepsAt w v ss ∧ ss.length ≤ 9223372036854775807 ∧ ∀ s ∈ ss, s.next.length ≤ 9223372036854775807 := by
  rcases Deep.open_slice Tryd.underlying22 h with ⟨hcs, _⟩ | ⟨a, len, cap, m, n, D, Pl, hcs, _, hl, hm, hmm, _, hel⟩
  · exact ⟨_, [], hcs, ⟨none, 0, 0, 0, rfl, fun h => absurd h (by simp), fun i s hs => absurd hs (by simp)⟩, by simp, by simp⟩
  · have hml : len ≤ m := by rw [hmm]; split <;> omega
    have he : ∀ i, i < len → ∃ s : St, (∃ nv, (∀ j, j < 8 → w.cell? ((a.add (i * 8)).add j) = ([.int .i64 s.kind, .int .i64 s.dst, .int .i64 s.op, .int .i64 s.av, .int .i64 s.an, .int .i64 s.bv, .int .i64 s.bn, nv] : List Value)[j]?) ∧ IntsAt w nv s.next) ∧ s.next.length ≤ 9223372036854775807 := by
      intro i hi
      obtain ⟨cs', hc, ht⟩ := hel i (by omega)
      obtain ⟨s, nv, hcs', hi', hz⟩ := open_step ht
      rw [cellsStep] at hc
      obtain ⟨_, _, hcell⟩ := World.cells?_some hc
      subst hcs'
      exact ⟨s, ⟨nv, hcell, hi'⟩, hz⟩
    have : Inhabited St := ⟨⟨0, 0, 0, 0, 0, 0, 0, []⟩⟩
    obtain ⟨f, hf⟩ := Deep.choose_lt he
    have hlen : ((List.range len).map f).length = len := by simp
    obtain ⟨b, o, spot⟩ := a
    have hspot : 0 < len → spot = none := by
      intro hp
      obtain ⟨⟨nv, hc, _⟩, _⟩ := hf 0 hp
      have h0 := hc 0 (by omega)
      simpa [Addr.add] using World.cell?_spot h0
    refine ⟨_, (List.range len).map f, hcs, ⟨some ⟨b, o, spot⟩, b, o, cap, by rw [hlen], fun hp => by rw [hspot (by omega)], fun i s hs => ?_⟩, by rw [hlen]; unfold maxLen at hm; omega, fun s hs => ?_⟩
    · have hi : i < len := by
        obtain ⟨hlt, _⟩ := List.getElem?_eq_some_iff.1 hs
        omega
      have hsp := hspot (by omega)
      subst hsp
      simp [hi] at hs
      subst hs
      obtain ⟨⟨nv, hc, hint⟩, _⟩ := hf i hi
      refine ⟨nv, ?_, hint⟩
      have hc' : ∀ j, j < 8 → w.cell? ⟨b, o + i * 8 + j, none⟩ = ([.int .i64 (f i).kind, .int .i64 (f i).dst, .int .i64 (f i).op, .int .i64 (f i).av, .int .i64 (f i).an, .int .i64 (f i).bv, .int .i64 (f i).bn, nv] : List Value)[j]? := by
        intro j hj
        have := hc j hj
        rw [Go.WideShapes.add_plain, Go.WideShapes.add_plain] at this
        exact this
      exact ⟨hc' 0 (by omega), hc' 1 (by omega), hc' 2 (by omega), hc' 3 (by omega), hc' 4 (by omega), hc' 5 (by omega), hc' 6 (by omega), hc' 7 (by omega)⟩
    · simp at hs
      obtain ⟨i, hi, rfl⟩ := hs
      exact (hf i hi).2

set_option maxRecDepth 100000 in
theorem open_prog {r : Reach} {b0 : Nat} {v : Value} {d : DataW H} {p : List MemPlace} (hv : Value.okWide Tryd.prog w r b0 24 v) (h : DataW.Trod enc Tryd.prog w base spare held 24 v d p) :
    ∃ (u : Value) (ss : List St), v = .agg #[u] ∧ StepsAt w u ss ∧ ss.length ≤ 9223372036854775807 ∧ ∀ s ∈ ss, s.next.length ≤ 9223372036854775807 := by
  obtain ⟨cs, rfl, hsz⟩ := okWide_struct Tryd.underlying24 hv
  rw [cellsProg] at hsz
  obtain ⟨fuel, hf⟩ := h
  obtain ⟨xs, m, _, _, _, hxs, hff⟩ := DataW.trod_struct Tryd.underlying24 hf
  match cs, hsz with
  | ⟨[c0]⟩, _ =>
    have h0 : DataW.trod enc Tryd.prog w base spare held m 22 (([c0].drop 0).take (Tryd.prog.cellsOf 22)) = xs[0]? := hff 0 _ rfl
    simp only [cellsSteps, List.drop_zero, List.take_succ_cons, List.take_zero] at h0
    rw [List.getElem?_eq_getElem (by rw [hxs]; simp)] at h0
    obtain ⟨u, ss, e, hs, hl, hls⟩ := open_steps h0
    simp at e
    exact ⟨u, ss, by rw [e], hs, hl, hls⟩
end
end Go.Proofs.YtljlgffkhocgkaaDoor
