/- Steps in memory whose lists, if nil, have no room. -/
import Derived.Test.YtemmjiiibcbiiaaBase
namespace Go.Proofs.Ytemmjiiibcbiiaa
open Go.RowKit

/-- A nil list has no room. -/
def Nice (v : Value) : Prop := ∀ n c, v = .slice none n c → n = 0 ∧ c = 0

theorem nice_some (a : Addr) (n c : Nat) : Nice (.slice (some a) n c) := fun _ _ e => by cases e

theorem nice_none : Nice (.slice none 0 0) := fun _ _ e => by cases e; exact ⟨rfl, rfl⟩

/-- Steps in memory whose lists, if nil, have no room. -/
def StepsN (w : World) (v : Value) (ss : List St) : Prop :=
  ∃ ao b o cap, v = .slice ao ss.length cap ∧ (0 < ss.length → ao = some ⟨b, o, none⟩) ∧
    ∀ (i : Nat) (s : St), ss[i]? = some s → ∃ nv, StepCells w b (o + i * 8) s nv ∧ IntsAt w nv s.next ∧ Nice nv

theorem StepsN.at {w : World} {v : Value} {ss : List St} (h : StepsN w v ss) : StepsAt w v ss := by
  obtain ⟨ao, b, o, cap, hv, ha, hc⟩ := h
  refine ⟨ao, b, o, cap, hv, ha, fun i s hs => ?_⟩
  obtain ⟨nv, h1, h2, _⟩ := hc i s hs
  exact ⟨nv, h1, h2⟩

theorem StepsN.keep {w w' : World} {v : Value} {ss : List St} (h : StepsN w v ss) (hb : Below w.heap.size w w') : StepsN w' v ss := by
  obtain ⟨ao, b, o, cap, hv, ha, hc⟩ := h
  refine ⟨ao, b, o, cap, hv, ha, fun i s hs => ?_⟩
  obtain ⟨nv, h1, h2, h3⟩ := hc i s hs
  exact ⟨nv, h1.keep hb, h2.keep hb, h3⟩

end Go.Proofs.Ytemmjiiibcbiiaa
