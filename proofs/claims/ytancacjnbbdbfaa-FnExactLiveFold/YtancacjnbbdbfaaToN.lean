/- A program that was made by toProg: its lists, if nil, have no room. -/
import Derived.Test.YtancacjnbbdbfaaTo
import Derived.Test.YtancacjnbbdbfaaNiceOwn
namespace Go.Proofs.Ytancacjnbbdbfaa
open Go.RowKit

theorem StepsOwn.n {lo : Nat} {w : World} {v : Value} {ss : List St} (h : StepsOwn lo w v ss) : StepsN w v ss := by
  obtain ⟨b, f, hv, hlo, hr, hall⟩ := h
  refine ⟨_, b, 0, _, hv, fun _ => rfl, fun i s hs => ?_⟩
  obtain ⟨hlt, _⟩ := List.getElem?_eq_some_iff.1 hs
  obtain ⟨nv, hf, hi⟩ := hall i s hs
  have hsc := hf.cells hr (by omega)
  refine ⟨nv, by simpa using hsc, hi.from.at, ?_⟩
  obtain ⟨b2, e, _⟩ := hi
  rw [e]
  exact nice_some _ _ _
end Go.Proofs.Ytancacjnbbdbfaa
