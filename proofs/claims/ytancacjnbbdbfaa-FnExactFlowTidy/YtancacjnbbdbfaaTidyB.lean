/- How long a tidy program is. -/
import Derived.Test.YtancacjnbbdbfaaSpecTidyM
namespace Go.Proofs.Ytancacjnbbdbfaa
open Go.RowKit

theorem TidyOr.bound {ss ts : List St} {b : Bool} (h : TidyOr ss ts b) : ts.length ≤ 1000 ∧ ∀ s ∈ ts, s.next.length ≤ 1000 := by
  rcases h with ⟨_, rfl, _⟩ | ⟨_, rs, _, _, rfl, h3⟩
  · exact ⟨by simp, by simp⟩
  · exact ⟨Nat.le_trans (ok_len h3).2 (by decide), fun s hs => Nat.le_trans ((ok_fitN h3).1 s hs) (by decide)⟩
end Go.Proofs.Ytancacjnbbdbfaa
