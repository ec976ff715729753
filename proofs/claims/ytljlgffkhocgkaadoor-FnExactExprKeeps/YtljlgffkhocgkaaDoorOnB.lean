/- Which places are in a list of places. -/
import Derived.Test.YtljlgffkhocgkaaDoorKit
namespace Go.Proofs.YtljlgffkhocgkaaDoor

def onB {N : Nat} (pre : List (Fin N)) (j : Nat) : Bool := pre.any (fun k => decide (k.1 = j))

theorem onB_snoc {N : Nat} (pre : List (Fin N)) (x : Fin N) (j : Nat) : onB (pre ++ [x]) j = if j = x.1 then true else onB pre j := by
  unfold onB
  rw [List.any_append]
  by_cases e : j = x.1
  · simp [e]
  · have : ¬ x.1 = j := fun h => e h.symm
    simp [e, this]

theorem onB_mem {N : Nat} {pre : List (Fin N)} {j : Nat} : onB pre j = true ↔ ∃ k ∈ pre, k.1 = j := by
  simp [onB]
end Go.Proofs.YtljlgffkhocgkaaDoor
