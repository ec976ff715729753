/- Rows of rows of ints: what an append wants of them. -/
import Derived.Test.YtljlgffkhocgkaaDoorPreds
import Derived.Test.YtljlgffkhocgkaaDoorRowsO
import Derived.Test.YtljlgffkhocgkaaDoorOwnK
import Derived.Test.YtljlgffkhocgkaaDoorChecked
import Derived.Deep.AppendLies
namespace Go.Proofs.YtljlgffkhocgkaaDoor
open Go.RowKit

theorem infoInts2 : (Tryd.prog.info? 55).map (fun i => (i.zero, i.size, i.bytes)) = some (some (.slice none 0 0), 1, 24) := by kernel_rfl

theorem slice_int_one (A : Option Addr) (n c : Nat) : ∀ u ∈ [Value.slice A n c], u.oneCell' = true := by
  intro u hu; simp at hu; subst hu; rfl

theorem own_slice1 {w : World} {base n : Nat} {e : TypeId} {v : Value} {xs : List Value} (h : w.ownsRow base e 1 v n xs) (hn : 0 < n) : ∃ g cap, v = .slice (some ⟨g, 0, none⟩) n cap ∧ base ≤ g ∧ g < w.heap.size ∧ n ≤ cap ∧ (∀ i, i < n → w.cell? ⟨g, i, none⟩ = xs[i]?) ∧ ∀ i, w.frozen? ⟨g, i, none⟩ = false := by
  rcases id h.2 with ⟨_, h0⟩ | ⟨g, cap, cur, hv, hg, _, hc, _⟩
  · omega
  · subst hv
    exact ⟨g, cap, rfl, hg, (h.lt _ rfl).2, hc, fun i hi => h.cellAt i (by omega), fun i => h.frozenAt i⟩
end Go.Proofs.YtljlgffkhocgkaaDoor
