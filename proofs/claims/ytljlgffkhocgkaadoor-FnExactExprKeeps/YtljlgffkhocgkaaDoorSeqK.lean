/- What a range over a function needs: library texts, and blocks that a round leaves as they are. -/
import Derived.RangeFuncNested
import Derived.RangeFuncBound
import Derived.RangeFuncCalls
import Derived.RangeFuncLeaves
import Derived.RangeFuncFrom
import Derived.Shelf.Abstract
import Derived.Shelf.RegionOpen
import Derived.OwnWalkIn
import Derived.TacticsInMore
import Derived.LoopNIn
import Derived.LoopIn
import Derived.Test.YtljlgffkhocgkaaDoorKit
namespace Go.Proofs.YtljlgffkhocgkaaDoor
open Go.RowKit Go.Shelf

/-- Blocks that a round leaves as they are. -/
def Kp2 (a b : Nat) (W W' : World) : Prop := W'.heap[a]? = W.heap[a]? ∧ W'.heap[b]? = W.heap[b]?

theorem Kp2.t {a b : Nat} {A B C : World} (h : Kp2 a b A B) (k : Kp2 a b B C) : Kp2 a b A C := ⟨k.1.trans h.1, k.2.trans h.2⟩

theorem Kp2.b {a b : Nat} {w : World} (ha : a < w.heap.size) (hb : b < w.heap.size) (W : World) (l : Nat) (o o' : Obj) (hl : w.heap.size ≤ l) (h : W.heap[l]? = some o) (_ : o.isCells = false) (_ : o.isWalk = false) : Kp2 a b W (W.putObj l o') := by
  have h1 := grownBy_putObj' W l o'
  have hlt := (Array.getElem?_eq_some_iff.1 h).1
  exact ⟨h1.block a (by omega) (fun e => by cases e; omega), h1.block b (by omega) (fun e => by cases e; omega)⟩

theorem Kp2.refl (a b : Nat) (W : World) : Kp2 a b W W := ⟨rfl, rfl⟩

end Go.Proofs.YtljlgffkhocgkaaDoor
