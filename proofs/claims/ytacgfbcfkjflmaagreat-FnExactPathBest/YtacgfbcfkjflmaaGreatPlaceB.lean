/- A way of moving in its box; rows of moves. -/
import Derived.Test.YtacgfbcfkjflmaaGreatAnsBeG
import Derived.Test.YtacgfbcfkjflmaaGreatBaseG
import Derived.Test.YtacgfbcfkjflmaaGreatSpecSS
namespace Go.Proofs.YtacgfbcfkjflmaaGreat
open Go.RowKit

theorem PlaceO.nil (lo hi : Nat) (w : World) : PlaceO lo hi w (.agg #[.slice none 0 0, .slice none 0 0]) [] [] :=
  ⟨_, _, rfl, ⟨World.ownsRow_nil _ _ _ _, fun k hk => by simp [Value.ownBlock] at hk⟩, ⟨World.ownsRow_nil _ _ _ _, fun k hk => by simp [Value.ownBlock] at hk⟩, fun k hk => by simp [Value.ownBlock] at hk⟩

end Go.Proofs.YtacgfbcfkjflmaaGreat
