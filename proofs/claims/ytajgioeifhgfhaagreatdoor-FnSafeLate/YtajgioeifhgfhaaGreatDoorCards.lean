/-
  DERIVED. GIVEN WITH THE SEED: THE CARDS: each row of YtajgioeifhgfhaaGreatDoorRows.lean that lists a variable, with what it lists TIED to the program's text (the seventh form; the later family's looks); each row that meets fmt, with fmt's text TOLD by the authors' own Lean function (tested against real Go, not proved from fmt's source: count such statements apart). THE CARD IS WHAT COUNTS. Prove the row's statement (the work); the ties are given (YtajgioeifhgfhaaGreatDoorTie.lean); close each card by the builder's one call (the guide's Derived/Test/ToyasCard.lean, 'card_holds'). Laid BY PROGRAM, IN A SANDBOX (cutbox-door.mjs). By AI agents, Wed Nov 11 2026. No macro, syntax, notation, axiom, sorry.
-/
import Derived.Test.YtajgioeifhgfhaaGreatDoorRows
import GoSem.ClaimSeven
namespace Go.Proofs.YtajgioeifhgfhaaGreatDoor
namespace Rows

/-- THE TIED CARD OF 'laws.FnSafeLate'. -/
def fnSafeLateCard : Claim7 := { stood := { row := fnSafeLateRow, standIns := [], harness := (true, "745fd6c5e43cf24a92e673131c3536de0a46631f313a9b3e3c257515237520a7"), looks := false }, kinds := [], alts := [], laidByText := true, laidKinds := [.data], laidTests := true, laidLooks := .later }
def FnSafeLateCardSaid : Prop := Claim7.holds Tryz.pinned (.plain (OpenSpec.ofChange fnSafeLateSpec)) fnSafeLateCard

/-- THE SECOND FORM's CARD OF 'laws.FnSafeLate'. -/
def fnSafeLateUptoCard : Claim7 := { stood := { row := fnSafeLateUptoRow, standIns := [], harness := (true, "745fd6c5e43cf24a92e673131c3536de0a46631f313a9b3e3c257515237520a7"), looks := false }, kinds := [], alts := [], laidByText := true, laidKinds := [.data], laidTests := true, laidLooks := .later }
def FnSafeLateUptoCardSaid : Prop := Claim7.holds Tryz.pinned (.plain (OpenSpec.upto fnSafeLateSpec)) fnSafeLateUptoCard
end Rows
end Go.Proofs.YtajgioeifhgfhaaGreatDoor
