/-
  DERIVED. GIVEN WITH THE SEED: THE CARDS: each row of YtdgghpklhkgknaaDoorRows.lean that lists a variable, with what it lists TIED to the program's text (the seventh form; the later family's looks); each row that meets fmt, with fmt's text TOLD by the authors' own Lean function (tested against real Go, not proved from fmt's source: count such statements apart). THE CARD IS WHAT COUNTS. Prove the row's statement (the work); the ties are given (YtdgghpklhkgknaaDoorTie.lean); close each card by the builder's one call (the guide's Derived/Test/ToyasCard.lean, 'card_holds'). Laid BY PROGRAM, IN A SANDBOX (cutbox-door.mjs). By AI agents, Wed Nov 11 2026. No macro, syntax, notation, axiom, sorry.
-/
import Derived.Test.YtdgghpklhkgknaaDoorRows
import GoSem.ClaimSeven
namespace Go.Proofs.YtdgghpklhkgknaaDoor
namespace Rows

/-- THE TIED CARD OF 'laws.FnExactExprComp'. -/
def fnExactExprCompCard : Claim7 := { stood := { row := fnExactExprCompRow, standIns := [], harness := (true, "095f625de5c03b18a14c6b65103d473b4e467c3b83828275287be95e271d7603"), looks := true }, kinds := [], alts := [], laidByText := true, laidKinds := [.data], laidTests := true, laidLooks := .later }
def FnExactExprCompCardSaid : Prop := Claim7.holds Tryd.pinned (.plain (OpenSpec.ofChange fnExactExprCompSpec)) fnExactExprCompCard

/-- THE TIED CARD OF 'laws.FnExactExprKeeps'. -/
def fnExactExprKeepsCard : Claim7 := { stood := { row := fnExactExprKeepsRow, standIns := [], harness := (true, "095f625de5c03b18a14c6b65103d473b4e467c3b83828275287be95e271d7603"), looks := true }, kinds := [], alts := [], laidByText := true, laidKinds := [.data], laidTests := true, laidLooks := .later }
def FnExactExprKeepsCardSaid : Prop := Claim7.holds Tryd.pinned (.plain (OpenSpec.ofChange fnExactExprKeepsSpec)) fnExactExprKeepsCard

/-- THE TIED CARD OF 'laws.FnExprList'. -/
def fnExprListCard : Claim7 := { stood := { row := fnExprListRow, standIns := [], harness := (true, "095f625de5c03b18a14c6b65103d473b4e467c3b83828275287be95e271d7603"), looks := true }, kinds := [], alts := [], laidByText := true, laidKinds := [.data], laidTests := true, laidLooks := .later }
def FnExprListCardSaid : Prop := Claim7.holds Tryd.pinned (.plain (OpenSpec.ofChange fnExprListSpec)) fnExprListCard

/-- THE TIED CARD OF 'laws.FnExprComp'. -/
def fnExprCompCard : Claim7 := { stood := { row := fnExprCompRow, standIns := [], harness := (true, "095f625de5c03b18a14c6b65103d473b4e467c3b83828275287be95e271d7603"), looks := true }, kinds := [], alts := [], laidByText := true, laidKinds := [.data], laidTests := true, laidLooks := .later }
def FnExprCompCardSaid : Prop := Claim7.holds Tryd.pinned (.plain (OpenSpec.ofChange fnExprCompSpec)) fnExprCompCard

/-- THE TIED CARD OF 'laws.FnExprKeeps'. -/
def fnExprKeepsCard : Claim7 := { stood := { row := fnExprKeepsRow, standIns := [], harness := (true, "095f625de5c03b18a14c6b65103d473b4e467c3b83828275287be95e271d7603"), looks := true }, kinds := [], alts := [], laidByText := true, laidKinds := [.data], laidTests := true, laidLooks := .later }
def FnExprKeepsCardSaid : Prop := Claim7.holds Tryd.pinned (.plain (OpenSpec.ofChange fnExprKeepsSpec)) fnExprKeepsCard

/-- THE TIED CARD OF 'laws.FnExprTurn'. -/
def fnExprTurnCard : Claim7 := { stood := { row := fnExprTurnRow, standIns := [], harness := (true, "095f625de5c03b18a14c6b65103d473b4e467c3b83828275287be95e271d7603"), looks := true }, kinds := [], alts := [], laidByText := true, laidKinds := [.data], laidTests := true, laidLooks := .later }
def FnExprTurnCardSaid : Prop := Claim7.holds Tryd.pinned (.plain (OpenSpec.ofChange fnExprTurnSpec)) fnExprTurnCard

/-- THE TIED CARD OF 'laws.FnExactProgWrite'. -/
def fnExactProgWriteCard : Claim7 := { stood := { row := fnExactProgWriteRow, standIns := [], harness := (true, "095f625de5c03b18a14c6b65103d473b4e467c3b83828275287be95e271d7603"), looks := true }, kinds := [], alts := [], laidByText := true, laidKinds := [.data, .data, .data], laidTests := true, laidLooks := .later }
def FnExactProgWriteCardSaid : Prop := Claim7.holds Tryd.pinned (.plain (OpenSpec.ofChange fnExactProgWriteSpec)) fnExactProgWriteCard

/-- THE SECOND FORM's CARD OF 'laws.FnExactExprComp'. -/
def fnExactExprCompUptoCard : Claim7 := { stood := { row := fnExactExprCompUptoRow, standIns := [], harness := (true, "095f625de5c03b18a14c6b65103d473b4e467c3b83828275287be95e271d7603"), looks := true }, kinds := [], alts := [], laidByText := true, laidKinds := [.data], laidTests := true, laidLooks := .later }
def FnExactExprCompUptoCardSaid : Prop := Claim7.holds Tryd.pinned (.plain (OpenSpec.upto fnExactExprCompSpec)) fnExactExprCompUptoCard

/-- THE SECOND FORM's CARD OF 'laws.FnExactExprKeeps'. -/
def fnExactExprKeepsUptoCard : Claim7 := { stood := { row := fnExactExprKeepsUptoRow, standIns := [], harness := (true, "095f625de5c03b18a14c6b65103d473b4e467c3b83828275287be95e271d7603"), looks := true }, kinds := [], alts := [], laidByText := true, laidKinds := [.data], laidTests := true, laidLooks := .later }
def FnExactExprKeepsUptoCardSaid : Prop := Claim7.holds Tryd.pinned (.plain (OpenSpec.upto fnExactExprKeepsSpec)) fnExactExprKeepsUptoCard

/-- THE SECOND FORM's CARD OF 'laws.FnExprList'. -/
def fnExprListUptoCard : Claim7 := { stood := { row := fnExprListUptoRow, standIns := [], harness := (true, "095f625de5c03b18a14c6b65103d473b4e467c3b83828275287be95e271d7603"), looks := true }, kinds := [], alts := [], laidByText := true, laidKinds := [.data], laidTests := true, laidLooks := .later }
def FnExprListUptoCardSaid : Prop := Claim7.holds Tryd.pinned (.plain (OpenSpec.upto fnExprListSpec)) fnExprListUptoCard

/-- THE SECOND FORM's CARD OF 'laws.FnExprComp'. -/
def fnExprCompUptoCard : Claim7 := { stood := { row := fnExprCompUptoRow, standIns := [], harness := (true, "095f625de5c03b18a14c6b65103d473b4e467c3b83828275287be95e271d7603"), looks := true }, kinds := [], alts := [], laidByText := true, laidKinds := [.data], laidTests := true, laidLooks := .later }
def FnExprCompUptoCardSaid : Prop := Claim7.holds Tryd.pinned (.plain (OpenSpec.upto fnExprCompSpec)) fnExprCompUptoCard

/-- THE SECOND FORM's CARD OF 'laws.FnExprKeeps'. -/
def fnExprKeepsUptoCard : Claim7 := { stood := { row := fnExprKeepsUptoRow, standIns := [], harness := (true, "095f625de5c03b18a14c6b65103d473b4e467c3b83828275287be95e271d7603"), looks := true }, kinds := [], alts := [], laidByText := true, laidKinds := [.data], laidTests := true, laidLooks := .later }
def FnExprKeepsUptoCardSaid : Prop := Claim7.holds Tryd.pinned (.plain (OpenSpec.upto fnExprKeepsSpec)) fnExprKeepsUptoCard

/-- THE SECOND FORM's CARD OF 'laws.FnExprTurn'. -/
def fnExprTurnUptoCard : Claim7 := { stood := { row := fnExprTurnUptoRow, standIns := [], harness := (true, "095f625de5c03b18a14c6b65103d473b4e467c3b83828275287be95e271d7603"), looks := true }, kinds := [], alts := [], laidByText := true, laidKinds := [.data], laidTests := true, laidLooks := .later }
def FnExprTurnUptoCardSaid : Prop := Claim7.holds Tryd.pinned (.plain (OpenSpec.upto fnExprTurnSpec)) fnExprTurnUptoCard

/-- THE SECOND FORM's CARD OF 'laws.FnExactProgWrite'. -/
def fnExactProgWriteUptoCard : Claim7 := { stood := { row := fnExactProgWriteUptoRow, standIns := [], harness := (true, "095f625de5c03b18a14c6b65103d473b4e467c3b83828275287be95e271d7603"), looks := true }, kinds := [], alts := [], laidByText := true, laidKinds := [.data, .data, .data], laidTests := true, laidLooks := .later }
def FnExactProgWriteUptoCardSaid : Prop := Claim7.holds Tryd.pinned (.plain (OpenSpec.upto fnExactProgWriteSpec)) fnExactProgWriteUptoCard
end Rows
end Go.Proofs.YtdgghpklhkgknaaDoor
