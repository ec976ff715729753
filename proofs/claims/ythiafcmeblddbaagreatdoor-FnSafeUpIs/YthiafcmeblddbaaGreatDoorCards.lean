/-
  DERIVED. GIVEN WITH THE SEED: THE CARDS: each row of YthiafcmeblddbaaGreatDoorRows.lean that lists a variable, with what it lists TIED to the program's text (the seventh form; the later family's looks); each row that meets fmt, with fmt's text TOLD by the authors' own Lean function (tested against real Go, not proved from fmt's source: count such statements apart). THE CARD IS WHAT COUNTS. Prove the row's statement (the work); the ties are given (YthiafcmeblddbaaGreatDoorTie.lean); close each card by the builder's one call (the guide's Derived/Test/ToyasCard.lean, 'card_holds'). Laid BY PROGRAM, IN A SANDBOX (cutbox-door.mjs). By AI agents, Wed Nov 11 2026. No macro, syntax, notation, axiom, sorry.
-/
import Derived.Test.YthiafcmeblddbaaGreatDoorRows
import GoSem.ClaimSeven
namespace Go.Proofs.YthiafcmeblddbaaGreatDoor
namespace Rows

/-- THE TIED CARD OF 'laws.FnSafeUpIs'. -/
def fnSafeUpIsCard : Claim7 := { stood := { row := fnSafeUpIsRow, standIns := [], harness := (true, "9daafe6ac47319b7076ab8fbd67c75d613b1053e16b149a4734c07308b90a22a"), looks := false }, kinds := [], alts := [], laidByText := true, laidKinds := [.data], laidTests := true, laidLooks := .later }
def FnSafeUpIsCardSaid : Prop := Claim7.holds Tryz.pinned (.plain (OpenSpec.ofChange fnSafeUpIsSpec)) fnSafeUpIsCard

/-- THE TIED CARD OF 'laws.FnSafeDelay'. -/
def fnSafeDelayCard : Claim7 := { stood := { row := fnSafeDelayRow, standIns := [], harness := (true, "9daafe6ac47319b7076ab8fbd67c75d613b1053e16b149a4734c07308b90a22a"), looks := false }, kinds := [], alts := [], laidByText := true, laidKinds := [.data], laidTests := true, laidLooks := .later }
def FnSafeDelayCardSaid : Prop := Claim7.holds Tryz.pinned (.plain (OpenSpec.ofChange fnSafeDelaySpec)) fnSafeDelayCard

/-- THE TIED CARD OF 'laws.FnSafeLate'. -/
def fnSafeLateCard : Claim7 := { stood := { row := fnSafeLateRow, standIns := [], harness := (true, "9daafe6ac47319b7076ab8fbd67c75d613b1053e16b149a4734c07308b90a22a"), looks := false }, kinds := [], alts := [], laidByText := true, laidKinds := [.data], laidTests := true, laidLooks := .later }
def FnSafeLateCardSaid : Prop := Claim7.holds Tryz.pinned (.plain (OpenSpec.ofChange fnSafeLateSpec)) fnSafeLateCard

/-- THE SECOND FORM's CARD OF 'laws.FnSafeUpIs'. -/
def fnSafeUpIsUptoCard : Claim7 := { stood := { row := fnSafeUpIsUptoRow, standIns := [], harness := (true, "9daafe6ac47319b7076ab8fbd67c75d613b1053e16b149a4734c07308b90a22a"), looks := false }, kinds := [], alts := [], laidByText := true, laidKinds := [.data], laidTests := true, laidLooks := .later }
def FnSafeUpIsUptoCardSaid : Prop := Claim7.holds Tryz.pinned (.plain (OpenSpec.upto fnSafeUpIsSpec)) fnSafeUpIsUptoCard

/-- THE SECOND FORM's CARD OF 'laws.FnSafeDelay'. -/
def fnSafeDelayUptoCard : Claim7 := { stood := { row := fnSafeDelayUptoRow, standIns := [], harness := (true, "9daafe6ac47319b7076ab8fbd67c75d613b1053e16b149a4734c07308b90a22a"), looks := false }, kinds := [], alts := [], laidByText := true, laidKinds := [.data], laidTests := true, laidLooks := .later }
def FnSafeDelayUptoCardSaid : Prop := Claim7.holds Tryz.pinned (.plain (OpenSpec.upto fnSafeDelaySpec)) fnSafeDelayUptoCard

/-- THE SECOND FORM's CARD OF 'laws.FnSafeLate'. -/
def fnSafeLateUptoCard : Claim7 := { stood := { row := fnSafeLateUptoRow, standIns := [], harness := (true, "9daafe6ac47319b7076ab8fbd67c75d613b1053e16b149a4734c07308b90a22a"), looks := false }, kinds := [], alts := [], laidByText := true, laidKinds := [.data], laidTests := true, laidLooks := .later }
def FnSafeLateUptoCardSaid : Prop := Claim7.holds Tryz.pinned (.plain (OpenSpec.upto fnSafeLateSpec)) fnSafeLateUptoCard
end Rows
end Go.Proofs.YthiafcmeblddbaaGreatDoor
