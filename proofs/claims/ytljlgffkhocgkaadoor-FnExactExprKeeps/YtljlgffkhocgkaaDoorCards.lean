/-
  DERIVED. GIVEN WITH THE SEED: THE CARDS: each row of YtljlgffkhocgkaaDoorRows.lean that lists a variable, with what it lists TIED to the program's text (the seventh form; the later family's looks); each row that meets fmt, with fmt's text TOLD by the authors' own Lean function (tested against real Go, not proved from fmt's source: count such statements apart). THE CARD IS WHAT COUNTS. Prove the row's statement (the work); the ties are given (YtljlgffkhocgkaaDoorTie.lean); close each card by the builder's one call (the guide's Derived/Test/ToyasCard.lean, 'card_holds'). Laid BY PROGRAM, IN A SANDBOX (cutbox-door.mjs). By AI agents, Wed Nov 11 2026. No macro, syntax, notation, axiom, sorry.
-/
import Derived.Test.YtljlgffkhocgkaaDoorRows
import GoSem.ClaimSeven
namespace Go.Proofs.YtljlgffkhocgkaaDoor
namespace Rows

/-- THE TIED CARD OF 'laws.FnExactExprKeeps'. -/
def fnExactExprKeepsCard : Claim7 := { stood := { row := fnExactExprKeepsRow, standIns := [], harness := (true, "aee04c97778313dd7d79024cf7c506b67a9afb43cd6195d68027c492011e8cc3"), looks := false }, kinds := [], alts := [], laidByText := true, laidKinds := [.data], laidTests := true, laidLooks := .later }
def FnExactExprKeepsCardSaid : Prop := Claim7.holds Tryd.pinned (.plain (OpenSpec.ofChange fnExactExprKeepsSpec)) fnExactExprKeepsCard

/-- THE TIED CARD OF 'laws.FnExactLoopFront'. -/
def fnExactLoopFrontCard : Claim7 := { stood := { row := fnExactLoopFrontRow, standIns := [], harness := (true, "aee04c97778313dd7d79024cf7c506b67a9afb43cd6195d68027c492011e8cc3"), looks := false }, kinds := [], alts := [], laidByText := true, laidKinds := [.data], laidTests := true, laidLooks := .later }
def FnExactLoopFrontCardSaid : Prop := Claim7.holds Tryd.pinned (.plain (OpenSpec.ofChange fnExactLoopFrontSpec)) fnExactLoopFrontCard

/-- THE TIED CARD OF 'laws.FnLoopFront'. -/
def fnLoopFrontCard : Claim7 := { stood := { row := fnLoopFrontRow, standIns := [], harness := (true, "aee04c97778313dd7d79024cf7c506b67a9afb43cd6195d68027c492011e8cc3"), looks := false }, kinds := [], alts := [], laidByText := true, laidKinds := [.data], laidTests := true, laidLooks := .later }
def FnLoopFrontCardSaid : Prop := Claim7.holds Tryd.pinned (.plain (OpenSpec.ofChange fnLoopFrontSpec)) fnLoopFrontCard

/-- THE SECOND FORM's CARD OF 'laws.FnExactExprKeeps'. -/
def fnExactExprKeepsUptoCard : Claim7 := { stood := { row := fnExactExprKeepsUptoRow, standIns := [], harness := (true, "aee04c97778313dd7d79024cf7c506b67a9afb43cd6195d68027c492011e8cc3"), looks := false }, kinds := [], alts := [], laidByText := true, laidKinds := [.data], laidTests := true, laidLooks := .later }
def FnExactExprKeepsUptoCardSaid : Prop := Claim7.holds Tryd.pinned (.plain (OpenSpec.upto fnExactExprKeepsSpec)) fnExactExprKeepsUptoCard

/-- THE SECOND FORM's CARD OF 'laws.FnExactLoopFront'. -/
def fnExactLoopFrontUptoCard : Claim7 := { stood := { row := fnExactLoopFrontUptoRow, standIns := [], harness := (true, "aee04c97778313dd7d79024cf7c506b67a9afb43cd6195d68027c492011e8cc3"), looks := false }, kinds := [], alts := [], laidByText := true, laidKinds := [.data], laidTests := true, laidLooks := .later }
def FnExactLoopFrontUptoCardSaid : Prop := Claim7.holds Tryd.pinned (.plain (OpenSpec.upto fnExactLoopFrontSpec)) fnExactLoopFrontUptoCard

/-- THE SECOND FORM's CARD OF 'laws.FnLoopFront'. -/
def fnLoopFrontUptoCard : Claim7 := { stood := { row := fnLoopFrontUptoRow, standIns := [], harness := (true, "aee04c97778313dd7d79024cf7c506b67a9afb43cd6195d68027c492011e8cc3"), looks := false }, kinds := [], alts := [], laidByText := true, laidKinds := [.data], laidTests := true, laidLooks := .later }
def FnLoopFrontUptoCardSaid : Prop := Claim7.holds Tryd.pinned (.plain (OpenSpec.upto fnLoopFrontSpec)) fnLoopFrontUptoCard
end Rows
end Go.Proofs.YtljlgffkhocgkaaDoor
