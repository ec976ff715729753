/-
  DERIVED. GIVEN WITH THE SEED: THE CARDS: each row of YtaepeommfdchgaaDoorRows.lean that lists a variable, with what it lists TIED to the program's text (the seventh form; the later family's looks); each row that meets fmt, with fmt's text TOLD by the authors' own Lean function (tested against real Go, not proved from fmt's source: count such statements apart). THE CARD IS WHAT COUNTS. Prove the row's statement (the work); the ties are given (YtaepeommfdchgaaDoorTie.lean); close each card by the builder's one call (the guide's Derived/Test/ToyasCard.lean, 'card_holds'). Laid BY PROGRAM, IN A SANDBOX (cutbox-door.mjs). By AI agents, Wed Nov 11 2026. No macro, syntax, notation, axiom, sorry.
-/
import Derived.Test.YtaepeommfdchgaaDoorRows
import GoSem.ClaimSeven
namespace Go.Proofs.YtaepeommfdchgaaDoor
namespace Rows

/-- THE TIED CARD OF 'laws.FnExactProgWrite'. -/
def fnExactProgWriteCard : Claim7 := { stood := { row := fnExactProgWriteRow, standIns := [], harness := (true, "5f3868ed967b7736eb5fcba08b81e0251b89bc35f314fd15f6c60631c13c0300"), looks := true }, kinds := [], alts := [], laidByText := true, laidKinds := [.data, .data, .data], laidTests := true, laidLooks := .later }
def FnExactProgWriteCardSaid : Prop := Claim7.holds Tryd.pinned (.plain (OpenSpec.ofChange fnExactProgWriteSpec)) fnExactProgWriteCard

/-- THE SECOND FORM's CARD OF 'laws.FnExactProgWrite'. -/
def fnExactProgWriteUptoCard : Claim7 := { stood := { row := fnExactProgWriteUptoRow, standIns := [], harness := (true, "5f3868ed967b7736eb5fcba08b81e0251b89bc35f314fd15f6c60631c13c0300"), looks := true }, kinds := [], alts := [], laidByText := true, laidKinds := [.data, .data, .data], laidTests := true, laidLooks := .later }
def FnExactProgWriteUptoCardSaid : Prop := Claim7.holds Tryd.pinned (.plain (OpenSpec.upto fnExactProgWriteSpec)) fnExactProgWriteUptoCard
end Rows
end Go.Proofs.YtaepeommfdchgaaDoor
