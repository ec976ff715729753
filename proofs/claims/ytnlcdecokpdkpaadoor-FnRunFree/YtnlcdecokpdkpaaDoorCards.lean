/-
  DERIVED. GIVEN WITH THE SEED: THE CARDS: each row of YtnlcdecokpdkpaaDoorRows.lean that lists a variable, with what it lists TIED to the program's text (the seventh form; the later family's looks); each row that meets fmt, with fmt's text TOLD by the authors' own Lean function (tested against real Go, not proved from fmt's source: count such statements apart). THE CARD IS WHAT COUNTS. Prove the row's statement (the work); the ties are given (YtnlcdecokpdkpaaDoorTie.lean); close each card by the builder's one call (the guide's Derived/Test/ToyasCard.lean, 'card_holds'). Laid BY PROGRAM, IN A SANDBOX (cutbox-door.mjs). By AI agents, Wed Nov 11 2026. No macro, syntax, notation, axiom, sorry.
-/
import Derived.Test.YtnlcdecokpdkpaaDoorRows
import GoSem.ClaimSeven
namespace Go.Proofs.YtnlcdecokpdkpaaDoor
namespace Rows

/-- THE TIED CARD OF 'laws.FnExactRunOf'. -/
def fnExactRunOfCard : Claim7 := { stood := { row := fnExactRunOfRow, standIns := [], harness := (true, "624c0d7f01bb65cb1d358aad8b7c173d4e0bc91031cc5092bc983a7b5af82a72"), looks := true }, kinds := [], alts := [], laidByText := true, laidKinds := [.sentinel, .sentinel, .sentinel], laidTests := true, laidLooks := .later }
def FnExactRunOfCardSaid : Prop := Claim7.holds Tryd.pinned (.plain (OpenSpec.ofChange fnExactRunOfSpec)) fnExactRunOfCard

/-- THE TIED CARD OF 'laws.FnRunMore'. -/
def fnRunMoreCard : Claim7 := { stood := { row := fnRunMoreRow, standIns := [], harness := (true, "624c0d7f01bb65cb1d358aad8b7c173d4e0bc91031cc5092bc983a7b5af82a72"), looks := true }, kinds := [], alts := [], laidByText := true, laidKinds := [.sentinel, .sentinel, .sentinel], laidTests := true, laidLooks := .later }
def FnRunMoreCardSaid : Prop := Claim7.holds Tryd.pinned (.plain (OpenSpec.ofChange fnRunMoreSpec)) fnRunMoreCard

/-- THE TIED CARD OF 'laws.FnRunPath'. -/
def fnRunPathCard : Claim7 := { stood := { row := fnRunPathRow, standIns := [], harness := (true, "624c0d7f01bb65cb1d358aad8b7c173d4e0bc91031cc5092bc983a7b5af82a72"), looks := true }, kinds := [], alts := [], laidByText := true, laidKinds := [.sentinel, .sentinel, .sentinel], laidTests := true, laidLooks := .later }
def FnRunPathCardSaid : Prop := Claim7.holds Tryd.pinned (.plain (OpenSpec.ofChange fnRunPathSpec)) fnRunPathCard

/-- THE TIED CARD OF 'laws.FnRunIn'. -/
def fnRunInCard : Claim7 := { stood := { row := fnRunInRow, standIns := [], harness := (true, "624c0d7f01bb65cb1d358aad8b7c173d4e0bc91031cc5092bc983a7b5af82a72"), looks := true }, kinds := [], alts := [], laidByText := true, laidKinds := [.sentinel, .sentinel, .sentinel], laidTests := true, laidLooks := .later }
def FnRunInCardSaid : Prop := Claim7.holds Tryd.pinned (.plain (OpenSpec.ofChange fnRunInSpec)) fnRunInCard

/-- THE TIED CARD OF 'laws.FnRunOuts'. -/
def fnRunOutsCard : Claim7 := { stood := { row := fnRunOutsRow, standIns := [], harness := (true, "624c0d7f01bb65cb1d358aad8b7c173d4e0bc91031cc5092bc983a7b5af82a72"), looks := true }, kinds := [], alts := [], laidByText := true, laidKinds := [.sentinel, .sentinel, .sentinel], laidTests := true, laidLooks := .later }
def FnRunOutsCardSaid : Prop := Claim7.holds Tryd.pinned (.plain (OpenSpec.ofChange fnRunOutsSpec)) fnRunOutsCard

/-- THE TIED CARD OF 'laws.FnRunFree'. -/
def fnRunFreeCard : Claim7 := { stood := { row := fnRunFreeRow, standIns := [], harness := (true, "624c0d7f01bb65cb1d358aad8b7c173d4e0bc91031cc5092bc983a7b5af82a72"), looks := true }, kinds := [], alts := [], laidByText := true, laidKinds := [.sentinel, .sentinel, .sentinel], laidTests := true, laidLooks := .later }
def FnRunFreeCardSaid : Prop := Claim7.holds Tryd.pinned (.plain (OpenSpec.ofChange fnRunFreeSpec)) fnRunFreeCard

/-- THE TIED CARD OF 'laws.FnRunNull'. -/
def fnRunNullCard : Claim7 := { stood := { row := fnRunNullRow, standIns := [], harness := (true, "624c0d7f01bb65cb1d358aad8b7c173d4e0bc91031cc5092bc983a7b5af82a72"), looks := true }, kinds := [], alts := [], laidByText := true, laidKinds := [.sentinel, .sentinel, .sentinel], laidTests := true, laidLooks := .later }
def FnRunNullCardSaid : Prop := Claim7.holds Tryd.pinned (.plain (OpenSpec.ofChange fnRunNullSpec)) fnRunNullCard

/-- THE TIED CARD OF 'laws.FnProgEnd'. -/
def fnProgEndCard : Claim7 := { stood := { row := fnProgEndRow, standIns := [], harness := (true, "624c0d7f01bb65cb1d358aad8b7c173d4e0bc91031cc5092bc983a7b5af82a72"), looks := true }, kinds := [], alts := [], laidByText := true, laidKinds := [.sentinel, .sentinel, .sentinel], laidTests := true, laidLooks := .later }
def FnProgEndCardSaid : Prop := Claim7.holds Tryd.pinned (.plain (OpenSpec.ofChange fnProgEndSpec)) fnProgEndCard

/-- THE TIED CARD OF 'laws.FnFlowTidy'. -/
def fnFlowTidyCard : Claim7 := { stood := { row := fnFlowTidyRow, standIns := [], harness := (true, "624c0d7f01bb65cb1d358aad8b7c173d4e0bc91031cc5092bc983a7b5af82a72"), looks := true }, kinds := [], alts := [], laidByText := true, laidKinds := [.sentinel, .sentinel, .sentinel], laidTests := true, laidLooks := .later }
def FnFlowTidyCardSaid : Prop := Claim7.holds Tryd.pinned (.plain (OpenSpec.ofChange fnFlowTidySpec)) fnFlowTidyCard

/-- THE SECOND FORM's CARD OF 'laws.FnExactRunOf'. -/
def fnExactRunOfUptoCard : Claim7 := { stood := { row := fnExactRunOfUptoRow, standIns := [], harness := (true, "624c0d7f01bb65cb1d358aad8b7c173d4e0bc91031cc5092bc983a7b5af82a72"), looks := true }, kinds := [], alts := [], laidByText := true, laidKinds := [.sentinel, .sentinel, .sentinel], laidTests := true, laidLooks := .later }
def FnExactRunOfUptoCardSaid : Prop := Claim7.holds Tryd.pinned (.plain (OpenSpec.upto fnExactRunOfSpec)) fnExactRunOfUptoCard

/-- THE SECOND FORM's CARD OF 'laws.FnRunMore'. -/
def fnRunMoreUptoCard : Claim7 := { stood := { row := fnRunMoreUptoRow, standIns := [], harness := (true, "624c0d7f01bb65cb1d358aad8b7c173d4e0bc91031cc5092bc983a7b5af82a72"), looks := true }, kinds := [], alts := [], laidByText := true, laidKinds := [.sentinel, .sentinel, .sentinel], laidTests := true, laidLooks := .later }
def FnRunMoreUptoCardSaid : Prop := Claim7.holds Tryd.pinned (.plain (OpenSpec.upto fnRunMoreSpec)) fnRunMoreUptoCard

/-- THE SECOND FORM's CARD OF 'laws.FnRunPath'. -/
def fnRunPathUptoCard : Claim7 := { stood := { row := fnRunPathUptoRow, standIns := [], harness := (true, "624c0d7f01bb65cb1d358aad8b7c173d4e0bc91031cc5092bc983a7b5af82a72"), looks := true }, kinds := [], alts := [], laidByText := true, laidKinds := [.sentinel, .sentinel, .sentinel], laidTests := true, laidLooks := .later }
def FnRunPathUptoCardSaid : Prop := Claim7.holds Tryd.pinned (.plain (OpenSpec.upto fnRunPathSpec)) fnRunPathUptoCard

/-- THE SECOND FORM's CARD OF 'laws.FnRunIn'. -/
def fnRunInUptoCard : Claim7 := { stood := { row := fnRunInUptoRow, standIns := [], harness := (true, "624c0d7f01bb65cb1d358aad8b7c173d4e0bc91031cc5092bc983a7b5af82a72"), looks := true }, kinds := [], alts := [], laidByText := true, laidKinds := [.sentinel, .sentinel, .sentinel], laidTests := true, laidLooks := .later }
def FnRunInUptoCardSaid : Prop := Claim7.holds Tryd.pinned (.plain (OpenSpec.upto fnRunInSpec)) fnRunInUptoCard

/-- THE SECOND FORM's CARD OF 'laws.FnRunOuts'. -/
def fnRunOutsUptoCard : Claim7 := { stood := { row := fnRunOutsUptoRow, standIns := [], harness := (true, "624c0d7f01bb65cb1d358aad8b7c173d4e0bc91031cc5092bc983a7b5af82a72"), looks := true }, kinds := [], alts := [], laidByText := true, laidKinds := [.sentinel, .sentinel, .sentinel], laidTests := true, laidLooks := .later }
def FnRunOutsUptoCardSaid : Prop := Claim7.holds Tryd.pinned (.plain (OpenSpec.upto fnRunOutsSpec)) fnRunOutsUptoCard

/-- THE SECOND FORM's CARD OF 'laws.FnRunFree'. -/
def fnRunFreeUptoCard : Claim7 := { stood := { row := fnRunFreeUptoRow, standIns := [], harness := (true, "624c0d7f01bb65cb1d358aad8b7c173d4e0bc91031cc5092bc983a7b5af82a72"), looks := true }, kinds := [], alts := [], laidByText := true, laidKinds := [.sentinel, .sentinel, .sentinel], laidTests := true, laidLooks := .later }
def FnRunFreeUptoCardSaid : Prop := Claim7.holds Tryd.pinned (.plain (OpenSpec.upto fnRunFreeSpec)) fnRunFreeUptoCard

/-- THE SECOND FORM's CARD OF 'laws.FnRunNull'. -/
def fnRunNullUptoCard : Claim7 := { stood := { row := fnRunNullUptoRow, standIns := [], harness := (true, "624c0d7f01bb65cb1d358aad8b7c173d4e0bc91031cc5092bc983a7b5af82a72"), looks := true }, kinds := [], alts := [], laidByText := true, laidKinds := [.sentinel, .sentinel, .sentinel], laidTests := true, laidLooks := .later }
def FnRunNullUptoCardSaid : Prop := Claim7.holds Tryd.pinned (.plain (OpenSpec.upto fnRunNullSpec)) fnRunNullUptoCard

/-- THE SECOND FORM's CARD OF 'laws.FnProgEnd'. -/
def fnProgEndUptoCard : Claim7 := { stood := { row := fnProgEndUptoRow, standIns := [], harness := (true, "624c0d7f01bb65cb1d358aad8b7c173d4e0bc91031cc5092bc983a7b5af82a72"), looks := true }, kinds := [], alts := [], laidByText := true, laidKinds := [.sentinel, .sentinel, .sentinel], laidTests := true, laidLooks := .later }
def FnProgEndUptoCardSaid : Prop := Claim7.holds Tryd.pinned (.plain (OpenSpec.upto fnProgEndSpec)) fnProgEndUptoCard

/-- THE SECOND FORM's CARD OF 'laws.FnFlowTidy'. -/
def fnFlowTidyUptoCard : Claim7 := { stood := { row := fnFlowTidyUptoRow, standIns := [], harness := (true, "624c0d7f01bb65cb1d358aad8b7c173d4e0bc91031cc5092bc983a7b5af82a72"), looks := true }, kinds := [], alts := [], laidByText := true, laidKinds := [.sentinel, .sentinel, .sentinel], laidTests := true, laidLooks := .later }
def FnFlowTidyUptoCardSaid : Prop := Claim7.holds Tryd.pinned (.plain (OpenSpec.upto fnFlowTidySpec)) fnFlowTidyUptoCard
end Rows
end Go.Proofs.YtnlcdecokpdkpaaDoor
