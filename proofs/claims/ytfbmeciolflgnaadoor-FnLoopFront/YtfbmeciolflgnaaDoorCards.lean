/-
  DERIVED. GIVEN WITH THE SEED: THE CARDS: each row of YtfbmeciolflgnaaDoorRows.lean that lists a variable, with what it lists TIED to the program's text (the seventh form; the later family's looks); each row that meets fmt, with fmt's text TOLD by the authors' own Lean function (tested against real Go, not proved from fmt's source: count such statements apart). THE CARD IS WHAT COUNTS. Prove the row's statement (the work); the ties are given (YtfbmeciolflgnaaDoorTie.lean); close each card by the builder's one call (the guide's Derived/Test/ToyasCard.lean, 'card_holds'). Laid BY PROGRAM, IN A SANDBOX (cutbox-door.mjs). By AI agents, Wed Nov 11 2026. No macro, syntax, notation, axiom, sorry.
-/
import Derived.Test.YtfbmeciolflgnaaDoorRows
import GoSem.ClaimSeven
namespace Go.Proofs.YtfbmeciolflgnaaDoor
namespace Rows

/-- THE TIED CARD OF 'laws.FnExactLoopFront'. -/
def fnExactLoopFrontCard : Claim7 := { stood := { row := fnExactLoopFrontRow, standIns := [], harness := (true, "c4f439a43bd010887819aa73f07cfbe0f97d3a3c30932d8672364849fdfee16a"), looks := false }, kinds := [], alts := [], laidByText := true, laidKinds := [.data], laidTests := true, laidLooks := .later }
def FnExactLoopFrontCardSaid : Prop := Claim7.holds Tryd.pinned (.plain (OpenSpec.ofChange fnExactLoopFrontSpec)) fnExactLoopFrontCard

/-- THE TIED CARD OF 'laws.FnExactLoopOf'. -/
def fnExactLoopOfCard : Claim7 := { stood := { row := fnExactLoopOfRow, standIns := [], harness := (true, "c4f439a43bd010887819aa73f07cfbe0f97d3a3c30932d8672364849fdfee16a"), looks := false }, kinds := [], alts := [], laidByText := true, laidKinds := [.data], laidTests := true, laidLooks := .later }
def FnExactLoopOfCardSaid : Prop := Claim7.holds Tryd.pinned (.plain (OpenSpec.ofChange fnExactLoopOfSpec)) fnExactLoopOfCard

/-- THE TIED CARD OF 'laws.FnExactLoopDeep'. -/
def fnExactLoopDeepCard : Claim7 := { stood := { row := fnExactLoopDeepRow, standIns := [], harness := (true, "c4f439a43bd010887819aa73f07cfbe0f97d3a3c30932d8672364849fdfee16a"), looks := false }, kinds := [], alts := [], laidByText := true, laidKinds := [.data], laidTests := true, laidLooks := .later }
def FnExactLoopDeepCardSaid : Prop := Claim7.holds Tryd.pinned (.plain (OpenSpec.ofChange fnExactLoopDeepSpec)) fnExactLoopDeepCard

/-- THE TIED CARD OF 'laws.FnLoopFront'. -/
def fnLoopFrontCard : Claim7 := { stood := { row := fnLoopFrontRow, standIns := [], harness := (true, "c4f439a43bd010887819aa73f07cfbe0f97d3a3c30932d8672364849fdfee16a"), looks := false }, kinds := [], alts := [], laidByText := true, laidKinds := [.data], laidTests := true, laidLooks := .later }
def FnLoopFrontCardSaid : Prop := Claim7.holds Tryd.pinned (.plain (OpenSpec.ofChange fnLoopFrontSpec)) fnLoopFrontCard

/-- THE TIED CARD OF 'laws.FnLoopHead'. -/
def fnLoopHeadCard : Claim7 := { stood := { row := fnLoopHeadRow, standIns := [], harness := (true, "c4f439a43bd010887819aa73f07cfbe0f97d3a3c30932d8672364849fdfee16a"), looks := false }, kinds := [], alts := [], laidByText := true, laidKinds := [.data], laidTests := true, laidLooks := .later }
def FnLoopHeadCardSaid : Prop := Claim7.holds Tryd.pinned (.plain (OpenSpec.ofChange fnLoopHeadSpec)) fnLoopHeadCard

/-- THE SECOND FORM's CARD OF 'laws.FnExactLoopFront'. -/
def fnExactLoopFrontUptoCard : Claim7 := { stood := { row := fnExactLoopFrontUptoRow, standIns := [], harness := (true, "c4f439a43bd010887819aa73f07cfbe0f97d3a3c30932d8672364849fdfee16a"), looks := false }, kinds := [], alts := [], laidByText := true, laidKinds := [.data], laidTests := true, laidLooks := .later }
def FnExactLoopFrontUptoCardSaid : Prop := Claim7.holds Tryd.pinned (.plain (OpenSpec.upto fnExactLoopFrontSpec)) fnExactLoopFrontUptoCard

/-- THE SECOND FORM's CARD OF 'laws.FnExactLoopOf'. -/
def fnExactLoopOfUptoCard : Claim7 := { stood := { row := fnExactLoopOfUptoRow, standIns := [], harness := (true, "c4f439a43bd010887819aa73f07cfbe0f97d3a3c30932d8672364849fdfee16a"), looks := false }, kinds := [], alts := [], laidByText := true, laidKinds := [.data], laidTests := true, laidLooks := .later }
def FnExactLoopOfUptoCardSaid : Prop := Claim7.holds Tryd.pinned (.plain (OpenSpec.upto fnExactLoopOfSpec)) fnExactLoopOfUptoCard

/-- THE SECOND FORM's CARD OF 'laws.FnExactLoopDeep'. -/
def fnExactLoopDeepUptoCard : Claim7 := { stood := { row := fnExactLoopDeepUptoRow, standIns := [], harness := (true, "c4f439a43bd010887819aa73f07cfbe0f97d3a3c30932d8672364849fdfee16a"), looks := false }, kinds := [], alts := [], laidByText := true, laidKinds := [.data], laidTests := true, laidLooks := .later }
def FnExactLoopDeepUptoCardSaid : Prop := Claim7.holds Tryd.pinned (.plain (OpenSpec.upto fnExactLoopDeepSpec)) fnExactLoopDeepUptoCard

/-- THE SECOND FORM's CARD OF 'laws.FnLoopFront'. -/
def fnLoopFrontUptoCard : Claim7 := { stood := { row := fnLoopFrontUptoRow, standIns := [], harness := (true, "c4f439a43bd010887819aa73f07cfbe0f97d3a3c30932d8672364849fdfee16a"), looks := false }, kinds := [], alts := [], laidByText := true, laidKinds := [.data], laidTests := true, laidLooks := .later }
def FnLoopFrontUptoCardSaid : Prop := Claim7.holds Tryd.pinned (.plain (OpenSpec.upto fnLoopFrontSpec)) fnLoopFrontUptoCard

/-- THE SECOND FORM's CARD OF 'laws.FnLoopHead'. -/
def fnLoopHeadUptoCard : Claim7 := { stood := { row := fnLoopHeadUptoRow, standIns := [], harness := (true, "c4f439a43bd010887819aa73f07cfbe0f97d3a3c30932d8672364849fdfee16a"), looks := false }, kinds := [], alts := [], laidByText := true, laidKinds := [.data], laidTests := true, laidLooks := .later }
def FnLoopHeadUptoCardSaid : Prop := Claim7.holds Tryd.pinned (.plain (OpenSpec.upto fnLoopHeadSpec)) fnLoopHeadUptoCard
end Rows
end Go.Proofs.YtfbmeciolflgnaaDoor
