/-
  DERIVED. GIVEN WITH THE SEED: THE CARDS: each row of YtmplkchdfloppaaGreatDoorRows.lean that lists a variable, with what it lists TIED to the program's text (the seventh form; the later family's looks); each row that meets fmt, with fmt's text TOLD by the authors' own Lean function (tested against real Go, not proved from fmt's source: count such statements apart). THE CARD IS WHAT COUNTS. Prove the row's statement (the work); the ties are given (YtmplkchdfloppaaGreatDoorTie.lean); close each card by the builder's one call (the guide's Derived/Test/ToyasCard.lean, 'card_holds'). Laid BY PROGRAM, IN A SANDBOX (cutbox-door.mjs). By AI agents, Wed Nov 11 2026. No macro, syntax, notation, axiom, sorry.
-/
import Derived.Test.YtmplkchdfloppaaGreatDoorRows
import GoSem.ClaimSeven
namespace Go.Proofs.YtmplkchdfloppaaGreatDoor
namespace Rows

/-- THE TIED CARD OF 'laws.FnSafeNeed'. -/
def fnSafeNeedCard : Claim7 := { stood := { row := fnSafeNeedRow, standIns := [], harness := (true, "7122eaed3c245080bb445b882019d06299d09e6e1dd82c057a67afcdddf178f1"), looks := false }, kinds := [], alts := [], laidByText := true, laidKinds := [.data], laidTests := true, laidLooks := .later }
def FnSafeNeedCardSaid : Prop := Claim7.holds Tryz.pinned (.plain (OpenSpec.ofChange fnSafeNeedSpec)) fnSafeNeedCard

/-- THE TIED CARD OF 'laws.FnSafeOnce'. -/
def fnSafeOnceCard : Claim7 := { stood := { row := fnSafeOnceRow, standIns := [], harness := (true, "7122eaed3c245080bb445b882019d06299d09e6e1dd82c057a67afcdddf178f1"), looks := false }, kinds := [], alts := [], laidByText := true, laidKinds := [.data], laidTests := true, laidLooks := .later }
def FnSafeOnceCardSaid : Prop := Claim7.holds Tryz.pinned (.plain (OpenSpec.ofChange fnSafeOnceSpec)) fnSafeOnceCard

/-- THE TIED CARD OF 'laws.FnSafeAlone'. -/
def fnSafeAloneCard : Claim7 := { stood := { row := fnSafeAloneRow, standIns := [], harness := (true, "7122eaed3c245080bb445b882019d06299d09e6e1dd82c057a67afcdddf178f1"), looks := false }, kinds := [], alts := [], laidByText := true, laidKinds := [.data], laidTests := true, laidLooks := .later }
def FnSafeAloneCardSaid : Prop := Claim7.holds Tryz.pinned (.plain (OpenSpec.ofChange fnSafeAloneSpec)) fnSafeAloneCard

/-- THE TIED CARD OF 'laws.FnSafeServe'. -/
def fnSafeServeCard : Claim7 := { stood := { row := fnSafeServeRow, standIns := [], harness := (true, "7122eaed3c245080bb445b882019d06299d09e6e1dd82c057a67afcdddf178f1"), looks := false }, kinds := [], alts := [], laidByText := true, laidKinds := [.data], laidTests := true, laidLooks := .later }
def FnSafeServeCardSaid : Prop := Claim7.holds Tryz.pinned (.plain (OpenSpec.ofChange fnSafeServeSpec)) fnSafeServeCard

/-- THE SECOND FORM's CARD OF 'laws.FnSafeNeed'. -/
def fnSafeNeedUptoCard : Claim7 := { stood := { row := fnSafeNeedUptoRow, standIns := [], harness := (true, "7122eaed3c245080bb445b882019d06299d09e6e1dd82c057a67afcdddf178f1"), looks := false }, kinds := [], alts := [], laidByText := true, laidKinds := [.data], laidTests := true, laidLooks := .later }
def FnSafeNeedUptoCardSaid : Prop := Claim7.holds Tryz.pinned (.plain (OpenSpec.upto fnSafeNeedSpec)) fnSafeNeedUptoCard

/-- THE SECOND FORM's CARD OF 'laws.FnSafeOnce'. -/
def fnSafeOnceUptoCard : Claim7 := { stood := { row := fnSafeOnceUptoRow, standIns := [], harness := (true, "7122eaed3c245080bb445b882019d06299d09e6e1dd82c057a67afcdddf178f1"), looks := false }, kinds := [], alts := [], laidByText := true, laidKinds := [.data], laidTests := true, laidLooks := .later }
def FnSafeOnceUptoCardSaid : Prop := Claim7.holds Tryz.pinned (.plain (OpenSpec.upto fnSafeOnceSpec)) fnSafeOnceUptoCard

/-- THE SECOND FORM's CARD OF 'laws.FnSafeAlone'. -/
def fnSafeAloneUptoCard : Claim7 := { stood := { row := fnSafeAloneUptoRow, standIns := [], harness := (true, "7122eaed3c245080bb445b882019d06299d09e6e1dd82c057a67afcdddf178f1"), looks := false }, kinds := [], alts := [], laidByText := true, laidKinds := [.data], laidTests := true, laidLooks := .later }
def FnSafeAloneUptoCardSaid : Prop := Claim7.holds Tryz.pinned (.plain (OpenSpec.upto fnSafeAloneSpec)) fnSafeAloneUptoCard

/-- THE SECOND FORM's CARD OF 'laws.FnSafeServe'. -/
def fnSafeServeUptoCard : Claim7 := { stood := { row := fnSafeServeUptoRow, standIns := [], harness := (true, "7122eaed3c245080bb445b882019d06299d09e6e1dd82c057a67afcdddf178f1"), looks := false }, kinds := [], alts := [], laidByText := true, laidKinds := [.data], laidTests := true, laidLooks := .later }
def FnSafeServeUptoCardSaid : Prop := Claim7.holds Tryz.pinned (.plain (OpenSpec.upto fnSafeServeSpec)) fnSafeServeUptoCard
end Rows
end Go.Proofs.YtmplkchdfloppaaGreatDoor
