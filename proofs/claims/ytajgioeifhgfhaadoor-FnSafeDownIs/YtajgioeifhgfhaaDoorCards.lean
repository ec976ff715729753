/-
  DERIVED. GIVEN WITH THE SEED: THE CARDS: each row of YtajgioeifhgfhaaDoorRows.lean that lists a variable, with what it lists TIED to the program's text (the seventh form; the later family's looks); each row that meets fmt, with fmt's text TOLD by the authors' own Lean function (tested against real Go, not proved from fmt's source: count such statements apart). THE CARD IS WHAT COUNTS. Prove the row's statement (the work); the ties are given (YtajgioeifhgfhaaDoorTie.lean); close each card by the builder's one call (the guide's Derived/Test/ToyasCard.lean, 'card_holds'). Laid BY PROGRAM, IN A SANDBOX (cutbox-door.mjs). By AI agents, Wed Nov 11 2026. No macro, syntax, notation, axiom, sorry.
-/
import Derived.Test.YtajgioeifhgfhaaDoorRows
import GoSem.ClaimSeven
namespace Go.Proofs.YtajgioeifhgfhaaDoor
namespace Rows

/-- THE TIED CARD OF 'laws.FnSafeDownIs'. -/
def fnSafeDownIsCard : Claim7 := { stood := { row := fnSafeDownIsRow, standIns := [], harness := (true, "2fb3f6b5b70d880194220e2cf89420590dca9b0c64bf22d959b5a91e9216d721"), looks := false }, kinds := [], alts := [], laidByText := true, laidKinds := [.data], laidTests := true, laidLooks := .later }
def FnSafeDownIsCardSaid : Prop := Claim7.holds Tryd.pinned (.plain (OpenSpec.ofChange fnSafeDownIsSpec)) fnSafeDownIsCard

/-- THE TIED CARD OF 'laws.FnExprComp'. -/
def fnExprCompCard : Claim7 := { stood := { row := fnExprCompRow, standIns := [], harness := (true, "2fb3f6b5b70d880194220e2cf89420590dca9b0c64bf22d959b5a91e9216d721"), looks := false }, kinds := [], alts := [], laidByText := true, laidKinds := [.data], laidTests := true, laidLooks := .later }
def FnExprCompCardSaid : Prop := Claim7.holds Tryd.pinned (.plain (OpenSpec.ofChange fnExprCompSpec)) fnExprCompCard

/-- THE TIED CARD OF 'laws.FnExprKeeps'. -/
def fnExprKeepsCard : Claim7 := { stood := { row := fnExprKeepsRow, standIns := [], harness := (true, "2fb3f6b5b70d880194220e2cf89420590dca9b0c64bf22d959b5a91e9216d721"), looks := false }, kinds := [], alts := [], laidByText := true, laidKinds := [.data], laidTests := true, laidLooks := .later }
def FnExprKeepsCardSaid : Prop := Claim7.holds Tryd.pinned (.plain (OpenSpec.ofChange fnExprKeepsSpec)) fnExprKeepsCard

/-- THE TIED CARD OF 'laws.FnExprList'. -/
def fnExprListCard : Claim7 := { stood := { row := fnExprListRow, standIns := [], harness := (true, "2fb3f6b5b70d880194220e2cf89420590dca9b0c64bf22d959b5a91e9216d721"), looks := false }, kinds := [], alts := [], laidByText := true, laidKinds := [.data], laidTests := true, laidLooks := .later }
def FnExprListCardSaid : Prop := Claim7.holds Tryd.pinned (.plain (OpenSpec.ofChange fnExprListSpec)) fnExprListCard

/-- THE TIED CARD OF 'laws.FnExactLoopOf'. -/
def fnExactLoopOfCard : Claim7 := { stood := { row := fnExactLoopOfRow, standIns := [], harness := (true, "2fb3f6b5b70d880194220e2cf89420590dca9b0c64bf22d959b5a91e9216d721"), looks := false }, kinds := [], alts := [], laidByText := true, laidKinds := [.data], laidTests := true, laidLooks := .later }
def FnExactLoopOfCardSaid : Prop := Claim7.holds Tryd.pinned (.plain (OpenSpec.ofChange fnExactLoopOfSpec)) fnExactLoopOfCard

/-- THE TIED CARD OF 'laws.FnExactLoopDeep'. -/
def fnExactLoopDeepCard : Claim7 := { stood := { row := fnExactLoopDeepRow, standIns := [], harness := (true, "2fb3f6b5b70d880194220e2cf89420590dca9b0c64bf22d959b5a91e9216d721"), looks := false }, kinds := [], alts := [], laidByText := true, laidKinds := [.data], laidTests := true, laidLooks := .later }
def FnExactLoopDeepCardSaid : Prop := Claim7.holds Tryd.pinned (.plain (OpenSpec.ofChange fnExactLoopDeepSpec)) fnExactLoopDeepCard

/-- THE SECOND FORM's CARD OF 'laws.FnSafeDownIs'. -/
def fnSafeDownIsUptoCard : Claim7 := { stood := { row := fnSafeDownIsUptoRow, standIns := [], harness := (true, "2fb3f6b5b70d880194220e2cf89420590dca9b0c64bf22d959b5a91e9216d721"), looks := false }, kinds := [], alts := [], laidByText := true, laidKinds := [.data], laidTests := true, laidLooks := .later }
def FnSafeDownIsUptoCardSaid : Prop := Claim7.holds Tryd.pinned (.plain (OpenSpec.upto fnSafeDownIsSpec)) fnSafeDownIsUptoCard

/-- THE SECOND FORM's CARD OF 'laws.FnExprComp'. -/
def fnExprCompUptoCard : Claim7 := { stood := { row := fnExprCompUptoRow, standIns := [], harness := (true, "2fb3f6b5b70d880194220e2cf89420590dca9b0c64bf22d959b5a91e9216d721"), looks := false }, kinds := [], alts := [], laidByText := true, laidKinds := [.data], laidTests := true, laidLooks := .later }
def FnExprCompUptoCardSaid : Prop := Claim7.holds Tryd.pinned (.plain (OpenSpec.upto fnExprCompSpec)) fnExprCompUptoCard

/-- THE SECOND FORM's CARD OF 'laws.FnExprKeeps'. -/
def fnExprKeepsUptoCard : Claim7 := { stood := { row := fnExprKeepsUptoRow, standIns := [], harness := (true, "2fb3f6b5b70d880194220e2cf89420590dca9b0c64bf22d959b5a91e9216d721"), looks := false }, kinds := [], alts := [], laidByText := true, laidKinds := [.data], laidTests := true, laidLooks := .later }
def FnExprKeepsUptoCardSaid : Prop := Claim7.holds Tryd.pinned (.plain (OpenSpec.upto fnExprKeepsSpec)) fnExprKeepsUptoCard

/-- THE SECOND FORM's CARD OF 'laws.FnExprList'. -/
def fnExprListUptoCard : Claim7 := { stood := { row := fnExprListUptoRow, standIns := [], harness := (true, "2fb3f6b5b70d880194220e2cf89420590dca9b0c64bf22d959b5a91e9216d721"), looks := false }, kinds := [], alts := [], laidByText := true, laidKinds := [.data], laidTests := true, laidLooks := .later }
def FnExprListUptoCardSaid : Prop := Claim7.holds Tryd.pinned (.plain (OpenSpec.upto fnExprListSpec)) fnExprListUptoCard

/-- THE SECOND FORM's CARD OF 'laws.FnExactLoopOf'. -/
def fnExactLoopOfUptoCard : Claim7 := { stood := { row := fnExactLoopOfUptoRow, standIns := [], harness := (true, "2fb3f6b5b70d880194220e2cf89420590dca9b0c64bf22d959b5a91e9216d721"), looks := false }, kinds := [], alts := [], laidByText := true, laidKinds := [.data], laidTests := true, laidLooks := .later }
def FnExactLoopOfUptoCardSaid : Prop := Claim7.holds Tryd.pinned (.plain (OpenSpec.upto fnExactLoopOfSpec)) fnExactLoopOfUptoCard

/-- THE SECOND FORM's CARD OF 'laws.FnExactLoopDeep'. -/
def fnExactLoopDeepUptoCard : Claim7 := { stood := { row := fnExactLoopDeepUptoRow, standIns := [], harness := (true, "2fb3f6b5b70d880194220e2cf89420590dca9b0c64bf22d959b5a91e9216d721"), looks := false }, kinds := [], alts := [], laidByText := true, laidKinds := [.data], laidTests := true, laidLooks := .later }
def FnExactLoopDeepUptoCardSaid : Prop := Claim7.holds Tryd.pinned (.plain (OpenSpec.upto fnExactLoopDeepSpec)) fnExactLoopDeepUptoCard
end Rows
end Go.Proofs.YtajgioeifhgfhaaDoor
