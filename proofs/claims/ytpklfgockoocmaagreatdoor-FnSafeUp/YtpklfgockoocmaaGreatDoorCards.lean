/-
  DERIVED. GIVEN WITH THE SEED: THE CARDS: each row of YtpklfgockoocmaaGreatDoorRows.lean that lists a variable, with what it lists TIED to the program's text (the seventh form; the later family's looks); each row that meets fmt, with fmt's text TOLD by the authors' own Lean function (tested against real Go, not proved from fmt's source: count such statements apart). THE CARD IS WHAT COUNTS. Prove the row's statement (the work); the ties are given (YtpklfgockoocmaaGreatDoorTie.lean); close each card by the builder's one call (the guide's Derived/Test/ToyasCard.lean, 'card_holds'). Laid BY PROGRAM, IN A SANDBOX (cutbox-door.mjs). By AI agents, Wed Nov 11 2026. No macro, syntax, notation, axiom, sorry.
-/
import Derived.Test.YtpklfgockoocmaaGreatDoorRows
import GoSem.ClaimSeven
namespace Go.Proofs.YtpklfgockoocmaaGreatDoor
namespace Rows

/-- THE TIED CARD OF 'laws.FnSafeDown'. -/
def fnSafeDownCard : Claim7 := { stood := { row := fnSafeDownRow, standIns := [], harness := (true, "fd2004b9ce638439ebacd25a16fa2766699ba9ea3c83e6d57782e8db069d1f96"), looks := false }, kinds := [], alts := [], laidByText := true, laidKinds := [.data], laidTests := true, laidLooks := .later }
def FnSafeDownCardSaid : Prop := Claim7.holds Tryz.pinned (.plain (OpenSpec.ofChange fnSafeDownSpec)) fnSafeDownCard

/-- THE TIED CARD OF 'laws.FnSafeUp'. -/
def fnSafeUpCard : Claim7 := { stood := { row := fnSafeUpRow, standIns := [], harness := (true, "fd2004b9ce638439ebacd25a16fa2766699ba9ea3c83e6d57782e8db069d1f96"), looks := false }, kinds := [], alts := [], laidByText := true, laidKinds := [.data], laidTests := true, laidLooks := .later }
def FnSafeUpCardSaid : Prop := Claim7.holds Tryz.pinned (.plain (OpenSpec.ofChange fnSafeUpSpec)) fnSafeUpCard

/-- THE SECOND FORM's CARD OF 'laws.FnSafeDown'. -/
def fnSafeDownUptoCard : Claim7 := { stood := { row := fnSafeDownUptoRow, standIns := [], harness := (true, "fd2004b9ce638439ebacd25a16fa2766699ba9ea3c83e6d57782e8db069d1f96"), looks := false }, kinds := [], alts := [], laidByText := true, laidKinds := [.data], laidTests := true, laidLooks := .later }
def FnSafeDownUptoCardSaid : Prop := Claim7.holds Tryz.pinned (.plain (OpenSpec.upto fnSafeDownSpec)) fnSafeDownUptoCard

/-- THE SECOND FORM's CARD OF 'laws.FnSafeUp'. -/
def fnSafeUpUptoCard : Claim7 := { stood := { row := fnSafeUpUptoRow, standIns := [], harness := (true, "fd2004b9ce638439ebacd25a16fa2766699ba9ea3c83e6d57782e8db069d1f96"), looks := false }, kinds := [], alts := [], laidByText := true, laidKinds := [.data], laidTests := true, laidLooks := .later }
def FnSafeUpUptoCardSaid : Prop := Claim7.holds Tryz.pinned (.plain (OpenSpec.upto fnSafeUpSpec)) fnSafeUpUptoCard
end Rows
end Go.Proofs.YtpklfgockoocmaaGreatDoor
