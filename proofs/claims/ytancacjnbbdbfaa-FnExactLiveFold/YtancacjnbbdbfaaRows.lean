/-
  No cell of these rows narrows 'for every input' (looked for: loops, veiled, ifaces, maps, wideKeys, modest, calm, conditions, laid).
  DERIVED. THE GIVEN ROWS OF THIS SEAT. 6 by the template 'for every input the law returns true; each argument reads behind the call as it read before'; 0 by the template 'total and deterministic' (their statements: YtancacjnbbdbfaaTotals.lean).
  GIVEN WITH THE SEED: the statements are not yours to turn. If you find one false, say at which input.
  Laid BY PROGRAM, IN A SANDBOX (cutbox-rows.mjs): the forced cells as the released guide's own fill.sh prints them over the translation 1b091a3e3233e27d… (all of the seat's roots in one cut). By AI agents, Wed Nov 11 2026. No macro, syntax, notation, axiom, sorry.
-/
import Derived.Test.YtancacjnbbdbfaaChecked
import GoSem.Claim
import GoSem.ClaimJoined
import GoSem.ClaimMapViews
import Derived.JoinedTies
import Derived.KernelRfl
namespace Go.Proofs.Ytancacjnbbdbfaa
/- THE CELL 'sum', in the pinned program and in every row, IS THE sha256 OF THE DUMP (.gsa) THAT YtancacjnbbdbfaaProg.lean LOADS. Nothing in Lean hashes anything: it is a label: what it is worth is what the hold of that sum in a sandbox is worth. -/
noncomputable def Try.pinned : Pinned := { name := "ytancacjnbbdbfaa", sum := "1b091a3e3233e27d6ee0c3fb43d6953b188d23808520be577d0936c00b0bc1e7", checked := Try.checked }
namespace Rows
def none {H : Type} : Left H := { results := [], args := [] }

/-- 'laws.FnExactLiveFold': WHATEVER THE INPUT: true; the input reads as it did. -/
def fnExactLiveFoldSpec : ChangeSpec := { name := "fnExactLiveFold", fn := fun _ => fun
  | [d] => { results := [.lit (.bool true)], args := [d] }
  | _ => none }
def fnExactLiveFoldRow : OpenClaim := { program := "ytancacjnbbdbfaa", sum := "1b091a3e3233e27d6ee0c3fb43d6953b188d23808520be577d0936c00b0bc1e7", func := "loop.example/causey/laws.FnExactLiveFold", spec := "fnExactLiveFold", unfollowed := true, recurses := true, apart := false }
def FnExactLiveFoldSaid : Prop := fnExactLiveFoldRow.holds Try.pinned (OpenSpec.ofChange fnExactLiveFoldSpec)

/-- ITS FALSE NEIGHBOUR: 'it returns false'. Refute it at one input. -/
def fnExactLiveFoldWrong : ChangeSpec := { name := "fnExactLiveFold", fn := fun _ => fun
  | [d] => { results := [.lit (.bool false)], args := [d] }
  | _ => none }
def FnExactLiveFoldWrongFalsely : Prop := fnExactLiveFoldRow.holds Try.pinned (OpenSpec.ofChange fnExactLiveFoldWrong)

/-- 'laws.FnExactLiveSkip': WHATEVER THE INPUT: true; the input reads as it did. -/
def fnExactLiveSkipSpec : ChangeSpec := { name := "fnExactLiveSkip", fn := fun _ => fun
  | [d] => { results := [.lit (.bool true)], args := [d] }
  | _ => none }
def fnExactLiveSkipRow : OpenClaim := { program := "ytancacjnbbdbfaa", sum := "1b091a3e3233e27d6ee0c3fb43d6953b188d23808520be577d0936c00b0bc1e7", func := "loop.example/causey/laws.FnExactLiveSkip", spec := "fnExactLiveSkip", unfollowed := true, recurses := true, apart := false }
def FnExactLiveSkipSaid : Prop := fnExactLiveSkipRow.holds Try.pinned (OpenSpec.ofChange fnExactLiveSkipSpec)

/-- ITS FALSE NEIGHBOUR: 'it returns false'. Refute it at one input. -/
def fnExactLiveSkipWrong : ChangeSpec := { name := "fnExactLiveSkip", fn := fun _ => fun
  | [d] => { results := [.lit (.bool false)], args := [d] }
  | _ => none }
def FnExactLiveSkipWrongFalsely : Prop := fnExactLiveSkipRow.holds Try.pinned (OpenSpec.ofChange fnExactLiveSkipWrong)

/-- 'laws.FnExactFlowTidy': WHATEVER THE INPUT: true; the input reads as it did. -/
def fnExactFlowTidySpec : ChangeSpec := { name := "fnExactFlowTidy", fn := fun _ => fun
  | [d] => { results := [.lit (.bool true)], args := [d] }
  | _ => none }
def fnExactFlowTidyRow : OpenClaim := { program := "ytancacjnbbdbfaa", sum := "1b091a3e3233e27d6ee0c3fb43d6953b188d23808520be577d0936c00b0bc1e7", func := "loop.example/causey/laws.FnExactFlowTidy", spec := "fnExactFlowTidy", unfollowed := true, recurses := true, apart := false }
def FnExactFlowTidySaid : Prop := fnExactFlowTidyRow.holds Try.pinned (OpenSpec.ofChange fnExactFlowTidySpec)

/-- ITS FALSE NEIGHBOUR: 'it returns false'. Refute it at one input. -/
def fnExactFlowTidyWrong : ChangeSpec := { name := "fnExactFlowTidy", fn := fun _ => fun
  | [d] => { results := [.lit (.bool false)], args := [d] }
  | _ => none }
def FnExactFlowTidyWrongFalsely : Prop := fnExactFlowTidyRow.holds Try.pinned (OpenSpec.ofChange fnExactFlowTidyWrong)

/-- 'laws.FnLiveFolded': WHATEVER THE INPUT: true; the input reads as it did. -/
def fnLiveFoldedSpec : ChangeSpec := { name := "fnLiveFolded", fn := fun _ => fun
  | [d] => { results := [.lit (.bool true)], args := [d] }
  | _ => none }
def fnLiveFoldedRow : OpenClaim := { program := "ytancacjnbbdbfaa", sum := "1b091a3e3233e27d6ee0c3fb43d6953b188d23808520be577d0936c00b0bc1e7", func := "loop.example/causey/laws.FnLiveFolded", spec := "fnLiveFolded", unfollowed := true, recurses := true, apart := false }
def FnLiveFoldedSaid : Prop := fnLiveFoldedRow.holds Try.pinned (OpenSpec.ofChange fnLiveFoldedSpec)

/-- ITS FALSE NEIGHBOUR: 'it returns false'. Refute it at one input. -/
def fnLiveFoldedWrong : ChangeSpec := { name := "fnLiveFolded", fn := fun _ => fun
  | [d] => { results := [.lit (.bool false)], args := [d] }
  | _ => none }
def FnLiveFoldedWrongFalsely : Prop := fnLiveFoldedRow.holds Try.pinned (OpenSpec.ofChange fnLiveFoldedWrong)

/-- 'laws.FnFlowMore': WHATEVER THE INPUT: true; the input reads as it did. -/
def fnFlowMoreSpec : ChangeSpec := { name := "fnFlowMore", fn := fun _ => fun
  | [d] => { results := [.lit (.bool true)], args := [d] }
  | _ => none }
def fnFlowMoreRow : OpenClaim := { program := "ytancacjnbbdbfaa", sum := "1b091a3e3233e27d6ee0c3fb43d6953b188d23808520be577d0936c00b0bc1e7", func := "loop.example/causey/laws.FnFlowMore", spec := "fnFlowMore", unfollowed := true, recurses := true, apart := false }
def FnFlowMoreSaid : Prop := fnFlowMoreRow.holds Try.pinned (OpenSpec.ofChange fnFlowMoreSpec)

/-- ITS FALSE NEIGHBOUR: 'it returns false'. Refute it at one input. -/
def fnFlowMoreWrong : ChangeSpec := { name := "fnFlowMore", fn := fun _ => fun
  | [d] => { results := [.lit (.bool false)], args := [d] }
  | _ => none }
def FnFlowMoreWrongFalsely : Prop := fnFlowMoreRow.holds Try.pinned (OpenSpec.ofChange fnFlowMoreWrong)

/-- 'laws.FnFlowTwice': WHATEVER THE INPUT: true; the input reads as it did. -/
def fnFlowTwiceSpec : ChangeSpec := { name := "fnFlowTwice", fn := fun _ => fun
  | [d] => { results := [.lit (.bool true)], args := [d] }
  | _ => none }
def fnFlowTwiceRow : OpenClaim := { program := "ytancacjnbbdbfaa", sum := "1b091a3e3233e27d6ee0c3fb43d6953b188d23808520be577d0936c00b0bc1e7", func := "loop.example/causey/laws.FnFlowTwice", spec := "fnFlowTwice", unfollowed := true, recurses := true, apart := false }
def FnFlowTwiceSaid : Prop := fnFlowTwiceRow.holds Try.pinned (OpenSpec.ofChange fnFlowTwiceSpec)

/-- ITS FALSE NEIGHBOUR: 'it returns false'. Refute it at one input. -/
def fnFlowTwiceWrong : ChangeSpec := { name := "fnFlowTwice", fn := fun _ => fun
  | [d] => { results := [.lit (.bool false)], args := [d] }
  | _ => none }
def FnFlowTwiceWrongFalsely : Prop := fnFlowTwiceRow.holds Try.pinned (OpenSpec.ofChange fnFlowTwiceWrong)

/- THE SECOND FORM. 'bulk': how many values and letters a reading holds, each counted each time it is reached (what is shared counts as often as it is met; a slice's spare places count too). A statement '..UptoSaid' is the law's where the arguments, and the package variables that the reading takes, are together of bulk at most 1048576: NARROWER than '..Said'. Prove '..Said' where nothing that the law and all that it calls make is longer than what came in: it says more and counts as full. Else prove '..UptoSaid'. A law counts once. -/
mutual
def uptoBulk {H : Type} : DataW H → Nat
  | .lit (.string bytes) => bytes.length + 1
  | .lit _ => 1
  | .nil => 1
  | .ptr d => uptoBulk d + 1
  | .slice elems spare => uptoBulkAll elems + uptoBulkAll spare + 1
  | .agg parts => uptoBulkAll parts + 1
  | .iface _ d => uptoBulk d + 1
  | .map entries => uptoBulkEntries entries + 1
  | .held _ => 1
def uptoBulkAll {H : Type} : List (DataW H) → Nat
  | [] => 0
  | d :: r => uptoBulk d + uptoBulkAll r
def uptoBulkEntries {H : Type} : List (Lit × DataW H) → Nat
  | [] => 0
  | x :: r => uptoBulkEntry x + uptoBulkEntries r
def uptoBulkEntry {H : Type} : Lit × DataW H → Nat
  | (.string bytes, d) => bytes.length + uptoBulk d + 1
  | (_, d) => uptoBulk d + 1
 end
def uptoSmall : (H : Type) → List (DataW H) → Bool := fun _ ds => decide (uptoBulkAll ds ≤ 1048576)
def OpenSpec.upto (s : _root_.Go.ChangeSpec) : _root_.Go.OpenSpec := { _root_.Go.OpenSpec.ofChange s with cond := some uptoSmall }

/-- 'laws.FnExactLiveFold', WHERE WHAT IT READS IS OF BULK AT MOST 1048576: true; the input reads as it did. -/
def fnExactLiveFoldUptoRow : OpenClaim := { program := "ytancacjnbbdbfaa", sum := "1b091a3e3233e27d6ee0c3fb43d6953b188d23808520be577d0936c00b0bc1e7", func := "loop.example/causey/laws.FnExactLiveFold", spec := "fnExactLiveFold", unfollowed := true, recurses := true, apart := false, narrowed := true }
def FnExactLiveFoldUptoSaid : Prop := fnExactLiveFoldUptoRow.holds Try.pinned (OpenSpec.upto fnExactLiveFoldSpec)

/-- 'laws.FnExactLiveSkip', WHERE WHAT IT READS IS OF BULK AT MOST 1048576: true; the input reads as it did. -/
def fnExactLiveSkipUptoRow : OpenClaim := { program := "ytancacjnbbdbfaa", sum := "1b091a3e3233e27d6ee0c3fb43d6953b188d23808520be577d0936c00b0bc1e7", func := "loop.example/causey/laws.FnExactLiveSkip", spec := "fnExactLiveSkip", unfollowed := true, recurses := true, apart := false, narrowed := true }
def FnExactLiveSkipUptoSaid : Prop := fnExactLiveSkipUptoRow.holds Try.pinned (OpenSpec.upto fnExactLiveSkipSpec)

/-- 'laws.FnExactFlowTidy', WHERE WHAT IT READS IS OF BULK AT MOST 1048576: true; the input reads as it did. -/
def fnExactFlowTidyUptoRow : OpenClaim := { program := "ytancacjnbbdbfaa", sum := "1b091a3e3233e27d6ee0c3fb43d6953b188d23808520be577d0936c00b0bc1e7", func := "loop.example/causey/laws.FnExactFlowTidy", spec := "fnExactFlowTidy", unfollowed := true, recurses := true, apart := false, narrowed := true }
def FnExactFlowTidyUptoSaid : Prop := fnExactFlowTidyUptoRow.holds Try.pinned (OpenSpec.upto fnExactFlowTidySpec)

/-- 'laws.FnLiveFolded', WHERE WHAT IT READS IS OF BULK AT MOST 1048576: true; the input reads as it did. -/
def fnLiveFoldedUptoRow : OpenClaim := { program := "ytancacjnbbdbfaa", sum := "1b091a3e3233e27d6ee0c3fb43d6953b188d23808520be577d0936c00b0bc1e7", func := "loop.example/causey/laws.FnLiveFolded", spec := "fnLiveFolded", unfollowed := true, recurses := true, apart := false, narrowed := true }
def FnLiveFoldedUptoSaid : Prop := fnLiveFoldedUptoRow.holds Try.pinned (OpenSpec.upto fnLiveFoldedSpec)

/-- 'laws.FnFlowMore', WHERE WHAT IT READS IS OF BULK AT MOST 1048576: true; the input reads as it did. -/
def fnFlowMoreUptoRow : OpenClaim := { program := "ytancacjnbbdbfaa", sum := "1b091a3e3233e27d6ee0c3fb43d6953b188d23808520be577d0936c00b0bc1e7", func := "loop.example/causey/laws.FnFlowMore", spec := "fnFlowMore", unfollowed := true, recurses := true, apart := false, narrowed := true }
def FnFlowMoreUptoSaid : Prop := fnFlowMoreUptoRow.holds Try.pinned (OpenSpec.upto fnFlowMoreSpec)

/-- 'laws.FnFlowTwice', WHERE WHAT IT READS IS OF BULK AT MOST 1048576: true; the input reads as it did. -/
def fnFlowTwiceUptoRow : OpenClaim := { program := "ytancacjnbbdbfaa", sum := "1b091a3e3233e27d6ee0c3fb43d6953b188d23808520be577d0936c00b0bc1e7", func := "loop.example/causey/laws.FnFlowTwice", spec := "fnFlowTwice", unfollowed := true, recurses := true, apart := false, narrowed := true }
def FnFlowTwiceUptoSaid : Prop := fnFlowTwiceUptoRow.holds Try.pinned (OpenSpec.upto fnFlowTwiceSpec)

end Rows
end Go.Proofs.Ytancacjnbbdbfaa
