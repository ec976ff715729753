/-
  No cell of these rows narrows 'for every input' (looked for: loops, veiled, ifaces, maps, wideKeys, modest, calm, conditions, laid).
  DERIVED. THE GIVEN ROWS OF THIS SEAT. 6 by the template 'for every input the law returns true; each argument reads behind the call as it read before'; 0 by the template 'total and deterministic' (their statements: YtacgfbcfkjflmaaTotals.lean).
  GIVEN WITH THE SEED: the statements are not yours to turn. If you find one false, say at which input.
  Laid BY PROGRAM, IN A SANDBOX (cutbox-rows.mjs): the forced cells as the released guide's own fill.sh prints them over the translation 632787a332745556… (all of the seat's roots in one cut). By AI agents, Wed Nov 11 2026. No macro, syntax, notation, axiom, sorry.
-/
import Derived.Test.YtacgfbcfkjflmaaChecked
import GoSem.Claim
import GoSem.ClaimJoined
import GoSem.ClaimMapViews
import Derived.JoinedTies
import Derived.KernelRfl
namespace Go.Proofs.Ytacgfbcfkjflmaa
/- THE CELL 'sum', in the pinned program and in every row, IS THE sha256 OF THE DUMP (.gsa) THAT YtacgfbcfkjflmaaProg.lean LOADS. Nothing in Lean hashes anything: it is a label: what it is worth is what the hold of that sum in a sandbox is worth. -/
noncomputable def Try.pinned : Pinned := { name := "ytacgfbcfkjflmaa", sum := "632787a33274555605acccaa13ed4ba3e5b8ddc864ad964859f600af85c81747", checked := Try.checked }
namespace Rows
def none {H : Type} : Left H := { results := [], args := [] }

/-- 'laws.FnExactPathOk': WHATEVER THE INPUT: true; the input reads as it did. -/
def fnExactPathOkSpec : ChangeSpec := { name := "fnExactPathOk", fn := fun _ => fun
  | [d1, d2] => { results := [.lit (.bool true)], args := [d1, d2] }
  | _ => none }
def fnExactPathOkRow : OpenClaim := { program := "ytacgfbcfkjflmaa", sum := "632787a33274555605acccaa13ed4ba3e5b8ddc864ad964859f600af85c81747", func := "loop.example/causey/laws.FnExactPathOk", spec := "fnExactPathOk", unfollowed := true, recurses := true, plainKeys := false, apart := false }
def FnExactPathOkSaid : Prop := fnExactPathOkRow.holds Try.pinned (OpenSpec.ofChange fnExactPathOkSpec)

/-- ITS FALSE NEIGHBOUR: 'it returns false'. Refute it at one input. -/
def fnExactPathOkWrong : ChangeSpec := { name := "fnExactPathOk", fn := fun _ => fun
  | [d1, d2] => { results := [.lit (.bool false)], args := [d1, d2] }
  | _ => none }
def FnExactPathOkWrongFalsely : Prop := fnExactPathOkRow.holds Try.pinned (OpenSpec.ofChange fnExactPathOkWrong)

/-- 'laws.FnExactPathCount': WHATEVER THE INPUT: true; the input reads as it did. -/
def fnExactPathCountSpec : ChangeSpec := { name := "fnExactPathCount", fn := fun _ => fun
  | [d1, d2, d3, d4] => { results := [.lit (.bool true)], args := [d1, d2, d3, d4] }
  | _ => none }
def fnExactPathCountRow : OpenClaim := { program := "ytacgfbcfkjflmaa", sum := "632787a33274555605acccaa13ed4ba3e5b8ddc864ad964859f600af85c81747", func := "loop.example/causey/laws.FnExactPathCount", spec := "fnExactPathCount", unfollowed := true, recurses := true, plainKeys := false, apart := false }
def FnExactPathCountSaid : Prop := fnExactPathCountRow.holds Try.pinned (OpenSpec.ofChange fnExactPathCountSpec)

/-- ITS FALSE NEIGHBOUR: 'it returns false'. Refute it at one input. -/
def fnExactPathCountWrong : ChangeSpec := { name := "fnExactPathCount", fn := fun _ => fun
  | [d1, d2, d3, d4] => { results := [.lit (.bool false)], args := [d1, d2, d3, d4] }
  | _ => none }
def FnExactPathCountWrongFalsely : Prop := fnExactPathCountRow.holds Try.pinned (OpenSpec.ofChange fnExactPathCountWrong)

/-- 'laws.FnExactPathOf': WHATEVER THE INPUT: true; the input reads as it did. -/
def fnExactPathOfSpec : ChangeSpec := { name := "fnExactPathOf", fn := fun _ => fun
  | [d1, d2] => { results := [.lit (.bool true)], args := [d1, d2] }
  | _ => none }
def fnExactPathOfRow : OpenClaim := { program := "ytacgfbcfkjflmaa", sum := "632787a33274555605acccaa13ed4ba3e5b8ddc864ad964859f600af85c81747", func := "loop.example/causey/laws.FnExactPathOf", spec := "fnExactPathOf", unfollowed := true, recurses := true, plainKeys := false, apart := false }
def FnExactPathOfSaid : Prop := fnExactPathOfRow.holds Try.pinned (OpenSpec.ofChange fnExactPathOfSpec)

/-- ITS FALSE NEIGHBOUR: 'it returns false'. Refute it at one input. -/
def fnExactPathOfWrong : ChangeSpec := { name := "fnExactPathOf", fn := fun _ => fun
  | [d1, d2] => { results := [.lit (.bool false)], args := [d1, d2] }
  | _ => none }
def FnExactPathOfWrongFalsely : Prop := fnExactPathOfRow.holds Try.pinned (OpenSpec.ofChange fnExactPathOfWrong)

/-- 'laws.FnPathOk': WHATEVER THE INPUT: true; the input reads as it did. -/
def fnPathOkSpec : ChangeSpec := { name := "fnPathOk", fn := fun _ => fun
  | [d] => { results := [.lit (.bool true)], args := [d] }
  | _ => none }
def fnPathOkRow : OpenClaim := { program := "ytacgfbcfkjflmaa", sum := "632787a33274555605acccaa13ed4ba3e5b8ddc864ad964859f600af85c81747", func := "loop.example/causey/laws.FnPathOk", spec := "fnPathOk", unfollowed := true, recurses := true, plainKeys := false, apart := false }
def FnPathOkSaid : Prop := fnPathOkRow.holds Try.pinned (OpenSpec.ofChange fnPathOkSpec)

/-- ITS FALSE NEIGHBOUR: 'it returns false'. Refute it at one input. -/
def fnPathOkWrong : ChangeSpec := { name := "fnPathOk", fn := fun _ => fun
  | [d] => { results := [.lit (.bool false)], args := [d] }
  | _ => none }
def FnPathOkWrongFalsely : Prop := fnPathOkRow.holds Try.pinned (OpenSpec.ofChange fnPathOkWrong)

/-- 'laws.FnPathOf': WHATEVER THE INPUT: true; the input reads as it did. -/
def fnPathOfSpec : ChangeSpec := { name := "fnPathOf", fn := fun _ => fun
  | [d] => { results := [.lit (.bool true)], args := [d] }
  | _ => none }
def fnPathOfRow : OpenClaim := { program := "ytacgfbcfkjflmaa", sum := "632787a33274555605acccaa13ed4ba3e5b8ddc864ad964859f600af85c81747", func := "loop.example/causey/laws.FnPathOf", spec := "fnPathOf", unfollowed := true, recurses := true, plainKeys := false, apart := false }
def FnPathOfSaid : Prop := fnPathOfRow.holds Try.pinned (OpenSpec.ofChange fnPathOfSpec)

/-- ITS FALSE NEIGHBOUR: 'it returns false'. Refute it at one input. -/
def fnPathOfWrong : ChangeSpec := { name := "fnPathOf", fn := fun _ => fun
  | [d] => { results := [.lit (.bool false)], args := [d] }
  | _ => none }
def FnPathOfWrongFalsely : Prop := fnPathOfRow.holds Try.pinned (OpenSpec.ofChange fnPathOfWrong)

/-- 'laws.FnPathSum': WHATEVER THE INPUT: true; the input reads as it did. -/
def fnPathSumSpec : ChangeSpec := { name := "fnPathSum", fn := fun _ => fun
  | [d] => { results := [.lit (.bool true)], args := [d] }
  | _ => none }
def fnPathSumRow : OpenClaim := { program := "ytacgfbcfkjflmaa", sum := "632787a33274555605acccaa13ed4ba3e5b8ddc864ad964859f600af85c81747", func := "loop.example/causey/laws.FnPathSum", spec := "fnPathSum", unfollowed := true, recurses := true, plainKeys := false, apart := false }
def FnPathSumSaid : Prop := fnPathSumRow.holds Try.pinned (OpenSpec.ofChange fnPathSumSpec)

/-- ITS FALSE NEIGHBOUR: 'it returns false'. Refute it at one input. -/
def fnPathSumWrong : ChangeSpec := { name := "fnPathSum", fn := fun _ => fun
  | [d] => { results := [.lit (.bool false)], args := [d] }
  | _ => none }
def FnPathSumWrongFalsely : Prop := fnPathSumRow.holds Try.pinned (OpenSpec.ofChange fnPathSumWrong)

/- THE SECOND FORM. 'bulk': how many values and letters a reading holds, each counted each time it is reached (what is shared counts as often as it is met; a slice's spare places count too). A statement '..UptoSaid' is the law's where the arguments, and the package variables that the reading takes, are together of bulk at most 1048576: NARROWER than '..Said'. Prove '..Said' where nothing that the law and all that it calls make is longer than what came in: it says more and counts as full. Else prove '..UptoSaid'. A law counts once. -/
mutual
def uptoBulk {H : Type} : DataW H → Nat
  | .lit (.string bytes) => bytes.length + 1
  | .lit _ => 1
  | .nil => 1
  | .ptr d => uptoBulk d + 1
  | .slice elems spare => uptoBulkAll elems + uptoBulkAll spare + 1
  | .agg parts => uptoBulkAll parts + 1
  | .iface _ d => uptoBulk d + 1
  | .map entries => uptoBulkEntries entries + 1
  | .held _ => 1
def uptoBulkAll {H : Type} : List (DataW H) → Nat
  | [] => 0
  | d :: r => uptoBulk d + uptoBulkAll r
def uptoBulkEntries {H : Type} : List (Lit × DataW H) → Nat
  | [] => 0
  | x :: r => uptoBulkEntry x + uptoBulkEntries r
def uptoBulkEntry {H : Type} : Lit × DataW H → Nat
  | (.string bytes, d) => bytes.length + uptoBulk d + 1
  | (_, d) => uptoBulk d + 1
 end
def uptoSmall : (H : Type) → List (DataW H) → Bool := fun _ ds => decide (uptoBulkAll ds ≤ 1048576)
def OpenSpec.upto (s : _root_.Go.ChangeSpec) : _root_.Go.OpenSpec := { _root_.Go.OpenSpec.ofChange s with cond := some uptoSmall }

/-- 'laws.FnExactPathOk', WHERE WHAT IT READS IS OF BULK AT MOST 1048576: true; the input reads as it did. -/
def fnExactPathOkUptoRow : OpenClaim := { program := "ytacgfbcfkjflmaa", sum := "632787a33274555605acccaa13ed4ba3e5b8ddc864ad964859f600af85c81747", func := "loop.example/causey/laws.FnExactPathOk", spec := "fnExactPathOk", unfollowed := true, recurses := true, plainKeys := false, apart := false, narrowed := true }
def FnExactPathOkUptoSaid : Prop := fnExactPathOkUptoRow.holds Try.pinned (OpenSpec.upto fnExactPathOkSpec)

/-- 'laws.FnExactPathCount', WHERE WHAT IT READS IS OF BULK AT MOST 1048576: true; the input reads as it did. -/
def fnExactPathCountUptoRow : OpenClaim := { program := "ytacgfbcfkjflmaa", sum := "632787a33274555605acccaa13ed4ba3e5b8ddc864ad964859f600af85c81747", func := "loop.example/causey/laws.FnExactPathCount", spec := "fnExactPathCount", unfollowed := true, recurses := true, plainKeys := false, apart := false, narrowed := true }
def FnExactPathCountUptoSaid : Prop := fnExactPathCountUptoRow.holds Try.pinned (OpenSpec.upto fnExactPathCountSpec)

/-- 'laws.FnExactPathOf', WHERE WHAT IT READS IS OF BULK AT MOST 1048576: true; the input reads as it did. -/
def fnExactPathOfUptoRow : OpenClaim := { program := "ytacgfbcfkjflmaa", sum := "632787a33274555605acccaa13ed4ba3e5b8ddc864ad964859f600af85c81747", func := "loop.example/causey/laws.FnExactPathOf", spec := "fnExactPathOf", unfollowed := true, recurses := true, plainKeys := false, apart := false, narrowed := true }
def FnExactPathOfUptoSaid : Prop := fnExactPathOfUptoRow.holds Try.pinned (OpenSpec.upto fnExactPathOfSpec)

/-- 'laws.FnPathOk', WHERE WHAT IT READS IS OF BULK AT MOST 1048576: true; the input reads as it did. -/
def fnPathOkUptoRow : OpenClaim := { program := "ytacgfbcfkjflmaa", sum := "632787a33274555605acccaa13ed4ba3e5b8ddc864ad964859f600af85c81747", func := "loop.example/causey/laws.FnPathOk", spec := "fnPathOk", unfollowed := true, recurses := true, plainKeys := false, apart := false, narrowed := true }
def FnPathOkUptoSaid : Prop := fnPathOkUptoRow.holds Try.pinned (OpenSpec.upto fnPathOkSpec)

/-- 'laws.FnPathOf', WHERE WHAT IT READS IS OF BULK AT MOST 1048576: true; the input reads as it did. -/
def fnPathOfUptoRow : OpenClaim := { program := "ytacgfbcfkjflmaa", sum := "632787a33274555605acccaa13ed4ba3e5b8ddc864ad964859f600af85c81747", func := "loop.example/causey/laws.FnPathOf", spec := "fnPathOf", unfollowed := true, recurses := true, plainKeys := false, apart := false, narrowed := true }
def FnPathOfUptoSaid : Prop := fnPathOfUptoRow.holds Try.pinned (OpenSpec.upto fnPathOfSpec)

/-- 'laws.FnPathSum', WHERE WHAT IT READS IS OF BULK AT MOST 1048576: true; the input reads as it did. -/
def fnPathSumUptoRow : OpenClaim := { program := "ytacgfbcfkjflmaa", sum := "632787a33274555605acccaa13ed4ba3e5b8ddc864ad964859f600af85c81747", func := "loop.example/causey/laws.FnPathSum", spec := "fnPathSum", unfollowed := true, recurses := true, plainKeys := false, apart := false, narrowed := true }
def FnPathSumUptoSaid : Prop := fnPathSumUptoRow.holds Try.pinned (OpenSpec.upto fnPathSumSpec)

end Rows
end Go.Proofs.Ytacgfbcfkjflmaa
