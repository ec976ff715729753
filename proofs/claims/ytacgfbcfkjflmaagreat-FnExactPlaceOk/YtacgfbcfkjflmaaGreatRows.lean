/-
  No cell of these rows narrows 'for every input' (looked for: loops, veiled, ifaces, maps, wideKeys, modest, calm, conditions, laid).
  DERIVED. THE GIVEN ROWS OF THIS SEAT. 6 by the template 'for every input the law returns true; each argument reads behind the call as it read before'; 0 by the template 'total and deterministic' (their statements: YtacgfbcfkjflmaaGreatTotals.lean).
  GIVEN WITH THE SEED: the statements are not yours to turn. If you find one false, say at which input.
  Laid BY PROGRAM, IN A SANDBOX (cutbox-rows.mjs): the forced cells as the released guide's own fill.sh prints them over the translation 2309c98b04fa4f1f… (all of the seat's roots in one cut). By AI agents, Wed Nov 11 2026. No macro, syntax, notation, axiom, sorry.
-/
import Derived.Test.YtacgfbcfkjflmaaGreatChecked
import GoSem.Claim
import GoSem.ClaimJoined
import GoSem.ClaimMapViews
import Derived.JoinedTies
import Derived.KernelRfl
namespace Go.Proofs.YtacgfbcfkjflmaaGreat
/- THE CELL 'sum', in the pinned program and in every row, IS THE sha256 OF THE DUMP (.gsa) THAT YtacgfbcfkjflmaaGreatProg.lean LOADS. Nothing in Lean hashes anything: it is a label: what it is worth is what the hold of that sum in a sandbox is worth. -/
noncomputable def Tryz.pinned : Pinned := { name := "ytacgfbcfkjflmaagreat", sum := "2309c98b04fa4f1f26960a4c0942d7feb08f816fb2ba68563aabe4bfe1cd8b58", checked := Tryz.checked }
namespace Rows
def none {H : Type} : Left H := { results := [], args := [] }

/-- 'laws.FnExactPathBest': WHATEVER THE INPUT: true; the input reads as it did. -/
def fnExactPathBestSpec : ChangeSpec := { name := "fnExactPathBest", fn := fun _ => fun
  | [d1, d2, d3] => { results := [.lit (.bool true)], args := [d1, d2, d3] }
  | _ => none }
def fnExactPathBestRow : OpenClaim := { program := "ytacgfbcfkjflmaagreat", sum := "2309c98b04fa4f1f26960a4c0942d7feb08f816fb2ba68563aabe4bfe1cd8b58", func := "loop.example/causey/laws.FnExactPathBest", spec := "fnExactPathBest", unfollowed := true, recurses := true, plainKeys := false, apart := false }
def FnExactPathBestSaid : Prop := fnExactPathBestRow.holds Tryz.pinned (OpenSpec.ofChange fnExactPathBestSpec)

/-- ITS FALSE NEIGHBOUR: 'it returns false'. Refute it at one input. -/
def fnExactPathBestWrong : ChangeSpec := { name := "fnExactPathBest", fn := fun _ => fun
  | [d1, d2, d3] => { results := [.lit (.bool false)], args := [d1, d2, d3] }
  | _ => none }
def FnExactPathBestWrongFalsely : Prop := fnExactPathBestRow.holds Tryz.pinned (OpenSpec.ofChange fnExactPathBestWrong)

/-- 'laws.FnExactPlaceOk': WHATEVER THE INPUT: true; the input reads as it did. -/
def fnExactPlaceOkSpec : ChangeSpec := { name := "fnExactPlaceOk", fn := fun _ => fun
  | [d1, d2, d3] => { results := [.lit (.bool true)], args := [d1, d2, d3] }
  | _ => none }
def fnExactPlaceOkRow : OpenClaim := { program := "ytacgfbcfkjflmaagreat", sum := "2309c98b04fa4f1f26960a4c0942d7feb08f816fb2ba68563aabe4bfe1cd8b58", func := "loop.example/causey/laws.FnExactPlaceOk", spec := "fnExactPlaceOk", unfollowed := true, recurses := true, plainKeys := false, apart := false }
def FnExactPlaceOkSaid : Prop := fnExactPlaceOkRow.holds Tryz.pinned (OpenSpec.ofChange fnExactPlaceOkSpec)

/-- ITS FALSE NEIGHBOUR: 'it returns false'. Refute it at one input. -/
def fnExactPlaceOkWrong : ChangeSpec := { name := "fnExactPlaceOk", fn := fun _ => fun
  | [d1, d2, d3] => { results := [.lit (.bool false)], args := [d1, d2, d3] }
  | _ => none }
def FnExactPlaceOkWrongFalsely : Prop := fnExactPlaceOkRow.holds Tryz.pinned (OpenSpec.ofChange fnExactPlaceOkWrong)

/-- 'laws.FnExactPlaceDo': WHATEVER THE INPUT: true; the input reads as it did. -/
def fnExactPlaceDoSpec : ChangeSpec := { name := "fnExactPlaceDo", fn := fun _ => fun
  | [d1, d2, d3, d4] => { results := [.lit (.bool true)], args := [d1, d2, d3, d4] }
  | _ => none }
def fnExactPlaceDoRow : OpenClaim := { program := "ytacgfbcfkjflmaagreat", sum := "2309c98b04fa4f1f26960a4c0942d7feb08f816fb2ba68563aabe4bfe1cd8b58", func := "loop.example/causey/laws.FnExactPlaceDo", spec := "fnExactPlaceDo", unfollowed := true, recurses := true, plainKeys := false, apart := false }
def FnExactPlaceDoSaid : Prop := fnExactPlaceDoRow.holds Tryz.pinned (OpenSpec.ofChange fnExactPlaceDoSpec)

/-- ITS FALSE NEIGHBOUR: 'it returns false'. Refute it at one input. -/
def fnExactPlaceDoWrong : ChangeSpec := { name := "fnExactPlaceDo", fn := fun _ => fun
  | [d1, d2, d3, d4] => { results := [.lit (.bool false)], args := [d1, d2, d3, d4] }
  | _ => none }
def FnExactPlaceDoWrongFalsely : Prop := fnExactPlaceDoRow.holds Tryz.pinned (OpenSpec.ofChange fnExactPlaceDoWrong)

/-- 'laws.FnPlaceLess': WHATEVER THE INPUT: true; the input reads as it did. -/
def fnPlaceLessSpec : ChangeSpec := { name := "fnPlaceLess", fn := fun _ => fun
  | [d1, d2] => { results := [.lit (.bool true)], args := [d1, d2] }
  | _ => none }
def fnPlaceLessRow : OpenClaim := { program := "ytacgfbcfkjflmaagreat", sum := "2309c98b04fa4f1f26960a4c0942d7feb08f816fb2ba68563aabe4bfe1cd8b58", func := "loop.example/causey/laws.FnPlaceLess", spec := "fnPlaceLess", unfollowed := true, recurses := true, plainKeys := false, apart := false }
def FnPlaceLessSaid : Prop := fnPlaceLessRow.holds Tryz.pinned (OpenSpec.ofChange fnPlaceLessSpec)

/-- ITS FALSE NEIGHBOUR: 'it returns false'. Refute it at one input. -/
def fnPlaceLessWrong : ChangeSpec := { name := "fnPlaceLess", fn := fun _ => fun
  | [d1, d2] => { results := [.lit (.bool false)], args := [d1, d2] }
  | _ => none }
def FnPlaceLessWrongFalsely : Prop := fnPlaceLessRow.holds Tryz.pinned (OpenSpec.ofChange fnPlaceLessWrong)

/-- 'laws.FnPlaceStill': WHATEVER THE INPUT: true; the input reads as it did. -/
def fnPlaceStillSpec : ChangeSpec := { name := "fnPlaceStill", fn := fun _ => fun
  | [d] => { results := [.lit (.bool true)], args := [d] }
  | _ => none }
def fnPlaceStillRow : OpenClaim := { program := "ytacgfbcfkjflmaagreat", sum := "2309c98b04fa4f1f26960a4c0942d7feb08f816fb2ba68563aabe4bfe1cd8b58", func := "loop.example/causey/laws.FnPlaceStill", spec := "fnPlaceStill", unfollowed := true, recurses := true, plainKeys := false, apart := false }
def FnPlaceStillSaid : Prop := fnPlaceStillRow.holds Tryz.pinned (OpenSpec.ofChange fnPlaceStillSpec)

/-- ITS FALSE NEIGHBOUR: 'it returns false'. Refute it at one input. -/
def fnPlaceStillWrong : ChangeSpec := { name := "fnPlaceStill", fn := fun _ => fun
  | [d] => { results := [.lit (.bool false)], args := [d] }
  | _ => none }
def FnPlaceStillWrongFalsely : Prop := fnPlaceStillRow.holds Tryz.pinned (OpenSpec.ofChange fnPlaceStillWrong)

/-- 'laws.FnPlaceSize': WHATEVER THE INPUT: true; the input reads as it did. -/
def fnPlaceSizeSpec : ChangeSpec := { name := "fnPlaceSize", fn := fun _ => fun
  | [d] => { results := [.lit (.bool true)], args := [d] }
  | _ => none }
def fnPlaceSizeRow : OpenClaim := { program := "ytacgfbcfkjflmaagreat", sum := "2309c98b04fa4f1f26960a4c0942d7feb08f816fb2ba68563aabe4bfe1cd8b58", func := "loop.example/causey/laws.FnPlaceSize", spec := "fnPlaceSize", unfollowed := true, recurses := true, plainKeys := false, apart := false }
def FnPlaceSizeSaid : Prop := fnPlaceSizeRow.holds Tryz.pinned (OpenSpec.ofChange fnPlaceSizeSpec)

/-- ITS FALSE NEIGHBOUR: 'it returns false'. Refute it at one input. -/
def fnPlaceSizeWrong : ChangeSpec := { name := "fnPlaceSize", fn := fun _ => fun
  | [d] => { results := [.lit (.bool false)], args := [d] }
  | _ => none }
def FnPlaceSizeWrongFalsely : Prop := fnPlaceSizeRow.holds Tryz.pinned (OpenSpec.ofChange fnPlaceSizeWrong)

/- THE SECOND FORM. 'bulk': how many values and letters a reading holds, each counted each time it is reached (what is shared counts as often as it is met; a slice's spare places count too). A statement '..UptoSaid' is the law's where the arguments, and the package variables that the reading takes, are together of bulk at most 1048576: NARROWER than '..Said'. Prove '..Said' where nothing that the law and all that it calls make is longer than what came in: it says more and counts as full. Else prove '..UptoSaid'. A law counts once. -/
mutual
def uptoBulk {H : Type} : DataW H → Nat
  | .lit (.string bytes) => bytes.length + 1
  | .lit _ => 1
  | .nil => 1
  | .ptr d => uptoBulk d + 1
  | .slice elems spare => uptoBulkAll elems + uptoBulkAll spare + 1
  | .agg parts => uptoBulkAll parts + 1
  | .iface _ d => uptoBulk d + 1
  | .map entries => uptoBulkEntries entries + 1
  | .held _ => 1
def uptoBulkAll {H : Type} : List (DataW H) → Nat
  | [] => 0
  | d :: r => uptoBulk d + uptoBulkAll r
def uptoBulkEntries {H : Type} : List (Lit × DataW H) → Nat
  | [] => 0
  | x :: r => uptoBulkEntry x + uptoBulkEntries r
def uptoBulkEntry {H : Type} : Lit × DataW H → Nat
  | (.string bytes, d) => bytes.length + uptoBulk d + 1
  | (_, d) => uptoBulk d + 1
 end
def uptoSmall : (H : Type) → List (DataW H) → Bool := fun _ ds => decide (uptoBulkAll ds ≤ 1048576)
def OpenSpec.upto (s : _root_.Go.ChangeSpec) : _root_.Go.OpenSpec := { _root_.Go.OpenSpec.ofChange s with cond := some uptoSmall }

/-- 'laws.FnExactPathBest', WHERE WHAT IT READS IS OF BULK AT MOST 1048576: true; the input reads as it did. -/
def fnExactPathBestUptoRow : OpenClaim := { program := "ytacgfbcfkjflmaagreat", sum := "2309c98b04fa4f1f26960a4c0942d7feb08f816fb2ba68563aabe4bfe1cd8b58", func := "loop.example/causey/laws.FnExactPathBest", spec := "fnExactPathBest", unfollowed := true, recurses := true, plainKeys := false, apart := false, narrowed := true }
def FnExactPathBestUptoSaid : Prop := fnExactPathBestUptoRow.holds Tryz.pinned (OpenSpec.upto fnExactPathBestSpec)

/-- 'laws.FnExactPlaceOk', WHERE WHAT IT READS IS OF BULK AT MOST 1048576: true; the input reads as it did. -/
def fnExactPlaceOkUptoRow : OpenClaim := { program := "ytacgfbcfkjflmaagreat", sum := "2309c98b04fa4f1f26960a4c0942d7feb08f816fb2ba68563aabe4bfe1cd8b58", func := "loop.example/causey/laws.FnExactPlaceOk", spec := "fnExactPlaceOk", unfollowed := true, recurses := true, plainKeys := false, apart := false, narrowed := true }
def FnExactPlaceOkUptoSaid : Prop := fnExactPlaceOkUptoRow.holds Tryz.pinned (OpenSpec.upto fnExactPlaceOkSpec)

/-- 'laws.FnExactPlaceDo', WHERE WHAT IT READS IS OF BULK AT MOST 1048576: true; the input reads as it did. -/
def fnExactPlaceDoUptoRow : OpenClaim := { program := "ytacgfbcfkjflmaagreat", sum := "2309c98b04fa4f1f26960a4c0942d7feb08f816fb2ba68563aabe4bfe1cd8b58", func := "loop.example/causey/laws.FnExactPlaceDo", spec := "fnExactPlaceDo", unfollowed := true, recurses := true, plainKeys := false, apart := false, narrowed := true }
def FnExactPlaceDoUptoSaid : Prop := fnExactPlaceDoUptoRow.holds Tryz.pinned (OpenSpec.upto fnExactPlaceDoSpec)

/-- 'laws.FnPlaceLess', WHERE WHAT IT READS IS OF BULK AT MOST 1048576: true; the input reads as it did. -/
def fnPlaceLessUptoRow : OpenClaim := { program := "ytacgfbcfkjflmaagreat", sum := "2309c98b04fa4f1f26960a4c0942d7feb08f816fb2ba68563aabe4bfe1cd8b58", func := "loop.example/causey/laws.FnPlaceLess", spec := "fnPlaceLess", unfollowed := true, recurses := true, plainKeys := false, apart := false, narrowed := true }
def FnPlaceLessUptoSaid : Prop := fnPlaceLessUptoRow.holds Tryz.pinned (OpenSpec.upto fnPlaceLessSpec)

/-- 'laws.FnPlaceStill', WHERE WHAT IT READS IS OF BULK AT MOST 1048576: true; the input reads as it did. -/
def fnPlaceStillUptoRow : OpenClaim := { program := "ytacgfbcfkjflmaagreat", sum := "2309c98b04fa4f1f26960a4c0942d7feb08f816fb2ba68563aabe4bfe1cd8b58", func := "loop.example/causey/laws.FnPlaceStill", spec := "fnPlaceStill", unfollowed := true, recurses := true, plainKeys := false, apart := false, narrowed := true }
def FnPlaceStillUptoSaid : Prop := fnPlaceStillUptoRow.holds Tryz.pinned (OpenSpec.upto fnPlaceStillSpec)

/-- 'laws.FnPlaceSize', WHERE WHAT IT READS IS OF BULK AT MOST 1048576: true; the input reads as it did. -/
def fnPlaceSizeUptoRow : OpenClaim := { program := "ytacgfbcfkjflmaagreat", sum := "2309c98b04fa4f1f26960a4c0942d7feb08f816fb2ba68563aabe4bfe1cd8b58", func := "loop.example/causey/laws.FnPlaceSize", spec := "fnPlaceSize", unfollowed := true, recurses := true, plainKeys := false, apart := false, narrowed := true }
def FnPlaceSizeUptoSaid : Prop := fnPlaceSizeUptoRow.holds Tryz.pinned (OpenSpec.upto fnPlaceSizeSpec)

end Rows
end Go.Proofs.YtacgfbcfkjflmaaGreat
