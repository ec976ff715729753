/-
  NARROWER THAN 'FOR EVERY INPUT', by the rows' own cells (each row's printed sentence says how): FnExactRunOf: ifaces, laid · FnRunMore: ifaces, laid · FnRunPath: ifaces, laid · FnRunIn: ifaces, laid · FnRunOuts: ifaces, laid · FnRunFree: ifaces, laid · FnRunNull: ifaces, laid · FnProgEnd: ifaces, laid · FnFlowTidy: ifaces, laid.
  DERIVED. THE GIVEN ROWS OF THIS SEAT. 9 by the template 'for every input the law returns true; each argument reads behind the call as it read before'; 0 by the template 'total and deterministic' (their statements: YtnlcdecokpdkpaaDoorTotals.lean).
  GIVEN WITH THE SEED: the statements are not yours to turn. If you find one false, say at which input.
  Laid BY PROGRAM, IN A SANDBOX (cutbox-rows.mjs): the forced cells as the released guide's own fill.sh prints them over the translation 2ef4eacc945df062… (all of the seat's roots in one cut). By AI agents, Wed Nov 11 2026. No macro, syntax, notation, axiom, sorry.
-/
import Derived.Test.YtnlcdecokpdkpaaDoorChecked
import GoSem.Claim
import GoSem.ClaimJoined
import GoSem.ClaimMapViews
import Derived.JoinedTies
import Derived.KernelRfl
namespace Go.Proofs.YtnlcdecokpdkpaaDoor
/- THE CELL 'sum', in the pinned program and in every row, IS THE sha256 OF THE DUMP (.gsa) THAT YtnlcdecokpdkpaaDoorProg.lean LOADS. Nothing in Lean hashes anything: it is a label: what it is worth is what the hold of that sum in a sandbox is worth. -/
noncomputable def Tryd.pinned : Pinned := { name := "ytnlcdecokpdkpaadoor", sum := "2ef4eacc945df062e6a6026d40d9cf4e2a11cf84c410770f8a43c066ccdfacd1", checked := Tryd.checked }
namespace Rows
def none {H : Type} : Left H := { results := [], args := [] }

/- WHAT THE LISTED PACKAGE-LEVEL VARIABLES READ AS WHEN THE CALL BEGINS. Each datum BY PROGRAM (the guide's laid-datum.mjs) off the statement by which the dump's own 'gosem.cut.vars' lays the variable. In a bare row this is a premise. The card (YtnlcdecokpdkpaaDoorCards.lean) ties it to the program's text. -/
def laid_loop_example_causey_impl_errEnded {H : Type} : DataW H := .iface "*errors.errorString" (.ptr (.agg [.lit (.string [116, 104, 101, 32, 112, 114, 111, 103, 114, 97, 109, 32, 101, 110, 100, 101, 100])]))
def laid_loop_example_causey_impl_errLong {H : Type} : DataW H := .iface "*errors.errorString" (.ptr (.agg [.lit (.string [110, 111, 32, 109, 111, 114, 101, 32, 115, 116, 101, 112, 115, 32, 109, 97, 121, 32, 98, 101, 32, 99, 111, 109, 101, 32, 116, 111])]))
def laid_loop_example_causey_impl_errDry {H : Type} : DataW H := .iface "*errors.errorString" (.ptr (.agg [.lit (.string [110, 111, 116, 104, 105, 110, 103, 32, 105, 115, 32, 108, 101, 102, 116, 32, 111, 102, 32, 119, 104, 97, 116, 32, 99, 111, 109, 101, 115, 32, 105, 110])]))

/-- 'laws.FnExactRunOf': WHATEVER THE INPUT: true; the input reads as it did. -/
def fnExactRunOfSpec : ChangeSpec := { name := "fnExactRunOf", vars := ["loop.example/causey/impl.errLong", "loop.example/causey/impl.errEnded", "loop.example/causey/impl.errDry"], fn := fun _ => fun
  | [d1, d2, d3, g1, g2, g3] => { results := [.lit (.bool true)], args := [d1, d2, d3], vars := [g1, g2, g3] }
  | _ => none }
def fnExactRunOfRow : OpenClaim := { program := "ytnlcdecokpdkpaadoor", sum := "2ef4eacc945df062e6a6026d40d9cf4e2a11cf84c410770f8a43c066ccdfacd1", func := "loop.example/causey/laws.FnExactRunOf", spec := "fnExactRunOf", inPlace := ["internal/reflectlite.TypeOf"], unfollowed := true, recurses := true, named := ["loop.example/causey/impl.errLong", "loop.example/causey/impl.errEnded", "loop.example/causey/impl.errDry"], ifaces := true, apart := false, laid := [("loop.example/causey/impl.errEnded", laid_loop_example_causey_impl_errEnded), ("loop.example/causey/impl.errLong", laid_loop_example_causey_impl_errLong), ("loop.example/causey/impl.errDry", laid_loop_example_causey_impl_errDry)] }
def FnExactRunOfSaid : Prop := fnExactRunOfRow.holds Tryd.pinned (OpenSpec.ofChange fnExactRunOfSpec)

/-- ITS FALSE NEIGHBOUR: 'it returns false'. Refute it at one input. -/
def fnExactRunOfWrong : ChangeSpec := { name := "fnExactRunOf", vars := ["loop.example/causey/impl.errLong", "loop.example/causey/impl.errEnded", "loop.example/causey/impl.errDry"], fn := fun _ => fun
  | [d1, d2, d3, g1, g2, g3] => { results := [.lit (.bool false)], args := [d1, d2, d3], vars := [g1, g2, g3] }
  | _ => none }
def FnExactRunOfWrongFalsely : Prop := fnExactRunOfRow.holds Tryd.pinned (OpenSpec.ofChange fnExactRunOfWrong)

/-- 'laws.FnRunMore': WHATEVER THE INPUT: true; the input reads as it did. -/
def fnRunMoreSpec : ChangeSpec := { name := "fnRunMore", vars := ["loop.example/causey/impl.errLong", "loop.example/causey/impl.errEnded", "loop.example/causey/impl.errDry"], fn := fun _ => fun
  | [d, g1, g2, g3] => { results := [.lit (.bool true)], args := [d], vars := [g1, g2, g3] }
  | _ => none }
def fnRunMoreRow : OpenClaim := { program := "ytnlcdecokpdkpaadoor", sum := "2ef4eacc945df062e6a6026d40d9cf4e2a11cf84c410770f8a43c066ccdfacd1", func := "loop.example/causey/laws.FnRunMore", spec := "fnRunMore", inPlace := ["internal/reflectlite.TypeOf"], unfollowed := true, recurses := true, named := ["loop.example/causey/impl.errLong", "loop.example/causey/impl.errEnded", "loop.example/causey/impl.errDry"], ifaces := true, apart := false, laid := [("loop.example/causey/impl.errEnded", laid_loop_example_causey_impl_errEnded), ("loop.example/causey/impl.errLong", laid_loop_example_causey_impl_errLong), ("loop.example/causey/impl.errDry", laid_loop_example_causey_impl_errDry)] }
def FnRunMoreSaid : Prop := fnRunMoreRow.holds Tryd.pinned (OpenSpec.ofChange fnRunMoreSpec)

/-- ITS FALSE NEIGHBOUR: 'it returns false'. Refute it at one input. -/
def fnRunMoreWrong : ChangeSpec := { name := "fnRunMore", vars := ["loop.example/causey/impl.errLong", "loop.example/causey/impl.errEnded", "loop.example/causey/impl.errDry"], fn := fun _ => fun
  | [d, g1, g2, g3] => { results := [.lit (.bool false)], args := [d], vars := [g1, g2, g3] }
  | _ => none }
def FnRunMoreWrongFalsely : Prop := fnRunMoreRow.holds Tryd.pinned (OpenSpec.ofChange fnRunMoreWrong)

/-- 'laws.FnRunPath': WHATEVER THE INPUT: true; the input reads as it did. -/
def fnRunPathSpec : ChangeSpec := { name := "fnRunPath", vars := ["loop.example/causey/impl.errLong", "loop.example/causey/impl.errEnded", "loop.example/causey/impl.errDry"], fn := fun _ => fun
  | [d, g1, g2, g3] => { results := [.lit (.bool true)], args := [d], vars := [g1, g2, g3] }
  | _ => none }
def fnRunPathRow : OpenClaim := { program := "ytnlcdecokpdkpaadoor", sum := "2ef4eacc945df062e6a6026d40d9cf4e2a11cf84c410770f8a43c066ccdfacd1", func := "loop.example/causey/laws.FnRunPath", spec := "fnRunPath", inPlace := ["internal/reflectlite.TypeOf"], unfollowed := true, recurses := true, named := ["loop.example/causey/impl.errLong", "loop.example/causey/impl.errEnded", "loop.example/causey/impl.errDry"], ifaces := true, apart := false, laid := [("loop.example/causey/impl.errEnded", laid_loop_example_causey_impl_errEnded), ("loop.example/causey/impl.errLong", laid_loop_example_causey_impl_errLong), ("loop.example/causey/impl.errDry", laid_loop_example_causey_impl_errDry)] }
def FnRunPathSaid : Prop := fnRunPathRow.holds Tryd.pinned (OpenSpec.ofChange fnRunPathSpec)

/-- ITS FALSE NEIGHBOUR: 'it returns false'. Refute it at one input. -/
def fnRunPathWrong : ChangeSpec := { name := "fnRunPath", vars := ["loop.example/causey/impl.errLong", "loop.example/causey/impl.errEnded", "loop.example/causey/impl.errDry"], fn := fun _ => fun
  | [d, g1, g2, g3] => { results := [.lit (.bool false)], args := [d], vars := [g1, g2, g3] }
  | _ => none }
def FnRunPathWrongFalsely : Prop := fnRunPathRow.holds Tryd.pinned (OpenSpec.ofChange fnRunPathWrong)

/-- 'laws.FnRunIn': WHATEVER THE INPUT: true; the input reads as it did. -/
def fnRunInSpec : ChangeSpec := { name := "fnRunIn", vars := ["loop.example/causey/impl.errLong", "loop.example/causey/impl.errEnded", "loop.example/causey/impl.errDry"], fn := fun _ => fun
  | [d1, d2, g1, g2, g3] => { results := [.lit (.bool true)], args := [d1, d2], vars := [g1, g2, g3] }
  | _ => none }
def fnRunInRow : OpenClaim := { program := "ytnlcdecokpdkpaadoor", sum := "2ef4eacc945df062e6a6026d40d9cf4e2a11cf84c410770f8a43c066ccdfacd1", func := "loop.example/causey/laws.FnRunIn", spec := "fnRunIn", inPlace := ["internal/reflectlite.TypeOf"], unfollowed := true, recurses := true, named := ["loop.example/causey/impl.errLong", "loop.example/causey/impl.errEnded", "loop.example/causey/impl.errDry"], ifaces := true, apart := false, laid := [("loop.example/causey/impl.errEnded", laid_loop_example_causey_impl_errEnded), ("loop.example/causey/impl.errLong", laid_loop_example_causey_impl_errLong), ("loop.example/causey/impl.errDry", laid_loop_example_causey_impl_errDry)] }
def FnRunInSaid : Prop := fnRunInRow.holds Tryd.pinned (OpenSpec.ofChange fnRunInSpec)

/-- ITS FALSE NEIGHBOUR: 'it returns false'. Refute it at one input. -/
def fnRunInWrong : ChangeSpec := { name := "fnRunIn", vars := ["loop.example/causey/impl.errLong", "loop.example/causey/impl.errEnded", "loop.example/causey/impl.errDry"], fn := fun _ => fun
  | [d1, d2, g1, g2, g3] => { results := [.lit (.bool false)], args := [d1, d2], vars := [g1, g2, g3] }
  | _ => none }
def FnRunInWrongFalsely : Prop := fnRunInRow.holds Tryd.pinned (OpenSpec.ofChange fnRunInWrong)

/-- 'laws.FnRunOuts': WHATEVER THE INPUT: true; the input reads as it did. -/
def fnRunOutsSpec : ChangeSpec := { name := "fnRunOuts", vars := ["loop.example/causey/impl.errLong", "loop.example/causey/impl.errEnded", "loop.example/causey/impl.errDry"], fn := fun _ => fun
  | [d, g1, g2, g3] => { results := [.lit (.bool true)], args := [d], vars := [g1, g2, g3] }
  | _ => none }
def fnRunOutsRow : OpenClaim := { program := "ytnlcdecokpdkpaadoor", sum := "2ef4eacc945df062e6a6026d40d9cf4e2a11cf84c410770f8a43c066ccdfacd1", func := "loop.example/causey/laws.FnRunOuts", spec := "fnRunOuts", inPlace := ["internal/reflectlite.TypeOf"], unfollowed := true, recurses := true, named := ["loop.example/causey/impl.errLong", "loop.example/causey/impl.errEnded", "loop.example/causey/impl.errDry"], ifaces := true, apart := false, laid := [("loop.example/causey/impl.errEnded", laid_loop_example_causey_impl_errEnded), ("loop.example/causey/impl.errLong", laid_loop_example_causey_impl_errLong), ("loop.example/causey/impl.errDry", laid_loop_example_causey_impl_errDry)] }
def FnRunOutsSaid : Prop := fnRunOutsRow.holds Tryd.pinned (OpenSpec.ofChange fnRunOutsSpec)

/-- ITS FALSE NEIGHBOUR: 'it returns false'. Refute it at one input. -/
def fnRunOutsWrong : ChangeSpec := { name := "fnRunOuts", vars := ["loop.example/causey/impl.errLong", "loop.example/causey/impl.errEnded", "loop.example/causey/impl.errDry"], fn := fun _ => fun
  | [d, g1, g2, g3] => { results := [.lit (.bool false)], args := [d], vars := [g1, g2, g3] }
  | _ => none }
def FnRunOutsWrongFalsely : Prop := fnRunOutsRow.holds Tryd.pinned (OpenSpec.ofChange fnRunOutsWrong)

/-- 'laws.FnRunFree': WHATEVER THE INPUT: true; the input reads as it did. -/
def fnRunFreeSpec : ChangeSpec := { name := "fnRunFree", vars := ["loop.example/causey/impl.errLong", "loop.example/causey/impl.errEnded", "loop.example/causey/impl.errDry"], fn := fun _ => fun
  | [d, g1, g2, g3] => { results := [.lit (.bool true)], args := [d], vars := [g1, g2, g3] }
  | _ => none }
def fnRunFreeRow : OpenClaim := { program := "ytnlcdecokpdkpaadoor", sum := "2ef4eacc945df062e6a6026d40d9cf4e2a11cf84c410770f8a43c066ccdfacd1", func := "loop.example/causey/laws.FnRunFree", spec := "fnRunFree", inPlace := ["internal/reflectlite.TypeOf"], unfollowed := true, recurses := true, named := ["loop.example/causey/impl.errLong", "loop.example/causey/impl.errEnded", "loop.example/causey/impl.errDry"], ifaces := true, apart := false, laid := [("loop.example/causey/impl.errEnded", laid_loop_example_causey_impl_errEnded), ("loop.example/causey/impl.errLong", laid_loop_example_causey_impl_errLong), ("loop.example/causey/impl.errDry", laid_loop_example_causey_impl_errDry)] }
def FnRunFreeSaid : Prop := fnRunFreeRow.holds Tryd.pinned (OpenSpec.ofChange fnRunFreeSpec)

/-- ITS FALSE NEIGHBOUR: 'it returns false'. Refute it at one input. -/
def fnRunFreeWrong : ChangeSpec := { name := "fnRunFree", vars := ["loop.example/causey/impl.errLong", "loop.example/causey/impl.errEnded", "loop.example/causey/impl.errDry"], fn := fun _ => fun
  | [d, g1, g2, g3] => { results := [.lit (.bool false)], args := [d], vars := [g1, g2, g3] }
  | _ => none }
def FnRunFreeWrongFalsely : Prop := fnRunFreeRow.holds Tryd.pinned (OpenSpec.ofChange fnRunFreeWrong)

/-- 'laws.FnRunNull': WHATEVER THE INPUT: true; the input reads as it did. -/
def fnRunNullSpec : ChangeSpec := { name := "fnRunNull", vars := ["loop.example/causey/impl.errLong", "loop.example/causey/impl.errEnded", "loop.example/causey/impl.errDry"], fn := fun _ => fun
  | [d, g1, g2, g3] => { results := [.lit (.bool true)], args := [d], vars := [g1, g2, g3] }
  | _ => none }
def fnRunNullRow : OpenClaim := { program := "ytnlcdecokpdkpaadoor", sum := "2ef4eacc945df062e6a6026d40d9cf4e2a11cf84c410770f8a43c066ccdfacd1", func := "loop.example/causey/laws.FnRunNull", spec := "fnRunNull", inPlace := ["internal/reflectlite.TypeOf"], unfollowed := true, recurses := true, named := ["loop.example/causey/impl.errLong", "loop.example/causey/impl.errEnded", "loop.example/causey/impl.errDry"], ifaces := true, apart := false, laid := [("loop.example/causey/impl.errEnded", laid_loop_example_causey_impl_errEnded), ("loop.example/causey/impl.errLong", laid_loop_example_causey_impl_errLong), ("loop.example/causey/impl.errDry", laid_loop_example_causey_impl_errDry)] }
def FnRunNullSaid : Prop := fnRunNullRow.holds Tryd.pinned (OpenSpec.ofChange fnRunNullSpec)

/-- ITS FALSE NEIGHBOUR: 'it returns false'. Refute it at one input. -/
def fnRunNullWrong : ChangeSpec := { name := "fnRunNull", vars := ["loop.example/causey/impl.errLong", "loop.example/causey/impl.errEnded", "loop.example/causey/impl.errDry"], fn := fun _ => fun
  | [d, g1, g2, g3] => { results := [.lit (.bool false)], args := [d], vars := [g1, g2, g3] }
  | _ => none }
def FnRunNullWrongFalsely : Prop := fnRunNullRow.holds Tryd.pinned (OpenSpec.ofChange fnRunNullWrong)

/-- 'laws.FnProgEnd': WHATEVER THE INPUT: true; the input reads as it did. -/
def fnProgEndSpec : ChangeSpec := { name := "fnProgEnd", vars := ["loop.example/causey/impl.errLong", "loop.example/causey/impl.errEnded", "loop.example/causey/impl.errDry"], fn := fun _ => fun
  | [d, g1, g2, g3] => { results := [.lit (.bool true)], args := [d], vars := [g1, g2, g3] }
  | _ => none }
def fnProgEndRow : OpenClaim := { program := "ytnlcdecokpdkpaadoor", sum := "2ef4eacc945df062e6a6026d40d9cf4e2a11cf84c410770f8a43c066ccdfacd1", func := "loop.example/causey/laws.FnProgEnd", spec := "fnProgEnd", inPlace := ["internal/reflectlite.TypeOf"], unfollowed := true, recurses := true, named := ["loop.example/causey/impl.errLong", "loop.example/causey/impl.errEnded", "loop.example/causey/impl.errDry"], ifaces := true, apart := false, laid := [("loop.example/causey/impl.errEnded", laid_loop_example_causey_impl_errEnded), ("loop.example/causey/impl.errLong", laid_loop_example_causey_impl_errLong), ("loop.example/causey/impl.errDry", laid_loop_example_causey_impl_errDry)] }
def FnProgEndSaid : Prop := fnProgEndRow.holds Tryd.pinned (OpenSpec.ofChange fnProgEndSpec)

/-- ITS FALSE NEIGHBOUR: 'it returns false'. Refute it at one input. -/
def fnProgEndWrong : ChangeSpec := { name := "fnProgEnd", vars := ["loop.example/causey/impl.errLong", "loop.example/causey/impl.errEnded", "loop.example/causey/impl.errDry"], fn := fun _ => fun
  | [d, g1, g2, g3] => { results := [.lit (.bool false)], args := [d], vars := [g1, g2, g3] }
  | _ => none }
def FnProgEndWrongFalsely : Prop := fnProgEndRow.holds Tryd.pinned (OpenSpec.ofChange fnProgEndWrong)

/-- 'laws.FnFlowTidy': WHATEVER THE INPUT: true; the input reads as it did. -/
def fnFlowTidySpec : ChangeSpec := { name := "fnFlowTidy", vars := ["loop.example/causey/impl.errLong", "loop.example/causey/impl.errEnded", "loop.example/causey/impl.errDry"], fn := fun _ => fun
  | [d1, d2, g1, g2, g3] => { results := [.lit (.bool true)], args := [d1, d2], vars := [g1, g2, g3] }
  | _ => none }
def fnFlowTidyRow : OpenClaim := { program := "ytnlcdecokpdkpaadoor", sum := "2ef4eacc945df062e6a6026d40d9cf4e2a11cf84c410770f8a43c066ccdfacd1", func := "loop.example/causey/laws.FnFlowTidy", spec := "fnFlowTidy", inPlace := ["internal/reflectlite.TypeOf"], unfollowed := true, recurses := true, named := ["loop.example/causey/impl.errLong", "loop.example/causey/impl.errEnded", "loop.example/causey/impl.errDry"], ifaces := true, apart := false, laid := [("loop.example/causey/impl.errEnded", laid_loop_example_causey_impl_errEnded), ("loop.example/causey/impl.errLong", laid_loop_example_causey_impl_errLong), ("loop.example/causey/impl.errDry", laid_loop_example_causey_impl_errDry)] }
def FnFlowTidySaid : Prop := fnFlowTidyRow.holds Tryd.pinned (OpenSpec.ofChange fnFlowTidySpec)

/-- ITS FALSE NEIGHBOUR: 'it returns false'. Refute it at one input. -/
def fnFlowTidyWrong : ChangeSpec := { name := "fnFlowTidy", vars := ["loop.example/causey/impl.errLong", "loop.example/causey/impl.errEnded", "loop.example/causey/impl.errDry"], fn := fun _ => fun
  | [d1, d2, g1, g2, g3] => { results := [.lit (.bool false)], args := [d1, d2], vars := [g1, g2, g3] }
  | _ => none }
def FnFlowTidyWrongFalsely : Prop := fnFlowTidyRow.holds Tryd.pinned (OpenSpec.ofChange fnFlowTidyWrong)

/- THE SECOND FORM. 'bulk': how many values and letters a reading holds, each counted each time it is reached (what is shared counts as often as it is met; a slice's spare places count too). A statement '..UptoSaid' is the law's where the arguments, and the package variables that the reading takes, are together of bulk at most 1048576: NARROWER than '..Said'. Prove '..Said' where nothing that the law and all that it calls make is longer than what came in: it says more and counts as full. Else prove '..UptoSaid'. A law counts once. -/
mutual
def uptoBulk {H : Type} : DataW H → Nat
  | .lit (.string bytes) => bytes.length + 1
  | .lit _ => 1
  | .nil => 1
  | .ptr d => uptoBulk d + 1
  | .slice elems spare => uptoBulkAll elems + uptoBulkAll spare + 1
  | .agg parts => uptoBulkAll parts + 1
  | .iface _ d => uptoBulk d + 1
  | .map entries => uptoBulkEntries entries + 1
  | .held _ => 1
def uptoBulkAll {H : Type} : List (DataW H) → Nat
  | [] => 0
  | d :: r => uptoBulk d + uptoBulkAll r
def uptoBulkEntries {H : Type} : List (Lit × DataW H) → Nat
  | [] => 0
  | x :: r => uptoBulkEntry x + uptoBulkEntries r
def uptoBulkEntry {H : Type} : Lit × DataW H → Nat
  | (.string bytes, d) => bytes.length + uptoBulk d + 1
  | (_, d) => uptoBulk d + 1
 end
def uptoSmall : (H : Type) → List (DataW H) → Bool := fun _ ds => decide (uptoBulkAll ds ≤ 1048576)
def OpenSpec.upto (s : _root_.Go.ChangeSpec) : _root_.Go.OpenSpec := { _root_.Go.OpenSpec.ofChange s with cond := some uptoSmall }

/-- 'laws.FnExactRunOf', WHERE WHAT IT READS IS OF BULK AT MOST 1048576: true; the input reads as it did. -/
def fnExactRunOfUptoRow : OpenClaim := { program := "ytnlcdecokpdkpaadoor", sum := "2ef4eacc945df062e6a6026d40d9cf4e2a11cf84c410770f8a43c066ccdfacd1", func := "loop.example/causey/laws.FnExactRunOf", spec := "fnExactRunOf", inPlace := ["internal/reflectlite.TypeOf"], unfollowed := true, recurses := true, named := ["loop.example/causey/impl.errLong", "loop.example/causey/impl.errEnded", "loop.example/causey/impl.errDry"], ifaces := true, apart := false, laid := [("loop.example/causey/impl.errEnded", laid_loop_example_causey_impl_errEnded), ("loop.example/causey/impl.errLong", laid_loop_example_causey_impl_errLong), ("loop.example/causey/impl.errDry", laid_loop_example_causey_impl_errDry)], narrowed := true }
def FnExactRunOfUptoSaid : Prop := fnExactRunOfUptoRow.holds Tryd.pinned (OpenSpec.upto fnExactRunOfSpec)

/-- 'laws.FnRunMore', WHERE WHAT IT READS IS OF BULK AT MOST 1048576: true; the input reads as it did. -/
def fnRunMoreUptoRow : OpenClaim := { program := "ytnlcdecokpdkpaadoor", sum := "2ef4eacc945df062e6a6026d40d9cf4e2a11cf84c410770f8a43c066ccdfacd1", func := "loop.example/causey/laws.FnRunMore", spec := "fnRunMore", inPlace := ["internal/reflectlite.TypeOf"], unfollowed := true, recurses := true, named := ["loop.example/causey/impl.errLong", "loop.example/causey/impl.errEnded", "loop.example/causey/impl.errDry"], ifaces := true, apart := false, laid := [("loop.example/causey/impl.errEnded", laid_loop_example_causey_impl_errEnded), ("loop.example/causey/impl.errLong", laid_loop_example_causey_impl_errLong), ("loop.example/causey/impl.errDry", laid_loop_example_causey_impl_errDry)], narrowed := true }
def FnRunMoreUptoSaid : Prop := fnRunMoreUptoRow.holds Tryd.pinned (OpenSpec.upto fnRunMoreSpec)

/-- 'laws.FnRunPath', WHERE WHAT IT READS IS OF BULK AT MOST 1048576: true; the input reads as it did. -/
def fnRunPathUptoRow : OpenClaim := { program := "ytnlcdecokpdkpaadoor", sum := "2ef4eacc945df062e6a6026d40d9cf4e2a11cf84c410770f8a43c066ccdfacd1", func := "loop.example/causey/laws.FnRunPath", spec := "fnRunPath", inPlace := ["internal/reflectlite.TypeOf"], unfollowed := true, recurses := true, named := ["loop.example/causey/impl.errLong", "loop.example/causey/impl.errEnded", "loop.example/causey/impl.errDry"], ifaces := true, apart := false, laid := [("loop.example/causey/impl.errEnded", laid_loop_example_causey_impl_errEnded), ("loop.example/causey/impl.errLong", laid_loop_example_causey_impl_errLong), ("loop.example/causey/impl.errDry", laid_loop_example_causey_impl_errDry)], narrowed := true }
def FnRunPathUptoSaid : Prop := fnRunPathUptoRow.holds Tryd.pinned (OpenSpec.upto fnRunPathSpec)

/-- 'laws.FnRunIn', WHERE WHAT IT READS IS OF BULK AT MOST 1048576: true; the input reads as it did. -/
def fnRunInUptoRow : OpenClaim := { program := "ytnlcdecokpdkpaadoor", sum := "2ef4eacc945df062e6a6026d40d9cf4e2a11cf84c410770f8a43c066ccdfacd1", func := "loop.example/causey/laws.FnRunIn", spec := "fnRunIn", inPlace := ["internal/reflectlite.TypeOf"], unfollowed := true, recurses := true, named := ["loop.example/causey/impl.errLong", "loop.example/causey/impl.errEnded", "loop.example/causey/impl.errDry"], ifaces := true, apart := false, laid := [("loop.example/causey/impl.errEnded", laid_loop_example_causey_impl_errEnded), ("loop.example/causey/impl.errLong", laid_loop_example_causey_impl_errLong), ("loop.example/causey/impl.errDry", laid_loop_example_causey_impl_errDry)], narrowed := true }
def FnRunInUptoSaid : Prop := fnRunInUptoRow.holds Tryd.pinned (OpenSpec.upto fnRunInSpec)

/-- 'laws.FnRunOuts', WHERE WHAT IT READS IS OF BULK AT MOST 1048576: true; the input reads as it did. -/
def fnRunOutsUptoRow : OpenClaim := { program := "ytnlcdecokpdkpaadoor", sum := "2ef4eacc945df062e6a6026d40d9cf4e2a11cf84c410770f8a43c066ccdfacd1", func := "loop.example/causey/laws.FnRunOuts", spec := "fnRunOuts", inPlace := ["internal/reflectlite.TypeOf"], unfollowed := true, recurses := true, named := ["loop.example/causey/impl.errLong", "loop.example/causey/impl.errEnded", "loop.example/causey/impl.errDry"], ifaces := true, apart := false, laid := [("loop.example/causey/impl.errEnded", laid_loop_example_causey_impl_errEnded), ("loop.example/causey/impl.errLong", laid_loop_example_causey_impl_errLong), ("loop.example/causey/impl.errDry", laid_loop_example_causey_impl_errDry)], narrowed := true }
def FnRunOutsUptoSaid : Prop := fnRunOutsUptoRow.holds Tryd.pinned (OpenSpec.upto fnRunOutsSpec)

/-- 'laws.FnRunFree', WHERE WHAT IT READS IS OF BULK AT MOST 1048576: true; the input reads as it did. -/
def fnRunFreeUptoRow : OpenClaim := { program := "ytnlcdecokpdkpaadoor", sum := "2ef4eacc945df062e6a6026d40d9cf4e2a11cf84c410770f8a43c066ccdfacd1", func := "loop.example/causey/laws.FnRunFree", spec := "fnRunFree", inPlace := ["internal/reflectlite.TypeOf"], unfollowed := true, recurses := true, named := ["loop.example/causey/impl.errLong", "loop.example/causey/impl.errEnded", "loop.example/causey/impl.errDry"], ifaces := true, apart := false, laid := [("loop.example/causey/impl.errEnded", laid_loop_example_causey_impl_errEnded), ("loop.example/causey/impl.errLong", laid_loop_example_causey_impl_errLong), ("loop.example/causey/impl.errDry", laid_loop_example_causey_impl_errDry)], narrowed := true }
def FnRunFreeUptoSaid : Prop := fnRunFreeUptoRow.holds Tryd.pinned (OpenSpec.upto fnRunFreeSpec)

/-- 'laws.FnRunNull', WHERE WHAT IT READS IS OF BULK AT MOST 1048576: true; the input reads as it did. -/
def fnRunNullUptoRow : OpenClaim := { program := "ytnlcdecokpdkpaadoor", sum := "2ef4eacc945df062e6a6026d40d9cf4e2a11cf84c410770f8a43c066ccdfacd1", func := "loop.example/causey/laws.FnRunNull", spec := "fnRunNull", inPlace := ["internal/reflectlite.TypeOf"], unfollowed := true, recurses := true, named := ["loop.example/causey/impl.errLong", "loop.example/causey/impl.errEnded", "loop.example/causey/impl.errDry"], ifaces := true, apart := false, laid := [("loop.example/causey/impl.errEnded", laid_loop_example_causey_impl_errEnded), ("loop.example/causey/impl.errLong", laid_loop_example_causey_impl_errLong), ("loop.example/causey/impl.errDry", laid_loop_example_causey_impl_errDry)], narrowed := true }
def FnRunNullUptoSaid : Prop := fnRunNullUptoRow.holds Tryd.pinned (OpenSpec.upto fnRunNullSpec)

/-- 'laws.FnProgEnd', WHERE WHAT IT READS IS OF BULK AT MOST 1048576: true; the input reads as it did. -/
def fnProgEndUptoRow : OpenClaim := { program := "ytnlcdecokpdkpaadoor", sum := "2ef4eacc945df062e6a6026d40d9cf4e2a11cf84c410770f8a43c066ccdfacd1", func := "loop.example/causey/laws.FnProgEnd", spec := "fnProgEnd", inPlace := ["internal/reflectlite.TypeOf"], unfollowed := true, recurses := true, named := ["loop.example/causey/impl.errLong", "loop.example/causey/impl.errEnded", "loop.example/causey/impl.errDry"], ifaces := true, apart := false, laid := [("loop.example/causey/impl.errEnded", laid_loop_example_causey_impl_errEnded), ("loop.example/causey/impl.errLong", laid_loop_example_causey_impl_errLong), ("loop.example/causey/impl.errDry", laid_loop_example_causey_impl_errDry)], narrowed := true }
def FnProgEndUptoSaid : Prop := fnProgEndUptoRow.holds Tryd.pinned (OpenSpec.upto fnProgEndSpec)

/-- 'laws.FnFlowTidy', WHERE WHAT IT READS IS OF BULK AT MOST 1048576: true; the input reads as it did. -/
def fnFlowTidyUptoRow : OpenClaim := { program := "ytnlcdecokpdkpaadoor", sum := "2ef4eacc945df062e6a6026d40d9cf4e2a11cf84c410770f8a43c066ccdfacd1", func := "loop.example/causey/laws.FnFlowTidy", spec := "fnFlowTidy", inPlace := ["internal/reflectlite.TypeOf"], unfollowed := true, recurses := true, named := ["loop.example/causey/impl.errLong", "loop.example/causey/impl.errEnded", "loop.example/causey/impl.errDry"], ifaces := true, apart := false, laid := [("loop.example/causey/impl.errEnded", laid_loop_example_causey_impl_errEnded), ("loop.example/causey/impl.errLong", laid_loop_example_causey_impl_errLong), ("loop.example/causey/impl.errDry", laid_loop_example_causey_impl_errDry)], narrowed := true }
def FnFlowTidyUptoSaid : Prop := fnFlowTidyUptoRow.holds Tryd.pinned (OpenSpec.upto fnFlowTidySpec)

end Rows
end Go.Proofs.YtnlcdecokpdkpaaDoor
