/-
  No cell of these rows narrows 'for every input' (looked for: loops, veiled, ifaces, maps, wideKeys, modest, calm, conditions, laid).
  DERIVED. THE GIVEN ROWS OF THIS SEAT. 12 by the template 'for every input the law returns true; each argument reads behind the call as it read before'; 0 by the template 'total and deterministic' (their statements: YtemmjiiibcbiiaaTotals.lean).
  GIVEN WITH THE SEED: the statements are not yours to turn. If you find one false, say at which input.
  Laid BY PROGRAM, IN A SANDBOX (cutbox-rows.mjs): the forced cells as the released guide's own fill.sh prints them over the translation d7a20d79343d74f6… (all of the seat's roots in one cut). By AI agents, Wed Nov 11 2026. No macro, syntax, notation, axiom, sorry.
-/
import Derived.Test.YtemmjiiibcbiiaaChecked
import GoSem.Claim
import GoSem.ClaimJoined
import GoSem.ClaimMapViews
import Derived.JoinedTies
import Derived.KernelRfl
namespace Go.Proofs.Ytemmjiiibcbiiaa
/- THE CELL 'sum', in the pinned program and in every row, IS THE sha256 OF THE DUMP (.gsa) THAT YtemmjiiibcbiiaaProg.lean LOADS. Nothing in Lean hashes anything: it is a label: what it is worth is what the hold of that sum in a sandbox is worth. -/
noncomputable def Try.pinned : Pinned := { name := "ytemmjiiibcbiiaa", sum := "d7a20d79343d74f6167c6536998d63fece77214b70ea636213b8a762284802f1", checked := Try.checked }
namespace Rows
def none {H : Type} : Left H := { results := [], args := [] }

/-- 'laws.FnExactProgOk': WHATEVER THE INPUT: true; the input reads as it did. -/
def fnExactProgOkSpec : ChangeSpec := { name := "fnExactProgOk", fn := fun _ => fun
  | [d] => { results := [.lit (.bool true)], args := [d] }
  | _ => none }
def fnExactProgOkRow : OpenClaim := { program := "ytemmjiiibcbiiaa", sum := "d7a20d79343d74f6167c6536998d63fece77214b70ea636213b8a762284802f1", func := "loop.example/causey/laws.FnExactProgOk", spec := "fnExactProgOk", unfollowed := true, recurses := true, apart := false }
def FnExactProgOkSaid : Prop := fnExactProgOkRow.holds Try.pinned (OpenSpec.ofChange fnExactProgOkSpec)

/-- ITS FALSE NEIGHBOUR: 'it returns false'. Refute it at one input. -/
def fnExactProgOkWrong : ChangeSpec := { name := "fnExactProgOk", fn := fun _ => fun
  | [d] => { results := [.lit (.bool false)], args := [d] }
  | _ => none }
def FnExactProgOkWrongFalsely : Prop := fnExactProgOkRow.holds Try.pinned (OpenSpec.ofChange fnExactProgOkWrong)

/-- 'laws.FnExactFlowReach': WHATEVER THE INPUT: true; the input reads as it did. -/
def fnExactFlowReachSpec : ChangeSpec := { name := "fnExactFlowReach", fn := fun _ => fun
  | [d] => { results := [.lit (.bool true)], args := [d] }
  | _ => none }
def fnExactFlowReachRow : OpenClaim := { program := "ytemmjiiibcbiiaa", sum := "d7a20d79343d74f6167c6536998d63fece77214b70ea636213b8a762284802f1", func := "loop.example/causey/laws.FnExactFlowReach", spec := "fnExactFlowReach", unfollowed := true, recurses := true, apart := false }
def FnExactFlowReachSaid : Prop := fnExactFlowReachRow.holds Try.pinned (OpenSpec.ofChange fnExactFlowReachSpec)

/-- ITS FALSE NEIGHBOUR: 'it returns false'. Refute it at one input. -/
def fnExactFlowReachWrong : ChangeSpec := { name := "fnExactFlowReach", fn := fun _ => fun
  | [d] => { results := [.lit (.bool false)], args := [d] }
  | _ => none }
def FnExactFlowReachWrongFalsely : Prop := fnExactFlowReachRow.holds Try.pinned (OpenSpec.ofChange fnExactFlowReachWrong)

/-- 'laws.FnExactFlowIsTidy': WHATEVER THE INPUT: true; the input reads as it did. -/
def fnExactFlowIsTidySpec : ChangeSpec := { name := "fnExactFlowIsTidy", fn := fun _ => fun
  | [d] => { results := [.lit (.bool true)], args := [d] }
  | _ => none }
def fnExactFlowIsTidyRow : OpenClaim := { program := "ytemmjiiibcbiiaa", sum := "d7a20d79343d74f6167c6536998d63fece77214b70ea636213b8a762284802f1", func := "loop.example/causey/laws.FnExactFlowIsTidy", spec := "fnExactFlowIsTidy", unfollowed := true, recurses := true, apart := false }
def FnExactFlowIsTidySaid : Prop := fnExactFlowIsTidyRow.holds Try.pinned (OpenSpec.ofChange fnExactFlowIsTidySpec)

/-- ITS FALSE NEIGHBOUR: 'it returns false'. Refute it at one input. -/
def fnExactFlowIsTidyWrong : ChangeSpec := { name := "fnExactFlowIsTidy", fn := fun _ => fun
  | [d] => { results := [.lit (.bool false)], args := [d] }
  | _ => none }
def FnExactFlowIsTidyWrongFalsely : Prop := fnExactFlowIsTidyRow.holds Try.pinned (OpenSpec.ofChange fnExactFlowIsTidyWrong)

/-- 'laws.FnExactFlowPreds': WHATEVER THE INPUT: true; the input reads as it did. -/
def fnExactFlowPredsSpec : ChangeSpec := { name := "fnExactFlowPreds", fn := fun _ => fun
  | [d] => { results := [.lit (.bool true)], args := [d] }
  | _ => none }
def fnExactFlowPredsRow : OpenClaim := { program := "ytemmjiiibcbiiaa", sum := "d7a20d79343d74f6167c6536998d63fece77214b70ea636213b8a762284802f1", func := "loop.example/causey/laws.FnExactFlowPreds", spec := "fnExactFlowPreds", unfollowed := true, recurses := true, apart := false }
def FnExactFlowPredsSaid : Prop := fnExactFlowPredsRow.holds Try.pinned (OpenSpec.ofChange fnExactFlowPredsSpec)

/-- ITS FALSE NEIGHBOUR: 'it returns false'. Refute it at one input. -/
def fnExactFlowPredsWrong : ChangeSpec := { name := "fnExactFlowPreds", fn := fun _ => fun
  | [d] => { results := [.lit (.bool false)], args := [d] }
  | _ => none }
def FnExactFlowPredsWrongFalsely : Prop := fnExactFlowPredsRow.holds Try.pinned (OpenSpec.ofChange fnExactFlowPredsWrong)

/-- 'laws.FnExactFlowDoms': WHATEVER THE INPUT: true; the input reads as it did. -/
def fnExactFlowDomsSpec : ChangeSpec := { name := "fnExactFlowDoms", fn := fun _ => fun
  | [d] => { results := [.lit (.bool true)], args := [d] }
  | _ => none }
def fnExactFlowDomsRow : OpenClaim := { program := "ytemmjiiibcbiiaa", sum := "d7a20d79343d74f6167c6536998d63fece77214b70ea636213b8a762284802f1", func := "loop.example/causey/laws.FnExactFlowDoms", spec := "fnExactFlowDoms", unfollowed := true, recurses := true, apart := false }
def FnExactFlowDomsSaid : Prop := fnExactFlowDomsRow.holds Try.pinned (OpenSpec.ofChange fnExactFlowDomsSpec)

/-- ITS FALSE NEIGHBOUR: 'it returns false'. Refute it at one input. -/
def fnExactFlowDomsWrong : ChangeSpec := { name := "fnExactFlowDoms", fn := fun _ => fun
  | [d] => { results := [.lit (.bool false)], args := [d] }
  | _ => none }
def FnExactFlowDomsWrongFalsely : Prop := fnExactFlowDomsRow.holds Try.pinned (OpenSpec.ofChange fnExactFlowDomsWrong)

/-- 'laws.FnExactFlowTidy': WHATEVER THE INPUT: true; the input reads as it did. -/
def fnExactFlowTidySpec : ChangeSpec := { name := "fnExactFlowTidy", fn := fun _ => fun
  | [d] => { results := [.lit (.bool true)], args := [d] }
  | _ => none }
def fnExactFlowTidyRow : OpenClaim := { program := "ytemmjiiibcbiiaa", sum := "d7a20d79343d74f6167c6536998d63fece77214b70ea636213b8a762284802f1", func := "loop.example/causey/laws.FnExactFlowTidy", spec := "fnExactFlowTidy", unfollowed := true, recurses := true, apart := false }
def FnExactFlowTidySaid : Prop := fnExactFlowTidyRow.holds Try.pinned (OpenSpec.ofChange fnExactFlowTidySpec)

/-- ITS FALSE NEIGHBOUR: 'it returns false'. Refute it at one input. -/
def fnExactFlowTidyWrong : ChangeSpec := { name := "fnExactFlowTidy", fn := fun _ => fun
  | [d] => { results := [.lit (.bool false)], args := [d] }
  | _ => none }
def FnExactFlowTidyWrongFalsely : Prop := fnExactFlowTidyRow.holds Try.pinned (OpenSpec.ofChange fnExactFlowTidyWrong)

/-- 'laws.FnExactRunOp': WHATEVER THE INPUT: true; the input reads as it did. -/
def fnExactRunOpSpec : ChangeSpec := { name := "fnExactRunOp", fn := fun _ => fun
  | [d1, d2, d3] => { results := [.lit (.bool true)], args := [d1, d2, d3] }
  | _ => none }
def fnExactRunOpRow : OpenClaim := { program := "ytemmjiiibcbiiaa", sum := "d7a20d79343d74f6167c6536998d63fece77214b70ea636213b8a762284802f1", func := "loop.example/causey/laws.FnExactRunOp", spec := "fnExactRunOp", apart := false }
def FnExactRunOpSaid : Prop := fnExactRunOpRow.holds Try.pinned (OpenSpec.ofChange fnExactRunOpSpec)

/-- ITS FALSE NEIGHBOUR: 'it returns false'. Refute it at one input. -/
def fnExactRunOpWrong : ChangeSpec := { name := "fnExactRunOp", fn := fun _ => fun
  | [d1, d2, d3] => { results := [.lit (.bool false)], args := [d1, d2, d3] }
  | _ => none }
def FnExactRunOpWrongFalsely : Prop := fnExactRunOpRow.holds Try.pinned (OpenSpec.ofChange fnExactRunOpWrong)

/-- 'laws.FnRunOp': WHATEVER THE INPUT: true; the input reads as it did. -/
def fnRunOpSpec : ChangeSpec := { name := "fnRunOp", fn := fun _ => fun
  | [d] => { results := [.lit (.bool true)], args := [d] }
  | _ => none }
def fnRunOpRow : OpenClaim := { program := "ytemmjiiibcbiiaa", sum := "d7a20d79343d74f6167c6536998d63fece77214b70ea636213b8a762284802f1", func := "loop.example/causey/laws.FnRunOp", spec := "fnRunOp", apart := false }
def FnRunOpSaid : Prop := fnRunOpRow.holds Try.pinned (OpenSpec.ofChange fnRunOpSpec)

/-- ITS FALSE NEIGHBOUR: 'it returns false'. Refute it at one input. -/
def fnRunOpWrong : ChangeSpec := { name := "fnRunOp", fn := fun _ => fun
  | [d] => { results := [.lit (.bool false)], args := [d] }
  | _ => none }
def FnRunOpWrongFalsely : Prop := fnRunOpRow.holds Try.pinned (OpenSpec.ofChange fnRunOpWrong)

/-- 'laws.FnFlowReach': WHATEVER THE INPUT: true; the input reads as it did. -/
def fnFlowReachSpec : ChangeSpec := { name := "fnFlowReach", fn := fun _ => fun
  | [d] => { results := [.lit (.bool true)], args := [d] }
  | _ => none }
def fnFlowReachRow : OpenClaim := { program := "ytemmjiiibcbiiaa", sum := "d7a20d79343d74f6167c6536998d63fece77214b70ea636213b8a762284802f1", func := "loop.example/causey/laws.FnFlowReach", spec := "fnFlowReach", unfollowed := true, recurses := true, apart := false }
def FnFlowReachSaid : Prop := fnFlowReachRow.holds Try.pinned (OpenSpec.ofChange fnFlowReachSpec)

/-- ITS FALSE NEIGHBOUR: 'it returns false'. Refute it at one input. -/
def fnFlowReachWrong : ChangeSpec := { name := "fnFlowReach", fn := fun _ => fun
  | [d] => { results := [.lit (.bool false)], args := [d] }
  | _ => none }
def FnFlowReachWrongFalsely : Prop := fnFlowReachRow.holds Try.pinned (OpenSpec.ofChange fnFlowReachWrong)

/-- 'laws.FnFlowPreds': WHATEVER THE INPUT: true; the input reads as it did. -/
def fnFlowPredsSpec : ChangeSpec := { name := "fnFlowPreds", fn := fun _ => fun
  | [d] => { results := [.lit (.bool true)], args := [d] }
  | _ => none }
def fnFlowPredsRow : OpenClaim := { program := "ytemmjiiibcbiiaa", sum := "d7a20d79343d74f6167c6536998d63fece77214b70ea636213b8a762284802f1", func := "loop.example/causey/laws.FnFlowPreds", spec := "fnFlowPreds", unfollowed := true, recurses := true, apart := false }
def FnFlowPredsSaid : Prop := fnFlowPredsRow.holds Try.pinned (OpenSpec.ofChange fnFlowPredsSpec)

/-- ITS FALSE NEIGHBOUR: 'it returns false'. Refute it at one input. -/
def fnFlowPredsWrong : ChangeSpec := { name := "fnFlowPreds", fn := fun _ => fun
  | [d] => { results := [.lit (.bool false)], args := [d] }
  | _ => none }
def FnFlowPredsWrongFalsely : Prop := fnFlowPredsRow.holds Try.pinned (OpenSpec.ofChange fnFlowPredsWrong)

/-- 'laws.FnFlowMore': WHATEVER THE INPUT: true; the input reads as it did. -/
def fnFlowMoreSpec : ChangeSpec := { name := "fnFlowMore", fn := fun _ => fun
  | [d] => { results := [.lit (.bool true)], args := [d] }
  | _ => none }
def fnFlowMoreRow : OpenClaim := { program := "ytemmjiiibcbiiaa", sum := "d7a20d79343d74f6167c6536998d63fece77214b70ea636213b8a762284802f1", func := "loop.example/causey/laws.FnFlowMore", spec := "fnFlowMore", unfollowed := true, recurses := true, apart := false }
def FnFlowMoreSaid : Prop := fnFlowMoreRow.holds Try.pinned (OpenSpec.ofChange fnFlowMoreSpec)

/-- ITS FALSE NEIGHBOUR: 'it returns false'. Refute it at one input. -/
def fnFlowMoreWrong : ChangeSpec := { name := "fnFlowMore", fn := fun _ => fun
  | [d] => { results := [.lit (.bool false)], args := [d] }
  | _ => none }
def FnFlowMoreWrongFalsely : Prop := fnFlowMoreRow.holds Try.pinned (OpenSpec.ofChange fnFlowMoreWrong)

/-- 'laws.FnFlowTwice': WHATEVER THE INPUT: true; the input reads as it did. -/
def fnFlowTwiceSpec : ChangeSpec := { name := "fnFlowTwice", fn := fun _ => fun
  | [d] => { results := [.lit (.bool true)], args := [d] }
  | _ => none }
def fnFlowTwiceRow : OpenClaim := { program := "ytemmjiiibcbiiaa", sum := "d7a20d79343d74f6167c6536998d63fece77214b70ea636213b8a762284802f1", func := "loop.example/causey/laws.FnFlowTwice", spec := "fnFlowTwice", unfollowed := true, recurses := true, apart := false }
def FnFlowTwiceSaid : Prop := fnFlowTwiceRow.holds Try.pinned (OpenSpec.ofChange fnFlowTwiceSpec)

/-- ITS FALSE NEIGHBOUR: 'it returns false'. Refute it at one input. -/
def fnFlowTwiceWrong : ChangeSpec := { name := "fnFlowTwice", fn := fun _ => fun
  | [d] => { results := [.lit (.bool false)], args := [d] }
  | _ => none }
def FnFlowTwiceWrongFalsely : Prop := fnFlowTwiceRow.holds Try.pinned (OpenSpec.ofChange fnFlowTwiceWrong)

/- THE SECOND FORM. 'bulk': how many values and letters a reading holds, each counted each time it is reached (what is shared counts as often as it is met; a slice's spare places count too). A statement '..UptoSaid' is the law's where the arguments, and the package variables that the reading takes, are together of bulk at most 1048576: NARROWER than '..Said'. Prove '..Said' where nothing that the law and all that it calls make is longer than what came in: it says more and counts as full. Else prove '..UptoSaid'. A law counts once. -/
mutual
def uptoBulk {H : Type} : DataW H → Nat
  | .lit (.string bytes) => bytes.length + 1
  | .lit _ => 1
  | .nil => 1
  | .ptr d => uptoBulk d + 1
  | .slice elems spare => uptoBulkAll elems + uptoBulkAll spare + 1
  | .agg parts => uptoBulkAll parts + 1
  | .iface _ d => uptoBulk d + 1
  | .map entries => uptoBulkEntries entries + 1
  | .held _ => 1
def uptoBulkAll {H : Type} : List (DataW H) → Nat
  | [] => 0
  | d :: r => uptoBulk d + uptoBulkAll r
def uptoBulkEntries {H : Type} : List (Lit × DataW H) → Nat
  | [] => 0
  | x :: r => uptoBulkEntry x + uptoBulkEntries r
def uptoBulkEntry {H : Type} : Lit × DataW H → Nat
  | (.string bytes, d) => bytes.length + uptoBulk d + 1
  | (_, d) => uptoBulk d + 1
 end
def uptoSmall : (H : Type) → List (DataW H) → Bool := fun _ ds => decide (uptoBulkAll ds ≤ 1048576)
def OpenSpec.upto (s : _root_.Go.ChangeSpec) : _root_.Go.OpenSpec := { _root_.Go.OpenSpec.ofChange s with cond := some uptoSmall }

/-- 'laws.FnExactProgOk', WHERE WHAT IT READS IS OF BULK AT MOST 1048576: true; the input reads as it did. -/
def fnExactProgOkUptoRow : OpenClaim := { program := "ytemmjiiibcbiiaa", sum := "d7a20d79343d74f6167c6536998d63fece77214b70ea636213b8a762284802f1", func := "loop.example/causey/laws.FnExactProgOk", spec := "fnExactProgOk", unfollowed := true, recurses := true, apart := false, narrowed := true }
def FnExactProgOkUptoSaid : Prop := fnExactProgOkUptoRow.holds Try.pinned (OpenSpec.upto fnExactProgOkSpec)

/-- 'laws.FnExactFlowReach', WHERE WHAT IT READS IS OF BULK AT MOST 1048576: true; the input reads as it did. -/
def fnExactFlowReachUptoRow : OpenClaim := { program := "ytemmjiiibcbiiaa", sum := "d7a20d79343d74f6167c6536998d63fece77214b70ea636213b8a762284802f1", func := "loop.example/causey/laws.FnExactFlowReach", spec := "fnExactFlowReach", unfollowed := true, recurses := true, apart := false, narrowed := true }
def FnExactFlowReachUptoSaid : Prop := fnExactFlowReachUptoRow.holds Try.pinned (OpenSpec.upto fnExactFlowReachSpec)

/-- 'laws.FnExactFlowIsTidy', WHERE WHAT IT READS IS OF BULK AT MOST 1048576: true; the input reads as it did. -/
def fnExactFlowIsTidyUptoRow : OpenClaim := { program := "ytemmjiiibcbiiaa", sum := "d7a20d79343d74f6167c6536998d63fece77214b70ea636213b8a762284802f1", func := "loop.example/causey/laws.FnExactFlowIsTidy", spec := "fnExactFlowIsTidy", unfollowed := true, recurses := true, apart := false, narrowed := true }
def FnExactFlowIsTidyUptoSaid : Prop := fnExactFlowIsTidyUptoRow.holds Try.pinned (OpenSpec.upto fnExactFlowIsTidySpec)

/-- 'laws.FnExactFlowPreds', WHERE WHAT IT READS IS OF BULK AT MOST 1048576: true; the input reads as it did. -/
def fnExactFlowPredsUptoRow : OpenClaim := { program := "ytemmjiiibcbiiaa", sum := "d7a20d79343d74f6167c6536998d63fece77214b70ea636213b8a762284802f1", func := "loop.example/causey/laws.FnExactFlowPreds", spec := "fnExactFlowPreds", unfollowed := true, recurses := true, apart := false, narrowed := true }
def FnExactFlowPredsUptoSaid : Prop := fnExactFlowPredsUptoRow.holds Try.pinned (OpenSpec.upto fnExactFlowPredsSpec)

/-- 'laws.FnExactFlowDoms', WHERE WHAT IT READS IS OF BULK AT MOST 1048576: true; the input reads as it did. -/
def fnExactFlowDomsUptoRow : OpenClaim := { program := "ytemmjiiibcbiiaa", sum := "d7a20d79343d74f6167c6536998d63fece77214b70ea636213b8a762284802f1", func := "loop.example/causey/laws.FnExactFlowDoms", spec := "fnExactFlowDoms", unfollowed := true, recurses := true, apart := false, narrowed := true }
def FnExactFlowDomsUptoSaid : Prop := fnExactFlowDomsUptoRow.holds Try.pinned (OpenSpec.upto fnExactFlowDomsSpec)

/-- 'laws.FnExactFlowTidy', WHERE WHAT IT READS IS OF BULK AT MOST 1048576: true; the input reads as it did. -/
def fnExactFlowTidyUptoRow : OpenClaim := { program := "ytemmjiiibcbiiaa", sum := "d7a20d79343d74f6167c6536998d63fece77214b70ea636213b8a762284802f1", func := "loop.example/causey/laws.FnExactFlowTidy", spec := "fnExactFlowTidy", unfollowed := true, recurses := true, apart := false, narrowed := true }
def FnExactFlowTidyUptoSaid : Prop := fnExactFlowTidyUptoRow.holds Try.pinned (OpenSpec.upto fnExactFlowTidySpec)

/-- 'laws.FnExactRunOp', WHERE WHAT IT READS IS OF BULK AT MOST 1048576: true; the input reads as it did. -/
def fnExactRunOpUptoRow : OpenClaim := { program := "ytemmjiiibcbiiaa", sum := "d7a20d79343d74f6167c6536998d63fece77214b70ea636213b8a762284802f1", func := "loop.example/causey/laws.FnExactRunOp", spec := "fnExactRunOp", apart := false, narrowed := true }
def FnExactRunOpUptoSaid : Prop := fnExactRunOpUptoRow.holds Try.pinned (OpenSpec.upto fnExactRunOpSpec)

/-- 'laws.FnRunOp', WHERE WHAT IT READS IS OF BULK AT MOST 1048576: true; the input reads as it did. -/
def fnRunOpUptoRow : OpenClaim := { program := "ytemmjiiibcbiiaa", sum := "d7a20d79343d74f6167c6536998d63fece77214b70ea636213b8a762284802f1", func := "loop.example/causey/laws.FnRunOp", spec := "fnRunOp", apart := false, narrowed := true }
def FnRunOpUptoSaid : Prop := fnRunOpUptoRow.holds Try.pinned (OpenSpec.upto fnRunOpSpec)

/-- 'laws.FnFlowReach', WHERE WHAT IT READS IS OF BULK AT MOST 1048576: true; the input reads as it did. -/
def fnFlowReachUptoRow : OpenClaim := { program := "ytemmjiiibcbiiaa", sum := "d7a20d79343d74f6167c6536998d63fece77214b70ea636213b8a762284802f1", func := "loop.example/causey/laws.FnFlowReach", spec := "fnFlowReach", unfollowed := true, recurses := true, apart := false, narrowed := true }
def FnFlowReachUptoSaid : Prop := fnFlowReachUptoRow.holds Try.pinned (OpenSpec.upto fnFlowReachSpec)

/-- 'laws.FnFlowPreds', WHERE WHAT IT READS IS OF BULK AT MOST 1048576: true; the input reads as it did. -/
def fnFlowPredsUptoRow : OpenClaim := { program := "ytemmjiiibcbiiaa", sum := "d7a20d79343d74f6167c6536998d63fece77214b70ea636213b8a762284802f1", func := "loop.example/causey/laws.FnFlowPreds", spec := "fnFlowPreds", unfollowed := true, recurses := true, apart := false, narrowed := true }
def FnFlowPredsUptoSaid : Prop := fnFlowPredsUptoRow.holds Try.pinned (OpenSpec.upto fnFlowPredsSpec)

/-- 'laws.FnFlowMore', WHERE WHAT IT READS IS OF BULK AT MOST 1048576: true; the input reads as it did. -/
def fnFlowMoreUptoRow : OpenClaim := { program := "ytemmjiiibcbiiaa", sum := "d7a20d79343d74f6167c6536998d63fece77214b70ea636213b8a762284802f1", func := "loop.example/causey/laws.FnFlowMore", spec := "fnFlowMore", unfollowed := true, recurses := true, apart := false, narrowed := true }
def FnFlowMoreUptoSaid : Prop := fnFlowMoreUptoRow.holds Try.pinned (OpenSpec.upto fnFlowMoreSpec)

/-- 'laws.FnFlowTwice', WHERE WHAT IT READS IS OF BULK AT MOST 1048576: true; the input reads as it did. -/
def fnFlowTwiceUptoRow : OpenClaim := { program := "ytemmjiiibcbiiaa", sum := "d7a20d79343d74f6167c6536998d63fece77214b70ea636213b8a762284802f1", func := "loop.example/causey/laws.FnFlowTwice", spec := "fnFlowTwice", unfollowed := true, recurses := true, apart := false, narrowed := true }
def FnFlowTwiceUptoSaid : Prop := fnFlowTwiceUptoRow.holds Try.pinned (OpenSpec.upto fnFlowTwiceSpec)

end Rows
end Go.Proofs.Ytemmjiiibcbiiaa
