/-
  No cell of these rows narrows 'for every input' (looked for: loops, veiled, ifaces, maps, wideKeys, modest, calm, conditions, laid).
  DERIVED. THE GIVEN ROWS OF THIS SEAT. 9 by the template 'for every input the law returns true; each argument reads behind the call as it read before'; 0 by the template 'total and deterministic' (their statements: YtblagfndeffilaaTotals.lean).
  GIVEN WITH THE SEED: the statements are not yours to turn. If you find one false, say at which input.
  Laid BY PROGRAM, IN A SANDBOX (cutbox-rows.mjs): the forced cells as the released guide's own fill.sh prints them over the translation 35697016cf772138… (all of the seat's roots in one cut). By AI agents, Wed Nov 11 2026. No macro, syntax, notation, axiom, sorry.
-/
import Derived.Test.YtblagfndeffilaaChecked
import GoSem.Claim
import GoSem.ClaimJoined
import GoSem.ClaimMapViews
import Derived.JoinedTies
import Derived.KernelRfl
namespace Go.Proofs.Ytblagfndeffilaa
/- THE CELL 'sum', in the pinned program and in every row, IS THE sha256 OF THE DUMP (.gsa) THAT YtblagfndeffilaaProg.lean LOADS. Nothing in Lean hashes anything: it is a label: what it is worth is what the hold of that sum in a sandbox is worth. -/
noncomputable def Try.pinned : Pinned := { name := "ytblagfndeffilaa", sum := "35697016cf772138ae958820a0d8adff998327318d259896b1feb4c0a0023374", checked := Try.checked }
namespace Rows
def none {H : Type} : Left H := { results := [], args := [] }

/-- 'laws.FnExactFlowPreds': WHATEVER THE INPUT: true; the input reads as it did. -/
def fnExactFlowPredsSpec : ChangeSpec := { name := "fnExactFlowPreds", fn := fun _ => fun
  | [d] => { results := [.lit (.bool true)], args := [d] }
  | _ => none }
def fnExactFlowPredsRow : OpenClaim := { program := "ytblagfndeffilaa", sum := "35697016cf772138ae958820a0d8adff998327318d259896b1feb4c0a0023374", func := "loop.example/causey/laws.FnExactFlowPreds", spec := "fnExactFlowPreds", unfollowed := true, recurses := true, apart := false }
def FnExactFlowPredsSaid : Prop := fnExactFlowPredsRow.holds Try.pinned (OpenSpec.ofChange fnExactFlowPredsSpec)

/-- ITS FALSE NEIGHBOUR: 'it returns false'. Refute it at one input. -/
def fnExactFlowPredsWrong : ChangeSpec := { name := "fnExactFlowPreds", fn := fun _ => fun
  | [d] => { results := [.lit (.bool false)], args := [d] }
  | _ => none }
def FnExactFlowPredsWrongFalsely : Prop := fnExactFlowPredsRow.holds Try.pinned (OpenSpec.ofChange fnExactFlowPredsWrong)

/-- 'laws.FnFlowPreds': WHATEVER THE INPUT: true; the input reads as it did. -/
def fnFlowPredsSpec : ChangeSpec := { name := "fnFlowPreds", fn := fun _ => fun
  | [d] => { results := [.lit (.bool true)], args := [d] }
  | _ => none }
def fnFlowPredsRow : OpenClaim := { program := "ytblagfndeffilaa", sum := "35697016cf772138ae958820a0d8adff998327318d259896b1feb4c0a0023374", func := "loop.example/causey/laws.FnFlowPreds", spec := "fnFlowPreds", unfollowed := true, recurses := true, apart := false }
def FnFlowPredsSaid : Prop := fnFlowPredsRow.holds Try.pinned (OpenSpec.ofChange fnFlowPredsSpec)

/-- ITS FALSE NEIGHBOUR: 'it returns false'. Refute it at one input. -/
def fnFlowPredsWrong : ChangeSpec := { name := "fnFlowPreds", fn := fun _ => fun
  | [d] => { results := [.lit (.bool false)], args := [d] }
  | _ => none }
def FnFlowPredsWrongFalsely : Prop := fnFlowPredsRow.holds Try.pinned (OpenSpec.ofChange fnFlowPredsWrong)

/-- 'laws.FnExactFlowDoms': WHATEVER THE INPUT: true; the input reads as it did. -/
def fnExactFlowDomsSpec : ChangeSpec := { name := "fnExactFlowDoms", fn := fun _ => fun
  | [d] => { results := [.lit (.bool true)], args := [d] }
  | _ => none }
def fnExactFlowDomsRow : OpenClaim := { program := "ytblagfndeffilaa", sum := "35697016cf772138ae958820a0d8adff998327318d259896b1feb4c0a0023374", func := "loop.example/causey/laws.FnExactFlowDoms", spec := "fnExactFlowDoms", unfollowed := true, recurses := true, apart := false }
def FnExactFlowDomsSaid : Prop := fnExactFlowDomsRow.holds Try.pinned (OpenSpec.ofChange fnExactFlowDomsSpec)

/-- ITS FALSE NEIGHBOUR: 'it returns false'. Refute it at one input. -/
def fnExactFlowDomsWrong : ChangeSpec := { name := "fnExactFlowDoms", fn := fun _ => fun
  | [d] => { results := [.lit (.bool false)], args := [d] }
  | _ => none }
def FnExactFlowDomsWrongFalsely : Prop := fnExactFlowDomsRow.holds Try.pinned (OpenSpec.ofChange fnExactFlowDomsWrong)

/-- 'laws.FnFlowOver': WHATEVER THE INPUT: true; the input reads as it did. -/
def fnFlowOverSpec : ChangeSpec := { name := "fnFlowOver", fn := fun _ => fun
  | [d] => { results := [.lit (.bool true)], args := [d] }
  | _ => none }
def fnFlowOverRow : OpenClaim := { program := "ytblagfndeffilaa", sum := "35697016cf772138ae958820a0d8adff998327318d259896b1feb4c0a0023374", func := "loop.example/causey/laws.FnFlowOver", spec := "fnFlowOver", unfollowed := true, recurses := true, apart := false }
def FnFlowOverSaid : Prop := fnFlowOverRow.holds Try.pinned (OpenSpec.ofChange fnFlowOverSpec)

/-- ITS FALSE NEIGHBOUR: 'it returns false'. Refute it at one input. -/
def fnFlowOverWrong : ChangeSpec := { name := "fnFlowOver", fn := fun _ => fun
  | [d] => { results := [.lit (.bool false)], args := [d] }
  | _ => none }
def FnFlowOverWrongFalsely : Prop := fnFlowOverRow.holds Try.pinned (OpenSpec.ofChange fnFlowOverWrong)

/-- 'laws.FnFlowChain': WHATEVER THE INPUT: true; the input reads as it did. -/
def fnFlowChainSpec : ChangeSpec := { name := "fnFlowChain", fn := fun _ => fun
  | [d] => { results := [.lit (.bool true)], args := [d] }
  | _ => none }
def fnFlowChainRow : OpenClaim := { program := "ytblagfndeffilaa", sum := "35697016cf772138ae958820a0d8adff998327318d259896b1feb4c0a0023374", func := "loop.example/causey/laws.FnFlowChain", spec := "fnFlowChain", unfollowed := true, recurses := true, apart := false }
def FnFlowChainSaid : Prop := fnFlowChainRow.holds Try.pinned (OpenSpec.ofChange fnFlowChainSpec)

/-- ITS FALSE NEIGHBOUR: 'it returns false'. Refute it at one input. -/
def fnFlowChainWrong : ChangeSpec := { name := "fnFlowChain", fn := fun _ => fun
  | [d] => { results := [.lit (.bool false)], args := [d] }
  | _ => none }
def FnFlowChainWrongFalsely : Prop := fnFlowChainRow.holds Try.pinned (OpenSpec.ofChange fnFlowChainWrong)

/-- 'laws.FnExactLoopOver': WHATEVER THE INPUT: true; the input reads as it did. -/
def fnExactLoopOverSpec : ChangeSpec := { name := "fnExactLoopOver", fn := fun _ => fun
  | [d] => { results := [.lit (.bool true)], args := [d] }
  | _ => none }
def fnExactLoopOverRow : OpenClaim := { program := "ytblagfndeffilaa", sum := "35697016cf772138ae958820a0d8adff998327318d259896b1feb4c0a0023374", func := "loop.example/causey/laws.FnExactLoopOver", spec := "fnExactLoopOver", unfollowed := true, recurses := true, apart := false }
def FnExactLoopOverSaid : Prop := fnExactLoopOverRow.holds Try.pinned (OpenSpec.ofChange fnExactLoopOverSpec)

/-- ITS FALSE NEIGHBOUR: 'it returns false'. Refute it at one input. -/
def fnExactLoopOverWrong : ChangeSpec := { name := "fnExactLoopOver", fn := fun _ => fun
  | [d] => { results := [.lit (.bool false)], args := [d] }
  | _ => none }
def FnExactLoopOverWrongFalsely : Prop := fnExactLoopOverRow.holds Try.pinned (OpenSpec.ofChange fnExactLoopOverWrong)

/-- 'laws.FnLoopOver': WHATEVER THE INPUT: true; the input reads as it did. -/
def fnLoopOverSpec : ChangeSpec := { name := "fnLoopOver", fn := fun _ => fun
  | [d] => { results := [.lit (.bool true)], args := [d] }
  | _ => none }
def fnLoopOverRow : OpenClaim := { program := "ytblagfndeffilaa", sum := "35697016cf772138ae958820a0d8adff998327318d259896b1feb4c0a0023374", func := "loop.example/causey/laws.FnLoopOver", spec := "fnLoopOver", unfollowed := true, recurses := true, apart := false }
def FnLoopOverSaid : Prop := fnLoopOverRow.holds Try.pinned (OpenSpec.ofChange fnLoopOverSpec)

/-- ITS FALSE NEIGHBOUR: 'it returns false'. Refute it at one input. -/
def fnLoopOverWrong : ChangeSpec := { name := "fnLoopOver", fn := fun _ => fun
  | [d] => { results := [.lit (.bool false)], args := [d] }
  | _ => none }
def FnLoopOverWrongFalsely : Prop := fnLoopOverRow.holds Try.pinned (OpenSpec.ofChange fnLoopOverWrong)

/-- 'laws.FnLoopTree': WHATEVER THE INPUT: true; the input reads as it did. -/
def fnLoopTreeSpec : ChangeSpec := { name := "fnLoopTree", fn := fun _ => fun
  | [d] => { results := [.lit (.bool true)], args := [d] }
  | _ => none }
def fnLoopTreeRow : OpenClaim := { program := "ytblagfndeffilaa", sum := "35697016cf772138ae958820a0d8adff998327318d259896b1feb4c0a0023374", func := "loop.example/causey/laws.FnLoopTree", spec := "fnLoopTree", unfollowed := true, recurses := true, apart := false }
def FnLoopTreeSaid : Prop := fnLoopTreeRow.holds Try.pinned (OpenSpec.ofChange fnLoopTreeSpec)

/-- ITS FALSE NEIGHBOUR: 'it returns false'. Refute it at one input. -/
def fnLoopTreeWrong : ChangeSpec := { name := "fnLoopTree", fn := fun _ => fun
  | [d] => { results := [.lit (.bool false)], args := [d] }
  | _ => none }
def FnLoopTreeWrongFalsely : Prop := fnLoopTreeRow.holds Try.pinned (OpenSpec.ofChange fnLoopTreeWrong)

/-- 'laws.FnExactLoopHeads': WHATEVER THE INPUT: true; the input reads as it did. -/
def fnExactLoopHeadsSpec : ChangeSpec := { name := "fnExactLoopHeads", fn := fun _ => fun
  | [d] => { results := [.lit (.bool true)], args := [d] }
  | _ => none }
def fnExactLoopHeadsRow : OpenClaim := { program := "ytblagfndeffilaa", sum := "35697016cf772138ae958820a0d8adff998327318d259896b1feb4c0a0023374", func := "loop.example/causey/laws.FnExactLoopHeads", spec := "fnExactLoopHeads", unfollowed := true, recurses := true, apart := false }
def FnExactLoopHeadsSaid : Prop := fnExactLoopHeadsRow.holds Try.pinned (OpenSpec.ofChange fnExactLoopHeadsSpec)

/-- ITS FALSE NEIGHBOUR: 'it returns false'. Refute it at one input. -/
def fnExactLoopHeadsWrong : ChangeSpec := { name := "fnExactLoopHeads", fn := fun _ => fun
  | [d] => { results := [.lit (.bool false)], args := [d] }
  | _ => none }
def FnExactLoopHeadsWrongFalsely : Prop := fnExactLoopHeadsRow.holds Try.pinned (OpenSpec.ofChange fnExactLoopHeadsWrong)

/- THE SECOND FORM. 'bulk': how many values and letters a reading holds, each counted each time it is reached (what is shared counts as often as it is met; a slice's spare places count too). A statement '..UptoSaid' is the law's where the arguments, and the package variables that the reading takes, are together of bulk at most 1048576: NARROWER than '..Said'. Prove '..Said' where nothing that the law and all that it calls make is longer than what came in: it says more and counts as full. Else prove '..UptoSaid'. A law counts once. -/
mutual
def uptoBulk {H : Type} : DataW H → Nat
  | .lit (.string bytes) => bytes.length + 1
  | .lit _ => 1
  | .nil => 1
  | .ptr d => uptoBulk d + 1
  | .slice elems spare => uptoBulkAll elems + uptoBulkAll spare + 1
  | .agg parts => uptoBulkAll parts + 1
  | .iface _ d => uptoBulk d + 1
  | .map entries => uptoBulkEntries entries + 1
  | .held _ => 1
def uptoBulkAll {H : Type} : List (DataW H) → Nat
  | [] => 0
  | d :: r => uptoBulk d + uptoBulkAll r
def uptoBulkEntries {H : Type} : List (Lit × DataW H) → Nat
  | [] => 0
  | x :: r => uptoBulkEntry x + uptoBulkEntries r
def uptoBulkEntry {H : Type} : Lit × DataW H → Nat
  | (.string bytes, d) => bytes.length + uptoBulk d + 1
  | (_, d) => uptoBulk d + 1
 end
def uptoSmall : (H : Type) → List (DataW H) → Bool := fun _ ds => decide (uptoBulkAll ds ≤ 1048576)
def OpenSpec.upto (s : _root_.Go.ChangeSpec) : _root_.Go.OpenSpec := { _root_.Go.OpenSpec.ofChange s with cond := some uptoSmall }

/-- 'laws.FnExactFlowPreds', WHERE WHAT IT READS IS OF BULK AT MOST 1048576: true; the input reads as it did. -/
def fnExactFlowPredsUptoRow : OpenClaim := { program := "ytblagfndeffilaa", sum := "35697016cf772138ae958820a0d8adff998327318d259896b1feb4c0a0023374", func := "loop.example/causey/laws.FnExactFlowPreds", spec := "fnExactFlowPreds", unfollowed := true, recurses := true, apart := false, narrowed := true }
def FnExactFlowPredsUptoSaid : Prop := fnExactFlowPredsUptoRow.holds Try.pinned (OpenSpec.upto fnExactFlowPredsSpec)

/-- 'laws.FnFlowPreds', WHERE WHAT IT READS IS OF BULK AT MOST 1048576: true; the input reads as it did. -/
def fnFlowPredsUptoRow : OpenClaim := { program := "ytblagfndeffilaa", sum := "35697016cf772138ae958820a0d8adff998327318d259896b1feb4c0a0023374", func := "loop.example/causey/laws.FnFlowPreds", spec := "fnFlowPreds", unfollowed := true, recurses := true, apart := false, narrowed := true }
def FnFlowPredsUptoSaid : Prop := fnFlowPredsUptoRow.holds Try.pinned (OpenSpec.upto fnFlowPredsSpec)

/-- 'laws.FnExactFlowDoms', WHERE WHAT IT READS IS OF BULK AT MOST 1048576: true; the input reads as it did. -/
def fnExactFlowDomsUptoRow : OpenClaim := { program := "ytblagfndeffilaa", sum := "35697016cf772138ae958820a0d8adff998327318d259896b1feb4c0a0023374", func := "loop.example/causey/laws.FnExactFlowDoms", spec := "fnExactFlowDoms", unfollowed := true, recurses := true, apart := false, narrowed := true }
def FnExactFlowDomsUptoSaid : Prop := fnExactFlowDomsUptoRow.holds Try.pinned (OpenSpec.upto fnExactFlowDomsSpec)

/-- 'laws.FnFlowOver', WHERE WHAT IT READS IS OF BULK AT MOST 1048576: true; the input reads as it did. -/
def fnFlowOverUptoRow : OpenClaim := { program := "ytblagfndeffilaa", sum := "35697016cf772138ae958820a0d8adff998327318d259896b1feb4c0a0023374", func := "loop.example/causey/laws.FnFlowOver", spec := "fnFlowOver", unfollowed := true, recurses := true, apart := false, narrowed := true }
def FnFlowOverUptoSaid : Prop := fnFlowOverUptoRow.holds Try.pinned (OpenSpec.upto fnFlowOverSpec)

/-- 'laws.FnFlowChain', WHERE WHAT IT READS IS OF BULK AT MOST 1048576: true; the input reads as it did. -/
def fnFlowChainUptoRow : OpenClaim := { program := "ytblagfndeffilaa", sum := "35697016cf772138ae958820a0d8adff998327318d259896b1feb4c0a0023374", func := "loop.example/causey/laws.FnFlowChain", spec := "fnFlowChain", unfollowed := true, recurses := true, apart := false, narrowed := true }
def FnFlowChainUptoSaid : Prop := fnFlowChainUptoRow.holds Try.pinned (OpenSpec.upto fnFlowChainSpec)

/-- 'laws.FnExactLoopOver', WHERE WHAT IT READS IS OF BULK AT MOST 1048576: true; the input reads as it did. -/
def fnExactLoopOverUptoRow : OpenClaim := { program := "ytblagfndeffilaa", sum := "35697016cf772138ae958820a0d8adff998327318d259896b1feb4c0a0023374", func := "loop.example/causey/laws.FnExactLoopOver", spec := "fnExactLoopOver", unfollowed := true, recurses := true, apart := false, narrowed := true }
def FnExactLoopOverUptoSaid : Prop := fnExactLoopOverUptoRow.holds Try.pinned (OpenSpec.upto fnExactLoopOverSpec)

/-- 'laws.FnLoopOver', WHERE WHAT IT READS IS OF BULK AT MOST 1048576: true; the input reads as it did. -/
def fnLoopOverUptoRow : OpenClaim := { program := "ytblagfndeffilaa", sum := "35697016cf772138ae958820a0d8adff998327318d259896b1feb4c0a0023374", func := "loop.example/causey/laws.FnLoopOver", spec := "fnLoopOver", unfollowed := true, recurses := true, apart := false, narrowed := true }
def FnLoopOverUptoSaid : Prop := fnLoopOverUptoRow.holds Try.pinned (OpenSpec.upto fnLoopOverSpec)

/-- 'laws.FnLoopTree', WHERE WHAT IT READS IS OF BULK AT MOST 1048576: true; the input reads as it did. -/
def fnLoopTreeUptoRow : OpenClaim := { program := "ytblagfndeffilaa", sum := "35697016cf772138ae958820a0d8adff998327318d259896b1feb4c0a0023374", func := "loop.example/causey/laws.FnLoopTree", spec := "fnLoopTree", unfollowed := true, recurses := true, apart := false, narrowed := true }
def FnLoopTreeUptoSaid : Prop := fnLoopTreeUptoRow.holds Try.pinned (OpenSpec.upto fnLoopTreeSpec)

/-- 'laws.FnExactLoopHeads', WHERE WHAT IT READS IS OF BULK AT MOST 1048576: true; the input reads as it did. -/
def fnExactLoopHeadsUptoRow : OpenClaim := { program := "ytblagfndeffilaa", sum := "35697016cf772138ae958820a0d8adff998327318d259896b1feb4c0a0023374", func := "loop.example/causey/laws.FnExactLoopHeads", spec := "fnExactLoopHeads", unfollowed := true, recurses := true, apart := false, narrowed := true }
def FnExactLoopHeadsUptoSaid : Prop := fnExactLoopHeadsUptoRow.holds Try.pinned (OpenSpec.upto fnExactLoopHeadsSpec)

end Rows
end Go.Proofs.Ytblagfndeffilaa
