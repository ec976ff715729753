/-
  No cell of these rows narrows 'for every input' (looked for: loops, veiled, ifaces, maps, wideKeys, modest, calm, conditions, laid).
  DERIVED. THE GIVEN ROWS OF THIS SEAT. 2 by the template 'for every input the law returns true; each argument reads behind the call as it read before'; 0 by the template 'total and deterministic' (their statements: YtljlgffkhocgkaaTotals.lean).
  GIVEN WITH THE SEED: the statements are not yours to turn. If you find one false, say at which input.
  Laid BY PROGRAM, IN A SANDBOX (cutbox-rows.mjs): the forced cells as the released guide's own fill.sh prints them over the translation 3cece843cedc4b1b… (all of the seat's roots in one cut). By AI agents, Wed Nov 11 2026. No macro, syntax, notation, axiom, sorry.
-/
import Derived.Test.YtljlgffkhocgkaaChecked
import GoSem.Claim
import GoSem.ClaimJoined
import GoSem.ClaimMapViews
import Derived.JoinedTies
import Derived.KernelRfl
namespace Go.Proofs.Ytljlgffkhocgkaa
/- THE CELL 'sum', in the pinned program and in every row, IS THE sha256 OF THE DUMP (.gsa) THAT YtljlgffkhocgkaaProg.lean LOADS. Nothing in Lean hashes anything: it is a label: what it is worth is what the hold of that sum in a sandbox is worth. -/
noncomputable def Try.pinned : Pinned := { name := "ytljlgffkhocgkaa", sum := "3cece843cedc4b1ba355a8a433c63155259369cb93b8d71760d939d358a45cf2", checked := Try.checked }
namespace Rows
def none {H : Type} : Left H := { results := [], args := [] }

/-- 'laws.FnExactSafeDown': WHATEVER THE INPUT: true; the input reads as it did. -/
def fnExactSafeDownSpec : ChangeSpec := { name := "fnExactSafeDown", fn := fun _ => fun
  | [d1, d2] => { results := [.lit (.bool true)], args := [d1, d2] }
  | _ => none }
def fnExactSafeDownRow : OpenClaim := { program := "ytljlgffkhocgkaa", sum := "3cece843cedc4b1ba355a8a433c63155259369cb93b8d71760d939d358a45cf2", func := "loop.example/causey/laws.FnExactSafeDown", spec := "fnExactSafeDown", unfollowed := true, recurses := true, plainKeys := false, apart := false }
def FnExactSafeDownSaid : Prop := fnExactSafeDownRow.holds Try.pinned (OpenSpec.ofChange fnExactSafeDownSpec)

/-- ITS FALSE NEIGHBOUR: 'it returns false'. Refute it at one input. -/
def fnExactSafeDownWrong : ChangeSpec := { name := "fnExactSafeDown", fn := fun _ => fun
  | [d1, d2] => { results := [.lit (.bool false)], args := [d1, d2] }
  | _ => none }
def FnExactSafeDownWrongFalsely : Prop := fnExactSafeDownRow.holds Try.pinned (OpenSpec.ofChange fnExactSafeDownWrong)

/-- 'laws.FnExactSafeUp': WHATEVER THE INPUT: true; the input reads as it did. -/
def fnExactSafeUpSpec : ChangeSpec := { name := "fnExactSafeUp", fn := fun _ => fun
  | [d1, d2] => { results := [.lit (.bool true)], args := [d1, d2] }
  | _ => none }
def fnExactSafeUpRow : OpenClaim := { program := "ytljlgffkhocgkaa", sum := "3cece843cedc4b1ba355a8a433c63155259369cb93b8d71760d939d358a45cf2", func := "loop.example/causey/laws.FnExactSafeUp", spec := "fnExactSafeUp", unfollowed := true, recurses := true, plainKeys := false, apart := false }
def FnExactSafeUpSaid : Prop := fnExactSafeUpRow.holds Try.pinned (OpenSpec.ofChange fnExactSafeUpSpec)

/-- ITS FALSE NEIGHBOUR: 'it returns false'. Refute it at one input. -/
def fnExactSafeUpWrong : ChangeSpec := { name := "fnExactSafeUp", fn := fun _ => fun
  | [d1, d2] => { results := [.lit (.bool false)], args := [d1, d2] }
  | _ => none }
def FnExactSafeUpWrongFalsely : Prop := fnExactSafeUpRow.holds Try.pinned (OpenSpec.ofChange fnExactSafeUpWrong)

/- THE SECOND FORM. 'bulk': how many values and letters a reading holds, each counted each time it is reached (what is shared counts as often as it is met; a slice's spare places count too). A statement '..UptoSaid' is the law's where the arguments, and the package variables that the reading takes, are together of bulk at most 1048576: NARROWER than '..Said'. Prove '..Said' where nothing that the law and all that it calls make is longer than what came in: it says more and counts as full. Else prove '..UptoSaid'. A law counts once. -/
mutual
def uptoBulk {H : Type} : DataW H → Nat
  | .lit (.string bytes) => bytes.length + 1
  | .lit _ => 1
  | .nil => 1
  | .ptr d => uptoBulk d + 1
  | .slice elems spare => uptoBulkAll elems + uptoBulkAll spare + 1
  | .agg parts => uptoBulkAll parts + 1
  | .iface _ d => uptoBulk d + 1
  | .map entries => uptoBulkEntries entries + 1
  | .held _ => 1
def uptoBulkAll {H : Type} : List (DataW H) → Nat
  | [] => 0
  | d :: r => uptoBulk d + uptoBulkAll r
def uptoBulkEntries {H : Type} : List (Lit × DataW H) → Nat
  | [] => 0
  | x :: r => uptoBulkEntry x + uptoBulkEntries r
def uptoBulkEntry {H : Type} : Lit × DataW H → Nat
  | (.string bytes, d) => bytes.length + uptoBulk d + 1
  | (_, d) => uptoBulk d + 1
 end
def uptoSmall : (H : Type) → List (DataW H) → Bool := fun _ ds => decide (uptoBulkAll ds ≤ 1048576)
def OpenSpec.upto (s : _root_.Go.ChangeSpec) : _root_.Go.OpenSpec := { _root_.Go.OpenSpec.ofChange s with cond := some uptoSmall }

/-- 'laws.FnExactSafeDown', WHERE WHAT IT READS IS OF BULK AT MOST 1048576: true; the input reads as it did. -/
def fnExactSafeDownUptoRow : OpenClaim := { program := "ytljlgffkhocgkaa", sum := "3cece843cedc4b1ba355a8a433c63155259369cb93b8d71760d939d358a45cf2", func := "loop.example/causey/laws.FnExactSafeDown", spec := "fnExactSafeDown", unfollowed := true, recurses := true, plainKeys := false, apart := false, narrowed := true }
def FnExactSafeDownUptoSaid : Prop := fnExactSafeDownUptoRow.holds Try.pinned (OpenSpec.upto fnExactSafeDownSpec)

/-- 'laws.FnExactSafeUp', WHERE WHAT IT READS IS OF BULK AT MOST 1048576: true; the input reads as it did. -/
def fnExactSafeUpUptoRow : OpenClaim := { program := "ytljlgffkhocgkaa", sum := "3cece843cedc4b1ba355a8a433c63155259369cb93b8d71760d939d358a45cf2", func := "loop.example/causey/laws.FnExactSafeUp", spec := "fnExactSafeUp", unfollowed := true, recurses := true, plainKeys := false, apart := false, narrowed := true }
def FnExactSafeUpUptoSaid : Prop := fnExactSafeUpUptoRow.holds Try.pinned (OpenSpec.upto fnExactSafeUpSpec)

end Rows
end Go.Proofs.Ytljlgffkhocgkaa
