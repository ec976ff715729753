/-
  No cell of these rows narrows 'for every input' (looked for: loops, veiled, ifaces, maps, wideKeys, modest, calm, conditions, laid).
  DERIVED. THE GIVEN ROWS OF THIS SEAT. 12 by the template 'for every input the law returns true; each argument reads behind the call as it read before'; 0 by the template 'total and deterministic' (their statements: YtpgnlbkldjdjlaaGreatTotals.lean).
  GIVEN WITH THE SEED: the statements are not yours to turn. If you find one false, say at which input.
  Laid BY PROGRAM, IN A SANDBOX (cutbox-rows.mjs): the forced cells as the released guide's own fill.sh prints them over the translation f8191b89239fdc8d… (all of the seat's roots in one cut). By AI agents, Wed Nov 11 2026. No macro, syntax, notation, axiom, sorry.
-/
import Derived.Test.YtpgnlbkldjdjlaaGreatChecked
import GoSem.Claim
import GoSem.ClaimJoined
import GoSem.ClaimMapViews
import Derived.JoinedTies
import Derived.KernelRfl
namespace Go.Proofs.YtpgnlbkldjdjlaaGreat
/- THE CELL 'sum', in the pinned program and in every row, IS THE sha256 OF THE DUMP (.gsa) THAT YtpgnlbkldjdjlaaGreatProg.lean LOADS. Nothing in Lean hashes anything: it is a label: what it is worth is what the hold of that sum in a sandbox is worth. -/
noncomputable def Tryz.pinned : Pinned := { name := "ytpgnlbkldjdjlaagreat", sum := "f8191b89239fdc8db19b2bd62179c8287ebd557bc90c97b1e5bfdc9ca0d3043b", checked := Tryz.checked }
namespace Rows
def none {H : Type} : Left H := { results := [], args := [] }

/-- 'laws.FnExactSafeEarly': WHATEVER THE INPUT: true; the input reads as it did. -/
def fnExactSafeEarlySpec : ChangeSpec := { name := "fnExactSafeEarly", fn := fun _ => fun
  | [d1, d2] => { results := [.lit (.bool true)], args := [d1, d2] }
  | _ => none }
def fnExactSafeEarlyRow : OpenClaim := { program := "ytpgnlbkldjdjlaagreat", sum := "f8191b89239fdc8db19b2bd62179c8287ebd557bc90c97b1e5bfdc9ca0d3043b", func := "loop.example/causey/laws.FnExactSafeEarly", spec := "fnExactSafeEarly", unfollowed := true, recurses := true, plainKeys := false, apart := false }
def FnExactSafeEarlySaid : Prop := fnExactSafeEarlyRow.holds Tryz.pinned (OpenSpec.ofChange fnExactSafeEarlySpec)

/-- ITS FALSE NEIGHBOUR: 'it returns false'. Refute it at one input. -/
def fnExactSafeEarlyWrong : ChangeSpec := { name := "fnExactSafeEarly", fn := fun _ => fun
  | [d1, d2] => { results := [.lit (.bool false)], args := [d1, d2] }
  | _ => none }
def FnExactSafeEarlyWrongFalsely : Prop := fnExactSafeEarlyRow.holds Tryz.pinned (OpenSpec.ofChange fnExactSafeEarlyWrong)

/-- 'laws.FnExactSafeDelay': WHATEVER THE INPUT: true; the input reads as it did. -/
def fnExactSafeDelaySpec : ChangeSpec := { name := "fnExactSafeDelay", fn := fun _ => fun
  | [d1, d2] => { results := [.lit (.bool true)], args := [d1, d2] }
  | _ => none }
def fnExactSafeDelayRow : OpenClaim := { program := "ytpgnlbkldjdjlaagreat", sum := "f8191b89239fdc8db19b2bd62179c8287ebd557bc90c97b1e5bfdc9ca0d3043b", func := "loop.example/causey/laws.FnExactSafeDelay", spec := "fnExactSafeDelay", unfollowed := true, recurses := true, plainKeys := false, apart := false }
def FnExactSafeDelaySaid : Prop := fnExactSafeDelayRow.holds Tryz.pinned (OpenSpec.ofChange fnExactSafeDelaySpec)

/-- ITS FALSE NEIGHBOUR: 'it returns false'. Refute it at one input. -/
def fnExactSafeDelayWrong : ChangeSpec := { name := "fnExactSafeDelay", fn := fun _ => fun
  | [d1, d2] => { results := [.lit (.bool false)], args := [d1, d2] }
  | _ => none }
def FnExactSafeDelayWrongFalsely : Prop := fnExactSafeDelayRow.holds Tryz.pinned (OpenSpec.ofChange fnExactSafeDelayWrong)

/-- 'laws.FnExactSafeLate': WHATEVER THE INPUT: true; the input reads as it did. -/
def fnExactSafeLateSpec : ChangeSpec := { name := "fnExactSafeLate", fn := fun _ => fun
  | [d1, d2] => { results := [.lit (.bool true)], args := [d1, d2] }
  | _ => none }
def fnExactSafeLateRow : OpenClaim := { program := "ytpgnlbkldjdjlaagreat", sum := "f8191b89239fdc8db19b2bd62179c8287ebd557bc90c97b1e5bfdc9ca0d3043b", func := "loop.example/causey/laws.FnExactSafeLate", spec := "fnExactSafeLate", unfollowed := true, recurses := true, plainKeys := false, apart := false }
def FnExactSafeLateSaid : Prop := fnExactSafeLateRow.holds Tryz.pinned (OpenSpec.ofChange fnExactSafeLateSpec)

/-- ITS FALSE NEIGHBOUR: 'it returns false'. Refute it at one input. -/
def fnExactSafeLateWrong : ChangeSpec := { name := "fnExactSafeLate", fn := fun _ => fun
  | [d1, d2] => { results := [.lit (.bool false)], args := [d1, d2] }
  | _ => none }
def FnExactSafeLateWrongFalsely : Prop := fnExactSafeLateRow.holds Tryz.pinned (OpenSpec.ofChange fnExactSafeLateWrong)

/-- 'laws.FnExactSafeAlone': WHATEVER THE INPUT: true; the input reads as it did. -/
def fnExactSafeAloneSpec : ChangeSpec := { name := "fnExactSafeAlone", fn := fun _ => fun
  | [d1, d2] => { results := [.lit (.bool true)], args := [d1, d2] }
  | _ => none }
def fnExactSafeAloneRow : OpenClaim := { program := "ytpgnlbkldjdjlaagreat", sum := "f8191b89239fdc8db19b2bd62179c8287ebd557bc90c97b1e5bfdc9ca0d3043b", func := "loop.example/causey/laws.FnExactSafeAlone", spec := "fnExactSafeAlone", unfollowed := true, recurses := true, plainKeys := false, apart := false }
def FnExactSafeAloneSaid : Prop := fnExactSafeAloneRow.holds Tryz.pinned (OpenSpec.ofChange fnExactSafeAloneSpec)

/-- ITS FALSE NEIGHBOUR: 'it returns false'. Refute it at one input. -/
def fnExactSafeAloneWrong : ChangeSpec := { name := "fnExactSafeAlone", fn := fun _ => fun
  | [d1, d2] => { results := [.lit (.bool false)], args := [d1, d2] }
  | _ => none }
def FnExactSafeAloneWrongFalsely : Prop := fnExactSafeAloneRow.holds Tryz.pinned (OpenSpec.ofChange fnExactSafeAloneWrong)

/-- 'laws.FnExactPlaceBusy': WHATEVER THE INPUT: true; the input reads as it did. -/
def fnExactPlaceBusySpec : ChangeSpec := { name := "fnExactPlaceBusy", fn := fun _ => fun
  | [d1, d2] => { results := [.lit (.bool true)], args := [d1, d2] }
  | _ => none }
def fnExactPlaceBusyRow : OpenClaim := { program := "ytpgnlbkldjdjlaagreat", sum := "f8191b89239fdc8db19b2bd62179c8287ebd557bc90c97b1e5bfdc9ca0d3043b", func := "loop.example/causey/laws.FnExactPlaceBusy", spec := "fnExactPlaceBusy", unfollowed := true, recurses := true, plainKeys := false, apart := false }
def FnExactPlaceBusySaid : Prop := fnExactPlaceBusyRow.holds Tryz.pinned (OpenSpec.ofChange fnExactPlaceBusySpec)

/-- ITS FALSE NEIGHBOUR: 'it returns false'. Refute it at one input. -/
def fnExactPlaceBusyWrong : ChangeSpec := { name := "fnExactPlaceBusy", fn := fun _ => fun
  | [d1, d2] => { results := [.lit (.bool false)], args := [d1, d2] }
  | _ => none }
def FnExactPlaceBusyWrongFalsely : Prop := fnExactPlaceBusyRow.holds Tryz.pinned (OpenSpec.ofChange fnExactPlaceBusyWrong)

/-- 'laws.FnExactPlaceLazy': WHATEVER THE INPUT: true; the input reads as it did. -/
def fnExactPlaceLazySpec : ChangeSpec := { name := "fnExactPlaceLazy", fn := fun _ => fun
  | [d1, d2] => { results := [.lit (.bool true)], args := [d1, d2] }
  | _ => none }
def fnExactPlaceLazyRow : OpenClaim := { program := "ytpgnlbkldjdjlaagreat", sum := "f8191b89239fdc8db19b2bd62179c8287ebd557bc90c97b1e5bfdc9ca0d3043b", func := "loop.example/causey/laws.FnExactPlaceLazy", spec := "fnExactPlaceLazy", unfollowed := true, recurses := true, plainKeys := false, apart := false }
def FnExactPlaceLazySaid : Prop := fnExactPlaceLazyRow.holds Tryz.pinned (OpenSpec.ofChange fnExactPlaceLazySpec)

/-- ITS FALSE NEIGHBOUR: 'it returns false'. Refute it at one input. -/
def fnExactPlaceLazyWrong : ChangeSpec := { name := "fnExactPlaceLazy", fn := fun _ => fun
  | [d1, d2] => { results := [.lit (.bool false)], args := [d1, d2] }
  | _ => none }
def FnExactPlaceLazyWrongFalsely : Prop := fnExactPlaceLazyRow.holds Tryz.pinned (OpenSpec.ofChange fnExactPlaceLazyWrong)

/-- 'laws.FnExactPlaceOk': WHATEVER THE INPUT: true; the input reads as it did. -/
def fnExactPlaceOkSpec : ChangeSpec := { name := "fnExactPlaceOk", fn := fun _ => fun
  | [d1, d2, d3] => { results := [.lit (.bool true)], args := [d1, d2, d3] }
  | _ => none }
def fnExactPlaceOkRow : OpenClaim := { program := "ytpgnlbkldjdjlaagreat", sum := "f8191b89239fdc8db19b2bd62179c8287ebd557bc90c97b1e5bfdc9ca0d3043b", func := "loop.example/causey/laws.FnExactPlaceOk", spec := "fnExactPlaceOk", unfollowed := true, recurses := true, plainKeys := false, apart := false }
def FnExactPlaceOkSaid : Prop := fnExactPlaceOkRow.holds Tryz.pinned (OpenSpec.ofChange fnExactPlaceOkSpec)

/-- ITS FALSE NEIGHBOUR: 'it returns false'. Refute it at one input. -/
def fnExactPlaceOkWrong : ChangeSpec := { name := "fnExactPlaceOk", fn := fun _ => fun
  | [d1, d2, d3] => { results := [.lit (.bool false)], args := [d1, d2, d3] }
  | _ => none }
def FnExactPlaceOkWrongFalsely : Prop := fnExactPlaceOkRow.holds Tryz.pinned (OpenSpec.ofChange fnExactPlaceOkWrong)

/-- 'laws.FnExactPlaceDo': WHATEVER THE INPUT: true; the input reads as it did. -/
def fnExactPlaceDoSpec : ChangeSpec := { name := "fnExactPlaceDo", fn := fun _ => fun
  | [d1, d2, d3, d4] => { results := [.lit (.bool true)], args := [d1, d2, d3, d4] }
  | _ => none }
def fnExactPlaceDoRow : OpenClaim := { program := "ytpgnlbkldjdjlaagreat", sum := "f8191b89239fdc8db19b2bd62179c8287ebd557bc90c97b1e5bfdc9ca0d3043b", func := "loop.example/causey/laws.FnExactPlaceDo", spec := "fnExactPlaceDo", unfollowed := true, recurses := true, plainKeys := false, apart := false }
def FnExactPlaceDoSaid : Prop := fnExactPlaceDoRow.holds Tryz.pinned (OpenSpec.ofChange fnExactPlaceDoSpec)

/-- ITS FALSE NEIGHBOUR: 'it returns false'. Refute it at one input. -/
def fnExactPlaceDoWrong : ChangeSpec := { name := "fnExactPlaceDo", fn := fun _ => fun
  | [d1, d2, d3, d4] => { results := [.lit (.bool false)], args := [d1, d2, d3, d4] }
  | _ => none }
def FnExactPlaceDoWrongFalsely : Prop := fnExactPlaceDoRow.holds Tryz.pinned (OpenSpec.ofChange fnExactPlaceDoWrong)

/-- 'laws.FnSafeStart': WHATEVER THE INPUT: true; the input reads as it did. -/
def fnSafeStartSpec : ChangeSpec := { name := "fnSafeStart", fn := fun _ => fun
  | [d] => { results := [.lit (.bool true)], args := [d] }
  | _ => none }
def fnSafeStartRow : OpenClaim := { program := "ytpgnlbkldjdjlaagreat", sum := "f8191b89239fdc8db19b2bd62179c8287ebd557bc90c97b1e5bfdc9ca0d3043b", func := "loop.example/causey/laws.FnSafeStart", spec := "fnSafeStart", unfollowed := true, recurses := true, plainKeys := false, apart := false }
def FnSafeStartSaid : Prop := fnSafeStartRow.holds Tryz.pinned (OpenSpec.ofChange fnSafeStartSpec)

/-- ITS FALSE NEIGHBOUR: 'it returns false'. Refute it at one input. -/
def fnSafeStartWrong : ChangeSpec := { name := "fnSafeStart", fn := fun _ => fun
  | [d] => { results := [.lit (.bool false)], args := [d] }
  | _ => none }
def FnSafeStartWrongFalsely : Prop := fnSafeStartRow.holds Tryz.pinned (OpenSpec.ofChange fnSafeStartWrong)

/-- 'laws.FnSafeEarly': WHATEVER THE INPUT: true; the input reads as it did. -/
def fnSafeEarlySpec : ChangeSpec := { name := "fnSafeEarly", fn := fun _ => fun
  | [d] => { results := [.lit (.bool true)], args := [d] }
  | _ => none }
def fnSafeEarlyRow : OpenClaim := { program := "ytpgnlbkldjdjlaagreat", sum := "f8191b89239fdc8db19b2bd62179c8287ebd557bc90c97b1e5bfdc9ca0d3043b", func := "loop.example/causey/laws.FnSafeEarly", spec := "fnSafeEarly", unfollowed := true, recurses := true, plainKeys := false, apart := false }
def FnSafeEarlySaid : Prop := fnSafeEarlyRow.holds Tryz.pinned (OpenSpec.ofChange fnSafeEarlySpec)

/-- ITS FALSE NEIGHBOUR: 'it returns false'. Refute it at one input. -/
def fnSafeEarlyWrong : ChangeSpec := { name := "fnSafeEarly", fn := fun _ => fun
  | [d] => { results := [.lit (.bool false)], args := [d] }
  | _ => none }
def FnSafeEarlyWrongFalsely : Prop := fnSafeEarlyRow.holds Tryz.pinned (OpenSpec.ofChange fnSafeEarlyWrong)

/-- 'laws.FnPlaceForm': WHATEVER THE INPUT: true; the input reads as it did. -/
def fnPlaceFormSpec : ChangeSpec := { name := "fnPlaceForm", fn := fun _ => fun
  | [d] => { results := [.lit (.bool true)], args := [d] }
  | _ => none }
def fnPlaceFormRow : OpenClaim := { program := "ytpgnlbkldjdjlaagreat", sum := "f8191b89239fdc8db19b2bd62179c8287ebd557bc90c97b1e5bfdc9ca0d3043b", func := "loop.example/causey/laws.FnPlaceForm", spec := "fnPlaceForm", unfollowed := true, recurses := true, plainKeys := false, apart := false }
def FnPlaceFormSaid : Prop := fnPlaceFormRow.holds Tryz.pinned (OpenSpec.ofChange fnPlaceFormSpec)

/-- ITS FALSE NEIGHBOUR: 'it returns false'. Refute it at one input. -/
def fnPlaceFormWrong : ChangeSpec := { name := "fnPlaceForm", fn := fun _ => fun
  | [d] => { results := [.lit (.bool false)], args := [d] }
  | _ => none }
def FnPlaceFormWrongFalsely : Prop := fnPlaceFormRow.holds Tryz.pinned (OpenSpec.ofChange fnPlaceFormWrong)

/-- 'laws.FnPlaceStill': WHATEVER THE INPUT: true; the input reads as it did. -/
def fnPlaceStillSpec : ChangeSpec := { name := "fnPlaceStill", fn := fun _ => fun
  | [d] => { results := [.lit (.bool true)], args := [d] }
  | _ => none }
def fnPlaceStillRow : OpenClaim := { program := "ytpgnlbkldjdjlaagreat", sum := "f8191b89239fdc8db19b2bd62179c8287ebd557bc90c97b1e5bfdc9ca0d3043b", func := "loop.example/causey/laws.FnPlaceStill", spec := "fnPlaceStill", unfollowed := true, recurses := true, plainKeys := false, apart := false }
def FnPlaceStillSaid : Prop := fnPlaceStillRow.holds Tryz.pinned (OpenSpec.ofChange fnPlaceStillSpec)

/-- ITS FALSE NEIGHBOUR: 'it returns false'. Refute it at one input. -/
def fnPlaceStillWrong : ChangeSpec := { name := "fnPlaceStill", fn := fun _ => fun
  | [d] => { results := [.lit (.bool false)], args := [d] }
  | _ => none }
def FnPlaceStillWrongFalsely : Prop := fnPlaceStillRow.holds Tryz.pinned (OpenSpec.ofChange fnPlaceStillWrong)

/- THE SECOND FORM. 'bulk': how many values and letters a reading holds, each counted each time it is reached (what is shared counts as often as it is met; a slice's spare places count too). A statement '..UptoSaid' is the law's where the arguments, and the package variables that the reading takes, are together of bulk at most 1048576: NARROWER than '..Said'. Prove '..Said' where nothing that the law and all that it calls make is longer than what came in: it says more and counts as full. Else prove '..UptoSaid'. A law counts once. -/
mutual
def uptoBulk {H : Type} : DataW H → Nat
  | .lit (.string bytes) => bytes.length + 1
  | .lit _ => 1
  | .nil => 1
  | .ptr d => uptoBulk d + 1
  | .slice elems spare => uptoBulkAll elems + uptoBulkAll spare + 1
  | .agg parts => uptoBulkAll parts + 1
  | .iface _ d => uptoBulk d + 1
  | .map entries => uptoBulkEntries entries + 1
  | .held _ => 1
def uptoBulkAll {H : Type} : List (DataW H) → Nat
  | [] => 0
  | d :: r => uptoBulk d + uptoBulkAll r
def uptoBulkEntries {H : Type} : List (Lit × DataW H) → Nat
  | [] => 0
  | x :: r => uptoBulkEntry x + uptoBulkEntries r
def uptoBulkEntry {H : Type} : Lit × DataW H → Nat
  | (.string bytes, d) => bytes.length + uptoBulk d + 1
  | (_, d) => uptoBulk d + 1
 end
def uptoSmall : (H : Type) → List (DataW H) → Bool := fun _ ds => decide (uptoBulkAll ds ≤ 1048576)
def OpenSpec.upto (s : _root_.Go.ChangeSpec) : _root_.Go.OpenSpec := { _root_.Go.OpenSpec.ofChange s with cond := some uptoSmall }

/-- 'laws.FnExactSafeEarly', WHERE WHAT IT READS IS OF BULK AT MOST 1048576: true; the input reads as it did. -/
def fnExactSafeEarlyUptoRow : OpenClaim := { program := "ytpgnlbkldjdjlaagreat", sum := "f8191b89239fdc8db19b2bd62179c8287ebd557bc90c97b1e5bfdc9ca0d3043b", func := "loop.example/causey/laws.FnExactSafeEarly", spec := "fnExactSafeEarly", unfollowed := true, recurses := true, plainKeys := false, apart := false, narrowed := true }
def FnExactSafeEarlyUptoSaid : Prop := fnExactSafeEarlyUptoRow.holds Tryz.pinned (OpenSpec.upto fnExactSafeEarlySpec)

/-- 'laws.FnExactSafeDelay', WHERE WHAT IT READS IS OF BULK AT MOST 1048576: true; the input reads as it did. -/
def fnExactSafeDelayUptoRow : OpenClaim := { program := "ytpgnlbkldjdjlaagreat", sum := "f8191b89239fdc8db19b2bd62179c8287ebd557bc90c97b1e5bfdc9ca0d3043b", func := "loop.example/causey/laws.FnExactSafeDelay", spec := "fnExactSafeDelay", unfollowed := true, recurses := true, plainKeys := false, apart := false, narrowed := true }
def FnExactSafeDelayUptoSaid : Prop := fnExactSafeDelayUptoRow.holds Tryz.pinned (OpenSpec.upto fnExactSafeDelaySpec)

/-- 'laws.FnExactSafeLate', WHERE WHAT IT READS IS OF BULK AT MOST 1048576: true; the input reads as it did. -/
def fnExactSafeLateUptoRow : OpenClaim := { program := "ytpgnlbkldjdjlaagreat", sum := "f8191b89239fdc8db19b2bd62179c8287ebd557bc90c97b1e5bfdc9ca0d3043b", func := "loop.example/causey/laws.FnExactSafeLate", spec := "fnExactSafeLate", unfollowed := true, recurses := true, plainKeys := false, apart := false, narrowed := true }
def FnExactSafeLateUptoSaid : Prop := fnExactSafeLateUptoRow.holds Tryz.pinned (OpenSpec.upto fnExactSafeLateSpec)

/-- 'laws.FnExactSafeAlone', WHERE WHAT IT READS IS OF BULK AT MOST 1048576: true; the input reads as it did. -/
def fnExactSafeAloneUptoRow : OpenClaim := { program := "ytpgnlbkldjdjlaagreat", sum := "f8191b89239fdc8db19b2bd62179c8287ebd557bc90c97b1e5bfdc9ca0d3043b", func := "loop.example/causey/laws.FnExactSafeAlone", spec := "fnExactSafeAlone", unfollowed := true, recurses := true, plainKeys := false, apart := false, narrowed := true }
def FnExactSafeAloneUptoSaid : Prop := fnExactSafeAloneUptoRow.holds Tryz.pinned (OpenSpec.upto fnExactSafeAloneSpec)

/-- 'laws.FnExactPlaceBusy', WHERE WHAT IT READS IS OF BULK AT MOST 1048576: true; the input reads as it did. -/
def fnExactPlaceBusyUptoRow : OpenClaim := { program := "ytpgnlbkldjdjlaagreat", sum := "f8191b89239fdc8db19b2bd62179c8287ebd557bc90c97b1e5bfdc9ca0d3043b", func := "loop.example/causey/laws.FnExactPlaceBusy", spec := "fnExactPlaceBusy", unfollowed := true, recurses := true, plainKeys := false, apart := false, narrowed := true }
def FnExactPlaceBusyUptoSaid : Prop := fnExactPlaceBusyUptoRow.holds Tryz.pinned (OpenSpec.upto fnExactPlaceBusySpec)

/-- 'laws.FnExactPlaceLazy', WHERE WHAT IT READS IS OF BULK AT MOST 1048576: true; the input reads as it did. -/
def fnExactPlaceLazyUptoRow : OpenClaim := { program := "ytpgnlbkldjdjlaagreat", sum := "f8191b89239fdc8db19b2bd62179c8287ebd557bc90c97b1e5bfdc9ca0d3043b", func := "loop.example/causey/laws.FnExactPlaceLazy", spec := "fnExactPlaceLazy", unfollowed := true, recurses := true, plainKeys := false, apart := false, narrowed := true }
def FnExactPlaceLazyUptoSaid : Prop := fnExactPlaceLazyUptoRow.holds Tryz.pinned (OpenSpec.upto fnExactPlaceLazySpec)

/-- 'laws.FnExactPlaceOk', WHERE WHAT IT READS IS OF BULK AT MOST 1048576: true; the input reads as it did. -/
def fnExactPlaceOkUptoRow : OpenClaim := { program := "ytpgnlbkldjdjlaagreat", sum := "f8191b89239fdc8db19b2bd62179c8287ebd557bc90c97b1e5bfdc9ca0d3043b", func := "loop.example/causey/laws.FnExactPlaceOk", spec := "fnExactPlaceOk", unfollowed := true, recurses := true, plainKeys := false, apart := false, narrowed := true }
def FnExactPlaceOkUptoSaid : Prop := fnExactPlaceOkUptoRow.holds Tryz.pinned (OpenSpec.upto fnExactPlaceOkSpec)

/-- 'laws.FnExactPlaceDo', WHERE WHAT IT READS IS OF BULK AT MOST 1048576: true; the input reads as it did. -/
def fnExactPlaceDoUptoRow : OpenClaim := { program := "ytpgnlbkldjdjlaagreat", sum := "f8191b89239fdc8db19b2bd62179c8287ebd557bc90c97b1e5bfdc9ca0d3043b", func := "loop.example/causey/laws.FnExactPlaceDo", spec := "fnExactPlaceDo", unfollowed := true, recurses := true, plainKeys := false, apart := false, narrowed := true }
def FnExactPlaceDoUptoSaid : Prop := fnExactPlaceDoUptoRow.holds Tryz.pinned (OpenSpec.upto fnExactPlaceDoSpec)

/-- 'laws.FnSafeStart', WHERE WHAT IT READS IS OF BULK AT MOST 1048576: true; the input reads as it did. -/
def fnSafeStartUptoRow : OpenClaim := { program := "ytpgnlbkldjdjlaagreat", sum := "f8191b89239fdc8db19b2bd62179c8287ebd557bc90c97b1e5bfdc9ca0d3043b", func := "loop.example/causey/laws.FnSafeStart", spec := "fnSafeStart", unfollowed := true, recurses := true, plainKeys := false, apart := false, narrowed := true }
def FnSafeStartUptoSaid : Prop := fnSafeStartUptoRow.holds Tryz.pinned (OpenSpec.upto fnSafeStartSpec)

/-- 'laws.FnSafeEarly', WHERE WHAT IT READS IS OF BULK AT MOST 1048576: true; the input reads as it did. -/
def fnSafeEarlyUptoRow : OpenClaim := { program := "ytpgnlbkldjdjlaagreat", sum := "f8191b89239fdc8db19b2bd62179c8287ebd557bc90c97b1e5bfdc9ca0d3043b", func := "loop.example/causey/laws.FnSafeEarly", spec := "fnSafeEarly", unfollowed := true, recurses := true, plainKeys := false, apart := false, narrowed := true }
def FnSafeEarlyUptoSaid : Prop := fnSafeEarlyUptoRow.holds Tryz.pinned (OpenSpec.upto fnSafeEarlySpec)

/-- 'laws.FnPlaceForm', WHERE WHAT IT READS IS OF BULK AT MOST 1048576: true; the input reads as it did. -/
def fnPlaceFormUptoRow : OpenClaim := { program := "ytpgnlbkldjdjlaagreat", sum := "f8191b89239fdc8db19b2bd62179c8287ebd557bc90c97b1e5bfdc9ca0d3043b", func := "loop.example/causey/laws.FnPlaceForm", spec := "fnPlaceForm", unfollowed := true, recurses := true, plainKeys := false, apart := false, narrowed := true }
def FnPlaceFormUptoSaid : Prop := fnPlaceFormUptoRow.holds Tryz.pinned (OpenSpec.upto fnPlaceFormSpec)

/-- 'laws.FnPlaceStill', WHERE WHAT IT READS IS OF BULK AT MOST 1048576: true; the input reads as it did. -/
def fnPlaceStillUptoRow : OpenClaim := { program := "ytpgnlbkldjdjlaagreat", sum := "f8191b89239fdc8db19b2bd62179c8287ebd557bc90c97b1e5bfdc9ca0d3043b", func := "loop.example/causey/laws.FnPlaceStill", spec := "fnPlaceStill", unfollowed := true, recurses := true, plainKeys := false, apart := false, narrowed := true }
def FnPlaceStillUptoSaid : Prop := fnPlaceStillUptoRow.holds Tryz.pinned (OpenSpec.upto fnPlaceStillSpec)

end Rows
end Go.Proofs.YtpgnlbkldjdjlaaGreat
