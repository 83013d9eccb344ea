/-
  No cell of these rows narrows 'for every input' (looked for: loops, veiled, ifaces, maps, wideKeys, modest, calm, conditions, laid).
  DERIVED. THE GIVEN ROWS OF THIS SEAT. 18 by the template 'for every input the law returns true; each argument reads behind the call as it read before'; 0 by the template 'total and deterministic' (their statements: YtlebnmboaeemoaaTotals.lean).
  GIVEN WITH THE SEED: the statements are not yours to turn. If you find one false, say at which input.
  Laid BY PROGRAM, IN A SANDBOX (cutbox-rows.mjs): the forced cells as the released guide's own fill.sh prints them over the translation 189cde13249cb14f… (all of the seat's roots in one cut). By AI agents, Wed Nov 11 2026. No macro, syntax, notation, axiom, sorry.
-/
import Derived.Test.YtlebnmboaeemoaaChecked
import GoSem.Claim
import GoSem.ClaimJoined
import GoSem.ClaimMapViews
import Derived.JoinedTies
import Derived.KernelRfl
namespace Go.Proofs.Ytlebnmboaeemoaa
/- THE CELL 'sum', in the pinned program and in every row, IS THE sha256 OF THE DUMP (.gsa) THAT YtlebnmboaeemoaaProg.lean LOADS. Nothing in Lean hashes anything: it is a label: what it is worth is what the hold of that sum in a sandbox is worth. -/
noncomputable def Try.pinned : Pinned := { name := "ytlebnmboaeemoaa", sum := "189cde13249cb14f4fca6941de9e57143767d6cf268480e04a2565bb4cb99be3", checked := Try.checked }
namespace Rows
def none {H : Type} : Left H := { results := [], args := [] }

/-- 'laws.FnRoot': WHATEVER THE INPUT: true; the input reads as it did. -/
def fnRootSpec : ChangeSpec := { name := "fnRoot", fn := fun _ => fun
  | [d1, d2] => { results := [.lit (.bool true)], args := [d1, d2] }
  | _ => none }
def fnRootRow : OpenClaim := { program := "ytlebnmboaeemoaa", sum := "189cde13249cb14f4fca6941de9e57143767d6cf268480e04a2565bb4cb99be3", func := "loop.example/linkedroots/laws.FnRoot", spec := "fnRoot", unfollowed := true, recurses := true, apart := false }
def FnRootSaid : Prop := fnRootRow.holds Try.pinned (OpenSpec.ofChange fnRootSpec)

/-- ITS FALSE NEIGHBOUR: 'it returns false'. Refute it at one input. -/
def fnRootWrong : ChangeSpec := { name := "fnRoot", fn := fun _ => fun
  | [d1, d2] => { results := [.lit (.bool false)], args := [d1, d2] }
  | _ => none }
def FnRootWrongFalsely : Prop := fnRootRow.holds Try.pinned (OpenSpec.ofChange fnRootWrong)

/-- 'laws.FnWayUp': WHATEVER THE INPUT: true; the input reads as it did. -/
def fnWayUpSpec : ChangeSpec := { name := "fnWayUp", fn := fun _ => fun
  | [d1, d2] => { results := [.lit (.bool true)], args := [d1, d2] }
  | _ => none }
def fnWayUpRow : OpenClaim := { program := "ytlebnmboaeemoaa", sum := "189cde13249cb14f4fca6941de9e57143767d6cf268480e04a2565bb4cb99be3", func := "loop.example/linkedroots/laws.FnWayUp", spec := "fnWayUp", unfollowed := true, recurses := true, apart := false }
def FnWayUpSaid : Prop := fnWayUpRow.holds Try.pinned (OpenSpec.ofChange fnWayUpSpec)

/-- ITS FALSE NEIGHBOUR: 'it returns false'. Refute it at one input. -/
def fnWayUpWrong : ChangeSpec := { name := "fnWayUp", fn := fun _ => fun
  | [d1, d2] => { results := [.lit (.bool false)], args := [d1, d2] }
  | _ => none }
def FnWayUpWrongFalsely : Prop := fnWayUpRow.holds Try.pinned (OpenSpec.ofChange fnWayUpWrong)

/-- 'laws.FnClasses': WHATEVER THE INPUT: true; the input reads as it did. -/
def fnClassesSpec : ChangeSpec := { name := "fnClasses", fn := fun _ => fun
  | [d1, d2] => { results := [.lit (.bool true)], args := [d1, d2] }
  | _ => none }
def fnClassesRow : OpenClaim := { program := "ytlebnmboaeemoaa", sum := "189cde13249cb14f4fca6941de9e57143767d6cf268480e04a2565bb4cb99be3", func := "loop.example/linkedroots/laws.FnClasses", spec := "fnClasses", unfollowed := true, recurses := true, apart := false }
def FnClassesSaid : Prop := fnClassesRow.holds Try.pinned (OpenSpec.ofChange fnClassesSpec)

/-- ITS FALSE NEIGHBOUR: 'it returns false'. Refute it at one input. -/
def fnClassesWrong : ChangeSpec := { name := "fnClasses", fn := fun _ => fun
  | [d1, d2] => { results := [.lit (.bool false)], args := [d1, d2] }
  | _ => none }
def FnClassesWrongFalsely : Prop := fnClassesRow.holds Try.pinned (OpenSpec.ofChange fnClassesWrong)

/-- 'laws.FnSameClasses': WHATEVER THE INPUT: true; the input reads as it did. -/
def fnSameClassesSpec : ChangeSpec := { name := "fnSameClasses", fn := fun _ => fun
  | [d1, d2] => { results := [.lit (.bool true)], args := [d1, d2] }
  | _ => none }
def fnSameClassesRow : OpenClaim := { program := "ytlebnmboaeemoaa", sum := "189cde13249cb14f4fca6941de9e57143767d6cf268480e04a2565bb4cb99be3", func := "loop.example/linkedroots/laws.FnSameClasses", spec := "fnSameClasses", unfollowed := true, recurses := true, apart := false }
def FnSameClassesSaid : Prop := fnSameClassesRow.holds Try.pinned (OpenSpec.ofChange fnSameClassesSpec)

/-- ITS FALSE NEIGHBOUR: 'it returns false'. Refute it at one input. -/
def fnSameClassesWrong : ChangeSpec := { name := "fnSameClasses", fn := fun _ => fun
  | [d1, d2] => { results := [.lit (.bool false)], args := [d1, d2] }
  | _ => none }
def FnSameClassesWrongFalsely : Prop := fnSameClassesRow.holds Try.pinned (OpenSpec.ofChange fnSameClassesWrong)

/-- 'laws.FnMirror': WHATEVER THE INPUT: true; the input reads as it did. -/
def fnMirrorSpec : ChangeSpec := { name := "fnMirror", fn := fun _ => fun
  | [d] => { results := [.lit (.bool true)], args := [d] }
  | _ => none }
def fnMirrorRow : OpenClaim := { program := "ytlebnmboaeemoaa", sum := "189cde13249cb14f4fca6941de9e57143767d6cf268480e04a2565bb4cb99be3", func := "loop.example/linkedroots/laws.FnMirror", spec := "fnMirror", unfollowed := true, recurses := true, apart := false }
def FnMirrorSaid : Prop := fnMirrorRow.holds Try.pinned (OpenSpec.ofChange fnMirrorSpec)

/-- ITS FALSE NEIGHBOUR: 'it returns false'. Refute it at one input. -/
def fnMirrorWrong : ChangeSpec := { name := "fnMirror", fn := fun _ => fun
  | [d] => { results := [.lit (.bool false)], args := [d] }
  | _ => none }
def FnMirrorWrongFalsely : Prop := fnMirrorRow.holds Try.pinned (OpenSpec.ofChange fnMirrorWrong)

/-- 'laws.FnCutLink': WHATEVER THE INPUT: true; the input reads as it did. -/
def fnCutLinkSpec : ChangeSpec := { name := "fnCutLink", fn := fun _ => fun
  | [d] => { results := [.lit (.bool true)], args := [d] }
  | _ => none }
def fnCutLinkRow : OpenClaim := { program := "ytlebnmboaeemoaa", sum := "189cde13249cb14f4fca6941de9e57143767d6cf268480e04a2565bb4cb99be3", func := "loop.example/linkedroots/laws.FnCutLink", spec := "fnCutLink", unfollowed := true, recurses := true, apart := false }
def FnCutLinkSaid : Prop := fnCutLinkRow.holds Try.pinned (OpenSpec.ofChange fnCutLinkSpec)

/-- ITS FALSE NEIGHBOUR: 'it returns false'. Refute it at one input. -/
def fnCutLinkWrong : ChangeSpec := { name := "fnCutLink", fn := fun _ => fun
  | [d] => { results := [.lit (.bool false)], args := [d] }
  | _ => none }
def FnCutLinkWrongFalsely : Prop := fnCutLinkRow.holds Try.pinned (OpenSpec.ofChange fnCutLinkWrong)

/-- 'laws.FnSkip': WHATEVER THE INPUT: true; the input reads as it did. -/
def fnSkipSpec : ChangeSpec := { name := "fnSkip", fn := fun _ => fun
  | [d] => { results := [.lit (.bool true)], args := [d] }
  | _ => none }
def fnSkipRow : OpenClaim := { program := "ytlebnmboaeemoaa", sum := "189cde13249cb14f4fca6941de9e57143767d6cf268480e04a2565bb4cb99be3", func := "loop.example/linkedroots/laws.FnSkip", spec := "fnSkip", unfollowed := true, recurses := true, apart := false }
def FnSkipSaid : Prop := fnSkipRow.holds Try.pinned (OpenSpec.ofChange fnSkipSpec)

/-- ITS FALSE NEIGHBOUR: 'it returns false'. Refute it at one input. -/
def fnSkipWrong : ChangeSpec := { name := "fnSkip", fn := fun _ => fun
  | [d] => { results := [.lit (.bool false)], args := [d] }
  | _ => none }
def FnSkipWrongFalsely : Prop := fnSkipRow.holds Try.pinned (OpenSpec.ofChange fnSkipWrong)

/-- 'laws.FnSquares': WHATEVER THE INPUT: true; the input reads as it did. -/
def fnSquaresSpec : ChangeSpec := { name := "fnSquares", fn := fun _ => fun
  | [d] => { results := [.lit (.bool true)], args := [d] }
  | _ => none }
def fnSquaresRow : OpenClaim := { program := "ytlebnmboaeemoaa", sum := "189cde13249cb14f4fca6941de9e57143767d6cf268480e04a2565bb4cb99be3", func := "loop.example/linkedroots/laws.FnSquares", spec := "fnSquares", unfollowed := true, recurses := true, apart := false }
def FnSquaresSaid : Prop := fnSquaresRow.holds Try.pinned (OpenSpec.ofChange fnSquaresSpec)

/-- ITS FALSE NEIGHBOUR: 'it returns false'. Refute it at one input. -/
def fnSquaresWrong : ChangeSpec := { name := "fnSquares", fn := fun _ => fun
  | [d] => { results := [.lit (.bool false)], args := [d] }
  | _ => none }
def FnSquaresWrongFalsely : Prop := fnSquaresRow.holds Try.pinned (OpenSpec.ofChange fnSquaresWrong)

/-- 'laws.FnHang': WHATEVER THE INPUT: true; the input reads as it did. -/
def fnHangSpec : ChangeSpec := { name := "fnHang", fn := fun _ => fun
  | [d] => { results := [.lit (.bool true)], args := [d] }
  | _ => none }
def fnHangRow : OpenClaim := { program := "ytlebnmboaeemoaa", sum := "189cde13249cb14f4fca6941de9e57143767d6cf268480e04a2565bb4cb99be3", func := "loop.example/linkedroots/laws.FnHang", spec := "fnHang", unfollowed := true, recurses := true, apart := false }
def FnHangSaid : Prop := fnHangRow.holds Try.pinned (OpenSpec.ofChange fnHangSpec)

/-- ITS FALSE NEIGHBOUR: 'it returns false'. Refute it at one input. -/
def fnHangWrong : ChangeSpec := { name := "fnHang", fn := fun _ => fun
  | [d] => { results := [.lit (.bool false)], args := [d] }
  | _ => none }
def FnHangWrongFalsely : Prop := fnHangRow.holds Try.pinned (OpenSpec.ofChange fnHangWrong)

/-- 'laws.FnExactForestValid': WHATEVER THE INPUT: true; the input reads as it did. -/
def fnExactForestValidSpec : ChangeSpec := { name := "fnExactForestValid", fn := fun _ => fun
  | [d] => { results := [.lit (.bool true)], args := [d] }
  | _ => none }
def fnExactForestValidRow : OpenClaim := { program := "ytlebnmboaeemoaa", sum := "189cde13249cb14f4fca6941de9e57143767d6cf268480e04a2565bb4cb99be3", func := "loop.example/linkedroots/laws.FnExactForestValid", spec := "fnExactForestValid", unfollowed := true, recurses := true, apart := false }
def FnExactForestValidSaid : Prop := fnExactForestValidRow.holds Try.pinned (OpenSpec.ofChange fnExactForestValidSpec)

/-- ITS FALSE NEIGHBOUR: 'it returns false'. Refute it at one input. -/
def fnExactForestValidWrong : ChangeSpec := { name := "fnExactForestValid", fn := fun _ => fun
  | [d] => { results := [.lit (.bool false)], args := [d] }
  | _ => none }
def FnExactForestValidWrongFalsely : Prop := fnExactForestValidRow.holds Try.pinned (OpenSpec.ofChange fnExactForestValidWrong)

/-- 'laws.FnExactNewForest': WHATEVER THE INPUT: true; the input reads as it did. -/
def fnExactNewForestSpec : ChangeSpec := { name := "fnExactNewForest", fn := fun _ => fun
  | [d] => { results := [.lit (.bool true)], args := [d] }
  | _ => none }
def fnExactNewForestRow : OpenClaim := { program := "ytlebnmboaeemoaa", sum := "189cde13249cb14f4fca6941de9e57143767d6cf268480e04a2565bb4cb99be3", func := "loop.example/linkedroots/laws.FnExactNewForest", spec := "fnExactNewForest", apart := false }
def FnExactNewForestSaid : Prop := fnExactNewForestRow.holds Try.pinned (OpenSpec.ofChange fnExactNewForestSpec)

/-- ITS FALSE NEIGHBOUR: 'it returns false'. Refute it at one input. -/
def fnExactNewForestWrong : ChangeSpec := { name := "fnExactNewForest", fn := fun _ => fun
  | [d] => { results := [.lit (.bool false)], args := [d] }
  | _ => none }
def FnExactNewForestWrongFalsely : Prop := fnExactNewForestRow.holds Try.pinned (OpenSpec.ofChange fnExactNewForestWrong)

/-- 'laws.FnExactRootOf': WHATEVER THE INPUT: true; the input reads as it did. -/
def fnExactRootOfSpec : ChangeSpec := { name := "fnExactRootOf", fn := fun _ => fun
  | [d1, d2] => { results := [.lit (.bool true)], args := [d1, d2] }
  | _ => none }
def fnExactRootOfRow : OpenClaim := { program := "ytlebnmboaeemoaa", sum := "189cde13249cb14f4fca6941de9e57143767d6cf268480e04a2565bb4cb99be3", func := "loop.example/linkedroots/laws.FnExactRootOf", spec := "fnExactRootOf", unfollowed := true, recurses := true, apart := false }
def FnExactRootOfSaid : Prop := fnExactRootOfRow.holds Try.pinned (OpenSpec.ofChange fnExactRootOfSpec)

/-- ITS FALSE NEIGHBOUR: 'it returns false'. Refute it at one input. -/
def fnExactRootOfWrong : ChangeSpec := { name := "fnExactRootOf", fn := fun _ => fun
  | [d1, d2] => { results := [.lit (.bool false)], args := [d1, d2] }
  | _ => none }
def FnExactRootOfWrongFalsely : Prop := fnExactRootOfRow.holds Try.pinned (OpenSpec.ofChange fnExactRootOfWrong)

/-- 'laws.FnExactWayUp': WHATEVER THE INPUT: true; the input reads as it did. -/
def fnExactWayUpSpec : ChangeSpec := { name := "fnExactWayUp", fn := fun _ => fun
  | [d1, d2] => { results := [.lit (.bool true)], args := [d1, d2] }
  | _ => none }
def fnExactWayUpRow : OpenClaim := { program := "ytlebnmboaeemoaa", sum := "189cde13249cb14f4fca6941de9e57143767d6cf268480e04a2565bb4cb99be3", func := "loop.example/linkedroots/laws.FnExactWayUp", spec := "fnExactWayUp", unfollowed := true, recurses := true, apart := false }
def FnExactWayUpSaid : Prop := fnExactWayUpRow.holds Try.pinned (OpenSpec.ofChange fnExactWayUpSpec)

/-- ITS FALSE NEIGHBOUR: 'it returns false'. Refute it at one input. -/
def fnExactWayUpWrong : ChangeSpec := { name := "fnExactWayUp", fn := fun _ => fun
  | [d1, d2] => { results := [.lit (.bool false)], args := [d1, d2] }
  | _ => none }
def FnExactWayUpWrongFalsely : Prop := fnExactWayUpRow.holds Try.pinned (OpenSpec.ofChange fnExactWayUpWrong)

/-- 'laws.FnExactTogether': WHATEVER THE INPUT: true; the input reads as it did. -/
def fnExactTogetherSpec : ChangeSpec := { name := "fnExactTogether", fn := fun _ => fun
  | [d1, d2, d3] => { results := [.lit (.bool true)], args := [d1, d2, d3] }
  | _ => none }
def fnExactTogetherRow : OpenClaim := { program := "ytlebnmboaeemoaa", sum := "189cde13249cb14f4fca6941de9e57143767d6cf268480e04a2565bb4cb99be3", func := "loop.example/linkedroots/laws.FnExactTogether", spec := "fnExactTogether", unfollowed := true, recurses := true, apart := false }
def FnExactTogetherSaid : Prop := fnExactTogetherRow.holds Try.pinned (OpenSpec.ofChange fnExactTogetherSpec)

/-- ITS FALSE NEIGHBOUR: 'it returns false'. Refute it at one input. -/
def fnExactTogetherWrong : ChangeSpec := { name := "fnExactTogether", fn := fun _ => fun
  | [d1, d2, d3] => { results := [.lit (.bool false)], args := [d1, d2, d3] }
  | _ => none }
def FnExactTogetherWrongFalsely : Prop := fnExactTogetherRow.holds Try.pinned (OpenSpec.ofChange fnExactTogetherWrong)

/-- 'laws.FnExactClassesOf': WHATEVER THE INPUT: true; the input reads as it did. -/
def fnExactClassesOfSpec : ChangeSpec := { name := "fnExactClassesOf", fn := fun _ => fun
  | [d] => { results := [.lit (.bool true)], args := [d] }
  | _ => none }
def fnExactClassesOfRow : OpenClaim := { program := "ytlebnmboaeemoaa", sum := "189cde13249cb14f4fca6941de9e57143767d6cf268480e04a2565bb4cb99be3", func := "loop.example/linkedroots/laws.FnExactClassesOf", spec := "fnExactClassesOf", unfollowed := true, recurses := true, apart := false }
def FnExactClassesOfSaid : Prop := fnExactClassesOfRow.holds Try.pinned (OpenSpec.ofChange fnExactClassesOfSpec)

/-- ITS FALSE NEIGHBOUR: 'it returns false'. Refute it at one input. -/
def fnExactClassesOfWrong : ChangeSpec := { name := "fnExactClassesOf", fn := fun _ => fun
  | [d] => { results := [.lit (.bool false)], args := [d] }
  | _ => none }
def FnExactClassesOfWrongFalsely : Prop := fnExactClassesOfRow.holds Try.pinned (OpenSpec.ofChange fnExactClassesOfWrong)

/-- 'laws.FnExactClassOf': WHATEVER THE INPUT: true; the input reads as it did. -/
def fnExactClassOfSpec : ChangeSpec := { name := "fnExactClassOf", fn := fun _ => fun
  | [d1, d2] => { results := [.lit (.bool true)], args := [d1, d2] }
  | _ => none }
def fnExactClassOfRow : OpenClaim := { program := "ytlebnmboaeemoaa", sum := "189cde13249cb14f4fca6941de9e57143767d6cf268480e04a2565bb4cb99be3", func := "loop.example/linkedroots/laws.FnExactClassOf", spec := "fnExactClassOf", unfollowed := true, recurses := true, apart := false }
def FnExactClassOfSaid : Prop := fnExactClassOfRow.holds Try.pinned (OpenSpec.ofChange fnExactClassOfSpec)

/-- ITS FALSE NEIGHBOUR: 'it returns false'. Refute it at one input. -/
def fnExactClassOfWrong : ChangeSpec := { name := "fnExactClassOf", fn := fun _ => fun
  | [d1, d2] => { results := [.lit (.bool false)], args := [d1, d2] }
  | _ => none }
def FnExactClassOfWrongFalsely : Prop := fnExactClassOfRow.holds Try.pinned (OpenSpec.ofChange fnExactClassOfWrong)

/-- 'laws.FnExactDeepestOf': WHATEVER THE INPUT: true; the input reads as it did. -/
def fnExactDeepestOfSpec : ChangeSpec := { name := "fnExactDeepestOf", fn := fun _ => fun
  | [d] => { results := [.lit (.bool true)], args := [d] }
  | _ => none }
def fnExactDeepestOfRow : OpenClaim := { program := "ytlebnmboaeemoaa", sum := "189cde13249cb14f4fca6941de9e57143767d6cf268480e04a2565bb4cb99be3", func := "loop.example/linkedroots/laws.FnExactDeepestOf", spec := "fnExactDeepestOf", unfollowed := true, recurses := true, apart := false }
def FnExactDeepestOfSaid : Prop := fnExactDeepestOfRow.holds Try.pinned (OpenSpec.ofChange fnExactDeepestOfSpec)

/-- ITS FALSE NEIGHBOUR: 'it returns false'. Refute it at one input. -/
def fnExactDeepestOfWrong : ChangeSpec := { name := "fnExactDeepestOf", fn := fun _ => fun
  | [d] => { results := [.lit (.bool false)], args := [d] }
  | _ => none }
def FnExactDeepestOfWrongFalsely : Prop := fnExactDeepestOfRow.holds Try.pinned (OpenSpec.ofChange fnExactDeepestOfWrong)

/-- 'laws.FnExactSameClasses': WHATEVER THE INPUT: true; the input reads as it did. -/
def fnExactSameClassesSpec : ChangeSpec := { name := "fnExactSameClasses", fn := fun _ => fun
  | [d1, d2] => { results := [.lit (.bool true)], args := [d1, d2] }
  | _ => none }
def fnExactSameClassesRow : OpenClaim := { program := "ytlebnmboaeemoaa", sum := "189cde13249cb14f4fca6941de9e57143767d6cf268480e04a2565bb4cb99be3", func := "loop.example/linkedroots/laws.FnExactSameClasses", spec := "fnExactSameClasses", unfollowed := true, recurses := true, apart := false }
def FnExactSameClassesSaid : Prop := fnExactSameClassesRow.holds Try.pinned (OpenSpec.ofChange fnExactSameClassesSpec)

/-- ITS FALSE NEIGHBOUR: 'it returns false'. Refute it at one input. -/
def fnExactSameClassesWrong : ChangeSpec := { name := "fnExactSameClasses", fn := fun _ => fun
  | [d1, d2] => { results := [.lit (.bool false)], args := [d1, d2] }
  | _ => none }
def FnExactSameClassesWrongFalsely : Prop := fnExactSameClassesRow.holds Try.pinned (OpenSpec.ofChange fnExactSameClassesWrong)

/- THE SECOND FORM. 'bulk': how many values and letters a reading holds, each counted each time it is reached (what is shared counts as often as it is met; a slice's spare places count too). A statement '..UptoSaid' is the law's where the arguments, and the package variables that the reading takes, are together of bulk at most 1048576: NARROWER than '..Said'. Prove '..Said' where nothing that the law and all that it calls make is longer than what came in: it says more and counts as full. Else prove '..UptoSaid'. A law counts once. -/
mutual
def uptoBulk {H : Type} : DataW H → Nat
  | .lit (.string bytes) => bytes.length + 1
  | .lit _ => 1
  | .nil => 1
  | .ptr d => uptoBulk d + 1
  | .slice elems spare => uptoBulkAll elems + uptoBulkAll spare + 1
  | .agg parts => uptoBulkAll parts + 1
  | .iface _ d => uptoBulk d + 1
  | .map entries => uptoBulkEntries entries + 1
  | .held _ => 1
def uptoBulkAll {H : Type} : List (DataW H) → Nat
  | [] => 0
  | d :: r => uptoBulk d + uptoBulkAll r
def uptoBulkEntries {H : Type} : List (Lit × DataW H) → Nat
  | [] => 0
  | x :: r => uptoBulkEntry x + uptoBulkEntries r
def uptoBulkEntry {H : Type} : Lit × DataW H → Nat
  | (.string bytes, d) => bytes.length + uptoBulk d + 1
  | (_, d) => uptoBulk d + 1
 end
def uptoSmall : (H : Type) → List (DataW H) → Bool := fun _ ds => decide (uptoBulkAll ds ≤ 1048576)
def OpenSpec.upto (s : _root_.Go.ChangeSpec) : _root_.Go.OpenSpec := { _root_.Go.OpenSpec.ofChange s with cond := some uptoSmall }

/-- 'laws.FnRoot', WHERE WHAT IT READS IS OF BULK AT MOST 1048576: true; the input reads as it did. -/
def fnRootUptoRow : OpenClaim := { program := "ytlebnmboaeemoaa", sum := "189cde13249cb14f4fca6941de9e57143767d6cf268480e04a2565bb4cb99be3", func := "loop.example/linkedroots/laws.FnRoot", spec := "fnRoot", unfollowed := true, recurses := true, apart := false, narrowed := true }
def FnRootUptoSaid : Prop := fnRootUptoRow.holds Try.pinned (OpenSpec.upto fnRootSpec)

/-- 'laws.FnWayUp', WHERE WHAT IT READS IS OF BULK AT MOST 1048576: true; the input reads as it did. -/
def fnWayUpUptoRow : OpenClaim := { program := "ytlebnmboaeemoaa", sum := "189cde13249cb14f4fca6941de9e57143767d6cf268480e04a2565bb4cb99be3", func := "loop.example/linkedroots/laws.FnWayUp", spec := "fnWayUp", unfollowed := true, recurses := true, apart := false, narrowed := true }
def FnWayUpUptoSaid : Prop := fnWayUpUptoRow.holds Try.pinned (OpenSpec.upto fnWayUpSpec)

/-- 'laws.FnClasses', WHERE WHAT IT READS IS OF BULK AT MOST 1048576: true; the input reads as it did. -/
def fnClassesUptoRow : OpenClaim := { program := "ytlebnmboaeemoaa", sum := "189cde13249cb14f4fca6941de9e57143767d6cf268480e04a2565bb4cb99be3", func := "loop.example/linkedroots/laws.FnClasses", spec := "fnClasses", unfollowed := true, recurses := true, apart := false, narrowed := true }
def FnClassesUptoSaid : Prop := fnClassesUptoRow.holds Try.pinned (OpenSpec.upto fnClassesSpec)

/-- 'laws.FnSameClasses', WHERE WHAT IT READS IS OF BULK AT MOST 1048576: true; the input reads as it did. -/
def fnSameClassesUptoRow : OpenClaim := { program := "ytlebnmboaeemoaa", sum := "189cde13249cb14f4fca6941de9e57143767d6cf268480e04a2565bb4cb99be3", func := "loop.example/linkedroots/laws.FnSameClasses", spec := "fnSameClasses", unfollowed := true, recurses := true, apart := false, narrowed := true }
def FnSameClassesUptoSaid : Prop := fnSameClassesUptoRow.holds Try.pinned (OpenSpec.upto fnSameClassesSpec)

/-- 'laws.FnMirror', WHERE WHAT IT READS IS OF BULK AT MOST 1048576: true; the input reads as it did. -/
def fnMirrorUptoRow : OpenClaim := { program := "ytlebnmboaeemoaa", sum := "189cde13249cb14f4fca6941de9e57143767d6cf268480e04a2565bb4cb99be3", func := "loop.example/linkedroots/laws.FnMirror", spec := "fnMirror", unfollowed := true, recurses := true, apart := false, narrowed := true }
def FnMirrorUptoSaid : Prop := fnMirrorUptoRow.holds Try.pinned (OpenSpec.upto fnMirrorSpec)

/-- 'laws.FnCutLink', WHERE WHAT IT READS IS OF BULK AT MOST 1048576: true; the input reads as it did. -/
def fnCutLinkUptoRow : OpenClaim := { program := "ytlebnmboaeemoaa", sum := "189cde13249cb14f4fca6941de9e57143767d6cf268480e04a2565bb4cb99be3", func := "loop.example/linkedroots/laws.FnCutLink", spec := "fnCutLink", unfollowed := true, recurses := true, apart := false, narrowed := true }
def FnCutLinkUptoSaid : Prop := fnCutLinkUptoRow.holds Try.pinned (OpenSpec.upto fnCutLinkSpec)

/-- 'laws.FnSkip', WHERE WHAT IT READS IS OF BULK AT MOST 1048576: true; the input reads as it did. -/
def fnSkipUptoRow : OpenClaim := { program := "ytlebnmboaeemoaa", sum := "189cde13249cb14f4fca6941de9e57143767d6cf268480e04a2565bb4cb99be3", func := "loop.example/linkedroots/laws.FnSkip", spec := "fnSkip", unfollowed := true, recurses := true, apart := false, narrowed := true }
def FnSkipUptoSaid : Prop := fnSkipUptoRow.holds Try.pinned (OpenSpec.upto fnSkipSpec)

/-- 'laws.FnSquares', WHERE WHAT IT READS IS OF BULK AT MOST 1048576: true; the input reads as it did. -/
def fnSquaresUptoRow : OpenClaim := { program := "ytlebnmboaeemoaa", sum := "189cde13249cb14f4fca6941de9e57143767d6cf268480e04a2565bb4cb99be3", func := "loop.example/linkedroots/laws.FnSquares", spec := "fnSquares", unfollowed := true, recurses := true, apart := false, narrowed := true }
def FnSquaresUptoSaid : Prop := fnSquaresUptoRow.holds Try.pinned (OpenSpec.upto fnSquaresSpec)

/-- 'laws.FnHang', WHERE WHAT IT READS IS OF BULK AT MOST 1048576: true; the input reads as it did. -/
def fnHangUptoRow : OpenClaim := { program := "ytlebnmboaeemoaa", sum := "189cde13249cb14f4fca6941de9e57143767d6cf268480e04a2565bb4cb99be3", func := "loop.example/linkedroots/laws.FnHang", spec := "fnHang", unfollowed := true, recurses := true, apart := false, narrowed := true }
def FnHangUptoSaid : Prop := fnHangUptoRow.holds Try.pinned (OpenSpec.upto fnHangSpec)

/-- 'laws.FnExactForestValid', WHERE WHAT IT READS IS OF BULK AT MOST 1048576: true; the input reads as it did. -/
def fnExactForestValidUptoRow : OpenClaim := { program := "ytlebnmboaeemoaa", sum := "189cde13249cb14f4fca6941de9e57143767d6cf268480e04a2565bb4cb99be3", func := "loop.example/linkedroots/laws.FnExactForestValid", spec := "fnExactForestValid", unfollowed := true, recurses := true, apart := false, narrowed := true }
def FnExactForestValidUptoSaid : Prop := fnExactForestValidUptoRow.holds Try.pinned (OpenSpec.upto fnExactForestValidSpec)

/-- 'laws.FnExactNewForest', WHERE WHAT IT READS IS OF BULK AT MOST 1048576: true; the input reads as it did. -/
def fnExactNewForestUptoRow : OpenClaim := { program := "ytlebnmboaeemoaa", sum := "189cde13249cb14f4fca6941de9e57143767d6cf268480e04a2565bb4cb99be3", func := "loop.example/linkedroots/laws.FnExactNewForest", spec := "fnExactNewForest", apart := false, narrowed := true }
def FnExactNewForestUptoSaid : Prop := fnExactNewForestUptoRow.holds Try.pinned (OpenSpec.upto fnExactNewForestSpec)

/-- 'laws.FnExactRootOf', WHERE WHAT IT READS IS OF BULK AT MOST 1048576: true; the input reads as it did. -/
def fnExactRootOfUptoRow : OpenClaim := { program := "ytlebnmboaeemoaa", sum := "189cde13249cb14f4fca6941de9e57143767d6cf268480e04a2565bb4cb99be3", func := "loop.example/linkedroots/laws.FnExactRootOf", spec := "fnExactRootOf", unfollowed := true, recurses := true, apart := false, narrowed := true }
def FnExactRootOfUptoSaid : Prop := fnExactRootOfUptoRow.holds Try.pinned (OpenSpec.upto fnExactRootOfSpec)

/-- 'laws.FnExactWayUp', WHERE WHAT IT READS IS OF BULK AT MOST 1048576: true; the input reads as it did. -/
def fnExactWayUpUptoRow : OpenClaim := { program := "ytlebnmboaeemoaa", sum := "189cde13249cb14f4fca6941de9e57143767d6cf268480e04a2565bb4cb99be3", func := "loop.example/linkedroots/laws.FnExactWayUp", spec := "fnExactWayUp", unfollowed := true, recurses := true, apart := false, narrowed := true }
def FnExactWayUpUptoSaid : Prop := fnExactWayUpUptoRow.holds Try.pinned (OpenSpec.upto fnExactWayUpSpec)

/-- 'laws.FnExactTogether', WHERE WHAT IT READS IS OF BULK AT MOST 1048576: true; the input reads as it did. -/
def fnExactTogetherUptoRow : OpenClaim := { program := "ytlebnmboaeemoaa", sum := "189cde13249cb14f4fca6941de9e57143767d6cf268480e04a2565bb4cb99be3", func := "loop.example/linkedroots/laws.FnExactTogether", spec := "fnExactTogether", unfollowed := true, recurses := true, apart := false, narrowed := true }
def FnExactTogetherUptoSaid : Prop := fnExactTogetherUptoRow.holds Try.pinned (OpenSpec.upto fnExactTogetherSpec)

/-- 'laws.FnExactClassesOf', WHERE WHAT IT READS IS OF BULK AT MOST 1048576: true; the input reads as it did. -/
def fnExactClassesOfUptoRow : OpenClaim := { program := "ytlebnmboaeemoaa", sum := "189cde13249cb14f4fca6941de9e57143767d6cf268480e04a2565bb4cb99be3", func := "loop.example/linkedroots/laws.FnExactClassesOf", spec := "fnExactClassesOf", unfollowed := true, recurses := true, apart := false, narrowed := true }
def FnExactClassesOfUptoSaid : Prop := fnExactClassesOfUptoRow.holds Try.pinned (OpenSpec.upto fnExactClassesOfSpec)

/-- 'laws.FnExactClassOf', WHERE WHAT IT READS IS OF BULK AT MOST 1048576: true; the input reads as it did. -/
def fnExactClassOfUptoRow : OpenClaim := { program := "ytlebnmboaeemoaa", sum := "189cde13249cb14f4fca6941de9e57143767d6cf268480e04a2565bb4cb99be3", func := "loop.example/linkedroots/laws.FnExactClassOf", spec := "fnExactClassOf", unfollowed := true, recurses := true, apart := false, narrowed := true }
def FnExactClassOfUptoSaid : Prop := fnExactClassOfUptoRow.holds Try.pinned (OpenSpec.upto fnExactClassOfSpec)

/-- 'laws.FnExactDeepestOf', WHERE WHAT IT READS IS OF BULK AT MOST 1048576: true; the input reads as it did. -/
def fnExactDeepestOfUptoRow : OpenClaim := { program := "ytlebnmboaeemoaa", sum := "189cde13249cb14f4fca6941de9e57143767d6cf268480e04a2565bb4cb99be3", func := "loop.example/linkedroots/laws.FnExactDeepestOf", spec := "fnExactDeepestOf", unfollowed := true, recurses := true, apart := false, narrowed := true }
def FnExactDeepestOfUptoSaid : Prop := fnExactDeepestOfUptoRow.holds Try.pinned (OpenSpec.upto fnExactDeepestOfSpec)

/-- 'laws.FnExactSameClasses', WHERE WHAT IT READS IS OF BULK AT MOST 1048576: true; the input reads as it did. -/
def fnExactSameClassesUptoRow : OpenClaim := { program := "ytlebnmboaeemoaa", sum := "189cde13249cb14f4fca6941de9e57143767d6cf268480e04a2565bb4cb99be3", func := "loop.example/linkedroots/laws.FnExactSameClasses", spec := "fnExactSameClasses", unfollowed := true, recurses := true, apart := false, narrowed := true }
def FnExactSameClassesUptoSaid : Prop := fnExactSameClassesUptoRow.holds Try.pinned (OpenSpec.upto fnExactSameClassesSpec)

end Rows
end Go.Proofs.Ytlebnmboaeemoaa
