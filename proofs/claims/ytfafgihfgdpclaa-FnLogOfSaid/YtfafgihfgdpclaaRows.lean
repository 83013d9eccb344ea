/-
  No cell of these rows narrows 'for every input' (looked for: loops, veiled, ifaces, maps, wideKeys, modest, calm, conditions, laid).
  DERIVED. THE GIVEN ROWS OF THIS SEAT. 20 by the template 'for every input the law returns true; each argument reads behind the call as it read before'; 0 by the template 'total and deterministic' (their statements: YtfafgihfgdpclaaTotals.lean).
  GIVEN WITH THE SEED: the statements are not yours to turn. If you find one false, say at which input.
  Laid BY PROGRAM, IN A SANDBOX (cutbox-rows.mjs): the forced cells as the released guide's own fill.sh prints them over the translation 794f56dac3188298… (all of the seat's roots in one cut). By AI agents, Wed Nov 11 2026. No macro, syntax, notation, axiom, sorry.
-/
import Derived.Test.YtfafgihfgdpclaaChecked
import GoSem.Claim
import GoSem.ClaimJoined
import GoSem.ClaimMapViews
import Derived.JoinedTies
import Derived.KernelRfl
namespace Go.Proofs.Ytfafgihfgdpclaa
/- THE CELL 'sum', in the pinned program and in every row, IS THE sha256 OF THE DUMP (.gsa) THAT YtfafgihfgdpclaaProg.lean LOADS. Nothing in Lean hashes anything: it is a label: what it is worth is what the hold of that sum in a sandbox is worth. -/
noncomputable def Try.pinned : Pinned := { name := "ytfafgihfgdpclaa", sum := "794f56dac31882981bc8f97506a6255e0a8c1f0d3205063b59d9918f311073e8", checked := Try.checked }
namespace Rows
def none {H : Type} : Left H := { results := [], args := [] }

/-- 'laws.FnShallow': WHATEVER THE INPUT: true; the input reads as it did. -/
def fnShallowSpec : ChangeSpec := { name := "fnShallow", fn := fun _ => fun
  | [d1, d2] => { results := [.lit (.bool true)], args := [d1, d2] }
  | _ => none }
def fnShallowRow : OpenClaim := { program := "ytfafgihfgdpclaa", sum := "794f56dac31882981bc8f97506a6255e0a8c1f0d3205063b59d9918f311073e8", func := "loop.example/linkedroots/laws.FnShallow", spec := "fnShallow", unfollowed := true, recurses := true, apart := false }
def FnShallowSaid : Prop := fnShallowRow.holds Try.pinned (OpenSpec.ofChange fnShallowSpec)

/-- ITS FALSE NEIGHBOUR: 'it returns false'. Refute it at one input. -/
def fnShallowWrong : ChangeSpec := { name := "fnShallow", fn := fun _ => fun
  | [d1, d2] => { results := [.lit (.bool false)], args := [d1, d2] }
  | _ => none }
def FnShallowWrongFalsely : Prop := fnShallowRow.holds Try.pinned (OpenSpec.ofChange fnShallowWrong)

/-- 'laws.FnUseful': WHATEVER THE INPUT: true; the input reads as it did. -/
def fnUsefulSpec : ChangeSpec := { name := "fnUseful", fn := fun _ => fun
  | [d] => { results := [.lit (.bool true)], args := [d] }
  | _ => none }
def fnUsefulRow : OpenClaim := { program := "ytfafgihfgdpclaa", sum := "794f56dac31882981bc8f97506a6255e0a8c1f0d3205063b59d9918f311073e8", func := "loop.example/linkedroots/laws.FnUseful", spec := "fnUseful", unfollowed := true, recurses := true, apart := false }
def FnUsefulSaid : Prop := fnUsefulRow.holds Try.pinned (OpenSpec.ofChange fnUsefulSpec)

/-- ITS FALSE NEIGHBOUR: 'it returns false'. Refute it at one input. -/
def fnUsefulWrong : ChangeSpec := { name := "fnUseful", fn := fun _ => fun
  | [d] => { results := [.lit (.bool false)], args := [d] }
  | _ => none }
def FnUsefulWrongFalsely : Prop := fnUsefulRow.holds Try.pinned (OpenSpec.ofChange fnUsefulWrong)

/-- 'laws.FnAnyOrder': WHATEVER THE INPUT: true; the input reads as it did. -/
def fnAnyOrderSpec : ChangeSpec := { name := "fnAnyOrder", fn := fun _ => fun
  | [d] => { results := [.lit (.bool true)], args := [d] }
  | _ => none }
def fnAnyOrderRow : OpenClaim := { program := "ytfafgihfgdpclaa", sum := "794f56dac31882981bc8f97506a6255e0a8c1f0d3205063b59d9918f311073e8", func := "loop.example/linkedroots/laws.FnAnyOrder", spec := "fnAnyOrder", unfollowed := true, recurses := true, apart := false }
def FnAnyOrderSaid : Prop := fnAnyOrderRow.holds Try.pinned (OpenSpec.ofChange fnAnyOrderSpec)

/-- ITS FALSE NEIGHBOUR: 'it returns false'. Refute it at one input. -/
def fnAnyOrderWrong : ChangeSpec := { name := "fnAnyOrder", fn := fun _ => fun
  | [d] => { results := [.lit (.bool false)], args := [d] }
  | _ => none }
def FnAnyOrderWrongFalsely : Prop := fnAnyOrderRow.holds Try.pinned (OpenSpec.ofChange fnAnyOrderWrong)

/-- 'laws.FnUndo': WHATEVER THE INPUT: true; the input reads as it did. -/
def fnUndoSpec : ChangeSpec := { name := "fnUndo", fn := fun _ => fun
  | [d1, d2] => { results := [.lit (.bool true)], args := [d1, d2] }
  | _ => none }
def fnUndoRow : OpenClaim := { program := "ytfafgihfgdpclaa", sum := "794f56dac31882981bc8f97506a6255e0a8c1f0d3205063b59d9918f311073e8", func := "loop.example/linkedroots/laws.FnUndo", spec := "fnUndo", unfollowed := true, recurses := true, apart := false }
def FnUndoSaid : Prop := fnUndoRow.holds Try.pinned (OpenSpec.ofChange fnUndoSpec)

/-- ITS FALSE NEIGHBOUR: 'it returns false'. Refute it at one input. -/
def fnUndoWrong : ChangeSpec := { name := "fnUndo", fn := fun _ => fun
  | [d1, d2] => { results := [.lit (.bool false)], args := [d1, d2] }
  | _ => none }
def FnUndoWrongFalsely : Prop := fnUndoRow.holds Try.pinned (OpenSpec.ofChange fnUndoWrong)

/-- 'laws.FnLogOf': WHATEVER THE INPUT: true; the input reads as it did. -/
def fnLogOfSpec : ChangeSpec := { name := "fnLogOf", fn := fun _ => fun
  | [d1, d2] => { results := [.lit (.bool true)], args := [d1, d2] }
  | _ => none }
def fnLogOfRow : OpenClaim := { program := "ytfafgihfgdpclaa", sum := "794f56dac31882981bc8f97506a6255e0a8c1f0d3205063b59d9918f311073e8", func := "loop.example/linkedroots/laws.FnLogOf", spec := "fnLogOf", unfollowed := true, recurses := true, apart := false }
def FnLogOfSaid : Prop := fnLogOfRow.holds Try.pinned (OpenSpec.ofChange fnLogOfSpec)

/-- ITS FALSE NEIGHBOUR: 'it returns false'. Refute it at one input. -/
def fnLogOfWrong : ChangeSpec := { name := "fnLogOf", fn := fun _ => fun
  | [d1, d2] => { results := [.lit (.bool false)], args := [d1, d2] }
  | _ => none }
def FnLogOfWrongFalsely : Prop := fnLogOfRow.holds Try.pinned (OpenSpec.ofChange fnLogOfWrong)

/-- 'laws.FnSince': WHATEVER THE INPUT: true; the input reads as it did. -/
def fnSinceSpec : ChangeSpec := { name := "fnSince", fn := fun _ => fun
  | [d1, d2] => { results := [.lit (.bool true)], args := [d1, d2] }
  | _ => none }
def fnSinceRow : OpenClaim := { program := "ytfafgihfgdpclaa", sum := "794f56dac31882981bc8f97506a6255e0a8c1f0d3205063b59d9918f311073e8", func := "loop.example/linkedroots/laws.FnSince", spec := "fnSince", unfollowed := true, recurses := true, apart := false }
def FnSinceSaid : Prop := fnSinceRow.holds Try.pinned (OpenSpec.ofChange fnSinceSpec)

/-- ITS FALSE NEIGHBOUR: 'it returns false'. Refute it at one input. -/
def fnSinceWrong : ChangeSpec := { name := "fnSince", fn := fun _ => fun
  | [d1, d2] => { results := [.lit (.bool false)], args := [d1, d2] }
  | _ => none }
def FnSinceWrongFalsely : Prop := fnSinceRow.holds Try.pinned (OpenSpec.ofChange fnSinceWrong)

/-- 'laws.FnForestAt': WHATEVER THE INPUT: true; the input reads as it did. -/
def fnForestAtSpec : ChangeSpec := { name := "fnForestAt", fn := fun _ => fun
  | [d1, d2] => { results := [.lit (.bool true)], args := [d1, d2] }
  | _ => none }
def fnForestAtRow : OpenClaim := { program := "ytfafgihfgdpclaa", sum := "794f56dac31882981bc8f97506a6255e0a8c1f0d3205063b59d9918f311073e8", func := "loop.example/linkedroots/laws.FnForestAt", spec := "fnForestAt", unfollowed := true, recurses := true, apart := false }
def FnForestAtSaid : Prop := fnForestAtRow.holds Try.pinned (OpenSpec.ofChange fnForestAtSpec)

/-- ITS FALSE NEIGHBOUR: 'it returns false'. Refute it at one input. -/
def fnForestAtWrong : ChangeSpec := { name := "fnForestAt", fn := fun _ => fun
  | [d1, d2] => { results := [.lit (.bool false)], args := [d1, d2] }
  | _ => none }
def FnForestAtWrongFalsely : Prop := fnForestAtRow.holds Try.pinned (OpenSpec.ofChange fnForestAtWrong)

/-- 'laws.FnThree': WHATEVER THE INPUT: true; the input reads as it did. -/
def fnThreeSpec : ChangeSpec := { name := "fnThree", fn := fun _ => fun
  | [d] => { results := [.lit (.bool true)], args := [d] }
  | _ => none }
def fnThreeRow : OpenClaim := { program := "ytfafgihfgdpclaa", sum := "794f56dac31882981bc8f97506a6255e0a8c1f0d3205063b59d9918f311073e8", func := "loop.example/linkedroots/laws.FnThree", spec := "fnThree", unfollowed := true, recurses := true, apart := false }
def FnThreeSaid : Prop := fnThreeRow.holds Try.pinned (OpenSpec.ofChange fnThreeSpec)

/-- ITS FALSE NEIGHBOUR: 'it returns false'. Refute it at one input. -/
def fnThreeWrong : ChangeSpec := { name := "fnThree", fn := fun _ => fun
  | [d] => { results := [.lit (.bool false)], args := [d] }
  | _ => none }
def FnThreeWrongFalsely : Prop := fnThreeRow.holds Try.pinned (OpenSpec.ofChange fnThreeWrong)

/-- 'laws.FnTimedParts': WHATEVER THE INPUT: true; the input reads as it did. -/
def fnTimedPartsSpec : ChangeSpec := { name := "fnTimedParts", fn := fun _ => fun
  | [d1, d2] => { results := [.lit (.bool true)], args := [d1, d2] }
  | _ => none }
def fnTimedPartsRow : OpenClaim := { program := "ytfafgihfgdpclaa", sum := "794f56dac31882981bc8f97506a6255e0a8c1f0d3205063b59d9918f311073e8", func := "loop.example/linkedroots/laws.FnTimedParts", spec := "fnTimedParts", unfollowed := true, recurses := true, apart := false }
def FnTimedPartsSaid : Prop := fnTimedPartsRow.holds Try.pinned (OpenSpec.ofChange fnTimedPartsSpec)

/-- ITS FALSE NEIGHBOUR: 'it returns false'. Refute it at one input. -/
def fnTimedPartsWrong : ChangeSpec := { name := "fnTimedParts", fn := fun _ => fun
  | [d1, d2] => { results := [.lit (.bool false)], args := [d1, d2] }
  | _ => none }
def FnTimedPartsWrongFalsely : Prop := fnTimedPartsRow.holds Try.pinned (OpenSpec.ofChange fnTimedPartsWrong)

/-- 'laws.FnSpare': WHATEVER THE INPUT: true; the input reads as it did. -/
def fnSpareSpec : ChangeSpec := { name := "fnSpare", fn := fun _ => fun
  | [d] => { results := [.lit (.bool true)], args := [d] }
  | _ => none }
def fnSpareRow : OpenClaim := { program := "ytfafgihfgdpclaa", sum := "794f56dac31882981bc8f97506a6255e0a8c1f0d3205063b59d9918f311073e8", func := "loop.example/linkedroots/laws.FnSpare", spec := "fnSpare", unfollowed := true, recurses := true, apart := false }
def FnSpareSaid : Prop := fnSpareRow.holds Try.pinned (OpenSpec.ofChange fnSpareSpec)

/-- ITS FALSE NEIGHBOUR: 'it returns false'. Refute it at one input. -/
def fnSpareWrong : ChangeSpec := { name := "fnSpare", fn := fun _ => fun
  | [d] => { results := [.lit (.bool false)], args := [d] }
  | _ => none }
def FnSpareWrongFalsely : Prop := fnSpareRow.holds Try.pinned (OpenSpec.ofChange fnSpareWrong)

/-- 'laws.FnOneLess': WHATEVER THE INPUT: true; the input reads as it did. -/
def fnOneLessSpec : ChangeSpec := { name := "fnOneLess", fn := fun _ => fun
  | [d] => { results := [.lit (.bool true)], args := [d] }
  | _ => none }
def fnOneLessRow : OpenClaim := { program := "ytfafgihfgdpclaa", sum := "794f56dac31882981bc8f97506a6255e0a8c1f0d3205063b59d9918f311073e8", func := "loop.example/linkedroots/laws.FnOneLess", spec := "fnOneLess", unfollowed := true, recurses := true, apart := false }
def FnOneLessSaid : Prop := fnOneLessRow.holds Try.pinned (OpenSpec.ofChange fnOneLessSpec)

/-- ITS FALSE NEIGHBOUR: 'it returns false'. Refute it at one input. -/
def fnOneLessWrong : ChangeSpec := { name := "fnOneLess", fn := fun _ => fun
  | [d] => { results := [.lit (.bool false)], args := [d] }
  | _ => none }
def FnOneLessWrongFalsely : Prop := fnOneLessRow.holds Try.pinned (OpenSpec.ofChange fnOneLessWrong)

/-- 'laws.FnExactValuesOf': WHATEVER THE INPUT: true; the input reads as it did. -/
def fnExactValuesOfSpec : ChangeSpec := { name := "fnExactValuesOf", fn := fun _ => fun
  | [d] => { results := [.lit (.bool true)], args := [d] }
  | _ => none }
def fnExactValuesOfRow : OpenClaim := { program := "ytfafgihfgdpclaa", sum := "794f56dac31882981bc8f97506a6255e0a8c1f0d3205063b59d9918f311073e8", func := "loop.example/linkedroots/laws.FnExactValuesOf", spec := "fnExactValuesOf", unfollowed := true, recurses := true, apart := false }
def FnExactValuesOfSaid : Prop := fnExactValuesOfRow.holds Try.pinned (OpenSpec.ofChange fnExactValuesOfSpec)

/-- ITS FALSE NEIGHBOUR: 'it returns false'. Refute it at one input. -/
def fnExactValuesOfWrong : ChangeSpec := { name := "fnExactValuesOf", fn := fun _ => fun
  | [d] => { results := [.lit (.bool false)], args := [d] }
  | _ => none }
def FnExactValuesOfWrongFalsely : Prop := fnExactValuesOfRow.holds Try.pinned (OpenSpec.ofChange fnExactValuesOfWrong)

/-- 'laws.FnExactFlatOffsets': WHATEVER THE INPUT: true; the input reads as it did. -/
def fnExactFlatOffsetsSpec : ChangeSpec := { name := "fnExactFlatOffsets", fn := fun _ => fun
  | [d] => { results := [.lit (.bool true)], args := [d] }
  | _ => none }
def fnExactFlatOffsetsRow : OpenClaim := { program := "ytfafgihfgdpclaa", sum := "794f56dac31882981bc8f97506a6255e0a8c1f0d3205063b59d9918f311073e8", func := "loop.example/linkedroots/laws.FnExactFlatOffsets", spec := "fnExactFlatOffsets", unfollowed := true, recurses := true, apart := false }
def FnExactFlatOffsetsSaid : Prop := fnExactFlatOffsetsRow.holds Try.pinned (OpenSpec.ofChange fnExactFlatOffsetsSpec)

/-- ITS FALSE NEIGHBOUR: 'it returns false'. Refute it at one input. -/
def fnExactFlatOffsetsWrong : ChangeSpec := { name := "fnExactFlatOffsets", fn := fun _ => fun
  | [d] => { results := [.lit (.bool false)], args := [d] }
  | _ => none }
def FnExactFlatOffsetsWrongFalsely : Prop := fnExactFlatOffsetsRow.holds Try.pinned (OpenSpec.ofChange fnExactFlatOffsetsWrong)

/-- 'laws.FnExactTimedValid': WHATEVER THE INPUT: true; the input reads as it did. -/
def fnExactTimedValidSpec : ChangeSpec := { name := "fnExactTimedValid", fn := fun _ => fun
  | [d] => { results := [.lit (.bool true)], args := [d] }
  | _ => none }
def fnExactTimedValidRow : OpenClaim := { program := "ytfafgihfgdpclaa", sum := "794f56dac31882981bc8f97506a6255e0a8c1f0d3205063b59d9918f311073e8", func := "loop.example/linkedroots/laws.FnExactTimedValid", spec := "fnExactTimedValid", unfollowed := true, recurses := true, apart := false }
def FnExactTimedValidSaid : Prop := fnExactTimedValidRow.holds Try.pinned (OpenSpec.ofChange fnExactTimedValidSpec)

/-- ITS FALSE NEIGHBOUR: 'it returns false'. Refute it at one input. -/
def fnExactTimedValidWrong : ChangeSpec := { name := "fnExactTimedValid", fn := fun _ => fun
  | [d] => { results := [.lit (.bool false)], args := [d] }
  | _ => none }
def FnExactTimedValidWrongFalsely : Prop := fnExactTimedValidRow.holds Try.pinned (OpenSpec.ofChange fnExactTimedValidWrong)

/-- 'laws.FnExactTimedOf': WHATEVER THE INPUT: true; the input reads as it did. -/
def fnExactTimedOfSpec : ChangeSpec := { name := "fnExactTimedOf", fn := fun _ => fun
  | [d1, d2] => { results := [.lit (.bool true)], args := [d1, d2] }
  | _ => none }
def fnExactTimedOfRow : OpenClaim := { program := "ytfafgihfgdpclaa", sum := "794f56dac31882981bc8f97506a6255e0a8c1f0d3205063b59d9918f311073e8", func := "loop.example/linkedroots/laws.FnExactTimedOf", spec := "fnExactTimedOf", unfollowed := true, recurses := true, apart := false }
def FnExactTimedOfSaid : Prop := fnExactTimedOfRow.holds Try.pinned (OpenSpec.ofChange fnExactTimedOfSpec)

/-- ITS FALSE NEIGHBOUR: 'it returns false'. Refute it at one input. -/
def fnExactTimedOfWrong : ChangeSpec := { name := "fnExactTimedOf", fn := fun _ => fun
  | [d1, d2] => { results := [.lit (.bool false)], args := [d1, d2] }
  | _ => none }
def FnExactTimedOfWrongFalsely : Prop := fnExactTimedOfRow.holds Try.pinned (OpenSpec.ofChange fnExactTimedOfWrong)

/-- 'laws.FnExactRootAt': WHATEVER THE INPUT: true; the input reads as it did. -/
def fnExactRootAtSpec : ChangeSpec := { name := "fnExactRootAt", fn := fun _ => fun
  | [d1, d2, d3] => { results := [.lit (.bool true)], args := [d1, d2, d3] }
  | _ => none }
def fnExactRootAtRow : OpenClaim := { program := "ytfafgihfgdpclaa", sum := "794f56dac31882981bc8f97506a6255e0a8c1f0d3205063b59d9918f311073e8", func := "loop.example/linkedroots/laws.FnExactRootAt", spec := "fnExactRootAt", unfollowed := true, recurses := true, apart := false }
def FnExactRootAtSaid : Prop := fnExactRootAtRow.holds Try.pinned (OpenSpec.ofChange fnExactRootAtSpec)

/-- ITS FALSE NEIGHBOUR: 'it returns false'. Refute it at one input. -/
def fnExactRootAtWrong : ChangeSpec := { name := "fnExactRootAt", fn := fun _ => fun
  | [d1, d2, d3] => { results := [.lit (.bool false)], args := [d1, d2, d3] }
  | _ => none }
def FnExactRootAtWrongFalsely : Prop := fnExactRootAtRow.holds Try.pinned (OpenSpec.ofChange fnExactRootAtWrong)

/-- 'laws.FnExactTogetherAt': WHATEVER THE INPUT: true; the input reads as it did. -/
def fnExactTogetherAtSpec : ChangeSpec := { name := "fnExactTogetherAt", fn := fun _ => fun
  | [d1, d2, d3, d4] => { results := [.lit (.bool true)], args := [d1, d2, d3, d4] }
  | _ => none }
def fnExactTogetherAtRow : OpenClaim := { program := "ytfafgihfgdpclaa", sum := "794f56dac31882981bc8f97506a6255e0a8c1f0d3205063b59d9918f311073e8", func := "loop.example/linkedroots/laws.FnExactTogetherAt", spec := "fnExactTogetherAt", unfollowed := true, recurses := true, apart := false }
def FnExactTogetherAtSaid : Prop := fnExactTogetherAtRow.holds Try.pinned (OpenSpec.ofChange fnExactTogetherAtSpec)

/-- ITS FALSE NEIGHBOUR: 'it returns false'. Refute it at one input. -/
def fnExactTogetherAtWrong : ChangeSpec := { name := "fnExactTogetherAt", fn := fun _ => fun
  | [d1, d2, d3, d4] => { results := [.lit (.bool false)], args := [d1, d2, d3, d4] }
  | _ => none }
def FnExactTogetherAtWrongFalsely : Prop := fnExactTogetherAtRow.holds Try.pinned (OpenSpec.ofChange fnExactTogetherAtWrong)

/-- 'laws.FnExactSinceWhen': WHATEVER THE INPUT: true; the input reads as it did. -/
def fnExactSinceWhenSpec : ChangeSpec := { name := "fnExactSinceWhen", fn := fun _ => fun
  | [d1, d2, d3] => { results := [.lit (.bool true)], args := [d1, d2, d3] }
  | _ => none }
def fnExactSinceWhenRow : OpenClaim := { program := "ytfafgihfgdpclaa", sum := "794f56dac31882981bc8f97506a6255e0a8c1f0d3205063b59d9918f311073e8", func := "loop.example/linkedroots/laws.FnExactSinceWhen", spec := "fnExactSinceWhen", unfollowed := true, recurses := true, apart := false }
def FnExactSinceWhenSaid : Prop := fnExactSinceWhenRow.holds Try.pinned (OpenSpec.ofChange fnExactSinceWhenSpec)

/-- ITS FALSE NEIGHBOUR: 'it returns false'. Refute it at one input. -/
def fnExactSinceWhenWrong : ChangeSpec := { name := "fnExactSinceWhen", fn := fun _ => fun
  | [d1, d2, d3] => { results := [.lit (.bool false)], args := [d1, d2, d3] }
  | _ => none }
def FnExactSinceWhenWrongFalsely : Prop := fnExactSinceWhenRow.holds Try.pinned (OpenSpec.ofChange fnExactSinceWhenWrong)

/-- 'laws.FnExactClassesAt': WHATEVER THE INPUT: true; the input reads as it did. -/
def fnExactClassesAtSpec : ChangeSpec := { name := "fnExactClassesAt", fn := fun _ => fun
  | [d1, d2] => { results := [.lit (.bool true)], args := [d1, d2] }
  | _ => none }
def fnExactClassesAtRow : OpenClaim := { program := "ytfafgihfgdpclaa", sum := "794f56dac31882981bc8f97506a6255e0a8c1f0d3205063b59d9918f311073e8", func := "loop.example/linkedroots/laws.FnExactClassesAt", spec := "fnExactClassesAt", unfollowed := true, recurses := true, apart := false }
def FnExactClassesAtSaid : Prop := fnExactClassesAtRow.holds Try.pinned (OpenSpec.ofChange fnExactClassesAtSpec)

/-- ITS FALSE NEIGHBOUR: 'it returns false'. Refute it at one input. -/
def fnExactClassesAtWrong : ChangeSpec := { name := "fnExactClassesAt", fn := fun _ => fun
  | [d1, d2] => { results := [.lit (.bool false)], args := [d1, d2] }
  | _ => none }
def FnExactClassesAtWrongFalsely : Prop := fnExactClassesAtRow.holds Try.pinned (OpenSpec.ofChange fnExactClassesAtWrong)

/-- 'laws.FnExactForestAt': WHATEVER THE INPUT: true; the input reads as it did. -/
def fnExactForestAtSpec : ChangeSpec := { name := "fnExactForestAt", fn := fun _ => fun
  | [d1, d2] => { results := [.lit (.bool true)], args := [d1, d2] }
  | _ => none }
def fnExactForestAtRow : OpenClaim := { program := "ytfafgihfgdpclaa", sum := "794f56dac31882981bc8f97506a6255e0a8c1f0d3205063b59d9918f311073e8", func := "loop.example/linkedroots/laws.FnExactForestAt", spec := "fnExactForestAt", unfollowed := true, recurses := true, apart := false }
def FnExactForestAtSaid : Prop := fnExactForestAtRow.holds Try.pinned (OpenSpec.ofChange fnExactForestAtSpec)

/-- ITS FALSE NEIGHBOUR: 'it returns false'. Refute it at one input. -/
def fnExactForestAtWrong : ChangeSpec := { name := "fnExactForestAt", fn := fun _ => fun
  | [d1, d2] => { results := [.lit (.bool false)], args := [d1, d2] }
  | _ => none }
def FnExactForestAtWrongFalsely : Prop := fnExactForestAtRow.holds Try.pinned (OpenSpec.ofChange fnExactForestAtWrong)

/- THE SECOND FORM. 'bulk': how many values and letters a reading holds, each counted each time it is reached (what is shared counts as often as it is met; a slice's spare places count too). A statement '..UptoSaid' is the law's where the arguments, and the package variables that the reading takes, are together of bulk at most 1048576: NARROWER than '..Said'. Prove '..Said' where nothing that the law and all that it calls make is longer than what came in: it says more and counts as full. Else prove '..UptoSaid'. A law counts once. -/
mutual
def uptoBulk {H : Type} : DataW H → Nat
  | .lit (.string bytes) => bytes.length + 1
  | .lit _ => 1
  | .nil => 1
  | .ptr d => uptoBulk d + 1
  | .slice elems spare => uptoBulkAll elems + uptoBulkAll spare + 1
  | .agg parts => uptoBulkAll parts + 1
  | .iface _ d => uptoBulk d + 1
  | .map entries => uptoBulkEntries entries + 1
  | .held _ => 1
def uptoBulkAll {H : Type} : List (DataW H) → Nat
  | [] => 0
  | d :: r => uptoBulk d + uptoBulkAll r
def uptoBulkEntries {H : Type} : List (Lit × DataW H) → Nat
  | [] => 0
  | x :: r => uptoBulkEntry x + uptoBulkEntries r
def uptoBulkEntry {H : Type} : Lit × DataW H → Nat
  | (.string bytes, d) => bytes.length + uptoBulk d + 1
  | (_, d) => uptoBulk d + 1
 end
def uptoSmall : (H : Type) → List (DataW H) → Bool := fun _ ds => decide (uptoBulkAll ds ≤ 1048576)
def OpenSpec.upto (s : _root_.Go.ChangeSpec) : _root_.Go.OpenSpec := { _root_.Go.OpenSpec.ofChange s with cond := some uptoSmall }

/-- 'laws.FnShallow', WHERE WHAT IT READS IS OF BULK AT MOST 1048576: true; the input reads as it did. -/
def fnShallowUptoRow : OpenClaim := { program := "ytfafgihfgdpclaa", sum := "794f56dac31882981bc8f97506a6255e0a8c1f0d3205063b59d9918f311073e8", func := "loop.example/linkedroots/laws.FnShallow", spec := "fnShallow", unfollowed := true, recurses := true, apart := false, narrowed := true }
def FnShallowUptoSaid : Prop := fnShallowUptoRow.holds Try.pinned (OpenSpec.upto fnShallowSpec)

/-- 'laws.FnUseful', WHERE WHAT IT READS IS OF BULK AT MOST 1048576: true; the input reads as it did. -/
def fnUsefulUptoRow : OpenClaim := { program := "ytfafgihfgdpclaa", sum := "794f56dac31882981bc8f97506a6255e0a8c1f0d3205063b59d9918f311073e8", func := "loop.example/linkedroots/laws.FnUseful", spec := "fnUseful", unfollowed := true, recurses := true, apart := false, narrowed := true }
def FnUsefulUptoSaid : Prop := fnUsefulUptoRow.holds Try.pinned (OpenSpec.upto fnUsefulSpec)

/-- 'laws.FnAnyOrder', WHERE WHAT IT READS IS OF BULK AT MOST 1048576: true; the input reads as it did. -/
def fnAnyOrderUptoRow : OpenClaim := { program := "ytfafgihfgdpclaa", sum := "794f56dac31882981bc8f97506a6255e0a8c1f0d3205063b59d9918f311073e8", func := "loop.example/linkedroots/laws.FnAnyOrder", spec := "fnAnyOrder", unfollowed := true, recurses := true, apart := false, narrowed := true }
def FnAnyOrderUptoSaid : Prop := fnAnyOrderUptoRow.holds Try.pinned (OpenSpec.upto fnAnyOrderSpec)

/-- 'laws.FnUndo', WHERE WHAT IT READS IS OF BULK AT MOST 1048576: true; the input reads as it did. -/
def fnUndoUptoRow : OpenClaim := { program := "ytfafgihfgdpclaa", sum := "794f56dac31882981bc8f97506a6255e0a8c1f0d3205063b59d9918f311073e8", func := "loop.example/linkedroots/laws.FnUndo", spec := "fnUndo", unfollowed := true, recurses := true, apart := false, narrowed := true }
def FnUndoUptoSaid : Prop := fnUndoUptoRow.holds Try.pinned (OpenSpec.upto fnUndoSpec)

/-- 'laws.FnLogOf', WHERE WHAT IT READS IS OF BULK AT MOST 1048576: true; the input reads as it did. -/
def fnLogOfUptoRow : OpenClaim := { program := "ytfafgihfgdpclaa", sum := "794f56dac31882981bc8f97506a6255e0a8c1f0d3205063b59d9918f311073e8", func := "loop.example/linkedroots/laws.FnLogOf", spec := "fnLogOf", unfollowed := true, recurses := true, apart := false, narrowed := true }
def FnLogOfUptoSaid : Prop := fnLogOfUptoRow.holds Try.pinned (OpenSpec.upto fnLogOfSpec)

/-- 'laws.FnSince', WHERE WHAT IT READS IS OF BULK AT MOST 1048576: true; the input reads as it did. -/
def fnSinceUptoRow : OpenClaim := { program := "ytfafgihfgdpclaa", sum := "794f56dac31882981bc8f97506a6255e0a8c1f0d3205063b59d9918f311073e8", func := "loop.example/linkedroots/laws.FnSince", spec := "fnSince", unfollowed := true, recurses := true, apart := false, narrowed := true }
def FnSinceUptoSaid : Prop := fnSinceUptoRow.holds Try.pinned (OpenSpec.upto fnSinceSpec)

/-- 'laws.FnForestAt', WHERE WHAT IT READS IS OF BULK AT MOST 1048576: true; the input reads as it did. -/
def fnForestAtUptoRow : OpenClaim := { program := "ytfafgihfgdpclaa", sum := "794f56dac31882981bc8f97506a6255e0a8c1f0d3205063b59d9918f311073e8", func := "loop.example/linkedroots/laws.FnForestAt", spec := "fnForestAt", unfollowed := true, recurses := true, apart := false, narrowed := true }
def FnForestAtUptoSaid : Prop := fnForestAtUptoRow.holds Try.pinned (OpenSpec.upto fnForestAtSpec)

/-- 'laws.FnThree', WHERE WHAT IT READS IS OF BULK AT MOST 1048576: true; the input reads as it did. -/
def fnThreeUptoRow : OpenClaim := { program := "ytfafgihfgdpclaa", sum := "794f56dac31882981bc8f97506a6255e0a8c1f0d3205063b59d9918f311073e8", func := "loop.example/linkedroots/laws.FnThree", spec := "fnThree", unfollowed := true, recurses := true, apart := false, narrowed := true }
def FnThreeUptoSaid : Prop := fnThreeUptoRow.holds Try.pinned (OpenSpec.upto fnThreeSpec)

/-- 'laws.FnTimedParts', WHERE WHAT IT READS IS OF BULK AT MOST 1048576: true; the input reads as it did. -/
def fnTimedPartsUptoRow : OpenClaim := { program := "ytfafgihfgdpclaa", sum := "794f56dac31882981bc8f97506a6255e0a8c1f0d3205063b59d9918f311073e8", func := "loop.example/linkedroots/laws.FnTimedParts", spec := "fnTimedParts", unfollowed := true, recurses := true, apart := false, narrowed := true }
def FnTimedPartsUptoSaid : Prop := fnTimedPartsUptoRow.holds Try.pinned (OpenSpec.upto fnTimedPartsSpec)

/-- 'laws.FnSpare', WHERE WHAT IT READS IS OF BULK AT MOST 1048576: true; the input reads as it did. -/
def fnSpareUptoRow : OpenClaim := { program := "ytfafgihfgdpclaa", sum := "794f56dac31882981bc8f97506a6255e0a8c1f0d3205063b59d9918f311073e8", func := "loop.example/linkedroots/laws.FnSpare", spec := "fnSpare", unfollowed := true, recurses := true, apart := false, narrowed := true }
def FnSpareUptoSaid : Prop := fnSpareUptoRow.holds Try.pinned (OpenSpec.upto fnSpareSpec)

/-- 'laws.FnOneLess', WHERE WHAT IT READS IS OF BULK AT MOST 1048576: true; the input reads as it did. -/
def fnOneLessUptoRow : OpenClaim := { program := "ytfafgihfgdpclaa", sum := "794f56dac31882981bc8f97506a6255e0a8c1f0d3205063b59d9918f311073e8", func := "loop.example/linkedroots/laws.FnOneLess", spec := "fnOneLess", unfollowed := true, recurses := true, apart := false, narrowed := true }
def FnOneLessUptoSaid : Prop := fnOneLessUptoRow.holds Try.pinned (OpenSpec.upto fnOneLessSpec)

/-- 'laws.FnExactValuesOf', WHERE WHAT IT READS IS OF BULK AT MOST 1048576: true; the input reads as it did. -/
def fnExactValuesOfUptoRow : OpenClaim := { program := "ytfafgihfgdpclaa", sum := "794f56dac31882981bc8f97506a6255e0a8c1f0d3205063b59d9918f311073e8", func := "loop.example/linkedroots/laws.FnExactValuesOf", spec := "fnExactValuesOf", unfollowed := true, recurses := true, apart := false, narrowed := true }
def FnExactValuesOfUptoSaid : Prop := fnExactValuesOfUptoRow.holds Try.pinned (OpenSpec.upto fnExactValuesOfSpec)

/-- 'laws.FnExactFlatOffsets', WHERE WHAT IT READS IS OF BULK AT MOST 1048576: true; the input reads as it did. -/
def fnExactFlatOffsetsUptoRow : OpenClaim := { program := "ytfafgihfgdpclaa", sum := "794f56dac31882981bc8f97506a6255e0a8c1f0d3205063b59d9918f311073e8", func := "loop.example/linkedroots/laws.FnExactFlatOffsets", spec := "fnExactFlatOffsets", unfollowed := true, recurses := true, apart := false, narrowed := true }
def FnExactFlatOffsetsUptoSaid : Prop := fnExactFlatOffsetsUptoRow.holds Try.pinned (OpenSpec.upto fnExactFlatOffsetsSpec)

/-- 'laws.FnExactTimedValid', WHERE WHAT IT READS IS OF BULK AT MOST 1048576: true; the input reads as it did. -/
def fnExactTimedValidUptoRow : OpenClaim := { program := "ytfafgihfgdpclaa", sum := "794f56dac31882981bc8f97506a6255e0a8c1f0d3205063b59d9918f311073e8", func := "loop.example/linkedroots/laws.FnExactTimedValid", spec := "fnExactTimedValid", unfollowed := true, recurses := true, apart := false, narrowed := true }
def FnExactTimedValidUptoSaid : Prop := fnExactTimedValidUptoRow.holds Try.pinned (OpenSpec.upto fnExactTimedValidSpec)

/-- 'laws.FnExactTimedOf', WHERE WHAT IT READS IS OF BULK AT MOST 1048576: true; the input reads as it did. -/
def fnExactTimedOfUptoRow : OpenClaim := { program := "ytfafgihfgdpclaa", sum := "794f56dac31882981bc8f97506a6255e0a8c1f0d3205063b59d9918f311073e8", func := "loop.example/linkedroots/laws.FnExactTimedOf", spec := "fnExactTimedOf", unfollowed := true, recurses := true, apart := false, narrowed := true }
def FnExactTimedOfUptoSaid : Prop := fnExactTimedOfUptoRow.holds Try.pinned (OpenSpec.upto fnExactTimedOfSpec)

/-- 'laws.FnExactRootAt', WHERE WHAT IT READS IS OF BULK AT MOST 1048576: true; the input reads as it did. -/
def fnExactRootAtUptoRow : OpenClaim := { program := "ytfafgihfgdpclaa", sum := "794f56dac31882981bc8f97506a6255e0a8c1f0d3205063b59d9918f311073e8", func := "loop.example/linkedroots/laws.FnExactRootAt", spec := "fnExactRootAt", unfollowed := true, recurses := true, apart := false, narrowed := true }
def FnExactRootAtUptoSaid : Prop := fnExactRootAtUptoRow.holds Try.pinned (OpenSpec.upto fnExactRootAtSpec)

/-- 'laws.FnExactTogetherAt', WHERE WHAT IT READS IS OF BULK AT MOST 1048576: true; the input reads as it did. -/
def fnExactTogetherAtUptoRow : OpenClaim := { program := "ytfafgihfgdpclaa", sum := "794f56dac31882981bc8f97506a6255e0a8c1f0d3205063b59d9918f311073e8", func := "loop.example/linkedroots/laws.FnExactTogetherAt", spec := "fnExactTogetherAt", unfollowed := true, recurses := true, apart := false, narrowed := true }
def FnExactTogetherAtUptoSaid : Prop := fnExactTogetherAtUptoRow.holds Try.pinned (OpenSpec.upto fnExactTogetherAtSpec)

/-- 'laws.FnExactSinceWhen', WHERE WHAT IT READS IS OF BULK AT MOST 1048576: true; the input reads as it did. -/
def fnExactSinceWhenUptoRow : OpenClaim := { program := "ytfafgihfgdpclaa", sum := "794f56dac31882981bc8f97506a6255e0a8c1f0d3205063b59d9918f311073e8", func := "loop.example/linkedroots/laws.FnExactSinceWhen", spec := "fnExactSinceWhen", unfollowed := true, recurses := true, apart := false, narrowed := true }
def FnExactSinceWhenUptoSaid : Prop := fnExactSinceWhenUptoRow.holds Try.pinned (OpenSpec.upto fnExactSinceWhenSpec)

/-- 'laws.FnExactClassesAt', WHERE WHAT IT READS IS OF BULK AT MOST 1048576: true; the input reads as it did. -/
def fnExactClassesAtUptoRow : OpenClaim := { program := "ytfafgihfgdpclaa", sum := "794f56dac31882981bc8f97506a6255e0a8c1f0d3205063b59d9918f311073e8", func := "loop.example/linkedroots/laws.FnExactClassesAt", spec := "fnExactClassesAt", unfollowed := true, recurses := true, apart := false, narrowed := true }
def FnExactClassesAtUptoSaid : Prop := fnExactClassesAtUptoRow.holds Try.pinned (OpenSpec.upto fnExactClassesAtSpec)

/-- 'laws.FnExactForestAt', WHERE WHAT IT READS IS OF BULK AT MOST 1048576: true; the input reads as it did. -/
def fnExactForestAtUptoRow : OpenClaim := { program := "ytfafgihfgdpclaa", sum := "794f56dac31882981bc8f97506a6255e0a8c1f0d3205063b59d9918f311073e8", func := "loop.example/linkedroots/laws.FnExactForestAt", spec := "fnExactForestAt", unfollowed := true, recurses := true, apart := false, narrowed := true }
def FnExactForestAtUptoSaid : Prop := fnExactForestAtUptoRow.holds Try.pinned (OpenSpec.upto fnExactForestAtSpec)

end Rows
end Go.Proofs.Ytfafgihfgdpclaa
