/-
  No cell of these rows narrows 'for every input' (looked for: loops, veiled, ifaces, maps, wideKeys, modest, calm, conditions, laid).
  DERIVED. THE GIVEN ROWS OF THIS SEAT. 28 by the template 'for every input the law returns true; each argument reads behind the call as it read before'; 0 by the template 'total and deterministic' (their statements: YtfdkkcigmjonfaaTotals.lean).
  GIVEN WITH THE SEED: the statements are not yours to turn. If you find one false, say at which input.
  Laid BY PROGRAM, IN A SANDBOX (cutbox-rows.mjs): the forced cells as the released guide's own fill.sh prints them over the translation 39c10a8ac660f624… (all of the seat's roots in one cut). By AI agents, Wed Nov 11 2026. No macro, syntax, notation, axiom, sorry.
-/
import Derived.Test.YtfdkkcigmjonfaaChecked
import GoSem.Claim
import GoSem.ClaimJoined
import GoSem.ClaimMapViews
import Derived.JoinedTies
import Derived.KernelRfl
namespace Go.Proofs.Ytfdkkcigmjonfaa
/- THE CELL 'sum', in the pinned program and in every row, IS THE sha256 OF THE DUMP (.gsa) THAT YtfdkkcigmjonfaaProg.lean LOADS. Nothing in Lean hashes anything: it is a label: what it is worth is what the hold of that sum in a sandbox is worth. -/
noncomputable def Try.pinned : Pinned := { name := "ytfdkkcigmjonfaa", sum := "39c10a8ac660f6247ac9dc282740cd724b61c7f2997b779c0b3b2bcf8bf05241", checked := Try.checked }
namespace Rows
def none {H : Type} : Left H := { results := [], args := [] }

/-- 'laws.FnJoin': WHATEVER THE INPUT: true; the input reads as it did. -/
def fnJoinSpec : ChangeSpec := { name := "fnJoin", fn := fun _ => fun
  | [d] => { results := [.lit (.bool true)], args := [d] }
  | _ => none }
def fnJoinRow : OpenClaim := { program := "ytfdkkcigmjonfaa", sum := "39c10a8ac660f6247ac9dc282740cd724b61c7f2997b779c0b3b2bcf8bf05241", func := "loop.example/linkedroots/laws.FnJoin", spec := "fnJoin", unfollowed := true, recurses := true, apart := false }
def FnJoinSaid : Prop := fnJoinRow.holds Try.pinned (OpenSpec.ofChange fnJoinSpec)

/-- ITS FALSE NEIGHBOUR: 'it returns false'. Refute it at one input. -/
def fnJoinWrong : ChangeSpec := { name := "fnJoin", fn := fun _ => fun
  | [d] => { results := [.lit (.bool false)], args := [d] }
  | _ => none }
def FnJoinWrongFalsely : Prop := fnJoinRow.holds Try.pinned (OpenSpec.ofChange fnJoinWrong)

/-- 'laws.FnAnyRule': WHATEVER THE INPUT: true; the input reads as it did. -/
def fnAnyRuleSpec : ChangeSpec := { name := "fnAnyRule", fn := fun _ => fun
  | [d] => { results := [.lit (.bool true)], args := [d] }
  | _ => none }
def fnAnyRuleRow : OpenClaim := { program := "ytfdkkcigmjonfaa", sum := "39c10a8ac660f6247ac9dc282740cd724b61c7f2997b779c0b3b2bcf8bf05241", func := "loop.example/linkedroots/laws.FnAnyRule", spec := "fnAnyRule", unfollowed := true, recurses := true, apart := false }
def FnAnyRuleSaid : Prop := fnAnyRuleRow.holds Try.pinned (OpenSpec.ofChange fnAnyRuleSpec)

/-- ITS FALSE NEIGHBOUR: 'it returns false'. Refute it at one input. -/
def fnAnyRuleWrong : ChangeSpec := { name := "fnAnyRule", fn := fun _ => fun
  | [d] => { results := [.lit (.bool false)], args := [d] }
  | _ => none }
def FnAnyRuleWrongFalsely : Prop := fnAnyRuleRow.holds Try.pinned (OpenSpec.ofChange fnAnyRuleWrong)

/-- 'laws.FnShallow': WHATEVER THE INPUT: true; the input reads as it did. -/
def fnShallowSpec : ChangeSpec := { name := "fnShallow", fn := fun _ => fun
  | [d1, d2] => { results := [.lit (.bool true)], args := [d1, d2] }
  | _ => none }
def fnShallowRow : OpenClaim := { program := "ytfdkkcigmjonfaa", sum := "39c10a8ac660f6247ac9dc282740cd724b61c7f2997b779c0b3b2bcf8bf05241", func := "loop.example/linkedroots/laws.FnShallow", spec := "fnShallow", unfollowed := true, recurses := true, apart := false }
def FnShallowSaid : Prop := fnShallowRow.holds Try.pinned (OpenSpec.ofChange fnShallowSpec)

/-- ITS FALSE NEIGHBOUR: 'it returns false'. Refute it at one input. -/
def fnShallowWrong : ChangeSpec := { name := "fnShallow", fn := fun _ => fun
  | [d1, d2] => { results := [.lit (.bool false)], args := [d1, d2] }
  | _ => none }
def FnShallowWrongFalsely : Prop := fnShallowRow.holds Try.pinned (OpenSpec.ofChange fnShallowWrong)

/-- 'laws.FnUseful': WHATEVER THE INPUT: true; the input reads as it did. -/
def fnUsefulSpec : ChangeSpec := { name := "fnUseful", fn := fun _ => fun
  | [d] => { results := [.lit (.bool true)], args := [d] }
  | _ => none }
def fnUsefulRow : OpenClaim := { program := "ytfdkkcigmjonfaa", sum := "39c10a8ac660f6247ac9dc282740cd724b61c7f2997b779c0b3b2bcf8bf05241", func := "loop.example/linkedroots/laws.FnUseful", spec := "fnUseful", unfollowed := true, recurses := true, apart := false }
def FnUsefulSaid : Prop := fnUsefulRow.holds Try.pinned (OpenSpec.ofChange fnUsefulSpec)

/-- ITS FALSE NEIGHBOUR: 'it returns false'. Refute it at one input. -/
def fnUsefulWrong : ChangeSpec := { name := "fnUseful", fn := fun _ => fun
  | [d] => { results := [.lit (.bool false)], args := [d] }
  | _ => none }
def FnUsefulWrongFalsely : Prop := fnUsefulRow.holds Try.pinned (OpenSpec.ofChange fnUsefulWrong)

/-- 'laws.FnTwice': WHATEVER THE INPUT: true; the input reads as it did. -/
def fnTwiceSpec : ChangeSpec := { name := "fnTwice", fn := fun _ => fun
  | [d] => { results := [.lit (.bool true)], args := [d] }
  | _ => none }
def fnTwiceRow : OpenClaim := { program := "ytfdkkcigmjonfaa", sum := "39c10a8ac660f6247ac9dc282740cd724b61c7f2997b779c0b3b2bcf8bf05241", func := "loop.example/linkedroots/laws.FnTwice", spec := "fnTwice", unfollowed := true, recurses := true, apart := false }
def FnTwiceSaid : Prop := fnTwiceRow.holds Try.pinned (OpenSpec.ofChange fnTwiceSpec)

/-- ITS FALSE NEIGHBOUR: 'it returns false'. Refute it at one input. -/
def fnTwiceWrong : ChangeSpec := { name := "fnTwice", fn := fun _ => fun
  | [d] => { results := [.lit (.bool false)], args := [d] }
  | _ => none }
def FnTwiceWrongFalsely : Prop := fnTwiceRow.holds Try.pinned (OpenSpec.ofChange fnTwiceWrong)

/-- 'laws.FnParts': WHATEVER THE INPUT: true; the input reads as it did. -/
def fnPartsSpec : ChangeSpec := { name := "fnParts", fn := fun _ => fun
  | [d1, d2] => { results := [.lit (.bool true)], args := [d1, d2] }
  | _ => none }
def fnPartsRow : OpenClaim := { program := "ytfdkkcigmjonfaa", sum := "39c10a8ac660f6247ac9dc282740cd724b61c7f2997b779c0b3b2bcf8bf05241", func := "loop.example/linkedroots/laws.FnParts", spec := "fnParts", unfollowed := true, recurses := true, apart := false }
def FnPartsSaid : Prop := fnPartsRow.holds Try.pinned (OpenSpec.ofChange fnPartsSpec)

/-- ITS FALSE NEIGHBOUR: 'it returns false'. Refute it at one input. -/
def fnPartsWrong : ChangeSpec := { name := "fnParts", fn := fun _ => fun
  | [d1, d2] => { results := [.lit (.bool false)], args := [d1, d2] }
  | _ => none }
def FnPartsWrongFalsely : Prop := fnPartsRow.holds Try.pinned (OpenSpec.ofChange fnPartsWrong)

/-- 'laws.FnEither': WHATEVER THE INPUT: true; the input reads as it did. -/
def fnEitherSpec : ChangeSpec := { name := "fnEither", fn := fun _ => fun
  | [d] => { results := [.lit (.bool true)], args := [d] }
  | _ => none }
def fnEitherRow : OpenClaim := { program := "ytfdkkcigmjonfaa", sum := "39c10a8ac660f6247ac9dc282740cd724b61c7f2997b779c0b3b2bcf8bf05241", func := "loop.example/linkedroots/laws.FnEither", spec := "fnEither", unfollowed := true, recurses := true, apart := false }
def FnEitherSaid : Prop := fnEitherRow.holds Try.pinned (OpenSpec.ofChange fnEitherSpec)

/-- ITS FALSE NEIGHBOUR: 'it returns false'. Refute it at one input. -/
def fnEitherWrong : ChangeSpec := { name := "fnEither", fn := fun _ => fun
  | [d] => { results := [.lit (.bool false)], args := [d] }
  | _ => none }
def FnEitherWrongFalsely : Prop := fnEitherRow.holds Try.pinned (OpenSpec.ofChange fnEitherWrong)

/-- 'laws.FnAnyOrder': WHATEVER THE INPUT: true; the input reads as it did. -/
def fnAnyOrderSpec : ChangeSpec := { name := "fnAnyOrder", fn := fun _ => fun
  | [d] => { results := [.lit (.bool true)], args := [d] }
  | _ => none }
def fnAnyOrderRow : OpenClaim := { program := "ytfdkkcigmjonfaa", sum := "39c10a8ac660f6247ac9dc282740cd724b61c7f2997b779c0b3b2bcf8bf05241", func := "loop.example/linkedroots/laws.FnAnyOrder", spec := "fnAnyOrder", unfollowed := true, recurses := true, apart := false }
def FnAnyOrderSaid : Prop := fnAnyOrderRow.holds Try.pinned (OpenSpec.ofChange fnAnyOrderSpec)

/-- ITS FALSE NEIGHBOUR: 'it returns false'. Refute it at one input. -/
def fnAnyOrderWrong : ChangeSpec := { name := "fnAnyOrder", fn := fun _ => fun
  | [d] => { results := [.lit (.bool false)], args := [d] }
  | _ => none }
def FnAnyOrderWrongFalsely : Prop := fnAnyOrderRow.holds Try.pinned (OpenSpec.ofChange fnAnyOrderWrong)

/-- 'laws.FnLook': WHATEVER THE INPUT: true; the input reads as it did. -/
def fnLookSpec : ChangeSpec := { name := "fnLook", fn := fun _ => fun
  | [d] => { results := [.lit (.bool true)], args := [d] }
  | _ => none }
def fnLookRow : OpenClaim := { program := "ytfdkkcigmjonfaa", sum := "39c10a8ac660f6247ac9dc282740cd724b61c7f2997b779c0b3b2bcf8bf05241", func := "loop.example/linkedroots/laws.FnLook", spec := "fnLook", unfollowed := true, recurses := true, apart := false }
def FnLookSaid : Prop := fnLookRow.holds Try.pinned (OpenSpec.ofChange fnLookSpec)

/-- ITS FALSE NEIGHBOUR: 'it returns false'. Refute it at one input. -/
def fnLookWrong : ChangeSpec := { name := "fnLook", fn := fun _ => fun
  | [d] => { results := [.lit (.bool false)], args := [d] }
  | _ => none }
def FnLookWrongFalsely : Prop := fnLookRow.holds Try.pinned (OpenSpec.ofChange fnLookWrong)

/-- 'laws.FnLookJoin': WHATEVER THE INPUT: true; the input reads as it did. -/
def fnLookJoinSpec : ChangeSpec := { name := "fnLookJoin", fn := fun _ => fun
  | [d1, d2] => { results := [.lit (.bool true)], args := [d1, d2] }
  | _ => none }
def fnLookJoinRow : OpenClaim := { program := "ytfdkkcigmjonfaa", sum := "39c10a8ac660f6247ac9dc282740cd724b61c7f2997b779c0b3b2bcf8bf05241", func := "loop.example/linkedroots/laws.FnLookJoin", spec := "fnLookJoin", unfollowed := true, recurses := true, apart := false }
def FnLookJoinSaid : Prop := fnLookJoinRow.holds Try.pinned (OpenSpec.ofChange fnLookJoinSpec)

/-- ITS FALSE NEIGHBOUR: 'it returns false'. Refute it at one input. -/
def fnLookJoinWrong : ChangeSpec := { name := "fnLookJoin", fn := fun _ => fun
  | [d1, d2] => { results := [.lit (.bool false)], args := [d1, d2] }
  | _ => none }
def FnLookJoinWrongFalsely : Prop := fnLookJoinRow.holds Try.pinned (OpenSpec.ofChange fnLookJoinWrong)

/-- 'laws.FnRootSizes': WHATEVER THE INPUT: true; the input reads as it did. -/
def fnRootSizesSpec : ChangeSpec := { name := "fnRootSizes", fn := fun _ => fun
  | [d] => { results := [.lit (.bool true)], args := [d] }
  | _ => none }
def fnRootSizesRow : OpenClaim := { program := "ytfdkkcigmjonfaa", sum := "39c10a8ac660f6247ac9dc282740cd724b61c7f2997b779c0b3b2bcf8bf05241", func := "loop.example/linkedroots/laws.FnRootSizes", spec := "fnRootSizes", unfollowed := true, recurses := true, apart := false }
def FnRootSizesSaid : Prop := fnRootSizesRow.holds Try.pinned (OpenSpec.ofChange fnRootSizesSpec)

/-- ITS FALSE NEIGHBOUR: 'it returns false'. Refute it at one input. -/
def fnRootSizesWrong : ChangeSpec := { name := "fnRootSizes", fn := fun _ => fun
  | [d] => { results := [.lit (.bool false)], args := [d] }
  | _ => none }
def FnRootSizesWrongFalsely : Prop := fnRootSizesRow.holds Try.pinned (OpenSpec.ofChange fnRootSizesWrong)

/-- 'laws.FnUndo': WHATEVER THE INPUT: true; the input reads as it did. -/
def fnUndoSpec : ChangeSpec := { name := "fnUndo", fn := fun _ => fun
  | [d1, d2] => { results := [.lit (.bool true)], args := [d1, d2] }
  | _ => none }
def fnUndoRow : OpenClaim := { program := "ytfdkkcigmjonfaa", sum := "39c10a8ac660f6247ac9dc282740cd724b61c7f2997b779c0b3b2bcf8bf05241", func := "loop.example/linkedroots/laws.FnUndo", spec := "fnUndo", unfollowed := true, recurses := true, apart := false }
def FnUndoSaid : Prop := fnUndoRow.holds Try.pinned (OpenSpec.ofChange fnUndoSpec)

/-- ITS FALSE NEIGHBOUR: 'it returns false'. Refute it at one input. -/
def fnUndoWrong : ChangeSpec := { name := "fnUndo", fn := fun _ => fun
  | [d1, d2] => { results := [.lit (.bool false)], args := [d1, d2] }
  | _ => none }
def FnUndoWrongFalsely : Prop := fnUndoRow.holds Try.pinned (OpenSpec.ofChange fnUndoWrong)

/-- 'laws.FnBackTo': WHATEVER THE INPUT: true; the input reads as it did. -/
def fnBackToSpec : ChangeSpec := { name := "fnBackTo", fn := fun _ => fun
  | [d] => { results := [.lit (.bool true)], args := [d] }
  | _ => none }
def fnBackToRow : OpenClaim := { program := "ytfdkkcigmjonfaa", sum := "39c10a8ac660f6247ac9dc282740cd724b61c7f2997b779c0b3b2bcf8bf05241", func := "loop.example/linkedroots/laws.FnBackTo", spec := "fnBackTo", unfollowed := true, recurses := true, apart := false }
def FnBackToSaid : Prop := fnBackToRow.holds Try.pinned (OpenSpec.ofChange fnBackToSpec)

/-- ITS FALSE NEIGHBOUR: 'it returns false'. Refute it at one input. -/
def fnBackToWrong : ChangeSpec := { name := "fnBackTo", fn := fun _ => fun
  | [d] => { results := [.lit (.bool false)], args := [d] }
  | _ => none }
def FnBackToWrongFalsely : Prop := fnBackToRow.holds Try.pinned (OpenSpec.ofChange fnBackToWrong)

/-- 'laws.FnLogOf': WHATEVER THE INPUT: true; the input reads as it did. -/
def fnLogOfSpec : ChangeSpec := { name := "fnLogOf", fn := fun _ => fun
  | [d1, d2] => { results := [.lit (.bool true)], args := [d1, d2] }
  | _ => none }
def fnLogOfRow : OpenClaim := { program := "ytfdkkcigmjonfaa", sum := "39c10a8ac660f6247ac9dc282740cd724b61c7f2997b779c0b3b2bcf8bf05241", func := "loop.example/linkedroots/laws.FnLogOf", spec := "fnLogOf", unfollowed := true, recurses := true, apart := false }
def FnLogOfSaid : Prop := fnLogOfRow.holds Try.pinned (OpenSpec.ofChange fnLogOfSpec)

/-- ITS FALSE NEIGHBOUR: 'it returns false'. Refute it at one input. -/
def fnLogOfWrong : ChangeSpec := { name := "fnLogOf", fn := fun _ => fun
  | [d1, d2] => { results := [.lit (.bool false)], args := [d1, d2] }
  | _ => none }
def FnLogOfWrongFalsely : Prop := fnLogOfRow.holds Try.pinned (OpenSpec.ofChange fnLogOfWrong)

/-- 'laws.FnUndoAll': WHATEVER THE INPUT: true; the input reads as it did. -/
def fnUndoAllSpec : ChangeSpec := { name := "fnUndoAll", fn := fun _ => fun
  | [d] => { results := [.lit (.bool true)], args := [d] }
  | _ => none }
def fnUndoAllRow : OpenClaim := { program := "ytfdkkcigmjonfaa", sum := "39c10a8ac660f6247ac9dc282740cd724b61c7f2997b779c0b3b2bcf8bf05241", func := "loop.example/linkedroots/laws.FnUndoAll", spec := "fnUndoAll", unfollowed := true, recurses := true, apart := false }
def FnUndoAllSaid : Prop := fnUndoAllRow.holds Try.pinned (OpenSpec.ofChange fnUndoAllSpec)

/-- ITS FALSE NEIGHBOUR: 'it returns false'. Refute it at one input. -/
def fnUndoAllWrong : ChangeSpec := { name := "fnUndoAll", fn := fun _ => fun
  | [d] => { results := [.lit (.bool false)], args := [d] }
  | _ => none }
def FnUndoAllWrongFalsely : Prop := fnUndoAllRow.holds Try.pinned (OpenSpec.ofChange fnUndoAllWrong)

/-- 'laws.FnJoinedThree': WHATEVER THE INPUT: true; the input reads as it did. -/
def fnJoinedThreeSpec : ChangeSpec := { name := "fnJoinedThree", fn := fun _ => fun
  | [d] => { results := [.lit (.bool true)], args := [d] }
  | _ => none }
def fnJoinedThreeRow : OpenClaim := { program := "ytfdkkcigmjonfaa", sum := "39c10a8ac660f6247ac9dc282740cd724b61c7f2997b779c0b3b2bcf8bf05241", func := "loop.example/linkedroots/laws.FnJoinedThree", spec := "fnJoinedThree", unfollowed := true, recurses := true, apart := false }
def FnJoinedThreeSaid : Prop := fnJoinedThreeRow.holds Try.pinned (OpenSpec.ofChange fnJoinedThreeSpec)

/-- ITS FALSE NEIGHBOUR: 'it returns false'. Refute it at one input. -/
def fnJoinedThreeWrong : ChangeSpec := { name := "fnJoinedThree", fn := fun _ => fun
  | [d] => { results := [.lit (.bool false)], args := [d] }
  | _ => none }
def FnJoinedThreeWrongFalsely : Prop := fnJoinedThreeRow.holds Try.pinned (OpenSpec.ofChange fnJoinedThreeWrong)

/-- 'laws.FnLogParts': WHATEVER THE INPUT: true; the input reads as it did. -/
def fnLogPartsSpec : ChangeSpec := { name := "fnLogParts", fn := fun _ => fun
  | [d] => { results := [.lit (.bool true)], args := [d] }
  | _ => none }
def fnLogPartsRow : OpenClaim := { program := "ytfdkkcigmjonfaa", sum := "39c10a8ac660f6247ac9dc282740cd724b61c7f2997b779c0b3b2bcf8bf05241", func := "loop.example/linkedroots/laws.FnLogParts", spec := "fnLogParts", unfollowed := true, recurses := true, apart := false }
def FnLogPartsSaid : Prop := fnLogPartsRow.holds Try.pinned (OpenSpec.ofChange fnLogPartsSpec)

/-- ITS FALSE NEIGHBOUR: 'it returns false'. Refute it at one input. -/
def fnLogPartsWrong : ChangeSpec := { name := "fnLogParts", fn := fun _ => fun
  | [d] => { results := [.lit (.bool false)], args := [d] }
  | _ => none }
def FnLogPartsWrongFalsely : Prop := fnLogPartsRow.holds Try.pinned (OpenSpec.ofChange fnLogPartsWrong)

/-- 'laws.FnExactJoin': WHATEVER THE INPUT: true; the input reads as it did. -/
def fnExactJoinSpec : ChangeSpec := { name := "fnExactJoin", fn := fun _ => fun
  | [d1, d2, d3, d4] => { results := [.lit (.bool true)], args := [d1, d2, d3, d4] }
  | _ => none }
def fnExactJoinRow : OpenClaim := { program := "ytfdkkcigmjonfaa", sum := "39c10a8ac660f6247ac9dc282740cd724b61c7f2997b779c0b3b2bcf8bf05241", func := "loop.example/linkedroots/laws.FnExactJoin", spec := "fnExactJoin", unfollowed := true, recurses := true, apart := false }
def FnExactJoinSaid : Prop := fnExactJoinRow.holds Try.pinned (OpenSpec.ofChange fnExactJoinSpec)

/-- ITS FALSE NEIGHBOUR: 'it returns false'. Refute it at one input. -/
def fnExactJoinWrong : ChangeSpec := { name := "fnExactJoin", fn := fun _ => fun
  | [d1, d2, d3, d4] => { results := [.lit (.bool false)], args := [d1, d2, d3, d4] }
  | _ => none }
def FnExactJoinWrongFalsely : Prop := fnExactJoinRow.holds Try.pinned (OpenSpec.ofChange fnExactJoinWrong)

/-- 'laws.FnExactJoinAll': WHATEVER THE INPUT: true; the input reads as it did. -/
def fnExactJoinAllSpec : ChangeSpec := { name := "fnExactJoinAll", fn := fun _ => fun
  | [d1, d2, d3] => { results := [.lit (.bool true)], args := [d1, d2, d3] }
  | _ => none }
def fnExactJoinAllRow : OpenClaim := { program := "ytfdkkcigmjonfaa", sum := "39c10a8ac660f6247ac9dc282740cd724b61c7f2997b779c0b3b2bcf8bf05241", func := "loop.example/linkedroots/laws.FnExactJoinAll", spec := "fnExactJoinAll", unfollowed := true, recurses := true, apart := false }
def FnExactJoinAllSaid : Prop := fnExactJoinAllRow.holds Try.pinned (OpenSpec.ofChange fnExactJoinAllSpec)

/-- ITS FALSE NEIGHBOUR: 'it returns false'. Refute it at one input. -/
def fnExactJoinAllWrong : ChangeSpec := { name := "fnExactJoinAll", fn := fun _ => fun
  | [d1, d2, d3] => { results := [.lit (.bool false)], args := [d1, d2, d3] }
  | _ => none }
def FnExactJoinAllWrongFalsely : Prop := fnExactJoinAllRow.holds Try.pinned (OpenSpec.ofChange fnExactJoinAllWrong)

/-- 'laws.FnExactUsefulPairs': WHATEVER THE INPUT: true; the input reads as it did. -/
def fnExactUsefulPairsSpec : ChangeSpec := { name := "fnExactUsefulPairs", fn := fun _ => fun
  | [d1, d2] => { results := [.lit (.bool true)], args := [d1, d2] }
  | _ => none }
def fnExactUsefulPairsRow : OpenClaim := { program := "ytfdkkcigmjonfaa", sum := "39c10a8ac660f6247ac9dc282740cd724b61c7f2997b779c0b3b2bcf8bf05241", func := "loop.example/linkedroots/laws.FnExactUsefulPairs", spec := "fnExactUsefulPairs", unfollowed := true, recurses := true, apart := false }
def FnExactUsefulPairsSaid : Prop := fnExactUsefulPairsRow.holds Try.pinned (OpenSpec.ofChange fnExactUsefulPairsSpec)

/-- ITS FALSE NEIGHBOUR: 'it returns false'. Refute it at one input. -/
def fnExactUsefulPairsWrong : ChangeSpec := { name := "fnExactUsefulPairs", fn := fun _ => fun
  | [d1, d2] => { results := [.lit (.bool false)], args := [d1, d2] }
  | _ => none }
def FnExactUsefulPairsWrongFalsely : Prop := fnExactUsefulPairsRow.holds Try.pinned (OpenSpec.ofChange fnExactUsefulPairsWrong)

/-- 'laws.FnExactCountClasses': WHATEVER THE INPUT: true; the input reads as it did. -/
def fnExactCountClassesSpec : ChangeSpec := { name := "fnExactCountClasses", fn := fun _ => fun
  | [d1, d2] => { results := [.lit (.bool true)], args := [d1, d2] }
  | _ => none }
def fnExactCountClassesRow : OpenClaim := { program := "ytfdkkcigmjonfaa", sum := "39c10a8ac660f6247ac9dc282740cd724b61c7f2997b779c0b3b2bcf8bf05241", func := "loop.example/linkedroots/laws.FnExactCountClasses", spec := "fnExactCountClasses", unfollowed := true, recurses := true, apart := false }
def FnExactCountClassesSaid : Prop := fnExactCountClassesRow.holds Try.pinned (OpenSpec.ofChange fnExactCountClassesSpec)

/-- ITS FALSE NEIGHBOUR: 'it returns false'. Refute it at one input. -/
def fnExactCountClassesWrong : ChangeSpec := { name := "fnExactCountClasses", fn := fun _ => fun
  | [d1, d2] => { results := [.lit (.bool false)], args := [d1, d2] }
  | _ => none }
def FnExactCountClassesWrongFalsely : Prop := fnExactCountClassesRow.holds Try.pinned (OpenSpec.ofChange fnExactCountClassesWrong)

/-- 'laws.FnExactLogValid': WHATEVER THE INPUT: true; the input reads as it did. -/
def fnExactLogValidSpec : ChangeSpec := { name := "fnExactLogValid", fn := fun _ => fun
  | [d] => { results := [.lit (.bool true)], args := [d] }
  | _ => none }
def fnExactLogValidRow : OpenClaim := { program := "ytfdkkcigmjonfaa", sum := "39c10a8ac660f6247ac9dc282740cd724b61c7f2997b779c0b3b2bcf8bf05241", func := "loop.example/linkedroots/laws.FnExactLogValid", spec := "fnExactLogValid", unfollowed := true, recurses := true, apart := false }
def FnExactLogValidSaid : Prop := fnExactLogValidRow.holds Try.pinned (OpenSpec.ofChange fnExactLogValidSpec)

/-- ITS FALSE NEIGHBOUR: 'it returns false'. Refute it at one input. -/
def fnExactLogValidWrong : ChangeSpec := { name := "fnExactLogValid", fn := fun _ => fun
  | [d] => { results := [.lit (.bool false)], args := [d] }
  | _ => none }
def FnExactLogValidWrongFalsely : Prop := fnExactLogValidRow.holds Try.pinned (OpenSpec.ofChange fnExactLogValidWrong)

/-- 'laws.FnExactNewLog': WHATEVER THE INPUT: true; the input reads as it did. -/
def fnExactNewLogSpec : ChangeSpec := { name := "fnExactNewLog", fn := fun _ => fun
  | [d] => { results := [.lit (.bool true)], args := [d] }
  | _ => none }
def fnExactNewLogRow : OpenClaim := { program := "ytfdkkcigmjonfaa", sum := "39c10a8ac660f6247ac9dc282740cd724b61c7f2997b779c0b3b2bcf8bf05241", func := "loop.example/linkedroots/laws.FnExactNewLog", spec := "fnExactNewLog", unfollowed := true, recurses := true, apart := false }
def FnExactNewLogSaid : Prop := fnExactNewLogRow.holds Try.pinned (OpenSpec.ofChange fnExactNewLogSpec)

/-- ITS FALSE NEIGHBOUR: 'it returns false'. Refute it at one input. -/
def fnExactNewLogWrong : ChangeSpec := { name := "fnExactNewLog", fn := fun _ => fun
  | [d] => { results := [.lit (.bool false)], args := [d] }
  | _ => none }
def FnExactNewLogWrongFalsely : Prop := fnExactNewLogRow.holds Try.pinned (OpenSpec.ofChange fnExactNewLogWrong)

/-- 'laws.FnExactJoinLog': WHATEVER THE INPUT: true; the input reads as it did. -/
def fnExactJoinLogSpec : ChangeSpec := { name := "fnExactJoinLog", fn := fun _ => fun
  | [d1, d2, d3] => { results := [.lit (.bool true)], args := [d1, d2, d3] }
  | _ => none }
def fnExactJoinLogRow : OpenClaim := { program := "ytfdkkcigmjonfaa", sum := "39c10a8ac660f6247ac9dc282740cd724b61c7f2997b779c0b3b2bcf8bf05241", func := "loop.example/linkedroots/laws.FnExactJoinLog", spec := "fnExactJoinLog", unfollowed := true, recurses := true, apart := false }
def FnExactJoinLogSaid : Prop := fnExactJoinLogRow.holds Try.pinned (OpenSpec.ofChange fnExactJoinLogSpec)

/-- ITS FALSE NEIGHBOUR: 'it returns false'. Refute it at one input. -/
def fnExactJoinLogWrong : ChangeSpec := { name := "fnExactJoinLog", fn := fun _ => fun
  | [d1, d2, d3] => { results := [.lit (.bool false)], args := [d1, d2, d3] }
  | _ => none }
def FnExactJoinLogWrongFalsely : Prop := fnExactJoinLogRow.holds Try.pinned (OpenSpec.ofChange fnExactJoinLogWrong)

/-- 'laws.FnExactUndoLog': WHATEVER THE INPUT: true; the input reads as it did. -/
def fnExactUndoLogSpec : ChangeSpec := { name := "fnExactUndoLog", fn := fun _ => fun
  | [d] => { results := [.lit (.bool true)], args := [d] }
  | _ => none }
def fnExactUndoLogRow : OpenClaim := { program := "ytfdkkcigmjonfaa", sum := "39c10a8ac660f6247ac9dc282740cd724b61c7f2997b779c0b3b2bcf8bf05241", func := "loop.example/linkedroots/laws.FnExactUndoLog", spec := "fnExactUndoLog", unfollowed := true, recurses := true, apart := false }
def FnExactUndoLogSaid : Prop := fnExactUndoLogRow.holds Try.pinned (OpenSpec.ofChange fnExactUndoLogSpec)

/-- ITS FALSE NEIGHBOUR: 'it returns false'. Refute it at one input. -/
def fnExactUndoLogWrong : ChangeSpec := { name := "fnExactUndoLog", fn := fun _ => fun
  | [d] => { results := [.lit (.bool false)], args := [d] }
  | _ => none }
def FnExactUndoLogWrongFalsely : Prop := fnExactUndoLogRow.holds Try.pinned (OpenSpec.ofChange fnExactUndoLogWrong)

/-- 'laws.FnExactBackTo': WHATEVER THE INPUT: true; the input reads as it did. -/
def fnExactBackToSpec : ChangeSpec := { name := "fnExactBackTo", fn := fun _ => fun
  | [d1, d2] => { results := [.lit (.bool true)], args := [d1, d2] }
  | _ => none }
def fnExactBackToRow : OpenClaim := { program := "ytfdkkcigmjonfaa", sum := "39c10a8ac660f6247ac9dc282740cd724b61c7f2997b779c0b3b2bcf8bf05241", func := "loop.example/linkedroots/laws.FnExactBackTo", spec := "fnExactBackTo", unfollowed := true, recurses := true, apart := false }
def FnExactBackToSaid : Prop := fnExactBackToRow.holds Try.pinned (OpenSpec.ofChange fnExactBackToSpec)

/-- ITS FALSE NEIGHBOUR: 'it returns false'. Refute it at one input. -/
def fnExactBackToWrong : ChangeSpec := { name := "fnExactBackTo", fn := fun _ => fun
  | [d1, d2] => { results := [.lit (.bool false)], args := [d1, d2] }
  | _ => none }
def FnExactBackToWrongFalsely : Prop := fnExactBackToRow.holds Try.pinned (OpenSpec.ofChange fnExactBackToWrong)

/-- 'laws.FnExactLogOf': WHATEVER THE INPUT: true; the input reads as it did. -/
def fnExactLogOfSpec : ChangeSpec := { name := "fnExactLogOf", fn := fun _ => fun
  | [d1, d2] => { results := [.lit (.bool true)], args := [d1, d2] }
  | _ => none }
def fnExactLogOfRow : OpenClaim := { program := "ytfdkkcigmjonfaa", sum := "39c10a8ac660f6247ac9dc282740cd724b61c7f2997b779c0b3b2bcf8bf05241", func := "loop.example/linkedroots/laws.FnExactLogOf", spec := "fnExactLogOf", unfollowed := true, recurses := true, apart := false }
def FnExactLogOfSaid : Prop := fnExactLogOfRow.holds Try.pinned (OpenSpec.ofChange fnExactLogOfSpec)

/-- ITS FALSE NEIGHBOUR: 'it returns false'. Refute it at one input. -/
def fnExactLogOfWrong : ChangeSpec := { name := "fnExactLogOf", fn := fun _ => fun
  | [d1, d2] => { results := [.lit (.bool false)], args := [d1, d2] }
  | _ => none }
def FnExactLogOfWrongFalsely : Prop := fnExactLogOfRow.holds Try.pinned (OpenSpec.ofChange fnExactLogOfWrong)

/-- 'laws.FnExactJoinedAt': WHATEVER THE INPUT: true; the input reads as it did. -/
def fnExactJoinedAtSpec : ChangeSpec := { name := "fnExactJoinedAt", fn := fun _ => fun
  | [d1, d2, d3] => { results := [.lit (.bool true)], args := [d1, d2, d3] }
  | _ => none }
def fnExactJoinedAtRow : OpenClaim := { program := "ytfdkkcigmjonfaa", sum := "39c10a8ac660f6247ac9dc282740cd724b61c7f2997b779c0b3b2bcf8bf05241", func := "loop.example/linkedroots/laws.FnExactJoinedAt", spec := "fnExactJoinedAt", unfollowed := true, recurses := true, apart := false }
def FnExactJoinedAtSaid : Prop := fnExactJoinedAtRow.holds Try.pinned (OpenSpec.ofChange fnExactJoinedAtSpec)

/-- ITS FALSE NEIGHBOUR: 'it returns false'. Refute it at one input. -/
def fnExactJoinedAtWrong : ChangeSpec := { name := "fnExactJoinedAt", fn := fun _ => fun
  | [d1, d2, d3] => { results := [.lit (.bool false)], args := [d1, d2, d3] }
  | _ => none }
def FnExactJoinedAtWrongFalsely : Prop := fnExactJoinedAtRow.holds Try.pinned (OpenSpec.ofChange fnExactJoinedAtWrong)

/- THE SECOND FORM. 'bulk': how many values and letters a reading holds, each counted each time it is reached (what is shared counts as often as it is met; a slice's spare places count too). A statement '..UptoSaid' is the law's where the arguments, and the package variables that the reading takes, are together of bulk at most 1048576: NARROWER than '..Said'. Prove '..Said' where nothing that the law and all that it calls make is longer than what came in: it says more and counts as full. Else prove '..UptoSaid'. A law counts once. -/
mutual
def uptoBulk {H : Type} : DataW H → Nat
  | .lit (.string bytes) => bytes.length + 1
  | .lit _ => 1
  | .nil => 1
  | .ptr d => uptoBulk d + 1
  | .slice elems spare => uptoBulkAll elems + uptoBulkAll spare + 1
  | .agg parts => uptoBulkAll parts + 1
  | .iface _ d => uptoBulk d + 1
  | .map entries => uptoBulkEntries entries + 1
  | .held _ => 1
def uptoBulkAll {H : Type} : List (DataW H) → Nat
  | [] => 0
  | d :: r => uptoBulk d + uptoBulkAll r
def uptoBulkEntries {H : Type} : List (Lit × DataW H) → Nat
  | [] => 0
  | x :: r => uptoBulkEntry x + uptoBulkEntries r
def uptoBulkEntry {H : Type} : Lit × DataW H → Nat
  | (.string bytes, d) => bytes.length + uptoBulk d + 1
  | (_, d) => uptoBulk d + 1
 end
def uptoSmall : (H : Type) → List (DataW H) → Bool := fun _ ds => decide (uptoBulkAll ds ≤ 1048576)
def OpenSpec.upto (s : _root_.Go.ChangeSpec) : _root_.Go.OpenSpec := { _root_.Go.OpenSpec.ofChange s with cond := some uptoSmall }

/-- 'laws.FnJoin', WHERE WHAT IT READS IS OF BULK AT MOST 1048576: true; the input reads as it did. -/
def fnJoinUptoRow : OpenClaim := { program := "ytfdkkcigmjonfaa", sum := "39c10a8ac660f6247ac9dc282740cd724b61c7f2997b779c0b3b2bcf8bf05241", func := "loop.example/linkedroots/laws.FnJoin", spec := "fnJoin", unfollowed := true, recurses := true, apart := false, narrowed := true }
def FnJoinUptoSaid : Prop := fnJoinUptoRow.holds Try.pinned (OpenSpec.upto fnJoinSpec)

/-- 'laws.FnAnyRule', WHERE WHAT IT READS IS OF BULK AT MOST 1048576: true; the input reads as it did. -/
def fnAnyRuleUptoRow : OpenClaim := { program := "ytfdkkcigmjonfaa", sum := "39c10a8ac660f6247ac9dc282740cd724b61c7f2997b779c0b3b2bcf8bf05241", func := "loop.example/linkedroots/laws.FnAnyRule", spec := "fnAnyRule", unfollowed := true, recurses := true, apart := false, narrowed := true }
def FnAnyRuleUptoSaid : Prop := fnAnyRuleUptoRow.holds Try.pinned (OpenSpec.upto fnAnyRuleSpec)

/-- 'laws.FnShallow', WHERE WHAT IT READS IS OF BULK AT MOST 1048576: true; the input reads as it did. -/
def fnShallowUptoRow : OpenClaim := { program := "ytfdkkcigmjonfaa", sum := "39c10a8ac660f6247ac9dc282740cd724b61c7f2997b779c0b3b2bcf8bf05241", func := "loop.example/linkedroots/laws.FnShallow", spec := "fnShallow", unfollowed := true, recurses := true, apart := false, narrowed := true }
def FnShallowUptoSaid : Prop := fnShallowUptoRow.holds Try.pinned (OpenSpec.upto fnShallowSpec)

/-- 'laws.FnUseful', WHERE WHAT IT READS IS OF BULK AT MOST 1048576: true; the input reads as it did. -/
def fnUsefulUptoRow : OpenClaim := { program := "ytfdkkcigmjonfaa", sum := "39c10a8ac660f6247ac9dc282740cd724b61c7f2997b779c0b3b2bcf8bf05241", func := "loop.example/linkedroots/laws.FnUseful", spec := "fnUseful", unfollowed := true, recurses := true, apart := false, narrowed := true }
def FnUsefulUptoSaid : Prop := fnUsefulUptoRow.holds Try.pinned (OpenSpec.upto fnUsefulSpec)

/-- 'laws.FnTwice', WHERE WHAT IT READS IS OF BULK AT MOST 1048576: true; the input reads as it did. -/
def fnTwiceUptoRow : OpenClaim := { program := "ytfdkkcigmjonfaa", sum := "39c10a8ac660f6247ac9dc282740cd724b61c7f2997b779c0b3b2bcf8bf05241", func := "loop.example/linkedroots/laws.FnTwice", spec := "fnTwice", unfollowed := true, recurses := true, apart := false, narrowed := true }
def FnTwiceUptoSaid : Prop := fnTwiceUptoRow.holds Try.pinned (OpenSpec.upto fnTwiceSpec)

/-- 'laws.FnParts', WHERE WHAT IT READS IS OF BULK AT MOST 1048576: true; the input reads as it did. -/
def fnPartsUptoRow : OpenClaim := { program := "ytfdkkcigmjonfaa", sum := "39c10a8ac660f6247ac9dc282740cd724b61c7f2997b779c0b3b2bcf8bf05241", func := "loop.example/linkedroots/laws.FnParts", spec := "fnParts", unfollowed := true, recurses := true, apart := false, narrowed := true }
def FnPartsUptoSaid : Prop := fnPartsUptoRow.holds Try.pinned (OpenSpec.upto fnPartsSpec)

/-- 'laws.FnEither', WHERE WHAT IT READS IS OF BULK AT MOST 1048576: true; the input reads as it did. -/
def fnEitherUptoRow : OpenClaim := { program := "ytfdkkcigmjonfaa", sum := "39c10a8ac660f6247ac9dc282740cd724b61c7f2997b779c0b3b2bcf8bf05241", func := "loop.example/linkedroots/laws.FnEither", spec := "fnEither", unfollowed := true, recurses := true, apart := false, narrowed := true }
def FnEitherUptoSaid : Prop := fnEitherUptoRow.holds Try.pinned (OpenSpec.upto fnEitherSpec)

/-- 'laws.FnAnyOrder', WHERE WHAT IT READS IS OF BULK AT MOST 1048576: true; the input reads as it did. -/
def fnAnyOrderUptoRow : OpenClaim := { program := "ytfdkkcigmjonfaa", sum := "39c10a8ac660f6247ac9dc282740cd724b61c7f2997b779c0b3b2bcf8bf05241", func := "loop.example/linkedroots/laws.FnAnyOrder", spec := "fnAnyOrder", unfollowed := true, recurses := true, apart := false, narrowed := true }
def FnAnyOrderUptoSaid : Prop := fnAnyOrderUptoRow.holds Try.pinned (OpenSpec.upto fnAnyOrderSpec)

/-- 'laws.FnLook', WHERE WHAT IT READS IS OF BULK AT MOST 1048576: true; the input reads as it did. -/
def fnLookUptoRow : OpenClaim := { program := "ytfdkkcigmjonfaa", sum := "39c10a8ac660f6247ac9dc282740cd724b61c7f2997b779c0b3b2bcf8bf05241", func := "loop.example/linkedroots/laws.FnLook", spec := "fnLook", unfollowed := true, recurses := true, apart := false, narrowed := true }
def FnLookUptoSaid : Prop := fnLookUptoRow.holds Try.pinned (OpenSpec.upto fnLookSpec)

/-- 'laws.FnLookJoin', WHERE WHAT IT READS IS OF BULK AT MOST 1048576: true; the input reads as it did. -/
def fnLookJoinUptoRow : OpenClaim := { program := "ytfdkkcigmjonfaa", sum := "39c10a8ac660f6247ac9dc282740cd724b61c7f2997b779c0b3b2bcf8bf05241", func := "loop.example/linkedroots/laws.FnLookJoin", spec := "fnLookJoin", unfollowed := true, recurses := true, apart := false, narrowed := true }
def FnLookJoinUptoSaid : Prop := fnLookJoinUptoRow.holds Try.pinned (OpenSpec.upto fnLookJoinSpec)

/-- 'laws.FnRootSizes', WHERE WHAT IT READS IS OF BULK AT MOST 1048576: true; the input reads as it did. -/
def fnRootSizesUptoRow : OpenClaim := { program := "ytfdkkcigmjonfaa", sum := "39c10a8ac660f6247ac9dc282740cd724b61c7f2997b779c0b3b2bcf8bf05241", func := "loop.example/linkedroots/laws.FnRootSizes", spec := "fnRootSizes", unfollowed := true, recurses := true, apart := false, narrowed := true }
def FnRootSizesUptoSaid : Prop := fnRootSizesUptoRow.holds Try.pinned (OpenSpec.upto fnRootSizesSpec)

/-- 'laws.FnUndo', WHERE WHAT IT READS IS OF BULK AT MOST 1048576: true; the input reads as it did. -/
def fnUndoUptoRow : OpenClaim := { program := "ytfdkkcigmjonfaa", sum := "39c10a8ac660f6247ac9dc282740cd724b61c7f2997b779c0b3b2bcf8bf05241", func := "loop.example/linkedroots/laws.FnUndo", spec := "fnUndo", unfollowed := true, recurses := true, apart := false, narrowed := true }
def FnUndoUptoSaid : Prop := fnUndoUptoRow.holds Try.pinned (OpenSpec.upto fnUndoSpec)

/-- 'laws.FnBackTo', WHERE WHAT IT READS IS OF BULK AT MOST 1048576: true; the input reads as it did. -/
def fnBackToUptoRow : OpenClaim := { program := "ytfdkkcigmjonfaa", sum := "39c10a8ac660f6247ac9dc282740cd724b61c7f2997b779c0b3b2bcf8bf05241", func := "loop.example/linkedroots/laws.FnBackTo", spec := "fnBackTo", unfollowed := true, recurses := true, apart := false, narrowed := true }
def FnBackToUptoSaid : Prop := fnBackToUptoRow.holds Try.pinned (OpenSpec.upto fnBackToSpec)

/-- 'laws.FnLogOf', WHERE WHAT IT READS IS OF BULK AT MOST 1048576: true; the input reads as it did. -/
def fnLogOfUptoRow : OpenClaim := { program := "ytfdkkcigmjonfaa", sum := "39c10a8ac660f6247ac9dc282740cd724b61c7f2997b779c0b3b2bcf8bf05241", func := "loop.example/linkedroots/laws.FnLogOf", spec := "fnLogOf", unfollowed := true, recurses := true, apart := false, narrowed := true }
def FnLogOfUptoSaid : Prop := fnLogOfUptoRow.holds Try.pinned (OpenSpec.upto fnLogOfSpec)

/-- 'laws.FnUndoAll', WHERE WHAT IT READS IS OF BULK AT MOST 1048576: true; the input reads as it did. -/
def fnUndoAllUptoRow : OpenClaim := { program := "ytfdkkcigmjonfaa", sum := "39c10a8ac660f6247ac9dc282740cd724b61c7f2997b779c0b3b2bcf8bf05241", func := "loop.example/linkedroots/laws.FnUndoAll", spec := "fnUndoAll", unfollowed := true, recurses := true, apart := false, narrowed := true }
def FnUndoAllUptoSaid : Prop := fnUndoAllUptoRow.holds Try.pinned (OpenSpec.upto fnUndoAllSpec)

/-- 'laws.FnJoinedThree', WHERE WHAT IT READS IS OF BULK AT MOST 1048576: true; the input reads as it did. -/
def fnJoinedThreeUptoRow : OpenClaim := { program := "ytfdkkcigmjonfaa", sum := "39c10a8ac660f6247ac9dc282740cd724b61c7f2997b779c0b3b2bcf8bf05241", func := "loop.example/linkedroots/laws.FnJoinedThree", spec := "fnJoinedThree", unfollowed := true, recurses := true, apart := false, narrowed := true }
def FnJoinedThreeUptoSaid : Prop := fnJoinedThreeUptoRow.holds Try.pinned (OpenSpec.upto fnJoinedThreeSpec)

/-- 'laws.FnLogParts', WHERE WHAT IT READS IS OF BULK AT MOST 1048576: true; the input reads as it did. -/
def fnLogPartsUptoRow : OpenClaim := { program := "ytfdkkcigmjonfaa", sum := "39c10a8ac660f6247ac9dc282740cd724b61c7f2997b779c0b3b2bcf8bf05241", func := "loop.example/linkedroots/laws.FnLogParts", spec := "fnLogParts", unfollowed := true, recurses := true, apart := false, narrowed := true }
def FnLogPartsUptoSaid : Prop := fnLogPartsUptoRow.holds Try.pinned (OpenSpec.upto fnLogPartsSpec)

/-- 'laws.FnExactJoin', WHERE WHAT IT READS IS OF BULK AT MOST 1048576: true; the input reads as it did. -/
def fnExactJoinUptoRow : OpenClaim := { program := "ytfdkkcigmjonfaa", sum := "39c10a8ac660f6247ac9dc282740cd724b61c7f2997b779c0b3b2bcf8bf05241", func := "loop.example/linkedroots/laws.FnExactJoin", spec := "fnExactJoin", unfollowed := true, recurses := true, apart := false, narrowed := true }
def FnExactJoinUptoSaid : Prop := fnExactJoinUptoRow.holds Try.pinned (OpenSpec.upto fnExactJoinSpec)

/-- 'laws.FnExactJoinAll', WHERE WHAT IT READS IS OF BULK AT MOST 1048576: true; the input reads as it did. -/
def fnExactJoinAllUptoRow : OpenClaim := { program := "ytfdkkcigmjonfaa", sum := "39c10a8ac660f6247ac9dc282740cd724b61c7f2997b779c0b3b2bcf8bf05241", func := "loop.example/linkedroots/laws.FnExactJoinAll", spec := "fnExactJoinAll", unfollowed := true, recurses := true, apart := false, narrowed := true }
def FnExactJoinAllUptoSaid : Prop := fnExactJoinAllUptoRow.holds Try.pinned (OpenSpec.upto fnExactJoinAllSpec)

/-- 'laws.FnExactUsefulPairs', WHERE WHAT IT READS IS OF BULK AT MOST 1048576: true; the input reads as it did. -/
def fnExactUsefulPairsUptoRow : OpenClaim := { program := "ytfdkkcigmjonfaa", sum := "39c10a8ac660f6247ac9dc282740cd724b61c7f2997b779c0b3b2bcf8bf05241", func := "loop.example/linkedroots/laws.FnExactUsefulPairs", spec := "fnExactUsefulPairs", unfollowed := true, recurses := true, apart := false, narrowed := true }
def FnExactUsefulPairsUptoSaid : Prop := fnExactUsefulPairsUptoRow.holds Try.pinned (OpenSpec.upto fnExactUsefulPairsSpec)

/-- 'laws.FnExactCountClasses', WHERE WHAT IT READS IS OF BULK AT MOST 1048576: true; the input reads as it did. -/
def fnExactCountClassesUptoRow : OpenClaim := { program := "ytfdkkcigmjonfaa", sum := "39c10a8ac660f6247ac9dc282740cd724b61c7f2997b779c0b3b2bcf8bf05241", func := "loop.example/linkedroots/laws.FnExactCountClasses", spec := "fnExactCountClasses", unfollowed := true, recurses := true, apart := false, narrowed := true }
def FnExactCountClassesUptoSaid : Prop := fnExactCountClassesUptoRow.holds Try.pinned (OpenSpec.upto fnExactCountClassesSpec)

/-- 'laws.FnExactLogValid', WHERE WHAT IT READS IS OF BULK AT MOST 1048576: true; the input reads as it did. -/
def fnExactLogValidUptoRow : OpenClaim := { program := "ytfdkkcigmjonfaa", sum := "39c10a8ac660f6247ac9dc282740cd724b61c7f2997b779c0b3b2bcf8bf05241", func := "loop.example/linkedroots/laws.FnExactLogValid", spec := "fnExactLogValid", unfollowed := true, recurses := true, apart := false, narrowed := true }
def FnExactLogValidUptoSaid : Prop := fnExactLogValidUptoRow.holds Try.pinned (OpenSpec.upto fnExactLogValidSpec)

/-- 'laws.FnExactNewLog', WHERE WHAT IT READS IS OF BULK AT MOST 1048576: true; the input reads as it did. -/
def fnExactNewLogUptoRow : OpenClaim := { program := "ytfdkkcigmjonfaa", sum := "39c10a8ac660f6247ac9dc282740cd724b61c7f2997b779c0b3b2bcf8bf05241", func := "loop.example/linkedroots/laws.FnExactNewLog", spec := "fnExactNewLog", unfollowed := true, recurses := true, apart := false, narrowed := true }
def FnExactNewLogUptoSaid : Prop := fnExactNewLogUptoRow.holds Try.pinned (OpenSpec.upto fnExactNewLogSpec)

/-- 'laws.FnExactJoinLog', WHERE WHAT IT READS IS OF BULK AT MOST 1048576: true; the input reads as it did. -/
def fnExactJoinLogUptoRow : OpenClaim := { program := "ytfdkkcigmjonfaa", sum := "39c10a8ac660f6247ac9dc282740cd724b61c7f2997b779c0b3b2bcf8bf05241", func := "loop.example/linkedroots/laws.FnExactJoinLog", spec := "fnExactJoinLog", unfollowed := true, recurses := true, apart := false, narrowed := true }
def FnExactJoinLogUptoSaid : Prop := fnExactJoinLogUptoRow.holds Try.pinned (OpenSpec.upto fnExactJoinLogSpec)

/-- 'laws.FnExactUndoLog', WHERE WHAT IT READS IS OF BULK AT MOST 1048576: true; the input reads as it did. -/
def fnExactUndoLogUptoRow : OpenClaim := { program := "ytfdkkcigmjonfaa", sum := "39c10a8ac660f6247ac9dc282740cd724b61c7f2997b779c0b3b2bcf8bf05241", func := "loop.example/linkedroots/laws.FnExactUndoLog", spec := "fnExactUndoLog", unfollowed := true, recurses := true, apart := false, narrowed := true }
def FnExactUndoLogUptoSaid : Prop := fnExactUndoLogUptoRow.holds Try.pinned (OpenSpec.upto fnExactUndoLogSpec)

/-- 'laws.FnExactBackTo', WHERE WHAT IT READS IS OF BULK AT MOST 1048576: true; the input reads as it did. -/
def fnExactBackToUptoRow : OpenClaim := { program := "ytfdkkcigmjonfaa", sum := "39c10a8ac660f6247ac9dc282740cd724b61c7f2997b779c0b3b2bcf8bf05241", func := "loop.example/linkedroots/laws.FnExactBackTo", spec := "fnExactBackTo", unfollowed := true, recurses := true, apart := false, narrowed := true }
def FnExactBackToUptoSaid : Prop := fnExactBackToUptoRow.holds Try.pinned (OpenSpec.upto fnExactBackToSpec)

/-- 'laws.FnExactLogOf', WHERE WHAT IT READS IS OF BULK AT MOST 1048576: true; the input reads as it did. -/
def fnExactLogOfUptoRow : OpenClaim := { program := "ytfdkkcigmjonfaa", sum := "39c10a8ac660f6247ac9dc282740cd724b61c7f2997b779c0b3b2bcf8bf05241", func := "loop.example/linkedroots/laws.FnExactLogOf", spec := "fnExactLogOf", unfollowed := true, recurses := true, apart := false, narrowed := true }
def FnExactLogOfUptoSaid : Prop := fnExactLogOfUptoRow.holds Try.pinned (OpenSpec.upto fnExactLogOfSpec)

/-- 'laws.FnExactJoinedAt', WHERE WHAT IT READS IS OF BULK AT MOST 1048576: true; the input reads as it did. -/
def fnExactJoinedAtUptoRow : OpenClaim := { program := "ytfdkkcigmjonfaa", sum := "39c10a8ac660f6247ac9dc282740cd724b61c7f2997b779c0b3b2bcf8bf05241", func := "loop.example/linkedroots/laws.FnExactJoinedAt", spec := "fnExactJoinedAt", unfollowed := true, recurses := true, apart := false, narrowed := true }
def FnExactJoinedAtUptoSaid : Prop := fnExactJoinedAtUptoRow.holds Try.pinned (OpenSpec.upto fnExactJoinedAtSpec)

end Rows
end Go.Proofs.Ytfdkkcigmjonfaa
