/-
  No cell of these rows narrows 'for every input' (looked for: loops, veiled, ifaces, maps, wideKeys, modest, calm, conditions, laid).
  DERIVED. THE GIVEN ROWS OF THIS SEAT. 26 by the template 'for every input the law returns true; each argument reads behind the call as it read before'; 0 by the template 'total and deterministic' (their statements: YtemkbheplmimoaaTotals.lean).
  GIVEN WITH THE SEED: the statements are not yours to turn. If you find one false, say at which input.
  Laid BY PROGRAM, IN A SANDBOX (cutbox-rows.mjs): the forced cells as the released guide's own fill.sh prints them over the translation 91d48eb6f7da9671… (all of the seat's roots in one cut). By AI agents, Wed Nov 11 2026. No macro, syntax, notation, axiom, sorry.
-/
import Derived.Test.YtemkbheplmimoaaChecked
import GoSem.Claim
import GoSem.ClaimJoined
import GoSem.ClaimMapViews
import Derived.JoinedTies
import Derived.KernelRfl
namespace Go.Proofs.Ytemkbheplmimoaa
/- THE CELL 'sum', in the pinned program and in every row, IS THE sha256 OF THE DUMP (.gsa) THAT YtemkbheplmimoaaProg.lean LOADS. Nothing in Lean hashes anything: it is a label: what it is worth is what the hold of that sum in a sandbox is worth. -/
noncomputable def Try.pinned : Pinned := { name := "ytemkbheplmimoaa", sum := "91d48eb6f7da9671c0651743a05e08c8c4287802a4ca47c7d6bd8ac889543360", checked := Try.checked }
namespace Rows
def none {H : Type} : Left H := { results := [], args := [] }

/-- 'laws.FnJoin': WHATEVER THE INPUT: true; the input reads as it did. -/
def fnJoinSpec : ChangeSpec := { name := "fnJoin", fn := fun _ => fun
  | [d] => { results := [.lit (.bool true)], args := [d] }
  | _ => none }
def fnJoinRow : OpenClaim := { program := "ytemkbheplmimoaa", sum := "91d48eb6f7da9671c0651743a05e08c8c4287802a4ca47c7d6bd8ac889543360", func := "loop.example/linkedroots/laws.FnJoin", spec := "fnJoin", unfollowed := true, recurses := true, apart := false }
def FnJoinSaid : Prop := fnJoinRow.holds Try.pinned (OpenSpec.ofChange fnJoinSpec)

/-- ITS FALSE NEIGHBOUR: 'it returns false'. Refute it at one input. -/
def fnJoinWrong : ChangeSpec := { name := "fnJoin", fn := fun _ => fun
  | [d] => { results := [.lit (.bool false)], args := [d] }
  | _ => none }
def FnJoinWrongFalsely : Prop := fnJoinRow.holds Try.pinned (OpenSpec.ofChange fnJoinWrong)

/-- 'laws.FnAnyRule': WHATEVER THE INPUT: true; the input reads as it did. -/
def fnAnyRuleSpec : ChangeSpec := { name := "fnAnyRule", fn := fun _ => fun
  | [d] => { results := [.lit (.bool true)], args := [d] }
  | _ => none }
def fnAnyRuleRow : OpenClaim := { program := "ytemkbheplmimoaa", sum := "91d48eb6f7da9671c0651743a05e08c8c4287802a4ca47c7d6bd8ac889543360", func := "loop.example/linkedroots/laws.FnAnyRule", spec := "fnAnyRule", unfollowed := true, recurses := true, apart := false }
def FnAnyRuleSaid : Prop := fnAnyRuleRow.holds Try.pinned (OpenSpec.ofChange fnAnyRuleSpec)

/-- ITS FALSE NEIGHBOUR: 'it returns false'. Refute it at one input. -/
def fnAnyRuleWrong : ChangeSpec := { name := "fnAnyRule", fn := fun _ => fun
  | [d] => { results := [.lit (.bool false)], args := [d] }
  | _ => none }
def FnAnyRuleWrongFalsely : Prop := fnAnyRuleRow.holds Try.pinned (OpenSpec.ofChange fnAnyRuleWrong)

/-- 'laws.FnShallow': WHATEVER THE INPUT: true; the input reads as it did. -/
def fnShallowSpec : ChangeSpec := { name := "fnShallow", fn := fun _ => fun
  | [d1, d2] => { results := [.lit (.bool true)], args := [d1, d2] }
  | _ => none }
def fnShallowRow : OpenClaim := { program := "ytemkbheplmimoaa", sum := "91d48eb6f7da9671c0651743a05e08c8c4287802a4ca47c7d6bd8ac889543360", func := "loop.example/linkedroots/laws.FnShallow", spec := "fnShallow", unfollowed := true, recurses := true, apart := false }
def FnShallowSaid : Prop := fnShallowRow.holds Try.pinned (OpenSpec.ofChange fnShallowSpec)

/-- ITS FALSE NEIGHBOUR: 'it returns false'. Refute it at one input. -/
def fnShallowWrong : ChangeSpec := { name := "fnShallow", fn := fun _ => fun
  | [d1, d2] => { results := [.lit (.bool false)], args := [d1, d2] }
  | _ => none }
def FnShallowWrongFalsely : Prop := fnShallowRow.holds Try.pinned (OpenSpec.ofChange fnShallowWrong)

/-- 'laws.FnUseful': WHATEVER THE INPUT: true; the input reads as it did. -/
def fnUsefulSpec : ChangeSpec := { name := "fnUseful", fn := fun _ => fun
  | [d] => { results := [.lit (.bool true)], args := [d] }
  | _ => none }
def fnUsefulRow : OpenClaim := { program := "ytemkbheplmimoaa", sum := "91d48eb6f7da9671c0651743a05e08c8c4287802a4ca47c7d6bd8ac889543360", func := "loop.example/linkedroots/laws.FnUseful", spec := "fnUseful", unfollowed := true, recurses := true, apart := false }
def FnUsefulSaid : Prop := fnUsefulRow.holds Try.pinned (OpenSpec.ofChange fnUsefulSpec)

/-- ITS FALSE NEIGHBOUR: 'it returns false'. Refute it at one input. -/
def fnUsefulWrong : ChangeSpec := { name := "fnUseful", fn := fun _ => fun
  | [d] => { results := [.lit (.bool false)], args := [d] }
  | _ => none }
def FnUsefulWrongFalsely : Prop := fnUsefulRow.holds Try.pinned (OpenSpec.ofChange fnUsefulWrong)

/-- 'laws.FnTwice': WHATEVER THE INPUT: true; the input reads as it did. -/
def fnTwiceSpec : ChangeSpec := { name := "fnTwice", fn := fun _ => fun
  | [d] => { results := [.lit (.bool true)], args := [d] }
  | _ => none }
def fnTwiceRow : OpenClaim := { program := "ytemkbheplmimoaa", sum := "91d48eb6f7da9671c0651743a05e08c8c4287802a4ca47c7d6bd8ac889543360", func := "loop.example/linkedroots/laws.FnTwice", spec := "fnTwice", unfollowed := true, recurses := true, apart := false }
def FnTwiceSaid : Prop := fnTwiceRow.holds Try.pinned (OpenSpec.ofChange fnTwiceSpec)

/-- ITS FALSE NEIGHBOUR: 'it returns false'. Refute it at one input. -/
def fnTwiceWrong : ChangeSpec := { name := "fnTwice", fn := fun _ => fun
  | [d] => { results := [.lit (.bool false)], args := [d] }
  | _ => none }
def FnTwiceWrongFalsely : Prop := fnTwiceRow.holds Try.pinned (OpenSpec.ofChange fnTwiceWrong)

/-- 'laws.FnParts': WHATEVER THE INPUT: true; the input reads as it did. -/
def fnPartsSpec : ChangeSpec := { name := "fnParts", fn := fun _ => fun
  | [d1, d2] => { results := [.lit (.bool true)], args := [d1, d2] }
  | _ => none }
def fnPartsRow : OpenClaim := { program := "ytemkbheplmimoaa", sum := "91d48eb6f7da9671c0651743a05e08c8c4287802a4ca47c7d6bd8ac889543360", func := "loop.example/linkedroots/laws.FnParts", spec := "fnParts", unfollowed := true, recurses := true, apart := false }
def FnPartsSaid : Prop := fnPartsRow.holds Try.pinned (OpenSpec.ofChange fnPartsSpec)

/-- ITS FALSE NEIGHBOUR: 'it returns false'. Refute it at one input. -/
def fnPartsWrong : ChangeSpec := { name := "fnParts", fn := fun _ => fun
  | [d1, d2] => { results := [.lit (.bool false)], args := [d1, d2] }
  | _ => none }
def FnPartsWrongFalsely : Prop := fnPartsRow.holds Try.pinned (OpenSpec.ofChange fnPartsWrong)

/-- 'laws.FnEither': WHATEVER THE INPUT: true; the input reads as it did. -/
def fnEitherSpec : ChangeSpec := { name := "fnEither", fn := fun _ => fun
  | [d] => { results := [.lit (.bool true)], args := [d] }
  | _ => none }
def fnEitherRow : OpenClaim := { program := "ytemkbheplmimoaa", sum := "91d48eb6f7da9671c0651743a05e08c8c4287802a4ca47c7d6bd8ac889543360", func := "loop.example/linkedroots/laws.FnEither", spec := "fnEither", unfollowed := true, recurses := true, apart := false }
def FnEitherSaid : Prop := fnEitherRow.holds Try.pinned (OpenSpec.ofChange fnEitherSpec)

/-- ITS FALSE NEIGHBOUR: 'it returns false'. Refute it at one input. -/
def fnEitherWrong : ChangeSpec := { name := "fnEither", fn := fun _ => fun
  | [d] => { results := [.lit (.bool false)], args := [d] }
  | _ => none }
def FnEitherWrongFalsely : Prop := fnEitherRow.holds Try.pinned (OpenSpec.ofChange fnEitherWrong)

/-- 'laws.FnAnyOrder': WHATEVER THE INPUT: true; the input reads as it did. -/
def fnAnyOrderSpec : ChangeSpec := { name := "fnAnyOrder", fn := fun _ => fun
  | [d] => { results := [.lit (.bool true)], args := [d] }
  | _ => none }
def fnAnyOrderRow : OpenClaim := { program := "ytemkbheplmimoaa", sum := "91d48eb6f7da9671c0651743a05e08c8c4287802a4ca47c7d6bd8ac889543360", func := "loop.example/linkedroots/laws.FnAnyOrder", spec := "fnAnyOrder", unfollowed := true, recurses := true, apart := false }
def FnAnyOrderSaid : Prop := fnAnyOrderRow.holds Try.pinned (OpenSpec.ofChange fnAnyOrderSpec)

/-- ITS FALSE NEIGHBOUR: 'it returns false'. Refute it at one input. -/
def fnAnyOrderWrong : ChangeSpec := { name := "fnAnyOrder", fn := fun _ => fun
  | [d] => { results := [.lit (.bool false)], args := [d] }
  | _ => none }
def FnAnyOrderWrongFalsely : Prop := fnAnyOrderRow.holds Try.pinned (OpenSpec.ofChange fnAnyOrderWrong)

/-- 'laws.FnLook': WHATEVER THE INPUT: true; the input reads as it did. -/
def fnLookSpec : ChangeSpec := { name := "fnLook", fn := fun _ => fun
  | [d] => { results := [.lit (.bool true)], args := [d] }
  | _ => none }
def fnLookRow : OpenClaim := { program := "ytemkbheplmimoaa", sum := "91d48eb6f7da9671c0651743a05e08c8c4287802a4ca47c7d6bd8ac889543360", func := "loop.example/linkedroots/laws.FnLook", spec := "fnLook", unfollowed := true, recurses := true, apart := false }
def FnLookSaid : Prop := fnLookRow.holds Try.pinned (OpenSpec.ofChange fnLookSpec)

/-- ITS FALSE NEIGHBOUR: 'it returns false'. Refute it at one input. -/
def fnLookWrong : ChangeSpec := { name := "fnLook", fn := fun _ => fun
  | [d] => { results := [.lit (.bool false)], args := [d] }
  | _ => none }
def FnLookWrongFalsely : Prop := fnLookRow.holds Try.pinned (OpenSpec.ofChange fnLookWrong)

/-- 'laws.FnSteps': WHATEVER THE INPUT: true; the input reads as it did. -/
def fnStepsSpec : ChangeSpec := { name := "fnSteps", fn := fun _ => fun
  | [d] => { results := [.lit (.bool true)], args := [d] }
  | _ => none }
def fnStepsRow : OpenClaim := { program := "ytemkbheplmimoaa", sum := "91d48eb6f7da9671c0651743a05e08c8c4287802a4ca47c7d6bd8ac889543360", func := "loop.example/linkedroots/laws.FnSteps", spec := "fnSteps", unfollowed := true, recurses := true, apart := false }
def FnStepsSaid : Prop := fnStepsRow.holds Try.pinned (OpenSpec.ofChange fnStepsSpec)

/-- ITS FALSE NEIGHBOUR: 'it returns false'. Refute it at one input. -/
def fnStepsWrong : ChangeSpec := { name := "fnSteps", fn := fun _ => fun
  | [d] => { results := [.lit (.bool false)], args := [d] }
  | _ => none }
def FnStepsWrongFalsely : Prop := fnStepsRow.holds Try.pinned (OpenSpec.ofChange fnStepsWrong)

/-- 'laws.FnLookAll': WHATEVER THE INPUT: true; the input reads as it did. -/
def fnLookAllSpec : ChangeSpec := { name := "fnLookAll", fn := fun _ => fun
  | [d1, d2] => { results := [.lit (.bool true)], args := [d1, d2] }
  | _ => none }
def fnLookAllRow : OpenClaim := { program := "ytemkbheplmimoaa", sum := "91d48eb6f7da9671c0651743a05e08c8c4287802a4ca47c7d6bd8ac889543360", func := "loop.example/linkedroots/laws.FnLookAll", spec := "fnLookAll", unfollowed := true, recurses := true, apart := false }
def FnLookAllSaid : Prop := fnLookAllRow.holds Try.pinned (OpenSpec.ofChange fnLookAllSpec)

/-- ITS FALSE NEIGHBOUR: 'it returns false'. Refute it at one input. -/
def fnLookAllWrong : ChangeSpec := { name := "fnLookAll", fn := fun _ => fun
  | [d1, d2] => { results := [.lit (.bool false)], args := [d1, d2] }
  | _ => none }
def FnLookAllWrongFalsely : Prop := fnLookAllRow.holds Try.pinned (OpenSpec.ofChange fnLookAllWrong)

/-- 'laws.FnFlat': WHATEVER THE INPUT: true; the input reads as it did. -/
def fnFlatSpec : ChangeSpec := { name := "fnFlat", fn := fun _ => fun
  | [d] => { results := [.lit (.bool true)], args := [d] }
  | _ => none }
def fnFlatRow : OpenClaim := { program := "ytemkbheplmimoaa", sum := "91d48eb6f7da9671c0651743a05e08c8c4287802a4ca47c7d6bd8ac889543360", func := "loop.example/linkedroots/laws.FnFlat", spec := "fnFlat", unfollowed := true, recurses := true, apart := false }
def FnFlatSaid : Prop := fnFlatRow.holds Try.pinned (OpenSpec.ofChange fnFlatSpec)

/-- ITS FALSE NEIGHBOUR: 'it returns false'. Refute it at one input. -/
def fnFlatWrong : ChangeSpec := { name := "fnFlat", fn := fun _ => fun
  | [d] => { results := [.lit (.bool false)], args := [d] }
  | _ => none }
def FnFlatWrongFalsely : Prop := fnFlatRow.holds Try.pinned (OpenSpec.ofChange fnFlatWrong)

/-- 'laws.FnLooksToFlat': WHATEVER THE INPUT: true; the input reads as it did. -/
def fnLooksToFlatSpec : ChangeSpec := { name := "fnLooksToFlat", fn := fun _ => fun
  | [d] => { results := [.lit (.bool true)], args := [d] }
  | _ => none }
def fnLooksToFlatRow : OpenClaim := { program := "ytemkbheplmimoaa", sum := "91d48eb6f7da9671c0651743a05e08c8c4287802a4ca47c7d6bd8ac889543360", func := "loop.example/linkedroots/laws.FnLooksToFlat", spec := "fnLooksToFlat", unfollowed := true, recurses := true, apart := false }
def FnLooksToFlatSaid : Prop := fnLooksToFlatRow.holds Try.pinned (OpenSpec.ofChange fnLooksToFlatSpec)

/-- ITS FALSE NEIGHBOUR: 'it returns false'. Refute it at one input. -/
def fnLooksToFlatWrong : ChangeSpec := { name := "fnLooksToFlat", fn := fun _ => fun
  | [d] => { results := [.lit (.bool false)], args := [d] }
  | _ => none }
def FnLooksToFlatWrongFalsely : Prop := fnLooksToFlatRow.holds Try.pinned (OpenSpec.ofChange fnLooksToFlatWrong)

/-- 'laws.FnLookJoin': WHATEVER THE INPUT: true; the input reads as it did. -/
def fnLookJoinSpec : ChangeSpec := { name := "fnLookJoin", fn := fun _ => fun
  | [d1, d2] => { results := [.lit (.bool true)], args := [d1, d2] }
  | _ => none }
def fnLookJoinRow : OpenClaim := { program := "ytemkbheplmimoaa", sum := "91d48eb6f7da9671c0651743a05e08c8c4287802a4ca47c7d6bd8ac889543360", func := "loop.example/linkedroots/laws.FnLookJoin", spec := "fnLookJoin", unfollowed := true, recurses := true, apart := false }
def FnLookJoinSaid : Prop := fnLookJoinRow.holds Try.pinned (OpenSpec.ofChange fnLookJoinSpec)

/-- ITS FALSE NEIGHBOUR: 'it returns false'. Refute it at one input. -/
def fnLookJoinWrong : ChangeSpec := { name := "fnLookJoin", fn := fun _ => fun
  | [d1, d2] => { results := [.lit (.bool false)], args := [d1, d2] }
  | _ => none }
def FnLookJoinWrongFalsely : Prop := fnLookJoinRow.holds Try.pinned (OpenSpec.ofChange fnLookJoinWrong)

/-- 'laws.FnRootSizes': WHATEVER THE INPUT: true; the input reads as it did. -/
def fnRootSizesSpec : ChangeSpec := { name := "fnRootSizes", fn := fun _ => fun
  | [d] => { results := [.lit (.bool true)], args := [d] }
  | _ => none }
def fnRootSizesRow : OpenClaim := { program := "ytemkbheplmimoaa", sum := "91d48eb6f7da9671c0651743a05e08c8c4287802a4ca47c7d6bd8ac889543360", func := "loop.example/linkedroots/laws.FnRootSizes", spec := "fnRootSizes", unfollowed := true, recurses := true, apart := false }
def FnRootSizesSaid : Prop := fnRootSizesRow.holds Try.pinned (OpenSpec.ofChange fnRootSizesSpec)

/-- ITS FALSE NEIGHBOUR: 'it returns false'. Refute it at one input. -/
def fnRootSizesWrong : ChangeSpec := { name := "fnRootSizes", fn := fun _ => fun
  | [d] => { results := [.lit (.bool false)], args := [d] }
  | _ => none }
def FnRootSizesWrongFalsely : Prop := fnRootSizesRow.holds Try.pinned (OpenSpec.ofChange fnRootSizesWrong)

/-- 'laws.FnHalveSplit': WHATEVER THE INPUT: true; the input reads as it did. -/
def fnHalveSplitSpec : ChangeSpec := { name := "fnHalveSplit", fn := fun _ => fun
  | [d] => { results := [.lit (.bool true)], args := [d] }
  | _ => none }
def fnHalveSplitRow : OpenClaim := { program := "ytemkbheplmimoaa", sum := "91d48eb6f7da9671c0651743a05e08c8c4287802a4ca47c7d6bd8ac889543360", func := "loop.example/linkedroots/laws.FnHalveSplit", spec := "fnHalveSplit", unfollowed := true, recurses := true, apart := false }
def FnHalveSplitSaid : Prop := fnHalveSplitRow.holds Try.pinned (OpenSpec.ofChange fnHalveSplitSpec)

/-- ITS FALSE NEIGHBOUR: 'it returns false'. Refute it at one input. -/
def fnHalveSplitWrong : ChangeSpec := { name := "fnHalveSplit", fn := fun _ => fun
  | [d] => { results := [.lit (.bool false)], args := [d] }
  | _ => none }
def FnHalveSplitWrongFalsely : Prop := fnHalveSplitRow.holds Try.pinned (OpenSpec.ofChange fnHalveSplitWrong)

/-- 'laws.FnExactJoin': WHATEVER THE INPUT: true; the input reads as it did. -/
def fnExactJoinSpec : ChangeSpec := { name := "fnExactJoin", fn := fun _ => fun
  | [d1, d2, d3, d4] => { results := [.lit (.bool true)], args := [d1, d2, d3, d4] }
  | _ => none }
def fnExactJoinRow : OpenClaim := { program := "ytemkbheplmimoaa", sum := "91d48eb6f7da9671c0651743a05e08c8c4287802a4ca47c7d6bd8ac889543360", func := "loop.example/linkedroots/laws.FnExactJoin", spec := "fnExactJoin", unfollowed := true, recurses := true, apart := false }
def FnExactJoinSaid : Prop := fnExactJoinRow.holds Try.pinned (OpenSpec.ofChange fnExactJoinSpec)

/-- ITS FALSE NEIGHBOUR: 'it returns false'. Refute it at one input. -/
def fnExactJoinWrong : ChangeSpec := { name := "fnExactJoin", fn := fun _ => fun
  | [d1, d2, d3, d4] => { results := [.lit (.bool false)], args := [d1, d2, d3, d4] }
  | _ => none }
def FnExactJoinWrongFalsely : Prop := fnExactJoinRow.holds Try.pinned (OpenSpec.ofChange fnExactJoinWrong)

/-- 'laws.FnExactJoinAll': WHATEVER THE INPUT: true; the input reads as it did. -/
def fnExactJoinAllSpec : ChangeSpec := { name := "fnExactJoinAll", fn := fun _ => fun
  | [d1, d2, d3] => { results := [.lit (.bool true)], args := [d1, d2, d3] }
  | _ => none }
def fnExactJoinAllRow : OpenClaim := { program := "ytemkbheplmimoaa", sum := "91d48eb6f7da9671c0651743a05e08c8c4287802a4ca47c7d6bd8ac889543360", func := "loop.example/linkedroots/laws.FnExactJoinAll", spec := "fnExactJoinAll", unfollowed := true, recurses := true, apart := false }
def FnExactJoinAllSaid : Prop := fnExactJoinAllRow.holds Try.pinned (OpenSpec.ofChange fnExactJoinAllSpec)

/-- ITS FALSE NEIGHBOUR: 'it returns false'. Refute it at one input. -/
def fnExactJoinAllWrong : ChangeSpec := { name := "fnExactJoinAll", fn := fun _ => fun
  | [d1, d2, d3] => { results := [.lit (.bool false)], args := [d1, d2, d3] }
  | _ => none }
def FnExactJoinAllWrongFalsely : Prop := fnExactJoinAllRow.holds Try.pinned (OpenSpec.ofChange fnExactJoinAllWrong)

/-- 'laws.FnExactUsefulPairs': WHATEVER THE INPUT: true; the input reads as it did. -/
def fnExactUsefulPairsSpec : ChangeSpec := { name := "fnExactUsefulPairs", fn := fun _ => fun
  | [d1, d2] => { results := [.lit (.bool true)], args := [d1, d2] }
  | _ => none }
def fnExactUsefulPairsRow : OpenClaim := { program := "ytemkbheplmimoaa", sum := "91d48eb6f7da9671c0651743a05e08c8c4287802a4ca47c7d6bd8ac889543360", func := "loop.example/linkedroots/laws.FnExactUsefulPairs", spec := "fnExactUsefulPairs", unfollowed := true, recurses := true, apart := false }
def FnExactUsefulPairsSaid : Prop := fnExactUsefulPairsRow.holds Try.pinned (OpenSpec.ofChange fnExactUsefulPairsSpec)

/-- ITS FALSE NEIGHBOUR: 'it returns false'. Refute it at one input. -/
def fnExactUsefulPairsWrong : ChangeSpec := { name := "fnExactUsefulPairs", fn := fun _ => fun
  | [d1, d2] => { results := [.lit (.bool false)], args := [d1, d2] }
  | _ => none }
def FnExactUsefulPairsWrongFalsely : Prop := fnExactUsefulPairsRow.holds Try.pinned (OpenSpec.ofChange fnExactUsefulPairsWrong)

/-- 'laws.FnExactCountClasses': WHATEVER THE INPUT: true; the input reads as it did. -/
def fnExactCountClassesSpec : ChangeSpec := { name := "fnExactCountClasses", fn := fun _ => fun
  | [d1, d2] => { results := [.lit (.bool true)], args := [d1, d2] }
  | _ => none }
def fnExactCountClassesRow : OpenClaim := { program := "ytemkbheplmimoaa", sum := "91d48eb6f7da9671c0651743a05e08c8c4287802a4ca47c7d6bd8ac889543360", func := "loop.example/linkedroots/laws.FnExactCountClasses", spec := "fnExactCountClasses", unfollowed := true, recurses := true, apart := false }
def FnExactCountClassesSaid : Prop := fnExactCountClassesRow.holds Try.pinned (OpenSpec.ofChange fnExactCountClassesSpec)

/-- ITS FALSE NEIGHBOUR: 'it returns false'. Refute it at one input. -/
def fnExactCountClassesWrong : ChangeSpec := { name := "fnExactCountClasses", fn := fun _ => fun
  | [d1, d2] => { results := [.lit (.bool false)], args := [d1, d2] }
  | _ => none }
def FnExactCountClassesWrongFalsely : Prop := fnExactCountClassesRow.holds Try.pinned (OpenSpec.ofChange fnExactCountClassesWrong)

/-- 'laws.FnExactLookUp': WHATEVER THE INPUT: true; the input reads as it did. -/
def fnExactLookUpSpec : ChangeSpec := { name := "fnExactLookUp", fn := fun _ => fun
  | [d1, d2, d3] => { results := [.lit (.bool true)], args := [d1, d2, d3] }
  | _ => none }
def fnExactLookUpRow : OpenClaim := { program := "ytemkbheplmimoaa", sum := "91d48eb6f7da9671c0651743a05e08c8c4287802a4ca47c7d6bd8ac889543360", func := "loop.example/linkedroots/laws.FnExactLookUp", spec := "fnExactLookUp", unfollowed := true, recurses := true, apart := false }
def FnExactLookUpSaid : Prop := fnExactLookUpRow.holds Try.pinned (OpenSpec.ofChange fnExactLookUpSpec)

/-- ITS FALSE NEIGHBOUR: 'it returns false'. Refute it at one input. -/
def fnExactLookUpWrong : ChangeSpec := { name := "fnExactLookUp", fn := fun _ => fun
  | [d1, d2, d3] => { results := [.lit (.bool false)], args := [d1, d2, d3] }
  | _ => none }
def FnExactLookUpWrongFalsely : Prop := fnExactLookUpRow.holds Try.pinned (OpenSpec.ofChange fnExactLookUpWrong)

/-- 'laws.FnExactLookAll': WHATEVER THE INPUT: true; the input reads as it did. -/
def fnExactLookAllSpec : ChangeSpec := { name := "fnExactLookAll", fn := fun _ => fun
  | [d1, d2, d3] => { results := [.lit (.bool true)], args := [d1, d2, d3] }
  | _ => none }
def fnExactLookAllRow : OpenClaim := { program := "ytemkbheplmimoaa", sum := "91d48eb6f7da9671c0651743a05e08c8c4287802a4ca47c7d6bd8ac889543360", func := "loop.example/linkedroots/laws.FnExactLookAll", spec := "fnExactLookAll", unfollowed := true, recurses := true, apart := false }
def FnExactLookAllSaid : Prop := fnExactLookAllRow.holds Try.pinned (OpenSpec.ofChange fnExactLookAllSpec)

/-- ITS FALSE NEIGHBOUR: 'it returns false'. Refute it at one input. -/
def fnExactLookAllWrong : ChangeSpec := { name := "fnExactLookAll", fn := fun _ => fun
  | [d1, d2, d3] => { results := [.lit (.bool false)], args := [d1, d2, d3] }
  | _ => none }
def FnExactLookAllWrongFalsely : Prop := fnExactLookAllRow.holds Try.pinned (OpenSpec.ofChange fnExactLookAllWrong)

/-- 'laws.FnExactStepsUp': WHATEVER THE INPUT: true; the input reads as it did. -/
def fnExactStepsUpSpec : ChangeSpec := { name := "fnExactStepsUp", fn := fun _ => fun
  | [d1, d2, d3] => { results := [.lit (.bool true)], args := [d1, d2, d3] }
  | _ => none }
def fnExactStepsUpRow : OpenClaim := { program := "ytemkbheplmimoaa", sum := "91d48eb6f7da9671c0651743a05e08c8c4287802a4ca47c7d6bd8ac889543360", func := "loop.example/linkedroots/laws.FnExactStepsUp", spec := "fnExactStepsUp", unfollowed := true, recurses := true, apart := false }
def FnExactStepsUpSaid : Prop := fnExactStepsUpRow.holds Try.pinned (OpenSpec.ofChange fnExactStepsUpSpec)

/-- ITS FALSE NEIGHBOUR: 'it returns false'. Refute it at one input. -/
def fnExactStepsUpWrong : ChangeSpec := { name := "fnExactStepsUp", fn := fun _ => fun
  | [d1, d2, d3] => { results := [.lit (.bool false)], args := [d1, d2, d3] }
  | _ => none }
def FnExactStepsUpWrongFalsely : Prop := fnExactStepsUpRow.holds Try.pinned (OpenSpec.ofChange fnExactStepsUpWrong)

/-- 'laws.FnExactTotalUp': WHATEVER THE INPUT: true; the input reads as it did. -/
def fnExactTotalUpSpec : ChangeSpec := { name := "fnExactTotalUp", fn := fun _ => fun
  | [d1, d2, d3] => { results := [.lit (.bool true)], args := [d1, d2, d3] }
  | _ => none }
def fnExactTotalUpRow : OpenClaim := { program := "ytemkbheplmimoaa", sum := "91d48eb6f7da9671c0651743a05e08c8c4287802a4ca47c7d6bd8ac889543360", func := "loop.example/linkedroots/laws.FnExactTotalUp", spec := "fnExactTotalUp", unfollowed := true, recurses := true, apart := false }
def FnExactTotalUpSaid : Prop := fnExactTotalUpRow.holds Try.pinned (OpenSpec.ofChange fnExactTotalUpSpec)

/-- ITS FALSE NEIGHBOUR: 'it returns false'. Refute it at one input. -/
def fnExactTotalUpWrong : ChangeSpec := { name := "fnExactTotalUp", fn := fun _ => fun
  | [d1, d2, d3] => { results := [.lit (.bool false)], args := [d1, d2, d3] }
  | _ => none }
def FnExactTotalUpWrongFalsely : Prop := fnExactTotalUpRow.holds Try.pinned (OpenSpec.ofChange fnExactTotalUpWrong)

/-- 'laws.FnExactFlatForest': WHATEVER THE INPUT: true; the input reads as it did. -/
def fnExactFlatForestSpec : ChangeSpec := { name := "fnExactFlatForest", fn := fun _ => fun
  | [d] => { results := [.lit (.bool true)], args := [d] }
  | _ => none }
def fnExactFlatForestRow : OpenClaim := { program := "ytemkbheplmimoaa", sum := "91d48eb6f7da9671c0651743a05e08c8c4287802a4ca47c7d6bd8ac889543360", func := "loop.example/linkedroots/laws.FnExactFlatForest", spec := "fnExactFlatForest", unfollowed := true, recurses := true, apart := false }
def FnExactFlatForestSaid : Prop := fnExactFlatForestRow.holds Try.pinned (OpenSpec.ofChange fnExactFlatForestSpec)

/-- ITS FALSE NEIGHBOUR: 'it returns false'. Refute it at one input. -/
def fnExactFlatForestWrong : ChangeSpec := { name := "fnExactFlatForest", fn := fun _ => fun
  | [d] => { results := [.lit (.bool false)], args := [d] }
  | _ => none }
def FnExactFlatForestWrongFalsely : Prop := fnExactFlatForestRow.holds Try.pinned (OpenSpec.ofChange fnExactFlatForestWrong)

/-- 'laws.FnExactLooksToFlat': WHATEVER THE INPUT: true; the input reads as it did. -/
def fnExactLooksToFlatSpec : ChangeSpec := { name := "fnExactLooksToFlat", fn := fun _ => fun
  | [d1, d2, d3] => { results := [.lit (.bool true)], args := [d1, d2, d3] }
  | _ => none }
def fnExactLooksToFlatRow : OpenClaim := { program := "ytemkbheplmimoaa", sum := "91d48eb6f7da9671c0651743a05e08c8c4287802a4ca47c7d6bd8ac889543360", func := "loop.example/linkedroots/laws.FnExactLooksToFlat", spec := "fnExactLooksToFlat", unfollowed := true, recurses := true, apart := false }
def FnExactLooksToFlatSaid : Prop := fnExactLooksToFlatRow.holds Try.pinned (OpenSpec.ofChange fnExactLooksToFlatSpec)

/-- ITS FALSE NEIGHBOUR: 'it returns false'. Refute it at one input. -/
def fnExactLooksToFlatWrong : ChangeSpec := { name := "fnExactLooksToFlat", fn := fun _ => fun
  | [d1, d2, d3] => { results := [.lit (.bool false)], args := [d1, d2, d3] }
  | _ => none }
def FnExactLooksToFlatWrongFalsely : Prop := fnExactLooksToFlatRow.holds Try.pinned (OpenSpec.ofChange fnExactLooksToFlatWrong)

/- THE SECOND FORM. 'bulk': how many values and letters a reading holds, each counted each time it is reached (what is shared counts as often as it is met; a slice's spare places count too). A statement '..UptoSaid' is the law's where the arguments, and the package variables that the reading takes, are together of bulk at most 1048576: NARROWER than '..Said'. Prove '..Said' where nothing that the law and all that it calls make is longer than what came in: it says more and counts as full. Else prove '..UptoSaid'. A law counts once. -/
mutual
def uptoBulk {H : Type} : DataW H → Nat
  | .lit (.string bytes) => bytes.length + 1
  | .lit _ => 1
  | .nil => 1
  | .ptr d => uptoBulk d + 1
  | .slice elems spare => uptoBulkAll elems + uptoBulkAll spare + 1
  | .agg parts => uptoBulkAll parts + 1
  | .iface _ d => uptoBulk d + 1
  | .map entries => uptoBulkEntries entries + 1
  | .held _ => 1
def uptoBulkAll {H : Type} : List (DataW H) → Nat
  | [] => 0
  | d :: r => uptoBulk d + uptoBulkAll r
def uptoBulkEntries {H : Type} : List (Lit × DataW H) → Nat
  | [] => 0
  | x :: r => uptoBulkEntry x + uptoBulkEntries r
def uptoBulkEntry {H : Type} : Lit × DataW H → Nat
  | (.string bytes, d) => bytes.length + uptoBulk d + 1
  | (_, d) => uptoBulk d + 1
 end
def uptoSmall : (H : Type) → List (DataW H) → Bool := fun _ ds => decide (uptoBulkAll ds ≤ 1048576)
def OpenSpec.upto (s : _root_.Go.ChangeSpec) : _root_.Go.OpenSpec := { _root_.Go.OpenSpec.ofChange s with cond := some uptoSmall }

/-- 'laws.FnJoin', WHERE WHAT IT READS IS OF BULK AT MOST 1048576: true; the input reads as it did. -/
def fnJoinUptoRow : OpenClaim := { program := "ytemkbheplmimoaa", sum := "91d48eb6f7da9671c0651743a05e08c8c4287802a4ca47c7d6bd8ac889543360", func := "loop.example/linkedroots/laws.FnJoin", spec := "fnJoin", unfollowed := true, recurses := true, apart := false, narrowed := true }
def FnJoinUptoSaid : Prop := fnJoinUptoRow.holds Try.pinned (OpenSpec.upto fnJoinSpec)

/-- 'laws.FnAnyRule', WHERE WHAT IT READS IS OF BULK AT MOST 1048576: true; the input reads as it did. -/
def fnAnyRuleUptoRow : OpenClaim := { program := "ytemkbheplmimoaa", sum := "91d48eb6f7da9671c0651743a05e08c8c4287802a4ca47c7d6bd8ac889543360", func := "loop.example/linkedroots/laws.FnAnyRule", spec := "fnAnyRule", unfollowed := true, recurses := true, apart := false, narrowed := true }
def FnAnyRuleUptoSaid : Prop := fnAnyRuleUptoRow.holds Try.pinned (OpenSpec.upto fnAnyRuleSpec)

/-- 'laws.FnShallow', WHERE WHAT IT READS IS OF BULK AT MOST 1048576: true; the input reads as it did. -/
def fnShallowUptoRow : OpenClaim := { program := "ytemkbheplmimoaa", sum := "91d48eb6f7da9671c0651743a05e08c8c4287802a4ca47c7d6bd8ac889543360", func := "loop.example/linkedroots/laws.FnShallow", spec := "fnShallow", unfollowed := true, recurses := true, apart := false, narrowed := true }
def FnShallowUptoSaid : Prop := fnShallowUptoRow.holds Try.pinned (OpenSpec.upto fnShallowSpec)

/-- 'laws.FnUseful', WHERE WHAT IT READS IS OF BULK AT MOST 1048576: true; the input reads as it did. -/
def fnUsefulUptoRow : OpenClaim := { program := "ytemkbheplmimoaa", sum := "91d48eb6f7da9671c0651743a05e08c8c4287802a4ca47c7d6bd8ac889543360", func := "loop.example/linkedroots/laws.FnUseful", spec := "fnUseful", unfollowed := true, recurses := true, apart := false, narrowed := true }
def FnUsefulUptoSaid : Prop := fnUsefulUptoRow.holds Try.pinned (OpenSpec.upto fnUsefulSpec)

/-- 'laws.FnTwice', WHERE WHAT IT READS IS OF BULK AT MOST 1048576: true; the input reads as it did. -/
def fnTwiceUptoRow : OpenClaim := { program := "ytemkbheplmimoaa", sum := "91d48eb6f7da9671c0651743a05e08c8c4287802a4ca47c7d6bd8ac889543360", func := "loop.example/linkedroots/laws.FnTwice", spec := "fnTwice", unfollowed := true, recurses := true, apart := false, narrowed := true }
def FnTwiceUptoSaid : Prop := fnTwiceUptoRow.holds Try.pinned (OpenSpec.upto fnTwiceSpec)

/-- 'laws.FnParts', WHERE WHAT IT READS IS OF BULK AT MOST 1048576: true; the input reads as it did. -/
def fnPartsUptoRow : OpenClaim := { program := "ytemkbheplmimoaa", sum := "91d48eb6f7da9671c0651743a05e08c8c4287802a4ca47c7d6bd8ac889543360", func := "loop.example/linkedroots/laws.FnParts", spec := "fnParts", unfollowed := true, recurses := true, apart := false, narrowed := true }
def FnPartsUptoSaid : Prop := fnPartsUptoRow.holds Try.pinned (OpenSpec.upto fnPartsSpec)

/-- 'laws.FnEither', WHERE WHAT IT READS IS OF BULK AT MOST 1048576: true; the input reads as it did. -/
def fnEitherUptoRow : OpenClaim := { program := "ytemkbheplmimoaa", sum := "91d48eb6f7da9671c0651743a05e08c8c4287802a4ca47c7d6bd8ac889543360", func := "loop.example/linkedroots/laws.FnEither", spec := "fnEither", unfollowed := true, recurses := true, apart := false, narrowed := true }
def FnEitherUptoSaid : Prop := fnEitherUptoRow.holds Try.pinned (OpenSpec.upto fnEitherSpec)

/-- 'laws.FnAnyOrder', WHERE WHAT IT READS IS OF BULK AT MOST 1048576: true; the input reads as it did. -/
def fnAnyOrderUptoRow : OpenClaim := { program := "ytemkbheplmimoaa", sum := "91d48eb6f7da9671c0651743a05e08c8c4287802a4ca47c7d6bd8ac889543360", func := "loop.example/linkedroots/laws.FnAnyOrder", spec := "fnAnyOrder", unfollowed := true, recurses := true, apart := false, narrowed := true }
def FnAnyOrderUptoSaid : Prop := fnAnyOrderUptoRow.holds Try.pinned (OpenSpec.upto fnAnyOrderSpec)

/-- 'laws.FnLook', WHERE WHAT IT READS IS OF BULK AT MOST 1048576: true; the input reads as it did. -/
def fnLookUptoRow : OpenClaim := { program := "ytemkbheplmimoaa", sum := "91d48eb6f7da9671c0651743a05e08c8c4287802a4ca47c7d6bd8ac889543360", func := "loop.example/linkedroots/laws.FnLook", spec := "fnLook", unfollowed := true, recurses := true, apart := false, narrowed := true }
def FnLookUptoSaid : Prop := fnLookUptoRow.holds Try.pinned (OpenSpec.upto fnLookSpec)

/-- 'laws.FnSteps', WHERE WHAT IT READS IS OF BULK AT MOST 1048576: true; the input reads as it did. -/
def fnStepsUptoRow : OpenClaim := { program := "ytemkbheplmimoaa", sum := "91d48eb6f7da9671c0651743a05e08c8c4287802a4ca47c7d6bd8ac889543360", func := "loop.example/linkedroots/laws.FnSteps", spec := "fnSteps", unfollowed := true, recurses := true, apart := false, narrowed := true }
def FnStepsUptoSaid : Prop := fnStepsUptoRow.holds Try.pinned (OpenSpec.upto fnStepsSpec)

/-- 'laws.FnLookAll', WHERE WHAT IT READS IS OF BULK AT MOST 1048576: true; the input reads as it did. -/
def fnLookAllUptoRow : OpenClaim := { program := "ytemkbheplmimoaa", sum := "91d48eb6f7da9671c0651743a05e08c8c4287802a4ca47c7d6bd8ac889543360", func := "loop.example/linkedroots/laws.FnLookAll", spec := "fnLookAll", unfollowed := true, recurses := true, apart := false, narrowed := true }
def FnLookAllUptoSaid : Prop := fnLookAllUptoRow.holds Try.pinned (OpenSpec.upto fnLookAllSpec)

/-- 'laws.FnFlat', WHERE WHAT IT READS IS OF BULK AT MOST 1048576: true; the input reads as it did. -/
def fnFlatUptoRow : OpenClaim := { program := "ytemkbheplmimoaa", sum := "91d48eb6f7da9671c0651743a05e08c8c4287802a4ca47c7d6bd8ac889543360", func := "loop.example/linkedroots/laws.FnFlat", spec := "fnFlat", unfollowed := true, recurses := true, apart := false, narrowed := true }
def FnFlatUptoSaid : Prop := fnFlatUptoRow.holds Try.pinned (OpenSpec.upto fnFlatSpec)

/-- 'laws.FnLooksToFlat', WHERE WHAT IT READS IS OF BULK AT MOST 1048576: true; the input reads as it did. -/
def fnLooksToFlatUptoRow : OpenClaim := { program := "ytemkbheplmimoaa", sum := "91d48eb6f7da9671c0651743a05e08c8c4287802a4ca47c7d6bd8ac889543360", func := "loop.example/linkedroots/laws.FnLooksToFlat", spec := "fnLooksToFlat", unfollowed := true, recurses := true, apart := false, narrowed := true }
def FnLooksToFlatUptoSaid : Prop := fnLooksToFlatUptoRow.holds Try.pinned (OpenSpec.upto fnLooksToFlatSpec)

/-- 'laws.FnLookJoin', WHERE WHAT IT READS IS OF BULK AT MOST 1048576: true; the input reads as it did. -/
def fnLookJoinUptoRow : OpenClaim := { program := "ytemkbheplmimoaa", sum := "91d48eb6f7da9671c0651743a05e08c8c4287802a4ca47c7d6bd8ac889543360", func := "loop.example/linkedroots/laws.FnLookJoin", spec := "fnLookJoin", unfollowed := true, recurses := true, apart := false, narrowed := true }
def FnLookJoinUptoSaid : Prop := fnLookJoinUptoRow.holds Try.pinned (OpenSpec.upto fnLookJoinSpec)

/-- 'laws.FnRootSizes', WHERE WHAT IT READS IS OF BULK AT MOST 1048576: true; the input reads as it did. -/
def fnRootSizesUptoRow : OpenClaim := { program := "ytemkbheplmimoaa", sum := "91d48eb6f7da9671c0651743a05e08c8c4287802a4ca47c7d6bd8ac889543360", func := "loop.example/linkedroots/laws.FnRootSizes", spec := "fnRootSizes", unfollowed := true, recurses := true, apart := false, narrowed := true }
def FnRootSizesUptoSaid : Prop := fnRootSizesUptoRow.holds Try.pinned (OpenSpec.upto fnRootSizesSpec)

/-- 'laws.FnHalveSplit', WHERE WHAT IT READS IS OF BULK AT MOST 1048576: true; the input reads as it did. -/
def fnHalveSplitUptoRow : OpenClaim := { program := "ytemkbheplmimoaa", sum := "91d48eb6f7da9671c0651743a05e08c8c4287802a4ca47c7d6bd8ac889543360", func := "loop.example/linkedroots/laws.FnHalveSplit", spec := "fnHalveSplit", unfollowed := true, recurses := true, apart := false, narrowed := true }
def FnHalveSplitUptoSaid : Prop := fnHalveSplitUptoRow.holds Try.pinned (OpenSpec.upto fnHalveSplitSpec)

/-- 'laws.FnExactJoin', WHERE WHAT IT READS IS OF BULK AT MOST 1048576: true; the input reads as it did. -/
def fnExactJoinUptoRow : OpenClaim := { program := "ytemkbheplmimoaa", sum := "91d48eb6f7da9671c0651743a05e08c8c4287802a4ca47c7d6bd8ac889543360", func := "loop.example/linkedroots/laws.FnExactJoin", spec := "fnExactJoin", unfollowed := true, recurses := true, apart := false, narrowed := true }
def FnExactJoinUptoSaid : Prop := fnExactJoinUptoRow.holds Try.pinned (OpenSpec.upto fnExactJoinSpec)

/-- 'laws.FnExactJoinAll', WHERE WHAT IT READS IS OF BULK AT MOST 1048576: true; the input reads as it did. -/
def fnExactJoinAllUptoRow : OpenClaim := { program := "ytemkbheplmimoaa", sum := "91d48eb6f7da9671c0651743a05e08c8c4287802a4ca47c7d6bd8ac889543360", func := "loop.example/linkedroots/laws.FnExactJoinAll", spec := "fnExactJoinAll", unfollowed := true, recurses := true, apart := false, narrowed := true }
def FnExactJoinAllUptoSaid : Prop := fnExactJoinAllUptoRow.holds Try.pinned (OpenSpec.upto fnExactJoinAllSpec)

/-- 'laws.FnExactUsefulPairs', WHERE WHAT IT READS IS OF BULK AT MOST 1048576: true; the input reads as it did. -/
def fnExactUsefulPairsUptoRow : OpenClaim := { program := "ytemkbheplmimoaa", sum := "91d48eb6f7da9671c0651743a05e08c8c4287802a4ca47c7d6bd8ac889543360", func := "loop.example/linkedroots/laws.FnExactUsefulPairs", spec := "fnExactUsefulPairs", unfollowed := true, recurses := true, apart := false, narrowed := true }
def FnExactUsefulPairsUptoSaid : Prop := fnExactUsefulPairsUptoRow.holds Try.pinned (OpenSpec.upto fnExactUsefulPairsSpec)

/-- 'laws.FnExactCountClasses', WHERE WHAT IT READS IS OF BULK AT MOST 1048576: true; the input reads as it did. -/
def fnExactCountClassesUptoRow : OpenClaim := { program := "ytemkbheplmimoaa", sum := "91d48eb6f7da9671c0651743a05e08c8c4287802a4ca47c7d6bd8ac889543360", func := "loop.example/linkedroots/laws.FnExactCountClasses", spec := "fnExactCountClasses", unfollowed := true, recurses := true, apart := false, narrowed := true }
def FnExactCountClassesUptoSaid : Prop := fnExactCountClassesUptoRow.holds Try.pinned (OpenSpec.upto fnExactCountClassesSpec)

/-- 'laws.FnExactLookUp', WHERE WHAT IT READS IS OF BULK AT MOST 1048576: true; the input reads as it did. -/
def fnExactLookUpUptoRow : OpenClaim := { program := "ytemkbheplmimoaa", sum := "91d48eb6f7da9671c0651743a05e08c8c4287802a4ca47c7d6bd8ac889543360", func := "loop.example/linkedroots/laws.FnExactLookUp", spec := "fnExactLookUp", unfollowed := true, recurses := true, apart := false, narrowed := true }
def FnExactLookUpUptoSaid : Prop := fnExactLookUpUptoRow.holds Try.pinned (OpenSpec.upto fnExactLookUpSpec)

/-- 'laws.FnExactLookAll', WHERE WHAT IT READS IS OF BULK AT MOST 1048576: true; the input reads as it did. -/
def fnExactLookAllUptoRow : OpenClaim := { program := "ytemkbheplmimoaa", sum := "91d48eb6f7da9671c0651743a05e08c8c4287802a4ca47c7d6bd8ac889543360", func := "loop.example/linkedroots/laws.FnExactLookAll", spec := "fnExactLookAll", unfollowed := true, recurses := true, apart := false, narrowed := true }
def FnExactLookAllUptoSaid : Prop := fnExactLookAllUptoRow.holds Try.pinned (OpenSpec.upto fnExactLookAllSpec)

/-- 'laws.FnExactStepsUp', WHERE WHAT IT READS IS OF BULK AT MOST 1048576: true; the input reads as it did. -/
def fnExactStepsUpUptoRow : OpenClaim := { program := "ytemkbheplmimoaa", sum := "91d48eb6f7da9671c0651743a05e08c8c4287802a4ca47c7d6bd8ac889543360", func := "loop.example/linkedroots/laws.FnExactStepsUp", spec := "fnExactStepsUp", unfollowed := true, recurses := true, apart := false, narrowed := true }
def FnExactStepsUpUptoSaid : Prop := fnExactStepsUpUptoRow.holds Try.pinned (OpenSpec.upto fnExactStepsUpSpec)

/-- 'laws.FnExactTotalUp', WHERE WHAT IT READS IS OF BULK AT MOST 1048576: true; the input reads as it did. -/
def fnExactTotalUpUptoRow : OpenClaim := { program := "ytemkbheplmimoaa", sum := "91d48eb6f7da9671c0651743a05e08c8c4287802a4ca47c7d6bd8ac889543360", func := "loop.example/linkedroots/laws.FnExactTotalUp", spec := "fnExactTotalUp", unfollowed := true, recurses := true, apart := false, narrowed := true }
def FnExactTotalUpUptoSaid : Prop := fnExactTotalUpUptoRow.holds Try.pinned (OpenSpec.upto fnExactTotalUpSpec)

/-- 'laws.FnExactFlatForest', WHERE WHAT IT READS IS OF BULK AT MOST 1048576: true; the input reads as it did. -/
def fnExactFlatForestUptoRow : OpenClaim := { program := "ytemkbheplmimoaa", sum := "91d48eb6f7da9671c0651743a05e08c8c4287802a4ca47c7d6bd8ac889543360", func := "loop.example/linkedroots/laws.FnExactFlatForest", spec := "fnExactFlatForest", unfollowed := true, recurses := true, apart := false, narrowed := true }
def FnExactFlatForestUptoSaid : Prop := fnExactFlatForestUptoRow.holds Try.pinned (OpenSpec.upto fnExactFlatForestSpec)

/-- 'laws.FnExactLooksToFlat', WHERE WHAT IT READS IS OF BULK AT MOST 1048576: true; the input reads as it did. -/
def fnExactLooksToFlatUptoRow : OpenClaim := { program := "ytemkbheplmimoaa", sum := "91d48eb6f7da9671c0651743a05e08c8c4287802a4ca47c7d6bd8ac889543360", func := "loop.example/linkedroots/laws.FnExactLooksToFlat", spec := "fnExactLooksToFlat", unfollowed := true, recurses := true, apart := false, narrowed := true }
def FnExactLooksToFlatUptoSaid : Prop := fnExactLooksToFlatUptoRow.holds Try.pinned (OpenSpec.upto fnExactLooksToFlatSpec)

end Rows
end Go.Proofs.Ytemkbheplmimoaa
