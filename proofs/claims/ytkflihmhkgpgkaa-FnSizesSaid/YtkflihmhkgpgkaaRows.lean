/-
  No cell of these rows narrows 'for every input' (looked for: loops, veiled, ifaces, maps, wideKeys, modest, calm, conditions, laid).
  DERIVED. THE GIVEN ROWS OF THIS SEAT. 22 by the template 'for every input the law returns true; each argument reads behind the call as it read before'; 0 by the template 'total and deterministic' (their statements: YtkflihmhkgpgkaaTotals.lean).
  GIVEN WITH THE SEED: the statements are not yours to turn. If you find one false, say at which input.
  Laid BY PROGRAM, IN A SANDBOX (cutbox-rows.mjs): the forced cells as the released guide's own fill.sh prints them over the translation 52658c0f9529ed51… (all of the seat's roots in one cut). By AI agents, Wed Nov 11 2026. No macro, syntax, notation, axiom, sorry.
-/
import Derived.Test.YtkflihmhkgpgkaaChecked
import GoSem.Claim
import GoSem.ClaimJoined
import GoSem.ClaimMapViews
import Derived.JoinedTies
import Derived.KernelRfl
namespace Go.Proofs.Ytkflihmhkgpgkaa
/- THE CELL 'sum', in the pinned program and in every row, IS THE sha256 OF THE DUMP (.gsa) THAT YtkflihmhkgpgkaaProg.lean LOADS. Nothing in Lean hashes anything: it is a label: what it is worth is what the hold of that sum in a sandbox is worth. -/
noncomputable def Try.pinned : Pinned := { name := "ytkflihmhkgpgkaa", sum := "52658c0f9529ed51cc7650cc949088f36b9e52eaed8da6c24fe6eacf5145a316", checked := Try.checked }
namespace Rows
def none {H : Type} : Left H := { results := [], args := [] }

/-- 'laws.FnClasses': WHATEVER THE INPUT: true; the input reads as it did. -/
def fnClassesSpec : ChangeSpec := { name := "fnClasses", fn := fun _ => fun
  | [d1, d2] => { results := [.lit (.bool true)], args := [d1, d2] }
  | _ => none }
def fnClassesRow : OpenClaim := { program := "ytkflihmhkgpgkaa", sum := "52658c0f9529ed51cc7650cc949088f36b9e52eaed8da6c24fe6eacf5145a316", func := "loop.example/linkedroots/laws.FnClasses", spec := "fnClasses", unfollowed := true, recurses := true, apart := false }
def FnClassesSaid : Prop := fnClassesRow.holds Try.pinned (OpenSpec.ofChange fnClassesSpec)

/-- ITS FALSE NEIGHBOUR: 'it returns false'. Refute it at one input. -/
def fnClassesWrong : ChangeSpec := { name := "fnClasses", fn := fun _ => fun
  | [d1, d2] => { results := [.lit (.bool false)], args := [d1, d2] }
  | _ => none }
def FnClassesWrongFalsely : Prop := fnClassesRow.holds Try.pinned (OpenSpec.ofChange fnClassesWrong)

/-- 'laws.FnSameClasses': WHATEVER THE INPUT: true; the input reads as it did. -/
def fnSameClassesSpec : ChangeSpec := { name := "fnSameClasses", fn := fun _ => fun
  | [d1, d2] => { results := [.lit (.bool true)], args := [d1, d2] }
  | _ => none }
def fnSameClassesRow : OpenClaim := { program := "ytkflihmhkgpgkaa", sum := "52658c0f9529ed51cc7650cc949088f36b9e52eaed8da6c24fe6eacf5145a316", func := "loop.example/linkedroots/laws.FnSameClasses", spec := "fnSameClasses", unfollowed := true, recurses := true, apart := false }
def FnSameClassesSaid : Prop := fnSameClassesRow.holds Try.pinned (OpenSpec.ofChange fnSameClassesSpec)

/-- ITS FALSE NEIGHBOUR: 'it returns false'. Refute it at one input. -/
def fnSameClassesWrong : ChangeSpec := { name := "fnSameClasses", fn := fun _ => fun
  | [d1, d2] => { results := [.lit (.bool false)], args := [d1, d2] }
  | _ => none }
def FnSameClassesWrongFalsely : Prop := fnSameClassesRow.holds Try.pinned (OpenSpec.ofChange fnSameClassesWrong)

/-- 'laws.FnSkip': WHATEVER THE INPUT: true; the input reads as it did. -/
def fnSkipSpec : ChangeSpec := { name := "fnSkip", fn := fun _ => fun
  | [d] => { results := [.lit (.bool true)], args := [d] }
  | _ => none }
def fnSkipRow : OpenClaim := { program := "ytkflihmhkgpgkaa", sum := "52658c0f9529ed51cc7650cc949088f36b9e52eaed8da6c24fe6eacf5145a316", func := "loop.example/linkedroots/laws.FnSkip", spec := "fnSkip", unfollowed := true, recurses := true, apart := false }
def FnSkipSaid : Prop := fnSkipRow.holds Try.pinned (OpenSpec.ofChange fnSkipSpec)

/-- ITS FALSE NEIGHBOUR: 'it returns false'. Refute it at one input. -/
def fnSkipWrong : ChangeSpec := { name := "fnSkip", fn := fun _ => fun
  | [d] => { results := [.lit (.bool false)], args := [d] }
  | _ => none }
def FnSkipWrongFalsely : Prop := fnSkipRow.holds Try.pinned (OpenSpec.ofChange fnSkipWrong)

/-- 'laws.FnSquares': WHATEVER THE INPUT: true; the input reads as it did. -/
def fnSquaresSpec : ChangeSpec := { name := "fnSquares", fn := fun _ => fun
  | [d] => { results := [.lit (.bool true)], args := [d] }
  | _ => none }
def fnSquaresRow : OpenClaim := { program := "ytkflihmhkgpgkaa", sum := "52658c0f9529ed51cc7650cc949088f36b9e52eaed8da6c24fe6eacf5145a316", func := "loop.example/linkedroots/laws.FnSquares", spec := "fnSquares", unfollowed := true, recurses := true, apart := false }
def FnSquaresSaid : Prop := fnSquaresRow.holds Try.pinned (OpenSpec.ofChange fnSquaresSpec)

/-- ITS FALSE NEIGHBOUR: 'it returns false'. Refute it at one input. -/
def fnSquaresWrong : ChangeSpec := { name := "fnSquares", fn := fun _ => fun
  | [d] => { results := [.lit (.bool false)], args := [d] }
  | _ => none }
def FnSquaresWrongFalsely : Prop := fnSquaresRow.holds Try.pinned (OpenSpec.ofChange fnSquaresWrong)

/-- 'laws.FnHang': WHATEVER THE INPUT: true; the input reads as it did. -/
def fnHangSpec : ChangeSpec := { name := "fnHang", fn := fun _ => fun
  | [d] => { results := [.lit (.bool true)], args := [d] }
  | _ => none }
def fnHangRow : OpenClaim := { program := "ytkflihmhkgpgkaa", sum := "52658c0f9529ed51cc7650cc949088f36b9e52eaed8da6c24fe6eacf5145a316", func := "loop.example/linkedroots/laws.FnHang", spec := "fnHang", unfollowed := true, recurses := true, apart := false }
def FnHangSaid : Prop := fnHangRow.holds Try.pinned (OpenSpec.ofChange fnHangSpec)

/-- ITS FALSE NEIGHBOUR: 'it returns false'. Refute it at one input. -/
def fnHangWrong : ChangeSpec := { name := "fnHang", fn := fun _ => fun
  | [d] => { results := [.lit (.bool false)], args := [d] }
  | _ => none }
def FnHangWrongFalsely : Prop := fnHangRow.holds Try.pinned (OpenSpec.ofChange fnHangWrong)

/-- 'laws.FnJoin': WHATEVER THE INPUT: true; the input reads as it did. -/
def fnJoinSpec : ChangeSpec := { name := "fnJoin", fn := fun _ => fun
  | [d] => { results := [.lit (.bool true)], args := [d] }
  | _ => none }
def fnJoinRow : OpenClaim := { program := "ytkflihmhkgpgkaa", sum := "52658c0f9529ed51cc7650cc949088f36b9e52eaed8da6c24fe6eacf5145a316", func := "loop.example/linkedroots/laws.FnJoin", spec := "fnJoin", unfollowed := true, recurses := true, apart := false }
def FnJoinSaid : Prop := fnJoinRow.holds Try.pinned (OpenSpec.ofChange fnJoinSpec)

/-- ITS FALSE NEIGHBOUR: 'it returns false'. Refute it at one input. -/
def fnJoinWrong : ChangeSpec := { name := "fnJoin", fn := fun _ => fun
  | [d] => { results := [.lit (.bool false)], args := [d] }
  | _ => none }
def FnJoinWrongFalsely : Prop := fnJoinRow.holds Try.pinned (OpenSpec.ofChange fnJoinWrong)

/-- 'laws.FnAnyRule': WHATEVER THE INPUT: true; the input reads as it did. -/
def fnAnyRuleSpec : ChangeSpec := { name := "fnAnyRule", fn := fun _ => fun
  | [d] => { results := [.lit (.bool true)], args := [d] }
  | _ => none }
def fnAnyRuleRow : OpenClaim := { program := "ytkflihmhkgpgkaa", sum := "52658c0f9529ed51cc7650cc949088f36b9e52eaed8da6c24fe6eacf5145a316", func := "loop.example/linkedroots/laws.FnAnyRule", spec := "fnAnyRule", unfollowed := true, recurses := true, apart := false }
def FnAnyRuleSaid : Prop := fnAnyRuleRow.holds Try.pinned (OpenSpec.ofChange fnAnyRuleSpec)

/-- ITS FALSE NEIGHBOUR: 'it returns false'. Refute it at one input. -/
def fnAnyRuleWrong : ChangeSpec := { name := "fnAnyRule", fn := fun _ => fun
  | [d] => { results := [.lit (.bool false)], args := [d] }
  | _ => none }
def FnAnyRuleWrongFalsely : Prop := fnAnyRuleRow.holds Try.pinned (OpenSpec.ofChange fnAnyRuleWrong)

/-- 'laws.FnShallow': WHATEVER THE INPUT: true; the input reads as it did. -/
def fnShallowSpec : ChangeSpec := { name := "fnShallow", fn := fun _ => fun
  | [d1, d2] => { results := [.lit (.bool true)], args := [d1, d2] }
  | _ => none }
def fnShallowRow : OpenClaim := { program := "ytkflihmhkgpgkaa", sum := "52658c0f9529ed51cc7650cc949088f36b9e52eaed8da6c24fe6eacf5145a316", func := "loop.example/linkedroots/laws.FnShallow", spec := "fnShallow", unfollowed := true, recurses := true, apart := false }
def FnShallowSaid : Prop := fnShallowRow.holds Try.pinned (OpenSpec.ofChange fnShallowSpec)

/-- ITS FALSE NEIGHBOUR: 'it returns false'. Refute it at one input. -/
def fnShallowWrong : ChangeSpec := { name := "fnShallow", fn := fun _ => fun
  | [d1, d2] => { results := [.lit (.bool false)], args := [d1, d2] }
  | _ => none }
def FnShallowWrongFalsely : Prop := fnShallowRow.holds Try.pinned (OpenSpec.ofChange fnShallowWrong)

/-- 'laws.FnUseful': WHATEVER THE INPUT: true; the input reads as it did. -/
def fnUsefulSpec : ChangeSpec := { name := "fnUseful", fn := fun _ => fun
  | [d] => { results := [.lit (.bool true)], args := [d] }
  | _ => none }
def fnUsefulRow : OpenClaim := { program := "ytkflihmhkgpgkaa", sum := "52658c0f9529ed51cc7650cc949088f36b9e52eaed8da6c24fe6eacf5145a316", func := "loop.example/linkedroots/laws.FnUseful", spec := "fnUseful", unfollowed := true, recurses := true, apart := false }
def FnUsefulSaid : Prop := fnUsefulRow.holds Try.pinned (OpenSpec.ofChange fnUsefulSpec)

/-- ITS FALSE NEIGHBOUR: 'it returns false'. Refute it at one input. -/
def fnUsefulWrong : ChangeSpec := { name := "fnUseful", fn := fun _ => fun
  | [d] => { results := [.lit (.bool false)], args := [d] }
  | _ => none }
def FnUsefulWrongFalsely : Prop := fnUsefulRow.holds Try.pinned (OpenSpec.ofChange fnUsefulWrong)

/-- 'laws.FnSizes': WHATEVER THE INPUT: true; the input reads as it did. -/
def fnSizesSpec : ChangeSpec := { name := "fnSizes", fn := fun _ => fun
  | [d1, d2] => { results := [.lit (.bool true)], args := [d1, d2] }
  | _ => none }
def fnSizesRow : OpenClaim := { program := "ytkflihmhkgpgkaa", sum := "52658c0f9529ed51cc7650cc949088f36b9e52eaed8da6c24fe6eacf5145a316", func := "loop.example/linkedroots/laws.FnSizes", spec := "fnSizes", unfollowed := true, recurses := true, apart := false }
def FnSizesSaid : Prop := fnSizesRow.holds Try.pinned (OpenSpec.ofChange fnSizesSpec)

/-- ITS FALSE NEIGHBOUR: 'it returns false'. Refute it at one input. -/
def fnSizesWrong : ChangeSpec := { name := "fnSizes", fn := fun _ => fun
  | [d1, d2] => { results := [.lit (.bool false)], args := [d1, d2] }
  | _ => none }
def FnSizesWrongFalsely : Prop := fnSizesRow.holds Try.pinned (OpenSpec.ofChange fnSizesWrong)

/-- 'laws.FnTwice': WHATEVER THE INPUT: true; the input reads as it did. -/
def fnTwiceSpec : ChangeSpec := { name := "fnTwice", fn := fun _ => fun
  | [d] => { results := [.lit (.bool true)], args := [d] }
  | _ => none }
def fnTwiceRow : OpenClaim := { program := "ytkflihmhkgpgkaa", sum := "52658c0f9529ed51cc7650cc949088f36b9e52eaed8da6c24fe6eacf5145a316", func := "loop.example/linkedroots/laws.FnTwice", spec := "fnTwice", unfollowed := true, recurses := true, apart := false }
def FnTwiceSaid : Prop := fnTwiceRow.holds Try.pinned (OpenSpec.ofChange fnTwiceSpec)

/-- ITS FALSE NEIGHBOUR: 'it returns false'. Refute it at one input. -/
def fnTwiceWrong : ChangeSpec := { name := "fnTwice", fn := fun _ => fun
  | [d] => { results := [.lit (.bool false)], args := [d] }
  | _ => none }
def FnTwiceWrongFalsely : Prop := fnTwiceRow.holds Try.pinned (OpenSpec.ofChange fnTwiceWrong)

/-- 'laws.FnParts': WHATEVER THE INPUT: true; the input reads as it did. -/
def fnPartsSpec : ChangeSpec := { name := "fnParts", fn := fun _ => fun
  | [d1, d2] => { results := [.lit (.bool true)], args := [d1, d2] }
  | _ => none }
def fnPartsRow : OpenClaim := { program := "ytkflihmhkgpgkaa", sum := "52658c0f9529ed51cc7650cc949088f36b9e52eaed8da6c24fe6eacf5145a316", func := "loop.example/linkedroots/laws.FnParts", spec := "fnParts", unfollowed := true, recurses := true, apart := false }
def FnPartsSaid : Prop := fnPartsRow.holds Try.pinned (OpenSpec.ofChange fnPartsSpec)

/-- ITS FALSE NEIGHBOUR: 'it returns false'. Refute it at one input. -/
def fnPartsWrong : ChangeSpec := { name := "fnParts", fn := fun _ => fun
  | [d1, d2] => { results := [.lit (.bool false)], args := [d1, d2] }
  | _ => none }
def FnPartsWrongFalsely : Prop := fnPartsRow.holds Try.pinned (OpenSpec.ofChange fnPartsWrong)

/-- 'laws.FnEither': WHATEVER THE INPUT: true; the input reads as it did. -/
def fnEitherSpec : ChangeSpec := { name := "fnEither", fn := fun _ => fun
  | [d] => { results := [.lit (.bool true)], args := [d] }
  | _ => none }
def fnEitherRow : OpenClaim := { program := "ytkflihmhkgpgkaa", sum := "52658c0f9529ed51cc7650cc949088f36b9e52eaed8da6c24fe6eacf5145a316", func := "loop.example/linkedroots/laws.FnEither", spec := "fnEither", unfollowed := true, recurses := true, apart := false }
def FnEitherSaid : Prop := fnEitherRow.holds Try.pinned (OpenSpec.ofChange fnEitherSpec)

/-- ITS FALSE NEIGHBOUR: 'it returns false'. Refute it at one input. -/
def fnEitherWrong : ChangeSpec := { name := "fnEither", fn := fun _ => fun
  | [d] => { results := [.lit (.bool false)], args := [d] }
  | _ => none }
def FnEitherWrongFalsely : Prop := fnEitherRow.holds Try.pinned (OpenSpec.ofChange fnEitherWrong)

/-- 'laws.FnAnyOrder': WHATEVER THE INPUT: true; the input reads as it did. -/
def fnAnyOrderSpec : ChangeSpec := { name := "fnAnyOrder", fn := fun _ => fun
  | [d] => { results := [.lit (.bool true)], args := [d] }
  | _ => none }
def fnAnyOrderRow : OpenClaim := { program := "ytkflihmhkgpgkaa", sum := "52658c0f9529ed51cc7650cc949088f36b9e52eaed8da6c24fe6eacf5145a316", func := "loop.example/linkedroots/laws.FnAnyOrder", spec := "fnAnyOrder", unfollowed := true, recurses := true, apart := false }
def FnAnyOrderSaid : Prop := fnAnyOrderRow.holds Try.pinned (OpenSpec.ofChange fnAnyOrderSpec)

/-- ITS FALSE NEIGHBOUR: 'it returns false'. Refute it at one input. -/
def fnAnyOrderWrong : ChangeSpec := { name := "fnAnyOrder", fn := fun _ => fun
  | [d] => { results := [.lit (.bool false)], args := [d] }
  | _ => none }
def FnAnyOrderWrongFalsely : Prop := fnAnyOrderRow.holds Try.pinned (OpenSpec.ofChange fnAnyOrderWrong)

/-- 'laws.FnExactClassesOf': WHATEVER THE INPUT: true; the input reads as it did. -/
def fnExactClassesOfSpec : ChangeSpec := { name := "fnExactClassesOf", fn := fun _ => fun
  | [d] => { results := [.lit (.bool true)], args := [d] }
  | _ => none }
def fnExactClassesOfRow : OpenClaim := { program := "ytkflihmhkgpgkaa", sum := "52658c0f9529ed51cc7650cc949088f36b9e52eaed8da6c24fe6eacf5145a316", func := "loop.example/linkedroots/laws.FnExactClassesOf", spec := "fnExactClassesOf", unfollowed := true, recurses := true, apart := false }
def FnExactClassesOfSaid : Prop := fnExactClassesOfRow.holds Try.pinned (OpenSpec.ofChange fnExactClassesOfSpec)

/-- ITS FALSE NEIGHBOUR: 'it returns false'. Refute it at one input. -/
def fnExactClassesOfWrong : ChangeSpec := { name := "fnExactClassesOf", fn := fun _ => fun
  | [d] => { results := [.lit (.bool false)], args := [d] }
  | _ => none }
def FnExactClassesOfWrongFalsely : Prop := fnExactClassesOfRow.holds Try.pinned (OpenSpec.ofChange fnExactClassesOfWrong)

/-- 'laws.FnExactSameClasses': WHATEVER THE INPUT: true; the input reads as it did. -/
def fnExactSameClassesSpec : ChangeSpec := { name := "fnExactSameClasses", fn := fun _ => fun
  | [d1, d2] => { results := [.lit (.bool true)], args := [d1, d2] }
  | _ => none }
def fnExactSameClassesRow : OpenClaim := { program := "ytkflihmhkgpgkaa", sum := "52658c0f9529ed51cc7650cc949088f36b9e52eaed8da6c24fe6eacf5145a316", func := "loop.example/linkedroots/laws.FnExactSameClasses", spec := "fnExactSameClasses", unfollowed := true, recurses := true, apart := false }
def FnExactSameClassesSaid : Prop := fnExactSameClassesRow.holds Try.pinned (OpenSpec.ofChange fnExactSameClassesSpec)

/-- ITS FALSE NEIGHBOUR: 'it returns false'. Refute it at one input. -/
def fnExactSameClassesWrong : ChangeSpec := { name := "fnExactSameClasses", fn := fun _ => fun
  | [d1, d2] => { results := [.lit (.bool false)], args := [d1, d2] }
  | _ => none }
def FnExactSameClassesWrongFalsely : Prop := fnExactSameClassesRow.holds Try.pinned (OpenSpec.ofChange fnExactSameClassesWrong)

/-- 'laws.FnExactSizesOf': WHATEVER THE INPUT: true; the input reads as it did. -/
def fnExactSizesOfSpec : ChangeSpec := { name := "fnExactSizesOf", fn := fun _ => fun
  | [d] => { results := [.lit (.bool true)], args := [d] }
  | _ => none }
def fnExactSizesOfRow : OpenClaim := { program := "ytkflihmhkgpgkaa", sum := "52658c0f9529ed51cc7650cc949088f36b9e52eaed8da6c24fe6eacf5145a316", func := "loop.example/linkedroots/laws.FnExactSizesOf", spec := "fnExactSizesOf", unfollowed := true, recurses := true, apart := false }
def FnExactSizesOfSaid : Prop := fnExactSizesOfRow.holds Try.pinned (OpenSpec.ofChange fnExactSizesOfSpec)

/-- ITS FALSE NEIGHBOUR: 'it returns false'. Refute it at one input. -/
def fnExactSizesOfWrong : ChangeSpec := { name := "fnExactSizesOf", fn := fun _ => fun
  | [d] => { results := [.lit (.bool false)], args := [d] }
  | _ => none }
def FnExactSizesOfWrongFalsely : Prop := fnExactSizesOfRow.holds Try.pinned (OpenSpec.ofChange fnExactSizesOfWrong)

/-- 'laws.FnExactHeightsOf': WHATEVER THE INPUT: true; the input reads as it did. -/
def fnExactHeightsOfSpec : ChangeSpec := { name := "fnExactHeightsOf", fn := fun _ => fun
  | [d] => { results := [.lit (.bool true)], args := [d] }
  | _ => none }
def fnExactHeightsOfRow : OpenClaim := { program := "ytkflihmhkgpgkaa", sum := "52658c0f9529ed51cc7650cc949088f36b9e52eaed8da6c24fe6eacf5145a316", func := "loop.example/linkedroots/laws.FnExactHeightsOf", spec := "fnExactHeightsOf", unfollowed := true, recurses := true, apart := false }
def FnExactHeightsOfSaid : Prop := fnExactHeightsOfRow.holds Try.pinned (OpenSpec.ofChange fnExactHeightsOfSpec)

/-- ITS FALSE NEIGHBOUR: 'it returns false'. Refute it at one input. -/
def fnExactHeightsOfWrong : ChangeSpec := { name := "fnExactHeightsOf", fn := fun _ => fun
  | [d] => { results := [.lit (.bool false)], args := [d] }
  | _ => none }
def FnExactHeightsOfWrongFalsely : Prop := fnExactHeightsOfRow.holds Try.pinned (OpenSpec.ofChange fnExactHeightsOfWrong)

/-- 'laws.FnExactJoin': WHATEVER THE INPUT: true; the input reads as it did. -/
def fnExactJoinSpec : ChangeSpec := { name := "fnExactJoin", fn := fun _ => fun
  | [d1, d2, d3, d4] => { results := [.lit (.bool true)], args := [d1, d2, d3, d4] }
  | _ => none }
def fnExactJoinRow : OpenClaim := { program := "ytkflihmhkgpgkaa", sum := "52658c0f9529ed51cc7650cc949088f36b9e52eaed8da6c24fe6eacf5145a316", func := "loop.example/linkedroots/laws.FnExactJoin", spec := "fnExactJoin", unfollowed := true, recurses := true, apart := false }
def FnExactJoinSaid : Prop := fnExactJoinRow.holds Try.pinned (OpenSpec.ofChange fnExactJoinSpec)

/-- ITS FALSE NEIGHBOUR: 'it returns false'. Refute it at one input. -/
def fnExactJoinWrong : ChangeSpec := { name := "fnExactJoin", fn := fun _ => fun
  | [d1, d2, d3, d4] => { results := [.lit (.bool false)], args := [d1, d2, d3, d4] }
  | _ => none }
def FnExactJoinWrongFalsely : Prop := fnExactJoinRow.holds Try.pinned (OpenSpec.ofChange fnExactJoinWrong)

/-- 'laws.FnExactJoinAll': WHATEVER THE INPUT: true; the input reads as it did. -/
def fnExactJoinAllSpec : ChangeSpec := { name := "fnExactJoinAll", fn := fun _ => fun
  | [d1, d2, d3] => { results := [.lit (.bool true)], args := [d1, d2, d3] }
  | _ => none }
def fnExactJoinAllRow : OpenClaim := { program := "ytkflihmhkgpgkaa", sum := "52658c0f9529ed51cc7650cc949088f36b9e52eaed8da6c24fe6eacf5145a316", func := "loop.example/linkedroots/laws.FnExactJoinAll", spec := "fnExactJoinAll", unfollowed := true, recurses := true, apart := false }
def FnExactJoinAllSaid : Prop := fnExactJoinAllRow.holds Try.pinned (OpenSpec.ofChange fnExactJoinAllSpec)

/-- ITS FALSE NEIGHBOUR: 'it returns false'. Refute it at one input. -/
def fnExactJoinAllWrong : ChangeSpec := { name := "fnExactJoinAll", fn := fun _ => fun
  | [d1, d2, d3] => { results := [.lit (.bool false)], args := [d1, d2, d3] }
  | _ => none }
def FnExactJoinAllWrongFalsely : Prop := fnExactJoinAllRow.holds Try.pinned (OpenSpec.ofChange fnExactJoinAllWrong)

/-- 'laws.FnExactUsefulPairs': WHATEVER THE INPUT: true; the input reads as it did. -/
def fnExactUsefulPairsSpec : ChangeSpec := { name := "fnExactUsefulPairs", fn := fun _ => fun
  | [d1, d2] => { results := [.lit (.bool true)], args := [d1, d2] }
  | _ => none }
def fnExactUsefulPairsRow : OpenClaim := { program := "ytkflihmhkgpgkaa", sum := "52658c0f9529ed51cc7650cc949088f36b9e52eaed8da6c24fe6eacf5145a316", func := "loop.example/linkedroots/laws.FnExactUsefulPairs", spec := "fnExactUsefulPairs", unfollowed := true, recurses := true, apart := false }
def FnExactUsefulPairsSaid : Prop := fnExactUsefulPairsRow.holds Try.pinned (OpenSpec.ofChange fnExactUsefulPairsSpec)

/-- ITS FALSE NEIGHBOUR: 'it returns false'. Refute it at one input. -/
def fnExactUsefulPairsWrong : ChangeSpec := { name := "fnExactUsefulPairs", fn := fun _ => fun
  | [d1, d2] => { results := [.lit (.bool false)], args := [d1, d2] }
  | _ => none }
def FnExactUsefulPairsWrongFalsely : Prop := fnExactUsefulPairsRow.holds Try.pinned (OpenSpec.ofChange fnExactUsefulPairsWrong)

/-- 'laws.FnExactCountClasses': WHATEVER THE INPUT: true; the input reads as it did. -/
def fnExactCountClassesSpec : ChangeSpec := { name := "fnExactCountClasses", fn := fun _ => fun
  | [d1, d2] => { results := [.lit (.bool true)], args := [d1, d2] }
  | _ => none }
def fnExactCountClassesRow : OpenClaim := { program := "ytkflihmhkgpgkaa", sum := "52658c0f9529ed51cc7650cc949088f36b9e52eaed8da6c24fe6eacf5145a316", func := "loop.example/linkedroots/laws.FnExactCountClasses", spec := "fnExactCountClasses", unfollowed := true, recurses := true, apart := false }
def FnExactCountClassesSaid : Prop := fnExactCountClassesRow.holds Try.pinned (OpenSpec.ofChange fnExactCountClassesSpec)

/-- ITS FALSE NEIGHBOUR: 'it returns false'. Refute it at one input. -/
def fnExactCountClassesWrong : ChangeSpec := { name := "fnExactCountClasses", fn := fun _ => fun
  | [d1, d2] => { results := [.lit (.bool false)], args := [d1, d2] }
  | _ => none }
def FnExactCountClassesWrongFalsely : Prop := fnExactCountClassesRow.holds Try.pinned (OpenSpec.ofChange fnExactCountClassesWrong)

/- THE SECOND FORM. 'bulk': how many values and letters a reading holds, each counted each time it is reached (what is shared counts as often as it is met; a slice's spare places count too). A statement '..UptoSaid' is the law's where the arguments, and the package variables that the reading takes, are together of bulk at most 1048576: NARROWER than '..Said'. Prove '..Said' where nothing that the law and all that it calls make is longer than what came in: it says more and counts as full. Else prove '..UptoSaid'. A law counts once. -/
mutual
def uptoBulk {H : Type} : DataW H → Nat
  | .lit (.string bytes) => bytes.length + 1
  | .lit _ => 1
  | .nil => 1
  | .ptr d => uptoBulk d + 1
  | .slice elems spare => uptoBulkAll elems + uptoBulkAll spare + 1
  | .agg parts => uptoBulkAll parts + 1
  | .iface _ d => uptoBulk d + 1
  | .map entries => uptoBulkEntries entries + 1
  | .held _ => 1
def uptoBulkAll {H : Type} : List (DataW H) → Nat
  | [] => 0
  | d :: r => uptoBulk d + uptoBulkAll r
def uptoBulkEntries {H : Type} : List (Lit × DataW H) → Nat
  | [] => 0
  | x :: r => uptoBulkEntry x + uptoBulkEntries r
def uptoBulkEntry {H : Type} : Lit × DataW H → Nat
  | (.string bytes, d) => bytes.length + uptoBulk d + 1
  | (_, d) => uptoBulk d + 1
 end
def uptoSmall : (H : Type) → List (DataW H) → Bool := fun _ ds => decide (uptoBulkAll ds ≤ 1048576)
def OpenSpec.upto (s : _root_.Go.ChangeSpec) : _root_.Go.OpenSpec := { _root_.Go.OpenSpec.ofChange s with cond := some uptoSmall }

/-- 'laws.FnClasses', WHERE WHAT IT READS IS OF BULK AT MOST 1048576: true; the input reads as it did. -/
def fnClassesUptoRow : OpenClaim := { program := "ytkflihmhkgpgkaa", sum := "52658c0f9529ed51cc7650cc949088f36b9e52eaed8da6c24fe6eacf5145a316", func := "loop.example/linkedroots/laws.FnClasses", spec := "fnClasses", unfollowed := true, recurses := true, apart := false, narrowed := true }
def FnClassesUptoSaid : Prop := fnClassesUptoRow.holds Try.pinned (OpenSpec.upto fnClassesSpec)

/-- 'laws.FnSameClasses', WHERE WHAT IT READS IS OF BULK AT MOST 1048576: true; the input reads as it did. -/
def fnSameClassesUptoRow : OpenClaim := { program := "ytkflihmhkgpgkaa", sum := "52658c0f9529ed51cc7650cc949088f36b9e52eaed8da6c24fe6eacf5145a316", func := "loop.example/linkedroots/laws.FnSameClasses", spec := "fnSameClasses", unfollowed := true, recurses := true, apart := false, narrowed := true }
def FnSameClassesUptoSaid : Prop := fnSameClassesUptoRow.holds Try.pinned (OpenSpec.upto fnSameClassesSpec)

/-- 'laws.FnSkip', WHERE WHAT IT READS IS OF BULK AT MOST 1048576: true; the input reads as it did. -/
def fnSkipUptoRow : OpenClaim := { program := "ytkflihmhkgpgkaa", sum := "52658c0f9529ed51cc7650cc949088f36b9e52eaed8da6c24fe6eacf5145a316", func := "loop.example/linkedroots/laws.FnSkip", spec := "fnSkip", unfollowed := true, recurses := true, apart := false, narrowed := true }
def FnSkipUptoSaid : Prop := fnSkipUptoRow.holds Try.pinned (OpenSpec.upto fnSkipSpec)

/-- 'laws.FnSquares', WHERE WHAT IT READS IS OF BULK AT MOST 1048576: true; the input reads as it did. -/
def fnSquaresUptoRow : OpenClaim := { program := "ytkflihmhkgpgkaa", sum := "52658c0f9529ed51cc7650cc949088f36b9e52eaed8da6c24fe6eacf5145a316", func := "loop.example/linkedroots/laws.FnSquares", spec := "fnSquares", unfollowed := true, recurses := true, apart := false, narrowed := true }
def FnSquaresUptoSaid : Prop := fnSquaresUptoRow.holds Try.pinned (OpenSpec.upto fnSquaresSpec)

/-- 'laws.FnHang', WHERE WHAT IT READS IS OF BULK AT MOST 1048576: true; the input reads as it did. -/
def fnHangUptoRow : OpenClaim := { program := "ytkflihmhkgpgkaa", sum := "52658c0f9529ed51cc7650cc949088f36b9e52eaed8da6c24fe6eacf5145a316", func := "loop.example/linkedroots/laws.FnHang", spec := "fnHang", unfollowed := true, recurses := true, apart := false, narrowed := true }
def FnHangUptoSaid : Prop := fnHangUptoRow.holds Try.pinned (OpenSpec.upto fnHangSpec)

/-- 'laws.FnJoin', WHERE WHAT IT READS IS OF BULK AT MOST 1048576: true; the input reads as it did. -/
def fnJoinUptoRow : OpenClaim := { program := "ytkflihmhkgpgkaa", sum := "52658c0f9529ed51cc7650cc949088f36b9e52eaed8da6c24fe6eacf5145a316", func := "loop.example/linkedroots/laws.FnJoin", spec := "fnJoin", unfollowed := true, recurses := true, apart := false, narrowed := true }
def FnJoinUptoSaid : Prop := fnJoinUptoRow.holds Try.pinned (OpenSpec.upto fnJoinSpec)

/-- 'laws.FnAnyRule', WHERE WHAT IT READS IS OF BULK AT MOST 1048576: true; the input reads as it did. -/
def fnAnyRuleUptoRow : OpenClaim := { program := "ytkflihmhkgpgkaa", sum := "52658c0f9529ed51cc7650cc949088f36b9e52eaed8da6c24fe6eacf5145a316", func := "loop.example/linkedroots/laws.FnAnyRule", spec := "fnAnyRule", unfollowed := true, recurses := true, apart := false, narrowed := true }
def FnAnyRuleUptoSaid : Prop := fnAnyRuleUptoRow.holds Try.pinned (OpenSpec.upto fnAnyRuleSpec)

/-- 'laws.FnShallow', WHERE WHAT IT READS IS OF BULK AT MOST 1048576: true; the input reads as it did. -/
def fnShallowUptoRow : OpenClaim := { program := "ytkflihmhkgpgkaa", sum := "52658c0f9529ed51cc7650cc949088f36b9e52eaed8da6c24fe6eacf5145a316", func := "loop.example/linkedroots/laws.FnShallow", spec := "fnShallow", unfollowed := true, recurses := true, apart := false, narrowed := true }
def FnShallowUptoSaid : Prop := fnShallowUptoRow.holds Try.pinned (OpenSpec.upto fnShallowSpec)

/-- 'laws.FnUseful', WHERE WHAT IT READS IS OF BULK AT MOST 1048576: true; the input reads as it did. -/
def fnUsefulUptoRow : OpenClaim := { program := "ytkflihmhkgpgkaa", sum := "52658c0f9529ed51cc7650cc949088f36b9e52eaed8da6c24fe6eacf5145a316", func := "loop.example/linkedroots/laws.FnUseful", spec := "fnUseful", unfollowed := true, recurses := true, apart := false, narrowed := true }
def FnUsefulUptoSaid : Prop := fnUsefulUptoRow.holds Try.pinned (OpenSpec.upto fnUsefulSpec)

/-- 'laws.FnSizes', WHERE WHAT IT READS IS OF BULK AT MOST 1048576: true; the input reads as it did. -/
def fnSizesUptoRow : OpenClaim := { program := "ytkflihmhkgpgkaa", sum := "52658c0f9529ed51cc7650cc949088f36b9e52eaed8da6c24fe6eacf5145a316", func := "loop.example/linkedroots/laws.FnSizes", spec := "fnSizes", unfollowed := true, recurses := true, apart := false, narrowed := true }
def FnSizesUptoSaid : Prop := fnSizesUptoRow.holds Try.pinned (OpenSpec.upto fnSizesSpec)

/-- 'laws.FnTwice', WHERE WHAT IT READS IS OF BULK AT MOST 1048576: true; the input reads as it did. -/
def fnTwiceUptoRow : OpenClaim := { program := "ytkflihmhkgpgkaa", sum := "52658c0f9529ed51cc7650cc949088f36b9e52eaed8da6c24fe6eacf5145a316", func := "loop.example/linkedroots/laws.FnTwice", spec := "fnTwice", unfollowed := true, recurses := true, apart := false, narrowed := true }
def FnTwiceUptoSaid : Prop := fnTwiceUptoRow.holds Try.pinned (OpenSpec.upto fnTwiceSpec)

/-- 'laws.FnParts', WHERE WHAT IT READS IS OF BULK AT MOST 1048576: true; the input reads as it did. -/
def fnPartsUptoRow : OpenClaim := { program := "ytkflihmhkgpgkaa", sum := "52658c0f9529ed51cc7650cc949088f36b9e52eaed8da6c24fe6eacf5145a316", func := "loop.example/linkedroots/laws.FnParts", spec := "fnParts", unfollowed := true, recurses := true, apart := false, narrowed := true }
def FnPartsUptoSaid : Prop := fnPartsUptoRow.holds Try.pinned (OpenSpec.upto fnPartsSpec)

/-- 'laws.FnEither', WHERE WHAT IT READS IS OF BULK AT MOST 1048576: true; the input reads as it did. -/
def fnEitherUptoRow : OpenClaim := { program := "ytkflihmhkgpgkaa", sum := "52658c0f9529ed51cc7650cc949088f36b9e52eaed8da6c24fe6eacf5145a316", func := "loop.example/linkedroots/laws.FnEither", spec := "fnEither", unfollowed := true, recurses := true, apart := false, narrowed := true }
def FnEitherUptoSaid : Prop := fnEitherUptoRow.holds Try.pinned (OpenSpec.upto fnEitherSpec)

/-- 'laws.FnAnyOrder', WHERE WHAT IT READS IS OF BULK AT MOST 1048576: true; the input reads as it did. -/
def fnAnyOrderUptoRow : OpenClaim := { program := "ytkflihmhkgpgkaa", sum := "52658c0f9529ed51cc7650cc949088f36b9e52eaed8da6c24fe6eacf5145a316", func := "loop.example/linkedroots/laws.FnAnyOrder", spec := "fnAnyOrder", unfollowed := true, recurses := true, apart := false, narrowed := true }
def FnAnyOrderUptoSaid : Prop := fnAnyOrderUptoRow.holds Try.pinned (OpenSpec.upto fnAnyOrderSpec)

/-- 'laws.FnExactClassesOf', WHERE WHAT IT READS IS OF BULK AT MOST 1048576: true; the input reads as it did. -/
def fnExactClassesOfUptoRow : OpenClaim := { program := "ytkflihmhkgpgkaa", sum := "52658c0f9529ed51cc7650cc949088f36b9e52eaed8da6c24fe6eacf5145a316", func := "loop.example/linkedroots/laws.FnExactClassesOf", spec := "fnExactClassesOf", unfollowed := true, recurses := true, apart := false, narrowed := true }
def FnExactClassesOfUptoSaid : Prop := fnExactClassesOfUptoRow.holds Try.pinned (OpenSpec.upto fnExactClassesOfSpec)

/-- 'laws.FnExactSameClasses', WHERE WHAT IT READS IS OF BULK AT MOST 1048576: true; the input reads as it did. -/
def fnExactSameClassesUptoRow : OpenClaim := { program := "ytkflihmhkgpgkaa", sum := "52658c0f9529ed51cc7650cc949088f36b9e52eaed8da6c24fe6eacf5145a316", func := "loop.example/linkedroots/laws.FnExactSameClasses", spec := "fnExactSameClasses", unfollowed := true, recurses := true, apart := false, narrowed := true }
def FnExactSameClassesUptoSaid : Prop := fnExactSameClassesUptoRow.holds Try.pinned (OpenSpec.upto fnExactSameClassesSpec)

/-- 'laws.FnExactSizesOf', WHERE WHAT IT READS IS OF BULK AT MOST 1048576: true; the input reads as it did. -/
def fnExactSizesOfUptoRow : OpenClaim := { program := "ytkflihmhkgpgkaa", sum := "52658c0f9529ed51cc7650cc949088f36b9e52eaed8da6c24fe6eacf5145a316", func := "loop.example/linkedroots/laws.FnExactSizesOf", spec := "fnExactSizesOf", unfollowed := true, recurses := true, apart := false, narrowed := true }
def FnExactSizesOfUptoSaid : Prop := fnExactSizesOfUptoRow.holds Try.pinned (OpenSpec.upto fnExactSizesOfSpec)

/-- 'laws.FnExactHeightsOf', WHERE WHAT IT READS IS OF BULK AT MOST 1048576: true; the input reads as it did. -/
def fnExactHeightsOfUptoRow : OpenClaim := { program := "ytkflihmhkgpgkaa", sum := "52658c0f9529ed51cc7650cc949088f36b9e52eaed8da6c24fe6eacf5145a316", func := "loop.example/linkedroots/laws.FnExactHeightsOf", spec := "fnExactHeightsOf", unfollowed := true, recurses := true, apart := false, narrowed := true }
def FnExactHeightsOfUptoSaid : Prop := fnExactHeightsOfUptoRow.holds Try.pinned (OpenSpec.upto fnExactHeightsOfSpec)

/-- 'laws.FnExactJoin', WHERE WHAT IT READS IS OF BULK AT MOST 1048576: true; the input reads as it did. -/
def fnExactJoinUptoRow : OpenClaim := { program := "ytkflihmhkgpgkaa", sum := "52658c0f9529ed51cc7650cc949088f36b9e52eaed8da6c24fe6eacf5145a316", func := "loop.example/linkedroots/laws.FnExactJoin", spec := "fnExactJoin", unfollowed := true, recurses := true, apart := false, narrowed := true }
def FnExactJoinUptoSaid : Prop := fnExactJoinUptoRow.holds Try.pinned (OpenSpec.upto fnExactJoinSpec)

/-- 'laws.FnExactJoinAll', WHERE WHAT IT READS IS OF BULK AT MOST 1048576: true; the input reads as it did. -/
def fnExactJoinAllUptoRow : OpenClaim := { program := "ytkflihmhkgpgkaa", sum := "52658c0f9529ed51cc7650cc949088f36b9e52eaed8da6c24fe6eacf5145a316", func := "loop.example/linkedroots/laws.FnExactJoinAll", spec := "fnExactJoinAll", unfollowed := true, recurses := true, apart := false, narrowed := true }
def FnExactJoinAllUptoSaid : Prop := fnExactJoinAllUptoRow.holds Try.pinned (OpenSpec.upto fnExactJoinAllSpec)

/-- 'laws.FnExactUsefulPairs', WHERE WHAT IT READS IS OF BULK AT MOST 1048576: true; the input reads as it did. -/
def fnExactUsefulPairsUptoRow : OpenClaim := { program := "ytkflihmhkgpgkaa", sum := "52658c0f9529ed51cc7650cc949088f36b9e52eaed8da6c24fe6eacf5145a316", func := "loop.example/linkedroots/laws.FnExactUsefulPairs", spec := "fnExactUsefulPairs", unfollowed := true, recurses := true, apart := false, narrowed := true }
def FnExactUsefulPairsUptoSaid : Prop := fnExactUsefulPairsUptoRow.holds Try.pinned (OpenSpec.upto fnExactUsefulPairsSpec)

/-- 'laws.FnExactCountClasses', WHERE WHAT IT READS IS OF BULK AT MOST 1048576: true; the input reads as it did. -/
def fnExactCountClassesUptoRow : OpenClaim := { program := "ytkflihmhkgpgkaa", sum := "52658c0f9529ed51cc7650cc949088f36b9e52eaed8da6c24fe6eacf5145a316", func := "loop.example/linkedroots/laws.FnExactCountClasses", spec := "fnExactCountClasses", unfollowed := true, recurses := true, apart := false, narrowed := true }
def FnExactCountClassesUptoSaid : Prop := fnExactCountClassesUptoRow.holds Try.pinned (OpenSpec.upto fnExactCountClassesSpec)

end Rows
end Go.Proofs.Ytkflihmhkgpgkaa
