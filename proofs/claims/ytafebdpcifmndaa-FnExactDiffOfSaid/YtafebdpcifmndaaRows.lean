/-
  No cell of these rows narrows 'for every input' (looked for: loops, veiled, ifaces, maps, wideKeys, modest, calm, conditions, laid).
  DERIVED. THE GIVEN ROWS OF THIS SEAT. 24 by the template 'for every input the law returns true; each argument reads behind the call as it read before'; 0 by the template 'total and deterministic' (their statements: YtafebdpcifmndaaTotals.lean).
  GIVEN WITH THE SEED: the statements are not yours to turn. If you find one false, say at which input.
  Laid BY PROGRAM, IN A SANDBOX (cutbox-rows.mjs): the forced cells as the released guide's own fill.sh prints them over the translation 8e99f3885326ebab… (all of the seat's roots in one cut). By AI agents, Wed Nov 11 2026. No macro, syntax, notation, axiom, sorry.
-/
import Derived.Test.YtafebdpcifmndaaChecked
import GoSem.Claim
import GoSem.ClaimJoined
import GoSem.ClaimMapViews
import Derived.JoinedTies
import Derived.KernelRfl
namespace Go.Proofs.Ytafebdpcifmndaa
/- THE CELL 'sum', in the pinned program and in every row, IS THE sha256 OF THE DUMP (.gsa) THAT YtafebdpcifmndaaProg.lean LOADS. Nothing in Lean hashes anything: it is a label: what it is worth is what the hold of that sum in a sandbox is worth. -/
noncomputable def Try.pinned : Pinned := { name := "ytafebdpcifmndaa", sum := "8e99f3885326ebab3d326dfbb0ff5311cca7b7898d618c7f1a891ba6befd360e", checked := Try.checked }
namespace Rows
def none {H : Type} : Left H := { results := [], args := [] }

/-- 'laws.FnAnyRule': WHATEVER THE INPUT: true; the input reads as it did. -/
def fnAnyRuleSpec : ChangeSpec := { name := "fnAnyRule", fn := fun _ => fun
  | [d] => { results := [.lit (.bool true)], args := [d] }
  | _ => none }
def fnAnyRuleRow : OpenClaim := { program := "ytafebdpcifmndaa", sum := "8e99f3885326ebab3d326dfbb0ff5311cca7b7898d618c7f1a891ba6befd360e", func := "loop.example/linkedroots/laws.FnAnyRule", spec := "fnAnyRule", unfollowed := true, recurses := true, apart := false }
def FnAnyRuleSaid : Prop := fnAnyRuleRow.holds Try.pinned (OpenSpec.ofChange fnAnyRuleSpec)

/-- ITS FALSE NEIGHBOUR: 'it returns false'. Refute it at one input. -/
def fnAnyRuleWrong : ChangeSpec := { name := "fnAnyRule", fn := fun _ => fun
  | [d] => { results := [.lit (.bool false)], args := [d] }
  | _ => none }
def FnAnyRuleWrongFalsely : Prop := fnAnyRuleRow.holds Try.pinned (OpenSpec.ofChange fnAnyRuleWrong)

/-- 'laws.FnShallow': WHATEVER THE INPUT: true; the input reads as it did. -/
def fnShallowSpec : ChangeSpec := { name := "fnShallow", fn := fun _ => fun
  | [d1, d2] => { results := [.lit (.bool true)], args := [d1, d2] }
  | _ => none }
def fnShallowRow : OpenClaim := { program := "ytafebdpcifmndaa", sum := "8e99f3885326ebab3d326dfbb0ff5311cca7b7898d618c7f1a891ba6befd360e", func := "loop.example/linkedroots/laws.FnShallow", spec := "fnShallow", unfollowed := true, recurses := true, apart := false }
def FnShallowSaid : Prop := fnShallowRow.holds Try.pinned (OpenSpec.ofChange fnShallowSpec)

/-- ITS FALSE NEIGHBOUR: 'it returns false'. Refute it at one input. -/
def fnShallowWrong : ChangeSpec := { name := "fnShallow", fn := fun _ => fun
  | [d1, d2] => { results := [.lit (.bool false)], args := [d1, d2] }
  | _ => none }
def FnShallowWrongFalsely : Prop := fnShallowRow.holds Try.pinned (OpenSpec.ofChange fnShallowWrong)

/-- 'laws.FnUseful': WHATEVER THE INPUT: true; the input reads as it did. -/
def fnUsefulSpec : ChangeSpec := { name := "fnUseful", fn := fun _ => fun
  | [d] => { results := [.lit (.bool true)], args := [d] }
  | _ => none }
def fnUsefulRow : OpenClaim := { program := "ytafebdpcifmndaa", sum := "8e99f3885326ebab3d326dfbb0ff5311cca7b7898d618c7f1a891ba6befd360e", func := "loop.example/linkedroots/laws.FnUseful", spec := "fnUseful", unfollowed := true, recurses := true, apart := false }
def FnUsefulSaid : Prop := fnUsefulRow.holds Try.pinned (OpenSpec.ofChange fnUsefulSpec)

/-- ITS FALSE NEIGHBOUR: 'it returns false'. Refute it at one input. -/
def fnUsefulWrong : ChangeSpec := { name := "fnUseful", fn := fun _ => fun
  | [d] => { results := [.lit (.bool false)], args := [d] }
  | _ => none }
def FnUsefulWrongFalsely : Prop := fnUsefulRow.holds Try.pinned (OpenSpec.ofChange fnUsefulWrong)

/-- 'laws.FnTwice': WHATEVER THE INPUT: true; the input reads as it did. -/
def fnTwiceSpec : ChangeSpec := { name := "fnTwice", fn := fun _ => fun
  | [d] => { results := [.lit (.bool true)], args := [d] }
  | _ => none }
def fnTwiceRow : OpenClaim := { program := "ytafebdpcifmndaa", sum := "8e99f3885326ebab3d326dfbb0ff5311cca7b7898d618c7f1a891ba6befd360e", func := "loop.example/linkedroots/laws.FnTwice", spec := "fnTwice", unfollowed := true, recurses := true, apart := false }
def FnTwiceSaid : Prop := fnTwiceRow.holds Try.pinned (OpenSpec.ofChange fnTwiceSpec)

/-- ITS FALSE NEIGHBOUR: 'it returns false'. Refute it at one input. -/
def fnTwiceWrong : ChangeSpec := { name := "fnTwice", fn := fun _ => fun
  | [d] => { results := [.lit (.bool false)], args := [d] }
  | _ => none }
def FnTwiceWrongFalsely : Prop := fnTwiceRow.holds Try.pinned (OpenSpec.ofChange fnTwiceWrong)

/-- 'laws.FnParts': WHATEVER THE INPUT: true; the input reads as it did. -/
def fnPartsSpec : ChangeSpec := { name := "fnParts", fn := fun _ => fun
  | [d1, d2] => { results := [.lit (.bool true)], args := [d1, d2] }
  | _ => none }
def fnPartsRow : OpenClaim := { program := "ytafebdpcifmndaa", sum := "8e99f3885326ebab3d326dfbb0ff5311cca7b7898d618c7f1a891ba6befd360e", func := "loop.example/linkedroots/laws.FnParts", spec := "fnParts", unfollowed := true, recurses := true, apart := false }
def FnPartsSaid : Prop := fnPartsRow.holds Try.pinned (OpenSpec.ofChange fnPartsSpec)

/-- ITS FALSE NEIGHBOUR: 'it returns false'. Refute it at one input. -/
def fnPartsWrong : ChangeSpec := { name := "fnParts", fn := fun _ => fun
  | [d1, d2] => { results := [.lit (.bool false)], args := [d1, d2] }
  | _ => none }
def FnPartsWrongFalsely : Prop := fnPartsRow.holds Try.pinned (OpenSpec.ofChange fnPartsWrong)

/-- 'laws.FnAnyOrder': WHATEVER THE INPUT: true; the input reads as it did. -/
def fnAnyOrderSpec : ChangeSpec := { name := "fnAnyOrder", fn := fun _ => fun
  | [d] => { results := [.lit (.bool true)], args := [d] }
  | _ => none }
def fnAnyOrderRow : OpenClaim := { program := "ytafebdpcifmndaa", sum := "8e99f3885326ebab3d326dfbb0ff5311cca7b7898d618c7f1a891ba6befd360e", func := "loop.example/linkedroots/laws.FnAnyOrder", spec := "fnAnyOrder", unfollowed := true, recurses := true, apart := false }
def FnAnyOrderSaid : Prop := fnAnyOrderRow.holds Try.pinned (OpenSpec.ofChange fnAnyOrderSpec)

/-- ITS FALSE NEIGHBOUR: 'it returns false'. Refute it at one input. -/
def fnAnyOrderWrong : ChangeSpec := { name := "fnAnyOrder", fn := fun _ => fun
  | [d] => { results := [.lit (.bool false)], args := [d] }
  | _ => none }
def FnAnyOrderWrongFalsely : Prop := fnAnyOrderRow.holds Try.pinned (OpenSpec.ofChange fnAnyOrderWrong)

/-- 'laws.FnUndo': WHATEVER THE INPUT: true; the input reads as it did. -/
def fnUndoSpec : ChangeSpec := { name := "fnUndo", fn := fun _ => fun
  | [d1, d2] => { results := [.lit (.bool true)], args := [d1, d2] }
  | _ => none }
def fnUndoRow : OpenClaim := { program := "ytafebdpcifmndaa", sum := "8e99f3885326ebab3d326dfbb0ff5311cca7b7898d618c7f1a891ba6befd360e", func := "loop.example/linkedroots/laws.FnUndo", spec := "fnUndo", unfollowed := true, recurses := true, apart := false }
def FnUndoSaid : Prop := fnUndoRow.holds Try.pinned (OpenSpec.ofChange fnUndoSpec)

/-- ITS FALSE NEIGHBOUR: 'it returns false'. Refute it at one input. -/
def fnUndoWrong : ChangeSpec := { name := "fnUndo", fn := fun _ => fun
  | [d1, d2] => { results := [.lit (.bool false)], args := [d1, d2] }
  | _ => none }
def FnUndoWrongFalsely : Prop := fnUndoRow.holds Try.pinned (OpenSpec.ofChange fnUndoWrong)

/-- 'laws.FnBackTo': WHATEVER THE INPUT: true; the input reads as it did. -/
def fnBackToSpec : ChangeSpec := { name := "fnBackTo", fn := fun _ => fun
  | [d] => { results := [.lit (.bool true)], args := [d] }
  | _ => none }
def fnBackToRow : OpenClaim := { program := "ytafebdpcifmndaa", sum := "8e99f3885326ebab3d326dfbb0ff5311cca7b7898d618c7f1a891ba6befd360e", func := "loop.example/linkedroots/laws.FnBackTo", spec := "fnBackTo", unfollowed := true, recurses := true, apart := false }
def FnBackToSaid : Prop := fnBackToRow.holds Try.pinned (OpenSpec.ofChange fnBackToSpec)

/-- ITS FALSE NEIGHBOUR: 'it returns false'. Refute it at one input. -/
def fnBackToWrong : ChangeSpec := { name := "fnBackTo", fn := fun _ => fun
  | [d] => { results := [.lit (.bool false)], args := [d] }
  | _ => none }
def FnBackToWrongFalsely : Prop := fnBackToRow.holds Try.pinned (OpenSpec.ofChange fnBackToWrong)

/-- 'laws.FnLogOf': WHATEVER THE INPUT: true; the input reads as it did. -/
def fnLogOfSpec : ChangeSpec := { name := "fnLogOf", fn := fun _ => fun
  | [d1, d2] => { results := [.lit (.bool true)], args := [d1, d2] }
  | _ => none }
def fnLogOfRow : OpenClaim := { program := "ytafebdpcifmndaa", sum := "8e99f3885326ebab3d326dfbb0ff5311cca7b7898d618c7f1a891ba6befd360e", func := "loop.example/linkedroots/laws.FnLogOf", spec := "fnLogOf", unfollowed := true, recurses := true, apart := false }
def FnLogOfSaid : Prop := fnLogOfRow.holds Try.pinned (OpenSpec.ofChange fnLogOfSpec)

/-- ITS FALSE NEIGHBOUR: 'it returns false'. Refute it at one input. -/
def fnLogOfWrong : ChangeSpec := { name := "fnLogOf", fn := fun _ => fun
  | [d1, d2] => { results := [.lit (.bool false)], args := [d1, d2] }
  | _ => none }
def FnLogOfWrongFalsely : Prop := fnLogOfRow.holds Try.pinned (OpenSpec.ofChange fnLogOfWrong)

/-- 'laws.FnUndoAll': WHATEVER THE INPUT: true; the input reads as it did. -/
def fnUndoAllSpec : ChangeSpec := { name := "fnUndoAll", fn := fun _ => fun
  | [d] => { results := [.lit (.bool true)], args := [d] }
  | _ => none }
def fnUndoAllRow : OpenClaim := { program := "ytafebdpcifmndaa", sum := "8e99f3885326ebab3d326dfbb0ff5311cca7b7898d618c7f1a891ba6befd360e", func := "loop.example/linkedroots/laws.FnUndoAll", spec := "fnUndoAll", unfollowed := true, recurses := true, apart := false }
def FnUndoAllSaid : Prop := fnUndoAllRow.holds Try.pinned (OpenSpec.ofChange fnUndoAllSpec)

/-- ITS FALSE NEIGHBOUR: 'it returns false'. Refute it at one input. -/
def fnUndoAllWrong : ChangeSpec := { name := "fnUndoAll", fn := fun _ => fun
  | [d] => { results := [.lit (.bool false)], args := [d] }
  | _ => none }
def FnUndoAllWrongFalsely : Prop := fnUndoAllRow.holds Try.pinned (OpenSpec.ofChange fnUndoAllWrong)

/-- 'laws.FnLogParts': WHATEVER THE INPUT: true; the input reads as it did. -/
def fnLogPartsSpec : ChangeSpec := { name := "fnLogParts", fn := fun _ => fun
  | [d] => { results := [.lit (.bool true)], args := [d] }
  | _ => none }
def fnLogPartsRow : OpenClaim := { program := "ytafebdpcifmndaa", sum := "8e99f3885326ebab3d326dfbb0ff5311cca7b7898d618c7f1a891ba6befd360e", func := "loop.example/linkedroots/laws.FnLogParts", spec := "fnLogParts", unfollowed := true, recurses := true, apart := false }
def FnLogPartsSaid : Prop := fnLogPartsRow.holds Try.pinned (OpenSpec.ofChange fnLogPartsSpec)

/-- ITS FALSE NEIGHBOUR: 'it returns false'. Refute it at one input. -/
def fnLogPartsWrong : ChangeSpec := { name := "fnLogParts", fn := fun _ => fun
  | [d] => { results := [.lit (.bool false)], args := [d] }
  | _ => none }
def FnLogPartsWrongFalsely : Prop := fnLogPartsRow.holds Try.pinned (OpenSpec.ofChange fnLogPartsWrong)

/-- 'laws.FnExactJoinAll': WHATEVER THE INPUT: true; the input reads as it did. -/
def fnExactJoinAllSpec : ChangeSpec := { name := "fnExactJoinAll", fn := fun _ => fun
  | [d1, d2, d3] => { results := [.lit (.bool true)], args := [d1, d2, d3] }
  | _ => none }
def fnExactJoinAllRow : OpenClaim := { program := "ytafebdpcifmndaa", sum := "8e99f3885326ebab3d326dfbb0ff5311cca7b7898d618c7f1a891ba6befd360e", func := "loop.example/linkedroots/laws.FnExactJoinAll", spec := "fnExactJoinAll", unfollowed := true, recurses := true, apart := false }
def FnExactJoinAllSaid : Prop := fnExactJoinAllRow.holds Try.pinned (OpenSpec.ofChange fnExactJoinAllSpec)

/-- ITS FALSE NEIGHBOUR: 'it returns false'. Refute it at one input. -/
def fnExactJoinAllWrong : ChangeSpec := { name := "fnExactJoinAll", fn := fun _ => fun
  | [d1, d2, d3] => { results := [.lit (.bool false)], args := [d1, d2, d3] }
  | _ => none }
def FnExactJoinAllWrongFalsely : Prop := fnExactJoinAllRow.holds Try.pinned (OpenSpec.ofChange fnExactJoinAllWrong)

/-- 'laws.FnExactUsefulPairs': WHATEVER THE INPUT: true; the input reads as it did. -/
def fnExactUsefulPairsSpec : ChangeSpec := { name := "fnExactUsefulPairs", fn := fun _ => fun
  | [d1, d2] => { results := [.lit (.bool true)], args := [d1, d2] }
  | _ => none }
def fnExactUsefulPairsRow : OpenClaim := { program := "ytafebdpcifmndaa", sum := "8e99f3885326ebab3d326dfbb0ff5311cca7b7898d618c7f1a891ba6befd360e", func := "loop.example/linkedroots/laws.FnExactUsefulPairs", spec := "fnExactUsefulPairs", unfollowed := true, recurses := true, apart := false }
def FnExactUsefulPairsSaid : Prop := fnExactUsefulPairsRow.holds Try.pinned (OpenSpec.ofChange fnExactUsefulPairsSpec)

/-- ITS FALSE NEIGHBOUR: 'it returns false'. Refute it at one input. -/
def fnExactUsefulPairsWrong : ChangeSpec := { name := "fnExactUsefulPairs", fn := fun _ => fun
  | [d1, d2] => { results := [.lit (.bool false)], args := [d1, d2] }
  | _ => none }
def FnExactUsefulPairsWrongFalsely : Prop := fnExactUsefulPairsRow.holds Try.pinned (OpenSpec.ofChange fnExactUsefulPairsWrong)

/-- 'laws.FnExactCountClasses': WHATEVER THE INPUT: true; the input reads as it did. -/
def fnExactCountClassesSpec : ChangeSpec := { name := "fnExactCountClasses", fn := fun _ => fun
  | [d1, d2] => { results := [.lit (.bool true)], args := [d1, d2] }
  | _ => none }
def fnExactCountClassesRow : OpenClaim := { program := "ytafebdpcifmndaa", sum := "8e99f3885326ebab3d326dfbb0ff5311cca7b7898d618c7f1a891ba6befd360e", func := "loop.example/linkedroots/laws.FnExactCountClasses", spec := "fnExactCountClasses", unfollowed := true, recurses := true, apart := false }
def FnExactCountClassesSaid : Prop := fnExactCountClassesRow.holds Try.pinned (OpenSpec.ofChange fnExactCountClassesSpec)

/-- ITS FALSE NEIGHBOUR: 'it returns false'. Refute it at one input. -/
def fnExactCountClassesWrong : ChangeSpec := { name := "fnExactCountClasses", fn := fun _ => fun
  | [d1, d2] => { results := [.lit (.bool false)], args := [d1, d2] }
  | _ => none }
def FnExactCountClassesWrongFalsely : Prop := fnExactCountClassesRow.holds Try.pinned (OpenSpec.ofChange fnExactCountClassesWrong)

/-- 'laws.FnExactLogValid': WHATEVER THE INPUT: true; the input reads as it did. -/
def fnExactLogValidSpec : ChangeSpec := { name := "fnExactLogValid", fn := fun _ => fun
  | [d] => { results := [.lit (.bool true)], args := [d] }
  | _ => none }
def fnExactLogValidRow : OpenClaim := { program := "ytafebdpcifmndaa", sum := "8e99f3885326ebab3d326dfbb0ff5311cca7b7898d618c7f1a891ba6befd360e", func := "loop.example/linkedroots/laws.FnExactLogValid", spec := "fnExactLogValid", unfollowed := true, recurses := true, apart := false }
def FnExactLogValidSaid : Prop := fnExactLogValidRow.holds Try.pinned (OpenSpec.ofChange fnExactLogValidSpec)

/-- ITS FALSE NEIGHBOUR: 'it returns false'. Refute it at one input. -/
def fnExactLogValidWrong : ChangeSpec := { name := "fnExactLogValid", fn := fun _ => fun
  | [d] => { results := [.lit (.bool false)], args := [d] }
  | _ => none }
def FnExactLogValidWrongFalsely : Prop := fnExactLogValidRow.holds Try.pinned (OpenSpec.ofChange fnExactLogValidWrong)

/-- 'laws.FnExactJoinLog': WHATEVER THE INPUT: true; the input reads as it did. -/
def fnExactJoinLogSpec : ChangeSpec := { name := "fnExactJoinLog", fn := fun _ => fun
  | [d1, d2, d3] => { results := [.lit (.bool true)], args := [d1, d2, d3] }
  | _ => none }
def fnExactJoinLogRow : OpenClaim := { program := "ytafebdpcifmndaa", sum := "8e99f3885326ebab3d326dfbb0ff5311cca7b7898d618c7f1a891ba6befd360e", func := "loop.example/linkedroots/laws.FnExactJoinLog", spec := "fnExactJoinLog", unfollowed := true, recurses := true, apart := false }
def FnExactJoinLogSaid : Prop := fnExactJoinLogRow.holds Try.pinned (OpenSpec.ofChange fnExactJoinLogSpec)

/-- ITS FALSE NEIGHBOUR: 'it returns false'. Refute it at one input. -/
def fnExactJoinLogWrong : ChangeSpec := { name := "fnExactJoinLog", fn := fun _ => fun
  | [d1, d2, d3] => { results := [.lit (.bool false)], args := [d1, d2, d3] }
  | _ => none }
def FnExactJoinLogWrongFalsely : Prop := fnExactJoinLogRow.holds Try.pinned (OpenSpec.ofChange fnExactJoinLogWrong)

/-- 'laws.FnExactUndoLog': WHATEVER THE INPUT: true; the input reads as it did. -/
def fnExactUndoLogSpec : ChangeSpec := { name := "fnExactUndoLog", fn := fun _ => fun
  | [d] => { results := [.lit (.bool true)], args := [d] }
  | _ => none }
def fnExactUndoLogRow : OpenClaim := { program := "ytafebdpcifmndaa", sum := "8e99f3885326ebab3d326dfbb0ff5311cca7b7898d618c7f1a891ba6befd360e", func := "loop.example/linkedroots/laws.FnExactUndoLog", spec := "fnExactUndoLog", unfollowed := true, recurses := true, apart := false }
def FnExactUndoLogSaid : Prop := fnExactUndoLogRow.holds Try.pinned (OpenSpec.ofChange fnExactUndoLogSpec)

/-- ITS FALSE NEIGHBOUR: 'it returns false'. Refute it at one input. -/
def fnExactUndoLogWrong : ChangeSpec := { name := "fnExactUndoLog", fn := fun _ => fun
  | [d] => { results := [.lit (.bool false)], args := [d] }
  | _ => none }
def FnExactUndoLogWrongFalsely : Prop := fnExactUndoLogRow.holds Try.pinned (OpenSpec.ofChange fnExactUndoLogWrong)

/-- 'laws.FnExactBackTo': WHATEVER THE INPUT: true; the input reads as it did. -/
def fnExactBackToSpec : ChangeSpec := { name := "fnExactBackTo", fn := fun _ => fun
  | [d1, d2] => { results := [.lit (.bool true)], args := [d1, d2] }
  | _ => none }
def fnExactBackToRow : OpenClaim := { program := "ytafebdpcifmndaa", sum := "8e99f3885326ebab3d326dfbb0ff5311cca7b7898d618c7f1a891ba6befd360e", func := "loop.example/linkedroots/laws.FnExactBackTo", spec := "fnExactBackTo", unfollowed := true, recurses := true, apart := false }
def FnExactBackToSaid : Prop := fnExactBackToRow.holds Try.pinned (OpenSpec.ofChange fnExactBackToSpec)

/-- ITS FALSE NEIGHBOUR: 'it returns false'. Refute it at one input. -/
def fnExactBackToWrong : ChangeSpec := { name := "fnExactBackTo", fn := fun _ => fun
  | [d1, d2] => { results := [.lit (.bool false)], args := [d1, d2] }
  | _ => none }
def FnExactBackToWrongFalsely : Prop := fnExactBackToRow.holds Try.pinned (OpenSpec.ofChange fnExactBackToWrong)

/-- 'laws.FnExactLogOf': WHATEVER THE INPUT: true; the input reads as it did. -/
def fnExactLogOfSpec : ChangeSpec := { name := "fnExactLogOf", fn := fun _ => fun
  | [d1, d2] => { results := [.lit (.bool true)], args := [d1, d2] }
  | _ => none }
def fnExactLogOfRow : OpenClaim := { program := "ytafebdpcifmndaa", sum := "8e99f3885326ebab3d326dfbb0ff5311cca7b7898d618c7f1a891ba6befd360e", func := "loop.example/linkedroots/laws.FnExactLogOf", spec := "fnExactLogOf", unfollowed := true, recurses := true, apart := false }
def FnExactLogOfSaid : Prop := fnExactLogOfRow.holds Try.pinned (OpenSpec.ofChange fnExactLogOfSpec)

/-- ITS FALSE NEIGHBOUR: 'it returns false'. Refute it at one input. -/
def fnExactLogOfWrong : ChangeSpec := { name := "fnExactLogOf", fn := fun _ => fun
  | [d1, d2] => { results := [.lit (.bool false)], args := [d1, d2] }
  | _ => none }
def FnExactLogOfWrongFalsely : Prop := fnExactLogOfRow.holds Try.pinned (OpenSpec.ofChange fnExactLogOfWrong)

/-- 'laws.FnExactJoinedAt': WHATEVER THE INPUT: true; the input reads as it did. -/
def fnExactJoinedAtSpec : ChangeSpec := { name := "fnExactJoinedAt", fn := fun _ => fun
  | [d1, d2, d3] => { results := [.lit (.bool true)], args := [d1, d2, d3] }
  | _ => none }
def fnExactJoinedAtRow : OpenClaim := { program := "ytafebdpcifmndaa", sum := "8e99f3885326ebab3d326dfbb0ff5311cca7b7898d618c7f1a891ba6befd360e", func := "loop.example/linkedroots/laws.FnExactJoinedAt", spec := "fnExactJoinedAt", unfollowed := true, recurses := true, apart := false }
def FnExactJoinedAtSaid : Prop := fnExactJoinedAtRow.holds Try.pinned (OpenSpec.ofChange fnExactJoinedAtSpec)

/-- ITS FALSE NEIGHBOUR: 'it returns false'. Refute it at one input. -/
def fnExactJoinedAtWrong : ChangeSpec := { name := "fnExactJoinedAt", fn := fun _ => fun
  | [d1, d2, d3] => { results := [.lit (.bool false)], args := [d1, d2, d3] }
  | _ => none }
def FnExactJoinedAtWrongFalsely : Prop := fnExactJoinedAtRow.holds Try.pinned (OpenSpec.ofChange fnExactJoinedAtWrong)

/-- 'laws.FnExactOffsetsValid': WHATEVER THE INPUT: true; the input reads as it did. -/
def fnExactOffsetsValidSpec : ChangeSpec := { name := "fnExactOffsetsValid", fn := fun _ => fun
  | [d] => { results := [.lit (.bool true)], args := [d] }
  | _ => none }
def fnExactOffsetsValidRow : OpenClaim := { program := "ytafebdpcifmndaa", sum := "8e99f3885326ebab3d326dfbb0ff5311cca7b7898d618c7f1a891ba6befd360e", func := "loop.example/linkedroots/laws.FnExactOffsetsValid", spec := "fnExactOffsetsValid", unfollowed := true, recurses := true, apart := false }
def FnExactOffsetsValidSaid : Prop := fnExactOffsetsValidRow.holds Try.pinned (OpenSpec.ofChange fnExactOffsetsValidSpec)

/-- ITS FALSE NEIGHBOUR: 'it returns false'. Refute it at one input. -/
def fnExactOffsetsValidWrong : ChangeSpec := { name := "fnExactOffsetsValid", fn := fun _ => fun
  | [d] => { results := [.lit (.bool false)], args := [d] }
  | _ => none }
def FnExactOffsetsValidWrongFalsely : Prop := fnExactOffsetsValidRow.holds Try.pinned (OpenSpec.ofChange fnExactOffsetsValidWrong)

/-- 'laws.FnExactDiffOf': WHATEVER THE INPUT: true; the input reads as it did. -/
def fnExactDiffOfSpec : ChangeSpec := { name := "fnExactDiffOf", fn := fun _ => fun
  | [d1, d2, d3] => { results := [.lit (.bool true)], args := [d1, d2, d3] }
  | _ => none }
def fnExactDiffOfRow : OpenClaim := { program := "ytafebdpcifmndaa", sum := "8e99f3885326ebab3d326dfbb0ff5311cca7b7898d618c7f1a891ba6befd360e", func := "loop.example/linkedroots/laws.FnExactDiffOf", spec := "fnExactDiffOf", unfollowed := true, recurses := true, apart := false }
def FnExactDiffOfSaid : Prop := fnExactDiffOfRow.holds Try.pinned (OpenSpec.ofChange fnExactDiffOfSpec)

/-- ITS FALSE NEIGHBOUR: 'it returns false'. Refute it at one input. -/
def fnExactDiffOfWrong : ChangeSpec := { name := "fnExactDiffOf", fn := fun _ => fun
  | [d1, d2, d3] => { results := [.lit (.bool false)], args := [d1, d2, d3] }
  | _ => none }
def FnExactDiffOfWrongFalsely : Prop := fnExactDiffOfRow.holds Try.pinned (OpenSpec.ofChange fnExactDiffOfWrong)

/-- 'laws.FnExactValuesOf': WHATEVER THE INPUT: true; the input reads as it did. -/
def fnExactValuesOfSpec : ChangeSpec := { name := "fnExactValuesOf", fn := fun _ => fun
  | [d] => { results := [.lit (.bool true)], args := [d] }
  | _ => none }
def fnExactValuesOfRow : OpenClaim := { program := "ytafebdpcifmndaa", sum := "8e99f3885326ebab3d326dfbb0ff5311cca7b7898d618c7f1a891ba6befd360e", func := "loop.example/linkedroots/laws.FnExactValuesOf", spec := "fnExactValuesOf", unfollowed := true, recurses := true, apart := false }
def FnExactValuesOfSaid : Prop := fnExactValuesOfRow.holds Try.pinned (OpenSpec.ofChange fnExactValuesOfSpec)

/-- ITS FALSE NEIGHBOUR: 'it returns false'. Refute it at one input. -/
def fnExactValuesOfWrong : ChangeSpec := { name := "fnExactValuesOf", fn := fun _ => fun
  | [d] => { results := [.lit (.bool false)], args := [d] }
  | _ => none }
def FnExactValuesOfWrongFalsely : Prop := fnExactValuesOfRow.holds Try.pinned (OpenSpec.ofChange fnExactValuesOfWrong)

/-- 'laws.FnExactFlatOffsets': WHATEVER THE INPUT: true; the input reads as it did. -/
def fnExactFlatOffsetsSpec : ChangeSpec := { name := "fnExactFlatOffsets", fn := fun _ => fun
  | [d] => { results := [.lit (.bool true)], args := [d] }
  | _ => none }
def fnExactFlatOffsetsRow : OpenClaim := { program := "ytafebdpcifmndaa", sum := "8e99f3885326ebab3d326dfbb0ff5311cca7b7898d618c7f1a891ba6befd360e", func := "loop.example/linkedroots/laws.FnExactFlatOffsets", spec := "fnExactFlatOffsets", unfollowed := true, recurses := true, apart := false }
def FnExactFlatOffsetsSaid : Prop := fnExactFlatOffsetsRow.holds Try.pinned (OpenSpec.ofChange fnExactFlatOffsetsSpec)

/-- ITS FALSE NEIGHBOUR: 'it returns false'. Refute it at one input. -/
def fnExactFlatOffsetsWrong : ChangeSpec := { name := "fnExactFlatOffsets", fn := fun _ => fun
  | [d] => { results := [.lit (.bool false)], args := [d] }
  | _ => none }
def FnExactFlatOffsetsWrongFalsely : Prop := fnExactFlatOffsetsRow.holds Try.pinned (OpenSpec.ofChange fnExactFlatOffsetsWrong)

/- THE SECOND FORM. 'bulk': how many values and letters a reading holds, each counted each time it is reached (what is shared counts as often as it is met; a slice's spare places count too). A statement '..UptoSaid' is the law's where the arguments, and the package variables that the reading takes, are together of bulk at most 1048576: NARROWER than '..Said'. Prove '..Said' where nothing that the law and all that it calls make is longer than what came in: it says more and counts as full. Else prove '..UptoSaid'. A law counts once. -/
mutual
def uptoBulk {H : Type} : DataW H → Nat
  | .lit (.string bytes) => bytes.length + 1
  | .lit _ => 1
  | .nil => 1
  | .ptr d => uptoBulk d + 1
  | .slice elems spare => uptoBulkAll elems + uptoBulkAll spare + 1
  | .agg parts => uptoBulkAll parts + 1
  | .iface _ d => uptoBulk d + 1
  | .map entries => uptoBulkEntries entries + 1
  | .held _ => 1
def uptoBulkAll {H : Type} : List (DataW H) → Nat
  | [] => 0
  | d :: r => uptoBulk d + uptoBulkAll r
def uptoBulkEntries {H : Type} : List (Lit × DataW H) → Nat
  | [] => 0
  | x :: r => uptoBulkEntry x + uptoBulkEntries r
def uptoBulkEntry {H : Type} : Lit × DataW H → Nat
  | (.string bytes, d) => bytes.length + uptoBulk d + 1
  | (_, d) => uptoBulk d + 1
 end
def uptoSmall : (H : Type) → List (DataW H) → Bool := fun _ ds => decide (uptoBulkAll ds ≤ 1048576)
def OpenSpec.upto (s : _root_.Go.ChangeSpec) : _root_.Go.OpenSpec := { _root_.Go.OpenSpec.ofChange s with cond := some uptoSmall }

/-- 'laws.FnAnyRule', WHERE WHAT IT READS IS OF BULK AT MOST 1048576: true; the input reads as it did. -/
def fnAnyRuleUptoRow : OpenClaim := { program := "ytafebdpcifmndaa", sum := "8e99f3885326ebab3d326dfbb0ff5311cca7b7898d618c7f1a891ba6befd360e", func := "loop.example/linkedroots/laws.FnAnyRule", spec := "fnAnyRule", unfollowed := true, recurses := true, apart := false, narrowed := true }
def FnAnyRuleUptoSaid : Prop := fnAnyRuleUptoRow.holds Try.pinned (OpenSpec.upto fnAnyRuleSpec)

/-- 'laws.FnShallow', WHERE WHAT IT READS IS OF BULK AT MOST 1048576: true; the input reads as it did. -/
def fnShallowUptoRow : OpenClaim := { program := "ytafebdpcifmndaa", sum := "8e99f3885326ebab3d326dfbb0ff5311cca7b7898d618c7f1a891ba6befd360e", func := "loop.example/linkedroots/laws.FnShallow", spec := "fnShallow", unfollowed := true, recurses := true, apart := false, narrowed := true }
def FnShallowUptoSaid : Prop := fnShallowUptoRow.holds Try.pinned (OpenSpec.upto fnShallowSpec)

/-- 'laws.FnUseful', WHERE WHAT IT READS IS OF BULK AT MOST 1048576: true; the input reads as it did. -/
def fnUsefulUptoRow : OpenClaim := { program := "ytafebdpcifmndaa", sum := "8e99f3885326ebab3d326dfbb0ff5311cca7b7898d618c7f1a891ba6befd360e", func := "loop.example/linkedroots/laws.FnUseful", spec := "fnUseful", unfollowed := true, recurses := true, apart := false, narrowed := true }
def FnUsefulUptoSaid : Prop := fnUsefulUptoRow.holds Try.pinned (OpenSpec.upto fnUsefulSpec)

/-- 'laws.FnTwice', WHERE WHAT IT READS IS OF BULK AT MOST 1048576: true; the input reads as it did. -/
def fnTwiceUptoRow : OpenClaim := { program := "ytafebdpcifmndaa", sum := "8e99f3885326ebab3d326dfbb0ff5311cca7b7898d618c7f1a891ba6befd360e", func := "loop.example/linkedroots/laws.FnTwice", spec := "fnTwice", unfollowed := true, recurses := true, apart := false, narrowed := true }
def FnTwiceUptoSaid : Prop := fnTwiceUptoRow.holds Try.pinned (OpenSpec.upto fnTwiceSpec)

/-- 'laws.FnParts', WHERE WHAT IT READS IS OF BULK AT MOST 1048576: true; the input reads as it did. -/
def fnPartsUptoRow : OpenClaim := { program := "ytafebdpcifmndaa", sum := "8e99f3885326ebab3d326dfbb0ff5311cca7b7898d618c7f1a891ba6befd360e", func := "loop.example/linkedroots/laws.FnParts", spec := "fnParts", unfollowed := true, recurses := true, apart := false, narrowed := true }
def FnPartsUptoSaid : Prop := fnPartsUptoRow.holds Try.pinned (OpenSpec.upto fnPartsSpec)

/-- 'laws.FnAnyOrder', WHERE WHAT IT READS IS OF BULK AT MOST 1048576: true; the input reads as it did. -/
def fnAnyOrderUptoRow : OpenClaim := { program := "ytafebdpcifmndaa", sum := "8e99f3885326ebab3d326dfbb0ff5311cca7b7898d618c7f1a891ba6befd360e", func := "loop.example/linkedroots/laws.FnAnyOrder", spec := "fnAnyOrder", unfollowed := true, recurses := true, apart := false, narrowed := true }
def FnAnyOrderUptoSaid : Prop := fnAnyOrderUptoRow.holds Try.pinned (OpenSpec.upto fnAnyOrderSpec)

/-- 'laws.FnUndo', WHERE WHAT IT READS IS OF BULK AT MOST 1048576: true; the input reads as it did. -/
def fnUndoUptoRow : OpenClaim := { program := "ytafebdpcifmndaa", sum := "8e99f3885326ebab3d326dfbb0ff5311cca7b7898d618c7f1a891ba6befd360e", func := "loop.example/linkedroots/laws.FnUndo", spec := "fnUndo", unfollowed := true, recurses := true, apart := false, narrowed := true }
def FnUndoUptoSaid : Prop := fnUndoUptoRow.holds Try.pinned (OpenSpec.upto fnUndoSpec)

/-- 'laws.FnBackTo', WHERE WHAT IT READS IS OF BULK AT MOST 1048576: true; the input reads as it did. -/
def fnBackToUptoRow : OpenClaim := { program := "ytafebdpcifmndaa", sum := "8e99f3885326ebab3d326dfbb0ff5311cca7b7898d618c7f1a891ba6befd360e", func := "loop.example/linkedroots/laws.FnBackTo", spec := "fnBackTo", unfollowed := true, recurses := true, apart := false, narrowed := true }
def FnBackToUptoSaid : Prop := fnBackToUptoRow.holds Try.pinned (OpenSpec.upto fnBackToSpec)

/-- 'laws.FnLogOf', WHERE WHAT IT READS IS OF BULK AT MOST 1048576: true; the input reads as it did. -/
def fnLogOfUptoRow : OpenClaim := { program := "ytafebdpcifmndaa", sum := "8e99f3885326ebab3d326dfbb0ff5311cca7b7898d618c7f1a891ba6befd360e", func := "loop.example/linkedroots/laws.FnLogOf", spec := "fnLogOf", unfollowed := true, recurses := true, apart := false, narrowed := true }
def FnLogOfUptoSaid : Prop := fnLogOfUptoRow.holds Try.pinned (OpenSpec.upto fnLogOfSpec)

/-- 'laws.FnUndoAll', WHERE WHAT IT READS IS OF BULK AT MOST 1048576: true; the input reads as it did. -/
def fnUndoAllUptoRow : OpenClaim := { program := "ytafebdpcifmndaa", sum := "8e99f3885326ebab3d326dfbb0ff5311cca7b7898d618c7f1a891ba6befd360e", func := "loop.example/linkedroots/laws.FnUndoAll", spec := "fnUndoAll", unfollowed := true, recurses := true, apart := false, narrowed := true }
def FnUndoAllUptoSaid : Prop := fnUndoAllUptoRow.holds Try.pinned (OpenSpec.upto fnUndoAllSpec)

/-- 'laws.FnLogParts', WHERE WHAT IT READS IS OF BULK AT MOST 1048576: true; the input reads as it did. -/
def fnLogPartsUptoRow : OpenClaim := { program := "ytafebdpcifmndaa", sum := "8e99f3885326ebab3d326dfbb0ff5311cca7b7898d618c7f1a891ba6befd360e", func := "loop.example/linkedroots/laws.FnLogParts", spec := "fnLogParts", unfollowed := true, recurses := true, apart := false, narrowed := true }
def FnLogPartsUptoSaid : Prop := fnLogPartsUptoRow.holds Try.pinned (OpenSpec.upto fnLogPartsSpec)

/-- 'laws.FnExactJoinAll', WHERE WHAT IT READS IS OF BULK AT MOST 1048576: true; the input reads as it did. -/
def fnExactJoinAllUptoRow : OpenClaim := { program := "ytafebdpcifmndaa", sum := "8e99f3885326ebab3d326dfbb0ff5311cca7b7898d618c7f1a891ba6befd360e", func := "loop.example/linkedroots/laws.FnExactJoinAll", spec := "fnExactJoinAll", unfollowed := true, recurses := true, apart := false, narrowed := true }
def FnExactJoinAllUptoSaid : Prop := fnExactJoinAllUptoRow.holds Try.pinned (OpenSpec.upto fnExactJoinAllSpec)

/-- 'laws.FnExactUsefulPairs', WHERE WHAT IT READS IS OF BULK AT MOST 1048576: true; the input reads as it did. -/
def fnExactUsefulPairsUptoRow : OpenClaim := { program := "ytafebdpcifmndaa", sum := "8e99f3885326ebab3d326dfbb0ff5311cca7b7898d618c7f1a891ba6befd360e", func := "loop.example/linkedroots/laws.FnExactUsefulPairs", spec := "fnExactUsefulPairs", unfollowed := true, recurses := true, apart := false, narrowed := true }
def FnExactUsefulPairsUptoSaid : Prop := fnExactUsefulPairsUptoRow.holds Try.pinned (OpenSpec.upto fnExactUsefulPairsSpec)

/-- 'laws.FnExactCountClasses', WHERE WHAT IT READS IS OF BULK AT MOST 1048576: true; the input reads as it did. -/
def fnExactCountClassesUptoRow : OpenClaim := { program := "ytafebdpcifmndaa", sum := "8e99f3885326ebab3d326dfbb0ff5311cca7b7898d618c7f1a891ba6befd360e", func := "loop.example/linkedroots/laws.FnExactCountClasses", spec := "fnExactCountClasses", unfollowed := true, recurses := true, apart := false, narrowed := true }
def FnExactCountClassesUptoSaid : Prop := fnExactCountClassesUptoRow.holds Try.pinned (OpenSpec.upto fnExactCountClassesSpec)

/-- 'laws.FnExactLogValid', WHERE WHAT IT READS IS OF BULK AT MOST 1048576: true; the input reads as it did. -/
def fnExactLogValidUptoRow : OpenClaim := { program := "ytafebdpcifmndaa", sum := "8e99f3885326ebab3d326dfbb0ff5311cca7b7898d618c7f1a891ba6befd360e", func := "loop.example/linkedroots/laws.FnExactLogValid", spec := "fnExactLogValid", unfollowed := true, recurses := true, apart := false, narrowed := true }
def FnExactLogValidUptoSaid : Prop := fnExactLogValidUptoRow.holds Try.pinned (OpenSpec.upto fnExactLogValidSpec)

/-- 'laws.FnExactJoinLog', WHERE WHAT IT READS IS OF BULK AT MOST 1048576: true; the input reads as it did. -/
def fnExactJoinLogUptoRow : OpenClaim := { program := "ytafebdpcifmndaa", sum := "8e99f3885326ebab3d326dfbb0ff5311cca7b7898d618c7f1a891ba6befd360e", func := "loop.example/linkedroots/laws.FnExactJoinLog", spec := "fnExactJoinLog", unfollowed := true, recurses := true, apart := false, narrowed := true }
def FnExactJoinLogUptoSaid : Prop := fnExactJoinLogUptoRow.holds Try.pinned (OpenSpec.upto fnExactJoinLogSpec)

/-- 'laws.FnExactUndoLog', WHERE WHAT IT READS IS OF BULK AT MOST 1048576: true; the input reads as it did. -/
def fnExactUndoLogUptoRow : OpenClaim := { program := "ytafebdpcifmndaa", sum := "8e99f3885326ebab3d326dfbb0ff5311cca7b7898d618c7f1a891ba6befd360e", func := "loop.example/linkedroots/laws.FnExactUndoLog", spec := "fnExactUndoLog", unfollowed := true, recurses := true, apart := false, narrowed := true }
def FnExactUndoLogUptoSaid : Prop := fnExactUndoLogUptoRow.holds Try.pinned (OpenSpec.upto fnExactUndoLogSpec)

/-- 'laws.FnExactBackTo', WHERE WHAT IT READS IS OF BULK AT MOST 1048576: true; the input reads as it did. -/
def fnExactBackToUptoRow : OpenClaim := { program := "ytafebdpcifmndaa", sum := "8e99f3885326ebab3d326dfbb0ff5311cca7b7898d618c7f1a891ba6befd360e", func := "loop.example/linkedroots/laws.FnExactBackTo", spec := "fnExactBackTo", unfollowed := true, recurses := true, apart := false, narrowed := true }
def FnExactBackToUptoSaid : Prop := fnExactBackToUptoRow.holds Try.pinned (OpenSpec.upto fnExactBackToSpec)

/-- 'laws.FnExactLogOf', WHERE WHAT IT READS IS OF BULK AT MOST 1048576: true; the input reads as it did. -/
def fnExactLogOfUptoRow : OpenClaim := { program := "ytafebdpcifmndaa", sum := "8e99f3885326ebab3d326dfbb0ff5311cca7b7898d618c7f1a891ba6befd360e", func := "loop.example/linkedroots/laws.FnExactLogOf", spec := "fnExactLogOf", unfollowed := true, recurses := true, apart := false, narrowed := true }
def FnExactLogOfUptoSaid : Prop := fnExactLogOfUptoRow.holds Try.pinned (OpenSpec.upto fnExactLogOfSpec)

/-- 'laws.FnExactJoinedAt', WHERE WHAT IT READS IS OF BULK AT MOST 1048576: true; the input reads as it did. -/
def fnExactJoinedAtUptoRow : OpenClaim := { program := "ytafebdpcifmndaa", sum := "8e99f3885326ebab3d326dfbb0ff5311cca7b7898d618c7f1a891ba6befd360e", func := "loop.example/linkedroots/laws.FnExactJoinedAt", spec := "fnExactJoinedAt", unfollowed := true, recurses := true, apart := false, narrowed := true }
def FnExactJoinedAtUptoSaid : Prop := fnExactJoinedAtUptoRow.holds Try.pinned (OpenSpec.upto fnExactJoinedAtSpec)

/-- 'laws.FnExactOffsetsValid', WHERE WHAT IT READS IS OF BULK AT MOST 1048576: true; the input reads as it did. -/
def fnExactOffsetsValidUptoRow : OpenClaim := { program := "ytafebdpcifmndaa", sum := "8e99f3885326ebab3d326dfbb0ff5311cca7b7898d618c7f1a891ba6befd360e", func := "loop.example/linkedroots/laws.FnExactOffsetsValid", spec := "fnExactOffsetsValid", unfollowed := true, recurses := true, apart := false, narrowed := true }
def FnExactOffsetsValidUptoSaid : Prop := fnExactOffsetsValidUptoRow.holds Try.pinned (OpenSpec.upto fnExactOffsetsValidSpec)

/-- 'laws.FnExactDiffOf', WHERE WHAT IT READS IS OF BULK AT MOST 1048576: true; the input reads as it did. -/
def fnExactDiffOfUptoRow : OpenClaim := { program := "ytafebdpcifmndaa", sum := "8e99f3885326ebab3d326dfbb0ff5311cca7b7898d618c7f1a891ba6befd360e", func := "loop.example/linkedroots/laws.FnExactDiffOf", spec := "fnExactDiffOf", unfollowed := true, recurses := true, apart := false, narrowed := true }
def FnExactDiffOfUptoSaid : Prop := fnExactDiffOfUptoRow.holds Try.pinned (OpenSpec.upto fnExactDiffOfSpec)

/-- 'laws.FnExactValuesOf', WHERE WHAT IT READS IS OF BULK AT MOST 1048576: true; the input reads as it did. -/
def fnExactValuesOfUptoRow : OpenClaim := { program := "ytafebdpcifmndaa", sum := "8e99f3885326ebab3d326dfbb0ff5311cca7b7898d618c7f1a891ba6befd360e", func := "loop.example/linkedroots/laws.FnExactValuesOf", spec := "fnExactValuesOf", unfollowed := true, recurses := true, apart := false, narrowed := true }
def FnExactValuesOfUptoSaid : Prop := fnExactValuesOfUptoRow.holds Try.pinned (OpenSpec.upto fnExactValuesOfSpec)

/-- 'laws.FnExactFlatOffsets', WHERE WHAT IT READS IS OF BULK AT MOST 1048576: true; the input reads as it did. -/
def fnExactFlatOffsetsUptoRow : OpenClaim := { program := "ytafebdpcifmndaa", sum := "8e99f3885326ebab3d326dfbb0ff5311cca7b7898d618c7f1a891ba6befd360e", func := "loop.example/linkedroots/laws.FnExactFlatOffsets", spec := "fnExactFlatOffsets", unfollowed := true, recurses := true, apart := false, narrowed := true }
def FnExactFlatOffsetsUptoSaid : Prop := fnExactFlatOffsetsUptoRow.holds Try.pinned (OpenSpec.upto fnExactFlatOffsetsSpec)

end Rows
end Go.Proofs.Ytafebdpcifmndaa
