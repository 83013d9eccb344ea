/-
  No cell of these rows narrows 'for every input' (looked for: loops, veiled, ifaces, maps, wideKeys, modest, calm, conditions, laid).
  DERIVED. THE GIVEN ROWS OF THIS SEAT. 15 by the template 'for every input the law returns true; each argument reads behind the call as it read before'; 0 by the template 'total and deterministic' (their statements: YtdbkoicbhddpfaaTotals.lean).
  GIVEN WITH THE SEED: the statements are not yours to turn. If you find one false, say at which input.
  Laid BY PROGRAM, IN A SANDBOX (cutbox-rows.mjs): the forced cells as the released guide's own fill.sh prints them over the translation 0c0e2cf15a6d936e… (all of the seat's roots in one cut). By AI agents, Wed Nov 11 2026. No macro, syntax, notation, axiom, sorry.
-/
import Derived.Test.YtdbkoicbhddpfaaChecked
import GoSem.Claim
import GoSem.ClaimJoined
import GoSem.ClaimMapViews
import Derived.JoinedTies
import Derived.KernelRfl
namespace Go.Proofs.Ytdbkoicbhddpfaa
/- THE CELL 'sum', in the pinned program and in every row, IS THE sha256 OF THE DUMP (.gsa) THAT YtdbkoicbhddpfaaProg.lean LOADS. Nothing in Lean hashes anything: it is a label: what it is worth is what the hold of that sum in a sandbox is worth. -/
noncomputable def Try.pinned : Pinned := { name := "ytdbkoicbhddpfaa", sum := "0c0e2cf15a6d936e7e1cd01c90795c80282ce2b89a6f52ee257bb504a9920f87", checked := Try.checked }
namespace Rows
def none {H : Type} : Left H := { results := [], args := [] }

/-- 'laws.FnUndo': WHATEVER THE INPUT: true; the input reads as it did. -/
def fnUndoSpec : ChangeSpec := { name := "fnUndo", fn := fun _ => fun
  | [d1, d2] => { results := [.lit (.bool true)], args := [d1, d2] }
  | _ => none }
def fnUndoRow : OpenClaim := { program := "ytdbkoicbhddpfaa", sum := "0c0e2cf15a6d936e7e1cd01c90795c80282ce2b89a6f52ee257bb504a9920f87", func := "loop.example/linkedroots/laws.FnUndo", spec := "fnUndo", unfollowed := true, recurses := true, apart := false }
def FnUndoSaid : Prop := fnUndoRow.holds Try.pinned (OpenSpec.ofChange fnUndoSpec)

/-- ITS FALSE NEIGHBOUR: 'it returns false'. Refute it at one input. -/
def fnUndoWrong : ChangeSpec := { name := "fnUndo", fn := fun _ => fun
  | [d1, d2] => { results := [.lit (.bool false)], args := [d1, d2] }
  | _ => none }
def FnUndoWrongFalsely : Prop := fnUndoRow.holds Try.pinned (OpenSpec.ofChange fnUndoWrong)

/-- 'laws.FnBackTo': WHATEVER THE INPUT: true; the input reads as it did. -/
def fnBackToSpec : ChangeSpec := { name := "fnBackTo", fn := fun _ => fun
  | [d] => { results := [.lit (.bool true)], args := [d] }
  | _ => none }
def fnBackToRow : OpenClaim := { program := "ytdbkoicbhddpfaa", sum := "0c0e2cf15a6d936e7e1cd01c90795c80282ce2b89a6f52ee257bb504a9920f87", func := "loop.example/linkedroots/laws.FnBackTo", spec := "fnBackTo", unfollowed := true, recurses := true, apart := false }
def FnBackToSaid : Prop := fnBackToRow.holds Try.pinned (OpenSpec.ofChange fnBackToSpec)

/-- ITS FALSE NEIGHBOUR: 'it returns false'. Refute it at one input. -/
def fnBackToWrong : ChangeSpec := { name := "fnBackTo", fn := fun _ => fun
  | [d] => { results := [.lit (.bool false)], args := [d] }
  | _ => none }
def FnBackToWrongFalsely : Prop := fnBackToRow.holds Try.pinned (OpenSpec.ofChange fnBackToWrong)

/-- 'laws.FnLogOf': WHATEVER THE INPUT: true; the input reads as it did. -/
def fnLogOfSpec : ChangeSpec := { name := "fnLogOf", fn := fun _ => fun
  | [d1, d2] => { results := [.lit (.bool true)], args := [d1, d2] }
  | _ => none }
def fnLogOfRow : OpenClaim := { program := "ytdbkoicbhddpfaa", sum := "0c0e2cf15a6d936e7e1cd01c90795c80282ce2b89a6f52ee257bb504a9920f87", func := "loop.example/linkedroots/laws.FnLogOf", spec := "fnLogOf", unfollowed := true, recurses := true, apart := false }
def FnLogOfSaid : Prop := fnLogOfRow.holds Try.pinned (OpenSpec.ofChange fnLogOfSpec)

/-- ITS FALSE NEIGHBOUR: 'it returns false'. Refute it at one input. -/
def fnLogOfWrong : ChangeSpec := { name := "fnLogOf", fn := fun _ => fun
  | [d1, d2] => { results := [.lit (.bool false)], args := [d1, d2] }
  | _ => none }
def FnLogOfWrongFalsely : Prop := fnLogOfRow.holds Try.pinned (OpenSpec.ofChange fnLogOfWrong)

/-- 'laws.FnUndoAll': WHATEVER THE INPUT: true; the input reads as it did. -/
def fnUndoAllSpec : ChangeSpec := { name := "fnUndoAll", fn := fun _ => fun
  | [d] => { results := [.lit (.bool true)], args := [d] }
  | _ => none }
def fnUndoAllRow : OpenClaim := { program := "ytdbkoicbhddpfaa", sum := "0c0e2cf15a6d936e7e1cd01c90795c80282ce2b89a6f52ee257bb504a9920f87", func := "loop.example/linkedroots/laws.FnUndoAll", spec := "fnUndoAll", unfollowed := true, recurses := true, apart := false }
def FnUndoAllSaid : Prop := fnUndoAllRow.holds Try.pinned (OpenSpec.ofChange fnUndoAllSpec)

/-- ITS FALSE NEIGHBOUR: 'it returns false'. Refute it at one input. -/
def fnUndoAllWrong : ChangeSpec := { name := "fnUndoAll", fn := fun _ => fun
  | [d] => { results := [.lit (.bool false)], args := [d] }
  | _ => none }
def FnUndoAllWrongFalsely : Prop := fnUndoAllRow.holds Try.pinned (OpenSpec.ofChange fnUndoAllWrong)

/-- 'laws.FnJoinedThree': WHATEVER THE INPUT: true; the input reads as it did. -/
def fnJoinedThreeSpec : ChangeSpec := { name := "fnJoinedThree", fn := fun _ => fun
  | [d] => { results := [.lit (.bool true)], args := [d] }
  | _ => none }
def fnJoinedThreeRow : OpenClaim := { program := "ytdbkoicbhddpfaa", sum := "0c0e2cf15a6d936e7e1cd01c90795c80282ce2b89a6f52ee257bb504a9920f87", func := "loop.example/linkedroots/laws.FnJoinedThree", spec := "fnJoinedThree", unfollowed := true, recurses := true, apart := false }
def FnJoinedThreeSaid : Prop := fnJoinedThreeRow.holds Try.pinned (OpenSpec.ofChange fnJoinedThreeSpec)

/-- ITS FALSE NEIGHBOUR: 'it returns false'. Refute it at one input. -/
def fnJoinedThreeWrong : ChangeSpec := { name := "fnJoinedThree", fn := fun _ => fun
  | [d] => { results := [.lit (.bool false)], args := [d] }
  | _ => none }
def FnJoinedThreeWrongFalsely : Prop := fnJoinedThreeRow.holds Try.pinned (OpenSpec.ofChange fnJoinedThreeWrong)

/-- 'laws.FnLogParts': WHATEVER THE INPUT: true; the input reads as it did. -/
def fnLogPartsSpec : ChangeSpec := { name := "fnLogParts", fn := fun _ => fun
  | [d] => { results := [.lit (.bool true)], args := [d] }
  | _ => none }
def fnLogPartsRow : OpenClaim := { program := "ytdbkoicbhddpfaa", sum := "0c0e2cf15a6d936e7e1cd01c90795c80282ce2b89a6f52ee257bb504a9920f87", func := "loop.example/linkedroots/laws.FnLogParts", spec := "fnLogParts", unfollowed := true, recurses := true, apart := false }
def FnLogPartsSaid : Prop := fnLogPartsRow.holds Try.pinned (OpenSpec.ofChange fnLogPartsSpec)

/-- ITS FALSE NEIGHBOUR: 'it returns false'. Refute it at one input. -/
def fnLogPartsWrong : ChangeSpec := { name := "fnLogParts", fn := fun _ => fun
  | [d] => { results := [.lit (.bool false)], args := [d] }
  | _ => none }
def FnLogPartsWrongFalsely : Prop := fnLogPartsRow.holds Try.pinned (OpenSpec.ofChange fnLogPartsWrong)

/-- 'laws.FnFlatOffsets': WHATEVER THE INPUT: true; the input reads as it did. -/
def fnFlatOffsetsSpec : ChangeSpec := { name := "fnFlatOffsets", fn := fun _ => fun
  | [d1, d2] => { results := [.lit (.bool true)], args := [d1, d2] }
  | _ => none }
def fnFlatOffsetsRow : OpenClaim := { program := "ytdbkoicbhddpfaa", sum := "0c0e2cf15a6d936e7e1cd01c90795c80282ce2b89a6f52ee257bb504a9920f87", func := "loop.example/linkedroots/laws.FnFlatOffsets", spec := "fnFlatOffsets", unfollowed := true, recurses := true, apart := false }
def FnFlatOffsetsSaid : Prop := fnFlatOffsetsRow.holds Try.pinned (OpenSpec.ofChange fnFlatOffsetsSpec)

/-- ITS FALSE NEIGHBOUR: 'it returns false'. Refute it at one input. -/
def fnFlatOffsetsWrong : ChangeSpec := { name := "fnFlatOffsets", fn := fun _ => fun
  | [d1, d2] => { results := [.lit (.bool false)], args := [d1, d2] }
  | _ => none }
def FnFlatOffsetsWrongFalsely : Prop := fnFlatOffsetsRow.holds Try.pinned (OpenSpec.ofChange fnFlatOffsetsWrong)

/-- 'laws.FnExactUsefulPairs': WHATEVER THE INPUT: true; the input reads as it did. -/
def fnExactUsefulPairsSpec : ChangeSpec := { name := "fnExactUsefulPairs", fn := fun _ => fun
  | [d1, d2] => { results := [.lit (.bool true)], args := [d1, d2] }
  | _ => none }
def fnExactUsefulPairsRow : OpenClaim := { program := "ytdbkoicbhddpfaa", sum := "0c0e2cf15a6d936e7e1cd01c90795c80282ce2b89a6f52ee257bb504a9920f87", func := "loop.example/linkedroots/laws.FnExactUsefulPairs", spec := "fnExactUsefulPairs", unfollowed := true, recurses := true, apart := false }
def FnExactUsefulPairsSaid : Prop := fnExactUsefulPairsRow.holds Try.pinned (OpenSpec.ofChange fnExactUsefulPairsSpec)

/-- ITS FALSE NEIGHBOUR: 'it returns false'. Refute it at one input. -/
def fnExactUsefulPairsWrong : ChangeSpec := { name := "fnExactUsefulPairs", fn := fun _ => fun
  | [d1, d2] => { results := [.lit (.bool false)], args := [d1, d2] }
  | _ => none }
def FnExactUsefulPairsWrongFalsely : Prop := fnExactUsefulPairsRow.holds Try.pinned (OpenSpec.ofChange fnExactUsefulPairsWrong)

/-- 'laws.FnExactCountClasses': WHATEVER THE INPUT: true; the input reads as it did. -/
def fnExactCountClassesSpec : ChangeSpec := { name := "fnExactCountClasses", fn := fun _ => fun
  | [d1, d2] => { results := [.lit (.bool true)], args := [d1, d2] }
  | _ => none }
def fnExactCountClassesRow : OpenClaim := { program := "ytdbkoicbhddpfaa", sum := "0c0e2cf15a6d936e7e1cd01c90795c80282ce2b89a6f52ee257bb504a9920f87", func := "loop.example/linkedroots/laws.FnExactCountClasses", spec := "fnExactCountClasses", unfollowed := true, recurses := true, apart := false }
def FnExactCountClassesSaid : Prop := fnExactCountClassesRow.holds Try.pinned (OpenSpec.ofChange fnExactCountClassesSpec)

/-- ITS FALSE NEIGHBOUR: 'it returns false'. Refute it at one input. -/
def fnExactCountClassesWrong : ChangeSpec := { name := "fnExactCountClasses", fn := fun _ => fun
  | [d1, d2] => { results := [.lit (.bool false)], args := [d1, d2] }
  | _ => none }
def FnExactCountClassesWrongFalsely : Prop := fnExactCountClassesRow.holds Try.pinned (OpenSpec.ofChange fnExactCountClassesWrong)

/-- 'laws.FnExactUndoLog': WHATEVER THE INPUT: true; the input reads as it did. -/
def fnExactUndoLogSpec : ChangeSpec := { name := "fnExactUndoLog", fn := fun _ => fun
  | [d] => { results := [.lit (.bool true)], args := [d] }
  | _ => none }
def fnExactUndoLogRow : OpenClaim := { program := "ytdbkoicbhddpfaa", sum := "0c0e2cf15a6d936e7e1cd01c90795c80282ce2b89a6f52ee257bb504a9920f87", func := "loop.example/linkedroots/laws.FnExactUndoLog", spec := "fnExactUndoLog", unfollowed := true, recurses := true, apart := false }
def FnExactUndoLogSaid : Prop := fnExactUndoLogRow.holds Try.pinned (OpenSpec.ofChange fnExactUndoLogSpec)

/-- ITS FALSE NEIGHBOUR: 'it returns false'. Refute it at one input. -/
def fnExactUndoLogWrong : ChangeSpec := { name := "fnExactUndoLog", fn := fun _ => fun
  | [d] => { results := [.lit (.bool false)], args := [d] }
  | _ => none }
def FnExactUndoLogWrongFalsely : Prop := fnExactUndoLogRow.holds Try.pinned (OpenSpec.ofChange fnExactUndoLogWrong)

/-- 'laws.FnExactBackTo': WHATEVER THE INPUT: true; the input reads as it did. -/
def fnExactBackToSpec : ChangeSpec := { name := "fnExactBackTo", fn := fun _ => fun
  | [d1, d2] => { results := [.lit (.bool true)], args := [d1, d2] }
  | _ => none }
def fnExactBackToRow : OpenClaim := { program := "ytdbkoicbhddpfaa", sum := "0c0e2cf15a6d936e7e1cd01c90795c80282ce2b89a6f52ee257bb504a9920f87", func := "loop.example/linkedroots/laws.FnExactBackTo", spec := "fnExactBackTo", unfollowed := true, recurses := true, apart := false }
def FnExactBackToSaid : Prop := fnExactBackToRow.holds Try.pinned (OpenSpec.ofChange fnExactBackToSpec)

/-- ITS FALSE NEIGHBOUR: 'it returns false'. Refute it at one input. -/
def fnExactBackToWrong : ChangeSpec := { name := "fnExactBackTo", fn := fun _ => fun
  | [d1, d2] => { results := [.lit (.bool false)], args := [d1, d2] }
  | _ => none }
def FnExactBackToWrongFalsely : Prop := fnExactBackToRow.holds Try.pinned (OpenSpec.ofChange fnExactBackToWrong)

/-- 'laws.FnExactJoinedAt': WHATEVER THE INPUT: true; the input reads as it did. -/
def fnExactJoinedAtSpec : ChangeSpec := { name := "fnExactJoinedAt", fn := fun _ => fun
  | [d1, d2, d3] => { results := [.lit (.bool true)], args := [d1, d2, d3] }
  | _ => none }
def fnExactJoinedAtRow : OpenClaim := { program := "ytdbkoicbhddpfaa", sum := "0c0e2cf15a6d936e7e1cd01c90795c80282ce2b89a6f52ee257bb504a9920f87", func := "loop.example/linkedroots/laws.FnExactJoinedAt", spec := "fnExactJoinedAt", unfollowed := true, recurses := true, apart := false }
def FnExactJoinedAtSaid : Prop := fnExactJoinedAtRow.holds Try.pinned (OpenSpec.ofChange fnExactJoinedAtSpec)

/-- ITS FALSE NEIGHBOUR: 'it returns false'. Refute it at one input. -/
def fnExactJoinedAtWrong : ChangeSpec := { name := "fnExactJoinedAt", fn := fun _ => fun
  | [d1, d2, d3] => { results := [.lit (.bool false)], args := [d1, d2, d3] }
  | _ => none }
def FnExactJoinedAtWrongFalsely : Prop := fnExactJoinedAtRow.holds Try.pinned (OpenSpec.ofChange fnExactJoinedAtWrong)

/-- 'laws.FnExactValuesOf': WHATEVER THE INPUT: true; the input reads as it did. -/
def fnExactValuesOfSpec : ChangeSpec := { name := "fnExactValuesOf", fn := fun _ => fun
  | [d] => { results := [.lit (.bool true)], args := [d] }
  | _ => none }
def fnExactValuesOfRow : OpenClaim := { program := "ytdbkoicbhddpfaa", sum := "0c0e2cf15a6d936e7e1cd01c90795c80282ce2b89a6f52ee257bb504a9920f87", func := "loop.example/linkedroots/laws.FnExactValuesOf", spec := "fnExactValuesOf", unfollowed := true, recurses := true, apart := false }
def FnExactValuesOfSaid : Prop := fnExactValuesOfRow.holds Try.pinned (OpenSpec.ofChange fnExactValuesOfSpec)

/-- ITS FALSE NEIGHBOUR: 'it returns false'. Refute it at one input. -/
def fnExactValuesOfWrong : ChangeSpec := { name := "fnExactValuesOf", fn := fun _ => fun
  | [d] => { results := [.lit (.bool false)], args := [d] }
  | _ => none }
def FnExactValuesOfWrongFalsely : Prop := fnExactValuesOfRow.holds Try.pinned (OpenSpec.ofChange fnExactValuesOfWrong)

/-- 'laws.FnExactFlatOffsets': WHATEVER THE INPUT: true; the input reads as it did. -/
def fnExactFlatOffsetsSpec : ChangeSpec := { name := "fnExactFlatOffsets", fn := fun _ => fun
  | [d] => { results := [.lit (.bool true)], args := [d] }
  | _ => none }
def fnExactFlatOffsetsRow : OpenClaim := { program := "ytdbkoicbhddpfaa", sum := "0c0e2cf15a6d936e7e1cd01c90795c80282ce2b89a6f52ee257bb504a9920f87", func := "loop.example/linkedroots/laws.FnExactFlatOffsets", spec := "fnExactFlatOffsets", unfollowed := true, recurses := true, apart := false }
def FnExactFlatOffsetsSaid : Prop := fnExactFlatOffsetsRow.holds Try.pinned (OpenSpec.ofChange fnExactFlatOffsetsSpec)

/-- ITS FALSE NEIGHBOUR: 'it returns false'. Refute it at one input. -/
def fnExactFlatOffsetsWrong : ChangeSpec := { name := "fnExactFlatOffsets", fn := fun _ => fun
  | [d] => { results := [.lit (.bool false)], args := [d] }
  | _ => none }
def FnExactFlatOffsetsWrongFalsely : Prop := fnExactFlatOffsetsRow.holds Try.pinned (OpenSpec.ofChange fnExactFlatOffsetsWrong)

/-- 'laws.FnExactWayBetween': WHATEVER THE INPUT: true; the input reads as it did. -/
def fnExactWayBetweenSpec : ChangeSpec := { name := "fnExactWayBetween", fn := fun _ => fun
  | [d1, d2, d3, d4] => { results := [.lit (.bool true)], args := [d1, d2, d3, d4] }
  | _ => none }
def fnExactWayBetweenRow : OpenClaim := { program := "ytdbkoicbhddpfaa", sum := "0c0e2cf15a6d936e7e1cd01c90795c80282ce2b89a6f52ee257bb504a9920f87", func := "loop.example/linkedroots/laws.FnExactWayBetween", spec := "fnExactWayBetween", unfollowed := true, recurses := true, apart := false }
def FnExactWayBetweenSaid : Prop := fnExactWayBetweenRow.holds Try.pinned (OpenSpec.ofChange fnExactWayBetweenSpec)

/-- ITS FALSE NEIGHBOUR: 'it returns false'. Refute it at one input. -/
def fnExactWayBetweenWrong : ChangeSpec := { name := "fnExactWayBetween", fn := fun _ => fun
  | [d1, d2, d3, d4] => { results := [.lit (.bool false)], args := [d1, d2, d3, d4] }
  | _ => none }
def FnExactWayBetweenWrongFalsely : Prop := fnExactWayBetweenRow.holds Try.pinned (OpenSpec.ofChange fnExactWayBetweenWrong)

/- THE SECOND FORM. 'bulk': how many values and letters a reading holds, each counted each time it is reached (what is shared counts as often as it is met; a slice's spare places count too). A statement '..UptoSaid' is the law's where the arguments, and the package variables that the reading takes, are together of bulk at most 1048576: NARROWER than '..Said'. Prove '..Said' where nothing that the law and all that it calls make is longer than what came in: it says more and counts as full. Else prove '..UptoSaid'. A law counts once. -/
mutual
def uptoBulk {H : Type} : DataW H → Nat
  | .lit (.string bytes) => bytes.length + 1
  | .lit _ => 1
  | .nil => 1
  | .ptr d => uptoBulk d + 1
  | .slice elems spare => uptoBulkAll elems + uptoBulkAll spare + 1
  | .agg parts => uptoBulkAll parts + 1
  | .iface _ d => uptoBulk d + 1
  | .map entries => uptoBulkEntries entries + 1
  | .held _ => 1
def uptoBulkAll {H : Type} : List (DataW H) → Nat
  | [] => 0
  | d :: r => uptoBulk d + uptoBulkAll r
def uptoBulkEntries {H : Type} : List (Lit × DataW H) → Nat
  | [] => 0
  | x :: r => uptoBulkEntry x + uptoBulkEntries r
def uptoBulkEntry {H : Type} : Lit × DataW H → Nat
  | (.string bytes, d) => bytes.length + uptoBulk d + 1
  | (_, d) => uptoBulk d + 1
 end
def uptoSmall : (H : Type) → List (DataW H) → Bool := fun _ ds => decide (uptoBulkAll ds ≤ 1048576)
def OpenSpec.upto (s : _root_.Go.ChangeSpec) : _root_.Go.OpenSpec := { _root_.Go.OpenSpec.ofChange s with cond := some uptoSmall }

/-- 'laws.FnUndo', WHERE WHAT IT READS IS OF BULK AT MOST 1048576: true; the input reads as it did. -/
def fnUndoUptoRow : OpenClaim := { program := "ytdbkoicbhddpfaa", sum := "0c0e2cf15a6d936e7e1cd01c90795c80282ce2b89a6f52ee257bb504a9920f87", func := "loop.example/linkedroots/laws.FnUndo", spec := "fnUndo", unfollowed := true, recurses := true, apart := false, narrowed := true }
def FnUndoUptoSaid : Prop := fnUndoUptoRow.holds Try.pinned (OpenSpec.upto fnUndoSpec)

/-- 'laws.FnBackTo', WHERE WHAT IT READS IS OF BULK AT MOST 1048576: true; the input reads as it did. -/
def fnBackToUptoRow : OpenClaim := { program := "ytdbkoicbhddpfaa", sum := "0c0e2cf15a6d936e7e1cd01c90795c80282ce2b89a6f52ee257bb504a9920f87", func := "loop.example/linkedroots/laws.FnBackTo", spec := "fnBackTo", unfollowed := true, recurses := true, apart := false, narrowed := true }
def FnBackToUptoSaid : Prop := fnBackToUptoRow.holds Try.pinned (OpenSpec.upto fnBackToSpec)

/-- 'laws.FnLogOf', WHERE WHAT IT READS IS OF BULK AT MOST 1048576: true; the input reads as it did. -/
def fnLogOfUptoRow : OpenClaim := { program := "ytdbkoicbhddpfaa", sum := "0c0e2cf15a6d936e7e1cd01c90795c80282ce2b89a6f52ee257bb504a9920f87", func := "loop.example/linkedroots/laws.FnLogOf", spec := "fnLogOf", unfollowed := true, recurses := true, apart := false, narrowed := true }
def FnLogOfUptoSaid : Prop := fnLogOfUptoRow.holds Try.pinned (OpenSpec.upto fnLogOfSpec)

/-- 'laws.FnUndoAll', WHERE WHAT IT READS IS OF BULK AT MOST 1048576: true; the input reads as it did. -/
def fnUndoAllUptoRow : OpenClaim := { program := "ytdbkoicbhddpfaa", sum := "0c0e2cf15a6d936e7e1cd01c90795c80282ce2b89a6f52ee257bb504a9920f87", func := "loop.example/linkedroots/laws.FnUndoAll", spec := "fnUndoAll", unfollowed := true, recurses := true, apart := false, narrowed := true }
def FnUndoAllUptoSaid : Prop := fnUndoAllUptoRow.holds Try.pinned (OpenSpec.upto fnUndoAllSpec)

/-- 'laws.FnJoinedThree', WHERE WHAT IT READS IS OF BULK AT MOST 1048576: true; the input reads as it did. -/
def fnJoinedThreeUptoRow : OpenClaim := { program := "ytdbkoicbhddpfaa", sum := "0c0e2cf15a6d936e7e1cd01c90795c80282ce2b89a6f52ee257bb504a9920f87", func := "loop.example/linkedroots/laws.FnJoinedThree", spec := "fnJoinedThree", unfollowed := true, recurses := true, apart := false, narrowed := true }
def FnJoinedThreeUptoSaid : Prop := fnJoinedThreeUptoRow.holds Try.pinned (OpenSpec.upto fnJoinedThreeSpec)

/-- 'laws.FnLogParts', WHERE WHAT IT READS IS OF BULK AT MOST 1048576: true; the input reads as it did. -/
def fnLogPartsUptoRow : OpenClaim := { program := "ytdbkoicbhddpfaa", sum := "0c0e2cf15a6d936e7e1cd01c90795c80282ce2b89a6f52ee257bb504a9920f87", func := "loop.example/linkedroots/laws.FnLogParts", spec := "fnLogParts", unfollowed := true, recurses := true, apart := false, narrowed := true }
def FnLogPartsUptoSaid : Prop := fnLogPartsUptoRow.holds Try.pinned (OpenSpec.upto fnLogPartsSpec)

/-- 'laws.FnFlatOffsets', WHERE WHAT IT READS IS OF BULK AT MOST 1048576: true; the input reads as it did. -/
def fnFlatOffsetsUptoRow : OpenClaim := { program := "ytdbkoicbhddpfaa", sum := "0c0e2cf15a6d936e7e1cd01c90795c80282ce2b89a6f52ee257bb504a9920f87", func := "loop.example/linkedroots/laws.FnFlatOffsets", spec := "fnFlatOffsets", unfollowed := true, recurses := true, apart := false, narrowed := true }
def FnFlatOffsetsUptoSaid : Prop := fnFlatOffsetsUptoRow.holds Try.pinned (OpenSpec.upto fnFlatOffsetsSpec)

/-- 'laws.FnExactUsefulPairs', WHERE WHAT IT READS IS OF BULK AT MOST 1048576: true; the input reads as it did. -/
def fnExactUsefulPairsUptoRow : OpenClaim := { program := "ytdbkoicbhddpfaa", sum := "0c0e2cf15a6d936e7e1cd01c90795c80282ce2b89a6f52ee257bb504a9920f87", func := "loop.example/linkedroots/laws.FnExactUsefulPairs", spec := "fnExactUsefulPairs", unfollowed := true, recurses := true, apart := false, narrowed := true }
def FnExactUsefulPairsUptoSaid : Prop := fnExactUsefulPairsUptoRow.holds Try.pinned (OpenSpec.upto fnExactUsefulPairsSpec)

/-- 'laws.FnExactCountClasses', WHERE WHAT IT READS IS OF BULK AT MOST 1048576: true; the input reads as it did. -/
def fnExactCountClassesUptoRow : OpenClaim := { program := "ytdbkoicbhddpfaa", sum := "0c0e2cf15a6d936e7e1cd01c90795c80282ce2b89a6f52ee257bb504a9920f87", func := "loop.example/linkedroots/laws.FnExactCountClasses", spec := "fnExactCountClasses", unfollowed := true, recurses := true, apart := false, narrowed := true }
def FnExactCountClassesUptoSaid : Prop := fnExactCountClassesUptoRow.holds Try.pinned (OpenSpec.upto fnExactCountClassesSpec)

/-- 'laws.FnExactUndoLog', WHERE WHAT IT READS IS OF BULK AT MOST 1048576: true; the input reads as it did. -/
def fnExactUndoLogUptoRow : OpenClaim := { program := "ytdbkoicbhddpfaa", sum := "0c0e2cf15a6d936e7e1cd01c90795c80282ce2b89a6f52ee257bb504a9920f87", func := "loop.example/linkedroots/laws.FnExactUndoLog", spec := "fnExactUndoLog", unfollowed := true, recurses := true, apart := false, narrowed := true }
def FnExactUndoLogUptoSaid : Prop := fnExactUndoLogUptoRow.holds Try.pinned (OpenSpec.upto fnExactUndoLogSpec)

/-- 'laws.FnExactBackTo', WHERE WHAT IT READS IS OF BULK AT MOST 1048576: true; the input reads as it did. -/
def fnExactBackToUptoRow : OpenClaim := { program := "ytdbkoicbhddpfaa", sum := "0c0e2cf15a6d936e7e1cd01c90795c80282ce2b89a6f52ee257bb504a9920f87", func := "loop.example/linkedroots/laws.FnExactBackTo", spec := "fnExactBackTo", unfollowed := true, recurses := true, apart := false, narrowed := true }
def FnExactBackToUptoSaid : Prop := fnExactBackToUptoRow.holds Try.pinned (OpenSpec.upto fnExactBackToSpec)

/-- 'laws.FnExactJoinedAt', WHERE WHAT IT READS IS OF BULK AT MOST 1048576: true; the input reads as it did. -/
def fnExactJoinedAtUptoRow : OpenClaim := { program := "ytdbkoicbhddpfaa", sum := "0c0e2cf15a6d936e7e1cd01c90795c80282ce2b89a6f52ee257bb504a9920f87", func := "loop.example/linkedroots/laws.FnExactJoinedAt", spec := "fnExactJoinedAt", unfollowed := true, recurses := true, apart := false, narrowed := true }
def FnExactJoinedAtUptoSaid : Prop := fnExactJoinedAtUptoRow.holds Try.pinned (OpenSpec.upto fnExactJoinedAtSpec)

/-- 'laws.FnExactValuesOf', WHERE WHAT IT READS IS OF BULK AT MOST 1048576: true; the input reads as it did. -/
def fnExactValuesOfUptoRow : OpenClaim := { program := "ytdbkoicbhddpfaa", sum := "0c0e2cf15a6d936e7e1cd01c90795c80282ce2b89a6f52ee257bb504a9920f87", func := "loop.example/linkedroots/laws.FnExactValuesOf", spec := "fnExactValuesOf", unfollowed := true, recurses := true, apart := false, narrowed := true }
def FnExactValuesOfUptoSaid : Prop := fnExactValuesOfUptoRow.holds Try.pinned (OpenSpec.upto fnExactValuesOfSpec)

/-- 'laws.FnExactFlatOffsets', WHERE WHAT IT READS IS OF BULK AT MOST 1048576: true; the input reads as it did. -/
def fnExactFlatOffsetsUptoRow : OpenClaim := { program := "ytdbkoicbhddpfaa", sum := "0c0e2cf15a6d936e7e1cd01c90795c80282ce2b89a6f52ee257bb504a9920f87", func := "loop.example/linkedroots/laws.FnExactFlatOffsets", spec := "fnExactFlatOffsets", unfollowed := true, recurses := true, apart := false, narrowed := true }
def FnExactFlatOffsetsUptoSaid : Prop := fnExactFlatOffsetsUptoRow.holds Try.pinned (OpenSpec.upto fnExactFlatOffsetsSpec)

/-- 'laws.FnExactWayBetween', WHERE WHAT IT READS IS OF BULK AT MOST 1048576: true; the input reads as it did. -/
def fnExactWayBetweenUptoRow : OpenClaim := { program := "ytdbkoicbhddpfaa", sum := "0c0e2cf15a6d936e7e1cd01c90795c80282ce2b89a6f52ee257bb504a9920f87", func := "loop.example/linkedroots/laws.FnExactWayBetween", spec := "fnExactWayBetween", unfollowed := true, recurses := true, apart := false, narrowed := true }
def FnExactWayBetweenUptoSaid : Prop := fnExactWayBetweenUptoRow.holds Try.pinned (OpenSpec.upto fnExactWayBetweenSpec)

end Rows
end Go.Proofs.Ytdbkoicbhddpfaa
