/-
  NARROWER THAN 'FOR EVERY INPUT', by the rows' own cells (each row's printed sentence says how): FnExactFormatForest: laid · FnExactFormatPairs: laid · FnExactFormatLog: laid · FnExactFormatFacts: laid · FnExactFormatOffsets: laid · FnExactFormatTimed: laid.
  DERIVED. THE GIVEN ROWS OF THIS SEAT. 6 by the template 'for every input the law returns true; each argument reads behind the call as it read before'; 0 by the template 'total and deterministic' (their statements: YtfmhdngblpmcfaaDoorTotals.lean).
  GIVEN WITH THE SEED: the statements are not yours to turn. If you find one false, say at which input.
  Laid BY PROGRAM, IN A SANDBOX (cutbox-rows.mjs): the forced cells as the released guide's own fill.sh prints them over the translation f7a53a60581106b7… (all of the seat's roots in one cut). By AI agents, Wed Nov 11 2026. No macro, syntax, notation, axiom, sorry.
-/
import Derived.Test.YtfmhdngblpmcfaaDoorChecked
import GoSem.Claim
import GoSem.ClaimJoined
import GoSem.ClaimMapViews
import Derived.JoinedTies
import Derived.KernelRfl
namespace Go.Proofs.YtfmhdngblpmcfaaDoor
/- THE CELL 'sum', in the pinned program and in every row, IS THE sha256 OF THE DUMP (.gsa) THAT YtfmhdngblpmcfaaDoorProg.lean LOADS. Nothing in Lean hashes anything: it is a label: what it is worth is what the hold of that sum in a sandbox is worth. -/
noncomputable def Tryd.pinned : Pinned := { name := "ytfmhdngblpmcfaadoor", sum := "f7a53a60581106b7ecf7a2f52edb063256a3bde92c1b975db60cc06af54d8994", checked := Tryd.checked }
namespace Rows
def none {H : Type} : Left H := { results := [], args := [] }

/- WHAT THE LISTED PACKAGE-LEVEL VARIABLES READ AS WHEN THE CALL BEGINS. Each datum BY PROGRAM (the guide's laid-datum.mjs) off the statement by which the dump's own 'gosem.cut.vars' lays the variable. In a bare row this is a premise. The card (YtfmhdngblpmcfaaDoorCards.lean) ties it to the program's text. -/
def laid_math_bits_deBruijn32tab {H : Type} : DataW H := .agg [.lit (.int .u8 0), .lit (.int .u8 1), .lit (.int .u8 28), .lit (.int .u8 2), .lit (.int .u8 29), .lit (.int .u8 14), .lit (.int .u8 24), .lit (.int .u8 3), .lit (.int .u8 30), .lit (.int .u8 22), .lit (.int .u8 20), .lit (.int .u8 15), .lit (.int .u8 25), .lit (.int .u8 17), .lit (.int .u8 4), .lit (.int .u8 8), .lit (.int .u8 31), .lit (.int .u8 27), .lit (.int .u8 13), .lit (.int .u8 23), .lit (.int .u8 21), .lit (.int .u8 19), .lit (.int .u8 16), .lit (.int .u8 7), .lit (.int .u8 26), .lit (.int .u8 12), .lit (.int .u8 18), .lit (.int .u8 6), .lit (.int .u8 11), .lit (.int .u8 5), .lit (.int .u8 10), .lit (.int .u8 9)]
def laid_math_bits_deBruijn64tab {H : Type} : DataW H := .agg [.lit (.int .u8 0), .lit (.int .u8 1), .lit (.int .u8 56), .lit (.int .u8 2), .lit (.int .u8 57), .lit (.int .u8 49), .lit (.int .u8 28), .lit (.int .u8 3), .lit (.int .u8 61), .lit (.int .u8 58), .lit (.int .u8 42), .lit (.int .u8 50), .lit (.int .u8 38), .lit (.int .u8 29), .lit (.int .u8 17), .lit (.int .u8 4), .lit (.int .u8 62), .lit (.int .u8 47), .lit (.int .u8 59), .lit (.int .u8 36), .lit (.int .u8 45), .lit (.int .u8 43), .lit (.int .u8 51), .lit (.int .u8 22), .lit (.int .u8 53), .lit (.int .u8 39), .lit (.int .u8 33), .lit (.int .u8 30), .lit (.int .u8 24), .lit (.int .u8 18), .lit (.int .u8 12), .lit (.int .u8 5), .lit (.int .u8 63), .lit (.int .u8 55), .lit (.int .u8 48), .lit (.int .u8 27), .lit (.int .u8 60), .lit (.int .u8 41), .lit (.int .u8 37), .lit (.int .u8 16), .lit (.int .u8 46), .lit (.int .u8 35), .lit (.int .u8 44), .lit (.int .u8 21), .lit (.int .u8 52), .lit (.int .u8 32), .lit (.int .u8 23), .lit (.int .u8 11), .lit (.int .u8 54), .lit (.int .u8 26), .lit (.int .u8 40), .lit (.int .u8 15), .lit (.int .u8 34), .lit (.int .u8 20), .lit (.int .u8 31), .lit (.int .u8 10), .lit (.int .u8 25), .lit (.int .u8 14), .lit (.int .u8 19), .lit (.int .u8 9), .lit (.int .u8 13), .lit (.int .u8 8), .lit (.int .u8 7), .lit (.int .u8 6)]
def laid_internal_strconv_uint64pow10 {H : Type} : DataW H := .agg [.lit (.int .u64 1), .lit (.int .u64 10), .lit (.int .u64 100), .lit (.int .u64 1000), .lit (.int .u64 10000), .lit (.int .u64 100000), .lit (.int .u64 1000000), .lit (.int .u64 10000000), .lit (.int .u64 100000000), .lit (.int .u64 1000000000), .lit (.int .u64 10000000000), .lit (.int .u64 100000000000), .lit (.int .u64 1000000000000), .lit (.int .u64 10000000000000), .lit (.int .u64 100000000000000), .lit (.int .u64 1000000000000000), .lit (.int .u64 10000000000000000), .lit (.int .u64 100000000000000000), .lit (.int .u64 1000000000000000000), .lit (.int .u64 10000000000000000000)]

/-- 'laws.FnExactFormatForest': WHATEVER THE INPUT: true; the input reads as it did. -/
def fnExactFormatForestSpec : ChangeSpec := { name := "fnExactFormatForest", fn := fun _ => fun
  | [d] => { results := [.lit (.bool true)], args := [d] }
  | _ => none }
def fnExactFormatForestRow : OpenClaim := { program := "ytfmhdngblpmcfaadoor", sum := "f7a53a60581106b7ecf7a2f52edb063256a3bde92c1b975db60cc06af54d8994", func := "loop.example/linkedroots/laws.FnExactFormatForest", spec := "fnExactFormatForest", inPlace := ["internal/abi.NoEscape", "internal/bytealg.MakeNoZero"], unfollowed := true, recurses := true, named := ["internal/strconv.uint64pow10", "math/bits.deBruijn32tab", "math/bits.deBruijn64tab"], apart := false, laid := [("math/bits.deBruijn32tab", laid_math_bits_deBruijn32tab), ("math/bits.deBruijn64tab", laid_math_bits_deBruijn64tab), ("internal/strconv.uint64pow10", laid_internal_strconv_uint64pow10)] }
def FnExactFormatForestSaid : Prop := fnExactFormatForestRow.holds Tryd.pinned (OpenSpec.ofChange fnExactFormatForestSpec)

/-- ITS FALSE NEIGHBOUR: 'it returns false'. Refute it at one input. -/
def fnExactFormatForestWrong : ChangeSpec := { name := "fnExactFormatForest", fn := fun _ => fun
  | [d] => { results := [.lit (.bool false)], args := [d] }
  | _ => none }
def FnExactFormatForestWrongFalsely : Prop := fnExactFormatForestRow.holds Tryd.pinned (OpenSpec.ofChange fnExactFormatForestWrong)

/-- 'laws.FnExactFormatPairs': WHATEVER THE INPUT: true; the input reads as it did. -/
def fnExactFormatPairsSpec : ChangeSpec := { name := "fnExactFormatPairs", fn := fun _ => fun
  | [d] => { results := [.lit (.bool true)], args := [d] }
  | _ => none }
def fnExactFormatPairsRow : OpenClaim := { program := "ytfmhdngblpmcfaadoor", sum := "f7a53a60581106b7ecf7a2f52edb063256a3bde92c1b975db60cc06af54d8994", func := "loop.example/linkedroots/laws.FnExactFormatPairs", spec := "fnExactFormatPairs", inPlace := ["internal/abi.NoEscape", "internal/bytealg.MakeNoZero"], unfollowed := true, recurses := true, named := ["internal/strconv.uint64pow10", "math/bits.deBruijn32tab", "math/bits.deBruijn64tab"], apart := false, laid := [("math/bits.deBruijn32tab", laid_math_bits_deBruijn32tab), ("math/bits.deBruijn64tab", laid_math_bits_deBruijn64tab), ("internal/strconv.uint64pow10", laid_internal_strconv_uint64pow10)] }
def FnExactFormatPairsSaid : Prop := fnExactFormatPairsRow.holds Tryd.pinned (OpenSpec.ofChange fnExactFormatPairsSpec)

/-- ITS FALSE NEIGHBOUR: 'it returns false'. Refute it at one input. -/
def fnExactFormatPairsWrong : ChangeSpec := { name := "fnExactFormatPairs", fn := fun _ => fun
  | [d] => { results := [.lit (.bool false)], args := [d] }
  | _ => none }
def FnExactFormatPairsWrongFalsely : Prop := fnExactFormatPairsRow.holds Tryd.pinned (OpenSpec.ofChange fnExactFormatPairsWrong)

/-- 'laws.FnExactFormatLog': WHATEVER THE INPUT: true; the input reads as it did. -/
def fnExactFormatLogSpec : ChangeSpec := { name := "fnExactFormatLog", fn := fun _ => fun
  | [d] => { results := [.lit (.bool true)], args := [d] }
  | _ => none }
def fnExactFormatLogRow : OpenClaim := { program := "ytfmhdngblpmcfaadoor", sum := "f7a53a60581106b7ecf7a2f52edb063256a3bde92c1b975db60cc06af54d8994", func := "loop.example/linkedroots/laws.FnExactFormatLog", spec := "fnExactFormatLog", inPlace := ["internal/abi.NoEscape", "internal/bytealg.MakeNoZero"], unfollowed := true, recurses := true, named := ["internal/strconv.uint64pow10", "math/bits.deBruijn32tab", "math/bits.deBruijn64tab"], apart := false, laid := [("math/bits.deBruijn32tab", laid_math_bits_deBruijn32tab), ("math/bits.deBruijn64tab", laid_math_bits_deBruijn64tab), ("internal/strconv.uint64pow10", laid_internal_strconv_uint64pow10)] }
def FnExactFormatLogSaid : Prop := fnExactFormatLogRow.holds Tryd.pinned (OpenSpec.ofChange fnExactFormatLogSpec)

/-- ITS FALSE NEIGHBOUR: 'it returns false'. Refute it at one input. -/
def fnExactFormatLogWrong : ChangeSpec := { name := "fnExactFormatLog", fn := fun _ => fun
  | [d] => { results := [.lit (.bool false)], args := [d] }
  | _ => none }
def FnExactFormatLogWrongFalsely : Prop := fnExactFormatLogRow.holds Tryd.pinned (OpenSpec.ofChange fnExactFormatLogWrong)

/-- 'laws.FnExactFormatFacts': WHATEVER THE INPUT: true; the input reads as it did. -/
def fnExactFormatFactsSpec : ChangeSpec := { name := "fnExactFormatFacts", fn := fun _ => fun
  | [d] => { results := [.lit (.bool true)], args := [d] }
  | _ => none }
def fnExactFormatFactsRow : OpenClaim := { program := "ytfmhdngblpmcfaadoor", sum := "f7a53a60581106b7ecf7a2f52edb063256a3bde92c1b975db60cc06af54d8994", func := "loop.example/linkedroots/laws.FnExactFormatFacts", spec := "fnExactFormatFacts", inPlace := ["internal/abi.NoEscape", "internal/bytealg.MakeNoZero"], unfollowed := true, recurses := true, named := ["internal/strconv.uint64pow10", "math/bits.deBruijn32tab", "math/bits.deBruijn64tab"], apart := false, laid := [("math/bits.deBruijn32tab", laid_math_bits_deBruijn32tab), ("math/bits.deBruijn64tab", laid_math_bits_deBruijn64tab), ("internal/strconv.uint64pow10", laid_internal_strconv_uint64pow10)] }
def FnExactFormatFactsSaid : Prop := fnExactFormatFactsRow.holds Tryd.pinned (OpenSpec.ofChange fnExactFormatFactsSpec)

/-- ITS FALSE NEIGHBOUR: 'it returns false'. Refute it at one input. -/
def fnExactFormatFactsWrong : ChangeSpec := { name := "fnExactFormatFacts", fn := fun _ => fun
  | [d] => { results := [.lit (.bool false)], args := [d] }
  | _ => none }
def FnExactFormatFactsWrongFalsely : Prop := fnExactFormatFactsRow.holds Tryd.pinned (OpenSpec.ofChange fnExactFormatFactsWrong)

/-- 'laws.FnExactFormatOffsets': WHATEVER THE INPUT: true; the input reads as it did. -/
def fnExactFormatOffsetsSpec : ChangeSpec := { name := "fnExactFormatOffsets", fn := fun _ => fun
  | [d] => { results := [.lit (.bool true)], args := [d] }
  | _ => none }
def fnExactFormatOffsetsRow : OpenClaim := { program := "ytfmhdngblpmcfaadoor", sum := "f7a53a60581106b7ecf7a2f52edb063256a3bde92c1b975db60cc06af54d8994", func := "loop.example/linkedroots/laws.FnExactFormatOffsets", spec := "fnExactFormatOffsets", inPlace := ["internal/abi.NoEscape", "internal/bytealg.MakeNoZero"], unfollowed := true, recurses := true, named := ["internal/strconv.uint64pow10", "math/bits.deBruijn32tab", "math/bits.deBruijn64tab"], apart := false, laid := [("math/bits.deBruijn32tab", laid_math_bits_deBruijn32tab), ("math/bits.deBruijn64tab", laid_math_bits_deBruijn64tab), ("internal/strconv.uint64pow10", laid_internal_strconv_uint64pow10)] }
def FnExactFormatOffsetsSaid : Prop := fnExactFormatOffsetsRow.holds Tryd.pinned (OpenSpec.ofChange fnExactFormatOffsetsSpec)

/-- ITS FALSE NEIGHBOUR: 'it returns false'. Refute it at one input. -/
def fnExactFormatOffsetsWrong : ChangeSpec := { name := "fnExactFormatOffsets", fn := fun _ => fun
  | [d] => { results := [.lit (.bool false)], args := [d] }
  | _ => none }
def FnExactFormatOffsetsWrongFalsely : Prop := fnExactFormatOffsetsRow.holds Tryd.pinned (OpenSpec.ofChange fnExactFormatOffsetsWrong)

/-- 'laws.FnExactFormatTimed': WHATEVER THE INPUT: true; the input reads as it did. -/
def fnExactFormatTimedSpec : ChangeSpec := { name := "fnExactFormatTimed", fn := fun _ => fun
  | [d] => { results := [.lit (.bool true)], args := [d] }
  | _ => none }
def fnExactFormatTimedRow : OpenClaim := { program := "ytfmhdngblpmcfaadoor", sum := "f7a53a60581106b7ecf7a2f52edb063256a3bde92c1b975db60cc06af54d8994", func := "loop.example/linkedroots/laws.FnExactFormatTimed", spec := "fnExactFormatTimed", inPlace := ["internal/abi.NoEscape", "internal/bytealg.MakeNoZero"], unfollowed := true, recurses := true, named := ["internal/strconv.uint64pow10", "math/bits.deBruijn32tab", "math/bits.deBruijn64tab"], apart := false, laid := [("math/bits.deBruijn32tab", laid_math_bits_deBruijn32tab), ("math/bits.deBruijn64tab", laid_math_bits_deBruijn64tab), ("internal/strconv.uint64pow10", laid_internal_strconv_uint64pow10)] }
def FnExactFormatTimedSaid : Prop := fnExactFormatTimedRow.holds Tryd.pinned (OpenSpec.ofChange fnExactFormatTimedSpec)

/-- ITS FALSE NEIGHBOUR: 'it returns false'. Refute it at one input. -/
def fnExactFormatTimedWrong : ChangeSpec := { name := "fnExactFormatTimed", fn := fun _ => fun
  | [d] => { results := [.lit (.bool false)], args := [d] }
  | _ => none }
def FnExactFormatTimedWrongFalsely : Prop := fnExactFormatTimedRow.holds Tryd.pinned (OpenSpec.ofChange fnExactFormatTimedWrong)

/- THE SECOND FORM. 'bulk': how many values and letters a reading holds, each counted each time it is reached (what is shared counts as often as it is met; a slice's spare places count too). A statement '..UptoSaid' is the law's where the arguments, and the package variables that the reading takes, are together of bulk at most 1048576: NARROWER than '..Said'. Prove '..Said' where nothing that the law and all that it calls make is longer than what came in: it says more and counts as full. Else prove '..UptoSaid'. A law counts once. -/
mutual
def uptoBulk {H : Type} : DataW H → Nat
  | .lit (.string bytes) => bytes.length + 1
  | .lit _ => 1
  | .nil => 1
  | .ptr d => uptoBulk d + 1
  | .slice elems spare => uptoBulkAll elems + uptoBulkAll spare + 1
  | .agg parts => uptoBulkAll parts + 1
  | .iface _ d => uptoBulk d + 1
  | .map entries => uptoBulkEntries entries + 1
  | .held _ => 1
def uptoBulkAll {H : Type} : List (DataW H) → Nat
  | [] => 0
  | d :: r => uptoBulk d + uptoBulkAll r
def uptoBulkEntries {H : Type} : List (Lit × DataW H) → Nat
  | [] => 0
  | x :: r => uptoBulkEntry x + uptoBulkEntries r
def uptoBulkEntry {H : Type} : Lit × DataW H → Nat
  | (.string bytes, d) => bytes.length + uptoBulk d + 1
  | (_, d) => uptoBulk d + 1
 end
def uptoSmall : (H : Type) → List (DataW H) → Bool := fun _ ds => decide (uptoBulkAll ds ≤ 1048576)
def OpenSpec.upto (s : _root_.Go.ChangeSpec) : _root_.Go.OpenSpec := { _root_.Go.OpenSpec.ofChange s with cond := some uptoSmall }

/-- 'laws.FnExactFormatForest', WHERE WHAT IT READS IS OF BULK AT MOST 1048576: true; the input reads as it did. -/
def fnExactFormatForestUptoRow : OpenClaim := { program := "ytfmhdngblpmcfaadoor", sum := "f7a53a60581106b7ecf7a2f52edb063256a3bde92c1b975db60cc06af54d8994", func := "loop.example/linkedroots/laws.FnExactFormatForest", spec := "fnExactFormatForest", inPlace := ["internal/abi.NoEscape", "internal/bytealg.MakeNoZero"], unfollowed := true, recurses := true, named := ["internal/strconv.uint64pow10", "math/bits.deBruijn32tab", "math/bits.deBruijn64tab"], apart := false, laid := [("math/bits.deBruijn32tab", laid_math_bits_deBruijn32tab), ("math/bits.deBruijn64tab", laid_math_bits_deBruijn64tab), ("internal/strconv.uint64pow10", laid_internal_strconv_uint64pow10)], narrowed := true }
def FnExactFormatForestUptoSaid : Prop := fnExactFormatForestUptoRow.holds Tryd.pinned (OpenSpec.upto fnExactFormatForestSpec)

/-- 'laws.FnExactFormatPairs', WHERE WHAT IT READS IS OF BULK AT MOST 1048576: true; the input reads as it did. -/
def fnExactFormatPairsUptoRow : OpenClaim := { program := "ytfmhdngblpmcfaadoor", sum := "f7a53a60581106b7ecf7a2f52edb063256a3bde92c1b975db60cc06af54d8994", func := "loop.example/linkedroots/laws.FnExactFormatPairs", spec := "fnExactFormatPairs", inPlace := ["internal/abi.NoEscape", "internal/bytealg.MakeNoZero"], unfollowed := true, recurses := true, named := ["internal/strconv.uint64pow10", "math/bits.deBruijn32tab", "math/bits.deBruijn64tab"], apart := false, laid := [("math/bits.deBruijn32tab", laid_math_bits_deBruijn32tab), ("math/bits.deBruijn64tab", laid_math_bits_deBruijn64tab), ("internal/strconv.uint64pow10", laid_internal_strconv_uint64pow10)], narrowed := true }
def FnExactFormatPairsUptoSaid : Prop := fnExactFormatPairsUptoRow.holds Tryd.pinned (OpenSpec.upto fnExactFormatPairsSpec)

/-- 'laws.FnExactFormatLog', WHERE WHAT IT READS IS OF BULK AT MOST 1048576: true; the input reads as it did. -/
def fnExactFormatLogUptoRow : OpenClaim := { program := "ytfmhdngblpmcfaadoor", sum := "f7a53a60581106b7ecf7a2f52edb063256a3bde92c1b975db60cc06af54d8994", func := "loop.example/linkedroots/laws.FnExactFormatLog", spec := "fnExactFormatLog", inPlace := ["internal/abi.NoEscape", "internal/bytealg.MakeNoZero"], unfollowed := true, recurses := true, named := ["internal/strconv.uint64pow10", "math/bits.deBruijn32tab", "math/bits.deBruijn64tab"], apart := false, laid := [("math/bits.deBruijn32tab", laid_math_bits_deBruijn32tab), ("math/bits.deBruijn64tab", laid_math_bits_deBruijn64tab), ("internal/strconv.uint64pow10", laid_internal_strconv_uint64pow10)], narrowed := true }
def FnExactFormatLogUptoSaid : Prop := fnExactFormatLogUptoRow.holds Tryd.pinned (OpenSpec.upto fnExactFormatLogSpec)

/-- 'laws.FnExactFormatFacts', WHERE WHAT IT READS IS OF BULK AT MOST 1048576: true; the input reads as it did. -/
def fnExactFormatFactsUptoRow : OpenClaim := { program := "ytfmhdngblpmcfaadoor", sum := "f7a53a60581106b7ecf7a2f52edb063256a3bde92c1b975db60cc06af54d8994", func := "loop.example/linkedroots/laws.FnExactFormatFacts", spec := "fnExactFormatFacts", inPlace := ["internal/abi.NoEscape", "internal/bytealg.MakeNoZero"], unfollowed := true, recurses := true, named := ["internal/strconv.uint64pow10", "math/bits.deBruijn32tab", "math/bits.deBruijn64tab"], apart := false, laid := [("math/bits.deBruijn32tab", laid_math_bits_deBruijn32tab), ("math/bits.deBruijn64tab", laid_math_bits_deBruijn64tab), ("internal/strconv.uint64pow10", laid_internal_strconv_uint64pow10)], narrowed := true }
def FnExactFormatFactsUptoSaid : Prop := fnExactFormatFactsUptoRow.holds Tryd.pinned (OpenSpec.upto fnExactFormatFactsSpec)

/-- 'laws.FnExactFormatOffsets', WHERE WHAT IT READS IS OF BULK AT MOST 1048576: true; the input reads as it did. -/
def fnExactFormatOffsetsUptoRow : OpenClaim := { program := "ytfmhdngblpmcfaadoor", sum := "f7a53a60581106b7ecf7a2f52edb063256a3bde92c1b975db60cc06af54d8994", func := "loop.example/linkedroots/laws.FnExactFormatOffsets", spec := "fnExactFormatOffsets", inPlace := ["internal/abi.NoEscape", "internal/bytealg.MakeNoZero"], unfollowed := true, recurses := true, named := ["internal/strconv.uint64pow10", "math/bits.deBruijn32tab", "math/bits.deBruijn64tab"], apart := false, laid := [("math/bits.deBruijn32tab", laid_math_bits_deBruijn32tab), ("math/bits.deBruijn64tab", laid_math_bits_deBruijn64tab), ("internal/strconv.uint64pow10", laid_internal_strconv_uint64pow10)], narrowed := true }
def FnExactFormatOffsetsUptoSaid : Prop := fnExactFormatOffsetsUptoRow.holds Tryd.pinned (OpenSpec.upto fnExactFormatOffsetsSpec)

/-- 'laws.FnExactFormatTimed', WHERE WHAT IT READS IS OF BULK AT MOST 1048576: true; the input reads as it did. -/
def fnExactFormatTimedUptoRow : OpenClaim := { program := "ytfmhdngblpmcfaadoor", sum := "f7a53a60581106b7ecf7a2f52edb063256a3bde92c1b975db60cc06af54d8994", func := "loop.example/linkedroots/laws.FnExactFormatTimed", spec := "fnExactFormatTimed", inPlace := ["internal/abi.NoEscape", "internal/bytealg.MakeNoZero"], unfollowed := true, recurses := true, named := ["internal/strconv.uint64pow10", "math/bits.deBruijn32tab", "math/bits.deBruijn64tab"], apart := false, laid := [("math/bits.deBruijn32tab", laid_math_bits_deBruijn32tab), ("math/bits.deBruijn64tab", laid_math_bits_deBruijn64tab), ("internal/strconv.uint64pow10", laid_internal_strconv_uint64pow10)], narrowed := true }
def FnExactFormatTimedUptoSaid : Prop := fnExactFormatTimedUptoRow.holds Tryd.pinned (OpenSpec.upto fnExactFormatTimedSpec)

end Rows
end Go.Proofs.YtfmhdngblpmcfaaDoor
