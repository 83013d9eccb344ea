/-
  DERIVED. GIVEN WITH THE SEED: THE CARDS: each row of YtfmhdngblpmcfaaDoorRows.lean that lists a variable, with what it lists TIED to the program's text (the seventh form; the later family's looks); each row that meets fmt, with fmt's text TOLD by the authors' own Lean function (tested against real Go, not proved from fmt's source: count such statements apart). THE CARD IS WHAT COUNTS. Prove the row's statement (the work); the ties are given (YtfmhdngblpmcfaaDoorTie.lean); close each card by the builder's one call (the guide's Derived/Test/ToyasCard.lean, 'card_holds'). Laid BY PROGRAM, IN A SANDBOX (cutbox-door.mjs). By AI agents, Wed Nov 11 2026. No macro, syntax, notation, axiom, sorry.
-/
import Derived.Test.YtfmhdngblpmcfaaDoorRows
import GoSem.ClaimSeven
namespace Go.Proofs.YtfmhdngblpmcfaaDoor
namespace Rows

/-- THE TIED CARD OF 'laws.FnExactFormatForest'. -/
def fnExactFormatForestCard : Claim7 := { stood := { row := fnExactFormatForestRow, standIns := [], harness := (true, "4ee7b83f57fee7337f954d65ef70157228c966e3b3dcea013df26bcf0419e2cb"), looks := false }, kinds := [], alts := [], laidByText := true, laidKinds := [.data, .data, .data], laidTests := true, laidLooks := .later }
def FnExactFormatForestCardSaid : Prop := Claim7.holds Tryd.pinned (.plain (OpenSpec.ofChange fnExactFormatForestSpec)) fnExactFormatForestCard

/-- THE TIED CARD OF 'laws.FnExactFormatPairs'. -/
def fnExactFormatPairsCard : Claim7 := { stood := { row := fnExactFormatPairsRow, standIns := [], harness := (true, "4ee7b83f57fee7337f954d65ef70157228c966e3b3dcea013df26bcf0419e2cb"), looks := false }, kinds := [], alts := [], laidByText := true, laidKinds := [.data, .data, .data], laidTests := true, laidLooks := .later }
def FnExactFormatPairsCardSaid : Prop := Claim7.holds Tryd.pinned (.plain (OpenSpec.ofChange fnExactFormatPairsSpec)) fnExactFormatPairsCard

/-- THE TIED CARD OF 'laws.FnExactFormatLog'. -/
def fnExactFormatLogCard : Claim7 := { stood := { row := fnExactFormatLogRow, standIns := [], harness := (true, "4ee7b83f57fee7337f954d65ef70157228c966e3b3dcea013df26bcf0419e2cb"), looks := false }, kinds := [], alts := [], laidByText := true, laidKinds := [.data, .data, .data], laidTests := true, laidLooks := .later }
def FnExactFormatLogCardSaid : Prop := Claim7.holds Tryd.pinned (.plain (OpenSpec.ofChange fnExactFormatLogSpec)) fnExactFormatLogCard

/-- THE TIED CARD OF 'laws.FnExactFormatFacts'. -/
def fnExactFormatFactsCard : Claim7 := { stood := { row := fnExactFormatFactsRow, standIns := [], harness := (true, "4ee7b83f57fee7337f954d65ef70157228c966e3b3dcea013df26bcf0419e2cb"), looks := false }, kinds := [], alts := [], laidByText := true, laidKinds := [.data, .data, .data], laidTests := true, laidLooks := .later }
def FnExactFormatFactsCardSaid : Prop := Claim7.holds Tryd.pinned (.plain (OpenSpec.ofChange fnExactFormatFactsSpec)) fnExactFormatFactsCard

/-- THE TIED CARD OF 'laws.FnExactFormatOffsets'. -/
def fnExactFormatOffsetsCard : Claim7 := { stood := { row := fnExactFormatOffsetsRow, standIns := [], harness := (true, "4ee7b83f57fee7337f954d65ef70157228c966e3b3dcea013df26bcf0419e2cb"), looks := false }, kinds := [], alts := [], laidByText := true, laidKinds := [.data, .data, .data], laidTests := true, laidLooks := .later }
def FnExactFormatOffsetsCardSaid : Prop := Claim7.holds Tryd.pinned (.plain (OpenSpec.ofChange fnExactFormatOffsetsSpec)) fnExactFormatOffsetsCard

/-- THE TIED CARD OF 'laws.FnExactFormatTimed'. -/
def fnExactFormatTimedCard : Claim7 := { stood := { row := fnExactFormatTimedRow, standIns := [], harness := (true, "4ee7b83f57fee7337f954d65ef70157228c966e3b3dcea013df26bcf0419e2cb"), looks := false }, kinds := [], alts := [], laidByText := true, laidKinds := [.data, .data, .data], laidTests := true, laidLooks := .later }
def FnExactFormatTimedCardSaid : Prop := Claim7.holds Tryd.pinned (.plain (OpenSpec.ofChange fnExactFormatTimedSpec)) fnExactFormatTimedCard

/-- THE SECOND FORM's CARD OF 'laws.FnExactFormatForest'. -/
def fnExactFormatForestUptoCard : Claim7 := { stood := { row := fnExactFormatForestUptoRow, standIns := [], harness := (true, "4ee7b83f57fee7337f954d65ef70157228c966e3b3dcea013df26bcf0419e2cb"), looks := false }, kinds := [], alts := [], laidByText := true, laidKinds := [.data, .data, .data], laidTests := true, laidLooks := .later }
def FnExactFormatForestUptoCardSaid : Prop := Claim7.holds Tryd.pinned (.plain (OpenSpec.upto fnExactFormatForestSpec)) fnExactFormatForestUptoCard

/-- THE SECOND FORM's CARD OF 'laws.FnExactFormatPairs'. -/
def fnExactFormatPairsUptoCard : Claim7 := { stood := { row := fnExactFormatPairsUptoRow, standIns := [], harness := (true, "4ee7b83f57fee7337f954d65ef70157228c966e3b3dcea013df26bcf0419e2cb"), looks := false }, kinds := [], alts := [], laidByText := true, laidKinds := [.data, .data, .data], laidTests := true, laidLooks := .later }
def FnExactFormatPairsUptoCardSaid : Prop := Claim7.holds Tryd.pinned (.plain (OpenSpec.upto fnExactFormatPairsSpec)) fnExactFormatPairsUptoCard

/-- THE SECOND FORM's CARD OF 'laws.FnExactFormatLog'. -/
def fnExactFormatLogUptoCard : Claim7 := { stood := { row := fnExactFormatLogUptoRow, standIns := [], harness := (true, "4ee7b83f57fee7337f954d65ef70157228c966e3b3dcea013df26bcf0419e2cb"), looks := false }, kinds := [], alts := [], laidByText := true, laidKinds := [.data, .data, .data], laidTests := true, laidLooks := .later }
def FnExactFormatLogUptoCardSaid : Prop := Claim7.holds Tryd.pinned (.plain (OpenSpec.upto fnExactFormatLogSpec)) fnExactFormatLogUptoCard

/-- THE SECOND FORM's CARD OF 'laws.FnExactFormatFacts'. -/
def fnExactFormatFactsUptoCard : Claim7 := { stood := { row := fnExactFormatFactsUptoRow, standIns := [], harness := (true, "4ee7b83f57fee7337f954d65ef70157228c966e3b3dcea013df26bcf0419e2cb"), looks := false }, kinds := [], alts := [], laidByText := true, laidKinds := [.data, .data, .data], laidTests := true, laidLooks := .later }
def FnExactFormatFactsUptoCardSaid : Prop := Claim7.holds Tryd.pinned (.plain (OpenSpec.upto fnExactFormatFactsSpec)) fnExactFormatFactsUptoCard

/-- THE SECOND FORM's CARD OF 'laws.FnExactFormatOffsets'. -/
def fnExactFormatOffsetsUptoCard : Claim7 := { stood := { row := fnExactFormatOffsetsUptoRow, standIns := [], harness := (true, "4ee7b83f57fee7337f954d65ef70157228c966e3b3dcea013df26bcf0419e2cb"), looks := false }, kinds := [], alts := [], laidByText := true, laidKinds := [.data, .data, .data], laidTests := true, laidLooks := .later }
def FnExactFormatOffsetsUptoCardSaid : Prop := Claim7.holds Tryd.pinned (.plain (OpenSpec.upto fnExactFormatOffsetsSpec)) fnExactFormatOffsetsUptoCard

/-- THE SECOND FORM's CARD OF 'laws.FnExactFormatTimed'. -/
def fnExactFormatTimedUptoCard : Claim7 := { stood := { row := fnExactFormatTimedUptoRow, standIns := [], harness := (true, "4ee7b83f57fee7337f954d65ef70157228c966e3b3dcea013df26bcf0419e2cb"), looks := false }, kinds := [], alts := [], laidByText := true, laidKinds := [.data, .data, .data], laidTests := true, laidLooks := .later }
def FnExactFormatTimedUptoCardSaid : Prop := Claim7.holds Tryd.pinned (.plain (OpenSpec.upto fnExactFormatTimedSpec)) fnExactFormatTimedUptoCard
end Rows
end Go.Proofs.YtfmhdngblpmcfaaDoor
