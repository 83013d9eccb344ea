/-
  DERIVED. GIVEN WITH THE SEED: THE CARDS: each row of YtecleelcnjhimaaDoorRows.lean that lists a variable, with what it lists TIED to the program's text (the seventh form; the later family's looks); each row that meets fmt, with fmt's text TOLD by the authors' own Lean function (tested against real Go, not proved from fmt's source: count such statements apart). THE CARD IS WHAT COUNTS. Prove the row's statement (the work); the ties are given (YtecleelcnjhimaaDoorTie.lean); close each card by the builder's one call (the guide's Derived/Test/ToyasCard.lean, 'card_holds'). Laid BY PROGRAM, IN A SANDBOX (cutbox-door.mjs). By AI agents, Wed Nov 11 2026. No macro, syntax, notation, axiom, sorry.
-/
import Derived.Test.YtecleelcnjhimaaDoorRows
import GoSem.ClaimSeven
namespace Go.Proofs.YtecleelcnjhimaaDoor
namespace Rows

/-- THE TIED CARD OF 'laws.FnGridText'. -/
def fnGridTextCard : Claim7 := { stood := { row := fnGridTextRow, standIns := [], harness := (true, "32d735378e844ecb03328af749725de0f5789dcc5e02acd65d2af0aa039d79e2"), looks := false }, kinds := [], alts := [], laidByText := true, laidKinds := [.data, .pinned], laidTests := true, laidLooks := .later }
def FnGridTextCardSaid : Prop := Claim7.holds Tryd.pinned (.plain (OpenSpec.ofChange fnGridTextSpec)) fnGridTextCard

/-- THE TIED CARD OF 'laws.FnExactGridValid'. -/
def fnExactGridValidCard : Claim7 := { stood := { row := fnExactGridValidRow, standIns := [], harness := (true, "32d735378e844ecb03328af749725de0f5789dcc5e02acd65d2af0aa039d79e2"), looks := false }, kinds := [], alts := [], laidByText := true, laidKinds := [.data, .pinned], laidTests := true, laidLooks := .later }
def FnExactGridValidCardSaid : Prop := Claim7.holds Tryd.pinned (.plain (OpenSpec.ofChange fnExactGridValidSpec)) fnExactGridValidCard

/-- THE TIED CARD OF 'laws.FnExactFormatGrid'. -/
def fnExactFormatGridCard : Claim7 := { stood := { row := fnExactFormatGridRow, standIns := [], harness := (true, "32d735378e844ecb03328af749725de0f5789dcc5e02acd65d2af0aa039d79e2"), looks := false }, kinds := [], alts := [], laidByText := true, laidKinds := [.data, .pinned], laidTests := true, laidLooks := .later }
def FnExactFormatGridCardSaid : Prop := Claim7.holds Tryd.pinned (.plain (OpenSpec.ofChange fnExactFormatGridSpec)) fnExactFormatGridCard

/-- THE TIED CARD OF 'laws.FnExactParseGrid'. -/
def fnExactParseGridCard : Claim7 := { stood := { row := fnExactParseGridRow, standIns := [], harness := (true, "32d735378e844ecb03328af749725de0f5789dcc5e02acd65d2af0aa039d79e2"), looks := false }, kinds := [], alts := [], laidByText := true, laidKinds := [.data, .pinned], laidTests := true, laidLooks := .later }
def FnExactParseGridCardSaid : Prop := Claim7.holds Tryd.pinned (.plain (OpenSpec.ofChange fnExactParseGridSpec)) fnExactParseGridCard

/-- THE TIED CARD OF 'laws.FnExactOpenAll'. -/
def fnExactOpenAllCard : Claim7 := { stood := { row := fnExactOpenAllRow, standIns := [], harness := (true, "32d735378e844ecb03328af749725de0f5789dcc5e02acd65d2af0aa039d79e2"), looks := false }, kinds := [], alts := [], laidByText := true, laidKinds := [.data, .data, .pinned], laidTests := true, laidLooks := .later }
def FnExactOpenAllCardSaid : Prop := Claim7.holds Tryd.pinned (.plain (OpenSpec.ofChange fnExactOpenAllSpec)) fnExactOpenAllCard

/-- THE TIED CARD OF 'laws.FnExactTurnGrid'. -/
def fnExactTurnGridCard : Claim7 := { stood := { row := fnExactTurnGridRow, standIns := [], harness := (true, "32d735378e844ecb03328af749725de0f5789dcc5e02acd65d2af0aa039d79e2"), looks := false }, kinds := [], alts := [], laidByText := true, laidKinds := [.data, .pinned], laidTests := true, laidLooks := .later }
def FnExactTurnGridCardSaid : Prop := Claim7.holds Tryd.pinned (.plain (OpenSpec.ofChange fnExactTurnGridSpec)) fnExactTurnGridCard

/-- THE SECOND FORM's CARD OF 'laws.FnGridText'. -/
def fnGridTextUptoCard : Claim7 := { stood := { row := fnGridTextUptoRow, standIns := [], harness := (true, "32d735378e844ecb03328af749725de0f5789dcc5e02acd65d2af0aa039d79e2"), looks := false }, kinds := [], alts := [], laidByText := true, laidKinds := [.data, .pinned], laidTests := true, laidLooks := .later }
def FnGridTextUptoCardSaid : Prop := Claim7.holds Tryd.pinned (.plain (OpenSpec.upto fnGridTextSpec)) fnGridTextUptoCard

/-- THE SECOND FORM's CARD OF 'laws.FnExactGridValid'. -/
def fnExactGridValidUptoCard : Claim7 := { stood := { row := fnExactGridValidUptoRow, standIns := [], harness := (true, "32d735378e844ecb03328af749725de0f5789dcc5e02acd65d2af0aa039d79e2"), looks := false }, kinds := [], alts := [], laidByText := true, laidKinds := [.data, .pinned], laidTests := true, laidLooks := .later }
def FnExactGridValidUptoCardSaid : Prop := Claim7.holds Tryd.pinned (.plain (OpenSpec.upto fnExactGridValidSpec)) fnExactGridValidUptoCard

/-- THE SECOND FORM's CARD OF 'laws.FnExactFormatGrid'. -/
def fnExactFormatGridUptoCard : Claim7 := { stood := { row := fnExactFormatGridUptoRow, standIns := [], harness := (true, "32d735378e844ecb03328af749725de0f5789dcc5e02acd65d2af0aa039d79e2"), looks := false }, kinds := [], alts := [], laidByText := true, laidKinds := [.data, .pinned], laidTests := true, laidLooks := .later }
def FnExactFormatGridUptoCardSaid : Prop := Claim7.holds Tryd.pinned (.plain (OpenSpec.upto fnExactFormatGridSpec)) fnExactFormatGridUptoCard

/-- THE SECOND FORM's CARD OF 'laws.FnExactParseGrid'. -/
def fnExactParseGridUptoCard : Claim7 := { stood := { row := fnExactParseGridUptoRow, standIns := [], harness := (true, "32d735378e844ecb03328af749725de0f5789dcc5e02acd65d2af0aa039d79e2"), looks := false }, kinds := [], alts := [], laidByText := true, laidKinds := [.data, .pinned], laidTests := true, laidLooks := .later }
def FnExactParseGridUptoCardSaid : Prop := Claim7.holds Tryd.pinned (.plain (OpenSpec.upto fnExactParseGridSpec)) fnExactParseGridUptoCard

/-- THE SECOND FORM's CARD OF 'laws.FnExactOpenAll'. -/
def fnExactOpenAllUptoCard : Claim7 := { stood := { row := fnExactOpenAllUptoRow, standIns := [], harness := (true, "32d735378e844ecb03328af749725de0f5789dcc5e02acd65d2af0aa039d79e2"), looks := false }, kinds := [], alts := [], laidByText := true, laidKinds := [.data, .data, .pinned], laidTests := true, laidLooks := .later }
def FnExactOpenAllUptoCardSaid : Prop := Claim7.holds Tryd.pinned (.plain (OpenSpec.upto fnExactOpenAllSpec)) fnExactOpenAllUptoCard

/-- THE SECOND FORM's CARD OF 'laws.FnExactTurnGrid'. -/
def fnExactTurnGridUptoCard : Claim7 := { stood := { row := fnExactTurnGridUptoRow, standIns := [], harness := (true, "32d735378e844ecb03328af749725de0f5789dcc5e02acd65d2af0aa039d79e2"), looks := false }, kinds := [], alts := [], laidByText := true, laidKinds := [.data, .pinned], laidTests := true, laidLooks := .later }
def FnExactTurnGridUptoCardSaid : Prop := Claim7.holds Tryd.pinned (.plain (OpenSpec.upto fnExactTurnGridSpec)) fnExactTurnGridUptoCard
end Rows
end Go.Proofs.YtecleelcnjhimaaDoor
