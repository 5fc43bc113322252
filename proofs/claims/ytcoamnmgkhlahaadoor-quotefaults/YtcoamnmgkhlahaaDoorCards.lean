/-
  DERIVED. GIVEN WITH THE SEED: THE CARDS: each row of YtcoamnmgkhlahaaDoorRows.lean that lists a variable, with what it lists TIED to the program's text (the seventh form; the later family's looks); each row that meets fmt, with fmt's text TOLD by the authors' own Lean function (tested against real Go, not proved from fmt's source: count such statements apart). THE CARD IS WHAT COUNTS. Prove the row's statement (the work); the ties are given (YtcoamnmgkhlahaaDoorTie.lean); close each card by the builder's one call (the guide's Derived/Test/ToyasCard.lean, 'card_holds'). Laid BY PROGRAM, IN A SANDBOX (cutbox-door.mjs). By AI agents, Wed Nov 11 2026. No macro, syntax, notation, axiom, sorry.
-/
import Derived.Test.YtcoamnmgkhlahaaDoorRows
import GoSem.ClaimSeven
namespace Go.Proofs.YtcoamnmgkhlahaaDoor
namespace Rows

/-- THE TIED CARD OF 'freeholdlaw01.QuoteWrites'. -/
def quoteWritesCard : Claim7 := { stood := { row := quoteWritesRow, standIns := [], harness := (true, "227993bf7054d100fe8575bbbee1112db0b508008c38a31af176439d6a03fab5"), looks := false }, kinds := [], alts := [], laidByText := true, laidKinds := [.data, .data, .pinned], laidTests := true, laidLooks := .later }
def QuoteWritesCardSaid : Prop := Claim7.holds Tryd.pinned (.plain (OpenSpec.ofChange quoteWritesSpec)) quoteWritesCard

/-- THE TIED CARD OF 'freeholdlaw01.QuoteReads'. -/
def quoteReadsCard : Claim7 := { stood := { row := quoteReadsRow, standIns := [], harness := (true, "227993bf7054d100fe8575bbbee1112db0b508008c38a31af176439d6a03fab5"), looks := false }, kinds := [], alts := [], laidByText := true, laidKinds := [.data, .data, .pinned], laidTests := true, laidLooks := .later }
def QuoteReadsCardSaid : Prop := Claim7.holds Tryd.pinned (.plain (OpenSpec.ofChange quoteReadsSpec)) quoteReadsCard

/-- THE TIED CARD OF 'freeholdlaw01.QuoteFaults'. -/
def quoteFaultsCard : Claim7 := { stood := { row := quoteFaultsRow, standIns := [], harness := (true, "227993bf7054d100fe8575bbbee1112db0b508008c38a31af176439d6a03fab5"), looks := false }, kinds := [], alts := [], laidByText := true, laidKinds := [.data, .data, .data, .pinned], laidTests := true, laidLooks := .later }
def QuoteFaultsCardSaid : Prop := Claim7.holds Tryd.pinned (.plain (OpenSpec.ofChange quoteFaultsSpec)) quoteFaultsCard

/-- THE TIED CARD OF 'freeholdlaw01.QuoteTwoWay'. -/
def quoteTwoWayCard : Claim7 := { stood := { row := quoteTwoWayRow, standIns := [], harness := (true, "227993bf7054d100fe8575bbbee1112db0b508008c38a31af176439d6a03fab5"), looks := false }, kinds := [], alts := [], laidByText := true, laidKinds := [.data, .data, .data, .pinned], laidTests := true, laidLooks := .later }
def QuoteTwoWayCardSaid : Prop := Claim7.holds Tryd.pinned (.plain (OpenSpec.ofChange quoteTwoWaySpec)) quoteTwoWayCard

/-- THE TIED CARD OF 'freeholdlaw01.QuoteScalars'. -/
def quoteScalarsCard : Claim7 := { stood := { row := quoteScalarsRow, standIns := [], harness := (true, "227993bf7054d100fe8575bbbee1112db0b508008c38a31af176439d6a03fab5"), looks := false }, kinds := [], alts := [], laidByText := true, laidKinds := [.data, .data, .data, .pinned], laidTests := true, laidLooks := .later }
def QuoteScalarsCardSaid : Prop := Claim7.holds Tryd.pinned (.plain (OpenSpec.ofChange quoteScalarsSpec)) quoteScalarsCard

/-- THE SECOND FORM's CARD OF 'freeholdlaw01.QuoteWrites'. -/
def quoteWritesUptoCard : Claim7 := { stood := { row := quoteWritesUptoRow, standIns := [], harness := (true, "227993bf7054d100fe8575bbbee1112db0b508008c38a31af176439d6a03fab5"), looks := false }, kinds := [], alts := [], laidByText := true, laidKinds := [.data, .data, .pinned], laidTests := true, laidLooks := .later }
def QuoteWritesUptoCardSaid : Prop := Claim7.holds Tryd.pinned (.plain (OpenSpec.upto quoteWritesSpec)) quoteWritesUptoCard

/-- THE SECOND FORM's CARD OF 'freeholdlaw01.QuoteReads'. -/
def quoteReadsUptoCard : Claim7 := { stood := { row := quoteReadsUptoRow, standIns := [], harness := (true, "227993bf7054d100fe8575bbbee1112db0b508008c38a31af176439d6a03fab5"), looks := false }, kinds := [], alts := [], laidByText := true, laidKinds := [.data, .data, .pinned], laidTests := true, laidLooks := .later }
def QuoteReadsUptoCardSaid : Prop := Claim7.holds Tryd.pinned (.plain (OpenSpec.upto quoteReadsSpec)) quoteReadsUptoCard

/-- THE SECOND FORM's CARD OF 'freeholdlaw01.QuoteFaults'. -/
def quoteFaultsUptoCard : Claim7 := { stood := { row := quoteFaultsUptoRow, standIns := [], harness := (true, "227993bf7054d100fe8575bbbee1112db0b508008c38a31af176439d6a03fab5"), looks := false }, kinds := [], alts := [], laidByText := true, laidKinds := [.data, .data, .data, .pinned], laidTests := true, laidLooks := .later }
def QuoteFaultsUptoCardSaid : Prop := Claim7.holds Tryd.pinned (.plain (OpenSpec.upto quoteFaultsSpec)) quoteFaultsUptoCard

/-- THE SECOND FORM's CARD OF 'freeholdlaw01.QuoteTwoWay'. -/
def quoteTwoWayUptoCard : Claim7 := { stood := { row := quoteTwoWayUptoRow, standIns := [], harness := (true, "227993bf7054d100fe8575bbbee1112db0b508008c38a31af176439d6a03fab5"), looks := false }, kinds := [], alts := [], laidByText := true, laidKinds := [.data, .data, .data, .pinned], laidTests := true, laidLooks := .later }
def QuoteTwoWayUptoCardSaid : Prop := Claim7.holds Tryd.pinned (.plain (OpenSpec.upto quoteTwoWaySpec)) quoteTwoWayUptoCard

/-- THE SECOND FORM's CARD OF 'freeholdlaw01.QuoteScalars'. -/
def quoteScalarsUptoCard : Claim7 := { stood := { row := quoteScalarsUptoRow, standIns := [], harness := (true, "227993bf7054d100fe8575bbbee1112db0b508008c38a31af176439d6a03fab5"), looks := false }, kinds := [], alts := [], laidByText := true, laidKinds := [.data, .data, .data, .pinned], laidTests := true, laidLooks := .later }
def QuoteScalarsUptoCardSaid : Prop := Claim7.holds Tryd.pinned (.plain (OpenSpec.upto quoteScalarsSpec)) quoteScalarsUptoCard
end Rows
end Go.Proofs.YtcoamnmgkhlahaaDoor
