/-
  DERIVED. GIVEN WITH THE SEED: THE CARDS: each row of YtpmhdcmmlkjjmaaGreatDoorRows.lean that lists a variable, with what it lists TIED to the program's text (the seventh form; the later family's looks); each row that meets fmt, with fmt's text TOLD by the authors' own Lean function (tested against real Go, not proved from fmt's source: count such statements apart). THE CARD IS WHAT COUNTS. Prove the row's statement (the work); the ties are given (YtpmhdcmmlkjjmaaGreatDoorTie.lean); close each card by the builder's one call (the guide's Derived/Test/ToyasCard.lean, 'card_holds'). Laid BY PROGRAM, IN A SANDBOX (cutbox-door.mjs). By AI agents, Wed Nov 11 2026. No macro, syntax, notation, axiom, sorry.
-/
import Derived.Test.YtpmhdcmmlkjjmaaGreatDoorRows
import GoSem.ClaimSeven
namespace Go.Proofs.YtpmhdcmmlkjjmaaGreatDoor
namespace Rows

/-- THE TIED CARD OF 'freeholdlaw03.JsonBack'. -/
def jsonBackCard : Claim7 := { stood := { row := jsonBackRow, standIns := [], harness := (true, "df42d174917abc726affd797ecd0eed6cfc2701d5d1ef743d054b9920f6736e2"), looks := true }, kinds := [], alts := [], laidByText := true, laidKinds := [.data, .data, .data, .data, .sentinel, .sentinel, .data, .data, .pinned], laidTests := true, laidLooks := .later }
def JsonBackCardSaid : Prop := Claim7.holds Tryz.pinned (.plain (OpenSpec.ofChange jsonBackSpec)) jsonBackCard

/-- THE TIED CARD OF 'freeholdlaw03.JsonCanon'. -/
def jsonCanonCard : Claim7 := { stood := { row := jsonCanonRow, standIns := [], harness := (true, "df42d174917abc726affd797ecd0eed6cfc2701d5d1ef743d054b9920f6736e2"), looks := true }, kinds := [], alts := [], laidByText := true, laidKinds := [.data, .data, .data, .data, .sentinel, .sentinel, .data, .data, .pinned], laidTests := true, laidLooks := .later }
def JsonCanonCardSaid : Prop := Claim7.holds Tryz.pinned (.plain (OpenSpec.ofChange jsonCanonSpec)) jsonCanonCard

/-- THE TIED CARD OF 'freeholdlaw03.JsonBlanks'. -/
def jsonBlanksCard : Claim7 := { stood := { row := jsonBlanksRow, standIns := [], harness := (true, "df42d174917abc726affd797ecd0eed6cfc2701d5d1ef743d054b9920f6736e2"), looks := true }, kinds := [], alts := [], laidByText := true, laidKinds := [.data, .data, .data, .data, .sentinel, .sentinel, .data, .data, .pinned], laidTests := true, laidLooks := .later }
def JsonBlanksCardSaid : Prop := Claim7.holds Tryz.pinned (.plain (OpenSpec.ofChange jsonBlanksSpec)) jsonBlanksCard

/-- THE TIED CARD OF 'freeholdlaw03.JsonRows'. -/
def jsonRowsCard : Claim7 := { stood := { row := jsonRowsRow, standIns := [], harness := (true, "df42d174917abc726affd797ecd0eed6cfc2701d5d1ef743d054b9920f6736e2"), looks := true }, kinds := [], alts := [], laidByText := true, laidKinds := [.data, .data, .data, .data, .sentinel, .sentinel, .data, .data, .pinned], laidTests := true, laidLooks := .later }
def JsonRowsCardSaid : Prop := Claim7.holds Tryz.pinned (.plain (OpenSpec.ofChange jsonRowsSpec)) jsonRowsCard

/-- THE TIED CARD OF 'freeholdlaw03.JsonLines'. -/
def jsonLinesCard : Claim7 := { stood := { row := jsonLinesRow, standIns := [], harness := (true, "df42d174917abc726affd797ecd0eed6cfc2701d5d1ef743d054b9920f6736e2"), looks := true }, kinds := [], alts := [], laidByText := true, laidKinds := [.data, .data, .data, .data, .sentinel, .sentinel, .data, .data, .pinned], laidTests := true, laidLooks := .later }
def JsonLinesCardSaid : Prop := Claim7.holds Tryz.pinned (.plain (OpenSpec.ofChange jsonLinesSpec)) jsonLinesCard

/-- THE TIED CARD OF 'freeholdlaw03.JsonParses'. -/
def jsonParsesCard : Claim7 := { stood := { row := jsonParsesRow, standIns := [], harness := (true, "df42d174917abc726affd797ecd0eed6cfc2701d5d1ef743d054b9920f6736e2"), looks := true }, kinds := [], alts := [], laidByText := true, laidKinds := [.data, .data, .data, .data, .sentinel, .sentinel, .data, .pinned], laidTests := true, laidLooks := .later }
def JsonParsesCardSaid : Prop := Claim7.holds Tryz.pinned (.plain (OpenSpec.ofChange jsonParsesSpec)) jsonParsesCard

/-- THE SECOND FORM's CARD OF 'freeholdlaw03.JsonBack'. -/
def jsonBackUptoCard : Claim7 := { stood := { row := jsonBackUptoRow, standIns := [], harness := (true, "df42d174917abc726affd797ecd0eed6cfc2701d5d1ef743d054b9920f6736e2"), looks := true }, kinds := [], alts := [], laidByText := true, laidKinds := [.data, .data, .data, .data, .sentinel, .sentinel, .data, .data, .pinned], laidTests := true, laidLooks := .later }
def JsonBackUptoCardSaid : Prop := Claim7.holds Tryz.pinned (.plain (OpenSpec.upto jsonBackSpec)) jsonBackUptoCard

/-- THE SECOND FORM's CARD OF 'freeholdlaw03.JsonCanon'. -/
def jsonCanonUptoCard : Claim7 := { stood := { row := jsonCanonUptoRow, standIns := [], harness := (true, "df42d174917abc726affd797ecd0eed6cfc2701d5d1ef743d054b9920f6736e2"), looks := true }, kinds := [], alts := [], laidByText := true, laidKinds := [.data, .data, .data, .data, .sentinel, .sentinel, .data, .data, .pinned], laidTests := true, laidLooks := .later }
def JsonCanonUptoCardSaid : Prop := Claim7.holds Tryz.pinned (.plain (OpenSpec.upto jsonCanonSpec)) jsonCanonUptoCard

/-- THE SECOND FORM's CARD OF 'freeholdlaw03.JsonBlanks'. -/
def jsonBlanksUptoCard : Claim7 := { stood := { row := jsonBlanksUptoRow, standIns := [], harness := (true, "df42d174917abc726affd797ecd0eed6cfc2701d5d1ef743d054b9920f6736e2"), looks := true }, kinds := [], alts := [], laidByText := true, laidKinds := [.data, .data, .data, .data, .sentinel, .sentinel, .data, .data, .pinned], laidTests := true, laidLooks := .later }
def JsonBlanksUptoCardSaid : Prop := Claim7.holds Tryz.pinned (.plain (OpenSpec.upto jsonBlanksSpec)) jsonBlanksUptoCard

/-- THE SECOND FORM's CARD OF 'freeholdlaw03.JsonRows'. -/
def jsonRowsUptoCard : Claim7 := { stood := { row := jsonRowsUptoRow, standIns := [], harness := (true, "df42d174917abc726affd797ecd0eed6cfc2701d5d1ef743d054b9920f6736e2"), looks := true }, kinds := [], alts := [], laidByText := true, laidKinds := [.data, .data, .data, .data, .sentinel, .sentinel, .data, .data, .pinned], laidTests := true, laidLooks := .later }
def JsonRowsUptoCardSaid : Prop := Claim7.holds Tryz.pinned (.plain (OpenSpec.upto jsonRowsSpec)) jsonRowsUptoCard

/-- THE SECOND FORM's CARD OF 'freeholdlaw03.JsonLines'. -/
def jsonLinesUptoCard : Claim7 := { stood := { row := jsonLinesUptoRow, standIns := [], harness := (true, "df42d174917abc726affd797ecd0eed6cfc2701d5d1ef743d054b9920f6736e2"), looks := true }, kinds := [], alts := [], laidByText := true, laidKinds := [.data, .data, .data, .data, .sentinel, .sentinel, .data, .data, .pinned], laidTests := true, laidLooks := .later }
def JsonLinesUptoCardSaid : Prop := Claim7.holds Tryz.pinned (.plain (OpenSpec.upto jsonLinesSpec)) jsonLinesUptoCard

/-- THE SECOND FORM's CARD OF 'freeholdlaw03.JsonParses'. -/
def jsonParsesUptoCard : Claim7 := { stood := { row := jsonParsesUptoRow, standIns := [], harness := (true, "df42d174917abc726affd797ecd0eed6cfc2701d5d1ef743d054b9920f6736e2"), looks := true }, kinds := [], alts := [], laidByText := true, laidKinds := [.data, .data, .data, .data, .sentinel, .sentinel, .data, .pinned], laidTests := true, laidLooks := .later }
def JsonParsesUptoCardSaid : Prop := Claim7.holds Tryz.pinned (.plain (OpenSpec.upto jsonParsesSpec)) jsonParsesUptoCard
end Rows
end Go.Proofs.YtpmhdcmmlkjjmaaGreatDoor
