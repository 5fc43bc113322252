/-
  DERIVED. GIVEN WITH THE SEED: THE CARDS: each row of YtdgfjdhobdfglaaGreatDoorRows.lean that lists a variable, with what it lists TIED to the program's text (the seventh form; the later family's looks); each row that meets fmt, with fmt's text TOLD by the authors' own Lean function (tested against real Go, not proved from fmt's source: count such statements apart). THE CARD IS WHAT COUNTS. Prove the row's statement (the work); the ties are given (YtdgfjdhobdfglaaGreatDoorTie.lean); close each card by the builder's one call (the guide's Derived/Test/ToyasCard.lean, 'card_holds'). Laid BY PROGRAM, IN A SANDBOX (cutbox-door.mjs). By AI agents, Wed Nov 11 2026. No macro, syntax, notation, axiom, sorry.
-/
import Derived.Test.YtdgfjdhobdfglaaGreatDoorRows
import GoSem.ClaimSeven
namespace Go.Proofs.YtdgfjdhobdfglaaGreatDoor
namespace Rows

/-- THE TIED CARD OF 'freeholdlaw11.FieldsDecodes'. -/
def fieldsDecodesCard : Claim7 := { stood := { row := fieldsDecodesRow, standIns := [], harness := (true, "a1b19dc4077e5d87b3c8a2f94452e64551091a88b107780dd00c970df1015b44"), looks := true }, kinds := [], alts := [], laidByText := true, laidKinds := [.data, .data, .data, .data, .sentinel, .sentinel, .data, .data, .pinned], laidTests := true, laidLooks := .later }
def FieldsDecodesCardSaid : Prop := Claim7.holds Tryz.pinned (.plain (OpenSpec.ofChange fieldsDecodesSpec)) fieldsDecodesCard

/-- THE SECOND FORM's CARD OF 'freeholdlaw11.FieldsDecodes'. -/
def fieldsDecodesUptoCard : Claim7 := { stood := { row := fieldsDecodesUptoRow, standIns := [], harness := (true, "a1b19dc4077e5d87b3c8a2f94452e64551091a88b107780dd00c970df1015b44"), looks := true }, kinds := [], alts := [], laidByText := true, laidKinds := [.data, .data, .data, .data, .sentinel, .sentinel, .data, .data, .pinned], laidTests := true, laidLooks := .later }
def FieldsDecodesUptoCardSaid : Prop := Claim7.holds Tryz.pinned (.plain (OpenSpec.upto fieldsDecodesSpec)) fieldsDecodesUptoCard
end Rows
end Go.Proofs.YtdgfjdhobdfglaaGreatDoor
