/-
  DERIVED. GIVEN WITH THE SEED: THE CARDS: each row of YtaecmgkckefgoaaDoorRows.lean that lists a variable, with what it lists TIED to the program's text (the seventh form; the later family's looks); each row that meets fmt, with fmt's text TOLD by the authors' own Lean function (tested against real Go, not proved from fmt's source: count such statements apart). THE CARD IS WHAT COUNTS. Prove the row's statement (the work); the ties are given (YtaecmgkckefgoaaDoorTie.lean); close each card by the builder's one call (the guide's Derived/Test/ToyasCard.lean, 'card_holds'). Laid BY PROGRAM, IN A SANDBOX (cutbox-door.mjs). By AI agents, Wed Nov 11 2026. No macro, syntax, notation, axiom, sorry.
-/
import Derived.Test.YtaecmgkckefgoaaDoorRows
import GoSem.ClaimSeven
namespace Go.Proofs.YtaecmgkckefgoaaDoor
namespace Rows

/-- THE TIED CARD OF 'freeholdlaw07.SchemaTypes'. -/
def schemaTypesCard : Claim7 := { stood := { row := schemaTypesRow, standIns := [], harness := (true, "01f2c589d2c0d16d263f3473181265a2ebc15c3f289f0038ea5d350064212538"), looks := false }, kinds := [], alts := [], laidByText := true, laidKinds := [.data, .data, .pinned], laidTests := true, laidLooks := .later }
def SchemaTypesCardSaid : Prop := Claim7.holds Tryd.pinned (.plain (OpenSpec.ofChange schemaTypesSpec)) schemaTypesCard

/-- THE SECOND FORM's CARD OF 'freeholdlaw07.SchemaTypes'. -/
def schemaTypesUptoCard : Claim7 := { stood := { row := schemaTypesUptoRow, standIns := [], harness := (true, "01f2c589d2c0d16d263f3473181265a2ebc15c3f289f0038ea5d350064212538"), looks := false }, kinds := [], alts := [], laidByText := true, laidKinds := [.data, .data, .pinned], laidTests := true, laidLooks := .later }
def SchemaTypesUptoCardSaid : Prop := Claim7.holds Tryd.pinned (.plain (OpenSpec.upto schemaTypesSpec)) schemaTypesUptoCard
end Rows
end Go.Proofs.YtaecmgkckefgoaaDoor
