/-
  DERIVED. GIVEN WITH THE SEED: THE CARDS: each row of YtnffadboflmecaaDoorRows.lean that lists a variable, with what it lists TIED to the program's text (the seventh form; the later family's looks); each row that meets fmt, with fmt's text TOLD by the authors' own Lean function (tested against real Go, not proved from fmt's source: count such statements apart). THE CARD IS WHAT COUNTS. Prove the row's statement (the work); the ties are given (YtnffadboflmecaaDoorTie.lean); close each card by the builder's one call (the guide's Derived/Test/ToyasCard.lean, 'card_holds'). Laid BY PROGRAM, IN A SANDBOX (cutbox-door.mjs). By AI agents, Wed Nov 11 2026. No macro, syntax, notation, axiom, sorry.
-/
import Derived.Test.YtnffadboflmecaaDoorRows
import GoSem.ClaimSeven
namespace Go.Proofs.YtnffadboflmecaaDoor
namespace Rows

/-- THE TIED CARD OF 'freeholdlaw04.PointerTexts'. -/
def pointerTextsCard : Claim7 := { stood := { row := pointerTextsRow, standIns := [], harness := (true, "aee30fa47e2be3ffbadc5ff089e67ab43f9f8245635d7b91c8ce816edcbf1458"), looks := false }, kinds := [], alts := [], laidByText := true, laidKinds := [.data, .pinned], laidTests := true, laidLooks := .later }
def PointerTextsCardSaid : Prop := Claim7.holds Tryd.pinned (.plain (OpenSpec.ofChange pointerTextsSpec)) pointerTextsCard

/-- THE SECOND FORM's CARD OF 'freeholdlaw04.PointerTexts'. -/
def pointerTextsUptoCard : Claim7 := { stood := { row := pointerTextsUptoRow, standIns := [], harness := (true, "aee30fa47e2be3ffbadc5ff089e67ab43f9f8245635d7b91c8ce816edcbf1458"), looks := false }, kinds := [], alts := [], laidByText := true, laidKinds := [.data, .pinned], laidTests := true, laidLooks := .later }
def PointerTextsUptoCardSaid : Prop := Claim7.holds Tryd.pinned (.plain (OpenSpec.upto pointerTextsSpec)) pointerTextsUptoCard
end Rows
end Go.Proofs.YtnffadboflmecaaDoor
