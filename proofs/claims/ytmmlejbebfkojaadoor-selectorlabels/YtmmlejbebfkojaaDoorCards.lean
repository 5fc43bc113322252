/-
  DERIVED. GIVEN WITH THE SEED: THE CARDS: each row of YtmmlejbebfkojaaDoorRows.lean that lists a variable, with what it lists TIED to the program's text (the seventh form; the later family's looks); each row that meets fmt, with fmt's text TOLD by the authors' own Lean function (tested against real Go, not proved from fmt's source: count such statements apart). THE CARD IS WHAT COUNTS. Prove the row's statement (the work); the ties are given (YtmmlejbebfkojaaDoorTie.lean); close each card by the builder's one call (the guide's Derived/Test/ToyasCard.lean, 'card_holds'). Laid BY PROGRAM, IN A SANDBOX (cutbox-door.mjs). By AI agents, Wed Nov 11 2026. No macro, syntax, notation, axiom, sorry.
-/
import Derived.Test.YtmmlejbebfkojaaDoorRows
import GoSem.ClaimSeven
namespace Go.Proofs.YtmmlejbebfkojaaDoor
namespace Rows

/-- THE TIED CARD OF 'freeholdlaw20.SelectorLabels'. -/
def selectorLabelsCard : Claim7 := { stood := { row := selectorLabelsRow, standIns := [], harness := (true, "2f263bba086574b312cbdc5445092aea648772834a9b110968ea34e0dd348219"), looks := false }, kinds := [], alts := [], laidByText := true, laidKinds := [.data, .pinned], laidTests := true, laidLooks := .later }
def SelectorLabelsCardSaid : Prop := Claim7.holds Tryd.pinned (.plain (OpenSpec.ofChange selectorLabelsSpec)) selectorLabelsCard

/-- THE SECOND FORM's CARD OF 'freeholdlaw20.SelectorLabels'. -/
def selectorLabelsUptoCard : Claim7 := { stood := { row := selectorLabelsUptoRow, standIns := [], harness := (true, "2f263bba086574b312cbdc5445092aea648772834a9b110968ea34e0dd348219"), looks := false }, kinds := [], alts := [], laidByText := true, laidKinds := [.data, .pinned], laidTests := true, laidLooks := .later }
def SelectorLabelsUptoCardSaid : Prop := Claim7.holds Tryd.pinned (.plain (OpenSpec.upto selectorLabelsSpec)) selectorLabelsUptoCard
end Rows
end Go.Proofs.YtmmlejbebfkojaaDoor
