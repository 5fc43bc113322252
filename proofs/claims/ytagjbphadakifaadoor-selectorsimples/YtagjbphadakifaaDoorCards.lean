/-
  DERIVED. GIVEN WITH THE SEED: THE CARDS: each row of YtagjbphadakifaaDoorRows.lean that lists a variable, with what it lists TIED to the program's text (the seventh form; the later family's looks); each row that meets fmt, with fmt's text TOLD by the authors' own Lean function (tested against real Go, not proved from fmt's source: count such statements apart). THE CARD IS WHAT COUNTS. Prove the row's statement (the work); the ties are given (YtagjbphadakifaaDoorTie.lean); close each card by the builder's one call (the guide's Derived/Test/ToyasCard.lean, 'card_holds'). Laid BY PROGRAM, IN A SANDBOX (cutbox-door.mjs). By AI agents, Wed Nov 11 2026. No macro, syntax, notation, axiom, sorry.
-/
import Derived.Test.YtagjbphadakifaaDoorRows
import GoSem.ClaimSeven
namespace Go.Proofs.YtagjbphadakifaaDoor
namespace Rows

/-- THE TIED CARD OF 'freeholdlaw20.SelectorMatches'. -/
def selectorMatchesCard : Claim7 := { stood := { row := selectorMatchesRow, standIns := [], harness := (true, "315044c694ec1bf698c1ff17fb465a47ba24acb7343ab07aea20e02c1ad90377"), looks := false }, kinds := [], alts := [], laidByText := true, laidKinds := [.data, .pinned], laidTests := true, laidLooks := .later }
def SelectorMatchesCardSaid : Prop := Claim7.holds Tryd.pinned (.plain (OpenSpec.ofChange selectorMatchesSpec)) selectorMatchesCard

/-- THE TIED CARD OF 'freeholdlaw20.SelectorPrints'. -/
def selectorPrintsCard : Claim7 := { stood := { row := selectorPrintsRow, standIns := [], harness := (true, "315044c694ec1bf698c1ff17fb465a47ba24acb7343ab07aea20e02c1ad90377"), looks := false }, kinds := [], alts := [], laidByText := true, laidKinds := [.data, .data, .pinned], laidTests := true, laidLooks := .later }
def SelectorPrintsCardSaid : Prop := Claim7.holds Tryd.pinned (.plain (OpenSpec.ofChange selectorPrintsSpec)) selectorPrintsCard

/-- THE TIED CARD OF 'freeholdlaw20.SelectorSimples'. -/
def selectorSimplesCard : Claim7 := { stood := { row := selectorSimplesRow, standIns := [], harness := (true, "315044c694ec1bf698c1ff17fb465a47ba24acb7343ab07aea20e02c1ad90377"), looks := false }, kinds := [], alts := [], laidByText := true, laidKinds := [.data, .pinned], laidTests := true, laidLooks := .later }
def SelectorSimplesCardSaid : Prop := Claim7.holds Tryd.pinned (.plain (OpenSpec.ofChange selectorSimplesSpec)) selectorSimplesCard

/-- THE SECOND FORM's CARD OF 'freeholdlaw20.SelectorMatches'. -/
def selectorMatchesUptoCard : Claim7 := { stood := { row := selectorMatchesUptoRow, standIns := [], harness := (true, "315044c694ec1bf698c1ff17fb465a47ba24acb7343ab07aea20e02c1ad90377"), looks := false }, kinds := [], alts := [], laidByText := true, laidKinds := [.data, .pinned], laidTests := true, laidLooks := .later }
def SelectorMatchesUptoCardSaid : Prop := Claim7.holds Tryd.pinned (.plain (OpenSpec.upto selectorMatchesSpec)) selectorMatchesUptoCard

/-- THE SECOND FORM's CARD OF 'freeholdlaw20.SelectorPrints'. -/
def selectorPrintsUptoCard : Claim7 := { stood := { row := selectorPrintsUptoRow, standIns := [], harness := (true, "315044c694ec1bf698c1ff17fb465a47ba24acb7343ab07aea20e02c1ad90377"), looks := false }, kinds := [], alts := [], laidByText := true, laidKinds := [.data, .data, .pinned], laidTests := true, laidLooks := .later }
def SelectorPrintsUptoCardSaid : Prop := Claim7.holds Tryd.pinned (.plain (OpenSpec.upto selectorPrintsSpec)) selectorPrintsUptoCard

/-- THE SECOND FORM's CARD OF 'freeholdlaw20.SelectorSimples'. -/
def selectorSimplesUptoCard : Claim7 := { stood := { row := selectorSimplesUptoRow, standIns := [], harness := (true, "315044c694ec1bf698c1ff17fb465a47ba24acb7343ab07aea20e02c1ad90377"), looks := false }, kinds := [], alts := [], laidByText := true, laidKinds := [.data, .pinned], laidTests := true, laidLooks := .later }
def SelectorSimplesUptoCardSaid : Prop := Claim7.holds Tryd.pinned (.plain (OpenSpec.upto selectorSimplesSpec)) selectorSimplesUptoCard
end Rows
end Go.Proofs.YtagjbphadakifaaDoor
