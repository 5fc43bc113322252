/-
  DERIVED. GIVEN WITH THE SEED: THE CARDS: each row of YtjdgnajjggjljaaDoorRows.lean that lists a variable, with what it lists TIED to the program's text (the seventh form; the later family's looks); each row that meets fmt, with fmt's text TOLD by the authors' own Lean function (tested against real Go, not proved from fmt's source: count such statements apart). THE CARD IS WHAT COUNTS. Prove the row's statement (the work); the ties are given (YtjdgnajjggjljaaDoorTie.lean); close each card by the builder's one call (the guide's Derived/Test/ToyasCard.lean, 'card_holds'). Laid BY PROGRAM, IN A SANDBOX (cutbox-door.mjs). By AI agents, Wed Nov 11 2026. No macro, syntax, notation, axiom, sorry.
-/
import Derived.Test.YtjdgnajjggjljaaDoorRows
import GoSem.ClaimSeven
namespace Go.Proofs.YtjdgnajjggjljaaDoor
namespace Rows

/-- THE TIED CARD OF 'freeholdlaw09.PathPairs'. -/
def pathPairsCard : Claim7 := { stood := { row := pathPairsRow, standIns := [], harness := (true, "0b69324efa52cce9a529530e5e4e79ea9c0f7e727790433ec265c51672504a30"), looks := false }, kinds := [], alts := [], laidByText := true, laidKinds := [.data, .pinned], laidTests := true, laidLooks := .later }
def PathPairsCardSaid : Prop := Claim7.holds Tryd.pinned (.plain (OpenSpec.ofChange pathPairsSpec)) pathPairsCard

/-- THE TIED CARD OF 'freeholdlaw09.PathSorts'. -/
def pathSortsCard : Claim7 := { stood := { row := pathSortsRow, standIns := [], harness := (true, "0b69324efa52cce9a529530e5e4e79ea9c0f7e727790433ec265c51672504a30"), looks := false }, kinds := [], alts := [], laidByText := true, laidKinds := [.data, .pinned], laidTests := true, laidLooks := .later }
def PathSortsCardSaid : Prop := Claim7.holds Tryd.pinned (.plain (OpenSpec.ofChange pathSortsSpec)) pathSortsCard

/-- THE TIED CARD OF 'freeholdlaw10.PathsetChecks'. -/
def pathsetChecksCard : Claim7 := { stood := { row := pathsetChecksRow, standIns := [], harness := (true, "0b69324efa52cce9a529530e5e4e79ea9c0f7e727790433ec265c51672504a30"), looks := false }, kinds := [], alts := [], laidByText := true, laidKinds := [.data, .pinned], laidTests := true, laidLooks := .later }
def PathsetChecksCardSaid : Prop := Claim7.holds Tryd.pinned (.plain (OpenSpec.ofChange pathsetChecksSpec)) pathsetChecksCard

/-- THE SECOND FORM's CARD OF 'freeholdlaw09.PathPairs'. -/
def pathPairsUptoCard : Claim7 := { stood := { row := pathPairsUptoRow, standIns := [], harness := (true, "0b69324efa52cce9a529530e5e4e79ea9c0f7e727790433ec265c51672504a30"), looks := false }, kinds := [], alts := [], laidByText := true, laidKinds := [.data, .pinned], laidTests := true, laidLooks := .later }
def PathPairsUptoCardSaid : Prop := Claim7.holds Tryd.pinned (.plain (OpenSpec.upto pathPairsSpec)) pathPairsUptoCard

/-- THE SECOND FORM's CARD OF 'freeholdlaw09.PathSorts'. -/
def pathSortsUptoCard : Claim7 := { stood := { row := pathSortsUptoRow, standIns := [], harness := (true, "0b69324efa52cce9a529530e5e4e79ea9c0f7e727790433ec265c51672504a30"), looks := false }, kinds := [], alts := [], laidByText := true, laidKinds := [.data, .pinned], laidTests := true, laidLooks := .later }
def PathSortsUptoCardSaid : Prop := Claim7.holds Tryd.pinned (.plain (OpenSpec.upto pathSortsSpec)) pathSortsUptoCard

/-- THE SECOND FORM's CARD OF 'freeholdlaw10.PathsetChecks'. -/
def pathsetChecksUptoCard : Claim7 := { stood := { row := pathsetChecksUptoRow, standIns := [], harness := (true, "0b69324efa52cce9a529530e5e4e79ea9c0f7e727790433ec265c51672504a30"), looks := false }, kinds := [], alts := [], laidByText := true, laidKinds := [.data, .pinned], laidTests := true, laidLooks := .later }
def PathsetChecksUptoCardSaid : Prop := Claim7.holds Tryd.pinned (.plain (OpenSpec.upto pathsetChecksSpec)) pathsetChecksUptoCard
end Rows
end Go.Proofs.YtjdgnajjggjljaaDoor
