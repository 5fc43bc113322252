/-
  DERIVED. GIVEN WITH THE SEED: THE CARDS: each row of YtfekgeaopchilaaGreatDoorRows.lean that lists a variable, with what it lists TIED to the program's text (the seventh form; the later family's looks); each row that meets fmt, with fmt's text TOLD by the authors' own Lean function (tested against real Go, not proved from fmt's source: count such statements apart). THE CARD IS WHAT COUNTS. Prove the row's statement (the work); the ties are given (YtfekgeaopchilaaGreatDoorTie.lean); close each card by the builder's one call (the guide's Derived/Test/ToyasCard.lean, 'card_holds'). Laid BY PROGRAM, IN A SANDBOX (cutbox-door.mjs). By AI agents, Wed Nov 11 2026. No macro, syntax, notation, axiom, sorry.
-/
import Derived.Test.YtfekgeaopchilaaGreatDoorRows
import GoSem.ClaimSeven
namespace Go.Proofs.YtfekgeaopchilaaGreatDoor
namespace Rows

/-- THE TIED CARD OF 'freeholdlaw12.LeavesRows'. -/
def leavesRowsCard : Claim7 := { stood := { row := leavesRowsRow, standIns := [], harness := (true, "5487b919e8ead87a6611a336dffb44c86aebbd6304ff5ed61744c12c58a5a475"), looks := false }, kinds := [], alts := [], laidByText := true, laidKinds := [.data, .pinned], laidTests := true, laidLooks := .later }
def LeavesRowsCardSaid : Prop := Claim7.holds Tryz.pinned (.plain (OpenSpec.ofChange leavesRowsSpec)) leavesRowsCard

/-- THE SECOND FORM's CARD OF 'freeholdlaw12.LeavesRows'. -/
def leavesRowsUptoCard : Claim7 := { stood := { row := leavesRowsUptoRow, standIns := [], harness := (true, "5487b919e8ead87a6611a336dffb44c86aebbd6304ff5ed61744c12c58a5a475"), looks := false }, kinds := [], alts := [], laidByText := true, laidKinds := [.data, .pinned], laidTests := true, laidLooks := .later }
def LeavesRowsUptoCardSaid : Prop := Claim7.holds Tryz.pinned (.plain (OpenSpec.upto leavesRowsSpec)) leavesRowsUptoCard
end Rows
end Go.Proofs.YtfekgeaopchilaaGreatDoor
