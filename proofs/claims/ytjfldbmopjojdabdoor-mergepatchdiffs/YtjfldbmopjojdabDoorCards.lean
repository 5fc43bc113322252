/-
  DERIVED. GIVEN WITH THE SEED: THE CARDS: each row of YtjfldbmopjojdabDoorRows.lean that lists a variable, with what it lists TIED to the program's text (the seventh form; the later family's looks); each row that meets fmt, with fmt's text TOLD by the authors' own Lean function (tested against real Go, not proved from fmt's source: count such statements apart). THE CARD IS WHAT COUNTS. Prove the row's statement (the work); the ties are given (YtjfldbmopjojdabDoorTie.lean); close each card by the builder's one call (the guide's Derived/Test/ToyasCard.lean, 'card_holds'). Laid BY PROGRAM, IN A SANDBOX (cutbox-door.mjs). By AI agents, Wed Nov 11 2026. No macro, syntax, notation, axiom, sorry.
-/
import Derived.Test.YtjfldbmopjojdabDoorRows
import GoSem.ClaimSeven
namespace Go.Proofs.YtjfldbmopjojdabDoor
namespace Rows

/-- THE TIED CARD OF 'freeholdlaw05.MergepatchDiffs'. -/
def mergepatchDiffsCard : Claim7 := { stood := { row := mergepatchDiffsRow, standIns := [], harness := (true, "54f8bad989f18e4a29df3a0b5add94d91d82393e0f4aefef1571af64cdac851e"), looks := true }, kinds := [], alts := [], laidByText := true, laidKinds := [.data, .sentinel, .pinned], laidTests := true, laidLooks := .later }
def MergepatchDiffsCardSaid : Prop := Claim7.holds Tryd.pinned (.plain (OpenSpec.ofChange mergepatchDiffsSpec)) mergepatchDiffsCard

/-- THE SECOND FORM's CARD OF 'freeholdlaw05.MergepatchDiffs'. -/
def mergepatchDiffsUptoCard : Claim7 := { stood := { row := mergepatchDiffsUptoRow, standIns := [], harness := (true, "54f8bad989f18e4a29df3a0b5add94d91d82393e0f4aefef1571af64cdac851e"), looks := true }, kinds := [], alts := [], laidByText := true, laidKinds := [.data, .sentinel, .pinned], laidTests := true, laidLooks := .later }
def MergepatchDiffsUptoCardSaid : Prop := Claim7.holds Tryd.pinned (.plain (OpenSpec.upto mergepatchDiffsSpec)) mergepatchDiffsUptoCard
end Rows
end Go.Proofs.YtjfldbmopjojdabDoor
