/-
  DERIVED. GIVEN WITH THE SEED: THE CARDS: each row of YtgnofbigggmilaaGreatDoorRows.lean that lists a variable, with what it lists TIED to the program's text (the seventh form; the later family's looks); each row that meets fmt, with fmt's text TOLD by the authors' own Lean function (tested against real Go, not proved from fmt's source: count such statements apart). THE CARD IS WHAT COUNTS. Prove the row's statement (the work); the ties are given (YtgnofbigggmilaaGreatDoorTie.lean); close each card by the builder's one call (the guide's Derived/Test/ToyasCard.lean, 'card_holds'). Laid BY PROGRAM, IN A SANDBOX (cutbox-door.mjs). By AI agents, Wed Nov 11 2026. No macro, syntax, notation, axiom, sorry.
-/
import Derived.Test.YtgnofbigggmilaaGreatDoorRows
import GoSem.ClaimSeven
namespace Go.Proofs.YtgnofbigggmilaaGreatDoor
namespace Rows

/-- THE TIED CARD OF 'freeholdlaw04.PointerKept'. -/
def pointerKeptCard : Claim7 := { stood := { row := pointerKeptRow, standIns := [], harness := (true, "f3238c513497048dc5de1afeb352b9ef5a544794a26ee4cece5b7349973c24bd"), looks := true }, kinds := [], alts := [], laidByText := true, laidKinds := [.data, .data, .data, .data, .sentinel, .sentinel, .pinned], laidTests := true, laidLooks := .later }
def PointerKeptCardSaid : Prop := Claim7.holds Tryz.pinned (.plain (OpenSpec.ofChange pointerKeptSpec)) pointerKeptCard

/-- THE TIED CARD OF 'freeholdlaw04.PointerMoves'. -/
def pointerMovesCard : Claim7 := { stood := { row := pointerMovesRow, standIns := [], harness := (true, "f3238c513497048dc5de1afeb352b9ef5a544794a26ee4cece5b7349973c24bd"), looks := true }, kinds := [], alts := [], laidByText := true, laidKinds := [.data, .data, .data, .data, .sentinel, .sentinel, .pinned], laidTests := true, laidLooks := .later }
def PointerMovesCardSaid : Prop := Claim7.holds Tryz.pinned (.plain (OpenSpec.ofChange pointerMovesSpec)) pointerMovesCard

/-- THE TIED CARD OF 'freeholdlaw04.PointerLists'. -/
def pointerListsCard : Claim7 := { stood := { row := pointerListsRow, standIns := [], harness := (true, "f3238c513497048dc5de1afeb352b9ef5a544794a26ee4cece5b7349973c24bd"), looks := true }, kinds := [], alts := [], laidByText := true, laidKinds := [.data, .data, .data, .data, .sentinel, .sentinel, .pinned], laidTests := true, laidLooks := .later }
def PointerListsCardSaid : Prop := Claim7.holds Tryz.pinned (.plain (OpenSpec.ofChange pointerListsSpec)) pointerListsCard

/-- THE TIED CARD OF 'freeholdlaw04.PointerTwoWay'. -/
def pointerTwoWayCard : Claim7 := { stood := { row := pointerTwoWayRow, standIns := [], harness := (true, "f3238c513497048dc5de1afeb352b9ef5a544794a26ee4cece5b7349973c24bd"), looks := true }, kinds := [], alts := [], laidByText := true, laidKinds := [.data, .data, .data, .data, .sentinel, .sentinel, .pinned], laidTests := true, laidLooks := .later }
def PointerTwoWayCardSaid : Prop := Claim7.holds Tryz.pinned (.plain (OpenSpec.ofChange pointerTwoWaySpec)) pointerTwoWayCard

/-- THE SECOND FORM's CARD OF 'freeholdlaw04.PointerKept'. -/
def pointerKeptUptoCard : Claim7 := { stood := { row := pointerKeptUptoRow, standIns := [], harness := (true, "f3238c513497048dc5de1afeb352b9ef5a544794a26ee4cece5b7349973c24bd"), looks := true }, kinds := [], alts := [], laidByText := true, laidKinds := [.data, .data, .data, .data, .sentinel, .sentinel, .pinned], laidTests := true, laidLooks := .later }
def PointerKeptUptoCardSaid : Prop := Claim7.holds Tryz.pinned (.plain (OpenSpec.upto pointerKeptSpec)) pointerKeptUptoCard

/-- THE SECOND FORM's CARD OF 'freeholdlaw04.PointerMoves'. -/
def pointerMovesUptoCard : Claim7 := { stood := { row := pointerMovesUptoRow, standIns := [], harness := (true, "f3238c513497048dc5de1afeb352b9ef5a544794a26ee4cece5b7349973c24bd"), looks := true }, kinds := [], alts := [], laidByText := true, laidKinds := [.data, .data, .data, .data, .sentinel, .sentinel, .pinned], laidTests := true, laidLooks := .later }
def PointerMovesUptoCardSaid : Prop := Claim7.holds Tryz.pinned (.plain (OpenSpec.upto pointerMovesSpec)) pointerMovesUptoCard

/-- THE SECOND FORM's CARD OF 'freeholdlaw04.PointerLists'. -/
def pointerListsUptoCard : Claim7 := { stood := { row := pointerListsUptoRow, standIns := [], harness := (true, "f3238c513497048dc5de1afeb352b9ef5a544794a26ee4cece5b7349973c24bd"), looks := true }, kinds := [], alts := [], laidByText := true, laidKinds := [.data, .data, .data, .data, .sentinel, .sentinel, .pinned], laidTests := true, laidLooks := .later }
def PointerListsUptoCardSaid : Prop := Claim7.holds Tryz.pinned (.plain (OpenSpec.upto pointerListsSpec)) pointerListsUptoCard

/-- THE SECOND FORM's CARD OF 'freeholdlaw04.PointerTwoWay'. -/
def pointerTwoWayUptoCard : Claim7 := { stood := { row := pointerTwoWayUptoRow, standIns := [], harness := (true, "f3238c513497048dc5de1afeb352b9ef5a544794a26ee4cece5b7349973c24bd"), looks := true }, kinds := [], alts := [], laidByText := true, laidKinds := [.data, .data, .data, .data, .sentinel, .sentinel, .pinned], laidTests := true, laidLooks := .later }
def PointerTwoWayUptoCardSaid : Prop := Claim7.holds Tryz.pinned (.plain (OpenSpec.upto pointerTwoWaySpec)) pointerTwoWayUptoCard
end Rows
end Go.Proofs.YtgnofbigggmilaaGreatDoor
