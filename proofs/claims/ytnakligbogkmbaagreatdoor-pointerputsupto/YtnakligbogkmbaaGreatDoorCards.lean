/-
  DERIVED. GIVEN WITH THE SEED: THE CARDS: each row of YtnakligbogkmbaaGreatDoorRows.lean that lists a variable, with what it lists TIED to the program's text (the seventh form; the later family's looks); each row that meets fmt, with fmt's text TOLD by the authors' own Lean function (tested against real Go, not proved from fmt's source: count such statements apart). THE CARD IS WHAT COUNTS. Prove the row's statement (the work); the ties are given (YtnakligbogkmbaaGreatDoorTie.lean); close each card by the builder's one call (the guide's Derived/Test/ToyasCard.lean, 'card_holds'). Laid BY PROGRAM, IN A SANDBOX (cutbox-door.mjs). By AI agents, Wed Nov 11 2026. No macro, syntax, notation, axiom, sorry.
-/
import Derived.Test.YtnakligbogkmbaaGreatDoorRows
import GoSem.ClaimSeven
namespace Go.Proofs.YtnakligbogkmbaaGreatDoor
namespace Rows

/-- THE TIED CARD OF 'freeholdlaw04.PointerPuts'. -/
def pointerPutsCard : Claim7 := { stood := { row := pointerPutsRow, standIns := [], harness := (true, "c8fd007b0c215b6d48ae666b90538ebfa3de2fbec885692f1968be79761ae6ac"), looks := true }, kinds := [], alts := [], laidByText := true, laidKinds := [.data, .data, .data, .data, .sentinel, .sentinel, .pinned], laidTests := true, laidLooks := .later }
def PointerPutsCardSaid : Prop := Claim7.holds Tryz.pinned (.plain (OpenSpec.ofChange pointerPutsSpec)) pointerPutsCard

/-- THE SECOND FORM's CARD OF 'freeholdlaw04.PointerPuts'. -/
def pointerPutsUptoCard : Claim7 := { stood := { row := pointerPutsUptoRow, standIns := [], harness := (true, "c8fd007b0c215b6d48ae666b90538ebfa3de2fbec885692f1968be79761ae6ac"), looks := true }, kinds := [], alts := [], laidByText := true, laidKinds := [.data, .data, .data, .data, .sentinel, .sentinel, .pinned], laidTests := true, laidLooks := .later }
def PointerPutsUptoCardSaid : Prop := Claim7.holds Tryz.pinned (.plain (OpenSpec.upto pointerPutsSpec)) pointerPutsUptoCard
end Rows
end Go.Proofs.YtnakligbogkmbaaGreatDoor
