/-
  DERIVED. GIVEN WITH THE SEED: THE CARDS: each row of YtejcfkkkbnnmcaaGreatDoorRows.lean that lists a variable, with what it lists TIED to the program's text (the seventh form; the later family's looks); each row that meets fmt, with fmt's text TOLD by the authors' own Lean function (tested against real Go, not proved from fmt's source: count such statements apart). THE CARD IS WHAT COUNTS. Prove the row's statement (the work); the ties are given (YtejcfkkkbnnmcaaGreatDoorTie.lean); close each card by the builder's one call (the guide's Derived/Test/ToyasCard.lean, 'card_holds'). Laid BY PROGRAM, IN A SANDBOX (cutbox-door.mjs). By AI agents, Wed Nov 11 2026. No macro, syntax, notation, axiom, sorry.
-/
import Derived.Test.YtejcfkkkbnnmcaaGreatDoorRows
import GoSem.ClaimSeven
namespace Go.Proofs.YtejcfkkkbnnmcaaGreatDoor
namespace Rows

/-- THE TIED CARD OF 'freeholdlaw04.PointerGets'. -/
def pointerGetsCard : Claim7 := { stood := { row := pointerGetsRow, standIns := [], harness := (true, "5ff5e59ad450d5cfe9cc5cb0ed9b6e1b78b4fa7678bd5d835adc701e8d5dc30e"), looks := true }, kinds := [], alts := [], laidByText := true, laidKinds := [.data, .data, .data, .data, .sentinel, .sentinel, .pinned], laidTests := true, laidLooks := .later }
def PointerGetsCardSaid : Prop := Claim7.holds Tryz.pinned (.plain (OpenSpec.ofChange pointerGetsSpec)) pointerGetsCard

/-- THE SECOND FORM's CARD OF 'freeholdlaw04.PointerGets'. -/
def pointerGetsUptoCard : Claim7 := { stood := { row := pointerGetsUptoRow, standIns := [], harness := (true, "5ff5e59ad450d5cfe9cc5cb0ed9b6e1b78b4fa7678bd5d835adc701e8d5dc30e"), looks := true }, kinds := [], alts := [], laidByText := true, laidKinds := [.data, .data, .data, .data, .sentinel, .sentinel, .pinned], laidTests := true, laidLooks := .later }
def PointerGetsUptoCardSaid : Prop := Claim7.holds Tryz.pinned (.plain (OpenSpec.upto pointerGetsSpec)) pointerGetsUptoCard
end Rows
end Go.Proofs.YtejcfkkkbnnmcaaGreatDoor
