/-
  DERIVED. GIVEN WITH THE SEED: THE CARDS: each row of YtfihgaffiobfhaaDoorRows.lean that lists a variable, with what it lists TIED to the program's text (the seventh form; the later family's looks); each row that meets fmt, with fmt's text TOLD by the authors' own Lean function (tested against real Go, not proved from fmt's source: count such statements apart). THE CARD IS WHAT COUNTS. Prove the row's statement (the work); the ties are given (YtfihgaffiobfhaaDoorTie.lean); close each card by the builder's one call (the guide's Derived/Test/ToyasCard.lean, 'card_holds'). Laid BY PROGRAM, IN A SANDBOX (cutbox-door.mjs). By AI agents, Wed Nov 11 2026. No macro, syntax, notation, axiom, sorry.
-/
import Derived.Test.YtfihgaffiobfhaaDoorRows
import GoSem.ClaimSeven
namespace Go.Proofs.YtfihgaffiobfhaaDoor
namespace Rows

/-- THE TIED CARD OF 'freeholdlaw09.PathOnes'. -/
def pathOnesCard : Claim7 := { stood := { row := pathOnesRow, standIns := [], harness := (true, "dfde9e88afe0d84a34b949baceed901ed81892098b3b97a84928ecbc1c74a775"), looks := false }, kinds := [], alts := [], laidByText := true, laidKinds := [.data, .data, .data, .data, .data, .pinned], laidTests := true, laidLooks := .later }
def PathOnesCardSaid : Prop := Claim7.holds Tryd.pinned (.plain (OpenSpec.ofChange pathOnesSpec)) pathOnesCard

/-- THE SECOND FORM's CARD OF 'freeholdlaw09.PathOnes'. -/
def pathOnesUptoCard : Claim7 := { stood := { row := pathOnesUptoRow, standIns := [], harness := (true, "dfde9e88afe0d84a34b949baceed901ed81892098b3b97a84928ecbc1c74a775"), looks := false }, kinds := [], alts := [], laidByText := true, laidKinds := [.data, .data, .data, .data, .data, .pinned], laidTests := true, laidLooks := .later }
def PathOnesUptoCardSaid : Prop := Claim7.holds Tryd.pinned (.plain (OpenSpec.upto pathOnesSpec)) pathOnesUptoCard
end Rows
end Go.Proofs.YtfihgaffiobfhaaDoor
