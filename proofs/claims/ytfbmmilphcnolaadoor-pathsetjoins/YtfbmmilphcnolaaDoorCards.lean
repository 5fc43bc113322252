/-
  DERIVED. GIVEN WITH THE SEED: THE CARDS: each row of YtfbmmilphcnolaaDoorRows.lean that lists a variable, with what it lists TIED to the program's text (the seventh form; the later family's looks); each row that meets fmt, with fmt's text TOLD by the authors' own Lean function (tested against real Go, not proved from fmt's source: count such statements apart). THE CARD IS WHAT COUNTS. Prove the row's statement (the work); the ties are given (YtfbmmilphcnolaaDoorTie.lean); close each card by the builder's one call (the guide's Derived/Test/ToyasCard.lean, 'card_holds'). Laid BY PROGRAM, IN A SANDBOX (cutbox-door.mjs). By AI agents, Wed Nov 11 2026. No macro, syntax, notation, axiom, sorry.
-/
import Derived.Test.YtfbmmilphcnolaaDoorRows
import GoSem.ClaimSeven
namespace Go.Proofs.YtfbmmilphcnolaaDoor
namespace Rows

/-- THE TIED CARD OF 'freeholdlaw10.PathsetParts'. -/
def pathsetPartsCard : Claim7 := { stood := { row := pathsetPartsRow, standIns := [], harness := (true, "fb25ffa400c3f91c9478374fc629b89ca9ac61a03b1ee966d49e6f7f33fa2e9e"), looks := false }, kinds := [], alts := [], laidByText := true, laidKinds := [.data, .pinned], laidTests := true, laidLooks := .later }
def PathsetPartsCardSaid : Prop := Claim7.holds Tryd.pinned (.plain (OpenSpec.ofChange pathsetPartsSpec)) pathsetPartsCard

/-- THE TIED CARD OF 'freeholdlaw10.PathsetJoins'. -/
def pathsetJoinsCard : Claim7 := { stood := { row := pathsetJoinsRow, standIns := [], harness := (true, "fb25ffa400c3f91c9478374fc629b89ca9ac61a03b1ee966d49e6f7f33fa2e9e"), looks := false }, kinds := [], alts := [], laidByText := true, laidKinds := [.data, .pinned], laidTests := true, laidLooks := .later }
def PathsetJoinsCardSaid : Prop := Claim7.holds Tryd.pinned (.plain (OpenSpec.ofChange pathsetJoinsSpec)) pathsetJoinsCard

/-- THE SECOND FORM's CARD OF 'freeholdlaw10.PathsetParts'. -/
def pathsetPartsUptoCard : Claim7 := { stood := { row := pathsetPartsUptoRow, standIns := [], harness := (true, "fb25ffa400c3f91c9478374fc629b89ca9ac61a03b1ee966d49e6f7f33fa2e9e"), looks := false }, kinds := [], alts := [], laidByText := true, laidKinds := [.data, .pinned], laidTests := true, laidLooks := .later }
def PathsetPartsUptoCardSaid : Prop := Claim7.holds Tryd.pinned (.plain (OpenSpec.upto pathsetPartsSpec)) pathsetPartsUptoCard

/-- THE SECOND FORM's CARD OF 'freeholdlaw10.PathsetJoins'. -/
def pathsetJoinsUptoCard : Claim7 := { stood := { row := pathsetJoinsUptoRow, standIns := [], harness := (true, "fb25ffa400c3f91c9478374fc629b89ca9ac61a03b1ee966d49e6f7f33fa2e9e"), looks := false }, kinds := [], alts := [], laidByText := true, laidKinds := [.data, .pinned], laidTests := true, laidLooks := .later }
def PathsetJoinsUptoCardSaid : Prop := Claim7.holds Tryd.pinned (.plain (OpenSpec.upto pathsetJoinsSpec)) pathsetJoinsUptoCard
end Rows
end Go.Proofs.YtfbmmilphcnolaaDoor
