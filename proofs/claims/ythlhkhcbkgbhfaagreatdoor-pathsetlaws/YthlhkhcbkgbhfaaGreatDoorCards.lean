/-
  DERIVED. GIVEN WITH THE SEED: THE CARDS: each row of YthlhkhcbkgbhfaaGreatDoorRows.lean that lists a variable, with what it lists TIED to the program's text (the seventh form; the later family's looks); each row that meets fmt, with fmt's text TOLD by the authors' own Lean function (tested against real Go, not proved from fmt's source: count such statements apart). THE CARD IS WHAT COUNTS. Prove the row's statement (the work); the ties are given (YthlhkhcbkgbhfaaGreatDoorTie.lean); close each card by the builder's one call (the guide's Derived/Test/ToyasCard.lean, 'card_holds'). Laid BY PROGRAM, IN A SANDBOX (cutbox-door.mjs). By AI agents, Wed Nov 11 2026. No macro, syntax, notation, axiom, sorry.
-/
import Derived.Test.YthlhkhcbkgbhfaaGreatDoorRows
import GoSem.ClaimSeven
namespace Go.Proofs.YthlhkhcbkgbhfaaGreatDoor
namespace Rows

/-- THE TIED CARD OF 'freeholdlaw10.PathsetLaws'. -/
def pathsetLawsCard : Claim7 := { stood := { row := pathsetLawsRow, standIns := [], harness := (true, "b59bac463188235ba2a3e2f2aa40c4644d5ea104c8ae0db28247325f20711c51"), looks := false }, kinds := [], alts := [], laidByText := true, laidKinds := [.data, .pinned], laidTests := true, laidLooks := .later }
def PathsetLawsCardSaid : Prop := Claim7.holds Tryz.pinned (.plain (OpenSpec.ofChange pathsetLawsSpec)) pathsetLawsCard

/-- THE TIED CARD OF 'freeholdlaw10.PathsetEnds'. -/
def pathsetEndsCard : Claim7 := { stood := { row := pathsetEndsRow, standIns := [], harness := (true, "b59bac463188235ba2a3e2f2aa40c4644d5ea104c8ae0db28247325f20711c51"), looks := false }, kinds := [], alts := [], laidByText := true, laidKinds := [.data, .pinned], laidTests := true, laidLooks := .later }
def PathsetEndsCardSaid : Prop := Claim7.holds Tryz.pinned (.plain (OpenSpec.ofChange pathsetEndsSpec)) pathsetEndsCard

/-- THE SECOND FORM's CARD OF 'freeholdlaw10.PathsetLaws'. -/
def pathsetLawsUptoCard : Claim7 := { stood := { row := pathsetLawsUptoRow, standIns := [], harness := (true, "b59bac463188235ba2a3e2f2aa40c4644d5ea104c8ae0db28247325f20711c51"), looks := false }, kinds := [], alts := [], laidByText := true, laidKinds := [.data, .pinned], laidTests := true, laidLooks := .later }
def PathsetLawsUptoCardSaid : Prop := Claim7.holds Tryz.pinned (.plain (OpenSpec.upto pathsetLawsSpec)) pathsetLawsUptoCard

/-- THE SECOND FORM's CARD OF 'freeholdlaw10.PathsetEnds'. -/
def pathsetEndsUptoCard : Claim7 := { stood := { row := pathsetEndsUptoRow, standIns := [], harness := (true, "b59bac463188235ba2a3e2f2aa40c4644d5ea104c8ae0db28247325f20711c51"), looks := false }, kinds := [], alts := [], laidByText := true, laidKinds := [.data, .pinned], laidTests := true, laidLooks := .later }
def PathsetEndsUptoCardSaid : Prop := Claim7.holds Tryz.pinned (.plain (OpenSpec.upto pathsetEndsSpec)) pathsetEndsUptoCard
end Rows
end Go.Proofs.YthlhkhcbkgbhfaaGreatDoor
