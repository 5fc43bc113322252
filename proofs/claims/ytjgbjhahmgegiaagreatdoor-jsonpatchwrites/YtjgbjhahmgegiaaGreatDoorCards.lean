/-
  DERIVED. GIVEN WITH THE SEED: THE CARDS: each row of YtjgbjhahmgegiaaGreatDoorRows.lean that lists a variable, with what it lists TIED to the program's text (the seventh form; the later family's looks); each row that meets fmt, with fmt's text TOLD by the authors' own Lean function (tested against real Go, not proved from fmt's source: count such statements apart). THE CARD IS WHAT COUNTS. Prove the row's statement (the work); the ties are given (YtjgbjhahmgegiaaGreatDoorTie.lean); close each card by the builder's one call (the guide's Derived/Test/ToyasCard.lean, 'card_holds'). Laid BY PROGRAM, IN A SANDBOX (cutbox-door.mjs). By AI agents, Wed Nov 11 2026. No macro, syntax, notation, axiom, sorry.
-/
import Derived.Test.YtjgbjhahmgegiaaGreatDoorRows
import GoSem.ClaimSeven
namespace Go.Proofs.YtjgbjhahmgegiaaGreatDoor
namespace Rows

/-- THE TIED CARD OF 'freeholdlaw06.JsonpatchReads'. -/
def jsonpatchReadsCard : Claim7 := { stood := { row := jsonpatchReadsRow, standIns := [], harness := (true, "e2c5fb733c409a9019ab52b0bbda602c73f89eff0183b8cebf1b49504ae9616a"), looks := true }, kinds := [], alts := [], laidByText := true, laidKinds := [.data, .data, .data, .data, .sentinel, .sentinel, .pinned], laidTests := true, laidLooks := .later }
def JsonpatchReadsCardSaid : Prop := Claim7.holds Tryz.pinned (.plain (OpenSpec.ofChange jsonpatchReadsSpec)) jsonpatchReadsCard

/-- THE TIED CARD OF 'freeholdlaw06.JsonpatchWrites'. -/
def jsonpatchWritesCard : Claim7 := { stood := { row := jsonpatchWritesRow, standIns := [], harness := (true, "e2c5fb733c409a9019ab52b0bbda602c73f89eff0183b8cebf1b49504ae9616a"), looks := true }, kinds := [], alts := [], laidByText := true, laidKinds := [.data, .data, .data, .data, .sentinel, .sentinel, .pinned], laidTests := true, laidLooks := .later }
def JsonpatchWritesCardSaid : Prop := Claim7.holds Tryz.pinned (.plain (OpenSpec.ofChange jsonpatchWritesSpec)) jsonpatchWritesCard

/-- THE TIED CARD OF 'freeholdlaw06.JsonpatchApplies'. -/
def jsonpatchAppliesCard : Claim7 := { stood := { row := jsonpatchAppliesRow, standIns := [], harness := (true, "e2c5fb733c409a9019ab52b0bbda602c73f89eff0183b8cebf1b49504ae9616a"), looks := true }, kinds := [], alts := [], laidByText := true, laidKinds := [.data, .data, .data, .data, .sentinel, .sentinel, .pinned], laidTests := true, laidLooks := .later }
def JsonpatchAppliesCardSaid : Prop := Claim7.holds Tryz.pinned (.plain (OpenSpec.ofChange jsonpatchAppliesSpec)) jsonpatchAppliesCard

/-- THE SECOND FORM's CARD OF 'freeholdlaw06.JsonpatchReads'. -/
def jsonpatchReadsUptoCard : Claim7 := { stood := { row := jsonpatchReadsUptoRow, standIns := [], harness := (true, "e2c5fb733c409a9019ab52b0bbda602c73f89eff0183b8cebf1b49504ae9616a"), looks := true }, kinds := [], alts := [], laidByText := true, laidKinds := [.data, .data, .data, .data, .sentinel, .sentinel, .pinned], laidTests := true, laidLooks := .later }
def JsonpatchReadsUptoCardSaid : Prop := Claim7.holds Tryz.pinned (.plain (OpenSpec.upto jsonpatchReadsSpec)) jsonpatchReadsUptoCard

/-- THE SECOND FORM's CARD OF 'freeholdlaw06.JsonpatchWrites'. -/
def jsonpatchWritesUptoCard : Claim7 := { stood := { row := jsonpatchWritesUptoRow, standIns := [], harness := (true, "e2c5fb733c409a9019ab52b0bbda602c73f89eff0183b8cebf1b49504ae9616a"), looks := true }, kinds := [], alts := [], laidByText := true, laidKinds := [.data, .data, .data, .data, .sentinel, .sentinel, .pinned], laidTests := true, laidLooks := .later }
def JsonpatchWritesUptoCardSaid : Prop := Claim7.holds Tryz.pinned (.plain (OpenSpec.upto jsonpatchWritesSpec)) jsonpatchWritesUptoCard

/-- THE SECOND FORM's CARD OF 'freeholdlaw06.JsonpatchApplies'. -/
def jsonpatchAppliesUptoCard : Claim7 := { stood := { row := jsonpatchAppliesUptoRow, standIns := [], harness := (true, "e2c5fb733c409a9019ab52b0bbda602c73f89eff0183b8cebf1b49504ae9616a"), looks := true }, kinds := [], alts := [], laidByText := true, laidKinds := [.data, .data, .data, .data, .sentinel, .sentinel, .pinned], laidTests := true, laidLooks := .later }
def JsonpatchAppliesUptoCardSaid : Prop := Claim7.holds Tryz.pinned (.plain (OpenSpec.upto jsonpatchAppliesSpec)) jsonpatchAppliesUptoCard
end Rows
end Go.Proofs.YtjgbjhahmgegiaaGreatDoor
