/-
  DERIVED. GIVEN WITH THE SEED: THE CARDS: each row of YtljgofmmihmmfaaDoorRows.lean that lists a variable, with what it lists TIED to the program's text (the seventh form; the later family's looks); each row that meets fmt, with fmt's text TOLD by the authors' own Lean function (tested against real Go, not proved from fmt's source: count such statements apart). THE CARD IS WHAT COUNTS. Prove the row's statement (the work); the ties are given (YtljgofmmihmmfaaDoorTie.lean); close each card by the builder's one call (the guide's Derived/Test/ToyasCard.lean, 'card_holds'). Laid BY PROGRAM, IN A SANDBOX (cutbox-door.mjs). By AI agents, Wed Nov 11 2026. No macro, syntax, notation, axiom, sorry.
-/
import Derived.Test.YtljgofmmihmmfaaDoorRows
import GoSem.ClaimSeven
namespace Go.Proofs.YtljgofmmihmmfaaDoor
namespace Rows

/-- THE TIED CARD OF 'freeholdlaw02.ValueChecks'. -/
def valueChecksCard : Claim7 := { stood := { row := valueChecksRow, standIns := [], harness := (true, "691b10212d3aa0c393e71ef66d028fdefd32586caa3d20baa305ed6e31bbb4be"), looks := false }, kinds := [], alts := [], laidByText := true, laidKinds := [.data, .pinned], laidTests := true, laidLooks := .later }
def ValueChecksCardSaid : Prop := Claim7.holds Tryd.pinned (.plain (OpenSpec.ofChange valueChecksSpec)) valueChecksCard

/-- THE TIED CARD OF 'freeholdlaw02.ValueSizes'. -/
def valueSizesCard : Claim7 := { stood := { row := valueSizesRow, standIns := [], harness := (true, "691b10212d3aa0c393e71ef66d028fdefd32586caa3d20baa305ed6e31bbb4be"), looks := false }, kinds := [], alts := [], laidByText := true, laidKinds := [.data, .pinned], laidTests := true, laidLooks := .later }
def ValueSizesCardSaid : Prop := Claim7.holds Tryd.pinned (.plain (OpenSpec.ofChange valueSizesSpec)) valueSizesCard

/-- THE TIED CARD OF 'freeholdlaw02.ValueCompares'. -/
def valueComparesCard : Claim7 := { stood := { row := valueComparesRow, standIns := [], harness := (true, "691b10212d3aa0c393e71ef66d028fdefd32586caa3d20baa305ed6e31bbb4be"), looks := false }, kinds := [], alts := [], laidByText := true, laidKinds := [.data, .pinned], laidTests := true, laidLooks := .later }
def ValueComparesCardSaid : Prop := Claim7.holds Tryd.pinned (.plain (OpenSpec.ofChange valueComparesSpec)) valueComparesCard

/-- THE TIED CARD OF 'freeholdlaw02.ValueMembers'. -/
def valueMembersCard : Claim7 := { stood := { row := valueMembersRow, standIns := [], harness := (true, "691b10212d3aa0c393e71ef66d028fdefd32586caa3d20baa305ed6e31bbb4be"), looks := false }, kinds := [], alts := [], laidByText := true, laidKinds := [.data, .pinned], laidTests := true, laidLooks := .later }
def ValueMembersCardSaid : Prop := Claim7.holds Tryd.pinned (.plain (OpenSpec.ofChange valueMembersSpec)) valueMembersCard

/-- THE TIED CARD OF 'freeholdlaw02.ValueBuilds'. -/
def valueBuildsCard : Claim7 := { stood := { row := valueBuildsRow, standIns := [], harness := (true, "691b10212d3aa0c393e71ef66d028fdefd32586caa3d20baa305ed6e31bbb4be"), looks := false }, kinds := [], alts := [], laidByText := true, laidKinds := [.data, .pinned], laidTests := true, laidLooks := .later }
def ValueBuildsCardSaid : Prop := Claim7.holds Tryd.pinned (.plain (OpenSpec.ofChange valueBuildsSpec)) valueBuildsCard

/-- THE TIED CARD OF 'freeholdlaw02.ValueOrder'. -/
def valueOrderCard : Claim7 := { stood := { row := valueOrderRow, standIns := [], harness := (true, "691b10212d3aa0c393e71ef66d028fdefd32586caa3d20baa305ed6e31bbb4be"), looks := false }, kinds := [], alts := [], laidByText := true, laidKinds := [.data, .pinned], laidTests := true, laidLooks := .later }
def ValueOrderCardSaid : Prop := Claim7.holds Tryd.pinned (.plain (OpenSpec.ofChange valueOrderSpec)) valueOrderCard

/-- THE SECOND FORM's CARD OF 'freeholdlaw02.ValueChecks'. -/
def valueChecksUptoCard : Claim7 := { stood := { row := valueChecksUptoRow, standIns := [], harness := (true, "691b10212d3aa0c393e71ef66d028fdefd32586caa3d20baa305ed6e31bbb4be"), looks := false }, kinds := [], alts := [], laidByText := true, laidKinds := [.data, .pinned], laidTests := true, laidLooks := .later }
def ValueChecksUptoCardSaid : Prop := Claim7.holds Tryd.pinned (.plain (OpenSpec.upto valueChecksSpec)) valueChecksUptoCard

/-- THE SECOND FORM's CARD OF 'freeholdlaw02.ValueSizes'. -/
def valueSizesUptoCard : Claim7 := { stood := { row := valueSizesUptoRow, standIns := [], harness := (true, "691b10212d3aa0c393e71ef66d028fdefd32586caa3d20baa305ed6e31bbb4be"), looks := false }, kinds := [], alts := [], laidByText := true, laidKinds := [.data, .pinned], laidTests := true, laidLooks := .later }
def ValueSizesUptoCardSaid : Prop := Claim7.holds Tryd.pinned (.plain (OpenSpec.upto valueSizesSpec)) valueSizesUptoCard

/-- THE SECOND FORM's CARD OF 'freeholdlaw02.ValueCompares'. -/
def valueComparesUptoCard : Claim7 := { stood := { row := valueComparesUptoRow, standIns := [], harness := (true, "691b10212d3aa0c393e71ef66d028fdefd32586caa3d20baa305ed6e31bbb4be"), looks := false }, kinds := [], alts := [], laidByText := true, laidKinds := [.data, .pinned], laidTests := true, laidLooks := .later }
def ValueComparesUptoCardSaid : Prop := Claim7.holds Tryd.pinned (.plain (OpenSpec.upto valueComparesSpec)) valueComparesUptoCard

/-- THE SECOND FORM's CARD OF 'freeholdlaw02.ValueMembers'. -/
def valueMembersUptoCard : Claim7 := { stood := { row := valueMembersUptoRow, standIns := [], harness := (true, "691b10212d3aa0c393e71ef66d028fdefd32586caa3d20baa305ed6e31bbb4be"), looks := false }, kinds := [], alts := [], laidByText := true, laidKinds := [.data, .pinned], laidTests := true, laidLooks := .later }
def ValueMembersUptoCardSaid : Prop := Claim7.holds Tryd.pinned (.plain (OpenSpec.upto valueMembersSpec)) valueMembersUptoCard

/-- THE SECOND FORM's CARD OF 'freeholdlaw02.ValueBuilds'. -/
def valueBuildsUptoCard : Claim7 := { stood := { row := valueBuildsUptoRow, standIns := [], harness := (true, "691b10212d3aa0c393e71ef66d028fdefd32586caa3d20baa305ed6e31bbb4be"), looks := false }, kinds := [], alts := [], laidByText := true, laidKinds := [.data, .pinned], laidTests := true, laidLooks := .later }
def ValueBuildsUptoCardSaid : Prop := Claim7.holds Tryd.pinned (.plain (OpenSpec.upto valueBuildsSpec)) valueBuildsUptoCard

/-- THE SECOND FORM's CARD OF 'freeholdlaw02.ValueOrder'. -/
def valueOrderUptoCard : Claim7 := { stood := { row := valueOrderUptoRow, standIns := [], harness := (true, "691b10212d3aa0c393e71ef66d028fdefd32586caa3d20baa305ed6e31bbb4be"), looks := false }, kinds := [], alts := [], laidByText := true, laidKinds := [.data, .pinned], laidTests := true, laidLooks := .later }
def ValueOrderUptoCardSaid : Prop := Claim7.holds Tryd.pinned (.plain (OpenSpec.upto valueOrderSpec)) valueOrderUptoCard
end Rows
end Go.Proofs.YtljgofmmihmmfaaDoor
