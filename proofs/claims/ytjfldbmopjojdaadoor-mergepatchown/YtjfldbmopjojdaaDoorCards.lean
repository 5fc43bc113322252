/-
  DERIVED. GIVEN WITH THE SEED: THE CARDS: each row of YtjfldbmopjojdaaDoorRows.lean that lists a variable, with what it lists TIED to the program's text (the seventh form; the later family's looks); each row that meets fmt, with fmt's text TOLD by the authors' own Lean function (tested against real Go, not proved from fmt's source: count such statements apart). THE CARD IS WHAT COUNTS. Prove the row's statement (the work); the ties are given (YtjfldbmopjojdaaDoorTie.lean); close each card by the builder's one call (the guide's Derived/Test/ToyasCard.lean, 'card_holds'). Laid BY PROGRAM, IN A SANDBOX (cutbox-door.mjs). By AI agents, Wed Nov 11 2026. No macro, syntax, notation, axiom, sorry.
-/
import Derived.Test.YtjfldbmopjojdaaDoorRows
import GoSem.ClaimSeven
namespace Go.Proofs.YtjfldbmopjojdaaDoor
namespace Rows

/-- THE TIED CARD OF 'freeholdlaw05.MergepatchApplies'. -/
def mergepatchAppliesCard : Claim7 := { stood := { row := mergepatchAppliesRow, standIns := [], harness := (true, "94efd81f7ffde69fabb4c0c359302de2211f3af69cde6e88df7fef9388e07bbe"), looks := true }, kinds := [], alts := [], laidByText := true, laidKinds := [.data, .pinned], laidTests := true, laidLooks := .later }
def MergepatchAppliesCardSaid : Prop := Claim7.holds Tryd.pinned (.plain (OpenSpec.ofChange mergepatchAppliesSpec)) mergepatchAppliesCard

/-- THE TIED CARD OF 'freeholdlaw05.MergepatchCleans'. -/
def mergepatchCleansCard : Claim7 := { stood := { row := mergepatchCleansRow, standIns := [], harness := (true, "94efd81f7ffde69fabb4c0c359302de2211f3af69cde6e88df7fef9388e07bbe"), looks := true }, kinds := [], alts := [], laidByText := true, laidKinds := [.data, .pinned], laidTests := true, laidLooks := .later }
def MergepatchCleansCardSaid : Prop := Claim7.holds Tryd.pinned (.plain (OpenSpec.ofChange mergepatchCleansSpec)) mergepatchCleansCard

/-- THE TIED CARD OF 'freeholdlaw05.MergepatchLeads'. -/
def mergepatchLeadsCard : Claim7 := { stood := { row := mergepatchLeadsRow, standIns := [], harness := (true, "94efd81f7ffde69fabb4c0c359302de2211f3af69cde6e88df7fef9388e07bbe"), looks := true }, kinds := [], alts := [], laidByText := true, laidKinds := [.data, .sentinel, .pinned], laidTests := true, laidLooks := .later }
def MergepatchLeadsCardSaid : Prop := Claim7.holds Tryd.pinned (.plain (OpenSpec.ofChange mergepatchLeadsSpec)) mergepatchLeadsCard

/-- THE TIED CARD OF 'freeholdlaw05.MergepatchClean'. -/
def mergepatchCleanCard : Claim7 := { stood := { row := mergepatchCleanRow, standIns := [], harness := (true, "94efd81f7ffde69fabb4c0c359302de2211f3af69cde6e88df7fef9388e07bbe"), looks := true }, kinds := [], alts := [], laidByText := true, laidKinds := [.data, .sentinel, .pinned], laidTests := true, laidLooks := .later }
def MergepatchCleanCardSaid : Prop := Claim7.holds Tryd.pinned (.plain (OpenSpec.ofChange mergepatchCleanSpec)) mergepatchCleanCard

/-- THE TIED CARD OF 'freeholdlaw05.MergepatchTwice'. -/
def mergepatchTwiceCard : Claim7 := { stood := { row := mergepatchTwiceRow, standIns := [], harness := (true, "94efd81f7ffde69fabb4c0c359302de2211f3af69cde6e88df7fef9388e07bbe"), looks := true }, kinds := [], alts := [], laidByText := true, laidKinds := [.data, .sentinel, .pinned], laidTests := true, laidLooks := .later }
def MergepatchTwiceCardSaid : Prop := Claim7.holds Tryd.pinned (.plain (OpenSpec.ofChange mergepatchTwiceSpec)) mergepatchTwiceCard

/-- THE TIED CARD OF 'freeholdlaw05.MergepatchOwn'. -/
def mergepatchOwnCard : Claim7 := { stood := { row := mergepatchOwnRow, standIns := [], harness := (true, "94efd81f7ffde69fabb4c0c359302de2211f3af69cde6e88df7fef9388e07bbe"), looks := true }, kinds := [], alts := [], laidByText := true, laidKinds := [.data, .sentinel, .pinned], laidTests := true, laidLooks := .later }
def MergepatchOwnCardSaid : Prop := Claim7.holds Tryd.pinned (.plain (OpenSpec.ofChange mergepatchOwnSpec)) mergepatchOwnCard

/-- THE SECOND FORM's CARD OF 'freeholdlaw05.MergepatchApplies'. -/
def mergepatchAppliesUptoCard : Claim7 := { stood := { row := mergepatchAppliesUptoRow, standIns := [], harness := (true, "94efd81f7ffde69fabb4c0c359302de2211f3af69cde6e88df7fef9388e07bbe"), looks := true }, kinds := [], alts := [], laidByText := true, laidKinds := [.data, .pinned], laidTests := true, laidLooks := .later }
def MergepatchAppliesUptoCardSaid : Prop := Claim7.holds Tryd.pinned (.plain (OpenSpec.upto mergepatchAppliesSpec)) mergepatchAppliesUptoCard

/-- THE SECOND FORM's CARD OF 'freeholdlaw05.MergepatchCleans'. -/
def mergepatchCleansUptoCard : Claim7 := { stood := { row := mergepatchCleansUptoRow, standIns := [], harness := (true, "94efd81f7ffde69fabb4c0c359302de2211f3af69cde6e88df7fef9388e07bbe"), looks := true }, kinds := [], alts := [], laidByText := true, laidKinds := [.data, .pinned], laidTests := true, laidLooks := .later }
def MergepatchCleansUptoCardSaid : Prop := Claim7.holds Tryd.pinned (.plain (OpenSpec.upto mergepatchCleansSpec)) mergepatchCleansUptoCard

/-- THE SECOND FORM's CARD OF 'freeholdlaw05.MergepatchLeads'. -/
def mergepatchLeadsUptoCard : Claim7 := { stood := { row := mergepatchLeadsUptoRow, standIns := [], harness := (true, "94efd81f7ffde69fabb4c0c359302de2211f3af69cde6e88df7fef9388e07bbe"), looks := true }, kinds := [], alts := [], laidByText := true, laidKinds := [.data, .sentinel, .pinned], laidTests := true, laidLooks := .later }
def MergepatchLeadsUptoCardSaid : Prop := Claim7.holds Tryd.pinned (.plain (OpenSpec.upto mergepatchLeadsSpec)) mergepatchLeadsUptoCard

/-- THE SECOND FORM's CARD OF 'freeholdlaw05.MergepatchClean'. -/
def mergepatchCleanUptoCard : Claim7 := { stood := { row := mergepatchCleanUptoRow, standIns := [], harness := (true, "94efd81f7ffde69fabb4c0c359302de2211f3af69cde6e88df7fef9388e07bbe"), looks := true }, kinds := [], alts := [], laidByText := true, laidKinds := [.data, .sentinel, .pinned], laidTests := true, laidLooks := .later }
def MergepatchCleanUptoCardSaid : Prop := Claim7.holds Tryd.pinned (.plain (OpenSpec.upto mergepatchCleanSpec)) mergepatchCleanUptoCard

/-- THE SECOND FORM's CARD OF 'freeholdlaw05.MergepatchTwice'. -/
def mergepatchTwiceUptoCard : Claim7 := { stood := { row := mergepatchTwiceUptoRow, standIns := [], harness := (true, "94efd81f7ffde69fabb4c0c359302de2211f3af69cde6e88df7fef9388e07bbe"), looks := true }, kinds := [], alts := [], laidByText := true, laidKinds := [.data, .sentinel, .pinned], laidTests := true, laidLooks := .later }
def MergepatchTwiceUptoCardSaid : Prop := Claim7.holds Tryd.pinned (.plain (OpenSpec.upto mergepatchTwiceSpec)) mergepatchTwiceUptoCard

/-- THE SECOND FORM's CARD OF 'freeholdlaw05.MergepatchOwn'. -/
def mergepatchOwnUptoCard : Claim7 := { stood := { row := mergepatchOwnUptoRow, standIns := [], harness := (true, "94efd81f7ffde69fabb4c0c359302de2211f3af69cde6e88df7fef9388e07bbe"), looks := true }, kinds := [], alts := [], laidByText := true, laidKinds := [.data, .sentinel, .pinned], laidTests := true, laidLooks := .later }
def MergepatchOwnUptoCardSaid : Prop := Claim7.holds Tryd.pinned (.plain (OpenSpec.upto mergepatchOwnSpec)) mergepatchOwnUptoCard
end Rows
end Go.Proofs.YtjfldbmopjojdaaDoor
