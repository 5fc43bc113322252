/-
  DERIVED. GIVEN WITH THE SEED: THE CARDS: each row of YtolekldjbbjmjaaGreatDoorRows.lean that lists a variable, with what it lists TIED to the program's text (the seventh form; the later family's looks); each row that meets fmt, with fmt's text TOLD by the authors' own Lean function (tested against real Go, not proved from fmt's source: count such statements apart). THE CARD IS WHAT COUNTS. Prove the row's statement (the work); the ties are given (YtolekldjbbjmjaaGreatDoorTie.lean); close each card by the builder's one call (the guide's Derived/Test/ToyasCard.lean, 'card_holds'). Laid BY PROGRAM, IN A SANDBOX (cutbox-door.mjs). By AI agents, Wed Nov 11 2026. No macro, syntax, notation, axiom, sorry.
-/
import Derived.Test.YtolekldjbbjmjaaGreatDoorRows
import GoSem.ClaimSeven
namespace Go.Proofs.YtolekldjbbjmjaaGreatDoor
namespace Rows

/-- THE TIED CARD OF 'freeholdlaw20.SelectorTerms'. -/
def selectorTermsCard : Claim7 := { stood := { row := selectorTermsRow, standIns := [], harness := (true, "d82f51e9751f1291a4ac152d4975d13941c25e782ce582cadab277e861664502"), looks := false }, kinds := [], alts := [], laidByText := true, laidKinds := [.data, .data, .data, .pinned], laidTests := true, laidLooks := .later }
def SelectorTermsCardSaid : Prop := Claim7.holds Tryz.pinned (.plain (OpenSpec.ofChange selectorTermsSpec)) selectorTermsCard

/-- THE TIED CARD OF 'freeholdlaw20.SelectorShort'. -/
def selectorShortCard : Claim7 := { stood := { row := selectorShortRow, standIns := [], harness := (true, "d82f51e9751f1291a4ac152d4975d13941c25e782ce582cadab277e861664502"), looks := false }, kinds := [], alts := [], laidByText := true, laidKinds := [.data, .data, .data, .pinned], laidTests := true, laidLooks := .later }
def SelectorShortCardSaid : Prop := Claim7.holds Tryz.pinned (.plain (OpenSpec.ofChange selectorShortSpec)) selectorShortCard

/-- THE TIED CARD OF 'freeholdlaw20.SelectorBack'. -/
def selectorBackCard : Claim7 := { stood := { row := selectorBackRow, standIns := [], harness := (true, "d82f51e9751f1291a4ac152d4975d13941c25e782ce582cadab277e861664502"), looks := false }, kinds := [], alts := [], laidByText := true, laidKinds := [.data, .data, .data, .pinned], laidTests := true, laidLooks := .later }
def SelectorBackCardSaid : Prop := Claim7.holds Tryz.pinned (.plain (OpenSpec.ofChange selectorBackSpec)) selectorBackCard

/-- THE TIED CARD OF 'freeholdlaw20.SelectorCanon'. -/
def selectorCanonCard : Claim7 := { stood := { row := selectorCanonRow, standIns := [], harness := (true, "d82f51e9751f1291a4ac152d4975d13941c25e782ce582cadab277e861664502"), looks := false }, kinds := [], alts := [], laidByText := true, laidKinds := [.data, .data, .data, .pinned], laidTests := true, laidLooks := .later }
def SelectorCanonCardSaid : Prop := Claim7.holds Tryz.pinned (.plain (OpenSpec.ofChange selectorCanonSpec)) selectorCanonCard

/-- THE TIED CARD OF 'freeholdlaw20.SelectorReads'. -/
def selectorReadsCard : Claim7 := { stood := { row := selectorReadsRow, standIns := [], harness := (true, "d82f51e9751f1291a4ac152d4975d13941c25e782ce582cadab277e861664502"), looks := false }, kinds := [], alts := [], laidByText := true, laidKinds := [.data, .data, .pinned], laidTests := true, laidLooks := .later }
def SelectorReadsCardSaid : Prop := Claim7.holds Tryz.pinned (.plain (OpenSpec.ofChange selectorReadsSpec)) selectorReadsCard

/-- THE SECOND FORM's CARD OF 'freeholdlaw20.SelectorTerms'. -/
def selectorTermsUptoCard : Claim7 := { stood := { row := selectorTermsUptoRow, standIns := [], harness := (true, "d82f51e9751f1291a4ac152d4975d13941c25e782ce582cadab277e861664502"), looks := false }, kinds := [], alts := [], laidByText := true, laidKinds := [.data, .data, .data, .pinned], laidTests := true, laidLooks := .later }
def SelectorTermsUptoCardSaid : Prop := Claim7.holds Tryz.pinned (.plain (OpenSpec.upto selectorTermsSpec)) selectorTermsUptoCard

/-- THE SECOND FORM's CARD OF 'freeholdlaw20.SelectorShort'. -/
def selectorShortUptoCard : Claim7 := { stood := { row := selectorShortUptoRow, standIns := [], harness := (true, "d82f51e9751f1291a4ac152d4975d13941c25e782ce582cadab277e861664502"), looks := false }, kinds := [], alts := [], laidByText := true, laidKinds := [.data, .data, .data, .pinned], laidTests := true, laidLooks := .later }
def SelectorShortUptoCardSaid : Prop := Claim7.holds Tryz.pinned (.plain (OpenSpec.upto selectorShortSpec)) selectorShortUptoCard

/-- THE SECOND FORM's CARD OF 'freeholdlaw20.SelectorBack'. -/
def selectorBackUptoCard : Claim7 := { stood := { row := selectorBackUptoRow, standIns := [], harness := (true, "d82f51e9751f1291a4ac152d4975d13941c25e782ce582cadab277e861664502"), looks := false }, kinds := [], alts := [], laidByText := true, laidKinds := [.data, .data, .data, .pinned], laidTests := true, laidLooks := .later }
def SelectorBackUptoCardSaid : Prop := Claim7.holds Tryz.pinned (.plain (OpenSpec.upto selectorBackSpec)) selectorBackUptoCard

/-- THE SECOND FORM's CARD OF 'freeholdlaw20.SelectorCanon'. -/
def selectorCanonUptoCard : Claim7 := { stood := { row := selectorCanonUptoRow, standIns := [], harness := (true, "d82f51e9751f1291a4ac152d4975d13941c25e782ce582cadab277e861664502"), looks := false }, kinds := [], alts := [], laidByText := true, laidKinds := [.data, .data, .data, .pinned], laidTests := true, laidLooks := .later }
def SelectorCanonUptoCardSaid : Prop := Claim7.holds Tryz.pinned (.plain (OpenSpec.upto selectorCanonSpec)) selectorCanonUptoCard

/-- THE SECOND FORM's CARD OF 'freeholdlaw20.SelectorReads'. -/
def selectorReadsUptoCard : Claim7 := { stood := { row := selectorReadsUptoRow, standIns := [], harness := (true, "d82f51e9751f1291a4ac152d4975d13941c25e782ce582cadab277e861664502"), looks := false }, kinds := [], alts := [], laidByText := true, laidKinds := [.data, .data, .pinned], laidTests := true, laidLooks := .later }
def SelectorReadsUptoCardSaid : Prop := Claim7.holds Tryz.pinned (.plain (OpenSpec.upto selectorReadsSpec)) selectorReadsUptoCard
end Rows
end Go.Proofs.YtolekldjbbjmjaaGreatDoor
