/-
  NARROWER THAN 'FOR EVERY INPUT', by the rows' own cells (each row's printed sentence says how): MergepatchApplies: loops, laid · MergepatchCleans: loops, laid · MergepatchLeads: loops, laid · MergepatchClean: loops, laid · MergepatchTwice: loops, laid · MergepatchOwn: loops, laid.
  DERIVED. THE GIVEN ROWS OF THIS SEAT. 6 by the template 'for every input the law returns true; each argument reads behind the call as it read before'; 0 by the template 'total and deterministic' (their statements: YtjfldbmopjojdaaDoorTotals.lean).
  GIVEN WITH THE SEED: the statements are not yours to turn. If you find one false, say at which input.
  Laid BY PROGRAM, IN A SANDBOX (cutbox-rows.mjs): the forced cells as the released guide's own fill.sh prints them over the translation afc42ccf64938413… (all of the seat's roots in one cut). By AI agents, Wed Nov 11 2026. No macro, syntax, notation, axiom, sorry.
-/
import Derived.Test.YtjfldbmopjojdaaDoorChecked
import GoSem.PinnedTables
import GoSem.Claim
import GoSem.ClaimJoined
import GoSem.ClaimMapViews
import Derived.JoinedTies
import Derived.KernelRfl
namespace Go.Proofs.YtjfldbmopjojdaaDoor
/- THE CELL 'sum', in the pinned program and in every row, IS THE sha256 OF THE DUMP (.gsa) THAT YtjfldbmopjojdaaDoorProg.lean LOADS. Nothing in Lean hashes anything: it is a label: what it is worth is what the hold of that sum in a sandbox is worth. -/
noncomputable def Tryd.pinned : Pinned := { name := "ytjfldbmopjojdaadoor", sum := "afc42ccf64938413d8e507fd5565db812a3331507f49701e545ea34b15aa4ec0", checked := Tryd.checked }
namespace Rows
def none {H : Type} : Left H := { results := [], args := [] }

/- WHAT THE LISTED PACKAGE-LEVEL VARIABLES READ AS WHEN THE CALL BEGINS. Each datum BY PROGRAM (the guide's laid-datum.mjs) off the statement by which the dump's own 'gosem.cut.vars' lays the variable. In a bare row this is a premise. The card (YtjfldbmopjojdaaDoorCards.lean) ties it to the program's text. -/
def laid_unicode_utf8_acceptRanges {H : Type} : DataW H := .agg [.agg [.lit (.int .u8 128), .lit (.int .u8 191)], .agg [.lit (.int .u8 160), .lit (.int .u8 191)], .agg [.lit (.int .u8 128), .lit (.int .u8 159)], .agg [.lit (.int .u8 144), .lit (.int .u8 191)], .agg [.lit (.int .u8 128), .lit (.int .u8 143)], .agg [.lit (.int .u8 0), .lit (.int .u8 0)], .agg [.lit (.int .u8 0), .lit (.int .u8 0)], .agg [.lit (.int .u8 0), .lit (.int .u8 0)], .agg [.lit (.int .u8 0), .lit (.int .u8 0)], .agg [.lit (.int .u8 0), .lit (.int .u8 0)], .agg [.lit (.int .u8 0), .lit (.int .u8 0)], .agg [.lit (.int .u8 0), .lit (.int .u8 0)], .agg [.lit (.int .u8 0), .lit (.int .u8 0)], .agg [.lit (.int .u8 0), .lit (.int .u8 0)], .agg [.lit (.int .u8 0), .lit (.int .u8 0)], .agg [.lit (.int .u8 0), .lit (.int .u8 0)]]
/-- One of Go's own tables, pinned by name: the form's constant. -/
def laid_unicode_utf8_first : DataW Unit := Go.Pinned.utf8First
def laid_freehold_mergepatch_errNoPatch {H : Type} : DataW H := .iface "*errors.errorString" (.ptr (.agg [.lit (.string [110, 111, 32, 109, 101, 114, 103, 101, 32, 112, 97, 116, 99, 104, 32, 108, 101, 97, 100, 115, 32, 116, 104, 101, 114, 101])]))

/-- 'freeholdlaw05.MergepatchApplies': WHATEVER THE INPUT: true; the input reads as it did. -/
def mergepatchAppliesSpec : ChangeSpec := { name := "mergepatchApplies", fn := fun _ => fun
  | [d1, d2] => { results := [.lit (.bool true)], args := [d1, d2] }
  | _ => none }
def mergepatchAppliesRow : OpenClaim := { program := "ytjfldbmopjojdaadoor", sum := "afc42ccf64938413d8e507fd5565db812a3331507f49701e545ea34b15aa4ec0", func := "freehold/freeholdlaw05.MergepatchApplies", spec := "mergepatchApplies", unfollowed := true, recurses := true, named := ["unicode/utf8.first", "unicode/utf8.acceptRanges"], loops := true, apart := false, laid := [("unicode/utf8.acceptRanges", laid_unicode_utf8_acceptRanges), ("unicode/utf8.first", laid_unicode_utf8_first)] }
def MergepatchAppliesSaid : Prop := mergepatchAppliesRow.holds Tryd.pinned (OpenSpec.ofChange mergepatchAppliesSpec)

/-- ITS FALSE NEIGHBOUR: 'it returns false'. Refute it at one input. -/
def mergepatchAppliesWrong : ChangeSpec := { name := "mergepatchApplies", fn := fun _ => fun
  | [d1, d2] => { results := [.lit (.bool false)], args := [d1, d2] }
  | _ => none }
def MergepatchAppliesWrongFalsely : Prop := mergepatchAppliesRow.holds Tryd.pinned (OpenSpec.ofChange mergepatchAppliesWrong)

/-- 'freeholdlaw05.MergepatchCleans': WHATEVER THE INPUT: true; the input reads as it did. -/
def mergepatchCleansSpec : ChangeSpec := { name := "mergepatchCleans", fn := fun _ => fun
  | [d] => { results := [.lit (.bool true)], args := [d] }
  | _ => none }
def mergepatchCleansRow : OpenClaim := { program := "ytjfldbmopjojdaadoor", sum := "afc42ccf64938413d8e507fd5565db812a3331507f49701e545ea34b15aa4ec0", func := "freehold/freeholdlaw05.MergepatchCleans", spec := "mergepatchCleans", unfollowed := true, recurses := true, named := ["unicode/utf8.first", "unicode/utf8.acceptRanges"], loops := true, apart := false, laid := [("unicode/utf8.acceptRanges", laid_unicode_utf8_acceptRanges), ("unicode/utf8.first", laid_unicode_utf8_first)] }
def MergepatchCleansSaid : Prop := mergepatchCleansRow.holds Tryd.pinned (OpenSpec.ofChange mergepatchCleansSpec)

/-- ITS FALSE NEIGHBOUR: 'it returns false'. Refute it at one input. -/
def mergepatchCleansWrong : ChangeSpec := { name := "mergepatchCleans", fn := fun _ => fun
  | [d] => { results := [.lit (.bool false)], args := [d] }
  | _ => none }
def MergepatchCleansWrongFalsely : Prop := mergepatchCleansRow.holds Tryd.pinned (OpenSpec.ofChange mergepatchCleansWrong)

/-- 'freeholdlaw05.MergepatchLeads': WHATEVER THE INPUT: true; the input reads as it did. -/
def mergepatchLeadsSpec : ChangeSpec := { name := "mergepatchLeads", fn := fun _ => fun
  | [d1, d2, d3] => { results := [.lit (.bool true)], args := [d1, d2, d3] }
  | _ => none }
def mergepatchLeadsRow : OpenClaim := { program := "ytjfldbmopjojdaadoor", sum := "afc42ccf64938413d8e507fd5565db812a3331507f49701e545ea34b15aa4ec0", func := "freehold/freeholdlaw05.MergepatchLeads", spec := "mergepatchLeads", inPlace := ["internal/bytealg.abigen_runtime_cmpstring"], unfollowed := true, recurses := true, named := ["unicode/utf8.first", "unicode/utf8.acceptRanges", "freehold/mergepatch.errNoPatch"], loops := true, apart := false, laid := [("unicode/utf8.acceptRanges", laid_unicode_utf8_acceptRanges), ("freehold/mergepatch.errNoPatch", laid_freehold_mergepatch_errNoPatch), ("unicode/utf8.first", laid_unicode_utf8_first)] }
def MergepatchLeadsSaid : Prop := mergepatchLeadsRow.holds Tryd.pinned (OpenSpec.ofChange mergepatchLeadsSpec)

/-- ITS FALSE NEIGHBOUR: 'it returns false'. Refute it at one input. -/
def mergepatchLeadsWrong : ChangeSpec := { name := "mergepatchLeads", fn := fun _ => fun
  | [d1, d2, d3] => { results := [.lit (.bool false)], args := [d1, d2, d3] }
  | _ => none }
def MergepatchLeadsWrongFalsely : Prop := mergepatchLeadsRow.holds Tryd.pinned (OpenSpec.ofChange mergepatchLeadsWrong)

/-- 'freeholdlaw05.MergepatchClean': WHATEVER THE INPUT: true; the input reads as it did. -/
def mergepatchCleanSpec : ChangeSpec := { name := "mergepatchClean", fn := fun _ => fun
  | [d] => { results := [.lit (.bool true)], args := [d] }
  | _ => none }
def mergepatchCleanRow : OpenClaim := { program := "ytjfldbmopjojdaadoor", sum := "afc42ccf64938413d8e507fd5565db812a3331507f49701e545ea34b15aa4ec0", func := "freehold/freeholdlaw05.MergepatchClean", spec := "mergepatchClean", inPlace := ["internal/bytealg.abigen_runtime_cmpstring"], unfollowed := true, recurses := true, named := ["unicode/utf8.first", "unicode/utf8.acceptRanges", "freehold/mergepatch.errNoPatch"], loops := true, apart := false, laid := [("unicode/utf8.acceptRanges", laid_unicode_utf8_acceptRanges), ("freehold/mergepatch.errNoPatch", laid_freehold_mergepatch_errNoPatch), ("unicode/utf8.first", laid_unicode_utf8_first)] }
def MergepatchCleanSaid : Prop := mergepatchCleanRow.holds Tryd.pinned (OpenSpec.ofChange mergepatchCleanSpec)

/-- ITS FALSE NEIGHBOUR: 'it returns false'. Refute it at one input. -/
def mergepatchCleanWrong : ChangeSpec := { name := "mergepatchClean", fn := fun _ => fun
  | [d] => { results := [.lit (.bool false)], args := [d] }
  | _ => none }
def MergepatchCleanWrongFalsely : Prop := mergepatchCleanRow.holds Tryd.pinned (OpenSpec.ofChange mergepatchCleanWrong)

/-- 'freeholdlaw05.MergepatchTwice': WHATEVER THE INPUT: true; the input reads as it did. -/
def mergepatchTwiceSpec : ChangeSpec := { name := "mergepatchTwice", fn := fun _ => fun
  | [d1, d2, d3] => { results := [.lit (.bool true)], args := [d1, d2, d3] }
  | _ => none }
def mergepatchTwiceRow : OpenClaim := { program := "ytjfldbmopjojdaadoor", sum := "afc42ccf64938413d8e507fd5565db812a3331507f49701e545ea34b15aa4ec0", func := "freehold/freeholdlaw05.MergepatchTwice", spec := "mergepatchTwice", inPlace := ["internal/bytealg.abigen_runtime_cmpstring"], unfollowed := true, recurses := true, named := ["unicode/utf8.first", "unicode/utf8.acceptRanges", "freehold/mergepatch.errNoPatch"], loops := true, apart := false, laid := [("unicode/utf8.acceptRanges", laid_unicode_utf8_acceptRanges), ("freehold/mergepatch.errNoPatch", laid_freehold_mergepatch_errNoPatch), ("unicode/utf8.first", laid_unicode_utf8_first)] }
def MergepatchTwiceSaid : Prop := mergepatchTwiceRow.holds Tryd.pinned (OpenSpec.ofChange mergepatchTwiceSpec)

/-- ITS FALSE NEIGHBOUR: 'it returns false'. Refute it at one input. -/
def mergepatchTwiceWrong : ChangeSpec := { name := "mergepatchTwice", fn := fun _ => fun
  | [d1, d2, d3] => { results := [.lit (.bool false)], args := [d1, d2, d3] }
  | _ => none }
def MergepatchTwiceWrongFalsely : Prop := mergepatchTwiceRow.holds Tryd.pinned (OpenSpec.ofChange mergepatchTwiceWrong)

/-- 'freeholdlaw05.MergepatchOwn': WHATEVER THE INPUT: true; the input reads as it did. -/
def mergepatchOwnSpec : ChangeSpec := { name := "mergepatchOwn", fn := fun _ => fun
  | [d1, d2] => { results := [.lit (.bool true)], args := [d1, d2] }
  | _ => none }
def mergepatchOwnRow : OpenClaim := { program := "ytjfldbmopjojdaadoor", sum := "afc42ccf64938413d8e507fd5565db812a3331507f49701e545ea34b15aa4ec0", func := "freehold/freeholdlaw05.MergepatchOwn", spec := "mergepatchOwn", inPlace := ["internal/bytealg.abigen_runtime_cmpstring"], unfollowed := true, recurses := true, named := ["unicode/utf8.first", "unicode/utf8.acceptRanges", "freehold/mergepatch.errNoPatch"], loops := true, apart := false, laid := [("unicode/utf8.acceptRanges", laid_unicode_utf8_acceptRanges), ("freehold/mergepatch.errNoPatch", laid_freehold_mergepatch_errNoPatch), ("unicode/utf8.first", laid_unicode_utf8_first)] }
def MergepatchOwnSaid : Prop := mergepatchOwnRow.holds Tryd.pinned (OpenSpec.ofChange mergepatchOwnSpec)

/-- ITS FALSE NEIGHBOUR: 'it returns false'. Refute it at one input. -/
def mergepatchOwnWrong : ChangeSpec := { name := "mergepatchOwn", fn := fun _ => fun
  | [d1, d2] => { results := [.lit (.bool false)], args := [d1, d2] }
  | _ => none }
def MergepatchOwnWrongFalsely : Prop := mergepatchOwnRow.holds Tryd.pinned (OpenSpec.ofChange mergepatchOwnWrong)

/- THE SECOND FORM. 'bulk': how many values and letters a reading holds, each counted each time it is reached (what is shared counts as often as it is met; a slice's spare places count too). A statement '..UptoSaid' is the law's where the arguments, and the package variables that the reading takes, are together of bulk at most 1048576: NARROWER than '..Said'. Prove '..Said' where nothing that the law and all that it calls make is longer than what came in: it says more and counts as full. Else prove '..UptoSaid'. A law counts once. -/
mutual
def uptoBulk {H : Type} : DataW H → Nat
  | .lit (.string bytes) => bytes.length + 1
  | .lit _ => 1
  | .nil => 1
  | .ptr d => uptoBulk d + 1
  | .slice elems spare => uptoBulkAll elems + uptoBulkAll spare + 1
  | .agg parts => uptoBulkAll parts + 1
  | .iface _ d => uptoBulk d + 1
  | .map entries => uptoBulkEntries entries + 1
  | .held _ => 1
def uptoBulkAll {H : Type} : List (DataW H) → Nat
  | [] => 0
  | d :: r => uptoBulk d + uptoBulkAll r
def uptoBulkEntries {H : Type} : List (Lit × DataW H) → Nat
  | [] => 0
  | x :: r => uptoBulkEntry x + uptoBulkEntries r
def uptoBulkEntry {H : Type} : Lit × DataW H → Nat
  | (.string bytes, d) => bytes.length + uptoBulk d + 1
  | (_, d) => uptoBulk d + 1
 end
def uptoSmall : (H : Type) → List (DataW H) → Bool := fun _ ds => decide (uptoBulkAll ds ≤ 1048576)
def OpenSpec.upto (s : _root_.Go.ChangeSpec) : _root_.Go.OpenSpec := { _root_.Go.OpenSpec.ofChange s with cond := some uptoSmall }

/-- 'freeholdlaw05.MergepatchApplies', WHERE WHAT IT READS IS OF BULK AT MOST 1048576: true; the input reads as it did. -/
def mergepatchAppliesUptoRow : OpenClaim := { program := "ytjfldbmopjojdaadoor", sum := "afc42ccf64938413d8e507fd5565db812a3331507f49701e545ea34b15aa4ec0", func := "freehold/freeholdlaw05.MergepatchApplies", spec := "mergepatchApplies", unfollowed := true, recurses := true, named := ["unicode/utf8.first", "unicode/utf8.acceptRanges"], loops := true, apart := false, laid := [("unicode/utf8.acceptRanges", laid_unicode_utf8_acceptRanges), ("unicode/utf8.first", laid_unicode_utf8_first)], narrowed := true }
def MergepatchAppliesUptoSaid : Prop := mergepatchAppliesUptoRow.holds Tryd.pinned (OpenSpec.upto mergepatchAppliesSpec)

/-- 'freeholdlaw05.MergepatchCleans', WHERE WHAT IT READS IS OF BULK AT MOST 1048576: true; the input reads as it did. -/
def mergepatchCleansUptoRow : OpenClaim := { program := "ytjfldbmopjojdaadoor", sum := "afc42ccf64938413d8e507fd5565db812a3331507f49701e545ea34b15aa4ec0", func := "freehold/freeholdlaw05.MergepatchCleans", spec := "mergepatchCleans", unfollowed := true, recurses := true, named := ["unicode/utf8.first", "unicode/utf8.acceptRanges"], loops := true, apart := false, laid := [("unicode/utf8.acceptRanges", laid_unicode_utf8_acceptRanges), ("unicode/utf8.first", laid_unicode_utf8_first)], narrowed := true }
def MergepatchCleansUptoSaid : Prop := mergepatchCleansUptoRow.holds Tryd.pinned (OpenSpec.upto mergepatchCleansSpec)

/-- 'freeholdlaw05.MergepatchLeads', WHERE WHAT IT READS IS OF BULK AT MOST 1048576: true; the input reads as it did. -/
def mergepatchLeadsUptoRow : OpenClaim := { program := "ytjfldbmopjojdaadoor", sum := "afc42ccf64938413d8e507fd5565db812a3331507f49701e545ea34b15aa4ec0", func := "freehold/freeholdlaw05.MergepatchLeads", spec := "mergepatchLeads", inPlace := ["internal/bytealg.abigen_runtime_cmpstring"], unfollowed := true, recurses := true, named := ["unicode/utf8.first", "unicode/utf8.acceptRanges", "freehold/mergepatch.errNoPatch"], loops := true, apart := false, laid := [("unicode/utf8.acceptRanges", laid_unicode_utf8_acceptRanges), ("freehold/mergepatch.errNoPatch", laid_freehold_mergepatch_errNoPatch), ("unicode/utf8.first", laid_unicode_utf8_first)], narrowed := true }
def MergepatchLeadsUptoSaid : Prop := mergepatchLeadsUptoRow.holds Tryd.pinned (OpenSpec.upto mergepatchLeadsSpec)

/-- 'freeholdlaw05.MergepatchClean', WHERE WHAT IT READS IS OF BULK AT MOST 1048576: true; the input reads as it did. -/
def mergepatchCleanUptoRow : OpenClaim := { program := "ytjfldbmopjojdaadoor", sum := "afc42ccf64938413d8e507fd5565db812a3331507f49701e545ea34b15aa4ec0", func := "freehold/freeholdlaw05.MergepatchClean", spec := "mergepatchClean", inPlace := ["internal/bytealg.abigen_runtime_cmpstring"], unfollowed := true, recurses := true, named := ["unicode/utf8.first", "unicode/utf8.acceptRanges", "freehold/mergepatch.errNoPatch"], loops := true, apart := false, laid := [("unicode/utf8.acceptRanges", laid_unicode_utf8_acceptRanges), ("freehold/mergepatch.errNoPatch", laid_freehold_mergepatch_errNoPatch), ("unicode/utf8.first", laid_unicode_utf8_first)], narrowed := true }
def MergepatchCleanUptoSaid : Prop := mergepatchCleanUptoRow.holds Tryd.pinned (OpenSpec.upto mergepatchCleanSpec)

/-- 'freeholdlaw05.MergepatchTwice', WHERE WHAT IT READS IS OF BULK AT MOST 1048576: true; the input reads as it did. -/
def mergepatchTwiceUptoRow : OpenClaim := { program := "ytjfldbmopjojdaadoor", sum := "afc42ccf64938413d8e507fd5565db812a3331507f49701e545ea34b15aa4ec0", func := "freehold/freeholdlaw05.MergepatchTwice", spec := "mergepatchTwice", inPlace := ["internal/bytealg.abigen_runtime_cmpstring"], unfollowed := true, recurses := true, named := ["unicode/utf8.first", "unicode/utf8.acceptRanges", "freehold/mergepatch.errNoPatch"], loops := true, apart := false, laid := [("unicode/utf8.acceptRanges", laid_unicode_utf8_acceptRanges), ("freehold/mergepatch.errNoPatch", laid_freehold_mergepatch_errNoPatch), ("unicode/utf8.first", laid_unicode_utf8_first)], narrowed := true }
def MergepatchTwiceUptoSaid : Prop := mergepatchTwiceUptoRow.holds Tryd.pinned (OpenSpec.upto mergepatchTwiceSpec)

/-- 'freeholdlaw05.MergepatchOwn', WHERE WHAT IT READS IS OF BULK AT MOST 1048576: true; the input reads as it did. -/
def mergepatchOwnUptoRow : OpenClaim := { program := "ytjfldbmopjojdaadoor", sum := "afc42ccf64938413d8e507fd5565db812a3331507f49701e545ea34b15aa4ec0", func := "freehold/freeholdlaw05.MergepatchOwn", spec := "mergepatchOwn", inPlace := ["internal/bytealg.abigen_runtime_cmpstring"], unfollowed := true, recurses := true, named := ["unicode/utf8.first", "unicode/utf8.acceptRanges", "freehold/mergepatch.errNoPatch"], loops := true, apart := false, laid := [("unicode/utf8.acceptRanges", laid_unicode_utf8_acceptRanges), ("freehold/mergepatch.errNoPatch", laid_freehold_mergepatch_errNoPatch), ("unicode/utf8.first", laid_unicode_utf8_first)], narrowed := true }
def MergepatchOwnUptoSaid : Prop := mergepatchOwnUptoRow.holds Tryd.pinned (OpenSpec.upto mergepatchOwnSpec)

end Rows
end Go.Proofs.YtjfldbmopjojdaaDoor
