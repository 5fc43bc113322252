/-
  NARROWER THAN 'FOR EVERY INPUT', by the rows' own cells (each row's printed sentence says how): SelectorTerms: laid · SelectorShort: laid · SelectorBack: laid · SelectorCanon: laid · SelectorReads: laid.
  DERIVED. THE GIVEN ROWS OF THIS SEAT. 5 by the template 'for every input the law returns true; each argument reads behind the call as it read before'; 0 by the template 'total and deterministic' (their statements: YtolekldjbbjmjaaGreatDoorTotals.lean).
  GIVEN WITH THE SEED: the statements are not yours to turn. If you find one false, say at which input.
  Laid BY PROGRAM, IN A SANDBOX (cutbox-rows.mjs): the forced cells as the released guide's own fill.sh prints them over the translation 63d35e2bc185a657… (all of the seat's roots in one cut). By AI agents, Wed Nov 11 2026. No macro, syntax, notation, axiom, sorry.
-/
import Derived.Test.YtolekldjbbjmjaaGreatDoorChecked
import GoSem.PinnedTables
import GoSem.Claim
import GoSem.ClaimJoined
import GoSem.ClaimMapViews
import Derived.JoinedTies
import Derived.KernelRfl
namespace Go.Proofs.YtolekldjbbjmjaaGreatDoor
/- THE CELL 'sum', in the pinned program and in every row, IS THE sha256 OF THE DUMP (.gsa) THAT YtolekldjbbjmjaaGreatDoorProg.lean LOADS. Nothing in Lean hashes anything: it is a label: what it is worth is what the hold of that sum in a sandbox is worth. -/
noncomputable def Tryz.pinned : Pinned := { name := "ytolekldjbbjmjaagreatdoor", sum := "63d35e2bc185a657ad668df0625ce5216db7486cd2f3a0c4241cf918c04165df", checked := Tryz.checked }
namespace Rows
def none {H : Type} : Left H := { results := [], args := [] }

/- WHAT THE LISTED PACKAGE-LEVEL VARIABLES READ AS WHEN THE CALL BEGINS. Each datum BY PROGRAM (the guide's laid-datum.mjs) off the statement by which the dump's own 'gosem.cut.vars' lays the variable. In a bare row this is a premise. The card (YtolekldjbbjmjaaGreatDoorCards.lean) ties it to the program's text. -/
def laid_unicode_utf8_acceptRanges {H : Type} : DataW H := .agg [.agg [.lit (.int .u8 128), .lit (.int .u8 191)], .agg [.lit (.int .u8 160), .lit (.int .u8 191)], .agg [.lit (.int .u8 128), .lit (.int .u8 159)], .agg [.lit (.int .u8 144), .lit (.int .u8 191)], .agg [.lit (.int .u8 128), .lit (.int .u8 143)], .agg [.lit (.int .u8 0), .lit (.int .u8 0)], .agg [.lit (.int .u8 0), .lit (.int .u8 0)], .agg [.lit (.int .u8 0), .lit (.int .u8 0)], .agg [.lit (.int .u8 0), .lit (.int .u8 0)], .agg [.lit (.int .u8 0), .lit (.int .u8 0)], .agg [.lit (.int .u8 0), .lit (.int .u8 0)], .agg [.lit (.int .u8 0), .lit (.int .u8 0)], .agg [.lit (.int .u8 0), .lit (.int .u8 0)], .agg [.lit (.int .u8 0), .lit (.int .u8 0)], .agg [.lit (.int .u8 0), .lit (.int .u8 0)], .agg [.lit (.int .u8 0), .lit (.int .u8 0)]]
def laid_freehold_quote_letterOf {H : Type} : DataW H := .agg [.lit (.int .u8 0), .lit (.int .u8 0), .lit (.int .u8 0), .lit (.int .u8 0), .lit (.int .u8 0), .lit (.int .u8 0), .lit (.int .u8 0), .lit (.int .u8 0), .lit (.int .u8 98), .lit (.int .u8 116), .lit (.int .u8 110), .lit (.int .u8 0), .lit (.int .u8 102), .lit (.int .u8 114), .lit (.int .u8 0), .lit (.int .u8 0), .lit (.int .u8 0), .lit (.int .u8 0), .lit (.int .u8 0), .lit (.int .u8 0), .lit (.int .u8 0), .lit (.int .u8 0), .lit (.int .u8 0), .lit (.int .u8 0), .lit (.int .u8 0), .lit (.int .u8 0), .lit (.int .u8 0), .lit (.int .u8 0), .lit (.int .u8 0), .lit (.int .u8 0), .lit (.int .u8 0), .lit (.int .u8 0), .lit (.int .u8 0), .lit (.int .u8 0), .lit (.int .u8 34), .lit (.int .u8 0), .lit (.int .u8 0), .lit (.int .u8 0), .lit (.int .u8 0), .lit (.int .u8 0), .lit (.int .u8 0), .lit (.int .u8 0), .lit (.int .u8 0), .lit (.int .u8 0), .lit (.int .u8 0), .lit (.int .u8 0), .lit (.int .u8 0), .lit (.int .u8 0), .lit (.int .u8 0), .lit (.int .u8 0), .lit (.int .u8 0), .lit (.int .u8 0), .lit (.int .u8 0), .lit (.int .u8 0), .lit (.int .u8 0), .lit (.int .u8 0), .lit (.int .u8 0), .lit (.int .u8 0), .lit (.int .u8 0), .lit (.int .u8 0), .lit (.int .u8 0), .lit (.int .u8 0), .lit (.int .u8 0), .lit (.int .u8 0), .lit (.int .u8 0), .lit (.int .u8 0), .lit (.int .u8 0), .lit (.int .u8 0), .lit (.int .u8 0), .lit (.int .u8 0), .lit (.int .u8 0), .lit (.int .u8 0), .lit (.int .u8 0), .lit (.int .u8 0), .lit (.int .u8 0), .lit (.int .u8 0), .lit (.int .u8 0), .lit (.int .u8 0), .lit (.int .u8 0), .lit (.int .u8 0), .lit (.int .u8 0), .lit (.int .u8 0), .lit (.int .u8 0), .lit (.int .u8 0), .lit (.int .u8 0), .lit (.int .u8 0), .lit (.int .u8 0), .lit (.int .u8 0), .lit (.int .u8 0), .lit (.int .u8 0), .lit (.int .u8 0), .lit (.int .u8 0), .lit (.int .u8 92), .lit (.int .u8 0), .lit (.int .u8 0), .lit (.int .u8 0), .lit (.int .u8 0), .lit (.int .u8 0), .lit (.int .u8 0), .lit (.int .u8 0), .lit (.int .u8 0), .lit (.int .u8 0), .lit (.int .u8 0), .lit (.int .u8 0), .lit (.int .u8 0), .lit (.int .u8 0), .lit (.int .u8 0), .lit (.int .u8 0), .lit (.int .u8 0), .lit (.int .u8 0), .lit (.int .u8 0), .lit (.int .u8 0), .lit (.int .u8 0), .lit (.int .u8 0), .lit (.int .u8 0), .lit (.int .u8 0), .lit (.int .u8 0), .lit (.int .u8 0), .lit (.int .u8 0), .lit (.int .u8 0), .lit (.int .u8 0), .lit (.int .u8 0), .lit (.int .u8 0), .lit (.int .u8 0), .lit (.int .u8 0), .lit (.int .u8 0), .lit (.int .u8 0), .lit (.int .u8 0)]
def laid_freehold_quote_saidBy {H : Type} : DataW H := .agg [.lit (.int .u8 0), .lit (.int .u8 0), .lit (.int .u8 0), .lit (.int .u8 0), .lit (.int .u8 0), .lit (.int .u8 0), .lit (.int .u8 0), .lit (.int .u8 0), .lit (.int .u8 0), .lit (.int .u8 0), .lit (.int .u8 0), .lit (.int .u8 0), .lit (.int .u8 0), .lit (.int .u8 0), .lit (.int .u8 0), .lit (.int .u8 0), .lit (.int .u8 0), .lit (.int .u8 0), .lit (.int .u8 0), .lit (.int .u8 0), .lit (.int .u8 0), .lit (.int .u8 0), .lit (.int .u8 0), .lit (.int .u8 0), .lit (.int .u8 0), .lit (.int .u8 0), .lit (.int .u8 0), .lit (.int .u8 0), .lit (.int .u8 0), .lit (.int .u8 0), .lit (.int .u8 0), .lit (.int .u8 0), .lit (.int .u8 0), .lit (.int .u8 0), .lit (.int .u8 34), .lit (.int .u8 0), .lit (.int .u8 0), .lit (.int .u8 0), .lit (.int .u8 0), .lit (.int .u8 0), .lit (.int .u8 0), .lit (.int .u8 0), .lit (.int .u8 0), .lit (.int .u8 0), .lit (.int .u8 0), .lit (.int .u8 0), .lit (.int .u8 0), .lit (.int .u8 47), .lit (.int .u8 0), .lit (.int .u8 0), .lit (.int .u8 0), .lit (.int .u8 0), .lit (.int .u8 0), .lit (.int .u8 0), .lit (.int .u8 0), .lit (.int .u8 0), .lit (.int .u8 0), .lit (.int .u8 0), .lit (.int .u8 0), .lit (.int .u8 0), .lit (.int .u8 0), .lit (.int .u8 0), .lit (.int .u8 0), .lit (.int .u8 0), .lit (.int .u8 0), .lit (.int .u8 0), .lit (.int .u8 0), .lit (.int .u8 0), .lit (.int .u8 0), .lit (.int .u8 0), .lit (.int .u8 0), .lit (.int .u8 0), .lit (.int .u8 0), .lit (.int .u8 0), .lit (.int .u8 0), .lit (.int .u8 0), .lit (.int .u8 0), .lit (.int .u8 0), .lit (.int .u8 0), .lit (.int .u8 0), .lit (.int .u8 0), .lit (.int .u8 0), .lit (.int .u8 0), .lit (.int .u8 0), .lit (.int .u8 0), .lit (.int .u8 0), .lit (.int .u8 0), .lit (.int .u8 0), .lit (.int .u8 0), .lit (.int .u8 0), .lit (.int .u8 0), .lit (.int .u8 0), .lit (.int .u8 92), .lit (.int .u8 0), .lit (.int .u8 0), .lit (.int .u8 0), .lit (.int .u8 0), .lit (.int .u8 0), .lit (.int .u8 8), .lit (.int .u8 0), .lit (.int .u8 0), .lit (.int .u8 0), .lit (.int .u8 12), .lit (.int .u8 0), .lit (.int .u8 0), .lit (.int .u8 0), .lit (.int .u8 0), .lit (.int .u8 0), .lit (.int .u8 0), .lit (.int .u8 0), .lit (.int .u8 10), .lit (.int .u8 0), .lit (.int .u8 0), .lit (.int .u8 0), .lit (.int .u8 13), .lit (.int .u8 0), .lit (.int .u8 9), .lit (.int .u8 0), .lit (.int .u8 0), .lit (.int .u8 0), .lit (.int .u8 0), .lit (.int .u8 0), .lit (.int .u8 0), .lit (.int .u8 0), .lit (.int .u8 0), .lit (.int .u8 0), .lit (.int .u8 0), .lit (.int .u8 0)]
/-- One of Go's own tables, pinned by name: the form's constant. -/
def laid_unicode_utf8_first : DataW Unit := Go.Pinned.utf8First

/-- 'freeholdlaw20.SelectorTerms': WHATEVER THE INPUT: true; the input reads as it did. -/
def selectorTermsSpec : ChangeSpec := { name := "selectorTerms", fn := fun _ => fun
  | [d1, d2] => { results := [.lit (.bool true)], args := [d1, d2] }
  | _ => none }
def selectorTermsRow : OpenClaim := { program := "ytolekldjbbjmjaagreatdoor", sum := "63d35e2bc185a657ad668df0625ce5216db7486cd2f3a0c4241cf918c04165df", func := "freehold/freeholdlaw20.SelectorTerms", spec := "selectorTerms", inPlace := ["internal/bytealg.IndexByteString", "internal/bytealg.IndexString", "internal/abi.NoEscape", "internal/bytealg.MakeNoZero"], unfollowed := true, recurses := true, named := ["unicode/utf8.first", "unicode/utf8.acceptRanges", "freehold/quote.saidBy", "freehold/quote.letterOf", "internal/bytealg.MaxLen"], apart := false, laid := [("unicode/utf8.acceptRanges", laid_unicode_utf8_acceptRanges), ("freehold/quote.letterOf", laid_freehold_quote_letterOf), ("freehold/quote.saidBy", laid_freehold_quote_saidBy), ("unicode/utf8.first", laid_unicode_utf8_first)] }
def SelectorTermsSaid : Prop := selectorTermsRow.holds Tryz.pinned (OpenSpec.ofChange selectorTermsSpec)

/-- ITS FALSE NEIGHBOUR: 'it returns false'. Refute it at one input. -/
def selectorTermsWrong : ChangeSpec := { name := "selectorTerms", fn := fun _ => fun
  | [d1, d2] => { results := [.lit (.bool false)], args := [d1, d2] }
  | _ => none }
def SelectorTermsWrongFalsely : Prop := selectorTermsRow.holds Tryz.pinned (OpenSpec.ofChange selectorTermsWrong)

/-- 'freeholdlaw20.SelectorShort': WHATEVER THE INPUT: true; the input reads as it did. -/
def selectorShortSpec : ChangeSpec := { name := "selectorShort", fn := fun _ => fun
  | [d1, d2] => { results := [.lit (.bool true)], args := [d1, d2] }
  | _ => none }
def selectorShortRow : OpenClaim := { program := "ytolekldjbbjmjaagreatdoor", sum := "63d35e2bc185a657ad668df0625ce5216db7486cd2f3a0c4241cf918c04165df", func := "freehold/freeholdlaw20.SelectorShort", spec := "selectorShort", inPlace := ["internal/bytealg.IndexByteString", "internal/bytealg.IndexString", "internal/abi.NoEscape", "internal/bytealg.MakeNoZero"], unfollowed := true, recurses := true, named := ["unicode/utf8.first", "unicode/utf8.acceptRanges", "freehold/quote.saidBy", "freehold/quote.letterOf", "internal/bytealg.MaxLen"], apart := false, laid := [("unicode/utf8.acceptRanges", laid_unicode_utf8_acceptRanges), ("freehold/quote.letterOf", laid_freehold_quote_letterOf), ("freehold/quote.saidBy", laid_freehold_quote_saidBy), ("unicode/utf8.first", laid_unicode_utf8_first)] }
def SelectorShortSaid : Prop := selectorShortRow.holds Tryz.pinned (OpenSpec.ofChange selectorShortSpec)

/-- ITS FALSE NEIGHBOUR: 'it returns false'. Refute it at one input. -/
def selectorShortWrong : ChangeSpec := { name := "selectorShort", fn := fun _ => fun
  | [d1, d2] => { results := [.lit (.bool false)], args := [d1, d2] }
  | _ => none }
def SelectorShortWrongFalsely : Prop := selectorShortRow.holds Tryz.pinned (OpenSpec.ofChange selectorShortWrong)

/-- 'freeholdlaw20.SelectorBack': WHATEVER THE INPUT: true; the input reads as it did. -/
def selectorBackSpec : ChangeSpec := { name := "selectorBack", fn := fun _ => fun
  | [d] => { results := [.lit (.bool true)], args := [d] }
  | _ => none }
def selectorBackRow : OpenClaim := { program := "ytolekldjbbjmjaagreatdoor", sum := "63d35e2bc185a657ad668df0625ce5216db7486cd2f3a0c4241cf918c04165df", func := "freehold/freeholdlaw20.SelectorBack", spec := "selectorBack", inPlace := ["internal/bytealg.IndexByteString", "internal/bytealg.IndexString", "internal/abi.NoEscape", "internal/bytealg.MakeNoZero"], unfollowed := true, recurses := true, named := ["unicode/utf8.first", "unicode/utf8.acceptRanges", "freehold/quote.saidBy", "freehold/quote.letterOf", "internal/bytealg.MaxLen"], apart := false, laid := [("unicode/utf8.acceptRanges", laid_unicode_utf8_acceptRanges), ("freehold/quote.letterOf", laid_freehold_quote_letterOf), ("freehold/quote.saidBy", laid_freehold_quote_saidBy), ("unicode/utf8.first", laid_unicode_utf8_first)] }
def SelectorBackSaid : Prop := selectorBackRow.holds Tryz.pinned (OpenSpec.ofChange selectorBackSpec)

/-- ITS FALSE NEIGHBOUR: 'it returns false'. Refute it at one input. -/
def selectorBackWrong : ChangeSpec := { name := "selectorBack", fn := fun _ => fun
  | [d] => { results := [.lit (.bool false)], args := [d] }
  | _ => none }
def SelectorBackWrongFalsely : Prop := selectorBackRow.holds Tryz.pinned (OpenSpec.ofChange selectorBackWrong)

/-- 'freeholdlaw20.SelectorCanon': WHATEVER THE INPUT: true; the input reads as it did. -/
def selectorCanonSpec : ChangeSpec := { name := "selectorCanon", fn := fun _ => fun
  | [d] => { results := [.lit (.bool true)], args := [d] }
  | _ => none }
def selectorCanonRow : OpenClaim := { program := "ytolekldjbbjmjaagreatdoor", sum := "63d35e2bc185a657ad668df0625ce5216db7486cd2f3a0c4241cf918c04165df", func := "freehold/freeholdlaw20.SelectorCanon", spec := "selectorCanon", inPlace := ["internal/bytealg.IndexByteString", "internal/bytealg.IndexString", "internal/abi.NoEscape", "internal/bytealg.MakeNoZero"], unfollowed := true, recurses := true, named := ["unicode/utf8.first", "unicode/utf8.acceptRanges", "freehold/quote.saidBy", "freehold/quote.letterOf", "internal/bytealg.MaxLen"], apart := false, laid := [("unicode/utf8.acceptRanges", laid_unicode_utf8_acceptRanges), ("freehold/quote.letterOf", laid_freehold_quote_letterOf), ("freehold/quote.saidBy", laid_freehold_quote_saidBy), ("unicode/utf8.first", laid_unicode_utf8_first)] }
def SelectorCanonSaid : Prop := selectorCanonRow.holds Tryz.pinned (OpenSpec.ofChange selectorCanonSpec)

/-- ITS FALSE NEIGHBOUR: 'it returns false'. Refute it at one input. -/
def selectorCanonWrong : ChangeSpec := { name := "selectorCanon", fn := fun _ => fun
  | [d] => { results := [.lit (.bool false)], args := [d] }
  | _ => none }
def SelectorCanonWrongFalsely : Prop := selectorCanonRow.holds Tryz.pinned (OpenSpec.ofChange selectorCanonWrong)

/-- 'freeholdlaw20.SelectorReads': WHATEVER THE INPUT: true; the input reads as it did. -/
def selectorReadsSpec : ChangeSpec := { name := "selectorReads", fn := fun _ => fun
  | [d] => { results := [.lit (.bool true)], args := [d] }
  | _ => none }
def selectorReadsRow : OpenClaim := { program := "ytolekldjbbjmjaagreatdoor", sum := "63d35e2bc185a657ad668df0625ce5216db7486cd2f3a0c4241cf918c04165df", func := "freehold/freeholdlaw20.SelectorReads", spec := "selectorReads", inPlace := ["internal/bytealg.IndexByteString", "internal/bytealg.IndexString", "internal/abi.NoEscape"], recurses := true, named := ["unicode/utf8.first", "unicode/utf8.acceptRanges", "freehold/quote.saidBy", "internal/bytealg.MaxLen"], apart := false, laid := [("unicode/utf8.acceptRanges", laid_unicode_utf8_acceptRanges), ("freehold/quote.saidBy", laid_freehold_quote_saidBy), ("unicode/utf8.first", laid_unicode_utf8_first)] }
def SelectorReadsSaid : Prop := selectorReadsRow.holds Tryz.pinned (OpenSpec.ofChange selectorReadsSpec)

/-- ITS FALSE NEIGHBOUR: 'it returns false'. Refute it at one input. -/
def selectorReadsWrong : ChangeSpec := { name := "selectorReads", fn := fun _ => fun
  | [d] => { results := [.lit (.bool false)], args := [d] }
  | _ => none }
def SelectorReadsWrongFalsely : Prop := selectorReadsRow.holds Tryz.pinned (OpenSpec.ofChange selectorReadsWrong)

/- THE SECOND FORM. 'bulk': how many values and letters a reading holds, each counted each time it is reached (what is shared counts as often as it is met; a slice's spare places count too). A statement '..UptoSaid' is the law's where the arguments, and the package variables that the reading takes, are together of bulk at most 1048576: NARROWER than '..Said'. Prove '..Said' where nothing that the law and all that it calls make is longer than what came in: it says more and counts as full. Else prove '..UptoSaid'. A law counts once. -/
mutual
def uptoBulk {H : Type} : DataW H → Nat
  | .lit (.string bytes) => bytes.length + 1
  | .lit _ => 1
  | .nil => 1
  | .ptr d => uptoBulk d + 1
  | .slice elems spare => uptoBulkAll elems + uptoBulkAll spare + 1
  | .agg parts => uptoBulkAll parts + 1
  | .iface _ d => uptoBulk d + 1
  | .map entries => uptoBulkEntries entries + 1
  | .held _ => 1
def uptoBulkAll {H : Type} : List (DataW H) → Nat
  | [] => 0
  | d :: r => uptoBulk d + uptoBulkAll r
def uptoBulkEntries {H : Type} : List (Lit × DataW H) → Nat
  | [] => 0
  | x :: r => uptoBulkEntry x + uptoBulkEntries r
def uptoBulkEntry {H : Type} : Lit × DataW H → Nat
  | (.string bytes, d) => bytes.length + uptoBulk d + 1
  | (_, d) => uptoBulk d + 1
 end
def uptoSmall : (H : Type) → List (DataW H) → Bool := fun _ ds => decide (uptoBulkAll ds ≤ 1048576)
def OpenSpec.upto (s : _root_.Go.ChangeSpec) : _root_.Go.OpenSpec := { _root_.Go.OpenSpec.ofChange s with cond := some uptoSmall }

/-- 'freeholdlaw20.SelectorTerms', WHERE WHAT IT READS IS OF BULK AT MOST 1048576: true; the input reads as it did. -/
def selectorTermsUptoRow : OpenClaim := { program := "ytolekldjbbjmjaagreatdoor", sum := "63d35e2bc185a657ad668df0625ce5216db7486cd2f3a0c4241cf918c04165df", func := "freehold/freeholdlaw20.SelectorTerms", spec := "selectorTerms", inPlace := ["internal/bytealg.IndexByteString", "internal/bytealg.IndexString", "internal/abi.NoEscape", "internal/bytealg.MakeNoZero"], unfollowed := true, recurses := true, named := ["unicode/utf8.first", "unicode/utf8.acceptRanges", "freehold/quote.saidBy", "freehold/quote.letterOf", "internal/bytealg.MaxLen"], apart := false, laid := [("unicode/utf8.acceptRanges", laid_unicode_utf8_acceptRanges), ("freehold/quote.letterOf", laid_freehold_quote_letterOf), ("freehold/quote.saidBy", laid_freehold_quote_saidBy), ("unicode/utf8.first", laid_unicode_utf8_first)], narrowed := true }
def SelectorTermsUptoSaid : Prop := selectorTermsUptoRow.holds Tryz.pinned (OpenSpec.upto selectorTermsSpec)

/-- 'freeholdlaw20.SelectorShort', WHERE WHAT IT READS IS OF BULK AT MOST 1048576: true; the input reads as it did. -/
def selectorShortUptoRow : OpenClaim := { program := "ytolekldjbbjmjaagreatdoor", sum := "63d35e2bc185a657ad668df0625ce5216db7486cd2f3a0c4241cf918c04165df", func := "freehold/freeholdlaw20.SelectorShort", spec := "selectorShort", inPlace := ["internal/bytealg.IndexByteString", "internal/bytealg.IndexString", "internal/abi.NoEscape", "internal/bytealg.MakeNoZero"], unfollowed := true, recurses := true, named := ["unicode/utf8.first", "unicode/utf8.acceptRanges", "freehold/quote.saidBy", "freehold/quote.letterOf", "internal/bytealg.MaxLen"], apart := false, laid := [("unicode/utf8.acceptRanges", laid_unicode_utf8_acceptRanges), ("freehold/quote.letterOf", laid_freehold_quote_letterOf), ("freehold/quote.saidBy", laid_freehold_quote_saidBy), ("unicode/utf8.first", laid_unicode_utf8_first)], narrowed := true }
def SelectorShortUptoSaid : Prop := selectorShortUptoRow.holds Tryz.pinned (OpenSpec.upto selectorShortSpec)

/-- 'freeholdlaw20.SelectorBack', WHERE WHAT IT READS IS OF BULK AT MOST 1048576: true; the input reads as it did. -/
def selectorBackUptoRow : OpenClaim := { program := "ytolekldjbbjmjaagreatdoor", sum := "63d35e2bc185a657ad668df0625ce5216db7486cd2f3a0c4241cf918c04165df", func := "freehold/freeholdlaw20.SelectorBack", spec := "selectorBack", inPlace := ["internal/bytealg.IndexByteString", "internal/bytealg.IndexString", "internal/abi.NoEscape", "internal/bytealg.MakeNoZero"], unfollowed := true, recurses := true, named := ["unicode/utf8.first", "unicode/utf8.acceptRanges", "freehold/quote.saidBy", "freehold/quote.letterOf", "internal/bytealg.MaxLen"], apart := false, laid := [("unicode/utf8.acceptRanges", laid_unicode_utf8_acceptRanges), ("freehold/quote.letterOf", laid_freehold_quote_letterOf), ("freehold/quote.saidBy", laid_freehold_quote_saidBy), ("unicode/utf8.first", laid_unicode_utf8_first)], narrowed := true }
def SelectorBackUptoSaid : Prop := selectorBackUptoRow.holds Tryz.pinned (OpenSpec.upto selectorBackSpec)

/-- 'freeholdlaw20.SelectorCanon', WHERE WHAT IT READS IS OF BULK AT MOST 1048576: true; the input reads as it did. -/
def selectorCanonUptoRow : OpenClaim := { program := "ytolekldjbbjmjaagreatdoor", sum := "63d35e2bc185a657ad668df0625ce5216db7486cd2f3a0c4241cf918c04165df", func := "freehold/freeholdlaw20.SelectorCanon", spec := "selectorCanon", inPlace := ["internal/bytealg.IndexByteString", "internal/bytealg.IndexString", "internal/abi.NoEscape", "internal/bytealg.MakeNoZero"], unfollowed := true, recurses := true, named := ["unicode/utf8.first", "unicode/utf8.acceptRanges", "freehold/quote.saidBy", "freehold/quote.letterOf", "internal/bytealg.MaxLen"], apart := false, laid := [("unicode/utf8.acceptRanges", laid_unicode_utf8_acceptRanges), ("freehold/quote.letterOf", laid_freehold_quote_letterOf), ("freehold/quote.saidBy", laid_freehold_quote_saidBy), ("unicode/utf8.first", laid_unicode_utf8_first)], narrowed := true }
def SelectorCanonUptoSaid : Prop := selectorCanonUptoRow.holds Tryz.pinned (OpenSpec.upto selectorCanonSpec)

/-- 'freeholdlaw20.SelectorReads', WHERE WHAT IT READS IS OF BULK AT MOST 1048576: true; the input reads as it did. -/
def selectorReadsUptoRow : OpenClaim := { program := "ytolekldjbbjmjaagreatdoor", sum := "63d35e2bc185a657ad668df0625ce5216db7486cd2f3a0c4241cf918c04165df", func := "freehold/freeholdlaw20.SelectorReads", spec := "selectorReads", inPlace := ["internal/bytealg.IndexByteString", "internal/bytealg.IndexString", "internal/abi.NoEscape"], recurses := true, named := ["unicode/utf8.first", "unicode/utf8.acceptRanges", "freehold/quote.saidBy", "internal/bytealg.MaxLen"], apart := false, laid := [("unicode/utf8.acceptRanges", laid_unicode_utf8_acceptRanges), ("freehold/quote.saidBy", laid_freehold_quote_saidBy), ("unicode/utf8.first", laid_unicode_utf8_first)], narrowed := true }
def SelectorReadsUptoSaid : Prop := selectorReadsUptoRow.holds Tryz.pinned (OpenSpec.upto selectorReadsSpec)

end Rows
end Go.Proofs.YtolekldjbbjmjaaGreatDoor
