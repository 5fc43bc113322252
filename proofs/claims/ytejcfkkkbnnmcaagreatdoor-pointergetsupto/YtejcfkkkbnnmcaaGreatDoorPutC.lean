import Derived.Test.YtejcfkkkbnnmcaaGreatDoorPutB
/- freeholdlaw02.put: the very members. -/
set_option linter.unusedSimpArgs false
set_option linter.unusedVariables false
namespace Go.Proofs.YtejcfkkkbnnmcaaGreatDoor
open Go.RowKit

def lessKey (key : ByteArray) (y : Mem) : Bool := Op.bytesLess y.1.toList key.toList
def keyIs (key : ByteArray) : Option Mem → Bool
  | some y => y.1.toList == key.toList
  | none => false
end Go.Proofs.YtejcfkkkbnnmcaaGreatDoor
