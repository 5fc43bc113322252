/- joined: FndA VgtA -/
import Derived.Test.YtjgbjhahmgegiaaGreatDoorClnA
/- slices.BinarySearchFunc over members, value.find. -/
set_option linter.unusedSimpArgs false
set_option linter.unusedVariables false
namespace Go.Proofs.YtjgbjhahmgegiaaGreatDoor
open Go.RowKit Go.Lib
/-- where a key stands, or would -/
def posF (l : List Mem) (key : ByteArray) : Nat := (l.filter (lessKey key)).length
end Go.Proofs.YtjgbjhahmgegiaaGreatDoor
/- value.Nodes, and value.Get. -/
namespace Go.Proofs.YtjgbjhahmgegiaaGreatDoor
open Go.RowKit Go.Lib
def atKey (l : List Mem) (key : ByteArray) : V × Bool := if keyIs key l[posF l key]? = true then ((l.getD (posF l key) (⟨#[]⟩, nullV)).2, true) else (nullV, false)
end Go.Proofs.YtjgbjhahmgegiaaGreatDoor
