import Derived.Test.YtagjbphadakifaaDoorChkA
import Derived.Test.YtagjbphadakifaaDoorQSub
import Derived.Laws.Cover1
/- value.rising. -/
set_option linter.unusedSimpArgs false
set_option linter.unusedVariables false
namespace Go.Proofs.YtagjbphadakifaaDoor
open Go.RowKit Go.Lib
def utfB (s : ByteArray) : Bool := validD s.data.toList
def ltB (a b : ByteArray) : Bool := Op.bytesLess a.toList b.toList
end Go.Proofs.YtagjbphadakifaaDoor
