import Derived.Shelf.Small.Strs
import Derived.Test.YtejcfkkkbnnmcaaGreatDoorOrdP
/- strings.Compare by its contract, laid at this program; cmp.Compare of integers, the order of bools. -/
set_option linter.unusedSimpArgs false
set_option linter.unusedVariables false
namespace Go.Proofs
open Go.Shelf Go.RowKit
def Tryz.lays106_ren : Go.Shelf.Ren := ⟨fun | 106 => 57 | 213 => 73 | 265 => 87 | n => n, fun | 3 => 3 | 9 => 9 | n => n, fun | n => n⟩
theorem Tryz.lays106 : Go.Proofs.Lays.n106 Tryz.prog Tryz.lays106_ren := {
  mixed := by kernel_rfl
  f106 := Tryz.func57.trans (congrArg some (by kernel_rfl))
  f213 := Tryz.func73.trans (congrArg some (by kernel_rfl))
  f265 := Tryz.func87.trans (congrArg some (by kernel_rfl))
  t3 := Tryz.underlying3
  a3 := Tryz.isAgg3
  z3 := Tryz.sizeOf3
  v3 := Tryz.zeroValue3
  t9 := Tryz.underlying9
  a9 := Tryz.isAgg9
  z9 := Tryz.sizeOf9
  v9 := Tryz.zeroValue9 }
namespace YtejcfkkkbnnmcaaGreatDoor
open Go.Lib
theorem scompare_any (a b : ByteArray) (w : World) : Calls Tryz.prog 57 #[.string a, .string b] w (JPost (cmpS a b) w) :=
  (Any.strings_Compare Tryz.lays106 a b w).mono fun e w' h => ⟨h.1, by rw [h.2]; exact Below.refl _ _⟩

end YtejcfkkkbnnmcaaGreatDoor
end Go.Proofs
