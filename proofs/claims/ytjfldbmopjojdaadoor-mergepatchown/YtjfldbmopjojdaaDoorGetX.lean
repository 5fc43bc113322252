import Derived.Test.YtjfldbmopjojdaaDoorG17
set_option linter.unusedSimpArgs false
set_option linter.unusedVariables false
namespace Go.Proofs
open Go.Shelf Go.RowKit
def Tryd.lays106_ren : Go.Shelf.Ren := ⟨fun | 106 => 61 | 213 => 71 | 265 => 75 | n => n, fun | 3 => 3 | 9 => 9 | n => n, fun | n => n⟩
theorem Tryd.lays106 : Go.Proofs.Lays.n106 Tryd.prog Tryd.lays106_ren := {
 mixed := by kernel_rfl
 f106 := Tryd.func61.trans (congrArg some (by kernel_rfl))
 f213 := Tryd.func71.trans (congrArg some (by kernel_rfl))
 f265 := Tryd.func75.trans (congrArg some (by kernel_rfl))
 t3 := Tryd.underlying3
 a3 := Tryd.isAgg3
 z3 := Tryd.sizeOf3
 v3 := Tryd.zeroValue3
 t9 := Tryd.underlying9
 a9 := Tryd.isAgg9
 z9 := Tryd.sizeOf9
 v9 := Tryd.zeroValue9 }
namespace YtjfldbmopjojdaaDoor
open Go.Lib Go.RowKit
def JPost (r : Int) (w : World) (e : Ending) (w' : World) : Prop := e = .returned (.int .i64 r) ∧ Below w.heap.size w w'
theorem scompare_any (a b : ByteArray) (w : World) : Calls Tryd.prog 61 #[.string a, .string b] w (JPost (cmpS a b) w) :=
 (Any.strings_Compare Tryd.lays106 a b w).mono fun e w' h => ⟨h.1, by rw [h.2]; exact Below.refl _ _⟩
end YtjfldbmopjojdaaDoor
end Go.Proofs
