import Derived.Test.YtejcfkkkbnnmcaaGreatDoorAllG
import Derived.Test.YtejcfkkkbnnmcaaGreatDoorSizA
import Derived.Test.YtejcfkkkbnnmcaaGreatDoorGodA
/- freeholdlaw02.cleared; a value against itself. -/
set_option linter.unusedSimpArgs false
set_option linter.unusedVariables false
namespace Go.Proofs.YtejcfkkkbnnmcaaGreatDoor
open Go.RowKit Go.Lib


theorem two_below (w : World) (o o' : Obj) : Below w.heap.size w ((w.alloc o).alloc o') := ((Below.refl _ _).alloc (Nat.le_refl _) _).alloc (by rw [alloc_size]; omega) _

end Go.Proofs.YtejcfkkkbnnmcaaGreatDoor
