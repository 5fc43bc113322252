import Derived.Test.YtejcfkkkbnnmcaaGreatDoorShlC
import Derived.Test.YtejcfkkkbnnmcaaGreatDoorCntA
/- slices.CompareFunc over lists and over members. -/
set_option linter.unusedSimpArgs false
set_option linter.unusedVariables false
namespace Go.Proofs.YtejcfkkkbnnmcaaGreatDoor
open Go.RowKit Go.Lib

theorem alloc2_keep1 (w : World) (o o' : Obj) : ((w.alloc o).alloc o').heap[w.heap.size]? = some o := by
  have h := heap_alloc_new w o
  have hl := (Array.getElem?_eq_some_iff.1 h).1
  exact (Below.heap_alloc (w.alloc o) o' w.heap.size hl).trans h

end Go.Proofs.YtejcfkkkbnnmcaaGreatDoor
