import Derived.Test.YtagjbphadakifaaDoorTwinB
import Derived.Test.YtagjbphadakifaaDoorShlV
import Derived.Deep.RegionWith
/- value.plain, value.rising. -/
set_option linter.unusedSimpArgs false
set_option linter.unusedVariables false
namespace Go.Proofs.YtagjbphadakifaaDoor
open Go.RowKit Go.Lib
theorem utab_grown {w w' : World} {row : Option Nat} (h : Utf8Tabs 0 1 w) (hb : w.grownBy w' row) (h2 : 1 < w.heap.size) (hr : ∀ r, row = some r → 1 < r) : Utf8Tabs 0 1 w' := by
  have hn : ∀ q, q ≤ 1 → some q ≠ row := fun q hq e => by have := hr q e.symm; omega
  have k1 := hb.block 0 (by omega) (hn 0 (by omega))
  have k2 := hb.block 1 (by omega) (hn 1 (by omega))
  exact ⟨fun c hc => (World.cell?_of_block (w := w) (a := ⟨0, c, none⟩) k1).trans (h.1 c hc), fun i hi => ⟨(World.cell?_of_block (w := w) (a := ⟨1, 2 * i, none⟩) k2).trans (h.2 i hi).1, (World.cell?_of_block (w := w) (a := ⟨1, 2 * i + 1, none⟩) k2).trans (h.2 i hi).2⟩⟩
/-- what the calls read beside their arguments -/
structure Tb (w : World) : Prop where
  u : Utf8Tabs 0 1 w
  z : 1 < w.heap.size
theorem Tb.grown {w w' : World} {row : Option Nat} (h : Tb w) (hb : w.grownBy w' row) (hr : ∀ r, row = some r → 1 < r) : Tb w' := ⟨utab_grown h.u hb h.z hr, Nat.lt_of_lt_of_le h.z hb.size⟩
theorem Tb.below {w w' : World} {B : Nat} (h : Tb w) (hb : Below B w w') (hB : 1 < B) : Tb w' := by
  refine ⟨?_, Nat.lt_of_lt_of_le h.z hb.size⟩
  exact ⟨fun c hc => (hb.cell (p := ⟨0, c, none⟩) (by show 0 < B; omega)).trans (h.u.1 c hc), fun i hi => ⟨(hb.cell (p := ⟨1, 2 * i, none⟩) hB).trans (h.u.2 i hi).1, (hb.cell (p := ⟨1, 2 * i + 1, none⟩) hB).trans (h.u.2 i hi).2⟩⟩
def BPost (r : Bool) (w : World) (e : Ending) (w' : World) : Prop := e = .returned (.bool r) ∧ Below w.heap.size w w'
end Go.Proofs.YtagjbphadakifaaDoor
