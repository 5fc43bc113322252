import Derived.Lib.ValidLaws
import Derived.Test.YtljgofmmihmmfabDoorChkB
import Derived.Test.YtljgofmmihmmfabDoorChkC
import Derived.Deep.Cut
import Derived.Test.YtljgofmmihmmfabDoorChkD
import Derived.Laws.ResultCell
import Derived.Deep.RegionHeld3
/- freeholdref02: walk. -/
set_option linter.unusedSimpArgs false
set_option linter.unusedVariables false
namespace Go.Proofs.YtljgofmmihmmfabDoor
open Go.RowKit Go.Lib

structure RwF (w : World) (box : Array Value) (n y : Nat) (wr : World) : Prop where
  below : Below w.heap.size w wr
  b0 : wr.heap[w.heap.size]? = some (.cells box 25 (0, 0))
  b1 : wr.heap[w.heap.size + 1]? = some (.cells #[.int .i64 (n : Int), .int .i64 (y : Int)] 54 (0, 0))
  b2 : wr.heap[w.heap.size + 1 + 1]? = some (.cells #[.int .i64 0, .int .i64 0] 54 (0, 0))
theorem RwF.lt {w : World} {box : Array Value} {n y : Nat} {wr : World} (h : RwF w box n y wr) : w.heap.size + 3 ≤ wr.heap.size := (Array.getElem?_eq_some_iff.1 h.b2).1
theorem RwF.grown {w : World} {box : Array Value} {n y : Nat} {wr wr' : World} (h : RwF w box n y wr) (g : wr.grownBy wr' none) : RwF w box n y wr' := by
  have hs := h.lt
  exact ⟨h.below.grown g (by omega) (fun r e => by cases e), (g.block _ (by omega) (by simp)).trans h.b0, (g.block _ (by omega) (by simp)).trans h.b1, (g.block _ (by omega) (by simp)).trans h.b2⟩
theorem RwF.set {w : World} {box : Array Value} {n y n' y' : Nat} {wr : World} (h : RwF w box n y wr) (i : Nat) (u : Value) (e : (#[.int .i64 (n : Int), .int .i64 (y : Int)] : Array Value).setIfInBounds i u = #[.int .i64 (n' : Int), .int .i64 (y' : Int)]) : RwF w box n' y' (wr.setCell ⟨w.heap.size + 1, i, none⟩ u) := by
  have hs := h.lt
  have g := grown_set1 wr (w.heap.size + 1) i u
  have hn : ∀ q, q ≠ w.heap.size + 1 → some q ≠ some (w.heap.size + 1) := fun q hq e => hq (Option.some.inj e)
  refine ⟨h.below.grown g (by omega) (fun r e => by cases e; omega), (g.block _ (by omega) (hn _ (by omega))).trans h.b0, ?_, (g.block _ (by omega) (hn _ (by omega))).trans h.b2⟩
  rw [set_block h.b1, e]

end Go.Proofs.YtljgofmmihmmfabDoor
