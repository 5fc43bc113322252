import Derived.Test.YtljgofmmihmmfabDoorRwtP
import Derived.Deep.RegionHeld3
/- Blocks that a region leaves as they were: what its loads read may be read first. -/
set_option linter.unusedSimpArgs false
set_option linter.unusedVariables false
namespace Go.Proofs.YtljgofmmihmmfabDoor
open Go.RowKit Go.Lib

/-- the blocks of A are as they were in w -/
def KeepB (w : World) (A : Nat → Prop) (W : World) : Prop := ∀ b, A b → W.heap[b]? = w.heap[b]?
theorem KeepB.refl (w : World) (A : Nat → Prop) : KeepB w A w := fun _ _ => rfl
theorem KeepB.drew (w : World) (A : Nat → Prop) : KeepB w A w.drew := fun _ _ => rfl
theorem KeepB.cell {w : World} {A : Nat → Prop} {W : World} (h : KeepB w A W) {b o : Nat} {v : Value} (hb : A b) (hc : w.cell? ⟨b, o, none⟩ = some v) : W.cell? ⟨b, o, none⟩ = some v :=
  (World.cell?_of_block (w := w) (a := ⟨b, o, none⟩) (h b hb)).trans hc
theorem KeepB.row {w : World} {A : Nat → Prop} {W : World} (h : KeepB w A W) {b o : Nat} {cs : List Value} (hb : A b) (hr : rowAt w b o cs) : rowAt W b o cs := hr.keep (h b hb)
theorem KeepB.below {w : World} {A : Nat → Prop} {W W' : World} {N : Nat} (h : KeepB w A W) (hb : Below N W W') (hA : ∀ b, A b → b < N) : KeepB w A W' := fun b hb' => (hb.block b (hA b hb')).trans (h b hb')
theorem KeepB.alloc {w : World} {A : Nat → Prop} {W : World} (h : KeepB w A W) (hA : ∀ b, A b → b < W.heap.size) (o : Obj) : KeepB w A (W.alloc o) := fun b hb => (Below.heap_alloc W o b (hA b hb)).trans (h b hb)
theorem KeepB.grown {w : World} {A : Nat → Prop} {W W' : World} {row : Option Nat} (h : KeepB w A W) (g : W.grownBy W' row) (hA : ∀ b, A b → b < W.heap.size ∧ some b ≠ row) : KeepB w A W' := fun b hb => (g.block b (hA b hb).1 (hA b hb).2).trans (h b hb)
theorem KeepB.set {w : World} {A : Nat → Prop} {W : World} (h : KeepB w A W) {M : Nat} (hM : ∀ b, A b → b ≠ M) (i : Nat) (u : Value) : KeepB w A (W.setCell ⟨M, i, none⟩ u) := fun b hb => by
  rw [set_other (hM b hb)]; exact h b hb
theorem KeepB.set6 {w : World} {A : Nat → Prop} {W : World} (h : KeepB w A W) {M : Nat} (hM : ∀ b, A b → b ≠ M) (i1 i2 i3 i4 i5 i6 : Nat) (u1 u2 u3 u4 u5 u6 : Value) :
    KeepB w A ((((((W.setCell ⟨M, i1, none⟩ u1).setCell ⟨M, i2, none⟩ u2).setCell ⟨M, i3, none⟩ u3).setCell ⟨M, i4, none⟩ u4).setCell ⟨M, i5, none⟩ u5).setCell ⟨M, i6, none⟩ u6) :=
  (((((h.set hM i1 u1).set hM i2 u2).set hM i3 u3).set hM i4 u4).set hM i5 u5).set hM i6 u6
theorem row_of_block {w : World} {b : Nat} {cs : List Value} {t : TypeId} (h : w.heap[b]? = some (.cells cs.toArray t (0, 0))) : rowAt w b 0 cs := fun j u hu => by
  rw [cell_of_block h]
  simpa using hu
end Go.Proofs.YtljgofmmihmmfabDoor
