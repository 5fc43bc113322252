/- joined: PjG PjF PjH PjI -/
import Derived.Test.YtjgbjhahmgegiaaGreatDoorPjE
/- rows of steps in memory; stepsSame of the same steps. -/
set_option linter.unusedSimpArgs false
set_option linter.unusedVariables false
set_option maxRecDepth 100000
namespace Go.Proofs.YtjgbjhahmgegiaaGreatDoor
open Go.RowKit Go.Lib
/-- a step: its Op, its Path, its From, its Value -/
abbrev Stp := ByteArray × ByteArray × ByteArray × V
/-- steps in memory -/
def liesT (w : World) (S : Nat → Prop) (l : List Stp) (b o : Nat) : Prop := ∀ (j : Nat) (h : j < l.length), S b ∧ ∃ cs, rowAt w b (o + j * 9) (.string (l[j]).1 :: .string (l[j]).2.1 :: .string (l[j]).2.2.1 :: cs) ∧ (l[j]).2.2.2.lies false w S cs
theorem liesT_keep {w w' : World} {S S' : Nat → Prop} {l : List Stp} {b o : Nat} (hw : ∀ b, S b → w'.heap[b]? = w.heap[b]?) (hS : ∀ b, S b → S' b) (h : liesT w S l b o) : liesT w' S' l b o := fun j hj => by
  obtain ⟨h1, cs, h2, h3⟩ := h j hj
  exact ⟨hS b h1, cs, h2.keep (hw b h1), V.lies_keep (fun h => h) hw hS _ h3⟩
theorem row9 {w : World} {b o : Nat} {c0 c1 c2 c3 c4 c5 c6 c7 c8 : Value} (h : rowAt w b o [c0, c1, c2, c3, c4, c5, c6, c7, c8]) :
    w.cell? ⟨b, o, none⟩ = some c0 ∧ w.cell? ⟨b, o + 1, none⟩ = some c1 ∧ w.cell? ⟨b, o + 2, none⟩ = some c2 ∧ w.cell? ⟨b, o + 3, none⟩ = some c3 ∧ w.cell? ⟨b, o + 4, none⟩ = some c4 ∧ w.cell? ⟨b, o + 5, none⟩ = some c5 ∧ w.cell? ⟨b, o + 6, none⟩ = some c6 ∧ w.cell? ⟨b, o + 7, none⟩ = some c7 ∧ w.cell? ⟨b, o + 8, none⟩ = some c8 :=
  ⟨h 0 _ rfl, h 1 _ rfl, h 2 _ rfl, h 3 _ rfl, h 4 _ rfl, h 5 _ rfl, h 6 _ rfl, h 7 _ rfl, h 8 _ rfl⟩
end Go.Proofs.YtjgbjhahmgegiaaGreatDoor
/- freeholdref00's bound: a value, a list of values. -/
set_option maxRecDepth 100000
namespace Go.Proofs.YtjgbjhahmgegiaaGreatDoor
open Go.RowKit Go.Lib
/-- whether a value is beyond the bound; if not, how heavy it is -/
def BeyN (x : Nat) (w : World) (e : Ending) (w' : World) : Prop := ∃ r, e = .returned (.bool r) ∧ (r = false → x ≤ 2147483647) ∧ Below w.heap.size w w'
end Go.Proofs.YtjgbjhahmgegiaaGreatDoor
/- what a value says as a step: plain. -/
set_option maxRecDepth 100000
namespace Go.Proofs.YtjgbjhahmgegiaaGreatDoor
open Go.RowKit Go.Lib
abbrev kOp : ByteArray := ⟨#[111, 112]⟩
abbrev kPath : ByteArray := ⟨#[112, 97, 116, 104]⟩
abbrev kFrom : ByteArray := ⟨#[102, 114, 111, 109]⟩
abbrev kVal : ByteArray := ⟨#[118, 97, 108, 117, 101]⟩
abbrev noS : ByteArray := ⟨#[]⟩
end Go.Proofs.YtjgbjhahmgegiaaGreatDoor
/- what a value says as a step: the document's read. -/
set_option maxRecDepth 100000
namespace Go.Proofs.YtjgbjhahmgegiaaGreatDoor
open Go.RowKit Go.Lib
/-- nine cells of a box are set -/
abbrev set9 (w : World) (g : Nat) (c0 c1 c2 c3 c4 c5 c6 c7 c8 : Value) : World :=
  ((((((((w.setCell ⟨g, 0, none⟩ c0).setCell ⟨g, 1, none⟩ c1).setCell ⟨g, 2, none⟩ c2).setCell ⟨g, 3, none⟩ c3).setCell ⟨g, 4, none⟩ c4).setCell ⟨g, 5, none⟩ c5).setCell ⟨g, 6, none⟩ c6).setCell ⟨g, 7, none⟩ c7).setCell ⟨g, 8, none⟩ c8
/-- the last six of nine cells are set -/
abbrev set6b (w : World) (g : Nat) (c3 c4 c5 c6 c7 c8 : Value) : World :=
  (((((w.setCell ⟨g, 3, none⟩ c3).setCell ⟨g, 4, none⟩ c4).setCell ⟨g, 5, none⟩ c5).setCell ⟨g, 6, none⟩ c6).setCell ⟨g, 7, none⟩ c7).setCell ⟨g, 8, none⟩ c8
theorem set6_below {B g : Nat} {a w : World} (h : Below B a w) (hg : B ≤ g) (c3 c4 c5 c6 c7 c8 : Value) : Below B a (set6b w g c3 c4 c5 c6 c7 c8) :=
  (((((h.setCell hg _).setCell hg _).setCell hg _).setCell hg _).setCell hg _).setCell hg _
theorem set6_other (w : World) (g : Nat) (c3 c4 c5 c6 c7 c8 : Value) (k : Nat) (h : k ≠ g) : (set6b w g c3 c4 c5 c6 c7 c8).heap[k]? = w.heap[k]? := by
  iterate 6 rw [Below.heap_setCell _ _ _ _ h]
theorem set6_box {w : World} {g : Nat} {d0 d1 d2 d3 d4 d5 d6 d7 d8 : Value} {t : TypeId} (h : w.heap[g]? = some (.cells #[d0, d1, d2, d3, d4, d5, d6, d7, d8] t (0, 0))) (c3 c4 c5 c6 c7 c8 : Value) :
    (set6b w g c3 c4 c5 c6 c7 c8).heap[g]? = some (.cells #[d0, d1, d2, c3, c4, c5, c6, c7, c8] t (0, 0)) := by
  have e3 : (w.setCell ⟨g, 3, none⟩ c3).heap[g]? = some (.cells #[d0, d1, d2, c3, d4, d5, d6, d7, d8] t (0, 0)) := heap_setCell_same w g 3 _ t c3 h
  have e4 : ((w.setCell ⟨g, 3, none⟩ c3).setCell ⟨g, 4, none⟩ c4).heap[g]? = some (.cells #[d0, d1, d2, c3, c4, d5, d6, d7, d8] t (0, 0)) := heap_setCell_same (w.setCell ⟨g, 3, none⟩ c3) g 4 _ t c4 e3
  have e5 : (((w.setCell ⟨g, 3, none⟩ c3).setCell ⟨g, 4, none⟩ c4).setCell ⟨g, 5, none⟩ c5).heap[g]? = some (.cells #[d0, d1, d2, c3, c4, c5, d6, d7, d8] t (0, 0)) := heap_setCell_same ((w.setCell ⟨g, 3, none⟩ c3).setCell ⟨g, 4, none⟩ c4) g 5 _ t c5 e4
  have e6 : ((((w.setCell ⟨g, 3, none⟩ c3).setCell ⟨g, 4, none⟩ c4).setCell ⟨g, 5, none⟩ c5).setCell ⟨g, 6, none⟩ c6).heap[g]? = some (.cells #[d0, d1, d2, c3, c4, c5, c6, d7, d8] t (0, 0)) := heap_setCell_same (((w.setCell ⟨g, 3, none⟩ c3).setCell ⟨g, 4, none⟩ c4).setCell ⟨g, 5, none⟩ c5) g 6 _ t c6 e5
  have e7 : (((((w.setCell ⟨g, 3, none⟩ c3).setCell ⟨g, 4, none⟩ c4).setCell ⟨g, 5, none⟩ c5).setCell ⟨g, 6, none⟩ c6).setCell ⟨g, 7, none⟩ c7).heap[g]? = some (.cells #[d0, d1, d2, c3, c4, c5, c6, c7, d8] t (0, 0)) := heap_setCell_same ((((w.setCell ⟨g, 3, none⟩ c3).setCell ⟨g, 4, none⟩ c4).setCell ⟨g, 5, none⟩ c5).setCell ⟨g, 6, none⟩ c6) g 7 _ t c7 e6
  have e8 : ((((((w.setCell ⟨g, 3, none⟩ c3).setCell ⟨g, 4, none⟩ c4).setCell ⟨g, 5, none⟩ c5).setCell ⟨g, 6, none⟩ c6).setCell ⟨g, 7, none⟩ c7).setCell ⟨g, 8, none⟩ c8).heap[g]? = some (.cells #[d0, d1, d2, c3, c4, c5, c6, c7, c8] t (0, 0)) := heap_setCell_same (((((w.setCell ⟨g, 3, none⟩ c3).setCell ⟨g, 4, none⟩ c4).setCell ⟨g, 5, none⟩ c5).setCell ⟨g, 6, none⟩ c6).setCell ⟨g, 7, none⟩ c7) g 8 _ t c8 e7
  exact e8
end Go.Proofs.YtjgbjhahmgegiaaGreatDoor
