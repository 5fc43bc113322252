/- joined: RgxA PatX -/
import Derived.Test.YtjfldbmopjojdaaDoorG19
set_option linter.unusedSimpArgs false
set_option linter.unusedVariables false
namespace Go.Proofs.YtjfldbmopjojdaaDoor
open Go.RowKit Go.Lib
theorem wo_fin {S : Nat → Prop} {w w3 : World} {x : V} {M : Nat} {c0 c1 c2 c3 c4 c5 : Value} (hM : w.heap.size ≤ M) (hS : ∀ b, S b → b < w.heap.size) (B3 : Below w.heap.size w w3) (hx : x.lies false w3 (fun y => S y ∨ (w.heap.size ≤ y ∧ y ≠ M ∧ y < w3.heap.size)) [c0, c1, c2, c3, c4, c5]) :
 x.lies false ((((((w3.setCell ⟨M, 0, none⟩ (c0)).setCell ⟨M, 1, none⟩ (c1)).setCell ⟨M, 2, none⟩ (c2)).setCell ⟨M, 3, none⟩ (c3)).setCell ⟨M, 4, none⟩ (c4)).setCell ⟨M, 5, none⟩ (c5)) (OrNew S w ((((((w3.setCell ⟨M, 0, none⟩ (c0)).setCell ⟨M, 1, none⟩ (c1)).setCell ⟨M, 2, none⟩ (c2)).setCell ⟨M, 3, none⟩ (c3)).setCell ⟨M, 4, none⟩ (c4)).setCell ⟨M, 5, none⟩ (c5))) [c0, c1, c2, c3, c4, c5] ∧ Below w.heap.size w ((((((w3.setCell ⟨M, 0, none⟩ (c0)).setCell ⟨M, 1, none⟩ (c1)).setCell ⟨M, 2, none⟩ (c2)).setCell ⟨M, 3, none⟩ (c3)).setCell ⟨M, 4, none⟩ (c4)).setCell ⟨M, 5, none⟩ (c5)) := by
 have hot : ∀ y, y ≠ M → ((((((w3.setCell ⟨M, 0, none⟩ (c0)).setCell ⟨M, 1, none⟩ (c1)).setCell ⟨M, 2, none⟩ (c2)).setCell ⟨M, 3, none⟩ (c3)).setCell ⟨M, 4, none⟩ (c4)).setCell ⟨M, 5, none⟩ (c5)).heap[y]? = w3.heap[y]? := fun y hy => by
  repeat (rw [set_other hy])
 have g2 : w3.grownBy ((((((w3.setCell ⟨M, 0, none⟩ (c0)).setCell ⟨M, 1, none⟩ (c1)).setCell ⟨M, 2, none⟩ (c2)).setCell ⟨M, 3, none⟩ (c3)).setCell ⟨M, 4, none⟩ (c4)).setCell ⟨M, 5, none⟩ (c5)) (some M) := grown_set (grown_set (grown_set (grown_set (grown_set (grown_set (World.grownBy.refl w3 _) 0 c0) 1 c1) 2 c2) 3 c3) 4 c4) 5 c5
 have s2 : ((((((w3.setCell ⟨M, 0, none⟩ (c0)).setCell ⟨M, 1, none⟩ (c1)).setCell ⟨M, 2, none⟩ (c2)).setCell ⟨M, 3, none⟩ (c3)).setCell ⟨M, 4, none⟩ (c4)).setCell ⟨M, 5, none⟩ (c5)).heap.size = w3.heap.size := by simp only [size_set1]
 generalize ((((((w3.setCell ⟨M, 0, none⟩ (c0)).setCell ⟨M, 1, none⟩ (c1)).setCell ⟨M, 2, none⟩ (c2)).setCell ⟨M, 3, none⟩ (c3)).setCell ⟨M, 4, none⟩ (c4)).setCell ⟨M, 5, none⟩ (c5)) = wf at *
 refine ⟨V.lies_keep (fun h => h) (fun y hy => ?_) (fun y hy => ?_) _ hx, ⟨g2.os.trans B3.os, g2.tape.trans B3.tape, g2.output.trans B3.output, by have := B3.size; omega, fun q hq => (hot q (by omega)).trans (B3.block q hq)⟩⟩
 ·rcases hy with hy | hy
  ·have := hS y hy; exact hot y (by omega)
  ·exact hot y hy.2.1
 ·rcases hy with hy | hy
  ·exact .inl hy
  ·exact .inr ⟨by omega, by omega⟩
theorem kind_lies {R : Bool} {w : World} {S : Nat → Prop} {x : V} {ek : Int} {cs : List Value} (h : x.lies R w S (.int .i64 ek :: cs)) : kindOf x = ek := by
 obtain ⟨k, b, i, s, l, m⟩ := x
 rw [V.lies] at h
 obtain ⟨_, _, _, _, _, _, _, _, e, _⟩ := h
 injection e with e1 _
 injection e1 with _ e2
 exact e2.symm
theorem wn_fin {w w3 : World} {x : V} {M : Nat} {c0 c1 c2 c3 c4 c5 : Value} (hM : w.heap.size ≤ M) (B3 : Below w.heap.size w w3) (hx : x.lies false w3 (fun y => w.heap.size ≤ y ∧ y ≠ M ∧ y < w3.heap.size) [c0, c1, c2, c3, c4, c5]) :
 x.lies false ((((((w3.setCell ⟨M, 0, none⟩ (c0)).setCell ⟨M, 1, none⟩ (c1)).setCell ⟨M, 2, none⟩ (c2)).setCell ⟨M, 3, none⟩ (c3)).setCell ⟨M, 4, none⟩ (c4)).setCell ⟨M, 5, none⟩ (c5)) (New w ((((((w3.setCell ⟨M, 0, none⟩ (c0)).setCell ⟨M, 1, none⟩ (c1)).setCell ⟨M, 2, none⟩ (c2)).setCell ⟨M, 3, none⟩ (c3)).setCell ⟨M, 4, none⟩ (c4)).setCell ⟨M, 5, none⟩ (c5))) [c0, c1, c2, c3, c4, c5] ∧ Below w.heap.size w ((((((w3.setCell ⟨M, 0, none⟩ (c0)).setCell ⟨M, 1, none⟩ (c1)).setCell ⟨M, 2, none⟩ (c2)).setCell ⟨M, 3, none⟩ (c3)).setCell ⟨M, 4, none⟩ (c4)).setCell ⟨M, 5, none⟩ (c5)) := by
 have h := wo_fin (S := fun _ => False) hM (fun _ h => h.elim) B3 (V.lies_keep (fun h => h) (fun _ _ => rfl) (fun y hy => .inr hy) _ hx)
 exact ⟨V.lies_keep (fun h => h) (fun _ _ => rfl) (fun y hy => hy.elim (fun h => h.elim) (fun h => h)) _ h.1, h.2⟩
theorem box_six {w : World} {g : Nat} {ty : TypeId} {c0 c1 c2 c3 c4 c5 : Value} (h : w.heap[g]? = some (.cells #[c0, c1, c2, c3, c4, c5] ty)) (d0 d1 d2 d3 d4 d5 : Value) : ((((((w.setCell ⟨g, 0, none⟩ (d0)).setCell ⟨g, 1, none⟩ (d1)).setCell ⟨g, 2, none⟩ (d2)).setCell ⟨g, 3, none⟩ (d3)).setCell ⟨g, 4, none⟩ (d4)).setCell ⟨g, 5, none⟩ (d5)).heap[g]? = some (.cells #[d0, d1, d2, d3, d4, d5] ty) := by
 have h0 : (w.setCell ⟨g, 0, none⟩ d0).heap[g]? = some (.cells #[d0, c1, c2, c3, c4, c5] ty) := by rw [set_block h]; rfl
 have h1 : ((w.setCell ⟨g, 0, none⟩ d0).setCell ⟨g, 1, none⟩ d1).heap[g]? = some (.cells #[d0, d1, c2, c3, c4, c5] ty) := by rw [set_block h0]; rfl
 have h2 : (((w.setCell ⟨g, 0, none⟩ d0).setCell ⟨g, 1, none⟩ d1).setCell ⟨g, 2, none⟩ d2).heap[g]? = some (.cells #[d0, d1, d2, c3, c4, c5] ty) := by rw [set_block h1]; rfl
 have h3 : ((((w.setCell ⟨g, 0, none⟩ d0).setCell ⟨g, 1, none⟩ d1).setCell ⟨g, 2, none⟩ d2).setCell ⟨g, 3, none⟩ d3).heap[g]? = some (.cells #[d0, d1, d2, d3, c4, c5] ty) := by rw [set_block h2]; rfl
 have h4 : (((((w.setCell ⟨g, 0, none⟩ d0).setCell ⟨g, 1, none⟩ d1).setCell ⟨g, 2, none⟩ d2).setCell ⟨g, 3, none⟩ d3).setCell ⟨g, 4, none⟩ d4).heap[g]? = some (.cells #[d0, d1, d2, d3, d4, c5] ty) := by rw [set_block h3]; rfl
 rw [set_block h4]; rfl
theorem six_o (w : World) (g : Nat) (d0 d1 d2 d3 d4 d5 : Value) (y : Nat) (hy : y ≠ g) : ((((((w.setCell ⟨g, 0, none⟩ (d0)).setCell ⟨g, 1, none⟩ (d1)).setCell ⟨g, 2, none⟩ (d2)).setCell ⟨g, 3, none⟩ (d3)).setCell ⟨g, 4, none⟩ (d4)).setCell ⟨g, 5, none⟩ (d5)).heap[y]? = w.heap[y]? := by
 repeat (rw [set_other hy])
end Go.Proofs.YtjfldbmopjojdaaDoor
