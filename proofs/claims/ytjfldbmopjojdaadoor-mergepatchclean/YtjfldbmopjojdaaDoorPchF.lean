import Derived.Test.YtjfldbmopjojdaaDoorPchB
set_option linter.unusedSimpArgs false
set_option linter.unusedVariables false
namespace Go.Proofs.YtjfldbmopjojdaaDoor
open Go Go.RowKit Go.Lib Go.Shelf
theorem six_z (w : World) (g : Nat) (d0 d1 d2 d3 d4 d5 : Value) : ((((((w.setCell ⟨g, 0, none⟩ (d0)).setCell ⟨g, 1, none⟩ (d1)).setCell ⟨g, 2, none⟩ (d2)).setCell ⟨g, 3, none⟩ (d3)).setCell ⟨g, 4, none⟩ (d4)).setCell ⟨g, 5, none⟩ (d5)).heap.size = w.heap.size := by
 simp only [size_set1]
theorem six_g (w : World) (g : Nat) (d0 d1 d2 d3 d4 d5 : Value) : w.grownBy ((((((w.setCell ⟨g, 0, none⟩ (d0)).setCell ⟨g, 1, none⟩ (d1)).setCell ⟨g, 2, none⟩ (d2)).setCell ⟨g, 3, none⟩ (d3)).setCell ⟨g, 4, none⟩ (d4)).setCell ⟨g, 5, none⟩ (d5)) (some g) :=
 grown_set (grown_set (grown_set (grown_set (grown_set (grown_set (World.grownBy.refl w _) _ d0) _ d1) _ d2) _ d3) _ d4) _ d5
structure FinP (W Wf : World) (g D : Nat) (d0 d1 d2 d3 d4 d5 : Value) (ty : TypeId) : Prop where
 g_ : Wf.heap[g]? = some (.cells #[d0, d1, d2, d3, d4, d5] ty)
 o_ : ∀ z, z ≠ g → z ≠ D → Wf.heap[z]? = W.heap[z]?
 z_ : Wf.heap.size = W.heap.size
 s_ : Wf.os = W.os
 t_ : Wf.tape = W.tape
 p_ : Wf.output = W.output
theorem put_four (W : World) (D : Nat) (o : Obj) : (W.putObj D o).heap.size = W.heap.size ∧ (W.putObj D o).os = W.os ∧ (W.putObj D o).tape = W.tape ∧ (W.putObj D o).output = W.output := ⟨by simp, rfl, rfl, rfl⟩
theorem fin_put {W : World} {D g : Nat} {ty : TypeId} {c0 c1 c2 c3 c4 c5 : Value} (hg : W.heap[g]? = some (.cells #[c0, c1, c2, c3, c4, c5] ty)) (hgD : g ≠ D) (hD : W.heap[D]? = some (.deferred (some []))) (d0 d1 d2 d3 d4 d5 : Value) :
 ((((((W.setCell ⟨g, 0, none⟩ (d0)).setCell ⟨g, 1, none⟩ (d1)).setCell ⟨g, 2, none⟩ (d2)).setCell ⟨g, 3, none⟩ (d3)).setCell ⟨g, 4, none⟩ (d4)).setCell ⟨g, 5, none⟩ (d5)).heap[D]? = some (.deferred (some [])) ∧ FinP W (((((((W.setCell ⟨g, 0, none⟩ (d0)).setCell ⟨g, 1, none⟩ (d1)).setCell ⟨g, 2, none⟩ (d2)).setCell ⟨g, 3, none⟩ (d3)).setCell ⟨g, 4, none⟩ (d4)).setCell ⟨g, 5, none⟩ (d5)).putObj D (.deferred none)) g D d0 d1 d2 d3 d4 d5 ty := by
 have hG := six_g W g d0 d1 d2 d3 d4 d5
 have hP := put_four ((((((W.setCell ⟨g, 0, none⟩ (d0)).setCell ⟨g, 1, none⟩ (d1)).setCell ⟨g, 2, none⟩ (d2)).setCell ⟨g, 3, none⟩ (d3)).setCell ⟨g, 4, none⟩ (d4)).setCell ⟨g, 5, none⟩ (d5)) D (.deferred none)
 refine ⟨(six_o W g d0 d1 d2 d3 d4 d5 D (fun e => hgD e.symm)).trans hD, ?_, fun z h1 h2 => ?_, hP.1.trans (six_z W g d0 d1 d2 d3 d4 d5), hP.2.1.trans hG.os, hP.2.2.1.trans hG.tape, hP.2.2.2.trans hG.output⟩
 ·exact (World.putObj_heap_other hgD).trans (box_six hg d0 d1 d2 d3 d4 d5)
 ·exact (World.putObj_heap_other h2).trans (six_o W g d0 d1 d2 d3 d4 d5 z h1)
theorem pch_fin {S : Nat → Prop} {ms : List Mem} {sl d0 d1 d2 d3 d4 d5 : Value} {ty : TypeId} {W Wf w w6 : World} {D : Nat} (hS : ∀ y, S y → y < w.heap.size) (bw6 : Below w.heap.size w w6) (h6 : w6.heap.size = w.heap.size + 6) (bW : Below (w.heap.size + 3) w6 W) (acc : AccK S (w.heap.size + 6) ms sl W) (hD : w.heap.size + 6 ≤ D) (hK : W.heap[D]? = some (.deferred (some [])))
 (hf : FinP W Wf (w.heap.size + 2) D d0 d1 d2 d3 d4 d5 ty) : (V.mk 5 false 0 ⟨#[]⟩ [] ms).lies false Wf (OrNew S w Wf) [.int .i64 5, .bool false, .int .i64 0, .string ⟨#[]⟩, .slice none 0 0, sl] ∧ Below w.heap.size w Wf := by
 have hz := bW.size
 have hzf := hf.z_
 refine ⟨V.lies_keep (fun h => h) (fun y hy => hf.o_ y ?_ ?_) (fun y hy => ?_) _ (lies_cells rfl _ (acc.lies (fun y hy => by have := hS y hy; omega))), ?_⟩
 ·rcases hy.1 with h | h
  ·have := hS y h; omega
  ·omega
 ·intro e
  obtain ⟨o, h1, h2⟩ := hy.2
  rw [e, hK] at h1
  cases h1
  cases h2
 ·rcases hy.1 with h | h
  ·exact .inl h
  ·exact .inr ⟨by omega, by omega⟩
 ·exact ⟨hf.s_.trans (bW.os.trans bw6.os), hf.t_.trans (bW.tape.trans bw6.tape), hf.p_.trans (bW.output.trans bw6.output), by have := bw6.size; omega, fun k hk => (hf.o_ k (by omega) (by omega)).trans ((bW.block k (by omega)).trans (bw6.block k hk))⟩
end Go.Proofs.YtjfldbmopjojdaaDoor
