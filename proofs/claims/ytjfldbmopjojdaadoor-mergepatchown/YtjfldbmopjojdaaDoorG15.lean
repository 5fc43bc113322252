/- joined: PchF BtwB -/
import Derived.Test.YtjfldbmopjojdaaDoorG14
set_option linter.unusedSimpArgs false
set_option linter.unusedVariables false
namespace Go.Proofs.YtjfldbmopjojdaaDoor
open Go Go.RowKit Go.Lib Go.Shelf
theorem six_z (w : World) (g : Nat) (d0 d1 d2 d3 d4 d5 : Value) : ((((((w.setCell ⟨g, 0, none⟩ (d0)).setCell ⟨g, 1, none⟩ (d1)).setCell ⟨g, 2, none⟩ (d2)).setCell ⟨g, 3, none⟩ (d3)).setCell ⟨g, 4, none⟩ (d4)).setCell ⟨g, 5, none⟩ (d5)).heap.size = w.heap.size := by
 simp only [size_set1]
theorem six_g (w : World) (g : Nat) (d0 d1 d2 d3 d4 d5 : Value) : w.grownBy ((((((w.setCell ⟨g, 0, none⟩ (d0)).setCell ⟨g, 1, none⟩ (d1)).setCell ⟨g, 2, none⟩ (d2)).setCell ⟨g, 3, none⟩ (d3)).setCell ⟨g, 4, none⟩ (d4)).setCell ⟨g, 5, none⟩ (d5)) (some g) :=
 grown_set (grown_set (grown_set (grown_set (grown_set (grown_set (World.grownBy.refl w _) _ d0) _ d1) _ d2) _ d3) _ d4) _ d5
structure FinP (W Wf : World) (g D : Nat) (d0 d1 d2 d3 d4 d5 : Value) (ty : TypeId) : Prop where
 g_ : Wf.heap[g]? = some (.cells #[d0, d1, d2, d3, d4, d5] ty)
 o_ : ∀ z, z ≠ g → z ≠ D → Wf.heap[z]? = W.heap[z]?
 z_ : Wf.heap.size = W.heap.size
 s_ : Wf.os = W.os
 t_ : Wf.tape = W.tape
 p_ : Wf.output = W.output
theorem put_four (W : World) (D : Nat) (o : Obj) : (W.putObj D o).heap.size = W.heap.size ∧ (W.putObj D o).os = W.os ∧ (W.putObj D o).tape = W.tape ∧ (W.putObj D o).output = W.output := ⟨by simp, rfl, rfl, rfl⟩
theorem fin_put {W : World} {D g : Nat} {ty : TypeId} {c0 c1 c2 c3 c4 c5 : Value} (hg : W.heap[g]? = some (.cells #[c0, c1, c2, c3, c4, c5] ty)) (hgD : g ≠ D) (hD : W.heap[D]? = some (.deferred (some []))) (d0 d1 d2 d3 d4 d5 : Value) :
 ((((((W.setCell ⟨g, 0, none⟩ (d0)).setCell ⟨g, 1, none⟩ (d1)).setCell ⟨g, 2, none⟩ (d2)).setCell ⟨g, 3, none⟩ (d3)).setCell ⟨g, 4, none⟩ (d4)).setCell ⟨g, 5, none⟩ (d5)).heap[D]? = some (.deferred (some [])) ∧ FinP W (((((((W.setCell ⟨g, 0, none⟩ (d0)).setCell ⟨g, 1, none⟩ (d1)).setCell ⟨g, 2, none⟩ (d2)).setCell ⟨g, 3, none⟩ (d3)).setCell ⟨g, 4, none⟩ (d4)).setCell ⟨g, 5, none⟩ (d5)).putObj D (.deferred none)) g D d0 d1 d2 d3 d4 d5 ty := by
 have hG := six_g W g d0 d1 d2 d3 d4 d5
 have hP := put_four ((((((W.setCell ⟨g, 0, none⟩ (d0)).setCell ⟨g, 1, none⟩ (d1)).setCell ⟨g, 2, none⟩ (d2)).setCell ⟨g, 3, none⟩ (d3)).setCell ⟨g, 4, none⟩ (d4)).setCell ⟨g, 5, none⟩ (d5)) D (.deferred none)
 refine ⟨(six_o W g d0 d1 d2 d3 d4 d5 D (fun e => hgD e.symm)).trans hD, ?_, fun z h1 h2 => ?_, hP.1.trans (six_z W g d0 d1 d2 d3 d4 d5), hP.2.1.trans hG.os, hP.2.2.1.trans hG.tape, hP.2.2.2.trans hG.output⟩
 ·exact (World.putObj_heap_other hgD).trans (box_six hg d0 d1 d2 d3 d4 d5)
 ·exact (World.putObj_heap_other h2).trans (six_o W g d0 d1 d2 d3 d4 d5 z h1)
theorem pch_fin {S : Nat → Prop} {ms : List Mem} {sl d0 d1 d2 d3 d4 d5 : Value} {ty : TypeId} {W Wf w w6 : World} {D : Nat} (hS : ∀ y, S y → y < w.heap.size) (bw6 : Below w.heap.size w w6) (h6 : w6.heap.size = w.heap.size + 6) (bW : Below (w.heap.size + 3) w6 W) (acc : AccK S (w.heap.size + 6) ms sl W) (hD : w.heap.size + 6 ≤ D) (hK : W.heap[D]? = some (.deferred (some [])))
 (hf : FinP W Wf (w.heap.size + 2) D d0 d1 d2 d3 d4 d5 ty) : (V.mk 5 false 0 ⟨#[]⟩ [] ms).lies false Wf (OrNew S w Wf) [.int .i64 5, .bool false, .int .i64 0, .string ⟨#[]⟩, .slice none 0 0, sl] ∧ Below w.heap.size w Wf := by
 have hz := bW.size
 have hzf := hf.z_
 refine ⟨V.lies_keep (fun h => h) (fun y hy => hf.o_ y ?_ ?_) (fun y hy => ?_) _ (lies_cells rfl _ (acc.lies (fun y hy => by have := hS y hy; omega))), ?_⟩
 ·rcases hy.1 with h | h
  ·have := hS y h; omega
  ·omega
 ·intro e
  obtain ⟨o, h1, h2⟩ := hy.2
  rw [e, hK] at h1
  cases h1
  cases h2
 ·rcases hy.1 with h | h
  ·exact .inl h
  ·exact .inr ⟨by omega, by omega⟩
 ·exact ⟨hf.s_.trans (bW.os.trans bw6.os), hf.t_.trans (bW.tape.trans bw6.tape), hf.p_.trans (bW.output.trans bw6.output), by have := bw6.size; omega, fun k hk => (hf.o_ k (by omega) (by omega)).trans ((bW.block k (by omega)).trans (bw6.block k hk))⟩
end Go.Proofs.YtjfldbmopjojdaaDoor
namespace Go.Proofs.YtjfldbmopjojdaaDoor
open Go Go.RowKit Go.Lib Go.Shelf
theorem round_at {S : Nat → Prop} {M B g N cap : Nat} {ps : List (Mem × List Value)} {sl : Value} {W W2 w5 We w6 : World} {x : Mem} {c0 c1 c2 c3 c4 c5 c6 : Value} {ms : List Mem} (hMB : M < B) (hS : ∀ y, S y → y < M) (h6 : w6.heap.size = B) (hB : Below M w6 W) (hps : ps.map (fun q => q.1) = ms) (hN : ps.length = N)
 (ho : OwnC B 57 7 sl (ps.map (fun q => q.2)) W) (hp : ∀ q ∈ ps, PM W (Sq S B sl W) q) (hb : Below W.heap.size W W2) (hx : PM W2 (fun y => S y ∨ (W.heap.size ≤ y ∧ y < W2.heap.size)) (x, [c0, c1, c2, c3, c4, c5, c6]))
 (h5 : w5.ownsRow B 57 7 (.slice (some ⟨g, 0, none⟩) (N + 1) cap) (N + 1) ((ps.map (fun q => q.2)).flatten ++ nul7)) (g5 : W2.grownBy w5 sl.ownBlock) (l5 : sl.ownBlock = some g ∨ W2.heap.size ≤ g)
 (hE : EndP w5 We g M N (.slice (some ⟨g, 0, none⟩) (N + 1) cap) c0 c1 c2 c3 c4 c5 c6) :
 KeepsFrom B W We ∧ Kx B M W We ∧ ∃ sl', We.heap[M]? = some (.cells #[.int .i64 5, .bool false, .int .i64 0, .string ⟨#[]⟩, .slice none 0 0, sl'] 25) ∧ AccK S B (ms ++ [x]) sl' We ∧ Below M w6 We := by
 have hz := hB.size
 have hz2 := hb.size
 have hz5 := g5.size
 have hzE := hE.z_
 have hgB := (World.ownsRow.lt h5 g rfl).1
 have hown : ∀ r, sl.ownBlock = some r → B ≤ r ∧ r < W.heap.size := World.ownsRow.lt ho
 have hcell : ∀ r, sl.ownBlock = some r → ∃ o : Obj, W.heap[r]? = some o ∧ o.isCells = true := fun r hr => by
  rcases ho.2 with ⟨rfl, _⟩ | ⟨g', cap', cur, rfl, _, hg, _⟩
  ·cases hr
  ·have e : g' = r := Option.some.inj hr
   rw [← e]
   exact ⟨_, hg, rfl⟩
 have hlow : ∀ k, k < W.heap.size → k ≠ M → sl.ownBlock ≠ some k → We.heap[k]? = W.heap[k]? := fun k hk hM hne => by
  have hkg : k ≠ g := by
   rcases l5 with l5 | l5
   ·exact fun e => hne (by rw [e]; exact l5)
   ·omega
  exact (hE.o_ k hkg hM).trans ((g5.block k (by omega) (fun e => hne e.symm)).trans (hb.block k hk))
 refine ⟨⟨by omega, fun k o hk ho' hc => ?_⟩, ⟨?_, ?_, ?_, by omega, fun k hk hM => hlow k (by omega) hM (fun e => by have := (hown k e).1; omega)⟩, _, hE.m_, ?_, ?_⟩
 ·refine (hlow k (Array.getElem?_eq_some_iff.1 ho').1 (by omega) (fun e => ?_)).trans ho'
  obtain ⟨o', h1, h2⟩ := hcell k e
  rw [h1] at ho'
  cases ho'
  rw [h2] at hc; cases hc
 ·exact hE.s_.trans (g5.os.trans hb.os)
 ·exact hE.t_.trans (g5.tape.trans hb.tape)
 ·exact hE.p_.trans (g5.output.trans hb.output)
 ·rw [← hps]
  refine AccK.push (w := W2) (fun y hy => by have := hS y hy; omega) (by omega) (fun h => by have := hS _ h; omega) hN (ho.below hb) (fun q hq => (hp q hq).keep (fun b hb' => hb.block b ?_) (fun b hb' => ?_)) (by omega) (hx.keep (fun _ _ => rfl) (fun y hy => ?_)) h5 g5 l5 hE
  ·rcases hb' with h | h
   ·have := hS b h; omega
   ·exact h.2.1
  ·exact hb'.elim .inl (fun h => .inr ⟨h.1, by omega, h.2.2⟩)
  ·exact hy.elim .inl (fun h => .inr ⟨by omega, h.2, fun e => by have := (hown y e).2; omega⟩)
 ·exact hB.trans ⟨hE.s_.trans (g5.os.trans hb.os), hE.t_.trans (g5.tape.trans hb.tape), hE.p_.trans (g5.output.trans hb.output), by omega, fun k hk => hlow k (by omega) (by omega) (fun e => by have := (hown k e).1; omega)⟩
theorem fin_at {S : Nat → Prop} {ms : List Mem} {sl d0 d1 d2 d3 d4 d5 : Value} {ty : TypeId} {W Wf w w6 : World} {D M B R : Nat} (hS : ∀ y, S y → y < w.heap.size) (hw : w.heap.size ≤ R) (hRM : R < M) (hMB : M < B) (bw6 : Below w.heap.size w w6) (h6 : w6.heap.size = B) (bW : Below M w6 W) (acc : AccK S B ms sl W) (hD : B ≤ D) (hK : W.heap[D]? = some (.deferred (some [])))
 (hf : FinP W Wf R D d0 d1 d2 d3 d4 d5 ty) : (V.mk 5 false 0 ⟨#[]⟩ [] ms).lies false Wf (OrNew S w Wf) [.int .i64 5, .bool false, .int .i64 0, .string ⟨#[]⟩, .slice none 0 0, sl] ∧ Below w.heap.size w Wf := by
 have hz := bW.size
 have hzf := hf.z_
 refine ⟨V.lies_keep (fun h => h) (fun y hy => hf.o_ y ?_ ?_) (fun y hy => ?_) _ (lies_cells rfl _ (acc.lies (fun y hy => by have := hS y hy; omega))), ?_⟩
 ·rcases hy.1 with h | h
  ·have := hS y h; omega
  ·omega
 ·intro e
  obtain ⟨o, h1, h2⟩ := hy.2
  rw [e, hK] at h1
  cases h1
  cases h2
 ·rcases hy.1 with h | h
  ·exact .inl h
  ·exact .inr ⟨by omega, by omega⟩
 ·exact ⟨hf.s_.trans (bW.os.trans bw6.os), hf.t_.trans (bW.tape.trans bw6.tape), hf.p_.trans (bW.output.trans bw6.output), by have := bw6.size; omega, fun k hk => (hf.o_ k (by omega) (by omega)).trans ((bW.block k (by omega)).trans (bw6.block k hk))⟩
end Go.Proofs.YtjfldbmopjojdaaDoor
