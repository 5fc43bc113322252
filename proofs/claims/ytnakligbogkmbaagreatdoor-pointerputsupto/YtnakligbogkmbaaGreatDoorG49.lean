/- joined: RtkA CvsA -/
import Derived.Test.YtnakligbogkmbaaGreatDoorG48
set_option linter.unusedSimpArgs false
set_option linter.unusedVariables false
namespace Go.Proofs.YtnakligbogkmbaaGreatDoor
open Go.RowKit Go.Lib
theorem tq_fin {S : Nat → Prop} {w w5 : World} {x y : V} {c0 c1 c2 c3 c4 c5 d0 d1 d2 d3 d4 d5 : Value} (hS : ∀ b, S b → b < w.heap.size) (B5 : Below w.heap.size w w5) (hz : w.heap.size + 4 ≤ w5.heap.size) (hx : x.lies false w5 (fun y => S y ∨ (w.heap.size + 4 ≤ y ∧ y < w5.heap.size)) [c0, c1, c2, c3, c4, c5]) (hy : y.lies false w5 (fun y => S y ∨ (w.heap.size + 4 ≤ y ∧ y < w5.heap.size)) [d0, d1, d2, d3, d4, d5]) :
 x.lies false ((((((((((((w5.setCell ⟨w.heap.size + 1, 0, none⟩ (c0)).setCell ⟨w.heap.size + 1, 1, none⟩ (c1)).setCell ⟨w.heap.size + 1, 2, none⟩ (c2)).setCell ⟨w.heap.size + 1, 3, none⟩ (c3)).setCell ⟨w.heap.size + 1, 4, none⟩ (c4)).setCell ⟨w.heap.size + 1, 5, none⟩ (c5)).setCell ⟨w.heap.size + 2, 0, none⟩ (d0)).setCell ⟨w.heap.size + 2, 1, none⟩ (d1)).setCell ⟨w.heap.size + 2, 2, none⟩ (d2)).setCell ⟨w.heap.size + 2, 3, none⟩ (d3)).setCell ⟨w.heap.size + 2, 4, none⟩ (d4)).setCell ⟨w.heap.size + 2, 5, none⟩ (d5)).drew (OrNew S w ((((((((((((w5.setCell ⟨w.heap.size + 1, 0, none⟩ (c0)).setCell ⟨w.heap.size + 1, 1, none⟩ (c1)).setCell ⟨w.heap.size + 1, 2, none⟩ (c2)).setCell ⟨w.heap.size + 1, 3, none⟩ (c3)).setCell ⟨w.heap.size + 1, 4, none⟩ (c4)).setCell ⟨w.heap.size + 1, 5, none⟩ (c5)).setCell ⟨w.heap.size + 2, 0, none⟩ (d0)).setCell ⟨w.heap.size + 2, 1, none⟩ (d1)).setCell ⟨w.heap.size + 2, 2, none⟩ (d2)).setCell ⟨w.heap.size + 2, 3, none⟩ (d3)).setCell ⟨w.heap.size + 2, 4, none⟩ (d4)).setCell ⟨w.heap.size + 2, 5, none⟩ (d5)).drew) [c0, c1, c2, c3, c4, c5] ∧ y.lies false ((((((((((((w5.setCell ⟨w.heap.size + 1, 0, none⟩ (c0)).setCell ⟨w.heap.size + 1, 1, none⟩ (c1)).setCell ⟨w.heap.size + 1, 2, none⟩ (c2)).setCell ⟨w.heap.size + 1, 3, none⟩ (c3)).setCell ⟨w.heap.size + 1, 4, none⟩ (c4)).setCell ⟨w.heap.size + 1, 5, none⟩ (c5)).setCell ⟨w.heap.size + 2, 0, none⟩ (d0)).setCell ⟨w.heap.size + 2, 1, none⟩ (d1)).setCell ⟨w.heap.size + 2, 2, none⟩ (d2)).setCell ⟨w.heap.size + 2, 3, none⟩ (d3)).setCell ⟨w.heap.size + 2, 4, none⟩ (d4)).setCell ⟨w.heap.size + 2, 5, none⟩ (d5)).drew (OrNew S w ((((((((((((w5.setCell ⟨w.heap.size + 1, 0, none⟩ (c0)).setCell ⟨w.heap.size + 1, 1, none⟩ (c1)).setCell ⟨w.heap.size + 1, 2, none⟩ (c2)).setCell ⟨w.heap.size + 1, 3, none⟩ (c3)).setCell ⟨w.heap.size + 1, 4, none⟩ (c4)).setCell ⟨w.heap.size + 1, 5, none⟩ (c5)).setCell ⟨w.heap.size + 2, 0, none⟩ (d0)).setCell ⟨w.heap.size + 2, 1, none⟩ (d1)).setCell ⟨w.heap.size + 2, 2, none⟩ (d2)).setCell ⟨w.heap.size + 2, 3, none⟩ (d3)).setCell ⟨w.heap.size + 2, 4, none⟩ (d4)).setCell ⟨w.heap.size + 2, 5, none⟩ (d5)).drew) [d0, d1, d2, d3, d4, d5] ∧ Below w.heap.size w ((((((((((((w5.setCell ⟨w.heap.size + 1, 0, none⟩ (c0)).setCell ⟨w.heap.size + 1, 1, none⟩ (c1)).setCell ⟨w.heap.size + 1, 2, none⟩ (c2)).setCell ⟨w.heap.size + 1, 3, none⟩ (c3)).setCell ⟨w.heap.size + 1, 4, none⟩ (c4)).setCell ⟨w.heap.size + 1, 5, none⟩ (c5)).setCell ⟨w.heap.size + 2, 0, none⟩ (d0)).setCell ⟨w.heap.size + 2, 1, none⟩ (d1)).setCell ⟨w.heap.size + 2, 2, none⟩ (d2)).setCell ⟨w.heap.size + 2, 3, none⟩ (d3)).setCell ⟨w.heap.size + 2, 4, none⟩ (d4)).setCell ⟨w.heap.size + 2, 5, none⟩ (d5)).drew := by
 have hot1 : ∀ z, z ≠ w.heap.size + 1 → ((((((w5.setCell ⟨w.heap.size + 1, 0, none⟩ (c0)).setCell ⟨w.heap.size + 1, 1, none⟩ (c1)).setCell ⟨w.heap.size + 1, 2, none⟩ (c2)).setCell ⟨w.heap.size + 1, 3, none⟩ (c3)).setCell ⟨w.heap.size + 1, 4, none⟩ (c4)).setCell ⟨w.heap.size + 1, 5, none⟩ (c5)).heap[z]? = w5.heap[z]? := fun z hz => by
  repeat (rw [sOt hz])
 have g1 : w5.grownBy ((((((w5.setCell ⟨w.heap.size + 1, 0, none⟩ (c0)).setCell ⟨w.heap.size + 1, 1, none⟩ (c1)).setCell ⟨w.heap.size + 1, 2, none⟩ (c2)).setCell ⟨w.heap.size + 1, 3, none⟩ (c3)).setCell ⟨w.heap.size + 1, 4, none⟩ (c4)).setCell ⟨w.heap.size + 1, 5, none⟩ (c5)) (some (w.heap.size + 1)) := gSt (gSt (gSt (gSt (gSt (gSt (World.grownBy.refl w5 _) 0 c0) 1 c1) 2 c2) 3 c3) 4 c4) 5 c5
 have s1 : ((((((w5.setCell ⟨w.heap.size + 1, 0, none⟩ (c0)).setCell ⟨w.heap.size + 1, 1, none⟩ (c1)).setCell ⟨w.heap.size + 1, 2, none⟩ (c2)).setCell ⟨w.heap.size + 1, 3, none⟩ (c3)).setCell ⟨w.heap.size + 1, 4, none⟩ (c4)).setCell ⟨w.heap.size + 1, 5, none⟩ (c5)).heap.size = w5.heap.size := by simp only [sz1]
 generalize ((((((w5.setCell ⟨w.heap.size + 1, 0, none⟩ (c0)).setCell ⟨w.heap.size + 1, 1, none⟩ (c1)).setCell ⟨w.heap.size + 1, 2, none⟩ (c2)).setCell ⟨w.heap.size + 1, 3, none⟩ (c3)).setCell ⟨w.heap.size + 1, 4, none⟩ (c4)).setCell ⟨w.heap.size + 1, 5, none⟩ (c5)) = w6 at *
 have hot2 : ∀ z, z ≠ w.heap.size + 2 → ((((((w6.setCell ⟨w.heap.size + 2, 0, none⟩ (d0)).setCell ⟨w.heap.size + 2, 1, none⟩ (d1)).setCell ⟨w.heap.size + 2, 2, none⟩ (d2)).setCell ⟨w.heap.size + 2, 3, none⟩ (d3)).setCell ⟨w.heap.size + 2, 4, none⟩ (d4)).setCell ⟨w.heap.size + 2, 5, none⟩ (d5)).heap[z]? = w6.heap[z]? := fun z hz => by
  repeat (rw [sOt hz])
 have g2 : w6.grownBy ((((((w6.setCell ⟨w.heap.size + 2, 0, none⟩ (d0)).setCell ⟨w.heap.size + 2, 1, none⟩ (d1)).setCell ⟨w.heap.size + 2, 2, none⟩ (d2)).setCell ⟨w.heap.size + 2, 3, none⟩ (d3)).setCell ⟨w.heap.size + 2, 4, none⟩ (d4)).setCell ⟨w.heap.size + 2, 5, none⟩ (d5)) (some (w.heap.size + 2)) := gSt (gSt (gSt (gSt (gSt (gSt (World.grownBy.refl w6 _) 0 d0) 1 d1) 2 d2) 3 d3) 4 d4) 5 d5
 have s2 : ((((((w6.setCell ⟨w.heap.size + 2, 0, none⟩ (d0)).setCell ⟨w.heap.size + 2, 1, none⟩ (d1)).setCell ⟨w.heap.size + 2, 2, none⟩ (d2)).setCell ⟨w.heap.size + 2, 3, none⟩ (d3)).setCell ⟨w.heap.size + 2, 4, none⟩ (d4)).setCell ⟨w.heap.size + 2, 5, none⟩ (d5)).heap.size = w6.heap.size := by simp only [sz1]
 generalize ((((((w6.setCell ⟨w.heap.size + 2, 0, none⟩ (d0)).setCell ⟨w.heap.size + 2, 1, none⟩ (d1)).setCell ⟨w.heap.size + 2, 2, none⟩ (d2)).setCell ⟨w.heap.size + 2, 3, none⟩ (d3)).setCell ⟨w.heap.size + 2, 4, none⟩ (d4)).setCell ⟨w.heap.size + 2, 5, none⟩ (d5)) = wf at *
 have key : ∀ z, z ≠ w.heap.size + 1 → z ≠ w.heap.size + 2 → wf.heap[z]? = w5.heap[z]? := fun z h1 h2 => (hot2 z h2).trans (hot1 z h1)
 have kf : ∀ z, (S z ∨ (w.heap.size + 4 ≤ z ∧ z < w5.heap.size)) → wf.heap[z]? = w5.heap[z]? := fun z hz => by
  rcases hz with hz | hz
  ·have := hS z hz; exact key z (by omega) (by omega)
  ·exact key z (by omega) (by omega)
 have kn : ∀ z, (S z ∨ (w.heap.size + 4 ≤ z ∧ z < w5.heap.size)) → OrNew S w wf z := fun z hz => by
  rcases hz with hz | hz
  ·exact .inl hz
  ·exact .inr ⟨by omega, by omega⟩
 have BF : Below w.heap.size w wf := ⟨g2.os.trans (g1.os.trans B5.os), g2.tape.trans (g1.tape.trans B5.tape), g2.output.trans (g1.output.trans B5.output), by have := B5.size; omega, fun q hq => (key q (by omega) (by omega)).trans (B5.block q hq)⟩
 have kf' : ∀ z, (S z ∨ (w.heap.size + 4 ≤ z ∧ z < w5.heap.size)) → wf.drew.heap[z]? = w5.heap[z]? := kf
 have kn' : ∀ z, (S z ∨ (w.heap.size + 4 ≤ z ∧ z < w5.heap.size)) → OrNew S w wf.drew z := kn
 exact ⟨V.lies_keep (fun h => h) kf' kn' _ hx, V.lies_keep (fun h => h) kf' kn' _ hy, BF.drew⟩
theorem tq_fin0 {S : Nat → Prop} {w w5 : World} {x y : V} {c0 c1 c2 c3 c4 c5 d0 d1 d2 d3 d4 d5 : Value} (hS : ∀ b, S b → b < w.heap.size) (B5 : Below w.heap.size w w5) (hz : w.heap.size + 4 ≤ w5.heap.size) (hx : x.lies false w5 (fun y => S y ∨ (w.heap.size + 4 ≤ y ∧ y < w5.heap.size)) [c0, c1, c2, c3, c4, c5]) (hy : y.lies false w5 (fun y => S y ∨ (w.heap.size + 4 ≤ y ∧ y < w5.heap.size)) [d0, d1, d2, d3, d4, d5]) :
 x.lies false ((((((((((((w5.setCell ⟨w.heap.size + 1, 0, none⟩ (c0)).setCell ⟨w.heap.size + 1, 1, none⟩ (c1)).setCell ⟨w.heap.size + 1, 2, none⟩ (c2)).setCell ⟨w.heap.size + 1, 3, none⟩ (c3)).setCell ⟨w.heap.size + 1, 4, none⟩ (c4)).setCell ⟨w.heap.size + 1, 5, none⟩ (c5)).setCell ⟨w.heap.size + 2, 0, none⟩ (d0)).setCell ⟨w.heap.size + 2, 1, none⟩ (d1)).setCell ⟨w.heap.size + 2, 2, none⟩ (d2)).setCell ⟨w.heap.size + 2, 3, none⟩ (d3)).setCell ⟨w.heap.size + 2, 4, none⟩ (d4)).setCell ⟨w.heap.size + 2, 5, none⟩ (d5)) (OrNew S w ((((((((((((w5.setCell ⟨w.heap.size + 1, 0, none⟩ (c0)).setCell ⟨w.heap.size + 1, 1, none⟩ (c1)).setCell ⟨w.heap.size + 1, 2, none⟩ (c2)).setCell ⟨w.heap.size + 1, 3, none⟩ (c3)).setCell ⟨w.heap.size + 1, 4, none⟩ (c4)).setCell ⟨w.heap.size + 1, 5, none⟩ (c5)).setCell ⟨w.heap.size + 2, 0, none⟩ (d0)).setCell ⟨w.heap.size + 2, 1, none⟩ (d1)).setCell ⟨w.heap.size + 2, 2, none⟩ (d2)).setCell ⟨w.heap.size + 2, 3, none⟩ (d3)).setCell ⟨w.heap.size + 2, 4, none⟩ (d4)).setCell ⟨w.heap.size + 2, 5, none⟩ (d5))) [c0, c1, c2, c3, c4, c5] ∧ y.lies false ((((((((((((w5.setCell ⟨w.heap.size + 1, 0, none⟩ (c0)).setCell ⟨w.heap.size + 1, 1, none⟩ (c1)).setCell ⟨w.heap.size + 1, 2, none⟩ (c2)).setCell ⟨w.heap.size + 1, 3, none⟩ (c3)).setCell ⟨w.heap.size + 1, 4, none⟩ (c4)).setCell ⟨w.heap.size + 1, 5, none⟩ (c5)).setCell ⟨w.heap.size + 2, 0, none⟩ (d0)).setCell ⟨w.heap.size + 2, 1, none⟩ (d1)).setCell ⟨w.heap.size + 2, 2, none⟩ (d2)).setCell ⟨w.heap.size + 2, 3, none⟩ (d3)).setCell ⟨w.heap.size + 2, 4, none⟩ (d4)).setCell ⟨w.heap.size + 2, 5, none⟩ (d5)) (OrNew S w ((((((((((((w5.setCell ⟨w.heap.size + 1, 0, none⟩ (c0)).setCell ⟨w.heap.size + 1, 1, none⟩ (c1)).setCell ⟨w.heap.size + 1, 2, none⟩ (c2)).setCell ⟨w.heap.size + 1, 3, none⟩ (c3)).setCell ⟨w.heap.size + 1, 4, none⟩ (c4)).setCell ⟨w.heap.size + 1, 5, none⟩ (c5)).setCell ⟨w.heap.size + 2, 0, none⟩ (d0)).setCell ⟨w.heap.size + 2, 1, none⟩ (d1)).setCell ⟨w.heap.size + 2, 2, none⟩ (d2)).setCell ⟨w.heap.size + 2, 3, none⟩ (d3)).setCell ⟨w.heap.size + 2, 4, none⟩ (d4)).setCell ⟨w.heap.size + 2, 5, none⟩ (d5))) [d0, d1, d2, d3, d4, d5] ∧ Below w.heap.size w ((((((((((((w5.setCell ⟨w.heap.size + 1, 0, none⟩ (c0)).setCell ⟨w.heap.size + 1, 1, none⟩ (c1)).setCell ⟨w.heap.size + 1, 2, none⟩ (c2)).setCell ⟨w.heap.size + 1, 3, none⟩ (c3)).setCell ⟨w.heap.size + 1, 4, none⟩ (c4)).setCell ⟨w.heap.size + 1, 5, none⟩ (c5)).setCell ⟨w.heap.size + 2, 0, none⟩ (d0)).setCell ⟨w.heap.size + 2, 1, none⟩ (d1)).setCell ⟨w.heap.size + 2, 2, none⟩ (d2)).setCell ⟨w.heap.size + 2, 3, none⟩ (d3)).setCell ⟨w.heap.size + 2, 4, none⟩ (d4)).setCell ⟨w.heap.size + 2, 5, none⟩ (d5)) := by
 have hot1 : ∀ z, z ≠ w.heap.size + 1 → ((((((w5.setCell ⟨w.heap.size + 1, 0, none⟩ (c0)).setCell ⟨w.heap.size + 1, 1, none⟩ (c1)).setCell ⟨w.heap.size + 1, 2, none⟩ (c2)).setCell ⟨w.heap.size + 1, 3, none⟩ (c3)).setCell ⟨w.heap.size + 1, 4, none⟩ (c4)).setCell ⟨w.heap.size + 1, 5, none⟩ (c5)).heap[z]? = w5.heap[z]? := fun z hz => by
  repeat (rw [sOt hz])
 have g1 : w5.grownBy ((((((w5.setCell ⟨w.heap.size + 1, 0, none⟩ (c0)).setCell ⟨w.heap.size + 1, 1, none⟩ (c1)).setCell ⟨w.heap.size + 1, 2, none⟩ (c2)).setCell ⟨w.heap.size + 1, 3, none⟩ (c3)).setCell ⟨w.heap.size + 1, 4, none⟩ (c4)).setCell ⟨w.heap.size + 1, 5, none⟩ (c5)) (some (w.heap.size + 1)) := gSt (gSt (gSt (gSt (gSt (gSt (World.grownBy.refl w5 _) 0 c0) 1 c1) 2 c2) 3 c3) 4 c4) 5 c5
 have s1 : ((((((w5.setCell ⟨w.heap.size + 1, 0, none⟩ (c0)).setCell ⟨w.heap.size + 1, 1, none⟩ (c1)).setCell ⟨w.heap.size + 1, 2, none⟩ (c2)).setCell ⟨w.heap.size + 1, 3, none⟩ (c3)).setCell ⟨w.heap.size + 1, 4, none⟩ (c4)).setCell ⟨w.heap.size + 1, 5, none⟩ (c5)).heap.size = w5.heap.size := by simp only [sz1]
 generalize ((((((w5.setCell ⟨w.heap.size + 1, 0, none⟩ (c0)).setCell ⟨w.heap.size + 1, 1, none⟩ (c1)).setCell ⟨w.heap.size + 1, 2, none⟩ (c2)).setCell ⟨w.heap.size + 1, 3, none⟩ (c3)).setCell ⟨w.heap.size + 1, 4, none⟩ (c4)).setCell ⟨w.heap.size + 1, 5, none⟩ (c5)) = w6 at *
 have hot2 : ∀ z, z ≠ w.heap.size + 2 → ((((((w6.setCell ⟨w.heap.size + 2, 0, none⟩ (d0)).setCell ⟨w.heap.size + 2, 1, none⟩ (d1)).setCell ⟨w.heap.size + 2, 2, none⟩ (d2)).setCell ⟨w.heap.size + 2, 3, none⟩ (d3)).setCell ⟨w.heap.size + 2, 4, none⟩ (d4)).setCell ⟨w.heap.size + 2, 5, none⟩ (d5)).heap[z]? = w6.heap[z]? := fun z hz => by
  repeat (rw [sOt hz])
 have g2 : w6.grownBy ((((((w6.setCell ⟨w.heap.size + 2, 0, none⟩ (d0)).setCell ⟨w.heap.size + 2, 1, none⟩ (d1)).setCell ⟨w.heap.size + 2, 2, none⟩ (d2)).setCell ⟨w.heap.size + 2, 3, none⟩ (d3)).setCell ⟨w.heap.size + 2, 4, none⟩ (d4)).setCell ⟨w.heap.size + 2, 5, none⟩ (d5)) (some (w.heap.size + 2)) := gSt (gSt (gSt (gSt (gSt (gSt (World.grownBy.refl w6 _) 0 d0) 1 d1) 2 d2) 3 d3) 4 d4) 5 d5
 have s2 : ((((((w6.setCell ⟨w.heap.size + 2, 0, none⟩ (d0)).setCell ⟨w.heap.size + 2, 1, none⟩ (d1)).setCell ⟨w.heap.size + 2, 2, none⟩ (d2)).setCell ⟨w.heap.size + 2, 3, none⟩ (d3)).setCell ⟨w.heap.size + 2, 4, none⟩ (d4)).setCell ⟨w.heap.size + 2, 5, none⟩ (d5)).heap.size = w6.heap.size := by simp only [sz1]
 generalize ((((((w6.setCell ⟨w.heap.size + 2, 0, none⟩ (d0)).setCell ⟨w.heap.size + 2, 1, none⟩ (d1)).setCell ⟨w.heap.size + 2, 2, none⟩ (d2)).setCell ⟨w.heap.size + 2, 3, none⟩ (d3)).setCell ⟨w.heap.size + 2, 4, none⟩ (d4)).setCell ⟨w.heap.size + 2, 5, none⟩ (d5)) = wf at *
 have key : ∀ z, z ≠ w.heap.size + 1 → z ≠ w.heap.size + 2 → wf.heap[z]? = w5.heap[z]? := fun z h1 h2 => (hot2 z h2).trans (hot1 z h1)
 have kf : ∀ z, (S z ∨ (w.heap.size + 4 ≤ z ∧ z < w5.heap.size)) → wf.heap[z]? = w5.heap[z]? := fun z hz => by
  rcases hz with hz | hz
  ·have := hS z hz; exact key z (by omega) (by omega)
  ·exact key z (by omega) (by omega)
 have kn : ∀ z, (S z ∨ (w.heap.size + 4 ≤ z ∧ z < w5.heap.size)) → OrNew S w wf z := fun z hz => by
  rcases hz with hz | hz
  ·exact .inl hz
  ·exact .inr ⟨by omega, by omega⟩
 have BF : Below w.heap.size w wf := ⟨g2.os.trans (g1.os.trans B5.os), g2.tape.trans (g1.tape.trans B5.tape), g2.output.trans (g1.output.trans B5.output), by have := B5.size; omega, fun q hq => (key q (by omega) (by omega)).trans (B5.block q hq)⟩
 have kf' : ∀ z, (S z ∨ (w.heap.size + 4 ≤ z ∧ z < w5.heap.size)) → wf.heap[z]? = w5.heap[z]? := kf
 have kn' : ∀ z, (S z ∨ (w.heap.size + 4 ≤ z ∧ z < w5.heap.size)) → OrNew S w wf z := kn
 exact ⟨V.lies_keep (fun h => h) kf' kn' _ hx, V.lies_keep (fun h => h) kf' kn' _ hy, BF⟩
set_option maxHeartbeats 8000000 in
set_option maxRecDepth 100000 in
theorem rtake_any (v : V) (p : ByteArray) (S : Nat → Prop) (cs : List Value) (w : World) (hv : v.lies false w S cs) (hS : ∀ b, S b → b < w.heap.size) (hwt : v.wt ≤ 1099511627776) (hp : p.size ≤ 1100000) :
 Calls Tryz.prog 12 #[.agg cs.toArray, .string p] w (DnPost (takR v p) S w) := by
 have HV : Hid (∀ W, Below w.heap.size w W → v.lies false W S cs) := fun W hb => lBw hv hS hb
 obtain ⟨k, b, i, s, al, nl, cl, am, nm, cm, rfl⟩ := V.ten hv
 have b2 : Below w.heap.size w ((w.alloc (oV k b i s al nl cl am nm cm)).alloc oN) := tBw w _ _
 have hz2 : ((w.alloc (oV k b i s al nl cl am nm cm)).alloc oN).heap.size = w.heap.size + 2 := by rw [aSz, aSz]
 have hz2 := hz2; dsimp only [oV, oN] at hz2
 have b4 : Below ((w.alloc (oV k b i s al nl cl am nm cm)).alloc oN).heap.size ((w.alloc (oV k b i s al nl cl am nm cm)).alloc oN) ((((w.alloc (oV k b i s al nl cl am nm cm)).alloc oN).alloc oN).alloc oN) := tBw _ _ _
 have hz4 : ((((w.alloc (oV k b i s al nl cl am nm cm)).alloc oN).alloc oN).alloc oN).heap.size = w.heap.size + 4 := by rw [aSz, aSz, hz2]
 have hz4 := hz4; dsimp only [oV, oN] at hz4
 have B4 : Below w.heap.size w ((((w.alloc (oV k b i s al nl cl am nm cm)).alloc oN).alloc oN).alloc oN) := b2.trans (b4.mono (by omega))
 have h0 := (b4.block w.heap.size (by omega)).trans (a2k w (oV k b i s al nl cl am nm cm) oN)
 have h1 := (b4.block (w.heap.size + 1) (by omega)).trans (a2n w (oV k b i s al nl cl am nm cm) oN)
 have h2 := a2k ((w.alloc (oV k b i s al nl cl am nm cm)).alloc oN) oN oN
 rw [hz2] at h2
 have h3 := a2n ((w.alloc (oV k b i s al nl cl am nm cm)).alloc oN) oN oN
 rw [hz2] at h3
 obtain ⟨r0, r1, r2, r3, r4, r5⟩ := sixC h0
 have HAk := hmk (asked_any v p S _ ((((w.alloc (oV k b i s al nl cl am nm cm)).alloc oN).alloc oN).alloc oN) (HV.out _ B4) (fun y hy => Nat.lt_of_lt_of_le (hS y hy) B4.size) hwt hp)
 clear hv b2 b4 hz2
 go_enter Tryz.func12, Tryz.ntmps12
 go_wp2_with fail
 clear r0 r1 r2 r3 r4 r5
 generalize ((((w.alloc (oV k b i s al nl cl am nm cm)).alloc oN).alloc oN).alloc oN) = w4 at *
 refine HAk.out.mono ?_
 rintro e w1 ⟨B, tv, l, hB, rfl, hd, ho, b1⟩
 have hz1 := b1.size
 have B1 := B4.trans (b1.mono (by omega))
 have m0 := (b1.block w.heap.size (by omega)).trans h0
 have m1 := (b1.block (w.heap.size + 1) (by omega)).trans h1
 have m2 := (b1.block (w.heap.size + 2) (by omega)).trans h2
 have m3 := (b1.block (w.heap.size + 3) (by omega)).trans h3
 obtain ⟨nu0, nu1, nu2, nu3, nu4, nu5⟩ := sixC m3
 have n12 : ¬ w.heap.size + 1 = w.heap.size + 2 := by omega
 have n21 : ¬ w.heap.size + 2 = w.heap.size + 1 := by omega
 by_cases hrd : rdF v p = 0
 ·obtain ⟨hce, o, hoo⟩ := rd_zero hrd
  have hG : allG v := rd_allG hrd
  have hdo : dat l = o := by have := hd hrd; rw [hoo] at this; exact this
  have htl : l = toksOf p := by rw [toksOf, hoo]; exact toks_of hdo
  have hbd := tok_len hoo hdo
  have hvw : v.wt ≤ 1114112 := wt_of_chk (by rw [← chkE40]; exact hce)
  have hTok := TokAt.of_lies ho.lies
  have htz : ∀ t ∈ l, t.size ≤ 281474976710656 := fun t ht => by have := hbd.2 t ht; omega
  have HPR : Hid (takR v p = doneF 3 nullV v l) := by show _ = _; rw [takR, if_pos hrd, ← htl]
  have HD := hmk (done_any 3 nullV S _ l v _ tv w1 (HV.out w1 B1) (null_liesS w1 S) (fun y hy => Nat.lt_of_lt_of_le (hS y hy) B1.size) hvw hG hTok htz)
  rw [hrd]
  generalize doneF 3 nullV v l = R at *
  obtain ⟨Ry, Rk, Re⟩ := R
  obtain ⟨ta, tn_, tc_, rfl⟩ : ∃ a n c, tv = .slice a n c := by
   rcases hTok with h | h
   ·obtain ⟨a, c, h⟩ := h.2; exact ⟨_, _, _, h⟩
   ·obtain ⟨g, o, c, h, _⟩ := h.2; exact ⟨_, _, _, h⟩
  clear hd htl ho hdo hoo hce hbd HAk hp hTok
  obtain ⟨r0, r1, r2, r3, r4, r5⟩ := sixC m0
  go_wp2_with fail
  clear r0 r1 r2 r3 r4 r5
  refine HD.out.mono ?_
  rintro e w3 ⟨cs1, cs2, rfl, hl1, hl2, b3⟩
  obtain ⟨gk, gb, gi, gs, gal, gnl, gcl, gam, gnm, gcm, rfl⟩ := V.ten hl1
  obtain ⟨fk, fb, fi, fs, fal, fnl, fcl, fam, fnm, fcm, rfl⟩ := V.ten hl2
  have hz3 := b3.size
  have k1 := (b3.block (w.heap.size + 1) (by omega)).trans m1
  have k2 := (b3.block (w.heap.size + 2) (by omega)).trans m2
  obtain ⟨z0, z1, z2, z3, z4, z5⟩ := sixC k1
  obtain ⟨y0, y1, y2, y3, y4, y5⟩ := sixC k2
  have fz := fBk k1
  have fy := fBk k2
  have HG1 : Hid (Ry.lies false w3 (fun y => S y ∨ (w.heap.size + 4 ≤ y ∧ y < w3.heap.size)) [.int .i64 gk, .bool gb, .int .i64 gi, .string gs, .slice gal gnl gcl, .slice gam gnm gcm]) := V.lies_keep (fun h => h) (fun _ _ => rfl) (fun y hy => hy.elim .inl (fun hy => .inr ⟨by have := hy.1; omega, hy.2⟩)) _ hl1
  have HG2 : Hid (Rk.lies false w3 (fun y => S y ∨ (w.heap.size + 4 ≤ y ∧ y < w3.heap.size)) [.int .i64 fk, .bool fb, .int .i64 fi, .string fs, .slice fal fnl fcl, .slice fam fnm fcm]) := V.lies_keep (fun h => h) (fun _ _ => rfl) (fun y hy => hy.elim .inl (fun hy => .inr ⟨by have := hy.1; omega, hy.2⟩)) _ hl2
  have HF := hmk (tq_fin0 hS (B1.trans (b3.mono (by omega))) (by omega) HG1.out HG2.out)
  clear hl1 hl2 HG1 HG2 HD
  go_wp2_with fail
  (try simp only [Exit.inBlock, Exit.then])
  refine bodyPost_ret (v := .tuple #[.agg #[.int .i64 gk, .bool gb, .int .i64 gi, .string gs, .slice gal gnl gcl, .slice gam gnm gcm], .agg #[.int .i64 fk, .bool fb, .int .i64 fi, .string fs, .slice fal fnl fcl, .slice fam fnm fcm], .int .i64 Re]) ?_ rfl ?_
  rotate_left
  ·rw [HPR.out]
   exact ⟨[.int .i64 gk, .bool gb, .int .i64 gi, .string gs, .slice gal gnl gcl, .slice gam gnm gcm], [.int .i64 fk, .bool fb, .int .i64 fi, .string fs, .slice fal fnl fcl, .slice fam fnm fcm], rfl, HF.out.1, HF.out.2.1, HF.out.2.2⟩
  ·rw [results_cell2_tmp rfl]
   go_simp
 ·have HP2 : Hid (takR v p = (nullV, nullV, rdF v p)) := by show _ = _; rw [takR, if_neg hrd]
  clear HAk hd ho
  generalize rdF v p = rd at *
  have hb0 : (rd != 0) = true := by simpa using hrd
  obtain ⟨z0, z1, z2, z3, z4, z5⟩ := sixC m1
  obtain ⟨y0, y1, y2, y3, y4, y5⟩ := sixC m2
  have fz := fBk m1
  have fy := fBk m2
  have HF := hmk (tq_fin (S := S) (x := nullV) (y := nullV) hS B1 (by omega) (null_liesS _ _) (null_liesS _ _))
  go_wp2_with fail
  go_region
  go_wp2_with fail
  (try simp only [Exit.inBlock, Exit.then])
  refine bodyPost_ret (v := .tuple #[.agg #[.int .i64 0, .bool false, .int .i64 0, .string ⟨#[]⟩, .slice none 0 0, .slice none 0 0], .agg #[.int .i64 0, .bool false, .int .i64 0, .string ⟨#[]⟩, .slice none 0 0, .slice none 0 0], .int .i64 rd]) ?_ rfl ?_
  rotate_left
  ·rw [HP2.out]
   exact ⟨[.int .i64 0, .bool false, .int .i64 0, .string ⟨#[]⟩, .slice none 0 0, .slice none 0 0], [.int .i64 0, .bool false, .int .i64 0, .string ⟨#[]⟩, .slice none 0 0, .slice none 0 0], rfl, HF.out.1, HF.out.2.1, HF.out.2.2⟩
  ·rw [results_cell2_tmp rfl]
   go_simp
set_option maxHeartbeats 8000000 in
set_option maxRecDepth 100000 in
theorem cvals_any (l : List V) (B n : Nat) (S : Nat → Prop) (al : Option Addr) (cl bl ol : Nat) (w : World) (hal : Headed al l.length cl bl ol) (hl : liesL false w S l bl ol) (hS : ∀ b, S b → b ≠ B ∧ b < w.heap.size) (hc : Cnt B n w) (hn : n ≤ 2147483647) :
 Calls Tryz.prog 13 #[.pointer (some ⟨B, 0, none⟩), .slice al l.length cl] w (CntPost B n (wtL l) w) := by
 have HL := hmk hl
 have hll : l.length ≤ 9223372036854775807 := Nat.le_trans hal.le hal.max
 have hkeep : ∀ wr : World, w.grownBy wr (some B) → ∀ b, S b → wr.heap[b]? = w.heap[b]? := fun wr g b hb => g.block b (hS b hb).2 (fun e => (hS b hb).1 (Option.some.inj e))
 have e5 : ((65520 : Nat) : Int) = 65520 := rfl
 clear hl
 go_enter Tryz.func13, Tryz.ntmps13
 go_wp2_with fail
 go_loopw [5] (fun e wr => ∃ j : Nat, j ≤ l.length ∧ e = .int .i64 (j : Int) ∧ n + wtL (l.take j) ≤ 2147483647 ∧ Cnt B (n + wtL (l.take j)) wr ∧ w.grownBy wr (some B)) (fun e _ => l.length - (RowKit.intOf e).toNat)
 case atStart => exact ⟨0, by omega, rfl, by simpa [wtL] using hn, by simpa [wtL] using hc, World.grownBy.refl _ _⟩
 case round =>
  obtain ⟨j, hj, rfl, hnj, hcj, gj⟩ := hrel
  by_cases hjl : j < l.length
  ·have y1 : (j : Int) < l.length := by omega
   obtain ⟨hSb, csj, hrow, hlj⟩ := liesL_get HL.out j hjl
   obtain rfl : al = some ⟨bl, ol, none⟩ := hal.at_.resolve_left (by omega)
   have hlr : (l[j]).lies false wr S csj := V.lies_keep (fun h => h) (fun b hb => hkeep wr gj b hb) (fun _ h => h) _ hlj
   have CV := hmk (cval_any l[j] B (n + wtL (l.take j)) 65520 S csj wr hlr (fun b hb => ⟨(hS b hb).1, Nat.lt_of_lt_of_le (hS b hb).2 gj.size⟩) hcj hnj (by omega))
   rw [e5] at CV
   have HW : Hid (n + wtL (l.take (j + 1)) = n + wtL (l.take j) + (l[j]).wt) := by show _ = _; rw [take_succ_wtL hjl]; omega
   obtain ⟨ek, eb, ei, es, eal, enl, ecl, eam, enm, ecm, rfl⟩ := V.ten hlj
   obtain ⟨q0, q1, q2, q3, q4, q5⟩ := row6 (hrow.keep (hkeep wr gj bl hSb))
   clear hlj hlr hrow e5
   go_wp2_with fail
   refine CV.out.mono ?_
   rintro e w1 ⟨r, rfl, g1, h1⟩
   cases r
   ·obtain ⟨hn1, hc1⟩ := h1 rfl
    go_wp2_with fail
    go_roundw
    case rel => exact ⟨j + 1, by omega, by go_num, by rw [HW.out]; exact hn1, by rw [HW.out]; exact hc1, gTr gj g1⟩
    case measure => simp [RowKit.intOf]; omega
   ·go_wp2_with fail
    go_ret
    exact ⟨true, rfl, gTr gj g1, fun h => by cases h⟩
  ·obtain rfl : j = l.length := by omega
   have y1 : ¬ (l.length : Int) < l.length := by omega
   rw [List.take_length] at hnj hcj
   go_wp2_with fail
   go_ret
   exact ⟨false, rfl, gj, fun _ => ⟨hnj, hcj⟩⟩
set_option maxHeartbeats 8000000 in
set_option maxRecDepth 100000 in
theorem values_any (l : List V) (S : Nat → Prop) (al : Option Addr) (cl bl ol : Nat) (w : World) (hal : Headed al l.length cl bl ol) (hl : liesL false w S l bl ol) (hS : ∀ b, S b → b < w.heap.size) :
 Calls Tryz.prog 4 #[.slice al l.length cl] w (fun e w' => ∃ r, e = .returned (.bool r) ∧ (r = false → wtL l ≤ 2147483647) ∧ Below w.heap.size w w') := by
 have ga : w.grownBy (w.alloc (.cells #[.int .i64 0] 37)) none := World.grownBy_alloc _ _ _
 have hn := heap_alloc_new w (.cells #[.int .i64 0] 37)
 have hC : Cnt w.heap.size 0 (w.alloc (.cells #[.int .i64 0] 37)) := ⟨by rw [cBk hn]; rfl, fBk hn 0⟩
 have c := hmk (cvals_any l w.heap.size 0 S al cl bl ol (w.alloc (.cells #[.int .i64 0] 37)) hal (lLk (fun h => h) (fun x hx => ga.block x (hS x hx) (by simp)) (fun _ h => h) _ hl) (fun x hx => ⟨by have := hS x hx; omega, Nat.lt_of_lt_of_le (hS x hx) ga.size⟩) hC (by omega))
 clear hl hn hC
 go_enter Tryz.func4, Tryz.ntmps4
 go_wp2_with fail
 refine c.out.mono ?_
 rintro e w1 ⟨r, rfl, g1, h1⟩
 go_wp2_with fail
 go_ret
 exact ⟨r, rfl, fun h => by have := (h1 h).1; omega, (below_of_grown ga).grown g1 ga.size (fun q e => by cases e; omega)⟩
end Go.Proofs.YtnakligbogkmbaaGreatDoor
