/- joined: GapA AddE -/
import Derived.Test.YtgnofbigggmilaaGreatDoorRmvA
set_option linter.unusedSimpArgs false
set_option linter.unusedVariables false
namespace Go.Proofs.YtgnofbigggmilaaGreatDoor
open Go.RowKit Go.Lib
set_option maxHeartbeats 8000000 in
set_option maxRecDepth 100000 in
theorem gap_any (t : ByteArray) (n : Nat) (w : World) (ht : t.size ≤ 281474976710656) (hn : n ≤ 4000000) (tg : Tg w) : Calls Tryz.prog 66 #[.string t, .int .i64 (n : Int)] w (IxPost (gapF t n) w) := by
 have CI := hmk (index_any t (n + 1) w ht (by omega) tg)
 have e1 : ((n + 1 : Nat) : Int) = (n : Int) + 1 := by omega
 rw [e1] at CI
 have HG : Hid (gapF t n = if t.data.toList = [45] then some n else idxF t.data.toList (n + 1)) := rfl
 generalize gapF t n = O at *
 generalize idxF t.data.toList (n + 1) = I at *
 by_cases h : t.data.toList = [45]
 ·have y1 : (t.toList == [45]) = true := by rw [beq_iff_eq, ByteArray.toList_eq]; exact h
  have y2 : t.toList = [45] := by simpa using y1
  have HO : Hid (O = some n) := by show _ = _; rw [HG.out, if_pos h]
  have y3 : (⟨#[45]⟩ : ByteArray).toList = [45] := by rw [ByteArray.toList_eq]
  go_enter Tryz.func66, Tryz.ntmps66
  go_wp2_with fail
  go_ret2
  exact ⟨by rw [HO.out]; rfl, Below.refl _ _⟩
 ·have y1 : (t.toList == [45]) = false := by rw [beq_eq_false_iff_ne, ByteArray.toList_eq]; exact h
  have y2 : ¬ t.toList = [45] := by simpa using y1
  have HO : Hid (O = I) := by show _ = _; rw [HG.out, if_neg h]
  have y3 : (⟨#[45]⟩ : ByteArray).toList = [45] := by rw [ByteArray.toList_eq]
  go_enter Tryz.func66, Tryz.ntmps66
  go_wp2_with fail
  refine CI.out.mono ?_
  rintro e w1 ⟨rfl, b1⟩
  go_wp2_with fail
  go_ret2
  exact ⟨by rw [HO.out]; rfl, b1⟩
def AdPost (r : V × Int) (S : Nat → Prop) (w : World) (e : Ending) (w' : World) : Prop := ∃ cs : List Value, e = .returned (.tuple #[.agg cs.toArray, .int .i64 r.2]) ∧ r.1.lies false w' (OrNew S w w') cs ∧ Below w.heap.size w w'
theorem ad_end {S : Nat → Prop} {w w3 : World} {B : Nat} {x : V} {c0 c1 c2 c3 c4 c5 : Value} (hS : ∀ b, S b → b < w.heap.size) (B3 : Below w.heap.size w w3) (hB : w.heap.size + 3 ≤ B) (hz : w.heap.size + 3 ≤ w3.heap.size) (hx : x.lies false w3 (fun y => S y ∨ (B ≤ y ∧ y < w3.heap.size)) [c0, c1, c2, c3, c4, c5]) (fld : Nat) (nv : Value) :
 x.lies false (((((((w3.setCell ⟨w.heap.size, fld, none⟩ nv).setCell ⟨w.heap.size + 2, 0, none⟩ (c0)).setCell ⟨w.heap.size + 2, 1, none⟩ (c1)).setCell ⟨w.heap.size + 2, 2, none⟩ (c2)).setCell ⟨w.heap.size + 2, 3, none⟩ (c3)).setCell ⟨w.heap.size + 2, 4, none⟩ (c4)).setCell ⟨w.heap.size + 2, 5, none⟩ (c5)) (OrNew S w (((((((w3.setCell ⟨w.heap.size, fld, none⟩ nv).setCell ⟨w.heap.size + 2, 0, none⟩ (c0)).setCell ⟨w.heap.size + 2, 1, none⟩ (c1)).setCell ⟨w.heap.size + 2, 2, none⟩ (c2)).setCell ⟨w.heap.size + 2, 3, none⟩ (c3)).setCell ⟨w.heap.size + 2, 4, none⟩ (c4)).setCell ⟨w.heap.size + 2, 5, none⟩ (c5))) [c0, c1, c2, c3, c4, c5] ∧ Below w.heap.size w (((((((w3.setCell ⟨w.heap.size, fld, none⟩ nv).setCell ⟨w.heap.size + 2, 0, none⟩ (c0)).setCell ⟨w.heap.size + 2, 1, none⟩ (c1)).setCell ⟨w.heap.size + 2, 2, none⟩ (c2)).setCell ⟨w.heap.size + 2, 3, none⟩ (c3)).setCell ⟨w.heap.size + 2, 4, none⟩ (c4)).setCell ⟨w.heap.size + 2, 5, none⟩ (c5)) := by
 have hot1 : ∀ y, y ≠ w.heap.size → (w3.setCell ⟨w.heap.size, fld, none⟩ nv).heap[y]? = w3.heap[y]? := fun y hy => by rw [set_other hy]
 have g1 : w3.grownBy (w3.setCell ⟨w.heap.size, fld, none⟩ nv) (some w.heap.size) := grown_set (World.grownBy.refl w3 _) fld nv
 have s1 : (w3.setCell ⟨w.heap.size, fld, none⟩ nv).heap.size = w3.heap.size := by simp only [size_set1]
 generalize (w3.setCell ⟨w.heap.size, fld, none⟩ nv) = w3s at *
 have hot : ∀ y, y ≠ w.heap.size + 2 → ((((((w3s.setCell ⟨w.heap.size + 2, 0, none⟩ (c0)).setCell ⟨w.heap.size + 2, 1, none⟩ (c1)).setCell ⟨w.heap.size + 2, 2, none⟩ (c2)).setCell ⟨w.heap.size + 2, 3, none⟩ (c3)).setCell ⟨w.heap.size + 2, 4, none⟩ (c4)).setCell ⟨w.heap.size + 2, 5, none⟩ (c5)).heap[y]? = w3s.heap[y]? := fun y hy => by
  repeat (rw [set_other hy])
 have g2 : w3s.grownBy ((((((w3s.setCell ⟨w.heap.size + 2, 0, none⟩ (c0)).setCell ⟨w.heap.size + 2, 1, none⟩ (c1)).setCell ⟨w.heap.size + 2, 2, none⟩ (c2)).setCell ⟨w.heap.size + 2, 3, none⟩ (c3)).setCell ⟨w.heap.size + 2, 4, none⟩ (c4)).setCell ⟨w.heap.size + 2, 5, none⟩ (c5)) (some (w.heap.size + 2)) := grown_set (grown_set (grown_set (grown_set (grown_set (grown_set (World.grownBy.refl w3s _) 0 c0) 1 c1) 2 c2) 3 c3) 4 c4) 5 c5
 have s2 : ((((((w3s.setCell ⟨w.heap.size + 2, 0, none⟩ (c0)).setCell ⟨w.heap.size + 2, 1, none⟩ (c1)).setCell ⟨w.heap.size + 2, 2, none⟩ (c2)).setCell ⟨w.heap.size + 2, 3, none⟩ (c3)).setCell ⟨w.heap.size + 2, 4, none⟩ (c4)).setCell ⟨w.heap.size + 2, 5, none⟩ (c5)).heap.size = w3s.heap.size := by simp only [size_set1]
 generalize ((((((w3s.setCell ⟨w.heap.size + 2, 0, none⟩ (c0)).setCell ⟨w.heap.size + 2, 1, none⟩ (c1)).setCell ⟨w.heap.size + 2, 2, none⟩ (c2)).setCell ⟨w.heap.size + 2, 3, none⟩ (c3)).setCell ⟨w.heap.size + 2, 4, none⟩ (c4)).setCell ⟨w.heap.size + 2, 5, none⟩ (c5)) = wf at *
 have key : ∀ y, y ≠ w.heap.size → y ≠ w.heap.size + 2 → wf.heap[y]? = w3.heap[y]? := fun y h1 h2 => (hot y h2).trans (hot1 y h1)
 refine ⟨V.lies_keep (fun h => h) (fun y hy => ?_) (fun y hy => ?_) _ hx, ⟨g2.os.trans (g1.os.trans B3.os), g2.tape.trans (g1.tape.trans B3.tape), g2.output.trans (g1.output.trans B3.output), by have := B3.size; omega, fun q hq => (key q (by omega) (by omega)).trans (B3.block q hq)⟩⟩
 ·rcases hy with hy | hy
  ·have := hS y hy; exact key y (by omega) (by omega)
  ·exact key y (by omega) (by omega)
 ·rcases hy with hy | hy
  ·exact .inl hy
  ·exact .inr ⟨by omega, by omega⟩
theorem gap_le {t : ByteArray} {n p : Nat} (h : gapF t n = some p) : p ≤ n := by
 rw [gapF] at h
 split at h
 ·injection h with h; omega
 ·have := idxF_lt h; omega
end Go.Proofs.YtgnofbigggmilaaGreatDoor
