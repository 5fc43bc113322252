import Derived.Test.YtagjbphadakifaaDoorOpn
import Derived.WalkKit
import Derived.RowKit
import Derived.OwnWalk
/- freeholdref00: counting a value. -/
set_option linter.unusedSimpArgs false
set_option linter.unusedVariables false
namespace Go.Proofs.YtagjbphadakifaaDoor
open Go.RowKit
theorem grown_trans {a b c : World} {row : Option Nat} (h : a.grownBy b row) (k : b.grownBy c row) : a.grownBy c row :=
  ⟨k.os.trans h.os, k.tape.trans h.tape, k.output.trans h.output, Nat.le_trans h.size k.size, fun i hi hr => (k.block i (Nat.lt_of_lt_of_le hi h.size) hr).trans (h.block i hi hr)⟩
theorem grown_alloc {a b : World} {row : Option Nat} (h : a.grownBy b row) (o : Obj) : a.grownBy (b.alloc o) row := grown_trans h (World.grownBy_alloc _ _ _)
theorem grown_set {a b : World} {B : Nat} (h : a.grownBy b (some B)) (i : Nat) (u : Value) : a.grownBy (b.setCell ⟨B, i, none⟩ u) (some B) :=
  ⟨h.os, h.tape, h.output, by simpa [World.setCell] using (by have := h.size; exact this : a.heap.size ≤ b.heap.size), fun k hk hr => (Below.heap_setCell b ⟨B, i, none⟩ u k (fun e => hr (by rw [e]))).trans (h.block k hk hr)⟩
structure Cnt (B n : Nat) (w : World) : Prop where
  c : w.cell? ⟨B, 0, none⟩ = some (.int .i64 (n : Int))
  f : w.frozen? ⟨B, 0, none⟩ = false
theorem Cnt.lt {B n : Nat} {w : World} (h : Cnt B n w) : B < w.heap.size := World.block_lt_of_cell? w _ h.c
theorem Cnt.keep {B n : Nat} {w w' : World} (h : Cnt B n w) (hb : w'.heap[B]? = w.heap[B]?) : Cnt B n w' :=
  ⟨(World.cell?_of_block (w := w) (a := ⟨B, 0, none⟩) hb).trans h.c, (World.frozen?_of_block (w := w) (a := ⟨B, 0, none⟩) hb).trans h.f⟩
/-- the count went on by x, or it was too much -/
def CntPost (B n x : Nat) (w : World) (e : Ending) (w' : World) : Prop := ∃ r, e = .returned (.bool r) ∧ w.grownBy w' (some B) ∧ (r = false → n + x ≤ 2147483647 ∧ Cnt B (n + x) w')
set_option maxHeartbeats 2000000 in
set_option maxRecDepth 100000 in
theorem many_any (B n x : Nat) (w : World) (h : Cnt B n w) (hn : n ≤ 2147483647) (hx : x ≤ maxLen) :
    Calls Tryd.prog 21 #[.pointer (some ⟨B, 0, none⟩), .int .i64 (x : Int)] w (CntPost B n x w) := by
  have c0 := h.c
  have f0 := h.f
  have hx' : x ≤ 9223372036854775807 := hx
  by_cases hb : 2147483647 < x
  · have y1 : (2147483647 : Int) < x := by omega
    go_enter Tryd.func21, Tryd.ntmps21
    go_wp2
    go_ret
    exact ⟨true, rfl, World.grownBy.refl _ _, fun h => by cases h⟩
  · have y1 : ¬ (2147483647 : Int) < x := by omega
    go_enter Tryd.func21, Tryd.ntmps21
    go_wp2
    go_ret
    refine ⟨_, rfl, grown_set (World.grownBy.refl _ _) 0 _, fun h => ?_⟩
    have h2 : n + x ≤ 2147483647 := by
      have := of_decide_eq_false h
      omega
    refine ⟨h2, ?_, ?_⟩
    · rw [World.cell?_setCell_same _ _ _ c0]; rfl
    · rw [World.frozen?_setCell]; exact f0
end Go.Proofs.YtagjbphadakifaaDoor
