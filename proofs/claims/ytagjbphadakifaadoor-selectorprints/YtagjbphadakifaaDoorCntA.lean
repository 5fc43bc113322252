/- freeholdref00: counting a value. -/
import Derived.Test.YtagjbphadakifaaDoorOpn
import Derived.WalkKit
import Derived.RowKit
import Derived.OwnWalk
set_option linter.unusedSimpArgs false
set_option linter.unusedVariables false
namespace Go.Proofs.YtagjbphadakifaaDoor
open Go.RowKit
theorem grown_trans {a b c : World} {row : Option Nat} (h : a.grownBy b row) (k : b.grownBy c row) : a.grownBy c row :=
  ⟨k.os.trans h.os, k.tape.trans h.tape, k.output.trans h.output, Nat.le_trans h.size k.size, fun i hi hr => (k.block i (Nat.lt_of_lt_of_le hi h.size) hr).trans (h.block i hi hr)⟩
theorem grown_alloc {a b : World} {row : Option Nat} (h : a.grownBy b row) (o : Obj) : a.grownBy (b.alloc o) row := grown_trans h (World.grownBy_alloc _ _ _)
theorem grown_set {a b : World} {B : Nat} (h : a.grownBy b (some B)) (i : Nat) (u : Value) : a.grownBy (b.setCell ⟨B, i, none⟩ u) (some B) :=
  ⟨h.os, h.tape, h.output, by simpa [World.setCell] using (by have := h.size; exact this : a.heap.size ≤ b.heap.size), fun k hk hr => (Below.heap_setCell b ⟨B, i, none⟩ u k (fun e => hr (by rw [e]))).trans (h.block k hk hr)⟩
structure Cnt (B n : Nat) (w : World) : Prop where
  c : w.cell? ⟨B, 0, none⟩ = some (.int .i64 (n : Int))
  f : w.frozen? ⟨B, 0, none⟩ = false
theorem Cnt.lt {B n : Nat} {w : World} (h : Cnt B n w) : B < w.heap.size := World.block_lt_of_cell? w _ h.c
theorem Cnt.keep {B n : Nat} {w w' : World} (h : Cnt B n w) (hb : w'.heap[B]? = w.heap[B]?) : Cnt B n w' :=
  ⟨(World.cell?_of_block (w := w) (a := ⟨B, 0, none⟩) hb).trans h.c, (World.frozen?_of_block (w := w) (a := ⟨B, 0, none⟩) hb).trans h.f⟩
/-- the count went on by x, or it was too much -/
def CntPost (B n x : Nat) (w : World) (e : Ending) (w' : World) : Prop := ∃ r, e = .returned (.bool r) ∧ w.grownBy w' (some B) ∧ (r = false → n + x ≤ 2147483647 ∧ Cnt B (n + x) w')
set_option maxHeartbeats 2000000 in
set_option maxRecDepth 100000 in
theorem many_any (B n x : Nat) (w : World) (h : Cnt B n w) (hn : n ≤ 2147483647) (hx : x ≤ maxLen) :
    Calls Tryd.prog 21 #[.pointer (some ⟨B, 0, none⟩), .int .i64 (x : Int)] w (CntPost B n x w) := by
  have c0 := h.c
  have f0 := h.f
  have hx' : x ≤ 9223372036854775807 := hx
  by_cases hb : 2147483647 < x
  · have y1 : (2147483647 : Int) < x := by omega
    go_enter Tryd.func21, Tryd.ntmps21
    go_wp2
    go_ret
    exact ⟨true, rfl, World.grownBy.refl _ _, fun h => by cases h⟩
  · have y1 : ¬ (2147483647 : Int) < x := by omega
    go_enter Tryd.func21, Tryd.ntmps21
    go_wp2
    go_ret
    refine ⟨_, rfl, grown_set (World.grownBy.refl _ _) 0 _, fun h => ?_⟩
    have h2 : n + x ≤ 2147483647 := by
      have := of_decide_eq_false h
      omega
    refine ⟨h2, ?_, ?_⟩
    · rw [World.cell?_setCell_same _ _ _ c0]; rfl
    · rw [World.frozen?_setCell]; exact f0
theorem take_succ_wtL {l : List V} {j : Nat} (h : j < l.length) : wtL (l.take (j + 1)) = wtL (l.take j) + (l[j]).wt := by
  rw [List.take_succ_eq_append_getElem h, wtL_app]; simp [wtL]
theorem take_succ_wtM {l : List Mem} {j : Nat} (h : j < l.length) : wtM (l.take (j + 1)) = wtM (l.take j) + ((l[j]).1.size + (l[j]).2.wt) := by
  rw [List.take_succ_eq_append_getElem h, wtM_app]; simp [wtM]
theorem box_row (w : World) (cs : List Value) (t : TypeId) : rowAt (w.alloc (.cells cs.toArray t)) w.heap.size 0 cs := by
  intro j u hu
  have := heap_alloc_new w (.cells cs.toArray t)
  unfold World.cell?
  rw [this]
  simp [hu]
theorem box_lt (w : World) (o : Obj) : w.heap.size < (w.alloc o).heap.size := by
  have := (Array.getElem?_eq_some_iff.1 (heap_alloc_new w o)).1
  exact this
/-- the six cells of a value, one by one -/
theorem V.six {R : Bool} {w : World} {S : Nat → Prop} {v : V} {cs : List Value} (h : v.lies R w S cs) : ∃ k b i s sl sm, cs = [.int .i64 k, .bool b, .int .i64 i, .string s, sl, sm] := by
  cases v
  rw [V.lies] at h
  obtain ⟨al, cl, bl, ol, am, cm, bm, om, e, _⟩ := h
  exact ⟨_, _, _, _, _, _, e⟩
theorem row6 {w : World} {b o : Nat} {c0 c1 c2 c3 c4 c5 : Value} (h : rowAt w b o [c0, c1, c2, c3, c4, c5]) :
    w.cell? ⟨b, o, none⟩ = some c0 ∧ w.cell? ⟨b, o + 1, none⟩ = some c1 ∧ w.cell? ⟨b, o + 2, none⟩ = some c2 ∧ w.cell? ⟨b, o + 3, none⟩ = some c3 ∧ w.cell? ⟨b, o + 4, none⟩ = some c4 ∧ w.cell? ⟨b, o + 5, none⟩ = some c5 :=
  ⟨h 0 _ rfl, h 1 _ rfl, h 2 _ rfl, h 3 _ rfl, h 4 _ rfl, h 5 _ rfl⟩
theorem row7 {w : World} {b o : Nat} {c c0 c1 c2 c3 c4 c5 : Value} (h : rowAt w b o [c, c0, c1, c2, c3, c4, c5]) :
    w.cell? ⟨b, o, none⟩ = some c ∧ w.cell? ⟨b, o + 1, none⟩ = some c0 ∧ w.cell? ⟨b, o + 2, none⟩ = some c1 ∧ w.cell? ⟨b, o + 3, none⟩ = some c2 ∧ w.cell? ⟨b, o + 4, none⟩ = some c3 ∧ w.cell? ⟨b, o + 5, none⟩ = some c4 ∧ w.cell? ⟨b, o + 6, none⟩ = some c5 :=
  ⟨h 0 _ rfl, h 1 _ rfl, h 2 _ rfl, h 3 _ rfl, h 4 _ rfl, h 5 _ rfl, h 6 _ rfl⟩
theorem row6z {w : World} {b : Nat} {c0 c1 c2 c3 c4 c5 : Value} (h : rowAt w b 0 [c0, c1, c2, c3, c4, c5]) :
    w.cell? ⟨b, 0, none⟩ = some c0 ∧ w.cell? ⟨b, 1, none⟩ = some c1 ∧ w.cell? ⟨b, 2, none⟩ = some c2 ∧ w.cell? ⟨b, 3, none⟩ = some c3 ∧ w.cell? ⟨b, 4, none⟩ = some c4 ∧ w.cell? ⟨b, 5, none⟩ = some c5 := by
  have := row6 h
  simpa using this
end Go.Proofs.YtagjbphadakifaaDoor
