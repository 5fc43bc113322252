/- joined: Opn CntA -/
import Derived.Test.YtpmhdcmmlkjjmaaGreatDoorG8
import Derived.ChangeArms
import Derived.KernelRfl
import Derived.RowKit
import Derived.OwnWalk
/- Arguments that are values, opened. -/
set_option linter.unusedSimpArgs false
set_option linter.unusedVariables false
namespace Go.Proofs.YtpmhdcmmlkjjmaaGreatDoor
open Go.ChangeShapes Go.WideShapes Go.Deep
section
variable {H : Type} {enc : TypeId × Value → H} {w : World} {spare : Nat → Bool} {held : Bool}
def Old (w : World) (b : Nat) : Prop := b < w.heap.size
theorem row_of_cells {a : Addr} {n : Nat} {cs : List Value} (h : w.cells? 0 a n = some cs) (hn : 0 < n) : ∃ b o, a = ⟨b, o, none⟩ ∧ b < w.heap.size ∧ rowAt w b o cs := by
  obtain ⟨_, hlen, hc⟩ := World.cells?_some h
  obtain ⟨b, o, sp⟩ := a
  have h0 := hc 0 hn
  rw [List.getElem?_eq_getElem (by omega)] at h0
  have hsp : sp = none := by simpa [Addr.add] using World.cell?_spot h0
  subst hsp
  refine ⟨b, o, rfl, by simpa [Addr.add] using World.block_lt_of_cell? w _ h0, fun j u hu => ?_⟩
  have hj : j < n := by rw [← hlen]; exact (List.getElem?_eq_some_iff.1 hu).1
  have := hc j hj
  rw [add_plain] at this
  rw [this, hu]
theorem elems_at {α : Type} {a : Addr} {len k : Nat} {Q : α → List Value → Prop} (hk : 0 < k) (h : ∀ i, i < len → ∃ cs x, w.cells? 0 (a.add (i * k)) k = some cs ∧ Q x cs) :
    ∃ (l : List α) (b o : Nat), l.length = len ∧ (len = 0 ∨ a = ⟨b, o, none⟩) ∧ ∀ (j : Nat) (hj : j < l.length), Old w b ∧ ∃ cs, rowAt w b (o + j * k) cs ∧ Q l[j] cs := by
  by_cases h0 : len = 0
  · exact ⟨[], 0, 0, by simp [h0], .inl h0, fun j hj => by simp at hj⟩
  obtain ⟨cs0, x0, hc0, _⟩ := h 0 (by omega)
  have hz : a.add (0 * k) = a := by simp [Addr.add]
  rw [hz] at hc0
  obtain ⟨b, o, rfl, hb, _⟩ := row_of_cells hc0 hk
  have : ∃ l : List α, l.length = len ∧ ∀ (j : Nat) (hj : j < l.length), ∃ cs, rowAt w b (o + j * k) cs ∧ Q l[j] cs := by
    clear hc0 hz h0
    induction len with
    | zero => exact ⟨[], rfl, fun j hj => by simp at hj⟩
    | succ n ih =>
      obtain ⟨l, hl, hq⟩ := ih fun i hi => h i (by omega)
      obtain ⟨cs, x, hc, hx⟩ := h n (by omega)
      rw [add_plain] at hc
      obtain ⟨b', o', e, _, hr⟩ := row_of_cells hc hk
      cases e
      refine ⟨l ++ [x], by simp [hl], fun j hj => ?_⟩
      by_cases hjl : j < l.length
      · rw [List.getElem_append_left hjl]; exact hq j hjl
      · have hjn : j = n := by simp at hj; omega
        subst hjn
        refine ⟨cs, hr, ?_⟩
        rw [List.getElem_append_right (by omega)]
        simpa using hx
  obtain ⟨l, hl, hq⟩ := this
  exact ⟨l, b, o, hl, .inr rfl, fun j hj => ⟨hb, hq j hj⟩⟩
end
end Go.Proofs.YtpmhdcmmlkjjmaaGreatDoor
/- freeholdref00: counting a value. -/
namespace Go.Proofs.YtpmhdcmmlkjjmaaGreatDoor
open Go.RowKit
theorem grown_trans {a b c : World} {row : Option Nat} (h : a.grownBy b row) (k : b.grownBy c row) : a.grownBy c row :=
  ⟨k.os.trans h.os, k.tape.trans h.tape, k.output.trans h.output, Nat.le_trans h.size k.size, fun i hi hr => (k.block i (Nat.lt_of_lt_of_le hi h.size) hr).trans (h.block i hi hr)⟩
theorem grown_alloc {a b : World} {row : Option Nat} (h : a.grownBy b row) (o : Obj) : a.grownBy (b.alloc o) row := grown_trans h (World.grownBy_alloc _ _ _)
theorem grown_set {a b : World} {B : Nat} (h : a.grownBy b (some B)) (i : Nat) (u : Value) : a.grownBy (b.setCell ⟨B, i, none⟩ u) (some B) :=
  ⟨h.os, h.tape, h.output, by simpa [World.setCell] using (by have := h.size; exact this : a.heap.size ≤ b.heap.size), fun k hk hr => (Below.heap_setCell b ⟨B, i, none⟩ u k (fun e => hr (by rw [e]))).trans (h.block k hk hr)⟩
structure Cnt (B n : Nat) (w : World) : Prop where
  c : w.cell? ⟨B, 0, none⟩ = some (.int .i64 (n : Int))
  f : w.frozen? ⟨B, 0, none⟩ = false
theorem Cnt.lt {B n : Nat} {w : World} (h : Cnt B n w) : B < w.heap.size := World.block_lt_of_cell? w _ h.c
theorem Cnt.keep {B n : Nat} {w w' : World} (h : Cnt B n w) (hb : w'.heap[B]? = w.heap[B]?) : Cnt B n w' :=
  ⟨(World.cell?_of_block (w := w) (a := ⟨B, 0, none⟩) hb).trans h.c, (World.frozen?_of_block (w := w) (a := ⟨B, 0, none⟩) hb).trans h.f⟩
theorem box_row (w : World) (cs : List Value) (t : TypeId) : rowAt (w.alloc (.cells cs.toArray t)) w.heap.size 0 cs := by
  intro j u hu
  have := heap_alloc_new w (.cells cs.toArray t)
  unfold World.cell?
  rw [this]
  simp [hu]
theorem box_lt (w : World) (o : Obj) : w.heap.size < (w.alloc o).heap.size := by
  have := (Array.getElem?_eq_some_iff.1 (heap_alloc_new w o)).1
  exact this
theorem row6 {w : World} {b o : Nat} {c0 c1 c2 c3 c4 c5 : Value} (h : rowAt w b o [c0, c1, c2, c3, c4, c5]) :
    w.cell? ⟨b, o, none⟩ = some c0 ∧ w.cell? ⟨b, o + 1, none⟩ = some c1 ∧ w.cell? ⟨b, o + 2, none⟩ = some c2 ∧ w.cell? ⟨b, o + 3, none⟩ = some c3 ∧ w.cell? ⟨b, o + 4, none⟩ = some c4 ∧ w.cell? ⟨b, o + 5, none⟩ = some c5 :=
  ⟨h 0 _ rfl, h 1 _ rfl, h 2 _ rfl, h 3 _ rfl, h 4 _ rfl, h 5 _ rfl⟩
theorem row7 {w : World} {b o : Nat} {c c0 c1 c2 c3 c4 c5 : Value} (h : rowAt w b o [c, c0, c1, c2, c3, c4, c5]) :
    w.cell? ⟨b, o, none⟩ = some c ∧ w.cell? ⟨b, o + 1, none⟩ = some c0 ∧ w.cell? ⟨b, o + 2, none⟩ = some c1 ∧ w.cell? ⟨b, o + 3, none⟩ = some c2 ∧ w.cell? ⟨b, o + 4, none⟩ = some c3 ∧ w.cell? ⟨b, o + 5, none⟩ = some c4 ∧ w.cell? ⟨b, o + 6, none⟩ = some c5 :=
  ⟨h 0 _ rfl, h 1 _ rfl, h 2 _ rfl, h 3 _ rfl, h 4 _ rfl, h 5 _ rfl, h 6 _ rfl⟩
theorem row6z {w : World} {b : Nat} {c0 c1 c2 c3 c4 c5 : Value} (h : rowAt w b 0 [c0, c1, c2, c3, c4, c5]) :
    w.cell? ⟨b, 0, none⟩ = some c0 ∧ w.cell? ⟨b, 1, none⟩ = some c1 ∧ w.cell? ⟨b, 2, none⟩ = some c2 ∧ w.cell? ⟨b, 3, none⟩ = some c3 ∧ w.cell? ⟨b, 4, none⟩ = some c4 ∧ w.cell? ⟨b, 5, none⟩ = some c5 := by
  have := row6 h
  simpa using this
end Go.Proofs.YtpmhdcmmlkjjmaaGreatDoor
