import Derived.Test.YtjgbjhahmgegiaaGreatDoorTwinA
import Derived.Deep.QuietTactic
import Derived.BigQuiet
/- twin: the walk. -/
set_option linter.unusedSimpArgs false
set_option linter.unusedVariables false
namespace Go.Proofs.YtjgbjhahmgegiaaGreatDoor
open Go.RowKit
theorem cell_of_block {w : World} {b : Nat} {c : Array Value} {t : TypeId} {f : Nat × Nat} (h : w.heap[b]? = some (.cells c t f)) (i : Nat) : w.cell? ⟨b, i, none⟩ = c[i]? := by simp [World.cell?, h]
theorem frozen_of_block {w : World} {b : Nat} {c : Array Value} {t : TypeId} (h : w.heap[b]? = some (.cells c t (0, 0))) (i : Nat) : w.frozen? ⟨b, i, none⟩ = false := by simp [World.frozen?, h]
theorem _root_.Go.World.grownBy.trans' {a b : World} {row : Option Nat} (h : a.grownBy b row) (o : Obj) : a.grownBy (b.alloc o) row := grown_trans h (World.grownBy_alloc _ _ _)
/-- the three blocks of the call: the argument, the answer, the value that is made -/
structure TwF (w : World) (box loc : Array Value) (wr : World) : Prop where
  below : Below w.heap.size w wr
  b0 : wr.heap[w.heap.size]? = some (.cells box 25 (0, 0))
  b1 : wr.heap[w.heap.size + 1]? = some (.cells #[.int .i64 0, .bool false, .int .i64 0, .string ⟨#[]⟩, .slice none 0 0, .slice none 0 0] 25 (0, 0))
  b2 : wr.heap[w.heap.size + 1 + 1]? = some (.cells loc 25 (0, 0))
theorem TwF.lt {w : World} {box loc : Array Value} {wr : World} (h : TwF w box loc wr) : w.heap.size + 3 ≤ wr.heap.size := (Array.getElem?_eq_some_iff.1 h.b2).1
theorem TwF.grown {w : World} {box loc : Array Value} {wr wr' : World} (h : TwF w box loc wr) {row : Option Nat} (g : wr.grownBy wr' row) (hr : ∀ r, row = some r → w.heap.size + 3 ≤ r) : TwF w box loc wr' := by
  have hs := h.lt
  have hn : ∀ q, q < w.heap.size + 3 → some q ≠ row := fun q hq e => by have := hr q e.symm; omega
  exact ⟨h.below.grown g (by omega) (fun r e => by have := hr r e; omega), (g.block _ (by omega) (hn _ (by omega))).trans h.b0, (g.block _ (by omega) (hn _ (by omega))).trans h.b1, (g.block _ (by omega) (hn _ (by omega))).trans h.b2⟩
theorem TwF.set {w : World} {box loc loc' : Array Value} {wr : World} (h : TwF w box loc wr) (i : Nat) (u : Value) (e : loc.setIfInBounds i u = loc') : TwF w box loc' (wr.setCell ⟨w.heap.size + 1 + 1, i, none⟩ u) := by
  have hs := h.lt
  have g := grown_set1 wr (w.heap.size + 1 + 1) i u
  have hn : ∀ q, q < w.heap.size + 2 → some q ≠ some (w.heap.size + 1 + 1) := fun q hq e => by have := Option.some.inj e; omega
  refine ⟨h.below.grown g (by omega) (fun r e => by cases e; omega), (g.block _ (by omega) (hn _ (by omega))).trans h.b0, (g.block _ (by omega) (hn _ (by omega))).trans h.b1, ?_⟩
  rw [set_block h.b2, e]
theorem alloc_size (w : World) (o : Obj) : (w.alloc o).heap.size = w.heap.size + 1 := by simp
theorem three_allocs (w : World) (o0 o1 o2 : Obj) : (((w.alloc o0).alloc o1).alloc o2).heap[w.heap.size]? = some o0 ∧ (((w.alloc o0).alloc o1).alloc o2).heap[w.heap.size + 1]? = some o1 ∧ (((w.alloc o0).alloc o1).alloc o2).heap[w.heap.size + 1 + 1]? = some o2 := by
  refine ⟨?_, ?_, ?_⟩
  · rw [Below.heap_alloc _ _ _ (by rw [alloc_size, alloc_size]; omega), Below.heap_alloc _ _ _ (by rw [alloc_size]; omega)]
    exact heap_alloc_new w o0
  · rw [Below.heap_alloc _ _ _ (by rw [alloc_size, alloc_size]; omega)]
    have := heap_alloc_new (w.alloc o0) o1
    rwa [alloc_size] at this
  · have := heap_alloc_new ((w.alloc o0).alloc o1) o2
    rwa [alloc_size, alloc_size] at this
theorem three_below (w : World) (o0 o1 o2 : Obj) : Below w.heap.size w (((w.alloc o0).alloc o1).alloc o2) :=
  (((Below.refl w.heap.size w).alloc (Nat.le_refl _) _).alloc (by rw [alloc_size]; omega) _).alloc (by rw [alloc_size, alloc_size]; omega) _
theorem alloc2_keep (w : World) (o o' : Obj) {b : Nat} (h : b < w.heap.size) : ((w.alloc o).alloc o').heap[b]? = w.heap[b]? := by
  rw [Below.heap_alloc _ _ _ (by rw [alloc_size]; omega), Below.heap_alloc _ _ _ h]
theorem alloc2_new (w : World) (o o' : Obj) : ((w.alloc o).alloc o').heap[w.heap.size + 1]? = some o' := by
  have := heap_alloc_new (w.alloc o) o'
  rwa [alloc_size] at this
theorem alloc2_off {w : World} {o o' : Obj} {b N : Nat} {v : Value} (h : N ≤ b ∧ b < w.heap.size ∧ some b ≠ v.ownBlock) : N ≤ b ∧ b < ((w.alloc o).alloc o').heap.size ∧ some b ≠ v.ownBlock :=
  ⟨h.1, by rw [alloc_size, alloc_size]; omega, h.2.2⟩
theorem grown_drew (w : World) (row : Option Nat) : w.grownBy w.drew row := ⟨rfl, rfl, rfl, Nat.le_refl _, fun _ _ _ => rfl⟩
theorem OwnR.drew {α : Type} {E : α → World → (Nat → Prop) → List Value → Prop} {ty sz : Nat} (K : KeepE E) {w : World} {base : Nat} {S : Nat → Prop} {v : Value} {l : List α} (h : OwnR E ty sz w base S v l) : OwnR E ty sz w.drew base S v l :=
  h.keep K (grown_drew w none) (fun r e => by cases e)
theorem results_cell1 {fn : Func} {p : Tmp} {ty : TypeId} (h : fn.results = #[.cell p ty]) (tmps : Array Value) (P : Program) (w : World) :
    (results fn tmps).run P w = ((asAddr (tmps.getD p undef)).run P w).andThen fun a w₁ => (loadVar ty a).run P w₁ := by
  simp only [results, h]
  simp [Sem.run_bind, Result.andThen]
theorem one6 {k i : Int} {b : Bool} {s : ByteArray} {p q : Option Addr} {n c n' c' : Nat} : ∀ u ∈ [Value.int .i64 k, .bool b, .int .i64 i, .string s, .slice p n c, .slice q n' c'], u.oneCell' = true := by
  intro u hu
  simp at hu
  rcases hu with rfl | rfl | rfl | rfl | rfl | rfl <;> rfl
theorem one7 {r : ByteArray} {k i : Int} {b : Bool} {s : ByteArray} {p q : Option Addr} {n c n' c' : Nat} : ∀ u ∈ [Value.string r, .int .i64 k, .bool b, .int .i64 i, .string s, .slice p n c, .slice q n' c'], u.oneCell' = true := by
  intro u hu
  simp at hu
  rcases hu with rfl | rfl | rfl | rfl | rfl | rfl | rfl <;> rfl
end Go.Proofs.YtjgbjhahmgegiaaGreatDoor
