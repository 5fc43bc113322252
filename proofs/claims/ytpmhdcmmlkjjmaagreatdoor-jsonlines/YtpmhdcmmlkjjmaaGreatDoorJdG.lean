import Derived.Test.YtpmhdcmmlkjjmaaGreatDoorJdE
/- the document's list. -/
set_option linter.unusedSimpArgs false
set_option linter.unusedVariables false
set_option maxRecDepth 100000
namespace Go.Proofs.YtpmhdcmmlkjjmaaGreatDoor
open Go.RowKit Go.Lib
/-- what the document's value does -/
def DvP (R : Except Flt (V × Nat × Nat)) (g : Nat) (s : ByteArray) (D : Nat) (w : World) (e : Ending) (w' : World) : Prop :=
  match R with
  | .ok x => (∃ cs, e = .returned (.agg cs.toArray) ∧ x.1.lies false w' (New w w') cs ∧ JD g s x.2.1 x.2.2 D 0 0 w') ∧ w.grownBy w' (some g)
  | .error f => (∃ c0 c1 c2 c3 a4 l4 c4 a5 l5 c5 k n, e = .returned (.agg #[.int .i64 c0, .bool c1, .int .i64 c2, .string c3, .slice a4 l4 c4, .slice a5 l5 c5]) ∧ JD g s k n D f.2 f.1 w' ∧ f.2 ≠ 0) ∧ w.grownBy w' (some g)
def ValD (g : Nat) (s : ByteArray) (D f : Nat) : Prop := ∀ (W : World) (o k n : Nat), JD g s k n D 0 0 W → k ≤ s.size → 2 * (s.size - blk s.data.toList k) + 1 ≤ f → n ≤ 65536 → o ≤ D + 1 →
  Calls Tryz.prog 34 #[.pointer (some ⟨g, 0, none⟩), .int .i64 (o : Int)] W (DvP (valJ s.data.toList D f o (blk s.data.toList k) n) g s D W)
/-- the boxes of a method that makes a value: the one that answers, the one that it is made in -/
structure Dx (w : World) (g : Nat) (s : ByteArray) (D k n e bd : Nat) (c : Array Value) (W : World) : Prop where
  b4 : W.heap[w.heap.size]? = some z46
  b5 : W.heap[w.heap.size + 1]? = some (.cells c 25 (0, 0))
  jd : JD g s k n D e bd W
  gr : w.grownBy W (some g)
section
variable {w W W' : World} {g D k n e bd : Nat} {s : ByteArray} {c : Array Value}
theorem Dx.lt (h : Dx w g s D k n e bd c W) : w.heap.size + 1 < W.heap.size := by
  rcases Nat.lt_or_ge (w.heap.size + 1) W.heap.size with q | q
  · exact q
  · have := h.b5; rw [Array.getElem?_eq_none q] at this; cases this
theorem Dx.next {k2 n2 e2 bd2 : Nat} (h : Dx w g s D k n e bd c W) (hg : g < w.heap.size) (gr : W.grownBy W' (some g)) (hj : JD g s k2 n2 D e2 bd2 W') : Dx w g s D k2 n2 e2 bd2 c W' :=
  ⟨(gr.block _ (by have := h.lt; omega) (fun e => by have := Option.some.inj e; omega)).trans h.b4, (gr.block _ h.lt (fun e => by have := Option.some.inj e; omega)).trans h.b5, hj, grown_trans h.gr gr⟩
theorem Dx.own {row : Option Nat} (h : Dx w g s D k n e bd c W) (hg : g < w.heap.size) (gr : W.grownBy W' row) (hr : ∀ r, row = some r → w.heap.size + 2 ≤ r) : Dx w g s D k n e bd c W' :=
  ⟨(gr.block _ (by have := h.lt; omega) (fun e => by have := hr _ e.symm; omega)).trans h.b4, (gr.block _ h.lt (fun e => by have := hr _ e.symm; omega)).trans h.b5, h.jd.own gr (fun e => by have := hr _ e; omega), grown_own h.gr gr (fun r e => by have := hr r e; omega)⟩
theorem Dx.set {c' : Array Value} (h : Dx w g s D k n e bd c W) (hg : g < w.heap.size) (i : Nat) (u : Value) (hc : c.setIfInBounds i u = c') : Dx w g s D k n e bd c' (W.setCell ⟨w.heap.size + 1, i, none⟩ u) := by
  have g1 := grown_set1 W (w.heap.size + 1) i u
  refine ⟨(g1.block _ (by have := h.lt; omega) (fun e => by have := Option.some.inj e; omega)).trans h.b4, blk6_set h.b5 i u hc, h.jd.own g1 (fun e => by have := Option.some.inj e; omega), grown_own h.gr g1 (fun r e => by cases e; omega)⟩
theorem Dx.cells {c0 c1 c2 c3 c4 c5 : Value} (h : Dx w g s D k n e bd #[c0, c1, c2, c3, c4, c5] W) :
    (W.cell? ⟨w.heap.size, 0, none⟩ = some (.int .i64 0) ∧ W.cell? ⟨w.heap.size, 1, none⟩ = some (.bool false) ∧ W.cell? ⟨w.heap.size, 2, none⟩ = some (.int .i64 0) ∧ W.cell? ⟨w.heap.size, 3, none⟩ = some (.string ⟨#[]⟩) ∧ W.cell? ⟨w.heap.size, 4, none⟩ = some (.slice none 0 0) ∧ W.cell? ⟨w.heap.size, 5, none⟩ = some (.slice none 0 0)) ∧ (∀ i, W.frozen? ⟨w.heap.size, i, none⟩ = false) ∧
    (W.cell? ⟨w.heap.size + 1, 0, none⟩ = some c0 ∧ W.cell? ⟨w.heap.size + 1, 1, none⟩ = some c1 ∧ W.cell? ⟨w.heap.size + 1, 2, none⟩ = some c2 ∧ W.cell? ⟨w.heap.size + 1, 3, none⟩ = some c3 ∧ W.cell? ⟨w.heap.size + 1, 4, none⟩ = some c4 ∧ W.cell? ⟨w.heap.size + 1, 5, none⟩ = some c5) ∧ (∀ i, W.frozen? ⟨w.heap.size + 1, i, none⟩ = false) :=
  ⟨⟨cell_of_block h.b4 0, cell_of_block h.b4 1, cell_of_block h.b4 2, cell_of_block h.b4 3, cell_of_block h.b4 4, cell_of_block h.b4 5⟩, frozen_of_block h.b4, ⟨cell_of_block h.b5 0, cell_of_block h.b5 1, cell_of_block h.b5 2, cell_of_block h.b5 3, cell_of_block h.b5 4, cell_of_block h.b5 5⟩, frozen_of_block h.b5⟩
theorem Dx.done (h : Dx w g s D k n e bd c W) (hg : g < w.heap.size) (v0 v1 v2 v3 v4 v5 : Value) :
    ∃ W6, W6 = ((((((W.setCell ⟨w.heap.size, 0, none⟩ v0).setCell ⟨w.heap.size, 1, none⟩ v1).setCell ⟨w.heap.size, 2, none⟩ v2).setCell ⟨w.heap.size, 3, none⟩ v3).setCell ⟨w.heap.size, 4, none⟩ v4).setCell ⟨w.heap.size, 5, none⟩ v5) ∧
      (W6.cell? ⟨w.heap.size, 0, none⟩ = some v0 ∧ W6.cell? ⟨w.heap.size, 1, none⟩ = some v1 ∧ W6.cell? ⟨w.heap.size, 2, none⟩ = some v2 ∧ W6.cell? ⟨w.heap.size, 3, none⟩ = some v3 ∧ W6.cell? ⟨w.heap.size, 4, none⟩ = some v4 ∧ W6.cell? ⟨w.heap.size, 5, none⟩ = some v5) ∧ JD g s k n D e bd W6 ∧ w.grownBy W6 (some g) ∧ W.grownBy W6 (some w.heap.size) := by
  have hb := st6_block h.b4 v0 v1 v2 v3 v4 v5
  have hg6 := st6_grown W w.heap.size v0 v1 v2 v3 v4 v5
  generalize ((((((W.setCell ⟨w.heap.size, 0, none⟩ v0).setCell ⟨w.heap.size, 1, none⟩ v1).setCell ⟨w.heap.size, 2, none⟩ v2).setCell ⟨w.heap.size, 3, none⟩ v3).setCell ⟨w.heap.size, 4, none⟩ v4).setCell ⟨w.heap.size, 5, none⟩ v5) = W6 at *
  exact ⟨W6, rfl, ⟨cell_of_block hb 0, cell_of_block hb 1, cell_of_block hb 2, cell_of_block hb 3, cell_of_block hb 4, cell_of_block hb 5⟩, h.jd.own hg6 (fun e => by have := Option.some.inj e; omega), grown_own h.gr hg6 (fun r e => by cases e; exact Nat.le_refl _), hg6⟩
end
/-- a list's answer as a value's -/
def lisV (R : Except Flt (List V × Nat × Nat)) : Except Flt (V × Nat × Nat) := match R with
  | .error e => .error e
  | .ok x => .ok (.mk 4 false 0 ⟨#[]⟩ x.1 [], x.2.1, x.2.2)
def memV (R : Except Flt (List Mem × Nat × Nat)) : Except Flt (V × Nat × Nat) := match R with
  | .error e => .error e
  | .ok x => .ok (.mk 5 false 0 ⟨#[]⟩ [] (sortM x.1), x.2.1, x.2.2)
theorem begunJ_close {l : List UInt8} {k : Nat} {c : UInt8} (h : blk l (k + 1) < l.length) (e : l[blk l (k + 1)] = c) : begunJ l k c = (false, blk l (k + 1) + 1) := by
  have : tkJ l (blk l (k + 1)) c = true := by rw [tkJ, List.getElem?_eq_getElem h, e]; simp
  rw [begunJ, this]; rfl
theorem begunJ_open {l : List UInt8} {k : Nat} {c : UInt8} (h : blk l (k + 1) < l.length) (e : ¬ l[blk l (k + 1)] = c) : begunJ l k c = (true, blk l (k + 1)) := by
  have : tkJ l (blk l (k + 1)) c = false := by rw [tkJ, List.getElem?_eq_getElem h]; simp [e]
  rw [begunJ, this]; rfl
theorem begunJ_end {l : List UInt8} {k : Nat} {c : UInt8} (h : l.length ≤ blk l (k + 1)) : begunJ l k c = (true, blk l (k + 1)) := by
  have : tkJ l (blk l (k + 1)) c = false := by rw [tkJ, List.getElem?_eq_none h]; rfl
  rw [begunJ, this]; rfl
end Go.Proofs.YtpmhdcmmlkjjmaaGreatDoor
