/- joined: AnwA AnwB AnwC AnwD ClnA -/
import Derived.Test.YtejcfkkkbnnmcaaGreatDoorGdP
import Derived.Test.YtejcfkkkbnnmcaaGreatDoorClrA
import Derived.Test.YtejcfkkkbnnmcaaGreatDoorSamA
import Derived.Test.YtejcfkkkbnnmcaaGreatDoorGodD
import Derived.Laws.MakeOwn
import Derived.Deep.RegionHeld3
/- Storing a row's cells; value.anewList, value.anewMap, value.anew. -/
set_option linter.unusedSimpArgs false
set_option linter.unusedVariables false
namespace Go.Proofs.YtejcfkkkbnnmcaaGreatDoor
open Go.RowKit Go.Lib

theorem set_other {w : World} {g o x : Nat} {u : Value} (h : x ≠ g) : (w.setCell ⟨g, o, none⟩ u).heap[x]? = w.heap[x]? := by
  by_cases hx : x < w.heap.size
  · exact (grown_set1 w g o u).block x hx (fun e => h (Option.some.inj e))
  · rw [Array.getElem?_eq_none (by rw [size_set1]; omega), Array.getElem?_eq_none (by omega)]

theorem set6_row {w : World} {g o : Nat} {arr : Array Value} {ty : TypeId} (h : w.heap[g]? = some (.cells arr ty (0, 0))) (ho : o + 6 ≤ arr.size) (c0 c1 c2 c3 c4 c5 : Value) :
    ∃ arr', ((((((w.setCell ⟨g, o, none⟩ c0).setCell ⟨g, o + 1, none⟩ c1).setCell ⟨g, o + 2, none⟩ c2).setCell ⟨g, o + 3, none⟩ c3).setCell ⟨g, o + 4, none⟩ c4).setCell ⟨g, o + 5, none⟩ c5).heap[g]? = some (.cells arr' ty (0, 0)) ∧ arr'.size = arr.size ∧ (∀ p, p < o → arr'[p]? = arr[p]?) ∧ rowAt ((((((w.setCell ⟨g, o, none⟩ c0).setCell ⟨g, o + 1, none⟩ c1).setCell ⟨g, o + 2, none⟩ c2).setCell ⟨g, o + 3, none⟩ c3).setCell ⟨g, o + 4, none⟩ c4).setCell ⟨g, o + 5, none⟩ c5) g o [c0, c1, c2, c3, c4, c5] ∧ (∀ x, x ≠ g → ((((((w.setCell ⟨g, o, none⟩ c0).setCell ⟨g, o + 1, none⟩ c1).setCell ⟨g, o + 2, none⟩ c2).setCell ⟨g, o + 3, none⟩ c3).setCell ⟨g, o + 4, none⟩ c4).setCell ⟨g, o + 5, none⟩ c5).heap[x]? = w.heap[x]?) ∧ ((((((w.setCell ⟨g, o, none⟩ c0).setCell ⟨g, o + 1, none⟩ c1).setCell ⟨g, o + 2, none⟩ c2).setCell ⟨g, o + 3, none⟩ c3).setCell ⟨g, o + 4, none⟩ c4).setCell ⟨g, o + 5, none⟩ c5).heap.size = w.heap.size := by
  have h0 : (w.setCell ⟨g, o, none⟩ c0).heap[g]? = some (.cells (arr.setIfInBounds o c0) ty (0, 0)) := by rw [set_block h]
  have h1 : ((w.setCell ⟨g, o, none⟩ c0).setCell ⟨g, o + 1, none⟩ c1).heap[g]? = some (.cells ((arr.setIfInBounds o c0).setIfInBounds (o + 1) c1) ty (0, 0)) := by rw [set_block h0]
  have h2 : (((w.setCell ⟨g, o, none⟩ c0).setCell ⟨g, o + 1, none⟩ c1).setCell ⟨g, o + 2, none⟩ c2).heap[g]? = some (.cells (((arr.setIfInBounds o c0).setIfInBounds (o + 1) c1).setIfInBounds (o + 2) c2) ty (0, 0)) := by rw [set_block h1]
  have h3 : ((((w.setCell ⟨g, o, none⟩ c0).setCell ⟨g, o + 1, none⟩ c1).setCell ⟨g, o + 2, none⟩ c2).setCell ⟨g, o + 3, none⟩ c3).heap[g]? = some (.cells ((((arr.setIfInBounds o c0).setIfInBounds (o + 1) c1).setIfInBounds (o + 2) c2).setIfInBounds (o + 3) c3) ty (0, 0)) := by rw [set_block h2]
  have h4 : (((((w.setCell ⟨g, o, none⟩ c0).setCell ⟨g, o + 1, none⟩ c1).setCell ⟨g, o + 2, none⟩ c2).setCell ⟨g, o + 3, none⟩ c3).setCell ⟨g, o + 4, none⟩ c4).heap[g]? = some (.cells (((((arr.setIfInBounds o c0).setIfInBounds (o + 1) c1).setIfInBounds (o + 2) c2).setIfInBounds (o + 3) c3).setIfInBounds (o + 4) c4) ty (0, 0)) := by rw [set_block h3]
  have h5 : ((((((w.setCell ⟨g, o, none⟩ c0).setCell ⟨g, o + 1, none⟩ c1).setCell ⟨g, o + 2, none⟩ c2).setCell ⟨g, o + 3, none⟩ c3).setCell ⟨g, o + 4, none⟩ c4).setCell ⟨g, o + 5, none⟩ c5).heap[g]? = some (.cells ((((((arr.setIfInBounds o c0).setIfInBounds (o + 1) c1).setIfInBounds (o + 2) c2).setIfInBounds (o + 3) c3).setIfInBounds (o + 4) c4).setIfInBounds (o + 5) c5) ty (0, 0)) := by rw [set_block h4]
  refine ⟨_, h5, by simp, fun p hp => ?_, ?_, fun x hx => ?_, by simp [size_set1]⟩
  · simp only [Array.getElem?_setIfInBounds]
    repeat (rw [if_neg (by omega)])
  · intro q u hu
    rw [cell_of_block h5]
    have hq : q < 6 := by
      rcases Nat.lt_or_ge q 6 with h | h
      · exact h
      · rw [List.getElem?_eq_none (by simpa using h)] at hu; cases hu
    rcases (show q = 0 ∨ q = 1 ∨ q = 2 ∨ q = 3 ∨ q = 4 ∨ q = 5 by omega) with rfl | rfl | rfl | rfl | rfl | rfl
    all_goals
      simp only [List.getElem?_cons_zero, List.getElem?_cons_succ, Option.some.injEq] at hu
      subst hu
      simp (config := { maxSteps := 200000 }) only [Array.getElem?_setIfInBounds, Array.size_setIfInBounds]
      repeat (first | rw [if_pos trivial] | rw [if_neg (by omega)] | rw [if_pos (by omega)])

  · rw [set_other hx]; rw [set_other hx]; rw [set_other hx]; rw [set_other hx]; rw [set_other hx]; rw [set_other hx]

theorem set7_row {w : World} {g o : Nat} {arr : Array Value} {ty : TypeId} (h : w.heap[g]? = some (.cells arr ty (0, 0))) (ho : o + 7 ≤ arr.size) (c0 c1 c2 c3 c4 c5 c6 : Value) :
    ∃ arr', (((((((w.setCell ⟨g, o, none⟩ c0).setCell ⟨g, o + 1, none⟩ c1).setCell ⟨g, o + 2, none⟩ c2).setCell ⟨g, o + 3, none⟩ c3).setCell ⟨g, o + 4, none⟩ c4).setCell ⟨g, o + 5, none⟩ c5).setCell ⟨g, o + 6, none⟩ c6).heap[g]? = some (.cells arr' ty (0, 0)) ∧ arr'.size = arr.size ∧ (∀ p, p < o → arr'[p]? = arr[p]?) ∧ rowAt (((((((w.setCell ⟨g, o, none⟩ c0).setCell ⟨g, o + 1, none⟩ c1).setCell ⟨g, o + 2, none⟩ c2).setCell ⟨g, o + 3, none⟩ c3).setCell ⟨g, o + 4, none⟩ c4).setCell ⟨g, o + 5, none⟩ c5).setCell ⟨g, o + 6, none⟩ c6) g o [c0, c1, c2, c3, c4, c5, c6] ∧ (∀ x, x ≠ g → (((((((w.setCell ⟨g, o, none⟩ c0).setCell ⟨g, o + 1, none⟩ c1).setCell ⟨g, o + 2, none⟩ c2).setCell ⟨g, o + 3, none⟩ c3).setCell ⟨g, o + 4, none⟩ c4).setCell ⟨g, o + 5, none⟩ c5).setCell ⟨g, o + 6, none⟩ c6).heap[x]? = w.heap[x]?) ∧ (((((((w.setCell ⟨g, o, none⟩ c0).setCell ⟨g, o + 1, none⟩ c1).setCell ⟨g, o + 2, none⟩ c2).setCell ⟨g, o + 3, none⟩ c3).setCell ⟨g, o + 4, none⟩ c4).setCell ⟨g, o + 5, none⟩ c5).setCell ⟨g, o + 6, none⟩ c6).heap.size = w.heap.size := by
  have h0 : (w.setCell ⟨g, o, none⟩ c0).heap[g]? = some (.cells (arr.setIfInBounds o c0) ty (0, 0)) := by rw [set_block h]
  have h1 : ((w.setCell ⟨g, o, none⟩ c0).setCell ⟨g, o + 1, none⟩ c1).heap[g]? = some (.cells ((arr.setIfInBounds o c0).setIfInBounds (o + 1) c1) ty (0, 0)) := by rw [set_block h0]
  have h2 : (((w.setCell ⟨g, o, none⟩ c0).setCell ⟨g, o + 1, none⟩ c1).setCell ⟨g, o + 2, none⟩ c2).heap[g]? = some (.cells (((arr.setIfInBounds o c0).setIfInBounds (o + 1) c1).setIfInBounds (o + 2) c2) ty (0, 0)) := by rw [set_block h1]
  have h3 : ((((w.setCell ⟨g, o, none⟩ c0).setCell ⟨g, o + 1, none⟩ c1).setCell ⟨g, o + 2, none⟩ c2).setCell ⟨g, o + 3, none⟩ c3).heap[g]? = some (.cells ((((arr.setIfInBounds o c0).setIfInBounds (o + 1) c1).setIfInBounds (o + 2) c2).setIfInBounds (o + 3) c3) ty (0, 0)) := by rw [set_block h2]
  have h4 : (((((w.setCell ⟨g, o, none⟩ c0).setCell ⟨g, o + 1, none⟩ c1).setCell ⟨g, o + 2, none⟩ c2).setCell ⟨g, o + 3, none⟩ c3).setCell ⟨g, o + 4, none⟩ c4).heap[g]? = some (.cells (((((arr.setIfInBounds o c0).setIfInBounds (o + 1) c1).setIfInBounds (o + 2) c2).setIfInBounds (o + 3) c3).setIfInBounds (o + 4) c4) ty (0, 0)) := by rw [set_block h3]
  have h5 : ((((((w.setCell ⟨g, o, none⟩ c0).setCell ⟨g, o + 1, none⟩ c1).setCell ⟨g, o + 2, none⟩ c2).setCell ⟨g, o + 3, none⟩ c3).setCell ⟨g, o + 4, none⟩ c4).setCell ⟨g, o + 5, none⟩ c5).heap[g]? = some (.cells ((((((arr.setIfInBounds o c0).setIfInBounds (o + 1) c1).setIfInBounds (o + 2) c2).setIfInBounds (o + 3) c3).setIfInBounds (o + 4) c4).setIfInBounds (o + 5) c5) ty (0, 0)) := by rw [set_block h4]
  have h6 : (((((((w.setCell ⟨g, o, none⟩ c0).setCell ⟨g, o + 1, none⟩ c1).setCell ⟨g, o + 2, none⟩ c2).setCell ⟨g, o + 3, none⟩ c3).setCell ⟨g, o + 4, none⟩ c4).setCell ⟨g, o + 5, none⟩ c5).setCell ⟨g, o + 6, none⟩ c6).heap[g]? = some (.cells (((((((arr.setIfInBounds o c0).setIfInBounds (o + 1) c1).setIfInBounds (o + 2) c2).setIfInBounds (o + 3) c3).setIfInBounds (o + 4) c4).setIfInBounds (o + 5) c5).setIfInBounds (o + 6) c6) ty (0, 0)) := by rw [set_block h5]
  refine ⟨_, h6, by simp, fun p hp => ?_, ?_, fun x hx => ?_, by simp [size_set1]⟩
  · simp only [Array.getElem?_setIfInBounds]
    repeat (rw [if_neg (by omega)])
  · intro q u hu
    rw [cell_of_block h6]
    have hq : q < 7 := by
      rcases Nat.lt_or_ge q 7 with h | h
      · exact h
      · rw [List.getElem?_eq_none (by simpa using h)] at hu; cases hu
    rcases (show q = 0 ∨ q = 1 ∨ q = 2 ∨ q = 3 ∨ q = 4 ∨ q = 5 ∨ q = 6 by omega) with rfl | rfl | rfl | rfl | rfl | rfl | rfl
    all_goals
      simp only [List.getElem?_cons_zero, List.getElem?_cons_succ, Option.some.injEq] at hu
      subst hu
      simp (config := { maxSteps := 200000 }) only [Array.getElem?_setIfInBounds, Array.size_setIfInBounds]
      repeat (first | rw [if_pos trivial] | rw [if_neg (by omega)] | rw [if_pos (by omega)])

  · rw [set_other hx]; rw [set_other hx]; rw [set_other hx]; rw [set_other hx]; rw [set_other hx]; rw [set_other hx]; rw [set_other hx]
end Go.Proofs.YtejcfkkkbnnmcaaGreatDoor

/- value.anewList. -/
set_option linter.unusedSimpArgs false
set_option linter.unusedVariables false
namespace Go.Proofs.YtejcfkkkbnnmcaaGreatDoor
open Go.RowKit Go.Lib

def AnPost (v : V) (w : World) (e : Ending) (w' : World) : Prop := ∃ cs : List Value, e = .returned (.agg cs.toArray) ∧ v.lies false w' (New w w') cs ∧ Below w.heap.size w w'
def AnLPost (l : List V) (w : World) (e : Ending) (w' : World) : Prop := ∃ g : Nat, e = .returned (.slice (some ⟨g, 0, none⟩) l.length l.length) ∧ liesL false w' (New w w') l g 0 ∧ Below w.heap.size w w'
def AnMPost (l : List Mem) (w : World) (e : Ending) (w' : World) : Prop := ∃ g : Nat, e = .returned (.slice (some ⟨g, 0, none⟩) l.length l.length) ∧ liesM false w' (New w w') l g 0 ∧ Below w.heap.size w w'

/-- the rows that stand so far in the block g -/
def RowsL (l : List V) (j g : Nat) (w : World) : Prop := ∀ (i : Nat) (h : i < l.length), i < j → ∃ cs, rowAt w g (i * 6) cs ∧ cs.length = 6 ∧ (l[i]).lies false w (fun x => g < x ∧ x < w.heap.size) cs
def Blk (g ty n : Nat) (w : World) : Prop := ∃ arr, w.heap[g]? = some (.cells arr ty (0, 0)) ∧ arr.size = n
theorem Blk.cell {g ty n : Nat} {w : World} (h : Blk g ty n w) (i : Nat) (hi : i < n) : ∃ v, w.cell? ⟨g, i, none⟩ = some v := by
  obtain ⟨arr, h1, h2⟩ := h
  exact ⟨arr[i], by rw [cell_of_block h1]; simp [h2, hi]⟩
theorem Blk.frozen {g ty n : Nat} {w : World} (h : Blk g ty n w) (i : Nat) : w.frozen? ⟨g, i, none⟩ = false := by
  obtain ⟨arr, h1, h2⟩ := h
  exact frozen_of_block h1 i
theorem Blk.keep {g ty n : Nat} {w w' : World} (h : Blk g ty n w) (e : w'.heap[g]? = w.heap[g]?) : Blk g ty n w' := by
  obtain ⟨arr, h1, h2⟩ := h
  exact ⟨arr, e.trans h1, h2⟩
theorem RowsL.below {l : List V} {j g : Nat} {w w' : World} (h : RowsL l j g w) (hg : g < w.heap.size) (hb : Below w.heap.size w w') : RowsL l j g w' := fun i hi hij => by
  obtain ⟨cs, r, hl, lies⟩ := h i hi hij
  exact ⟨cs, r.keep (hb.block g hg), hl, V.lies_keep (fun h => h) (fun x hx => hb.block x hx.2) (fun x hx => ⟨hx.1, Nat.lt_of_lt_of_le hx.2 hb.size⟩) _ lies⟩
/-- one row more -/
theorem RowsL.store {l : List V} {j g n : Nat} {w w3 : World} (h : RowsL l j g w3) (hB : Blk g 25 n w3) (hj : j < l.length) (hn : j * 6 + 6 ≤ n) {c0 c1 c2 c3 c4 c5 : Value} (hv : (l[j]).lies false w3 (fun x => g < x ∧ x < w3.heap.size) [c0, c1, c2, c3, c4, c5]) (hw : Below w.heap.size w w3) (hg : w.heap.size ≤ g) :
    RowsL l (j + 1) g ((((((w3.setCell ⟨g, j * 6, none⟩ c0).setCell ⟨g, j * 6 + 1, none⟩ c1).setCell ⟨g, j * 6 + 2, none⟩ c2).setCell ⟨g, j * 6 + 3, none⟩ c3).setCell ⟨g, j * 6 + 4, none⟩ c4).setCell ⟨g, j * 6 + 5, none⟩ c5) ∧
    Blk g 25 n ((((((w3.setCell ⟨g, j * 6, none⟩ c0).setCell ⟨g, j * 6 + 1, none⟩ c1).setCell ⟨g, j * 6 + 2, none⟩ c2).setCell ⟨g, j * 6 + 3, none⟩ c3).setCell ⟨g, j * 6 + 4, none⟩ c4).setCell ⟨g, j * 6 + 5, none⟩ c5) ∧
    Below w.heap.size w ((((((w3.setCell ⟨g, j * 6, none⟩ c0).setCell ⟨g, j * 6 + 1, none⟩ c1).setCell ⟨g, j * 6 + 2, none⟩ c2).setCell ⟨g, j * 6 + 3, none⟩ c3).setCell ⟨g, j * 6 + 4, none⟩ c4).setCell ⟨g, j * 6 + 5, none⟩ c5) := by
  obtain ⟨arr, h1, h2⟩ := hB
  obtain ⟨arr', e1, e2, e3, e4, e5, e6⟩ := set6_row h1 (o := j * 6) (by omega) c0 c1 c2 c3 c4 c5
  have hBl := Below.set6 hw hg (j * 6) (j * 6 + 1) (j * 6 + 2) (j * 6 + 3) (j * 6 + 4) (j * 6 + 5) c0 c1 c2 c3 c4 c5
  generalize ((((((w3.setCell ⟨g, j * 6, none⟩ c0).setCell ⟨g, j * 6 + 1, none⟩ c1).setCell ⟨g, j * 6 + 2, none⟩ c2).setCell ⟨g, j * 6 + 3, none⟩ c3).setCell ⟨g, j * 6 + 4, none⟩ c4).setCell ⟨g, j * 6 + 5, none⟩ c5) = W at *
  refine ⟨fun i hi hij => ?_, ⟨arr', e1, by omega⟩, hBl⟩
  by_cases hij' : i < j
  · obtain ⟨cs, r, hl, lies⟩ := h i hi hij'
    refine ⟨cs, fun q u hu => ?_, hl, V.lies_keep (fun h => h) (fun x hx => e5 x (by have := hx.1; omega)) (fun x hx => ⟨hx.1, by rw [e6]; exact hx.2⟩) _ lies⟩
    have := r q u hu
    have hq : q < 6 := by
      rcases Nat.lt_or_ge q 6 with h | h
      · exact h
      · rw [List.getElem?_eq_none (by omega)] at hu; cases hu
    rw [cell_of_block h1] at this
    rw [cell_of_block e1, e3 _ (by omega)]
    exact this
  · obtain rfl : i = j := by omega
    exact ⟨_, e4, rfl, V.lies_keep (fun h => h) (fun x hx => e5 x (by have := hx.1; omega)) (fun x hx => ⟨hx.1, by rw [e6]; exact hx.2⟩) _ hv⟩

set_option maxHeartbeats 4000000 in
set_option maxRecDepth 100000 in
theorem anewL_any (l : List V) (R : Bool) (S : Nat → Prop) (al : Option Addr) (cl bl ol : Nat) (w : World) (hal : Headed al l.length cl bl ol) (hl : liesL R w S l bl ol) (hS : ∀ b, S b → b < w.heap.size) (hwt : wtL l ≤ 1099511627776)
    (ih : ∀ (j : Nat) (h : j < l.length) (cs : List Value) (W : World), (l[j]).lies R W S cs → (∀ b, S b → b < W.heap.size) → Calls Tryz.prog 43 #[.agg cs.toArray] W (AnPost l[j] W)) :
    Calls Tryz.prog 59 #[.slice al l.length cl] w (AnLPost l w) := by
  have HL : Hid (liesL R w S l bl ol) := hl
  have IH : Hid _ := ih
  clear hl ih
  have hlen := wtL_len l
  obtain ⟨i0, hi0, hz0, hz1, hz2⟩ := info_parts info25
  have hmk : ∀ W, (Instr.makeSlice 22 (.int .i64 (l.length : Int)) (.int .i64 (l.length : Int))).run Tryz.prog W = .ok (.slice (some ⟨W.heap.size, 0, none⟩) l.length l.length) (W.alloc (.cells (madeCells #[.int .i64 0, .bool false, .int .i64 0, .string ⟨#[]⟩, .slice none 0 0, .slice none 0 0] (l.length * 6)) 25)) := fun W => by
    have h := run_make (P := Tryz.prog) W 22 25 i0 _ Tryz.underlying22 hi0 hz0 .i64 .i64 (l.length : Int) (l.length : Int) (by omega) (by omega) (by rw [hz2]; omega) (by omega)
    rw [hz1] at h
    simpa [Value.cells] using h
  have hzm := alloc_size w (.cells (madeCells #[.int .i64 0, .bool false, .int .i64 0, .string ⟨#[]⟩, .slice none 0 0, .slice none 0 0] (l.length * 6)) 25)
  have B0 : Below w.heap.size w (w.alloc (.cells (madeCells #[.int .i64 0, .bool false, .int .i64 0, .string ⟨#[]⟩, .slice none 0 0, .slice none 0 0] (l.length * 6)) 25)) := (Below.refl _ _).alloc (Nat.le_refl _) _
  have K0 : Blk w.heap.size 25 (l.length * 6) (w.alloc (.cells (madeCells #[.int .i64 0, .bool false, .int .i64 0, .string ⟨#[]⟩, .slice none 0 0, .slice none 0 0] (l.length * 6)) 25)) := ⟨_, heap_alloc_new w _, size_madeCells _ _⟩
  clear hi0 hz0 hz1 hz2
  go_enter Tryz.func59, Tryz.ntmps59
  go_wp2_with fail
  clear hmk
  generalize (w.alloc (.cells (madeCells #[.int .i64 0, .bool false, .int .i64 0, .string ⟨#[]⟩, .slice none 0 0, .slice none 0 0] (l.length * 6)) 25)) = w0 at *
  go_loopw [11] (fun e wr => ∃ j : Nat, j ≤ l.length ∧ e = .int .i64 (j : Int) ∧ w0.heap.size ≤ wr.heap.size ∧ Hid (RowsL l j w.heap.size wr) ∧ Hid (Blk w.heap.size 25 (l.length * 6) wr) ∧ Below w.heap.size w wr) (fun e _ => l.length - (RowKit.intOf e).toNat)
  case atStart => exact ⟨0, by omega, rfl, by omega, (fun i hi hij => by omega), K0, B0⟩
  case round =>
    clear K0 B0
    obtain ⟨j, hj, rfl, hzr, HR, HK, bj⟩ := hrel
    by_cases hjl : j < l.length
    · have y1 : (j : Int) < l.length := by omega
      obtain ⟨hSb, csj, hrow, hlj⟩ := liesL_get HL.out j hjl
      obtain rfl : al = some ⟨bl, ol, none⟩ := hal.at_.resolve_left (by omega)
      have hkw : ∀ x, S x → wr.heap[x]? = w.heap[x]? := fun x hx => bj.block x (hS x hx)
      have hlj0 := hlj
      obtain ⟨ek, eb, ei, es, eal, enl, ecl, eam, enm, ecm, rfl⟩ := V.ten hlj
      obtain ⟨q0, q1, q2, q3, q4, q5⟩ := row6 (hrow.keep (hkw _ hSb))
      have hza := alloc_size wr (.cells #[.int .i64 ek, .bool eb, .int .i64 ei, .string es, .slice eal enl ecl, .slice eam enm ecm] 25)
      have ba : Below wr.heap.size wr (wr.alloc (.cells #[.int .i64 ek, .bool eb, .int .i64 ei, .string es, .slice eal enl ecl, .slice eam enm ecm] 25)) := (Below.refl _ _).alloc (Nat.le_refl _) _
      have hc := IH.out j hjl _ (wr.alloc (.cells #[.int .i64 ek, .bool eb, .int .i64 ei, .string es, .slice eal enl ecl, .slice eam enm ecm] 25)) (V.lies_keep (fun h => h) (fun x hx => (ba.block x (by have := hS x hx; omega)).trans (hkw x hx)) (fun _ h => h) _ hlj0) (fun x hx => by have := hS x hx; omega)
      have HR1 : Hid (RowsL l j w.heap.size (wr.alloc (.cells #[.int .i64 ek, .bool eb, .int .i64 ei, .string es, .slice eal enl ecl, .slice eam enm ecm] 25))) := HR.out.below (by omega) ba
      have HK1 : Hid (Blk w.heap.size 25 (l.length * 6) (wr.alloc (.cells #[.int .i64 ek, .bool eb, .int .i64 ei, .string es, .slice eal enl ecl, .slice eam enm ecm] 25))) := HK.out.keep (ba.block _ (by omega))
      have B1 : Below w.heap.size w (wr.alloc (.cells #[.int .i64 ek, .bool eb, .int .i64 ei, .string es, .slice eal enl ecl, .slice eam enm ecm] 25)) := bj.trans (ba.mono (by omega))
      clear hlj hlj0 hrow hkw HR HK
      go_wp2_with fail
      generalize (wr.alloc (.cells #[.int .i64 ek, .bool eb, .int .i64 ei, .string es, .slice eal enl ecl, .slice eam enm ecm] 25)) = wa at *
      refine hc.mono ?_
      rintro e w3 ⟨csu, rfl, hlu, b3⟩
      obtain ⟨uk, ub, ui, us, ual, unl, ucl, uam, unm, ucm, rfl⟩ := V.ten hlu
      have hz3 := b3.size
      have HK3 : Blk w.heap.size 25 (l.length * 6) w3 := HK1.out.keep (b3.block _ (by omega))
      have HR3 := HR1.out.below (by omega) b3
      have B3 := B1.trans (b3.mono (by omega))
      have hlu3 : (l[j]).lies false w3 (fun x => w.heap.size < x ∧ x < w3.heap.size) [.int .i64 uk, .bool ub, .int .i64 ui, .string us, .slice ual unl ucl, .slice uam unm ucm] := V.lies_keep (fun h => h) (fun _ _ => rfl) (fun x hx => ⟨by have := hx.1; omega, hx.2⟩) _ hlu
      have HS : Hid _ := HR3.store HK3 hjl (by omega) hlu3 B3 (Nat.le_refl _)
      obtain ⟨v0, k0⟩ := HK3.cell (j * 6) (by omega)
      obtain ⟨v1, k1⟩ := HK3.cell (j * 6 + 1) (by omega)
      obtain ⟨v2, k2⟩ := HK3.cell (j * 6 + 2) (by omega)
      obtain ⟨v3, k3⟩ := HK3.cell (j * 6 + 3) (by omega)
      obtain ⟨v4, k4⟩ := HK3.cell (j * 6 + 4) (by omega)
      obtain ⟨v5, k5⟩ := HK3.cell (j * 6 + 5) (by omega)
      have kf := HK3.frozen
      clear hlu hlu3 HR3 HK3 HR1 HK1 B3 B1 b3 q0 q1 q2 q3 q4 q5 hc ba
      go_wp2_with fail
      go_roundw
      case rel => exact ⟨j + 1, by omega, by go_num, by simp [size_set1]; omega, HS.out.1, HS.out.2.1, HS.out.2.2⟩
      case measure => simp [RowKit.intOf]; omega
    · obtain rfl : j = l.length := by omega
      have y1 : ¬ (l.length : Int) < l.length := by omega
      have HF : Hid (liesL false wr (New w wr) l w.heap.size 0) := liesL_mk fun i hi => by
        obtain ⟨cs, r, _, lies⟩ := HR.out i hi hi
        exact ⟨⟨Nat.le_refl _, by omega⟩, cs, by rw [Nat.zero_add]; exact r, V.lies_keep (fun h => h) (fun _ _ => rfl) (fun x hx => ⟨by have := hx.1; omega, hx.2⟩) _ lies⟩
      clear HR HK
      go_wp2_with fail
      go_ret
      exact ⟨w.heap.size, rfl, HF.out, bj⟩
end Go.Proofs.YtejcfkkkbnnmcaaGreatDoor

/- value.anewMap. -/
set_option linter.unusedSimpArgs false
set_option linter.unusedVariables false
namespace Go.Proofs.YtejcfkkkbnnmcaaGreatDoor
open Go.RowKit Go.Lib

/-- the rows that stand so far in the block g -/
def RowsM (l : List Mem) (j g : Nat) (w : World) : Prop := ∀ (i : Nat) (h : i < l.length), i < j → ∃ cs, rowAt w g (i * 7) (.string (l[i]).1 :: cs) ∧ cs.length = 6 ∧ (l[i]).1.size ≤ maxLen ∧ (l[i]).2.lies false w (fun x => g < x ∧ x < w.heap.size) cs
theorem RowsM.below {l : List Mem} {j g : Nat} {w w' : World} (h : RowsM l j g w) (hg : g < w.heap.size) (hb : Below w.heap.size w w') : RowsM l j g w' := fun i hi hij => by
  obtain ⟨cs, r, hl, hks, lies⟩ := h i hi hij
  exact ⟨cs, r.keep (hb.block g hg), hl, hks, V.lies_keep (fun h => h) (fun x hx => hb.block x hx.2) (fun x hx => ⟨hx.1, Nat.lt_of_lt_of_le hx.2 hb.size⟩) _ lies⟩
/-- one row more -/
theorem RowsM.store {l : List Mem} {j g n : Nat} {w w3 : World} (h : RowsM l j g w3) (hB : Blk g 42 n w3) (hj : j < l.length) (hn : j * 7 + 7 ≤ n) {c1 c2 c3 c4 c5 c6 : Value} (hks : (l[j]).1.size ≤ maxLen) (hv : (l[j]).2.lies false w3 (fun x => g < x ∧ x < w3.heap.size) [c1, c2, c3, c4, c5, c6]) (hw : Below w.heap.size w w3) (hg : w.heap.size ≤ g) :
    RowsM l (j + 1) g (((((((w3.setCell ⟨g, j * 7, none⟩ (.string (l[j]).1)).setCell ⟨g, j * 7 + 1, none⟩ c1).setCell ⟨g, j * 7 + 2, none⟩ c2).setCell ⟨g, j * 7 + 3, none⟩ c3).setCell ⟨g, j * 7 + 4, none⟩ c4).setCell ⟨g, j * 7 + 5, none⟩ c5).setCell ⟨g, j * 7 + 6, none⟩ c6) ∧
    Blk g 42 n (((((((w3.setCell ⟨g, j * 7, none⟩ (.string (l[j]).1)).setCell ⟨g, j * 7 + 1, none⟩ c1).setCell ⟨g, j * 7 + 2, none⟩ c2).setCell ⟨g, j * 7 + 3, none⟩ c3).setCell ⟨g, j * 7 + 4, none⟩ c4).setCell ⟨g, j * 7 + 5, none⟩ c5).setCell ⟨g, j * 7 + 6, none⟩ c6) ∧
    Below w.heap.size w (((((((w3.setCell ⟨g, j * 7, none⟩ (.string (l[j]).1)).setCell ⟨g, j * 7 + 1, none⟩ c1).setCell ⟨g, j * 7 + 2, none⟩ c2).setCell ⟨g, j * 7 + 3, none⟩ c3).setCell ⟨g, j * 7 + 4, none⟩ c4).setCell ⟨g, j * 7 + 5, none⟩ c5).setCell ⟨g, j * 7 + 6, none⟩ c6) := by
  obtain ⟨arr, h1, h2⟩ := hB
  obtain ⟨arr', e1, e2, e3, e4, e5, e6⟩ := set7_row h1 (o := j * 7) (by omega) (.string (l[j]).1) c1 c2 c3 c4 c5 c6
  have hBl : Below w.heap.size w (((((((w3.setCell ⟨g, j * 7, none⟩ (.string (l[j]).1)).setCell ⟨g, j * 7 + 1, none⟩ c1).setCell ⟨g, j * 7 + 2, none⟩ c2).setCell ⟨g, j * 7 + 3, none⟩ c3).setCell ⟨g, j * 7 + 4, none⟩ c4).setCell ⟨g, j * 7 + 5, none⟩ c5).setCell ⟨g, j * 7 + 6, none⟩ c6) := by
    repeat (refine Below.setCell ?_ (by assumption) _)
    exact hw
  generalize (((((((w3.setCell ⟨g, j * 7, none⟩ (.string (l[j]).1)).setCell ⟨g, j * 7 + 1, none⟩ c1).setCell ⟨g, j * 7 + 2, none⟩ c2).setCell ⟨g, j * 7 + 3, none⟩ c3).setCell ⟨g, j * 7 + 4, none⟩ c4).setCell ⟨g, j * 7 + 5, none⟩ c5).setCell ⟨g, j * 7 + 6, none⟩ c6) = W at *
  refine ⟨fun i hi hij => ?_, ⟨arr', e1, by omega⟩, hBl⟩
  by_cases hij' : i < j
  · obtain ⟨cs, r, hl, hks', lies⟩ := h i hi hij'
    refine ⟨cs, fun q u hu => ?_, hl, hks', V.lies_keep (fun h => h) (fun x hx => e5 x (by have := hx.1; omega)) (fun x hx => ⟨hx.1, by rw [e6]; exact hx.2⟩) _ lies⟩
    have := r q u hu
    have hq : q < 7 := by
      rcases Nat.lt_or_ge q 7 with h | h
      · exact h
      · rw [List.getElem?_eq_none (by simp; omega)] at hu; cases hu
    rw [cell_of_block h1] at this
    rw [cell_of_block e1, e3 _ (by omega)]
    exact this
  · obtain rfl : i = j := by omega
    exact ⟨_, e4, rfl, hks, V.lies_keep (fun h => h) (fun x hx => e5 x (by have := hx.1; omega)) (fun x hx => ⟨hx.1, by rw [e6]; exact hx.2⟩) _ hv⟩

set_option maxHeartbeats 1600000 in
set_option maxRecDepth 100000 in
theorem anewM_any (l : List Mem) (R : Bool) (S : Nat → Prop) (al : Option Addr) (cl bl ol : Nat) (w : World) (hal : Headed al l.length cl bl ol) (hl : liesM R w S l bl ol) (hS : ∀ b, S b → b < w.heap.size) (hwt : wtM l ≤ 1099511627776)
    (ih : ∀ (j : Nat) (h : j < l.length) (cs : List Value) (W : World), (l[j]).2.lies R W S cs → (∀ b, S b → b < W.heap.size) → Calls Tryz.prog 43 #[.agg cs.toArray] W (AnPost (l[j]).2 W)) :
    Calls Tryz.prog 60 #[.slice al l.length cl] w (AnMPost l w) := by
  have HL : Hid (liesM R w S l bl ol) := hl
  have IH : Hid _ := ih
  clear hl ih
  have hlen := wtM_len l
  obtain ⟨i0, hi0, hz0, hz1, hz2⟩ := info_parts info44
  have hmk : ∀ W, (Instr.makeSlice 23 (.int .i64 (l.length : Int)) (.int .i64 (l.length : Int))).run Tryz.prog W = .ok (.slice (some ⟨W.heap.size, 0, none⟩) l.length l.length) (W.alloc (.cells (madeCells #[.string ⟨#[]⟩, .int .i64 0, .bool false, .int .i64 0, .string ⟨#[]⟩, .slice none 0 0, .slice none 0 0] (l.length * 7)) 42)) := fun W => by
    have h := run_make (P := Tryz.prog) W 23 42 i0 _ Tryz.underlying23 hi0 hz0 .i64 .i64 (l.length : Int) (l.length : Int) (by omega) (by omega) (by rw [hz2]; omega) (by omega)
    rw [hz1] at h
    simpa [Value.cells] using h
  have hzm := alloc_size w (.cells (madeCells #[.string ⟨#[]⟩, .int .i64 0, .bool false, .int .i64 0, .string ⟨#[]⟩, .slice none 0 0, .slice none 0 0] (l.length * 7)) 42)
  have B0 : Below w.heap.size w (w.alloc (.cells (madeCells #[.string ⟨#[]⟩, .int .i64 0, .bool false, .int .i64 0, .string ⟨#[]⟩, .slice none 0 0, .slice none 0 0] (l.length * 7)) 42)) := (Below.refl _ _).alloc (Nat.le_refl _) _
  have K0 : Blk w.heap.size 42 (l.length * 7) (w.alloc (.cells (madeCells #[.string ⟨#[]⟩, .int .i64 0, .bool false, .int .i64 0, .string ⟨#[]⟩, .slice none 0 0, .slice none 0 0] (l.length * 7)) 42)) := ⟨_, heap_alloc_new w _, size_madeCells _ _⟩
  clear hi0 hz0 hz1 hz2
  go_enter Tryz.func60, Tryz.ntmps60
  go_wp2_with fail
  clear hmk
  generalize (w.alloc (.cells (madeCells #[.string ⟨#[]⟩, .int .i64 0, .bool false, .int .i64 0, .string ⟨#[]⟩, .slice none 0 0, .slice none 0 0] (l.length * 7)) 42)) = w0 at *
  go_loopw [11] (fun e wr => ∃ j : Nat, j ≤ l.length ∧ e = .int .i64 (j : Int) ∧ w0.heap.size ≤ wr.heap.size ∧ Hid (RowsM l j w.heap.size wr) ∧ Hid (Blk w.heap.size 42 (l.length * 7) wr) ∧ Below w.heap.size w wr) (fun e _ => l.length - (RowKit.intOf e).toNat)
  case atStart => exact ⟨0, by omega, rfl, by omega, (fun i hi hij => by omega), K0, B0⟩
  case round =>
    clear K0 B0
    obtain ⟨j, hj, rfl, hzr, HR, HK, bj⟩ := hrel
    by_cases hjl : j < l.length
    · have y1 : (j : Int) < l.length := by omega
      obtain ⟨hSb, hks, csj, hrow, hlj⟩ := liesM_get HL.out j hjl
      obtain rfl : al = some ⟨bl, ol, none⟩ := hal.at_.resolve_left (by omega)
      have hkw : ∀ x, S x → wr.heap[x]? = w.heap[x]? := fun x hx => bj.block x (hS x hx)
      have hlj0 := hlj
      obtain ⟨ek, eb, ei, es, eal, enl, ecl, eam, enm, ecm, rfl⟩ := V.ten hlj
      obtain ⟨ekey, hek⟩ : ∃ ekey, (l[j]).1 = ekey := ⟨_, rfl⟩
      rw [hek] at hrow
      obtain ⟨q, q0, q1, q2, q3, q4, q5⟩ := row7 (hrow.keep (hkw _ hSb))
      have hza := alloc_size wr (.cells #[.string ekey, .int .i64 ek, .bool eb, .int .i64 ei, .string es, .slice eal enl ecl, .slice eam enm ecm] 42)
      have ba : Below wr.heap.size wr (wr.alloc (.cells #[.string ekey, .int .i64 ek, .bool eb, .int .i64 ei, .string es, .slice eal enl ecl, .slice eam enm ecm] 42)) := (Below.refl _ _).alloc (Nat.le_refl _) _
      have hr7 := box_row wr [.string ekey, .int .i64 ek, .bool eb, .int .i64 ei, .string es, .slice eal enl ecl, .slice eam enm ecm] 42
      have HC : Hid (∀ W, Below (wr.alloc (.cells #[.string ekey, .int .i64 ek, .bool eb, .int .i64 ei, .string es, .slice eal enl ecl, .slice eam enm ecm] 42)).heap.size (wr.alloc (.cells #[.string ekey, .int .i64 ek, .bool eb, .int .i64 ei, .string es, .slice eal enl ecl, .slice eam enm ecm] 42)) W → Calls Tryz.prog 43 #[.agg #[.int .i64 ek, .bool eb, .int .i64 ei, .string es, .slice eal enl ecl, .slice eam enm ecm]] W (AnPost (l[j]).2 W)) := fun W hb =>
        IH.out j hjl _ W (V.lies_keep (fun h => h) (fun x hx => (hb.block x (by have := hS x hx; omega)).trans ((ba.block x (by have := hS x hx; omega)).trans (hkw x hx))) (fun _ h => h) _ hlj0) (fun x hx => by have := hS x hx; have := hb.size; omega)
      have HR1 : Hid (RowsM l j w.heap.size (wr.alloc (.cells #[.string ekey, .int .i64 ek, .bool eb, .int .i64 ei, .string es, .slice eal enl ecl, .slice eam enm ecm] 42))) := HR.out.below (by omega) ba
      have HK1 : Hid (Blk w.heap.size 42 (l.length * 7) (wr.alloc (.cells #[.string ekey, .int .i64 ek, .bool eb, .int .i64 ei, .string es, .slice eal enl ecl, .slice eam enm ecm] 42))) := HK.out.keep (ba.block _ (by omega))
      have B1 : Below w.heap.size w (wr.alloc (.cells #[.string ekey, .int .i64 ek, .bool eb, .int .i64 ei, .string es, .slice eal enl ecl, .slice eam enm ecm] 42)) := bj.trans (ba.mono (by omega))
      clear hlj hlj0 hrow hkw HR HK
      go_wp2_with fail
      clear q q0 q1 q2 q3 q4 q5
      generalize (wr.alloc (.cells #[.string ekey, .int .i64 ek, .bool eb, .int .i64 ei, .string es, .slice eal enl ecl, .slice eam enm ecm] 42)) = wa at *
      have KP : Hid (∀ W', Below wa.heap.size wa W' → W'.cell? ⟨wr.heap.size, 0, none⟩ = some (.string ekey) ∧ W'.cell? ⟨wr.heap.size, 1, none⟩ = some (.int .i64 ek) ∧ W'.cell? ⟨wr.heap.size, 2, none⟩ = some (.bool eb) ∧ W'.cell? ⟨wr.heap.size, 3, none⟩ = some (.int .i64 ei) ∧ W'.cell? ⟨wr.heap.size, 4, none⟩ = some (.string es) ∧ W'.cell? ⟨wr.heap.size, 5, none⟩ = some (.slice eal enl ecl) ∧ W'.cell? ⟨wr.heap.size, 6, none⟩ = some (.slice eam enm ecm)) := fun W' hb => by
        obtain ⟨m, m0, m1, m2, m3, m4, m5⟩ := row7 (hr7.keep (hb.block _ (by omega)))
        simp only [Nat.zero_add] at m m0 m1 m2 m3 m4 m5
        exact ⟨m, m0, m1, m2, m3, m4, m5⟩
      have hne : wr.heap.size ≠ w.heap.size := by omega
      have KS : Hid (∀ W0 a0 a1 a2 a3 a4 a5 a6, Below wa.heap.size wa W0 → (((((((W0.setCell ⟨w.heap.size, j * 7, none⟩ a0).setCell ⟨w.heap.size, j * 7 + 1, none⟩ a1).setCell ⟨w.heap.size, j * 7 + 2, none⟩ a2).setCell ⟨w.heap.size, j * 7 + 3, none⟩ a3).setCell ⟨w.heap.size, j * 7 + 4, none⟩ a4).setCell ⟨w.heap.size, j * 7 + 5, none⟩ a5).setCell ⟨w.heap.size, j * 7 + 6, none⟩ a6).cell? ⟨wr.heap.size, 0, none⟩ = some (.string ekey) ∧ (((((((W0.setCell ⟨w.heap.size, j * 7, none⟩ a0).setCell ⟨w.heap.size, j * 7 + 1, none⟩ a1).setCell ⟨w.heap.size, j * 7 + 2, none⟩ a2).setCell ⟨w.heap.size, j * 7 + 3, none⟩ a3).setCell ⟨w.heap.size, j * 7 + 4, none⟩ a4).setCell ⟨w.heap.size, j * 7 + 5, none⟩ a5).setCell ⟨w.heap.size, j * 7 + 6, none⟩ a6).cell? ⟨wr.heap.size, 1, none⟩ = some (.int .i64 ek) ∧ (((((((W0.setCell ⟨w.heap.size, j * 7, none⟩ a0).setCell ⟨w.heap.size, j * 7 + 1, none⟩ a1).setCell ⟨w.heap.size, j * 7 + 2, none⟩ a2).setCell ⟨w.heap.size, j * 7 + 3, none⟩ a3).setCell ⟨w.heap.size, j * 7 + 4, none⟩ a4).setCell ⟨w.heap.size, j * 7 + 5, none⟩ a5).setCell ⟨w.heap.size, j * 7 + 6, none⟩ a6).cell? ⟨wr.heap.size, 2, none⟩ = some (.bool eb) ∧ (((((((W0.setCell ⟨w.heap.size, j * 7, none⟩ a0).setCell ⟨w.heap.size, j * 7 + 1, none⟩ a1).setCell ⟨w.heap.size, j * 7 + 2, none⟩ a2).setCell ⟨w.heap.size, j * 7 + 3, none⟩ a3).setCell ⟨w.heap.size, j * 7 + 4, none⟩ a4).setCell ⟨w.heap.size, j * 7 + 5, none⟩ a5).setCell ⟨w.heap.size, j * 7 + 6, none⟩ a6).cell? ⟨wr.heap.size, 3, none⟩ = some (.int .i64 ei) ∧ (((((((W0.setCell ⟨w.heap.size, j * 7, none⟩ a0).setCell ⟨w.heap.size, j * 7 + 1, none⟩ a1).setCell ⟨w.heap.size, j * 7 + 2, none⟩ a2).setCell ⟨w.heap.size, j * 7 + 3, none⟩ a3).setCell ⟨w.heap.size, j * 7 + 4, none⟩ a4).setCell ⟨w.heap.size, j * 7 + 5, none⟩ a5).setCell ⟨w.heap.size, j * 7 + 6, none⟩ a6).cell? ⟨wr.heap.size, 4, none⟩ = some (.string es) ∧ (((((((W0.setCell ⟨w.heap.size, j * 7, none⟩ a0).setCell ⟨w.heap.size, j * 7 + 1, none⟩ a1).setCell ⟨w.heap.size, j * 7 + 2, none⟩ a2).setCell ⟨w.heap.size, j * 7 + 3, none⟩ a3).setCell ⟨w.heap.size, j * 7 + 4, none⟩ a4).setCell ⟨w.heap.size, j * 7 + 5, none⟩ a5).setCell ⟨w.heap.size, j * 7 + 6, none⟩ a6).cell? ⟨wr.heap.size, 5, none⟩ = some (.slice eal enl ecl) ∧ (((((((W0.setCell ⟨w.heap.size, j * 7, none⟩ a0).setCell ⟨w.heap.size, j * 7 + 1, none⟩ a1).setCell ⟨w.heap.size, j * 7 + 2, none⟩ a2).setCell ⟨w.heap.size, j * 7 + 3, none⟩ a3).setCell ⟨w.heap.size, j * 7 + 4, none⟩ a4).setCell ⟨w.heap.size, j * 7 + 5, none⟩ a5).setCell ⟨w.heap.size, j * 7 + 6, none⟩ a6).cell? ⟨wr.heap.size, 6, none⟩ = some (.slice eam enm ecm)) := fun W0 a0 a1 a2 a3 a4 a5 a6 hb => by
        have K := KP.out W0 hb
        simp only [cell_set_ne hne]
        exact K
      have BD : Hid (Below wa.heap.size wa wa.drew) := (Below.refl _ _).drew
      have h7 : Hid (w.heap.size < wa.heap.size ∧ wr.heap.size < wa.heap.size) := ⟨by omega, by omega⟩
      have HF3 : Hid (∀ (w3 : World) (uk : Int) (ub : Bool) (ui : Int) (us : ByteArray) (ual : Option Addr) (unl ucl : Nat) (uam : Option Addr) (unm ucm : Nat), Below wa.heap.size wa w3 → (l[j]).2.lies false w3 (New wa w3) [.int .i64 uk, .bool ub, .int .i64 ui, .string us, .slice ual unl ucl, .slice uam unm ucm] → (RowsM l (j + 1) w.heap.size (((((((w3.setCell ⟨w.heap.size, j * 7, none⟩ (.string (l[j]).1)).setCell ⟨w.heap.size, j * 7 + 1, none⟩ (.int .i64 uk)).setCell ⟨w.heap.size, j * 7 + 2, none⟩ (.bool ub)).setCell ⟨w.heap.size, j * 7 + 3, none⟩ (.int .i64 ui)).setCell ⟨w.heap.size, j * 7 + 4, none⟩ (.string us)).setCell ⟨w.heap.size, j * 7 + 5, none⟩ (.slice ual unl ucl)).setCell ⟨w.heap.size, j * 7 + 6, none⟩ (.slice uam unm ucm)) ∧ Blk w.heap.size 42 (l.length * 7) (((((((w3.setCell ⟨w.heap.size, j * 7, none⟩ (.string (l[j]).1)).setCell ⟨w.heap.size, j * 7 + 1, none⟩ (.int .i64 uk)).setCell ⟨w.heap.size, j * 7 + 2, none⟩ (.bool ub)).setCell ⟨w.heap.size, j * 7 + 3, none⟩ (.int .i64 ui)).setCell ⟨w.heap.size, j * 7 + 4, none⟩ (.string us)).setCell ⟨w.heap.size, j * 7 + 5, none⟩ (.slice ual unl ucl)).setCell ⟨w.heap.size, j * 7 + 6, none⟩ (.slice uam unm ucm)) ∧ Below w.heap.size w (((((((w3.setCell ⟨w.heap.size, j * 7, none⟩ (.string (l[j]).1)).setCell ⟨w.heap.size, j * 7 + 1, none⟩ (.int .i64 uk)).setCell ⟨w.heap.size, j * 7 + 2, none⟩ (.bool ub)).setCell ⟨w.heap.size, j * 7 + 3, none⟩ (.int .i64 ui)).setCell ⟨w.heap.size, j * 7 + 4, none⟩ (.string us)).setCell ⟨w.heap.size, j * 7 + 5, none⟩ (.slice ual unl ucl)).setCell ⟨w.heap.size, j * 7 + 6, none⟩ (.slice uam unm ucm))) ∧ Blk w.heap.size 42 (l.length * 7) w3) := fun w3 uk ub ui us ual unl ucl uam unm ucm b3 hlu => by
        have hz3 := b3.size
        have HK3 : Blk w.heap.size 42 (l.length * 7) w3 := HK1.out.keep (b3.block _ (by omega))
        have HR3 := HR1.out.below (by omega) b3
        have B3 := B1.trans (b3.mono (by omega))
        have hlu3 : (l[j]).2.lies false w3 (fun x => w.heap.size < x ∧ x < w3.heap.size) [.int .i64 uk, .bool ub, .int .i64 ui, .string us, .slice ual unl ucl, .slice uam unm ucm] := V.lies_keep (fun h => h) (fun _ _ => rfl) (fun x hx => ⟨by have := hx.1; omega, hx.2⟩) _ hlu
        exact ⟨HR3.store HK3 hjl (by omega) hks hlu3 B3 (Nat.le_refl _), HK3⟩
      clear HR1 HK1 B1 hr7 ba
      refine wp_region_held_drew (S := (fun W' => W'.cell? ⟨wr.heap.size, 0, none⟩ = some (.string ekey) ∧ W'.cell? ⟨wr.heap.size, 1, none⟩ = some (.int .i64 ek) ∧ W'.cell? ⟨wr.heap.size, 2, none⟩ = some (.bool eb) ∧ W'.cell? ⟨wr.heap.size, 3, none⟩ = some (.int .i64 ei) ∧ W'.cell? ⟨wr.heap.size, 4, none⟩ = some (.string es) ∧ W'.cell? ⟨wr.heap.size, 5, none⟩ = some (.slice eal enl ecl) ∧ W'.cell? ⟨wr.heap.size, 6, none⟩ = some (.slice eam enm ecm))) (by kernel_rfl) (KP.out _ BD.out) (fun hHeld => ?_)
      (refine wpAnyH_take (i := 0) (v := ?_) rfl (by kernel_rfl) (by kernel_rfl) (by kernel_rfl) (fun _ _ _ h => h) (Or.inl ⟨by rfl, ?_⟩) (by assumption) ?_; rotate_left 1; (intro W0 hSw; (try dsimp only at hSw); go_simp; (try with_reducible rfl)); (try simp only [Act.put, List.setIfInBounds_toArray, List.set_cons_zero, List.set_cons_succ]))
      (refine wpAnyH_take (i := 1) (v := ?_) rfl (by kernel_rfl) (by kernel_rfl) (by kernel_rfl) (fun _ _ _ h => h) (Or.inl ⟨by rfl, ?_⟩) (by assumption) ?_; rotate_left 1; (intro W0 hSw; (try dsimp only at hSw); go_simp; (try with_reducible rfl)); (try simp only [Act.put, List.setIfInBounds_toArray, List.set_cons_zero, List.set_cons_succ]))
      (refine wpAnyH_take (i := 2) (v := ?_) rfl (by kernel_rfl) (by kernel_rfl) (by kernel_rfl) (fun _ _ _ h => h) (Or.inl ⟨by rfl, ?_⟩) (by assumption) ?_; rotate_left 1; (intro W0 hSw; (try dsimp only at hSw); go_simp; (try with_reducible rfl)); (try simp only [Act.put, List.setIfInBounds_toArray, List.set_cons_zero, List.set_cons_succ]))
      (refine wpAnyH_take (i := 3) (v := ?_) rfl (by kernel_rfl) (by kernel_rfl) (by kernel_rfl) (fun _ _ _ h => h) (Or.inl ⟨by rfl, ?_⟩) (by assumption) ?_; rotate_left 1; (intro W0 hSw; (try dsimp only at hSw); go_simp; (try with_reducible rfl)); (try simp only [Act.put, List.setIfInBounds_toArray, List.set_cons_zero, List.set_cons_succ]))
      (refine wpAnyH_take (i := 4) (v := ?_) rfl (by kernel_rfl) (by kernel_rfl) (by kernel_rfl) (fun _ _ _ h => h) (Or.inl ⟨by rfl, ?_⟩) (by assumption) ?_; rotate_left 1; (intro W0 hSw; (try dsimp only at hSw); go_simp; (try with_reducible rfl)); (try simp only [Act.put, List.setIfInBounds_toArray, List.set_cons_zero, List.set_cons_succ]))
      (refine wpAnyH_take (i := 5) (v := ?_) rfl (by kernel_rfl) (by kernel_rfl) (by kernel_rfl) (fun _ _ _ h => h) (Or.inl ⟨by rfl, ?_⟩) (by assumption) ?_; rotate_left 1; (intro W0 hSw; (try dsimp only at hSw); go_simp; (try with_reducible rfl)); (try simp only [Act.put, List.setIfInBounds_toArray, List.set_cons_zero, List.set_cons_succ]))
      refine wpAnyH_ready (rs := [6]) (by kernel_rfl) (by simp) ?_
      refine AllReadyH.cons rfl (fun K hK => ?_) AllReadyH.nil
      go_simp
      refine (HC.out wa.drew BD.out).mono ?_
      rintro e w3 ⟨csu, rfl, hlu, b3'⟩
      have b3 : Hid (Below wa.heap.size wa w3) := BD.out.trans b3'
      clear b3'
      obtain ⟨uk, ub, ui, us, ual, unl, ucl, uam, unm, ucm, rfl⟩ := V.ten hlu
      have HX : Hid _ := HF3.out w3 uk ub ui us ual unl ucl uam unm ucm b3.out hlu
      clear hlu
      obtain ⟨v0, k0⟩ := HX.out.2.cell (j * 7) (by omega)
      obtain ⟨v1, k1⟩ := HX.out.2.cell (j * 7 + 1) (by omega)
      obtain ⟨v2, k2⟩ := HX.out.2.cell (j * 7 + 2) (by omega)
      obtain ⟨v3, k3⟩ := HX.out.2.cell (j * 7 + 3) (by omega)
      obtain ⟨v4, k4⟩ := HX.out.2.cell (j * 7 + 4) (by omega)
      obtain ⟨v5, k5⟩ := HX.out.2.cell (j * 7 + 5) (by omega)
      obtain ⟨v6, k6⟩ := HX.out.2.cell (j * 7 + 6) (by omega)
      have kf := HX.out.2.frozen
      go_wp2_with fail
      refine hK.out _ _ (KP.out _ b3.out) (fun hHeld => ?_)
      clear hK K
      (try simp only [Act.put, List.setIfInBounds_toArray, List.set_cons_zero, List.set_cons_succ])
      (refine wpAnyH_take (i := 7) (v := ?_) rfl (by kernel_rfl) (by kernel_rfl) (by kernel_rfl) (fun _ _ _ h => h) (Or.inl ⟨by rfl, ?_⟩) (by assumption) ?_; rotate_left 1; (intro W0 hSw; (try dsimp only at hSw); go_simp; (try with_reducible rfl)); (try simp only [Act.put, List.setIfInBounds_toArray, List.set_cons_zero, List.set_cons_succ]))
      (refine wpAnyH_take (i := 8) (v := ?_) rfl (by kernel_rfl) (by kernel_rfl) (by kernel_rfl) (fun _ _ _ h => h) (Or.inl ⟨by rfl, ?_⟩) (by assumption) ?_; rotate_left 1; (intro W0 hSw; (try dsimp only at hSw); go_simp; (try with_reducible rfl)); (try simp only [Act.put, List.setIfInBounds_toArray, List.set_cons_zero, List.set_cons_succ]))
      refine wpAnyH_ready (rs := [9]) (by kernel_rfl) (by simp) ?_
      refine AllReadyH.cons rfl (fun K hK => ?_) AllReadyH.nil
      go_simp
      refine hK.out _ _ (KS.out _ _ _ _ _ _ _ _ b3.out) (fun hHeld => ?_)
      clear hK K
      (try simp only [Act.put, List.setIfInBounds_toArray, List.set_cons_zero, List.set_cons_succ])
      refine wpAnyH_done (by kernel_rfl) ?_ _
      have hz3 := b3.out.size
      have HS := HX.out.1
      rw [hek] at HS
      have HSH : Hid _ := HS
      clear HS HX k0 k1 k2 k3 k4 k5 k6 kf HF3
      go_wp2_with fail
      go_roundw
      case rel => exact ⟨j + 1, by omega, by go_num, by simp [size_set1]; omega, HSH.out.1, HSH.out.2.1, HSH.out.2.2⟩
      case measure => simp [RowKit.intOf]; omega
    · obtain rfl : j = l.length := by omega
      have y1 : ¬ (l.length : Int) < l.length := by omega
      have HF : Hid (liesM false wr (New w wr) l w.heap.size 0) := liesM_mk fun i hi => by
        obtain ⟨cs, r, _, hk2, lies⟩ := HR.out i hi hi
        exact ⟨⟨Nat.le_refl _, by omega⟩, hk2, cs, by rw [Nat.zero_add]; exact r, V.lies_keep (fun h => h) (fun _ _ => rfl) (fun x hx => ⟨by have := hx.1; omega, hx.2⟩) _ lies⟩
      clear HR HK
      go_wp2_with fail
      go_ret
      exact ⟨w.heap.size, rfl, HF.out, bj⟩
end Go.Proofs.YtejcfkkkbnnmcaaGreatDoor

/- value.anew: the same value in memory of its own. -/
set_option linter.unusedSimpArgs false
set_option linter.unusedVariables false
namespace Go.Proofs.YtejcfkkkbnnmcaaGreatDoor
open Go.RowKit Go.Lib

theorem liesL_setA {w : World} {B M : Nat} {l : List V} {b o : Nat} (h : liesL false w (From B w) l b o) (hM : M < B) (i : Nat) (u : Value) : liesL false (w.setCell ⟨M, i, none⟩ u) (From B (w.setCell ⟨M, i, none⟩ u)) l b o :=
  liesL_keep (fun h => h) (fun x hx => set_other (by have := hx.1; omega)) (fun x hx => ⟨hx.1, by rw [size_set1]; exact hx.2⟩) l h
theorem liesL_set6A {w : World} {B M : Nat} {l : List V} {b o : Nat} (h : liesL false w (From B w) l b o) (hM : M < B) (i1 i2 i3 i4 i5 i6 : Nat) (u1 u2 u3 u4 u5 u6 : Value) :
    liesL false ((((((w.setCell ⟨M, i1, none⟩ u1).setCell ⟨M, i2, none⟩ u2).setCell ⟨M, i3, none⟩ u3).setCell ⟨M, i4, none⟩ u4).setCell ⟨M, i5, none⟩ u5).setCell ⟨M, i6, none⟩ u6) (From B ((((((w.setCell ⟨M, i1, none⟩ u1).setCell ⟨M, i2, none⟩ u2).setCell ⟨M, i3, none⟩ u3).setCell ⟨M, i4, none⟩ u4).setCell ⟨M, i5, none⟩ u5).setCell ⟨M, i6, none⟩ u6)) l b o :=
  liesL_setA (liesL_setA (liesL_setA (liesL_setA (liesL_setA (liesL_setA h hM i1 u1) hM i2 u2) hM i3 u3) hM i4 u4) hM i5 u5) hM i6 u6
theorem liesL_below {w w' : World} {B : Nat} {l : List V} {b o : Nat} (h : liesL false w (From B w) l b o) (hb : Below w.heap.size w w') : liesL false w' (From B w') l b o :=
  liesL_keep (fun h => h) (fun x hx => hb.block x hx.2) (fun x hx => ⟨hx.1, Nat.lt_of_lt_of_le hx.2 hb.size⟩) l h
theorem an_fin {w W : World} {B : Nat} {k i : Int} {b : Bool} {s : ByteArray} {l : List V} {m : List Mem} {al am : Option Addr} {nl nm cl bl ol cm bm om : Nat} (hk : In64 k) (hi : In64 i) (hs : s.size ≤ maxLen) (hal : Headed al nl cl bl ol) (ham : Headed am nm cm bm om) (hb : w.heap.size ≤ B) (hl : liesL false W (From B W) l bl ol) (hm : liesM false W (From B W) m bm om) (hB : Below w.heap.size w W) (e1 : nl = l.length := by rfl) (e2 : nm = m.length := by rfl) :
    AnPost (V.mk k b i s l m) w (.returned (.agg #[.int .i64 k, .bool b, .int .i64 i, .string s, .slice al nl cl, .slice am nm cm])) W :=
  ⟨[.int .i64 k, .bool b, .int .i64 i, .string s, .slice al nl cl, .slice am nm cm], rfl, lies_S hk hi hs hal ham (liesL_keep (fun h => h) (fun _ _ => rfl) (fun x hx => ⟨Nat.le_trans hb hx.1, hx.2⟩) _ hl) (liesM_keep (fun h => h) (fun _ _ => rfl) (fun x hx => ⟨Nat.le_trans hb hx.1, hx.2⟩) _ hm) e1 e2, hB⟩
theorem headed_new (g n : Nat) (h : n ≤ maxLen) : Headed (some ⟨g, 0, none⟩) n n g 0 := ⟨Nat.le_refl _, h, .inr rfl, fun h => by cases h⟩

set_option maxHeartbeats 1000000 in
set_option maxRecDepth 100000 in
theorem anew_any (v : V) : ∀ (R : Bool) (S : Nat → Prop) (cs : List Value) (w : World), v.lies R w S cs → (∀ b, S b → b < w.heap.size) → v.wt ≤ 1099511627776 → Calls Tryz.prog 43 #[.agg cs.toArray] w (AnPost v w) := by
  induction v using V.ind_v with
  | h k b i s l m ihl ihm =>
  intro R S cs w hv hS hwt
  rw [V.lies] at hv
  obtain ⟨al, cl, bl, ol, am, cm, bm, om, rfl, hk, hi, hs, hal, ham, hl1, hm1, _⟩ := hv
  rw [V.wt] at hwt
  have hz2 : ((w.alloc (.cells #[.int .i64 k, .bool b, .int .i64 i, .string s, .slice al l.length cl, .slice am m.length cm] 25)).alloc (.cells #[.int .i64 0, .bool false, .int .i64 0, .string ⟨#[]⟩, .slice none 0 0, .slice none 0 0] 25)).heap.size = w.heap.size + 2 := by rw [alloc_size, alloc_size]
  have B0 : Below w.heap.size w ((w.alloc (.cells #[.int .i64 k, .bool b, .int .i64 i, .string s, .slice al l.length cl, .slice am m.length cm] 25)).alloc (.cells #[.int .i64 0, .bool false, .int .i64 0, .string ⟨#[]⟩, .slice none 0 0, .slice none 0 0] 25)) := two_below w _ _
  have h0 := alloc2_keep1 w (.cells #[.int .i64 k, .bool b, .int .i64 i, .string s, .slice al l.length cl, .slice am m.length cm] 25) (.cells #[.int .i64 0, .bool false, .int .i64 0, .string ⟨#[]⟩, .slice none 0 0, .slice none 0 0] 25)
  have h1 := alloc2_new w (.cells #[.int .i64 k, .bool b, .int .i64 i, .string s, .slice al l.length cl, .slice am m.length cm] 25) (.cells #[.int .i64 0, .bool false, .int .i64 0, .string ⟨#[]⟩, .slice none 0 0, .slice none 0 0] 25)
  have hlm : l.length ≤ maxLen := Nat.le_trans hal.le hal.max
  have hmm : m.length ≤ maxLen := Nat.le_trans ham.le ham.max
  have CL : Hid (∀ W, Below w.heap.size w W → Calls Tryz.prog 59 #[.slice al l.length cl] W (AnLPost l W)) := fun W hb =>
    anewL_any l R S al cl bl ol W hal (liesL_keep (fun h => h) (fun x hx => hb.block x (hS x hx)) (fun _ h => h) _ hl1) (fun x hx => Nat.lt_of_lt_of_le (hS x hx) hb.size) (by omega) (fun j h cs W2 h1 h2 => ihl l[j] (List.getElem_mem h) R S cs W2 h1 h2 (by have := wtL_mem (List.getElem_mem h); omega))
  have CM : Hid (∀ W, Below w.heap.size w W → Calls Tryz.prog 60 #[.slice am m.length cm] W (AnMPost m W)) := fun W hb =>
    anewM_any m R S am cm bm om W ham (liesM_keep (fun h => h) (fun x hx => hb.block x (hS x hx)) (fun _ h => h) _ hm1) (fun x hx => Nat.lt_of_lt_of_le (hS x hx) hb.size) (by omega) (fun j h cs W2 h1 h2 => ihm m[j] (List.getElem_mem h) R S cs W2 h1 h2 (by have := wtM_mem (List.getElem_mem h); omega))
  clear hl1 hm1 ihl ihm hal ham
  clear h0 h1
  by_cases e1 : l.length = 0
  · obtain rfl : l = [] := List.length_eq_zero_iff.1 e1
    by_cases e2 : m.length = 0
    · obtain rfl : m = [] := List.length_eq_zero_iff.1 e2
      go_enter Tryz.func43, Tryz.ntmps43
      go_wp2_with fail
      (try simp only [Exit.inBlock, Exit.then])
      refine bodyPost_ret (v := .agg #[.int .i64 k, .bool b, .int .i64 i, .string s, .slice none 0 0, .slice none 0 0]) (by rw [results_cell1 rfl]; go_simp) rfl ?_
      exact an_fin (B := w.heap.size) hk hi hs headed_nil headed_nil (Nat.le_refl _) (by rw [liesL]; trivial) (by rw [liesM]; trivial) (two_below w _ _)
    · have y2 : ¬ (m.length : Int) = 0 := by omega
      go_enter Tryz.func43, Tryz.ntmps43
      go_wp2_with fail
      refine (CM.out _ (two_below w _ _)).mono ?_
      rintro e w3 ⟨gM, rfl, hl3, b3⟩
      have hz3 := b3.size
      have t0 := (b3.block w.heap.size (by rw [alloc_size, alloc_size]; omega)).trans (alloc2_keep1 w _ _)
      have t1 := (b3.block (w.heap.size + 1) (by rw [alloc_size, alloc_size]; omega)).trans (alloc2_new w _ _)
      have HM : Hid (liesM false w3 (From (w.heap.size + 2) w3) m gM 0) := liesM_keep (fun h => h) (fun _ _ => rfl) (fun x hx => ⟨by have := hx.1; rw [alloc_size, alloc_size] at this; exact this, hx.2⟩) _ hl3
      have HB : Hid (Below w.heap.size w w3) := (two_below w _ _).trans (b3.mono (by rw [alloc_size, alloc_size]; omega))
      rw [alloc_size, alloc_size] at hz3
      clear hl3 b3
      have u0 : (w3.setCell ⟨w.heap.size, 5, none⟩ (.slice (some ⟨gM, 0, none⟩) m.length m.length)).heap[w.heap.size]? = some (.cells #[.int .i64 k, .bool b, .int .i64 i, .string s, .slice none 0 0, .slice (some ⟨gM, 0, none⟩) m.length m.length] 25 (0, 0)) := by rw [set_block t0]; rfl
      have u1 := (set_other (w := w3) (g := w.heap.size) (o := 5) (u := .slice (some ⟨gM, 0, none⟩) m.length m.length) (x := w.heap.size + 1) (by omega)).trans t1
      have ad0 : w3.cell? ⟨w.heap.size, 0, none⟩ = some (.int .i64 k) := by rw [cell_of_block t0]; rfl
      have ad1 : w3.cell? ⟨w.heap.size, 1, none⟩ = some (.bool b) := by rw [cell_of_block t0]; rfl
      have ad2 : w3.cell? ⟨w.heap.size, 2, none⟩ = some (.int .i64 i) := by rw [cell_of_block t0]; rfl
      have ad3 : w3.cell? ⟨w.heap.size, 3, none⟩ = some (.string s) := by rw [cell_of_block t0]; rfl
      have ad4 : w3.cell? ⟨w.heap.size, 4, none⟩ = some (.slice none 0 0) := by rw [cell_of_block t0]; rfl
      have ad5 : w3.cell? ⟨w.heap.size, 5, none⟩ = some (.slice am m.length cm) := by rw [cell_of_block t0]; rfl
      have ar0 : w3.cell? ⟨w.heap.size + 1, 0, none⟩ = some (.int .i64 0) := by rw [cell_of_block t1]; rfl
      have ar1 : w3.cell? ⟨w.heap.size + 1, 1, none⟩ = some (.bool false) := by rw [cell_of_block t1]; rfl
      have ar2 : w3.cell? ⟨w.heap.size + 1, 2, none⟩ = some (.int .i64 0) := by rw [cell_of_block t1]; rfl
      have ar3 : w3.cell? ⟨w.heap.size + 1, 3, none⟩ = some (.string ⟨#[]⟩) := by rw [cell_of_block t1]; rfl
      have ar4 : w3.cell? ⟨w.heap.size + 1, 4, none⟩ = some (.slice none 0 0) := by rw [cell_of_block t1]; rfl
      have ar5 : w3.cell? ⟨w.heap.size + 1, 5, none⟩ = some (.slice none 0 0) := by rw [cell_of_block t1]; rfl
      have af0 : ∀ i, w3.frozen? ⟨w.heap.size, i, none⟩ = false := frozen_of_block t0
      have af1 : ∀ i, w3.frozen? ⟨w.heap.size + 1, i, none⟩ = false := frozen_of_block t1
      have bd0 : (w3.setCell ⟨w.heap.size, 5, none⟩ (.slice (some ⟨gM, 0, none⟩) m.length m.length)).cell? ⟨w.heap.size, 0, none⟩ = some (.int .i64 k) := by rw [cell_of_block u0]; rfl
      have bd1 : (w3.setCell ⟨w.heap.size, 5, none⟩ (.slice (some ⟨gM, 0, none⟩) m.length m.length)).cell? ⟨w.heap.size, 1, none⟩ = some (.bool b) := by rw [cell_of_block u0]; rfl
      have bd2 : (w3.setCell ⟨w.heap.size, 5, none⟩ (.slice (some ⟨gM, 0, none⟩) m.length m.length)).cell? ⟨w.heap.size, 2, none⟩ = some (.int .i64 i) := by rw [cell_of_block u0]; rfl
      have bd3 : (w3.setCell ⟨w.heap.size, 5, none⟩ (.slice (some ⟨gM, 0, none⟩) m.length m.length)).cell? ⟨w.heap.size, 3, none⟩ = some (.string s) := by rw [cell_of_block u0]; rfl
      have bd4 : (w3.setCell ⟨w.heap.size, 5, none⟩ (.slice (some ⟨gM, 0, none⟩) m.length m.length)).cell? ⟨w.heap.size, 4, none⟩ = some (.slice none 0 0) := by rw [cell_of_block u0]; rfl
      have bd5 : (w3.setCell ⟨w.heap.size, 5, none⟩ (.slice (some ⟨gM, 0, none⟩) m.length m.length)).cell? ⟨w.heap.size, 5, none⟩ = some (.slice (some ⟨gM, 0, none⟩) m.length m.length) := by rw [cell_of_block u0]; rfl
      have br0 : (w3.setCell ⟨w.heap.size, 5, none⟩ (.slice (some ⟨gM, 0, none⟩) m.length m.length)).cell? ⟨w.heap.size + 1, 0, none⟩ = some (.int .i64 0) := by rw [cell_of_block u1]; rfl
      have br1 : (w3.setCell ⟨w.heap.size, 5, none⟩ (.slice (some ⟨gM, 0, none⟩) m.length m.length)).cell? ⟨w.heap.size + 1, 1, none⟩ = some (.bool false) := by rw [cell_of_block u1]; rfl
      have br2 : (w3.setCell ⟨w.heap.size, 5, none⟩ (.slice (some ⟨gM, 0, none⟩) m.length m.length)).cell? ⟨w.heap.size + 1, 2, none⟩ = some (.int .i64 0) := by rw [cell_of_block u1]; rfl
      have br3 : (w3.setCell ⟨w.heap.size, 5, none⟩ (.slice (some ⟨gM, 0, none⟩) m.length m.length)).cell? ⟨w.heap.size + 1, 3, none⟩ = some (.string ⟨#[]⟩) := by rw [cell_of_block u1]; rfl
      have br4 : (w3.setCell ⟨w.heap.size, 5, none⟩ (.slice (some ⟨gM, 0, none⟩) m.length m.length)).cell? ⟨w.heap.size + 1, 4, none⟩ = some (.slice none 0 0) := by rw [cell_of_block u1]; rfl
      have br5 : (w3.setCell ⟨w.heap.size, 5, none⟩ (.slice (some ⟨gM, 0, none⟩) m.length m.length)).cell? ⟨w.heap.size + 1, 5, none⟩ = some (.slice none 0 0) := by rw [cell_of_block u1]; rfl
      have bf0 : ∀ i, (w3.setCell ⟨w.heap.size, 5, none⟩ (.slice (some ⟨gM, 0, none⟩) m.length m.length)).frozen? ⟨w.heap.size, i, none⟩ = false := frozen_of_block u0
      have bf1 : ∀ i, (w3.setCell ⟨w.heap.size, 5, none⟩ (.slice (some ⟨gM, 0, none⟩) m.length m.length)).frozen? ⟨w.heap.size + 1, i, none⟩ = false := frozen_of_block u1
      have HMx : Hid (liesM false (w3.setCell ⟨w.heap.size, 5, none⟩ (.slice (some ⟨gM, 0, none⟩) m.length m.length)) (From (w.heap.size + 2) (w3.setCell ⟨w.heap.size, 5, none⟩ (.slice (some ⟨gM, 0, none⟩) m.length m.length))) m gM 0) := liesM_set HM.out (by omega) _ _
      have HBx : Hid (Below w.heap.size w (w3.setCell ⟨w.heap.size, 5, none⟩ (.slice (some ⟨gM, 0, none⟩) m.length m.length))) := HB.out.setCell (p := ⟨w.heap.size, 5, none⟩) (Nat.le_refl _) _
      clear HB HM
      have HB := HBx
      clear t0 t1 u0 u1
      go_wp2_with fail
      (try simp only [Exit.inBlock, Exit.then])
      refine bodyPost_ret (v := .agg #[.int .i64 k, .bool b, .int .i64 i, .string s, .slice none 0 0, .slice (some ⟨gM, 0, none⟩) m.length m.length]) (by rw [results_cell1 rfl]; go_simp) rfl ?_
      exact an_fin (B := w.heap.size + 2) hk hi hs headed_nil (headed_new gM _ hmm) (by omega) (by rw [liesL]; trivial) (liesM_set6 HMx.out (by omega) _ _ _ _ _ _ _ _ _ _ _ _) (Below.set6 HB.out (by omega) _ _ _ _ _ _ _ _ _ _ _ _)
  · have y1 : ¬ (l.length : Int) = 0 := by omega
    go_enter Tryz.func43, Tryz.ntmps43
    go_wp2_with fail
    refine (CL.out _ (two_below w _ _)).mono ?_
    rintro e w3 ⟨gL, rfl, hl3, b3⟩
    have hz3 := b3.size
    have t0 := (b3.block w.heap.size (by rw [alloc_size, alloc_size]; omega)).trans (alloc2_keep1 w _ _)
    have t1 := (b3.block (w.heap.size + 1) (by rw [alloc_size, alloc_size]; omega)).trans (alloc2_new w _ _)
    have HL3 : liesL false w3 (From (w.heap.size + 2) w3) l gL 0 := liesL_keep (fun h => h) (fun _ _ => rfl) (fun x hx => ⟨by have := hx.1; rw [alloc_size, alloc_size] at this; exact this, hx.2⟩) _ hl3
    have B3 : Below w.heap.size w w3 := (two_below w _ _).trans (b3.mono (by rw [alloc_size, alloc_size]; omega))
    rw [alloc_size, alloc_size] at hz3
    clear hl3 b3
    have u0 : (w3.setCell ⟨w.heap.size, 4, none⟩ (.slice (some ⟨gL, 0, none⟩) l.length l.length)).heap[w.heap.size]? = some (.cells #[.int .i64 k, .bool b, .int .i64 i, .string s, .slice (some ⟨gL, 0, none⟩) l.length l.length, .slice am m.length cm] 25 (0, 0)) := by rw [set_block t0]; rfl
    have u1 := (set_other (w := w3) (g := w.heap.size) (o := 4) (u := .slice (some ⟨gL, 0, none⟩) l.length l.length) (x := w.heap.size + 1) (by omega)).trans t1
    have HL4 : Hid (liesL false (w3.setCell ⟨w.heap.size, 4, none⟩ (.slice (some ⟨gL, 0, none⟩) l.length l.length)) (From (w.heap.size + 2) (w3.setCell ⟨w.heap.size, 4, none⟩ (.slice (some ⟨gL, 0, none⟩) l.length l.length))) l gL 0) := liesL_setA HL3 (by omega) _ _
    have HB : Hid (Below w.heap.size w (w3.setCell ⟨w.heap.size, 4, none⟩ (.slice (some ⟨gL, 0, none⟩) l.length l.length))) := B3.setCell (p := ⟨w.heap.size, 4, none⟩) (Nat.le_refl _) _
    have hz4 : w.heap.size + 2 ≤ (w3.setCell ⟨w.heap.size, 4, none⟩ (.slice (some ⟨gL, 0, none⟩) l.length l.length)).heap.size := by rw [size_set1]; exact hz3
    have ad0 : w3.cell? ⟨w.heap.size, 0, none⟩ = some (.int .i64 k) := by rw [cell_of_block t0]; rfl
    have ad1 : w3.cell? ⟨w.heap.size, 1, none⟩ = some (.bool b) := by rw [cell_of_block t0]; rfl
    have ad2 : w3.cell? ⟨w.heap.size, 2, none⟩ = some (.int .i64 i) := by rw [cell_of_block t0]; rfl
    have ad3 : w3.cell? ⟨w.heap.size, 3, none⟩ = some (.string s) := by rw [cell_of_block t0]; rfl
    have ad4 : w3.cell? ⟨w.heap.size, 4, none⟩ = some (.slice al l.length cl) := by rw [cell_of_block t0]; rfl
    have ad5 : w3.cell? ⟨w.heap.size, 5, none⟩ = some (.slice am m.length cm) := by rw [cell_of_block t0]; rfl
    have ar0 : w3.cell? ⟨w.heap.size + 1, 0, none⟩ = some (.int .i64 0) := by rw [cell_of_block t1]; rfl
    have ar1 : w3.cell? ⟨w.heap.size + 1, 1, none⟩ = some (.bool false) := by rw [cell_of_block t1]; rfl
    have ar2 : w3.cell? ⟨w.heap.size + 1, 2, none⟩ = some (.int .i64 0) := by rw [cell_of_block t1]; rfl
    have ar3 : w3.cell? ⟨w.heap.size + 1, 3, none⟩ = some (.string ⟨#[]⟩) := by rw [cell_of_block t1]; rfl
    have ar4 : w3.cell? ⟨w.heap.size + 1, 4, none⟩ = some (.slice none 0 0) := by rw [cell_of_block t1]; rfl
    have ar5 : w3.cell? ⟨w.heap.size + 1, 5, none⟩ = some (.slice none 0 0) := by rw [cell_of_block t1]; rfl
    have af0 : ∀ i, w3.frozen? ⟨w.heap.size, i, none⟩ = false := frozen_of_block t0
    have af1 : ∀ i, w3.frozen? ⟨w.heap.size + 1, i, none⟩ = false := frozen_of_block t1
    have bd0 : (w3.setCell ⟨w.heap.size, 4, none⟩ (.slice (some ⟨gL, 0, none⟩) l.length l.length)).cell? ⟨w.heap.size, 0, none⟩ = some (.int .i64 k) := by rw [cell_of_block u0]; rfl
    have bd1 : (w3.setCell ⟨w.heap.size, 4, none⟩ (.slice (some ⟨gL, 0, none⟩) l.length l.length)).cell? ⟨w.heap.size, 1, none⟩ = some (.bool b) := by rw [cell_of_block u0]; rfl
    have bd2 : (w3.setCell ⟨w.heap.size, 4, none⟩ (.slice (some ⟨gL, 0, none⟩) l.length l.length)).cell? ⟨w.heap.size, 2, none⟩ = some (.int .i64 i) := by rw [cell_of_block u0]; rfl
    have bd3 : (w3.setCell ⟨w.heap.size, 4, none⟩ (.slice (some ⟨gL, 0, none⟩) l.length l.length)).cell? ⟨w.heap.size, 3, none⟩ = some (.string s) := by rw [cell_of_block u0]; rfl
    have bd4 : (w3.setCell ⟨w.heap.size, 4, none⟩ (.slice (some ⟨gL, 0, none⟩) l.length l.length)).cell? ⟨w.heap.size, 4, none⟩ = some (.slice (some ⟨gL, 0, none⟩) l.length l.length) := by rw [cell_of_block u0]; rfl
    have bd5 : (w3.setCell ⟨w.heap.size, 4, none⟩ (.slice (some ⟨gL, 0, none⟩) l.length l.length)).cell? ⟨w.heap.size, 5, none⟩ = some (.slice am m.length cm) := by rw [cell_of_block u0]; rfl
    have br0 : (w3.setCell ⟨w.heap.size, 4, none⟩ (.slice (some ⟨gL, 0, none⟩) l.length l.length)).cell? ⟨w.heap.size + 1, 0, none⟩ = some (.int .i64 0) := by rw [cell_of_block u1]; rfl
    have br1 : (w3.setCell ⟨w.heap.size, 4, none⟩ (.slice (some ⟨gL, 0, none⟩) l.length l.length)).cell? ⟨w.heap.size + 1, 1, none⟩ = some (.bool false) := by rw [cell_of_block u1]; rfl
    have br2 : (w3.setCell ⟨w.heap.size, 4, none⟩ (.slice (some ⟨gL, 0, none⟩) l.length l.length)).cell? ⟨w.heap.size + 1, 2, none⟩ = some (.int .i64 0) := by rw [cell_of_block u1]; rfl
    have br3 : (w3.setCell ⟨w.heap.size, 4, none⟩ (.slice (some ⟨gL, 0, none⟩) l.length l.length)).cell? ⟨w.heap.size + 1, 3, none⟩ = some (.string ⟨#[]⟩) := by rw [cell_of_block u1]; rfl
    have br4 : (w3.setCell ⟨w.heap.size, 4, none⟩ (.slice (some ⟨gL, 0, none⟩) l.length l.length)).cell? ⟨w.heap.size + 1, 4, none⟩ = some (.slice none 0 0) := by rw [cell_of_block u1]; rfl
    have br5 : (w3.setCell ⟨w.heap.size, 4, none⟩ (.slice (some ⟨gL, 0, none⟩) l.length l.length)).cell? ⟨w.heap.size + 1, 5, none⟩ = some (.slice none 0 0) := by rw [cell_of_block u1]; rfl
    have bf0 : ∀ i, (w3.setCell ⟨w.heap.size, 4, none⟩ (.slice (some ⟨gL, 0, none⟩) l.length l.length)).frozen? ⟨w.heap.size, i, none⟩ = false := frozen_of_block u0
    have bf1 : ∀ i, (w3.setCell ⟨w.heap.size, 4, none⟩ (.slice (some ⟨gL, 0, none⟩) l.length l.length)).frozen? ⟨w.heap.size + 1, i, none⟩ = false := frozen_of_block u1
    by_cases e2 : m.length = 0
    · obtain rfl : m = [] := List.length_eq_zero_iff.1 e2
      have x0 : ((w3.setCell ⟨w.heap.size, 4, none⟩ (.slice (some ⟨gL, 0, none⟩) l.length l.length)).setCell ⟨w.heap.size, 5, none⟩ (.slice none 0 0)).heap[w.heap.size]? = some (.cells #[.int .i64 k, .bool b, .int .i64 i, .string s, .slice (some ⟨gL, 0, none⟩) l.length l.length, .slice none 0 0] 25 (0, 0)) := by rw [set_block u0]; rfl
      have x1 := (set_other (w := w3.setCell ⟨w.heap.size, 4, none⟩ (.slice (some ⟨gL, 0, none⟩) l.length l.length)) (g := w.heap.size) (o := 5) (u := .slice none 0 0) (x := w.heap.size + 1) (by omega)).trans u1
      have cd0 : ((w3.setCell ⟨w.heap.size, 4, none⟩ (.slice (some ⟨gL, 0, none⟩) l.length l.length)).setCell ⟨w.heap.size, 5, none⟩ (.slice none 0 0)).cell? ⟨w.heap.size, 0, none⟩ = some (.int .i64 k) := by rw [cell_of_block x0]; rfl
      have cd1 : ((w3.setCell ⟨w.heap.size, 4, none⟩ (.slice (some ⟨gL, 0, none⟩) l.length l.length)).setCell ⟨w.heap.size, 5, none⟩ (.slice none 0 0)).cell? ⟨w.heap.size, 1, none⟩ = some (.bool b) := by rw [cell_of_block x0]; rfl
      have cd2 : ((w3.setCell ⟨w.heap.size, 4, none⟩ (.slice (some ⟨gL, 0, none⟩) l.length l.length)).setCell ⟨w.heap.size, 5, none⟩ (.slice none 0 0)).cell? ⟨w.heap.size, 2, none⟩ = some (.int .i64 i) := by rw [cell_of_block x0]; rfl
      have cd3 : ((w3.setCell ⟨w.heap.size, 4, none⟩ (.slice (some ⟨gL, 0, none⟩) l.length l.length)).setCell ⟨w.heap.size, 5, none⟩ (.slice none 0 0)).cell? ⟨w.heap.size, 3, none⟩ = some (.string s) := by rw [cell_of_block x0]; rfl
      have cd4 : ((w3.setCell ⟨w.heap.size, 4, none⟩ (.slice (some ⟨gL, 0, none⟩) l.length l.length)).setCell ⟨w.heap.size, 5, none⟩ (.slice none 0 0)).cell? ⟨w.heap.size, 4, none⟩ = some (.slice (some ⟨gL, 0, none⟩) l.length l.length) := by rw [cell_of_block x0]; rfl
      have cd5 : ((w3.setCell ⟨w.heap.size, 4, none⟩ (.slice (some ⟨gL, 0, none⟩) l.length l.length)).setCell ⟨w.heap.size, 5, none⟩ (.slice none 0 0)).cell? ⟨w.heap.size, 5, none⟩ = some (.slice none 0 0) := by rw [cell_of_block x0]; rfl
      have cr0 : ((w3.setCell ⟨w.heap.size, 4, none⟩ (.slice (some ⟨gL, 0, none⟩) l.length l.length)).setCell ⟨w.heap.size, 5, none⟩ (.slice none 0 0)).cell? ⟨w.heap.size + 1, 0, none⟩ = some (.int .i64 0) := by rw [cell_of_block x1]; rfl
      have cr1 : ((w3.setCell ⟨w.heap.size, 4, none⟩ (.slice (some ⟨gL, 0, none⟩) l.length l.length)).setCell ⟨w.heap.size, 5, none⟩ (.slice none 0 0)).cell? ⟨w.heap.size + 1, 1, none⟩ = some (.bool false) := by rw [cell_of_block x1]; rfl
      have cr2 : ((w3.setCell ⟨w.heap.size, 4, none⟩ (.slice (some ⟨gL, 0, none⟩) l.length l.length)).setCell ⟨w.heap.size, 5, none⟩ (.slice none 0 0)).cell? ⟨w.heap.size + 1, 2, none⟩ = some (.int .i64 0) := by rw [cell_of_block x1]; rfl
      have cr3 : ((w3.setCell ⟨w.heap.size, 4, none⟩ (.slice (some ⟨gL, 0, none⟩) l.length l.length)).setCell ⟨w.heap.size, 5, none⟩ (.slice none 0 0)).cell? ⟨w.heap.size + 1, 3, none⟩ = some (.string ⟨#[]⟩) := by rw [cell_of_block x1]; rfl
      have cr4 : ((w3.setCell ⟨w.heap.size, 4, none⟩ (.slice (some ⟨gL, 0, none⟩) l.length l.length)).setCell ⟨w.heap.size, 5, none⟩ (.slice none 0 0)).cell? ⟨w.heap.size + 1, 4, none⟩ = some (.slice none 0 0) := by rw [cell_of_block x1]; rfl
      have cr5 : ((w3.setCell ⟨w.heap.size, 4, none⟩ (.slice (some ⟨gL, 0, none⟩) l.length l.length)).setCell ⟨w.heap.size, 5, none⟩ (.slice none 0 0)).cell? ⟨w.heap.size + 1, 5, none⟩ = some (.slice none 0 0) := by rw [cell_of_block x1]; rfl
      have cf0 : ∀ i, ((w3.setCell ⟨w.heap.size, 4, none⟩ (.slice (some ⟨gL, 0, none⟩) l.length l.length)).setCell ⟨w.heap.size, 5, none⟩ (.slice none 0 0)).frozen? ⟨w.heap.size, i, none⟩ = false := frozen_of_block x0
      have cf1 : ∀ i, ((w3.setCell ⟨w.heap.size, 4, none⟩ (.slice (some ⟨gL, 0, none⟩) l.length l.length)).setCell ⟨w.heap.size, 5, none⟩ (.slice none 0 0)).frozen? ⟨w.heap.size + 1, i, none⟩ = false := frozen_of_block x1
      have HLx : Hid (liesL false ((w3.setCell ⟨w.heap.size, 4, none⟩ (.slice (some ⟨gL, 0, none⟩) l.length l.length)).setCell ⟨w.heap.size, 5, none⟩ (.slice none 0 0)) (From (w.heap.size + 2) ((w3.setCell ⟨w.heap.size, 4, none⟩ (.slice (some ⟨gL, 0, none⟩) l.length l.length)).setCell ⟨w.heap.size, 5, none⟩ (.slice none 0 0))) l gL 0) := liesL_setA HL4.out (by omega) _ _
      have HBx : Hid (Below w.heap.size w ((w3.setCell ⟨w.heap.size, 4, none⟩ (.slice (some ⟨gL, 0, none⟩) l.length l.length)).setCell ⟨w.heap.size, 5, none⟩ (.slice none 0 0))) := HB.out.setCell (p := ⟨w.heap.size, 5, none⟩) (Nat.le_refl _) _
      clear HB HL4
      have HB := HBx
      clear t0 t1 u0 u1 x0 x1
      go_wp2_with fail
      (try simp only [Exit.inBlock, Exit.then])
      refine bodyPost_ret (v := .agg #[.int .i64 k, .bool b, .int .i64 i, .string s, .slice (some ⟨gL, 0, none⟩) l.length l.length, .slice none 0 0]) (by rw [results_cell1 rfl]; go_simp) rfl ?_
      exact an_fin (B := w.heap.size + 2) hk hi hs (headed_new gL _ hlm) headed_nil (by omega) (liesL_set6A HLx.out (by omega) _ _ _ _ _ _ _ _ _ _ _ _) (by rw [liesM]; trivial) (Below.set6 HB.out (by omega) _ _ _ _ _ _ _ _ _ _ _ _)
    · have y2 : ¬ (m.length : Int) = 0 := by omega
      clear t0 t1
      go_wp2_with fail
      generalize (w3.setCell ⟨w.heap.size, 4, none⟩ (.slice (some ⟨gL, 0, none⟩) l.length l.length)) = w4 at *
      refine (CM.out w4 HB.out).mono ?_
      rintro e w5 ⟨gM, rfl, hl5, b5⟩
      have hz5 := b5.size
      have t0 := (b5.block w.heap.size (by omega)).trans u0
      have t1 := (b5.block (w.heap.size + 1) (by omega)).trans u1
      have HM : Hid (liesM false w5 (From (w.heap.size + 2) w5) m gM 0) := liesM_keep (fun h => h) (fun _ _ => rfl) (fun x hx => ⟨by have := hx.1; omega, hx.2⟩) _ hl5
      have HL5 : Hid (liesL false w5 (From (w.heap.size + 2) w5) l gL 0) := liesL_below HL4.out b5
      have HB5 : Hid (Below w.heap.size w w5) := HB.out.trans (b5.mono (by omega))
      clear HB HL4
      have HB := HB5
      have u0' : (w5.setCell ⟨w.heap.size, 5, none⟩ (.slice (some ⟨gM, 0, none⟩) m.length m.length)).heap[w.heap.size]? = some (.cells #[.int .i64 k, .bool b, .int .i64 i, .string s, .slice (some ⟨gL, 0, none⟩) l.length l.length, .slice (some ⟨gM, 0, none⟩) m.length m.length] 25 (0, 0)) := by rw [set_block t0]; rfl
      have u1' := (set_other (w := w5) (g := w.heap.size) (o := 5) (u := .slice (some ⟨gM, 0, none⟩) m.length m.length) (x := w.heap.size + 1) (by omega)).trans t1
      clear ad0 ar0 ad1 ar1 ad2 ar2 ad3 ar3 ad4 ar4 ad5 ar5 af0 af1
      clear bd0 br0 bd1 br1 bd2 br2 bd3 br3 bd4 br4 bd5 br5 bf0 bf1
      have ad0 : w5.cell? ⟨w.heap.size, 0, none⟩ = some (.int .i64 k) := by rw [cell_of_block t0]; rfl
      have ad1 : w5.cell? ⟨w.heap.size, 1, none⟩ = some (.bool b) := by rw [cell_of_block t0]; rfl
      have ad2 : w5.cell? ⟨w.heap.size, 2, none⟩ = some (.int .i64 i) := by rw [cell_of_block t0]; rfl
      have ad3 : w5.cell? ⟨w.heap.size, 3, none⟩ = some (.string s) := by rw [cell_of_block t0]; rfl
      have ad4 : w5.cell? ⟨w.heap.size, 4, none⟩ = some (.slice (some ⟨gL, 0, none⟩) l.length l.length) := by rw [cell_of_block t0]; rfl
      have ad5 : w5.cell? ⟨w.heap.size, 5, none⟩ = some (.slice am m.length cm) := by rw [cell_of_block t0]; rfl
      have ar0 : w5.cell? ⟨w.heap.size + 1, 0, none⟩ = some (.int .i64 0) := by rw [cell_of_block t1]; rfl
      have ar1 : w5.cell? ⟨w.heap.size + 1, 1, none⟩ = some (.bool false) := by rw [cell_of_block t1]; rfl
      have ar2 : w5.cell? ⟨w.heap.size + 1, 2, none⟩ = some (.int .i64 0) := by rw [cell_of_block t1]; rfl
      have ar3 : w5.cell? ⟨w.heap.size + 1, 3, none⟩ = some (.string ⟨#[]⟩) := by rw [cell_of_block t1]; rfl
      have ar4 : w5.cell? ⟨w.heap.size + 1, 4, none⟩ = some (.slice none 0 0) := by rw [cell_of_block t1]; rfl
      have ar5 : w5.cell? ⟨w.heap.size + 1, 5, none⟩ = some (.slice none 0 0) := by rw [cell_of_block t1]; rfl
      have af0 : ∀ i, w5.frozen? ⟨w.heap.size, i, none⟩ = false := frozen_of_block t0
      have af1 : ∀ i, w5.frozen? ⟨w.heap.size + 1, i, none⟩ = false := frozen_of_block t1
      have bd0 : (w5.setCell ⟨w.heap.size, 5, none⟩ (.slice (some ⟨gM, 0, none⟩) m.length m.length)).cell? ⟨w.heap.size, 0, none⟩ = some (.int .i64 k) := by rw [cell_of_block u0']; rfl
      have bd1 : (w5.setCell ⟨w.heap.size, 5, none⟩ (.slice (some ⟨gM, 0, none⟩) m.length m.length)).cell? ⟨w.heap.size, 1, none⟩ = some (.bool b) := by rw [cell_of_block u0']; rfl
      have bd2 : (w5.setCell ⟨w.heap.size, 5, none⟩ (.slice (some ⟨gM, 0, none⟩) m.length m.length)).cell? ⟨w.heap.size, 2, none⟩ = some (.int .i64 i) := by rw [cell_of_block u0']; rfl
      have bd3 : (w5.setCell ⟨w.heap.size, 5, none⟩ (.slice (some ⟨gM, 0, none⟩) m.length m.length)).cell? ⟨w.heap.size, 3, none⟩ = some (.string s) := by rw [cell_of_block u0']; rfl
      have bd4 : (w5.setCell ⟨w.heap.size, 5, none⟩ (.slice (some ⟨gM, 0, none⟩) m.length m.length)).cell? ⟨w.heap.size, 4, none⟩ = some (.slice (some ⟨gL, 0, none⟩) l.length l.length) := by rw [cell_of_block u0']; rfl
      have bd5 : (w5.setCell ⟨w.heap.size, 5, none⟩ (.slice (some ⟨gM, 0, none⟩) m.length m.length)).cell? ⟨w.heap.size, 5, none⟩ = some (.slice (some ⟨gM, 0, none⟩) m.length m.length) := by rw [cell_of_block u0']; rfl
      have br0 : (w5.setCell ⟨w.heap.size, 5, none⟩ (.slice (some ⟨gM, 0, none⟩) m.length m.length)).cell? ⟨w.heap.size + 1, 0, none⟩ = some (.int .i64 0) := by rw [cell_of_block u1']; rfl
      have br1 : (w5.setCell ⟨w.heap.size, 5, none⟩ (.slice (some ⟨gM, 0, none⟩) m.length m.length)).cell? ⟨w.heap.size + 1, 1, none⟩ = some (.bool false) := by rw [cell_of_block u1']; rfl
      have br2 : (w5.setCell ⟨w.heap.size, 5, none⟩ (.slice (some ⟨gM, 0, none⟩) m.length m.length)).cell? ⟨w.heap.size + 1, 2, none⟩ = some (.int .i64 0) := by rw [cell_of_block u1']; rfl
      have br3 : (w5.setCell ⟨w.heap.size, 5, none⟩ (.slice (some ⟨gM, 0, none⟩) m.length m.length)).cell? ⟨w.heap.size + 1, 3, none⟩ = some (.string ⟨#[]⟩) := by rw [cell_of_block u1']; rfl
      have br4 : (w5.setCell ⟨w.heap.size, 5, none⟩ (.slice (some ⟨gM, 0, none⟩) m.length m.length)).cell? ⟨w.heap.size + 1, 4, none⟩ = some (.slice none 0 0) := by rw [cell_of_block u1']; rfl
      have br5 : (w5.setCell ⟨w.heap.size, 5, none⟩ (.slice (some ⟨gM, 0, none⟩) m.length m.length)).cell? ⟨w.heap.size + 1, 5, none⟩ = some (.slice none 0 0) := by rw [cell_of_block u1']; rfl
      have bf0 : ∀ i, (w5.setCell ⟨w.heap.size, 5, none⟩ (.slice (some ⟨gM, 0, none⟩) m.length m.length)).frozen? ⟨w.heap.size, i, none⟩ = false := frozen_of_block u0'
      have bf1 : ∀ i, (w5.setCell ⟨w.heap.size, 5, none⟩ (.slice (some ⟨gM, 0, none⟩) m.length m.length)).frozen? ⟨w.heap.size + 1, i, none⟩ = false := frozen_of_block u1'
      have HMx : Hid (liesM false (w5.setCell ⟨w.heap.size, 5, none⟩ (.slice (some ⟨gM, 0, none⟩) m.length m.length)) (From (w.heap.size + 2) (w5.setCell ⟨w.heap.size, 5, none⟩ (.slice (some ⟨gM, 0, none⟩) m.length m.length))) m gM 0) := liesM_set HM.out (by omega) _ _
      have HLx : Hid (liesL false (w5.setCell ⟨w.heap.size, 5, none⟩ (.slice (some ⟨gM, 0, none⟩) m.length m.length)) (From (w.heap.size + 2) (w5.setCell ⟨w.heap.size, 5, none⟩ (.slice (some ⟨gM, 0, none⟩) m.length m.length))) l gL 0) := liesL_setA HL5.out (by omega) _ _
      have HBx : Hid (Below w.heap.size w (w5.setCell ⟨w.heap.size, 5, none⟩ (.slice (some ⟨gM, 0, none⟩) m.length m.length))) := HB.out.setCell (p := ⟨w.heap.size, 5, none⟩) (Nat.le_refl _) _
      clear HB HB5 HM HL5
      have HB := HBx
      clear t0 t1 u0 u1 u0' u1' hl5 b5
      go_wp2_with fail
      (try simp only [Exit.inBlock, Exit.then])
      refine bodyPost_ret (v := .agg #[.int .i64 k, .bool b, .int .i64 i, .string s, .slice (some ⟨gL, 0, none⟩) l.length l.length, .slice (some ⟨gM, 0, none⟩) m.length m.length]) (by rw [results_cell1 rfl]; go_simp) rfl ?_
      exact an_fin (B := w.heap.size + 2) hk hi hs (headed_new gL _ hlm) (headed_new gM _ hmm) (by omega) (liesL_set6A HLx.out (by omega) _ _ _ _ _ _ _ _ _ _ _ _) (liesM_set6 HMx.out (by omega) _ _ _ _ _ _ _ _ _ _ _ _) (Below.set6 HB.out (by omega) _ _ _ _ _ _ _ _ _ _ _ _)
end Go.Proofs.YtejcfkkkbnnmcaaGreatDoor

/- value.Clone. -/
set_option linter.unusedSimpArgs false
set_option linter.unusedVariables false
namespace Go.Proofs.YtejcfkkkbnnmcaaGreatDoor
open Go.RowKit Go.Lib

def nullV : V := .mk 0 false 0 ⟨#[]⟩ [] []
def clnV (v : V) : V := if okV v = true then v else nullV
theorem null_lies (W : World) (S : Nat → Prop) : nullV.lies false W S [.int .i64 0, .bool false, .int .i64 0, .string ⟨#[]⟩, .slice none 0 0, .slice none 0 0] :=
  lies_S (by constructor <;> omega) (by constructor <;> omega) (by decide) headed_nil headed_nil (by rw [liesL]; trivial) (by rw [liesM]; trivial)
theorem lies_set6A {w : World} {B M : Nat} {v : V} {cs : List Value} (h : v.lies false w (From B w) cs) (hM : M < B) (i1 i2 i3 i4 i5 i6 : Nat) (u1 u2 u3 u4 u5 u6 : Value) :
    v.lies false ((((((w.setCell ⟨M, i1, none⟩ u1).setCell ⟨M, i2, none⟩ u2).setCell ⟨M, i3, none⟩ u3).setCell ⟨M, i4, none⟩ u4).setCell ⟨M, i5, none⟩ u5).setCell ⟨M, i6, none⟩ u6) (From B ((((((w.setCell ⟨M, i1, none⟩ u1).setCell ⟨M, i2, none⟩ u2).setCell ⟨M, i3, none⟩ u3).setCell ⟨M, i4, none⟩ u4).setCell ⟨M, i5, none⟩ u5).setCell ⟨M, i6, none⟩ u6)) cs :=
  V.lies_keep (fun h => h) (fun x hx => by have := hx.1; repeat (rw [set_other (show x ≠ M by omega)])) (fun x hx => ⟨hx.1, by simp only [size_set1]; exact hx.2⟩) _ h

set_option maxHeartbeats 1600000 in
set_option maxRecDepth 100000 in
theorem clone_any (v : V) (R : Bool) (S : Nat → Prop) (cs : List Value) (w : World) (tb : Tb w) (hv : v.lies R w S cs) (hS : ∀ b, S b → b < w.heap.size) (hwt : v.wt ≤ 1099511627776) : Calls Tryz.prog 28 #[.agg cs.toArray] w (AnPost (clnV v) w) := by
  obtain ⟨k, b, i, s, al, nl, cl, am, nm, cm, rfl⟩ := V.ten hv
  have hz2 : ((w.alloc (.cells #[.int .i64 k, .bool b, .int .i64 i, .string s, .slice al nl cl, .slice am nm cm] 25)).alloc (.cells #[.int .i64 0, .bool false, .int .i64 0, .string ⟨#[]⟩, .slice none 0 0, .slice none 0 0] 25)).heap.size = w.heap.size + 2 := by rw [alloc_size, alloc_size]
  have B0 : Below w.heap.size w ((w.alloc (.cells #[.int .i64 k, .bool b, .int .i64 i, .string s, .slice al nl cl, .slice am nm cm] 25)).alloc (.cells #[.int .i64 0, .bool false, .int .i64 0, .string ⟨#[]⟩, .slice none 0 0, .slice none 0 0] 25)) := two_below w _ _
  have h0 := alloc2_keep1 w (.cells #[.int .i64 k, .bool b, .int .i64 i, .string s, .slice al nl cl, .slice am nm cm] 25) (.cells #[.int .i64 0, .bool false, .int .i64 0, .string ⟨#[]⟩, .slice none 0 0, .slice none 0 0] 25)
  have h1 := alloc2_new w (.cells #[.int .i64 k, .bool b, .int .i64 i, .string s, .slice al nl cl, .slice am nm cm] 25) (.cells #[.int .i64 0, .bool false, .int .i64 0, .string ⟨#[]⟩, .slice none 0 0, .slice none 0 0] 25)
  have HV : Hid (∀ W, Below w.heap.size w W → v.lies R W S [.int .i64 k, .bool b, .int .i64 i, .string s, .slice al nl cl, .slice am nm cm] ∧ (∀ b, S b → b < W.heap.size)) := fun W hb => ⟨V.lies_keep (fun h => h) (fun x hx => hb.block x (hS x hx)) (fun _ h => h) _ hv, fun x hx => Nat.lt_of_lt_of_le (hS x hx) hb.size⟩
  have HB : Hid (∀ W, Below w.heap.size w W → Tb W) := fun W hb => tb.below hb tb.z
  have d0 : ((w.alloc (.cells #[.int .i64 k, .bool b, .int .i64 i, .string s, .slice al nl cl, .slice am nm cm] 25)).alloc (.cells #[.int .i64 0, .bool false, .int .i64 0, .string ⟨#[]⟩, .slice none 0 0, .slice none 0 0] 25)).cell? ⟨w.heap.size, 0, none⟩ = some (.int .i64 k) := by rw [cell_of_block h0]; rfl
  have d1 : ((w.alloc (.cells #[.int .i64 k, .bool b, .int .i64 i, .string s, .slice al nl cl, .slice am nm cm] 25)).alloc (.cells #[.int .i64 0, .bool false, .int .i64 0, .string ⟨#[]⟩, .slice none 0 0, .slice none 0 0] 25)).cell? ⟨w.heap.size, 1, none⟩ = some (.bool b) := by rw [cell_of_block h0]; rfl
  have d2 : ((w.alloc (.cells #[.int .i64 k, .bool b, .int .i64 i, .string s, .slice al nl cl, .slice am nm cm] 25)).alloc (.cells #[.int .i64 0, .bool false, .int .i64 0, .string ⟨#[]⟩, .slice none 0 0, .slice none 0 0] 25)).cell? ⟨w.heap.size, 2, none⟩ = some (.int .i64 i) := by rw [cell_of_block h0]; rfl
  have d3 : ((w.alloc (.cells #[.int .i64 k, .bool b, .int .i64 i, .string s, .slice al nl cl, .slice am nm cm] 25)).alloc (.cells #[.int .i64 0, .bool false, .int .i64 0, .string ⟨#[]⟩, .slice none 0 0, .slice none 0 0] 25)).cell? ⟨w.heap.size, 3, none⟩ = some (.string s) := by rw [cell_of_block h0]; rfl
  have d4 : ((w.alloc (.cells #[.int .i64 k, .bool b, .int .i64 i, .string s, .slice al nl cl, .slice am nm cm] 25)).alloc (.cells #[.int .i64 0, .bool false, .int .i64 0, .string ⟨#[]⟩, .slice none 0 0, .slice none 0 0] 25)).cell? ⟨w.heap.size, 4, none⟩ = some (.slice al nl cl) := by rw [cell_of_block h0]; rfl
  have d5 : ((w.alloc (.cells #[.int .i64 k, .bool b, .int .i64 i, .string s, .slice al nl cl, .slice am nm cm] 25)).alloc (.cells #[.int .i64 0, .bool false, .int .i64 0, .string ⟨#[]⟩, .slice none 0 0, .slice none 0 0] 25)).cell? ⟨w.heap.size, 5, none⟩ = some (.slice am nm cm) := by rw [cell_of_block h0]; rfl
  clear hv
  go_enter Tryz.func28, Tryz.ntmps28
  go_wp2_with fail
  clear d0 d1 d2 d3 d4 d5
  generalize ((w.alloc (.cells #[.int .i64 k, .bool b, .int .i64 i, .string s, .slice al nl cl, .slice am nm cm] 25)).alloc (.cells #[.int .i64 0, .bool false, .int .i64 0, .string ⟨#[]⟩, .slice none 0 0, .slice none 0 0] 25)) = w0 at *
  refine (taken_any R v S _ w0 (HB.out w0 B0) (HV.out w0 B0).1 (HV.out w0 B0).2 hwt).mono ?_
  rintro e w1 ⟨rfl, b1⟩
  have hz1 := b1.size
  have B1 := B0.trans (b1.mono (by omega))
  have t0 := (b1.block w.heap.size (by omega)).trans h0
  have t1 := (b1.block (w.heap.size + 1) (by omega)).trans h1
  have d0 : w1.cell? ⟨w.heap.size, 0, none⟩ = some (.int .i64 k) := by rw [cell_of_block t0]; rfl
  have d1 : w1.cell? ⟨w.heap.size, 1, none⟩ = some (.bool b) := by rw [cell_of_block t0]; rfl
  have d2 : w1.cell? ⟨w.heap.size, 2, none⟩ = some (.int .i64 i) := by rw [cell_of_block t0]; rfl
  have d3 : w1.cell? ⟨w.heap.size, 3, none⟩ = some (.string s) := by rw [cell_of_block t0]; rfl
  have d4 : w1.cell? ⟨w.heap.size, 4, none⟩ = some (.slice al nl cl) := by rw [cell_of_block t0]; rfl
  have d5 : w1.cell? ⟨w.heap.size, 5, none⟩ = some (.slice am nm cm) := by rw [cell_of_block t0]; rfl
  have r0 : w1.cell? ⟨w.heap.size + 1, 0, none⟩ = some (.int .i64 0) := by rw [cell_of_block t1]; rfl
  have r1 : w1.cell? ⟨w.heap.size + 1, 1, none⟩ = some (.bool false) := by rw [cell_of_block t1]; rfl
  have r2 : w1.cell? ⟨w.heap.size + 1, 2, none⟩ = some (.int .i64 0) := by rw [cell_of_block t1]; rfl
  have r3 : w1.cell? ⟨w.heap.size + 1, 3, none⟩ = some (.string ⟨#[]⟩) := by rw [cell_of_block t1]; rfl
  have r4 : w1.cell? ⟨w.heap.size + 1, 4, none⟩ = some (.slice none 0 0) := by rw [cell_of_block t1]; rfl
  have r5 : w1.cell? ⟨w.heap.size + 1, 5, none⟩ = some (.slice none 0 0) := by rw [cell_of_block t1]; rfl
  have rf : ∀ i, w1.frozen? ⟨w.heap.size + 1, i, none⟩ = false := frozen_of_block t1
  cases ho : okV v with
  | false =>
    have HF : Hid (clnV v = nullV) := by show _ = _; rw [clnV, if_neg (by simp [ho])]
    clear t0 t1 h0 h1
    go_wp2_with fail
    (try simp only [Exit.inBlock, Exit.then])
    refine bodyPost_ret (v := .agg #[.int .i64 0, .bool false, .int .i64 0, .string ⟨#[]⟩, .slice none 0 0, .slice none 0 0]) (by rw [results_cell1 rfl]; go_simp) rfl ?_
    rw [HF.out]
    exact ⟨[.int .i64 0, .bool false, .int .i64 0, .string ⟨#[]⟩, .slice none 0 0, .slice none 0 0], rfl, null_lies _ _, Below.set6 B1 (by omega) _ _ _ _ _ _ _ _ _ _ _ _⟩
  | true =>
    have HF : Hid (clnV v = v) := by show _ = _; rw [clnV, if_pos ho]
    go_wp2_with fail
    refine (anew_any v R S _ w1 (HV.out w1 B1).1 (HV.out w1 B1).2 hwt).mono ?_
    rintro e w2 ⟨csu, rfl, hlu, b2⟩
    obtain ⟨uk, ub, ui, us, ual, unl, ucl, uam, unm, ucm, rfl⟩ := V.ten hlu
    have hz3 := b2.size
    have B2 := B1.trans (b2.mono (by omega))
    have t1' := (b2.block (w.heap.size + 1) (by omega)).trans t1
    have HU : Hid (v.lies false w2 (From (w.heap.size + 2) w2) [.int .i64 uk, .bool ub, .int .i64 ui, .string us, .slice ual unl ucl, .slice uam unm ucm]) := V.lies_keep (fun h => h) (fun _ _ => rfl) (fun x hx => ⟨by have := hx.1; omega, hx.2⟩) _ hlu
    clear d0 d1 d2 d3 d4 d5 r0 r1 r2 r3 r4 r5 rf hlu b2 t0 t1 h0 h1
    have r0 : w2.cell? ⟨w.heap.size + 1, 0, none⟩ = some (.int .i64 0) := by rw [cell_of_block t1']; rfl
    have r1 : w2.cell? ⟨w.heap.size + 1, 1, none⟩ = some (.bool false) := by rw [cell_of_block t1']; rfl
    have r2 : w2.cell? ⟨w.heap.size + 1, 2, none⟩ = some (.int .i64 0) := by rw [cell_of_block t1']; rfl
    have r3 : w2.cell? ⟨w.heap.size + 1, 3, none⟩ = some (.string ⟨#[]⟩) := by rw [cell_of_block t1']; rfl
    have r4 : w2.cell? ⟨w.heap.size + 1, 4, none⟩ = some (.slice none 0 0) := by rw [cell_of_block t1']; rfl
    have r5 : w2.cell? ⟨w.heap.size + 1, 5, none⟩ = some (.slice none 0 0) := by rw [cell_of_block t1']; rfl
    have rf : ∀ i, w2.frozen? ⟨w.heap.size + 1, i, none⟩ = false := frozen_of_block t1'
    clear t1'
    go_wp2_with fail
    (try simp only [Exit.inBlock, Exit.then])
    refine bodyPost_ret (v := .agg #[.int .i64 uk, .bool ub, .int .i64 ui, .string us, .slice ual unl ucl, .slice uam unm ucm]) (by rw [results_cell1 rfl]; go_simp) rfl ?_
    rw [HF.out]
    refine ⟨[.int .i64 uk, .bool ub, .int .i64 ui, .string us, .slice ual unl ucl, .slice uam unm ucm], rfl, V.lies_keep (fun h => h) (fun _ _ => rfl) (fun x hx => ⟨by have := hx.1; omega, hx.2⟩) _ (lies_set6A HU.out (show w.heap.size + 1 < w.heap.size + 2 by omega) _ _ _ _ _ _ _ _ _ _ _ _), Below.set6 B2 (by omega) _ _ _ _ _ _ _ _ _ _ _ _⟩
end Go.Proofs.YtejcfkkkbnnmcaaGreatDoor
