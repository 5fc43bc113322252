/- joined: AnwA AnwB AnwC -/
import Derived.Test.YtjfldbmopjojdaaDoorG8
import Derived.Laws.MakeOwn
set_option linter.unusedSimpArgs false
set_option linter.unusedVariables false
namespace Go.Proofs.YtjfldbmopjojdaaDoor
open Go.RowKit Go.Lib
theorem set_other {w : World} {g o x : Nat} {u : Value} (h : x ≠ g) : (w.setCell ⟨g, o, none⟩ u).heap[x]? = w.heap[x]? := by
 by_cases hx : x < w.heap.size
 ·exact (grown_set1 w g o u).block x hx (fun e => h (Option.some.inj e))
 ·rw [Array.getElem?_eq_none (by rw [size_set1]; omega), Array.getElem?_eq_none (by omega)]
theorem set6_row {w : World} {g o : Nat} {arr : Array Value} {ty : TypeId} (h : w.heap[g]? = some (.cells arr ty (0, 0))) (ho : o + 6 ≤ arr.size) (c0 c1 c2 c3 c4 c5 : Value) :
 ∃ arr', ((((((w.setCell ⟨g, o, none⟩ c0).setCell ⟨g, o + 1, none⟩ c1).setCell ⟨g, o + 2, none⟩ c2).setCell ⟨g, o + 3, none⟩ c3).setCell ⟨g, o + 4, none⟩ c4).setCell ⟨g, o + 5, none⟩ c5).heap[g]? = some (.cells arr' ty (0, 0)) ∧ arr'.size = arr.size ∧ (∀ p, p < o → arr'[p]? = arr[p]?) ∧ rowAt ((((((w.setCell ⟨g, o, none⟩ c0).setCell ⟨g, o + 1, none⟩ c1).setCell ⟨g, o + 2, none⟩ c2).setCell ⟨g, o + 3, none⟩ c3).setCell ⟨g, o + 4, none⟩ c4).setCell ⟨g, o + 5, none⟩ c5) g o [c0, c1, c2, c3, c4, c5] ∧ (∀ x, x ≠ g → ((((((w.setCell ⟨g, o, none⟩ c0).setCell ⟨g, o + 1, none⟩ c1).setCell ⟨g, o + 2, none⟩ c2).setCell ⟨g, o + 3, none⟩ c3).setCell ⟨g, o + 4, none⟩ c4).setCell ⟨g, o + 5, none⟩ c5).heap[x]? = w.heap[x]?) ∧ ((((((w.setCell ⟨g, o, none⟩ c0).setCell ⟨g, o + 1, none⟩ c1).setCell ⟨g, o + 2, none⟩ c2).setCell ⟨g, o + 3, none⟩ c3).setCell ⟨g, o + 4, none⟩ c4).setCell ⟨g, o + 5, none⟩ c5).heap.size = w.heap.size := by
 have h0 : (w.setCell ⟨g, o, none⟩ c0).heap[g]? = some (.cells (arr.setIfInBounds o c0) ty (0, 0)) := by rw [set_block h]
 have h1 : ((w.setCell ⟨g, o, none⟩ c0).setCell ⟨g, o + 1, none⟩ c1).heap[g]? = some (.cells ((arr.setIfInBounds o c0).setIfInBounds (o + 1) c1) ty (0, 0)) := by rw [set_block h0]
 have h2 : (((w.setCell ⟨g, o, none⟩ c0).setCell ⟨g, o + 1, none⟩ c1).setCell ⟨g, o + 2, none⟩ c2).heap[g]? = some (.cells (((arr.setIfInBounds o c0).setIfInBounds (o + 1) c1).setIfInBounds (o + 2) c2) ty (0, 0)) := by rw [set_block h1]
 have h3 : ((((w.setCell ⟨g, o, none⟩ c0).setCell ⟨g, o + 1, none⟩ c1).setCell ⟨g, o + 2, none⟩ c2).setCell ⟨g, o + 3, none⟩ c3).heap[g]? = some (.cells ((((arr.setIfInBounds o c0).setIfInBounds (o + 1) c1).setIfInBounds (o + 2) c2).setIfInBounds (o + 3) c3) ty (0, 0)) := by rw [set_block h2]
 have h4 : (((((w.setCell ⟨g, o, none⟩ c0).setCell ⟨g, o + 1, none⟩ c1).setCell ⟨g, o + 2, none⟩ c2).setCell ⟨g, o + 3, none⟩ c3).setCell ⟨g, o + 4, none⟩ c4).heap[g]? = some (.cells (((((arr.setIfInBounds o c0).setIfInBounds (o + 1) c1).setIfInBounds (o + 2) c2).setIfInBounds (o + 3) c3).setIfInBounds (o + 4) c4) ty (0, 0)) := by rw [set_block h3]
 have h5 : ((((((w.setCell ⟨g, o, none⟩ c0).setCell ⟨g, o + 1, none⟩ c1).setCell ⟨g, o + 2, none⟩ c2).setCell ⟨g, o + 3, none⟩ c3).setCell ⟨g, o + 4, none⟩ c4).setCell ⟨g, o + 5, none⟩ c5).heap[g]? = some (.cells ((((((arr.setIfInBounds o c0).setIfInBounds (o + 1) c1).setIfInBounds (o + 2) c2).setIfInBounds (o + 3) c3).setIfInBounds (o + 4) c4).setIfInBounds (o + 5) c5) ty (0, 0)) := by rw [set_block h4]
 refine ⟨_, h5, by simp, fun p hp => ?_, ?_, fun x hx => ?_, by simp [size_set1]⟩
 ·simp only [Array.getElem?_setIfInBounds]
  repeat (rw [if_neg (by omega)])
 ·intro q u hu
  rw [cell_of_block h5]
  have hq : q < 6 := by
   rcases Nat.lt_or_ge q 6 with h | h
   ·exact h
   ·rw [List.getElem?_eq_none (by simpa using h)] at hu; cases hu
  rcases (show q = 0 ∨ q = 1 ∨ q = 2 ∨ q = 3 ∨ q = 4 ∨ q = 5 by omega) with rfl | rfl | rfl | rfl | rfl | rfl
  all_goals
   simp only [List.getElem?_cons_zero, List.getElem?_cons_succ, Option.some.injEq] at hu
   subst hu
   simp (config := { maxSteps := 200000 }) only [Array.getElem?_setIfInBounds, Array.size_setIfInBounds]
   repeat (first | rw [if_pos trivial] | rw [if_neg (by omega)] | rw [if_pos (by omega)])
 ·rw [set_other hx]; rw [set_other hx]; rw [set_other hx]; rw [set_other hx]; rw [set_other hx]; rw [set_other hx]
theorem set7_row {w : World} {g o : Nat} {arr : Array Value} {ty : TypeId} (h : w.heap[g]? = some (.cells arr ty (0, 0))) (ho : o + 7 ≤ arr.size) (c0 c1 c2 c3 c4 c5 c6 : Value) :
 ∃ arr', (((((((w.setCell ⟨g, o, none⟩ c0).setCell ⟨g, o + 1, none⟩ c1).setCell ⟨g, o + 2, none⟩ c2).setCell ⟨g, o + 3, none⟩ c3).setCell ⟨g, o + 4, none⟩ c4).setCell ⟨g, o + 5, none⟩ c5).setCell ⟨g, o + 6, none⟩ c6).heap[g]? = some (.cells arr' ty (0, 0)) ∧ arr'.size = arr.size ∧ (∀ p, p < o → arr'[p]? = arr[p]?) ∧ rowAt (((((((w.setCell ⟨g, o, none⟩ c0).setCell ⟨g, o + 1, none⟩ c1).setCell ⟨g, o + 2, none⟩ c2).setCell ⟨g, o + 3, none⟩ c3).setCell ⟨g, o + 4, none⟩ c4).setCell ⟨g, o + 5, none⟩ c5).setCell ⟨g, o + 6, none⟩ c6) g o [c0, c1, c2, c3, c4, c5, c6] ∧ (∀ x, x ≠ g → (((((((w.setCell ⟨g, o, none⟩ c0).setCell ⟨g, o + 1, none⟩ c1).setCell ⟨g, o + 2, none⟩ c2).setCell ⟨g, o + 3, none⟩ c3).setCell ⟨g, o + 4, none⟩ c4).setCell ⟨g, o + 5, none⟩ c5).setCell ⟨g, o + 6, none⟩ c6).heap[x]? = w.heap[x]?) ∧ (((((((w.setCell ⟨g, o, none⟩ c0).setCell ⟨g, o + 1, none⟩ c1).setCell ⟨g, o + 2, none⟩ c2).setCell ⟨g, o + 3, none⟩ c3).setCell ⟨g, o + 4, none⟩ c4).setCell ⟨g, o + 5, none⟩ c5).setCell ⟨g, o + 6, none⟩ c6).heap.size = w.heap.size := by
 have h0 : (w.setCell ⟨g, o, none⟩ c0).heap[g]? = some (.cells (arr.setIfInBounds o c0) ty (0, 0)) := by rw [set_block h]
 have h1 : ((w.setCell ⟨g, o, none⟩ c0).setCell ⟨g, o + 1, none⟩ c1).heap[g]? = some (.cells ((arr.setIfInBounds o c0).setIfInBounds (o + 1) c1) ty (0, 0)) := by rw [set_block h0]
 have h2 : (((w.setCell ⟨g, o, none⟩ c0).setCell ⟨g, o + 1, none⟩ c1).setCell ⟨g, o + 2, none⟩ c2).heap[g]? = some (.cells (((arr.setIfInBounds o c0).setIfInBounds (o + 1) c1).setIfInBounds (o + 2) c2) ty (0, 0)) := by rw [set_block h1]
 have h3 : ((((w.setCell ⟨g, o, none⟩ c0).setCell ⟨g, o + 1, none⟩ c1).setCell ⟨g, o + 2, none⟩ c2).setCell ⟨g, o + 3, none⟩ c3).heap[g]? = some (.cells ((((arr.setIfInBounds o c0).setIfInBounds (o + 1) c1).setIfInBounds (o + 2) c2).setIfInBounds (o + 3) c3) ty (0, 0)) := by rw [set_block h2]
 have h4 : (((((w.setCell ⟨g, o, none⟩ c0).setCell ⟨g, o + 1, none⟩ c1).setCell ⟨g, o + 2, none⟩ c2).setCell ⟨g, o + 3, none⟩ c3).setCell ⟨g, o + 4, none⟩ c4).heap[g]? = some (.cells (((((arr.setIfInBounds o c0).setIfInBounds (o + 1) c1).setIfInBounds (o + 2) c2).setIfInBounds (o + 3) c3).setIfInBounds (o + 4) c4) ty (0, 0)) := by rw [set_block h3]
 have h5 : ((((((w.setCell ⟨g, o, none⟩ c0).setCell ⟨g, o + 1, none⟩ c1).setCell ⟨g, o + 2, none⟩ c2).setCell ⟨g, o + 3, none⟩ c3).setCell ⟨g, o + 4, none⟩ c4).setCell ⟨g, o + 5, none⟩ c5).heap[g]? = some (.cells ((((((arr.setIfInBounds o c0).setIfInBounds (o + 1) c1).setIfInBounds (o + 2) c2).setIfInBounds (o + 3) c3).setIfInBounds (o + 4) c4).setIfInBounds (o + 5) c5) ty (0, 0)) := by rw [set_block h4]
 have h6 : (((((((w.setCell ⟨g, o, none⟩ c0).setCell ⟨g, o + 1, none⟩ c1).setCell ⟨g, o + 2, none⟩ c2).setCell ⟨g, o + 3, none⟩ c3).setCell ⟨g, o + 4, none⟩ c4).setCell ⟨g, o + 5, none⟩ c5).setCell ⟨g, o + 6, none⟩ c6).heap[g]? = some (.cells (((((((arr.setIfInBounds o c0).setIfInBounds (o + 1) c1).setIfInBounds (o + 2) c2).setIfInBounds (o + 3) c3).setIfInBounds (o + 4) c4).setIfInBounds (o + 5) c5).setIfInBounds (o + 6) c6) ty (0, 0)) := by rw [set_block h5]
 refine ⟨_, h6, by simp, fun p hp => ?_, ?_, fun x hx => ?_, by simp [size_set1]⟩
 ·simp only [Array.getElem?_setIfInBounds]
  repeat (rw [if_neg (by omega)])
 ·intro q u hu
  rw [cell_of_block h6]
  have hq : q < 7 := by
   rcases Nat.lt_or_ge q 7 with h | h
   ·exact h
   ·rw [List.getElem?_eq_none (by simpa using h)] at hu; cases hu
  rcases (show q = 0 ∨ q = 1 ∨ q = 2 ∨ q = 3 ∨ q = 4 ∨ q = 5 ∨ q = 6 by omega) with rfl | rfl | rfl | rfl | rfl | rfl | rfl
  all_goals
   simp only [List.getElem?_cons_zero, List.getElem?_cons_succ, Option.some.injEq] at hu
   subst hu
   simp (config := { maxSteps := 200000 }) only [Array.getElem?_setIfInBounds, Array.size_setIfInBounds]
   repeat (first | rw [if_pos trivial] | rw [if_neg (by omega)] | rw [if_pos (by omega)])
 ·rw [set_other hx]; rw [set_other hx]; rw [set_other hx]; rw [set_other hx]; rw [set_other hx]; rw [set_other hx]; rw [set_other hx]
def RowsL (l : List V) (j g : Nat) (w : World) : Prop := ∀ (i : Nat) (h : i < l.length), i < j → ∃ cs, rowAt w g (i * 6) cs ∧ cs.length = 6 ∧ (l[i]).lies false w (fun x => g < x ∧ x < w.heap.size) cs
def Blk (g ty n : Nat) (w : World) : Prop := ∃ arr, w.heap[g]? = some (.cells arr ty (0, 0)) ∧ arr.size = n
theorem Blk.cell {g ty n : Nat} {w : World} (h : Blk g ty n w) (i : Nat) (hi : i < n) : ∃ v, w.cell? ⟨g, i, none⟩ = some v := by
 obtain ⟨arr, h1, h2⟩ := h
 exact ⟨arr[i], by rw [cell_of_block h1]; simp [h2, hi]⟩
theorem Blk.frozen {g ty n : Nat} {w : World} (h : Blk g ty n w) (i : Nat) : w.frozen? ⟨g, i, none⟩ = false := by
 obtain ⟨arr, h1, h2⟩ := h
 exact frozen_of_block h1 i
theorem Blk.keep {g ty n : Nat} {w w' : World} (h : Blk g ty n w) (e : w'.heap[g]? = w.heap[g]?) : Blk g ty n w' := by
 obtain ⟨arr, h1, h2⟩ := h
 exact ⟨arr, e.trans h1, h2⟩
theorem RowsL.below {l : List V} {j g : Nat} {w w' : World} (h : RowsL l j g w) (hg : g < w.heap.size) (hb : Below w.heap.size w w') : RowsL l j g w' := fun i hi hij => by
 obtain ⟨cs, r, hl, lies⟩ := h i hi hij
 exact ⟨cs, r.keep (hb.block g hg), hl, V.lies_keep (fun h => h) (fun x hx => hb.block x hx.2) (fun x hx => ⟨hx.1, Nat.lt_of_lt_of_le hx.2 hb.size⟩) _ lies⟩
theorem RowsL.store {l : List V} {j g n : Nat} {w w3 : World} (h : RowsL l j g w3) (hB : Blk g 25 n w3) (hj : j < l.length) (hn : j * 6 + 6 ≤ n) {c0 c1 c2 c3 c4 c5 : Value} (hv : (l[j]).lies false w3 (fun x => g < x ∧ x < w3.heap.size) [c0, c1, c2, c3, c4, c5]) (hw : Below w.heap.size w w3) (hg : w.heap.size ≤ g) :
 RowsL l (j + 1) g ((((((w3.setCell ⟨g, j * 6, none⟩ c0).setCell ⟨g, j * 6 + 1, none⟩ c1).setCell ⟨g, j * 6 + 2, none⟩ c2).setCell ⟨g, j * 6 + 3, none⟩ c3).setCell ⟨g, j * 6 + 4, none⟩ c4).setCell ⟨g, j * 6 + 5, none⟩ c5) ∧
 Blk g 25 n ((((((w3.setCell ⟨g, j * 6, none⟩ c0).setCell ⟨g, j * 6 + 1, none⟩ c1).setCell ⟨g, j * 6 + 2, none⟩ c2).setCell ⟨g, j * 6 + 3, none⟩ c3).setCell ⟨g, j * 6 + 4, none⟩ c4).setCell ⟨g, j * 6 + 5, none⟩ c5) ∧
 Below w.heap.size w ((((((w3.setCell ⟨g, j * 6, none⟩ c0).setCell ⟨g, j * 6 + 1, none⟩ c1).setCell ⟨g, j * 6 + 2, none⟩ c2).setCell ⟨g, j * 6 + 3, none⟩ c3).setCell ⟨g, j * 6 + 4, none⟩ c4).setCell ⟨g, j * 6 + 5, none⟩ c5) := by
 obtain ⟨arr, h1, h2⟩ := hB
 obtain ⟨arr', e1, e2, e3, e4, e5, e6⟩ := set6_row h1 (o := j * 6) (by omega) c0 c1 c2 c3 c4 c5
 have hBl := Below.set6 hw hg (j * 6) (j * 6 + 1) (j * 6 + 2) (j * 6 + 3) (j * 6 + 4) (j * 6 + 5) c0 c1 c2 c3 c4 c5
 generalize ((((((w3.setCell ⟨g, j * 6, none⟩ c0).setCell ⟨g, j * 6 + 1, none⟩ c1).setCell ⟨g, j * 6 + 2, none⟩ c2).setCell ⟨g, j * 6 + 3, none⟩ c3).setCell ⟨g, j * 6 + 4, none⟩ c4).setCell ⟨g, j * 6 + 5, none⟩ c5) = W at *
 refine ⟨fun i hi hij => ?_, ⟨arr', e1, by omega⟩, hBl⟩
 by_cases hij' : i < j
 ·obtain ⟨cs, r, hl, lies⟩ := h i hi hij'
  refine ⟨cs, fun q u hu => ?_, hl, V.lies_keep (fun h => h) (fun x hx => e5 x (by have := hx.1; omega)) (fun x hx => ⟨hx.1, by rw [e6]; exact hx.2⟩) _ lies⟩
  have := r q u hu
  have hq : q < 6 := by
   rcases Nat.lt_or_ge q 6 with h | h
   ·exact h
   ·rw [List.getElem?_eq_none (by omega)] at hu; cases hu
  rw [cell_of_block h1] at this
  rw [cell_of_block e1, e3 _ (by omega)]
  exact this
 ·obtain rfl : i = j := by omega
  exact ⟨_, e4, rfl, V.lies_keep (fun h => h) (fun x hx => e5 x (by have := hx.1; omega)) (fun x hx => ⟨hx.1, by rw [e6]; exact hx.2⟩) _ hv⟩
def RowsM (l : List Mem) (j g : Nat) (w : World) : Prop := ∀ (i : Nat) (h : i < l.length), i < j → ∃ cs, rowAt w g (i * 7) (.string (l[i]).1 :: cs) ∧ cs.length = 6 ∧ (l[i]).1.size ≤ maxLen ∧ (l[i]).2.lies false w (fun x => g < x ∧ x < w.heap.size) cs
theorem RowsM.below {l : List Mem} {j g : Nat} {w w' : World} (h : RowsM l j g w) (hg : g < w.heap.size) (hb : Below w.heap.size w w') : RowsM l j g w' := fun i hi hij => by
 obtain ⟨cs, r, hl, hks, lies⟩ := h i hi hij
 exact ⟨cs, r.keep (hb.block g hg), hl, hks, V.lies_keep (fun h => h) (fun x hx => hb.block x hx.2) (fun x hx => ⟨hx.1, Nat.lt_of_lt_of_le hx.2 hb.size⟩) _ lies⟩
theorem RowsM.store {l : List Mem} {j g n : Nat} {w w3 : World} (h : RowsM l j g w3) (hB : Blk g 57 n w3) (hj : j < l.length) (hn : j * 7 + 7 ≤ n) {c1 c2 c3 c4 c5 c6 : Value} (hks : (l[j]).1.size ≤ maxLen) (hv : (l[j]).2.lies false w3 (fun x => g < x ∧ x < w3.heap.size) [c1, c2, c3, c4, c5, c6]) (hw : Below w.heap.size w w3) (hg : w.heap.size ≤ g) :
 RowsM l (j + 1) g (((((((w3.setCell ⟨g, j * 7, none⟩ (.string (l[j]).1)).setCell ⟨g, j * 7 + 1, none⟩ c1).setCell ⟨g, j * 7 + 2, none⟩ c2).setCell ⟨g, j * 7 + 3, none⟩ c3).setCell ⟨g, j * 7 + 4, none⟩ c4).setCell ⟨g, j * 7 + 5, none⟩ c5).setCell ⟨g, j * 7 + 6, none⟩ c6) ∧
 Blk g 57 n (((((((w3.setCell ⟨g, j * 7, none⟩ (.string (l[j]).1)).setCell ⟨g, j * 7 + 1, none⟩ c1).setCell ⟨g, j * 7 + 2, none⟩ c2).setCell ⟨g, j * 7 + 3, none⟩ c3).setCell ⟨g, j * 7 + 4, none⟩ c4).setCell ⟨g, j * 7 + 5, none⟩ c5).setCell ⟨g, j * 7 + 6, none⟩ c6) ∧
 Below w.heap.size w (((((((w3.setCell ⟨g, j * 7, none⟩ (.string (l[j]).1)).setCell ⟨g, j * 7 + 1, none⟩ c1).setCell ⟨g, j * 7 + 2, none⟩ c2).setCell ⟨g, j * 7 + 3, none⟩ c3).setCell ⟨g, j * 7 + 4, none⟩ c4).setCell ⟨g, j * 7 + 5, none⟩ c5).setCell ⟨g, j * 7 + 6, none⟩ c6) := by
 obtain ⟨arr, h1, h2⟩ := hB
 obtain ⟨arr', e1, e2, e3, e4, e5, e6⟩ := set7_row h1 (o := j * 7) (by omega) (.string (l[j]).1) c1 c2 c3 c4 c5 c6
 have hBl : Below w.heap.size w (((((((w3.setCell ⟨g, j * 7, none⟩ (.string (l[j]).1)).setCell ⟨g, j * 7 + 1, none⟩ c1).setCell ⟨g, j * 7 + 2, none⟩ c2).setCell ⟨g, j * 7 + 3, none⟩ c3).setCell ⟨g, j * 7 + 4, none⟩ c4).setCell ⟨g, j * 7 + 5, none⟩ c5).setCell ⟨g, j * 7 + 6, none⟩ c6) := by
  repeat (refine Below.setCell ?_ (by assumption) _)
  exact hw
 generalize (((((((w3.setCell ⟨g, j * 7, none⟩ (.string (l[j]).1)).setCell ⟨g, j * 7 + 1, none⟩ c1).setCell ⟨g, j * 7 + 2, none⟩ c2).setCell ⟨g, j * 7 + 3, none⟩ c3).setCell ⟨g, j * 7 + 4, none⟩ c4).setCell ⟨g, j * 7 + 5, none⟩ c5).setCell ⟨g, j * 7 + 6, none⟩ c6) = W at *
 refine ⟨fun i hi hij => ?_, ⟨arr', e1, by omega⟩, hBl⟩
 by_cases hij' : i < j
 ·obtain ⟨cs, r, hl, hks', lies⟩ := h i hi hij'
  refine ⟨cs, fun q u hu => ?_, hl, hks', V.lies_keep (fun h => h) (fun x hx => e5 x (by have := hx.1; omega)) (fun x hx => ⟨hx.1, by rw [e6]; exact hx.2⟩) _ lies⟩
  have := r q u hu
  have hq : q < 7 := by
   rcases Nat.lt_or_ge q 7 with h | h
   ·exact h
   ·rw [List.getElem?_eq_none (by simp; omega)] at hu; cases hu
  rw [cell_of_block h1] at this
  rw [cell_of_block e1, e3 _ (by omega)]
  exact this
 ·obtain rfl : i = j := by omega
  exact ⟨_, e4, rfl, hks, V.lies_keep (fun h => h) (fun x hx => e5 x (by have := hx.1; omega)) (fun x hx => ⟨hx.1, by rw [e6]; exact hx.2⟩) _ hv⟩
end Go.Proofs.YtjfldbmopjojdaaDoor
