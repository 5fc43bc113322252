import Derived.Test.YtmmlejbebfkojaaDoorG19
import Derived.Laws.MakeOwn
/- Storing a row's cells; value.anewList, value.anewMap, value.anew. -/
set_option linter.unusedSimpArgs false
set_option linter.unusedVariables false
namespace Go.Proofs.YtmmlejbebfkojaaDoor
open Go.RowKit Go.Lib
theorem set_other {w : World} {g o x : Nat} {u : Value} (h : x ≠ g) : (w.setCell ⟨g, o, none⟩ u).heap[x]? = w.heap[x]? := by
  by_cases hx : x < w.heap.size
  · exact (grown_set1 w g o u).block x hx (fun e => h (Option.some.inj e))
  · rw [Array.getElem?_eq_none (by rw [size_set1]; omega), Array.getElem?_eq_none (by omega)]
theorem set6_row {w : World} {g o : Nat} {arr : Array Value} {ty : TypeId} (h : w.heap[g]? = some (.cells arr ty (0, 0))) (ho : o + 6 ≤ arr.size) (c0 c1 c2 c3 c4 c5 : Value) :
    ∃ arr', ((((((w.setCell ⟨g, o, none⟩ c0).setCell ⟨g, o + 1, none⟩ c1).setCell ⟨g, o + 2, none⟩ c2).setCell ⟨g, o + 3, none⟩ c3).setCell ⟨g, o + 4, none⟩ c4).setCell ⟨g, o + 5, none⟩ c5).heap[g]? = some (.cells arr' ty (0, 0)) ∧ arr'.size = arr.size ∧ (∀ p, p < o → arr'[p]? = arr[p]?) ∧ rowAt ((((((w.setCell ⟨g, o, none⟩ c0).setCell ⟨g, o + 1, none⟩ c1).setCell ⟨g, o + 2, none⟩ c2).setCell ⟨g, o + 3, none⟩ c3).setCell ⟨g, o + 4, none⟩ c4).setCell ⟨g, o + 5, none⟩ c5) g o [c0, c1, c2, c3, c4, c5] ∧ (∀ x, x ≠ g → ((((((w.setCell ⟨g, o, none⟩ c0).setCell ⟨g, o + 1, none⟩ c1).setCell ⟨g, o + 2, none⟩ c2).setCell ⟨g, o + 3, none⟩ c3).setCell ⟨g, o + 4, none⟩ c4).setCell ⟨g, o + 5, none⟩ c5).heap[x]? = w.heap[x]?) ∧ ((((((w.setCell ⟨g, o, none⟩ c0).setCell ⟨g, o + 1, none⟩ c1).setCell ⟨g, o + 2, none⟩ c2).setCell ⟨g, o + 3, none⟩ c3).setCell ⟨g, o + 4, none⟩ c4).setCell ⟨g, o + 5, none⟩ c5).heap.size = w.heap.size := by
  have h0 : (w.setCell ⟨g, o, none⟩ c0).heap[g]? = some (.cells (arr.setIfInBounds o c0) ty (0, 0)) := by rw [set_block h]
  have h1 : ((w.setCell ⟨g, o, none⟩ c0).setCell ⟨g, o + 1, none⟩ c1).heap[g]? = some (.cells ((arr.setIfInBounds o c0).setIfInBounds (o + 1) c1) ty (0, 0)) := by rw [set_block h0]
  have h2 : (((w.setCell ⟨g, o, none⟩ c0).setCell ⟨g, o + 1, none⟩ c1).setCell ⟨g, o + 2, none⟩ c2).heap[g]? = some (.cells (((arr.setIfInBounds o c0).setIfInBounds (o + 1) c1).setIfInBounds (o + 2) c2) ty (0, 0)) := by rw [set_block h1]
  have h3 : ((((w.setCell ⟨g, o, none⟩ c0).setCell ⟨g, o + 1, none⟩ c1).setCell ⟨g, o + 2, none⟩ c2).setCell ⟨g, o + 3, none⟩ c3).heap[g]? = some (.cells ((((arr.setIfInBounds o c0).setIfInBounds (o + 1) c1).setIfInBounds (o + 2) c2).setIfInBounds (o + 3) c3) ty (0, 0)) := by rw [set_block h2]
  have h4 : (((((w.setCell ⟨g, o, none⟩ c0).setCell ⟨g, o + 1, none⟩ c1).setCell ⟨g, o + 2, none⟩ c2).setCell ⟨g, o + 3, none⟩ c3).setCell ⟨g, o + 4, none⟩ c4).heap[g]? = some (.cells (((((arr.setIfInBounds o c0).setIfInBounds (o + 1) c1).setIfInBounds (o + 2) c2).setIfInBounds (o + 3) c3).setIfInBounds (o + 4) c4) ty (0, 0)) := by rw [set_block h3]
  have h5 : ((((((w.setCell ⟨g, o, none⟩ c0).setCell ⟨g, o + 1, none⟩ c1).setCell ⟨g, o + 2, none⟩ c2).setCell ⟨g, o + 3, none⟩ c3).setCell ⟨g, o + 4, none⟩ c4).setCell ⟨g, o + 5, none⟩ c5).heap[g]? = some (.cells ((((((arr.setIfInBounds o c0).setIfInBounds (o + 1) c1).setIfInBounds (o + 2) c2).setIfInBounds (o + 3) c3).setIfInBounds (o + 4) c4).setIfInBounds (o + 5) c5) ty (0, 0)) := by rw [set_block h4]
  refine ⟨_, h5, by simp, fun p hp => ?_, ?_, fun x hx => ?_, by simp [size_set1]⟩
  · simp only [Array.getElem?_setIfInBounds]
    repeat (rw [if_neg (by omega)])
  · intro q u hu
    rw [cell_of_block h5]
    have hq : q < 6 := by
      rcases Nat.lt_or_ge q 6 with h | h
      · exact h
      · rw [List.getElem?_eq_none (by simpa using h)] at hu; cases hu
    rcases (show q = 0 ∨ q = 1 ∨ q = 2 ∨ q = 3 ∨ q = 4 ∨ q = 5 by omega) with rfl | rfl | rfl | rfl | rfl | rfl
    all_goals
      simp only [List.getElem?_cons_zero, List.getElem?_cons_succ, Option.some.injEq] at hu
      subst hu
      simp (config := { maxSteps := 200000 }) only [Array.getElem?_setIfInBounds, Array.size_setIfInBounds]
      repeat (first | rw [if_pos trivial] | rw [if_neg (by omega)] | rw [if_pos (by omega)])
  · rw [set_other hx]; rw [set_other hx]; rw [set_other hx]; rw [set_other hx]; rw [set_other hx]; rw [set_other hx]
theorem set7_row {w : World} {g o : Nat} {arr : Array Value} {ty : TypeId} (h : w.heap[g]? = some (.cells arr ty (0, 0))) (ho : o + 7 ≤ arr.size) (c0 c1 c2 c3 c4 c5 c6 : Value) :
    ∃ arr', (((((((w.setCell ⟨g, o, none⟩ c0).setCell ⟨g, o + 1, none⟩ c1).setCell ⟨g, o + 2, none⟩ c2).setCell ⟨g, o + 3, none⟩ c3).setCell ⟨g, o + 4, none⟩ c4).setCell ⟨g, o + 5, none⟩ c5).setCell ⟨g, o + 6, none⟩ c6).heap[g]? = some (.cells arr' ty (0, 0)) ∧ arr'.size = arr.size ∧ (∀ p, p < o → arr'[p]? = arr[p]?) ∧ rowAt (((((((w.setCell ⟨g, o, none⟩ c0).setCell ⟨g, o + 1, none⟩ c1).setCell ⟨g, o + 2, none⟩ c2).setCell ⟨g, o + 3, none⟩ c3).setCell ⟨g, o + 4, none⟩ c4).setCell ⟨g, o + 5, none⟩ c5).setCell ⟨g, o + 6, none⟩ c6) g o [c0, c1, c2, c3, c4, c5, c6] ∧ (∀ x, x ≠ g → (((((((w.setCell ⟨g, o, none⟩ c0).setCell ⟨g, o + 1, none⟩ c1).setCell ⟨g, o + 2, none⟩ c2).setCell ⟨g, o + 3, none⟩ c3).setCell ⟨g, o + 4, none⟩ c4).setCell ⟨g, o + 5, none⟩ c5).setCell ⟨g, o + 6, none⟩ c6).heap[x]? = w.heap[x]?) ∧ (((((((w.setCell ⟨g, o, none⟩ c0).setCell ⟨g, o + 1, none⟩ c1).setCell ⟨g, o + 2, none⟩ c2).setCell ⟨g, o + 3, none⟩ c3).setCell ⟨g, o + 4, none⟩ c4).setCell ⟨g, o + 5, none⟩ c5).setCell ⟨g, o + 6, none⟩ c6).heap.size = w.heap.size := by
  have h0 : (w.setCell ⟨g, o, none⟩ c0).heap[g]? = some (.cells (arr.setIfInBounds o c0) ty (0, 0)) := by rw [set_block h]
  have h1 : ((w.setCell ⟨g, o, none⟩ c0).setCell ⟨g, o + 1, none⟩ c1).heap[g]? = some (.cells ((arr.setIfInBounds o c0).setIfInBounds (o + 1) c1) ty (0, 0)) := by rw [set_block h0]
  have h2 : (((w.setCell ⟨g, o, none⟩ c0).setCell ⟨g, o + 1, none⟩ c1).setCell ⟨g, o + 2, none⟩ c2).heap[g]? = some (.cells (((arr.setIfInBounds o c0).setIfInBounds (o + 1) c1).setIfInBounds (o + 2) c2) ty (0, 0)) := by rw [set_block h1]
  have h3 : ((((w.setCell ⟨g, o, none⟩ c0).setCell ⟨g, o + 1, none⟩ c1).setCell ⟨g, o + 2, none⟩ c2).setCell ⟨g, o + 3, none⟩ c3).heap[g]? = some (.cells ((((arr.setIfInBounds o c0).setIfInBounds (o + 1) c1).setIfInBounds (o + 2) c2).setIfInBounds (o + 3) c3) ty (0, 0)) := by rw [set_block h2]
  have h4 : (((((w.setCell ⟨g, o, none⟩ c0).setCell ⟨g, o + 1, none⟩ c1).setCell ⟨g, o + 2, none⟩ c2).setCell ⟨g, o + 3, none⟩ c3).setCell ⟨g, o + 4, none⟩ c4).heap[g]? = some (.cells (((((arr.setIfInBounds o c0).setIfInBounds (o + 1) c1).setIfInBounds (o + 2) c2).setIfInBounds (o + 3) c3).setIfInBounds (o + 4) c4) ty (0, 0)) := by rw [set_block h3]
  have h5 : ((((((w.setCell ⟨g, o, none⟩ c0).setCell ⟨g, o + 1, none⟩ c1).setCell ⟨g, o + 2, none⟩ c2).setCell ⟨g, o + 3, none⟩ c3).setCell ⟨g, o + 4, none⟩ c4).setCell ⟨g, o + 5, none⟩ c5).heap[g]? = some (.cells ((((((arr.setIfInBounds o c0).setIfInBounds (o + 1) c1).setIfInBounds (o + 2) c2).setIfInBounds (o + 3) c3).setIfInBounds (o + 4) c4).setIfInBounds (o + 5) c5) ty (0, 0)) := by rw [set_block h4]
  have h6 : (((((((w.setCell ⟨g, o, none⟩ c0).setCell ⟨g, o + 1, none⟩ c1).setCell ⟨g, o + 2, none⟩ c2).setCell ⟨g, o + 3, none⟩ c3).setCell ⟨g, o + 4, none⟩ c4).setCell ⟨g, o + 5, none⟩ c5).setCell ⟨g, o + 6, none⟩ c6).heap[g]? = some (.cells (((((((arr.setIfInBounds o c0).setIfInBounds (o + 1) c1).setIfInBounds (o + 2) c2).setIfInBounds (o + 3) c3).setIfInBounds (o + 4) c4).setIfInBounds (o + 5) c5).setIfInBounds (o + 6) c6) ty (0, 0)) := by rw [set_block h5]
  refine ⟨_, h6, by simp, fun p hp => ?_, ?_, fun x hx => ?_, by simp [size_set1]⟩
  · simp only [Array.getElem?_setIfInBounds]
    repeat (rw [if_neg (by omega)])
  · intro q u hu
    rw [cell_of_block h6]
    have hq : q < 7 := by
      rcases Nat.lt_or_ge q 7 with h | h
      · exact h
      · rw [List.getElem?_eq_none (by simpa using h)] at hu; cases hu
    rcases (show q = 0 ∨ q = 1 ∨ q = 2 ∨ q = 3 ∨ q = 4 ∨ q = 5 ∨ q = 6 by omega) with rfl | rfl | rfl | rfl | rfl | rfl | rfl
    all_goals
      simp only [List.getElem?_cons_zero, List.getElem?_cons_succ, Option.some.injEq] at hu
      subst hu
      simp (config := { maxSteps := 200000 }) only [Array.getElem?_setIfInBounds, Array.size_setIfInBounds]
      repeat (first | rw [if_pos trivial] | rw [if_neg (by omega)] | rw [if_pos (by omega)])
  · rw [set_other hx]; rw [set_other hx]; rw [set_other hx]; rw [set_other hx]; rw [set_other hx]; rw [set_other hx]; rw [set_other hx]
end Go.Proofs.YtmmlejbebfkojaaDoor
