import Derived.Test.YtfbmmilphcnolaaDoorChkS
/- pathset.Has: the program's and the document's. -/
set_option linter.unusedSimpArgs false
set_option linter.unusedVariables false
namespace Go.Proofs.YtfbmmilphcnolaaDoor
open Go.RowKit Go.Lib
/-- is the path among these -/
def memB (l : List (List El)) (p : List El) : Bool := l.any (fun q => decide (lexL oeE q p = 0))
theorem memB_yes {l : List (List El)} {p : List El} {j : Nat} (h : j < l.length) (e : lexL oeE l[j] p = 0) : memB l p = true := by
  rw [memB, List.any_eq_true]
  exact ⟨l[j], List.getElem_mem h, by simpa using e⟩
theorem memB_no {l : List (List El)} {p : List El} (h : ∀ i, (hi : i < l.length) → lexL oeE l[i] p ≠ 0) : memB l p = false := by
  rw [Bool.eq_false_iff]
  intro hm
  rw [memB, List.any_eq_true] at hm
  obtain ⟨q, hq, e⟩ := hm
  obtain ⟨i, hi, rfl⟩ := List.getElem_of_mem hq
  exact h i hi (by simpa using e)
end Go.Proofs.YtfbmmilphcnolaaDoor
