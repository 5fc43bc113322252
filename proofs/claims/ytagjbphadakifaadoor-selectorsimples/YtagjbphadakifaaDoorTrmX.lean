import Derived.Test.YtagjbphadakifaaDoorTrmV
import Derived.Test.YtagjbphadakifaaDoorTrmB
/- SelectorMatches: the law's own walk. -/
set_option linter.unusedSimpArgs false
set_option linter.unusedVariables false
namespace Go.Proofs.YtagjbphadakifaaDoor
open Go.RowKit Go.Lib
theorem wtS_short {l : List ByteArray} (h : Short l) : wtS l ≤ 4 * l.length := by
  induction l with
  | nil => simp [wtS]
  | cons s t ih =>
    have h1 := ih (fun x hx => h x (List.mem_cons_of_mem _ hx))
    have h2 := h s (by simp)
    simp only [wtS, List.length_cons]
    omega
theorem shVals_small (i : Nat) (t : Trm) : wtS (shVals i t) ≤ 24 := by
  have h1 := valsF_short (m := t.1.size == 7) (t.2.2.take 6)
  have h2 := wtS_short h1.1
  have h3 : (t.2.2.take 6).length ≤ 6 := by rw [List.length_take]; omega
  unfold shVals
  split
  · split
    · have := fewV_size (i : Int)
      simp only [wtS]
      have h4 : (ByteArray.size ⟨#[120]⟩) = 1 := rfl
      omega
    · omega
  · simp [wtS]
theorem wtT_le {l : List Trm} {k : Nat} (h : ∀ t ∈ l, 1 + t.1.size + wtS t.2.2 ≤ k) : wtT l ≤ k * l.length := by
  induction l with
  | nil => simp [wtT]
  | cons x t ih =>
    have h1 := ih (fun y hy => h y (List.mem_cons_of_mem _ hy))
    have h2 := h x (by simp)
    simp only [wtT, List.length_cons, Nat.mul_add]
    omega
theorem shaped_small (l : List Trm) : (shapedV l).length ≤ 8 ∧ ∀ t ∈ shapedV l, 1 + t.1.size + wtS t.2.2 ≤ 28 := by
  constructor
  · unfold shapedV; simp; omega
  · intro t ht
    unfold shapedV at ht
    obtain ⟨i, hi, rfl⟩ := List.mem_mapIdx.1 ht
    have := fewV_size (((l.take 8)[i]).1.size % 4 : Nat)
    have h2 := shVals_small i (l.take 8)[i]
    show 1 + (fewV _).size + wtS (shVals i _) ≤ 28
    omega
end Go.Proofs.YtagjbphadakifaaDoor
