import Derived.Test.YtljgofmmihmmfabDoorOrsP
/- what is not found at a key. -/
set_option linter.unusedSimpArgs false
set_option linter.unusedVariables false
namespace Go.Proofs.YtljgofmmihmmfabDoor
open Go.RowKit Go.Lib

theorem at_miss {m : List Mem} {key : ByteArray} (h : ∀ (j : Nat) (hj : j < m.length), ¬ (m[j]).1.toList = key.toList) : atKey m key = (nullV, false) := by
  rw [atKey, if_neg]
  intro h1
  rcases Nat.lt_or_ge (posF m key) m.length with h2 | h2
  · rw [List.getElem?_eq_getElem h2, key_is] at h1
    exact h _ h2 (by simpa using h1)
  · rw [List.getElem?_eq_none h2] at h1
    simp [keyIs] at h1

end Go.Proofs.YtljgofmmihmmfabDoor
