import Derived.Test.YtjfldbmopjojdaaDoorClnA
/- slices.BinarySearchFunc over members, value.find. -/
set_option linter.unusedSimpArgs false
set_option linter.unusedVariables false
namespace Go.Proofs.YtjfldbmopjojdaaDoor
open Go.RowKit Go.Lib
theorem srt_rise {l : List Mem} (h : riseB l = true) : Srt l := by
  have h0 : ∀ j, j < l.length → okAt l j = true := by
    simpa only [riseB, List.all_eq_true, List.mem_range] using h
  have h1 : ∀ (j : Nat) (hj : j + 1 < l.length), ltB (l[j]).1 (l[j + 1]).1 = true := fun j hj => by
    have := h0 (j + 1) hj
    rw [okAt, keyAt_eq hj, Nat.add_sub_cancel, keyAt_eq (by omega)] at this
    simpa using (Bool.and_eq_true _ _ ▸ this).2
  have h2 : ∀ (d i : Nat) (hd : i + (d + 1) < l.length), ltB (l[i]).1 (l[i + (d + 1)]).1 = true := by
    intro d
    induction d with
    | zero => intro i hd; exact h1 i hd
    | succ d ih =>
      intro i hd
      exact ltB_trans (ih i (by omega)) (h1 (i + (d + 1)) hd)
  refine List.pairwise_iff_getElem.2 fun i j hi hj hij => ?_
  have := h2 (j - i - 1) i (by omega)
  have e : i + (j - i - 1 + 1) = j := by omega
  simp only [e] at this
  exact this
end Go.Proofs.YtjfldbmopjojdaaDoor
