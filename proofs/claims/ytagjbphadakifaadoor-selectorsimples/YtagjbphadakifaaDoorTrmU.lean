import Derived.Test.YtagjbphadakifaaDoorTrmT
/- the program's Match. -/
set_option linter.unusedSimpArgs false
set_option linter.unusedVariables false
namespace Go.Proofs.YtagjbphadakifaaDoor
open Go.RowKit Go.Lib Go.Maps
theorem vals_next {l : List ByteArray} (h : valsB l = true) {k : Nat} (hk : k + 1 < l.length) : Op.bytesLess (l[k]'(by omega)).toList (l[k + 1]).toList = true := by
  unfold valsB at h
  rw [List.all_eq_true] at h
  have := h (k + 1) (List.mem_range.2 hk)
  rw [valB_succ hk, Bool.and_eq_true] at this
  exact this.2
theorem vals_lt {l : List ByteArray} (h : valsB l = true) {i : Nat} : ∀ {k : Nat} (hk : k < l.length) (hi : i < k), Op.bytesLess (l[i]'(by omega)).toList (l[k]).toList = true
  | 0, _, hi => by omega
  | k + 1, hk, hi => by
    by_cases e : i = k
    · subst e; exact vals_next h hk
    · exact less_trans (vals_lt h (by omega) (by omega)) (vals_next h hk)
theorem putI_le (l : List ByteArray) (x : ByteArray) : putI l x ≤ l.length := (List.takeWhile_sublist _).length_le
theorem putI_lt : ∀ {l : List ByteArray} {x : ByteArray} {t : Nat} (h : t < putI l x), Op.bytesLess (l[t]'(Nat.lt_of_lt_of_le h (putI_le l x))).toList x.toList = true
  | [], x, t, h => by simp [putI] at h
  | s :: r, x, t, h => by
    unfold putI at h
    rw [List.takeWhile_cons] at h
    split at h
    · rename_i hs
      cases t with
      | zero => exact hs
      | succ t => exact putI_lt (l := r) (x := x) (t := t) (by simpa [putI] using h)
    · simp at h
theorem putI_stop : ∀ {l : List ByteArray} {x : ByteArray} (h : putI l x < l.length), Op.bytesLess (l[putI l x]).toList x.toList = false
  | [], x, h => by simp at h
  | s :: r, x, h => by
    by_cases hs : Op.bytesLess s.toList x.toList = true
    · have e : putI (s :: r) x = putI r x + 1 := by unfold putI; rw [List.takeWhile_cons, if_pos hs]; rfl
      have h2 : putI r x < r.length := by rw [e] at h; simpa using h
      have := putI_stop (l := r) (x := x) h2
      simp only [e, List.getElem_cons_succ]
      exact this
    · have e : putI (s :: r) x = 0 := by unfold putI; rw [List.takeWhile_cons, if_neg hs]; rfl
      simp only [e, List.getElem_cons_zero]
      simpa using hs
theorem good_vals {t : Trm} (h : goodB t = true) : valsB t.2.2 = true := by
  unfold goodB at h
  rw [Bool.and_eq_true] at h
  have h2 := h.2
  split at h2
  · have h3 : t.2.2.length = 0 := of_decide_eq_true h2
    exact valsB_yes (fun k hk => by omega)
  · split at h2
    · rw [Bool.and_eq_true] at h2; exact h2.2
    · cases h2
end Go.Proofs.YtagjbphadakifaaDoor
