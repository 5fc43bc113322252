import Derived.Test.YtgnofbigggmilaaGreatDoorG34
/- how heavy what comes out of a walk is. -/
set_option linter.unusedSimpArgs false
set_option linter.unusedVariables false
namespace Go.Proofs.YtgnofbigggmilaaGreatDoor
open Go.RowKit Go.Lib
theorem wtL_set : ∀ (l : List V) (j : Nat) (h : j < l.length) (y : V), wtL (l.set j y) + (l[j]).wt = wtL l + y.wt
  | [], j, h, y => by simp at h
  | x :: t, 0, h, y => by simp only [List.set_cons_zero, wtL, List.getElem_cons_zero]; omega
  | x :: t, j + 1, h, y => by
    have := wtL_set t j (by simpa using h) y
    simp only [List.set_cons_succ, wtL, List.getElem_cons_succ]; omega
theorem wtM_set : ∀ (l : List Mem) (j : Nat) (h : j < l.length) (y : V), wtM (l.set j ((l[j]).1, y)) + (l[j]).2.wt = wtM l + y.wt
  | [], j, h, y => by simp at h
  | (k, x) :: t, 0, h, y => by simp only [List.set_cons_zero, wtM, List.getElem_cons_zero]; omega
  | (k, x) :: t, j + 1, h, y => by
    have := wtM_set t j (by simpa using h) y
    simp only [List.set_cons_succ, wtM, List.getElem_cons_succ]; omega
theorem wtL_ins (l : List V) (j : Nat) (x : V) : wtL (insL l j x) = wtL l + x.wt := by
  have e : wtL l = wtL (l.take j) + wtL (l.drop j) := by rw [← wtL_app, List.take_append_drop]
  rw [insL, wtL_app, wtL_app, e]
  simp only [wtL]; omega
theorem wtM_ins (l : List Mem) (j : Nat) (t : ByteArray) (x : V) : wtM (insL l j (t, x)) = wtM l + t.size + x.wt := by
  have e : wtM l = wtM (l.take j) + wtM (l.drop j) := by rw [← wtM_app, List.take_append_drop]
  rw [insL, wtM_app, wtM_app, e]
  simp only [wtM]; omega
theorem repl_wt {v : V} {j : Nat} (hj : kidAt v j) (y : V) : (replV v j y).wt + (kid v j).wt = v.wt + y.wt := by
  obtain ⟨k, b, i, s, l, m⟩ := v
  rcases hj with ⟨hk, hj⟩ | ⟨hk, hj⟩
  · have hk' : k = 4 := hk
    subst hk'
    have hj' : j < l.length := hj
    have e : kid (.mk 4 b i s l m) j = l[j] := by
      show (l.getD j nullV) = _
      rw [List.getD_eq_getElem?_getD, List.getElem?_eq_getElem hj']; rfl
    rw [e, replV, if_pos rfl]
    have := wtL_set l j hj' y
    simp only [V.wt]; omega
  · have hk' : k = 5 := hk
    subst hk'
    have hj' : j < m.length := hj
    have e : kid (.mk 5 b i s l m) j = (m[j]).2 := by
      show (m.getD j (⟨#[]⟩, nullV)).2 = _
      rw [List.getD_eq_getElem?_getD, List.getElem?_eq_getElem hj']; rfl
    have e2 : (m.getD j (⟨#[]⟩, nullV)).1 = (m[j]).1 := by rw [List.getD_eq_getElem?_getD, List.getElem?_eq_getElem hj']; rfl
    rw [e, replV, if_neg (by decide), e2]
    have := wtM_set m j hj' y
    simp only [V.wt]; omega
theorem null_wt : nullV.wt = 1 := by decide
theorem wk_heavy (F : V → V × Int) (c : Nat) (hF : ∀ y, (F y).1.wt ≤ y.wt + c) : ∀ (ts : List ByteArray) (v : V), (wkV F v ts).1.wt ≤ v.wt + c
  | [], v => by rw [wkV]; exact hF v
  | t :: ts, v => by
    rw [wkV]
    have hp := V.wt_pos v
    have hn := null_wt
    split
    · rename_i h0
      split
      · have h1 := repl_wt (led_kid h0) (wkV F (kid v (ledF v t).1) ts).1
        have h2 := wk_heavy F c hF ts (kid v (ledF v t).1)
        show (replV _ _ _).wt ≤ _
        omega
      · show nullV.wt ≤ _; omega
    · show nullV.wt ≤ _; omega
theorem add_heavy (t : ByteArray) (x : V) (y : V) : (addF y t x).1.wt ≤ y.wt + (t.size + x.wt) := by
  obtain ⟨k, b, i, s, l, m⟩ := y
  have hp := V.wt_pos (.mk k b i s l m)
  have hn := null_wt
  rw [addF]
  split
  · rename_i hk
    subst hk
    split
    · rename_i hq
      have hp : posF m t < m.length := by
        rcases Nat.lt_or_ge (posF m t) m.length with h | h
        · exact h
        · rw [List.getElem?_eq_none h] at hq; simp [keyIs] at hq
      have := repl_wt (v := .mk 5 b i s l m) (j := posF m t) (.inr ⟨rfl, hp⟩) x
      simp only
      omega
    · show (V.mk _ _ _ _ _ _).wt ≤ _
      simp only [V.wt, wtM_ins]; omega
  · split
    · cases gapF t l.length with
      | none => show nullV.wt ≤ _; omega
      | some j =>
        show (V.mk _ _ _ _ _ _).wt ≤ _
        simp only [V.wt, wtL_ins]; omega
    · show nullV.wt ≤ _; omega
end Go.Proofs.YtgnofbigggmilaaGreatDoor
