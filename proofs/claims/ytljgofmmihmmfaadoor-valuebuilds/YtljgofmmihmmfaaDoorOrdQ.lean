/- The order of values is an order; equal just if the same. -/
import Derived.Test.YtljgofmmihmmfaaDoorGdP
import Derived.Test.YtljgofmmihmmfaaDoorClrA
import Derived.Test.YtljgofmmihmmfaaDoorSamA
set_option linter.unusedSimpArgs false
set_option linter.unusedVariables false
namespace Go.Proofs.YtljgofmmihmmfaaDoor
open Go.RowKit Go.Lib

theorem cmpI_anti (a b : Int) : cmpI b a = - cmpI a b := by
  unfold cmpI
  repeat' split
  all_goals omega
theorem cmpB_anti (a b : Bool) : cmpB b a = - cmpB a b := by cases a <;> cases b <;> decide
theorem cmpS_anti (a b : ByteArray) : cmpS b a = - cmpS a b := cmp_anti _ _
theorem ne_symm' {a b : ByteArray} (h : ¬ a.toList = b.toList) : ¬ b.toList = a.toList := fun e => h e.symm

mutual
theorem ordV_anti : ∀ v u : V, ordV u v = - ordV v u
  | .mk k b i s l m, .mk k' b' i' s' l' m' => by
    rw [ordV, ordV]
    by_cases hk : k = k'
    · subst hk
      rw [if_pos rfl, if_pos rfl]
      split
      · exact cmpB_anti _ _
      split
      · exact cmpI_anti _ _
      split
      · exact cmpS_anti _ _
      split
      · exact ordL_anti l l'
      split
      · exact ordM_anti m m'
      · rfl
    · rw [if_neg hk, if_neg (fun e => hk e.symm)]
      exact cmpI_anti _ _
theorem ordL_anti : ∀ l u : List V, ordL u l = - ordL l u
  | [], [] => by simp [ordL]
  | [], _ :: _ => by simp [ordL]
  | _ :: _, [] => by simp [ordL]
  | x :: t, y :: u => by
    have h := ordV_anti x y
    rw [ordL, ordL]
    by_cases h0 : ordV x y = 0
    · rw [if_pos h0, if_pos (by omega)]; exact ordL_anti t u
    · rw [if_neg h0, if_neg (by omega)]; exact h
theorem ordM_anti : ∀ l u : List Mem, ordM u l = - ordM l u
  | [], [] => by simp [ordM]
  | [], _ :: _ => by simp [ordM]
  | _ :: _, [] => by simp [ordM]
  | (k, x) :: t, (k', y) :: u => by
    have h := ordV_anti x y
    have hs := cmpS_anti k k'
    rw [ordM, ordM]
    by_cases hk : k.toList = k'.toList
    · rw [if_pos hk, if_pos hk.symm]
      by_cases h0 : ordV x y = 0
      · rw [if_pos h0, if_pos (by omega)]; exact ordM_anti t u
      · rw [if_neg h0, if_neg (by omega)]; exact h
    · rw [if_neg hk, if_neg (fun e => hk e.symm)]
      by_cases h0 : cmpS k k' = 0
      · rw [if_pos h0, if_pos (by omega)]; exact ordM_anti t u
      · rw [if_neg h0, if_neg (by omega)]; exact hs
end

/-- what transitivity asks of three answers -/
def Tri (ab bc ac : Int) : Prop := ab ≤ 0 → bc ≤ 0 → ac ≤ 0 ∧ (ac = 0 ↔ ab = 0 ∧ bc = 0)
theorem tri_I (a b c : Int) : Tri (cmpI a b) (cmpI b c) (cmpI a c) := by
  intro h1 h2
  unfold cmpI at *
  repeat' split at *
  all_goals omega
theorem tri_B (a b c : Bool) : Tri (cmpB a b) (cmpB b c) (cmpB a c) := by
  cases a <;> cases b <;> cases c <;> (intro h1 h2; revert h1 h2; decide)
theorem tri_S (a b c : ByteArray) : Tri (cmpS a b) (cmpS b c) (cmpS a c) := by
  intro h1 h2
  have o1 := cmp_one a.data.toList b.data.toList
  have o2 := cmp_one b.data.toList c.data.toList
  have z1 := cmp_zero a.data.toList b.data.toList
  have z2 := cmp_zero b.data.toList c.data.toList
  unfold cmpS at *
  rcases o1 with e1 | e1 | e1
  · rcases o2 with e2 | e2 | e2
    · rw [cmp_trans _ _ _ e1 e2]; omega
    · rw [← z2.1 e2, e1]; omega
    · omega
  · rw [z1.1 e1]
    have z3 := (cmp_zero b.data.toList b.data.toList).2 rfl
    omega
  · omega
/-- first one thing, then another -/
theorem tri_lex {a1 a2 a3 b1 b2 b3 : Int} (h : Tri a1 a2 a3) (h' : Tri b1 b2 b3) : Tri (if a1 = 0 then b1 else a1) (if a2 = 0 then b2 else a2) (if a3 = 0 then b3 else a3) := by
  intro h1 h2
  by_cases e1 : a1 = 0
  · by_cases e2 : a2 = 0
    · have e3 : a3 = 0 := ((h (by omega) (by omega)).2).2 ⟨e1, e2⟩
      rw [if_pos e1] at h1 ⊢
      rw [if_pos e2] at h2 ⊢
      rw [if_pos e3]
      exact h' h1 h2
    · rw [if_neg e2] at h2 ⊢
      have := h (by omega) h2
      have e3 : ¬ a3 = 0 := fun e => e2 (this.2.1 e).2
      rw [if_neg e3]
      exact ⟨this.1, ⟨fun e => absurd e e3, fun e => absurd e.2 e2⟩⟩
  · rw [if_neg e1] at h1 ⊢
    have h2' : a2 ≤ 0 := by
      by_cases e2 : a2 = 0
      · omega
      · rw [if_neg e2] at h2; exact h2
    have := h h1 h2'
    have e3 : ¬ a3 = 0 := fun e => e1 (this.2.1 e).1
    rw [if_neg e3]
    exact ⟨this.1, ⟨fun e => absurd e e3, fun e => absurd e.1 e1⟩⟩

theorem ordM_lex (k k' : ByteArray) (x y : V) (t u : List Mem) : ordM ((k, x) :: t) ((k', y) :: u) = if (if cmpS k k' = 0 then ordV x y else cmpS k k') = 0 then ordM t u else (if cmpS k k' = 0 then ordV x y else cmpS k k') := by
  rw [ordM]
  by_cases hk : k.toList = k'.toList
  · rw [if_pos hk, if_pos ((cmpS_zero k k').2 hk)]
  · have : ¬ cmpS k k' = 0 := fun e => hk ((cmpS_zero k k').1 e)
    simp only [if_neg hk, if_neg this]

theorem ordV_lex (k k' : Int) (b b' : Bool) (i i' : Int) (s s' : ByteArray) (l l' : List V) (m m' : List Mem) : ordV (.mk k b i s l m) (.mk k' b' i' s' l' m') = if cmpI k k' = 0 then (if k = 1 then cmpB b b' else if k = 2 then cmpI i i' else if k = 3 then cmpS s s' else if k = 4 then ordL l l' else if k = 5 then ordM m m' else 0) else cmpI k k' := by
  rw [ordV]
  by_cases hk : k = k'
  · subst hk; rw [if_pos rfl, if_pos (cmpI_self k)]
  · rw [if_neg hk, if_neg (cmpI_ne hk)]

mutual
theorem ordV_tri : ∀ a b c : V, Tri (ordV a b) (ordV b c) (ordV a c)
  | .mk k b i s l m, .mk k' b' i' s' l' m', .mk k2 b2 i2 s2 l2 m2 => by
    rw [ordV_lex, ordV_lex, ordV_lex]
    by_cases h1 : k = k'
    · by_cases h2 : k' = k2
      · subst h1; subst h2
        refine tri_lex (tri_I _ _ _) ?_
        by_cases e1 : k = 1
        · simp only [e1, if_true]; exact tri_B _ _ _
        · rw [if_neg e1, if_neg e1, if_neg e1]
          by_cases e2 : k = 2
          · simp only [e2, if_true]; exact tri_I _ _ _
          · rw [if_neg e2, if_neg e2, if_neg e2]
            by_cases e3 : k = 3
            · simp only [e3, if_true]; exact tri_S _ _ _
            · rw [if_neg e3, if_neg e3, if_neg e3]
              by_cases e4 : k = 4
              · simp only [e4, if_true]; exact ordL_tri l l' l2
              · rw [if_neg e4, if_neg e4, if_neg e4]
                by_cases e5 : k = 5
                · simp only [e5, if_true]; exact ordM_tri m m' m2
                · rw [if_neg e5, if_neg e5, if_neg e5]; intro _ _; simp
      · intro q1 q2
        subst h1
        rw [if_neg (cmpI_ne h2)] at q2 ⊢
        have := cmpI_ne h2
        rw [if_neg (cmpI_ne h2)]
        refine ⟨q2, ⟨fun e => absurd e this, fun e => absurd e.2 this⟩⟩
    · intro q1 q2
      rw [if_neg (cmpI_ne h1)] at q1 ⊢
      have n1 := cmpI_ne h1
      by_cases h2 : k' = k2
      · subst h2
        rw [if_neg (cmpI_ne h1)]
        exact ⟨q1, ⟨fun e => absurd e n1, fun e => absurd e.1 n1⟩⟩
      · rw [if_neg (cmpI_ne h2)] at q2
        have t := tri_I k k' k2 q1 q2
        have n3 : ¬ cmpI k k2 = 0 := fun e => n1 (t.2.1 e).1
        rw [if_neg n3]
        exact ⟨t.1, ⟨fun e => absurd e n3, fun e => absurd e.1 n1⟩⟩
theorem ordL_tri : ∀ a b c : List V, Tri (ordL a b) (ordL b c) (ordL a c)
  | [], [], [] => by intro _ _; simp [ordL]
  | [], [], _ :: _ => by intro _ _; simp [ordL]
  | [], _ :: _, [] => by intro _ h; simp [ordL] at h
  | [], _ :: _, _ :: _ => by intro _ _; simp [ordL]
  | _ :: _, [], [] => by intro h _; simp [ordL] at h
  | _ :: _, [], _ :: _ => by intro h _; simp [ordL] at h
  | _ :: _, _ :: _, [] => by intro _ h; simp [ordL] at h
  | x :: t, y :: u, z :: v => by
    rw [ordL, ordL, ordL]
    exact tri_lex (ordV_tri x y z) (ordL_tri t u v)
theorem ordM_tri : ∀ a b c : List Mem, Tri (ordM a b) (ordM b c) (ordM a c)
  | [], [], [] => by intro _ _; simp [ordM]
  | [], [], _ :: _ => by intro _ _; simp [ordM]
  | [], _ :: _, [] => by intro _ h; simp [ordM] at h
  | [], _ :: _, _ :: _ => by intro _ _; simp [ordM]
  | _ :: _, [], [] => by intro h _; simp [ordM] at h
  | _ :: _, [], _ :: _ => by intro h _; simp [ordM] at h
  | _ :: _, _ :: _, [] => by intro _ h; simp [ordM] at h
  | (k, x) :: t, (k', y) :: u, (k2, z) :: v => by
    rw [ordM_lex, ordM_lex, ordM_lex]
    exact tri_lex (tri_lex (tri_S _ _ _) (ordV_tri x y z)) (ordM_tri t u v)
end
end Go.Proofs.YtljgofmmihmmfaaDoor
