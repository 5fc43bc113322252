import Derived.Test.YtljgofmmihmmfabDoorChkE
/- The depth of a value: what the walk counted, and the document's depth. -/
set_option linter.unusedSimpArgs false
set_option linter.unusedVariables false
namespace Go.Proofs.YtljgofmmihmmfabDoor
open Go.RowKit Go.Lib

mutual
def dptV : V → Nat
  | .mk _ _ _ _ l m => max (dptL l) (dptM m)
def dptL : List V → Nat
  | [] => 0
  | x :: t => max (dptV x + 1) (dptL t)
def dptM : List Mem → Nat
  | [] => 0
  | (_, x) :: t => max (dptV x + 1) (dptM t)
end

theorem entF_eq {D n y d lv : Nat} {g : Bool} {z : Nat} (h : (entF D n y d lv g z).1 = 0) : (entF D n y d lv g z).2 = (n + 1, y + z, max d lv) := by
  unfold entF at *
  split at h
  · simp at h
  split at h
  · simp at h
  split at h
  · simp at h
  split at h
  · simp at h
  · rename_i h1 h2 h3 h4
    rw [if_neg h1, if_neg h2, if_neg h3, if_neg h4]

mutual
theorem chkV_dpt (D : Nat) : ∀ (v : V) (lv : Nat) (st : St), (chkV D v lv st).1 = 0 → (chkV D v lv st).2.2.2 = max st.2.2 (lv + dptV v)
  | .mk k b i s l m, lv, st, h => by
    rw [chkV] at h ⊢
    by_cases h1 : (entF D st.1 st.2.1 st.2.2 lv (goodB k b i s l.length m) (s.size + keyB m)).1 = 0
    · have b1 := entF_eq h1
      simp only [h1, if_true] at h ⊢
      generalize (entF D st.1 st.2.1 st.2.2 lv (goodB k b i s l.length m) (s.size + keyB m)).2 = q at *
      subst b1
      by_cases h2 : (chkL D l (lv + 1) (st.1 + 1, st.2.1 + (s.size + keyB m), max st.2.2 lv)).1 = 0
      · simp only [h2, if_true] at h ⊢
        have e1 := chkL_dpt D l lv _ h2 (by show lv ≤ max st.2.2 lv; omega)
        have e2 := chkM_dpt D m lv _ h (by rw [e1]; show lv ≤ _; simp only; omega)
        rw [e2, e1, dptV]; simp only; omega
      · simp only [h2, if_false] at h
    · simp only [h1, if_false] at h
theorem chkL_dpt (D : Nat) : ∀ (l : List V) (lv : Nat) (st : St), (chkL D l (lv + 1) st).1 = 0 → lv ≤ st.2.2 → (chkL D l (lv + 1) st).2.2.2 = max st.2.2 (lv + dptL l)
  | [], lv, st, h, hs => by rw [chkL, dptL]; simp only; omega
  | x :: t, lv, st, h, hs => by
    rw [chkL] at h ⊢
    by_cases h1 : (chkV D x (lv + 1) st).1 = 0
    · rw [if_pos h1] at h ⊢
      have e1 := chkV_dpt D x (lv + 1) st h1
      rw [chkL_dpt D t lv _ h (by rw [e1]; omega), e1, dptL]; omega
    · rw [if_neg h1] at h
      exact absurd h h1
theorem chkM_dpt (D : Nat) : ∀ (l : List Mem) (lv : Nat) (st : St), (chkM D l (lv + 1) st).1 = 0 → lv ≤ st.2.2 → (chkM D l (lv + 1) st).2.2.2 = max st.2.2 (lv + dptM l)
  | [], lv, st, h, hs => by rw [chkM, dptM]; simp only; omega
  | (_, x) :: t, lv, st, h, hs => by
    rw [chkM] at h ⊢
    by_cases h1 : (chkV D x (lv + 1) st).1 = 0
    · rw [if_pos h1] at h ⊢
      have e1 := chkV_dpt D x (lv + 1) st h1
      rw [chkM_dpt D t lv _ h (by rw [e1]; omega), e1, dptM]; omega
    · rw [if_neg h1] at h
      exact absurd h h1
end

end Go.Proofs.YtljgofmmihmmfabDoor
