import Derived.Test.YtejcfkkkbnnmcaaGreatDoorOrdA
import Derived.Test.YtejcfkkkbnnmcaaGreatDoorQSub
/- What a value that is taken is, all the way down; there the two orders are one. -/
set_option linter.unusedSimpArgs false
set_option linter.unusedVariables false
namespace Go.Proofs.YtejcfkkkbnnmcaaGreatDoor
open Go.RowKit Go.Lib

mutual
def allG : V → Prop
  | .mk k b i s l m => goodB k b i s l.length m = true ∧ allGL l ∧ allGM m
def allGL : List V → Prop
  | [] => True
  | x :: t => allG x ∧ allGL t
def allGM : List Mem → Prop
  | [] => True
  | (_, x) :: t => allG x ∧ allGM t
end

theorem entF_good {D n y d lv : Nat} {g : Bool} {z : Nat} (h : (entF D n y d lv g z).1 = 0) : g = true := by
  unfold entF at h
  split at h
  · simp at h
  split at h
  · simp at h
  split at h
  · simp at h
  · rename_i h3; cases g <;> simp_all

mutual
theorem chkV_allG (D : Nat) : ∀ (v : V) (lv : Nat) (st : St), (chkV D v lv st).1 = 0 → allG v
  | .mk k b i s l m, lv, st, h => by
    rw [chkV] at h
    rw [allG]
    by_cases h1 : (entF D st.1 st.2.1 st.2.2 lv (goodB k b i s l.length m) (s.size + keyB m)).1 = 0
    · simp only [h1, if_true] at h
      by_cases h2 : (chkL D l (lv + 1) (entF D st.1 st.2.1 st.2.2 lv (goodB k b i s l.length m) (s.size + keyB m)).2).1 = 0
      · simp only [h2, if_true] at h
        exact ⟨entF_good h1, chkL_allG D l (lv + 1) _ h2, chkM_allG D m (lv + 1) _ h⟩
      · simp only [h2, if_false] at h
    · simp only [h1, if_false] at h
theorem chkL_allG (D : Nat) : ∀ (l : List V) (lv : Nat) (st : St), (chkL D l lv st).1 = 0 → allGL l
  | [], lv, st, h => by rw [allGL]; trivial
  | x :: t, lv, st, h => by
    rw [chkL] at h
    rw [allGL]
    by_cases h1 : (chkV D x lv st).1 = 0
    · rw [if_pos h1] at h
      exact ⟨chkV_allG D x lv st h1, chkL_allG D t lv _ h⟩
    · rw [if_neg h1] at h
      exact absurd h h1
theorem chkM_allG (D : Nat) : ∀ (l : List Mem) (lv : Nat) (st : St), (chkM D l lv st).1 = 0 → allGM l
  | [], lv, st, h => by rw [allGM]; trivial
  | (_, x) :: t, lv, st, h => by
    rw [chkM] at h
    rw [allGM]
    by_cases h1 : (chkV D x lv st).1 = 0
    · rw [if_pos h1] at h
      exact ⟨chkV_allG D x lv st h1, chkM_allG D t lv _ h⟩
    · rw [if_neg h1] at h
      exact absurd h h1
end

theorem toList_data (a : ByteArray) : a.toList = a.data.toList := ByteArray.toList_eq a
theorem less_cmp : ∀ a b : List UInt8, Op.bytesLess a b = decide (compareBytes a b = -1)
  | [], [] => by simp [Op.bytesLess, compareBytes]
  | [], _ :: _ => by simp [Op.bytesLess, compareBytes]
  | _ :: _, [] => by simp [Op.bytesLess, compareBytes]
  | x :: t, y :: u => by
    have ih := less_cmp t u
    simp only [Op.bytesLess, compareBytes]
    by_cases h1 : x < y
    · simp [h1]
    · by_cases h2 : y < x
      · have hne : x ≠ y := fun e => by subst e; exact h1 h2
        simp [h1, h2, hne]
      · have he : x = y := by
          rcases Nat.lt_trichotomy x.toNat y.toNat with h | h | h
          · exact absurd h h1
          · exact UInt8.toNat_inj.1 h
          · exact absurd h h2
        subst he
        simp [h1, ih]
theorem cmp_zero : ∀ a b : List UInt8, compareBytes a b = 0 ↔ a = b
  | [], [] => by simp [compareBytes]
  | [], _ :: _ => by simp [compareBytes]
  | _ :: _, [] => by simp [compareBytes]
  | x :: t, y :: u => by
    have ih := cmp_zero t u
    rw [compareBytes]
    by_cases h1 : x < y
    · rw [if_pos h1]
      constructor
      · intro h; simp at h
      · intro h; cases h; exact absurd h1 (Nat.lt_irrefl _)
    · rw [if_neg h1]
      by_cases h2 : y < x
      · rw [if_pos h2]
        constructor
        · intro h; simp at h
        · intro h; cases h; exact absurd h2 (Nat.lt_irrefl _)
      · rw [if_neg h2, ih]
        have he : x = y := by
          rcases Nat.lt_trichotomy x.toNat y.toNat with h | h | h
          · exact absurd h h1
          · exact UInt8.toNat_inj.1 h
          · exact absurd h h2
        simp [he]
theorem cmpS_zero (a b : ByteArray) : cmpS a b = 0 ↔ a.toList = b.toList := by rw [cmpS, toList_data, toList_data]; exact cmp_zero _ _
end Go.Proofs.YtejcfkkkbnnmcaaGreatDoor
