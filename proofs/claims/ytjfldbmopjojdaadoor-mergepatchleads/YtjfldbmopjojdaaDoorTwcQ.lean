import Derived.Test.YtjfldbmopjojdaaDoorG26
import Derived.Test.YtjfldbmopjojdaaDoorAplX
set_option linter.unusedSimpArgs false
set_option linter.unusedVariables false
namespace Go.Proofs.YtjfldbmopjojdaaDoor
open Go.RowKit Go.Lib
def C3 (n : Nat) : Prop := n = 0 ∨ n = 22 ∨ n = 23
mutual
theorem codV (D : Nat) : ∀ (v : V) (lv : Nat) (st : St), allG v → lv + dpV v ≤ D → C3 (chkV D v lv st).1
 | .mk k b i s l m, lv, st, hg, hd => by
  rw [allG] at hg
  rw [dpV] at hd
  rw [chkV]
  simp only
  have hr : C3 (entF D st.1 st.2.1 st.2.2 lv (goodB k b i s l.length m) (s.size + keyB m)).1 := by
   unfold entF
   split
   ·exact .inr (.inl rfl)
   ·rw [if_neg (by omega), if_neg (by simp [hg.1])]
    split
    ·exact .inr (.inr rfl)
    ·exact .inl rfl
  by_cases h0 : (entF D st.1 st.2.1 st.2.2 lv (goodB k b i s l.length m) (s.size + keyB m)).1 = 0
  ·rw [if_pos h0]
   by_cases hq : (chkL D l (lv + 1) (entF D st.1 st.2.1 st.2.2 lv (goodB k b i s l.length m) (s.size + keyB m)).2).1 = 0
   ·rw [if_pos hq]
    exact codM D m lv _ hg.2.2 (by omega)
   ·rw [if_neg hq]
    exact codL D l lv _ hg.2.1 (by omega)
  ·rw [if_neg h0]
   exact hr
theorem codL (D : Nat) : ∀ (l : List V) (lv : Nat) (st : St), allGL l → lv + dpL l ≤ D → C3 (chkL D l (lv + 1) st).1
 | [], lv, st, hg, hd => by rw [chkL]; exact .inl rfl
 | x :: t, lv, st, hg, hd => by
  rw [allGL] at hg
  rw [dpL] at hd
  rw [chkL]
  split
  ·exact codL D t lv _ hg.2 (by omega)
  ·exact codV D x (lv + 1) st hg.1 (by omega)
theorem codM (D : Nat) : ∀ (l : List Mem) (lv : Nat) (st : St), allGM l → lv + dpM l ≤ D → C3 (chkM D l (lv + 1) st).1
 | [], lv, st, hg, hd => by rw [chkM]; exact .inl rfl
 | (_, x) :: t, lv, st, hg, hd => by
  rw [allGM] at hg
  rw [dpM] at hd
  rw [chkM]
  split
  ·exact codM D t lv _ hg.2 (by omega)
  ·exact codV D x (lv + 1) st hg.1 (by omega)
end
theorem chk32 (v : V) : chkE v 32 = 0 ↔ allG v ∧ dpV v ≤ 32 ∧ ndV v ≤ 65536 ∧ byV v ≤ 1048576 := chk_iff v 32 (by omega)
theorem chk_null : chkE nullV 32 = 0 := by kernel_rfl
def pk (f : V → V → V) (a b : Option V) : Option V := match b with
 | none => a
 | some x => if kindOf x = 0 then none else some (f (a.getD nullV) x)
end Go.Proofs.YtjfldbmopjojdaaDoor
