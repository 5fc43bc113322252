import Derived.Test.YtjfldbmopjojdabDoorLdsD
set_option linter.unusedSimpArgs false
set_option linter.unusedVariables false
namespace Go.Proofs.YtjfldbmopjojdabDoor
open Go.RowKit Go.Lib
theorem filt_two (k : ByteArray) : ∀ L : List Mem, (L.filter (fun y => ltB y.1 k)).length + (L.filter (fun y => ltB k y.1)).length ≤ L.length
 | [] => by simp
 | y :: t => by
  have ih := filt_two k t
  by_cases h1 : ltB y.1 k = true
  ·rw [List.filter_cons_of_pos (by exact h1), List.filter_cons_of_neg (by rw [lt_asym h1]; simp)]
   simp only [List.length_cons]; omega
  ·rw [List.filter_cons_of_neg (by exact h1)]
   by_cases h2 : ltB k y.1 = true
   ·rw [List.filter_cons_of_pos (by exact h2)]; simp only [List.length_cons]; omega
   ·rw [List.filter_cons_of_neg (by exact h2)]; simp only [List.length_cons]; omega
theorem wit_len (L : List Mem) (k : ByteArray) (x : V) : (witR L k x).length ≤ L.length + 1 := by
 have h := filt_two k L
 rw [witR, List.length_append, List.length_cons, ← Nat.add_assoc]
 exact Nat.succ_le_succ h
theorem nul_len : ∀ (a m acc : List Mem), (nulM a m acc).length ≤ a.length + acc.length
 | [], m, acc => by rw [nulM]; simp
 | (k, x) :: t, m, acc => by
  rw [nulM]
  have h := nul_len t m (if hasR m k = true then acc else witR acc k nullV)
  have h2 : (if hasR m k = true then acc else witR acc k nullV).length ≤ acc.length + 1 := by
   split
   ·omega
   ·exact wit_len _ _ _
  simp only [List.length_cons]; omega
theorem bw_len : ∀ (m o acc : List Mem), (bwM o m acc).length ≤ m.length + acc.length
 | [], o, acc => by rw [bwM]; simp
 | (k, x) :: t, o, acc => by
  rw [bwM]
  have h := bw_len t o (if hasR o k = true then (if eqlV (getR o k) x = true then acc else witR acc k (bwV (getR o k) x)) else witR acc k x)
  have h2 : (if hasR o k = true then (if eqlV (getR o k) x = true then acc else witR acc k (bwV (getR o k) x)) else witR acc k x).length ≤ acc.length + 1 := by
   split
   ·split
    ·omega
    ·exact wit_len _ _ _
   ·exact wit_len _ _ _
  simp only [List.length_cons]; omega
theorem nul_snoc : ∀ (q : List Mem) (m acc : List Mem) (k : ByteArray) (x : V), nulM (q ++ [(k, x)]) m acc = if hasR m k = true then nulM q m acc else witR (nulM q m acc) k nullV
 | [], m, acc, k, x => by rw [List.nil_append, nulM, nulM, nulM]
 | (k', x') :: q, m, acc, k, x => by rw [List.cons_append, nulM, nulM]; exact nul_snoc q m _ k x
theorem bw_snoc : ∀ (q : List Mem) (o acc : List Mem) (k : ByteArray) (x : V), bwM o (q ++ [(k, x)]) acc = if hasR o k = true then (if eqlV (getR o k) x = true then bwM o q acc else witR (bwM o q acc) k (bwV (getR o k) x)) else witR (bwM o q acc) k x
 | [], o, acc, k, x => by rw [List.nil_append, bwM, bwM, bwM]
 | (k', x') :: q, o, acc, k, x => by rw [List.cons_append, bwM, bwM]; exact bw_snoc q o _ k x
theorem nul_next {a m : List Mem} {j : Nat} (hj : j < a.length) : nulM (a.take (j + 1)) m [] = if hasR m (a[j]).1 = true then nulM (a.take j) m [] else witR (nulM (a.take j) m []) (a[j]).1 nullV := by
 rw [List.take_succ_eq_append_getElem hj]; exact nul_snoc (a.take j) m [] _ _
theorem bw_next {o m L0 : List Mem} {j : Nat} (hj : j < m.length) : bwM o (m.take (j + 1)) L0 = if hasR o (m[j]).1 = true then (if eqlV (getR o (m[j]).1) (m[j]).2 = true then bwM o (m.take j) L0 else witR (bwM o (m.take j) L0) (m[j]).1 (bwV (getR o (m[j]).1) (m[j]).2)) else witR (bwM o (m.take j) L0) (m[j]).1 (m[j]).2 := by
 rw [List.take_succ_eq_append_getElem hj]; exact bw_snoc (m.take j) o L0 _ _
end Go.Proofs.YtjfldbmopjojdabDoor
