/- the canonical text of a value; json.appendList, appendMap, appendValue. -/
import Derived.Test.YtjocgajbcdmaiaaDoorJpsA
import Derived.Test.YtjocgajbcdmaiaaDoorChkD
import Derived.Lib.ItoaLen
set_option linter.unusedSimpArgs false
set_option linter.unusedVariables false
namespace Go.Proofs.YtjocgajbcdmaiaaDoor
open Go.RowKit Go.Lib

def joinB : List (List UInt8) → List UInt8
  | [] => []
  | x :: t => x ++ (t.map (fun y => 44 :: y)).flatten
theorem joinB_one (y : List UInt8) : joinB [y] = y := by simp [joinB]
theorem joinB_snoc (xs : List (List UInt8)) (y : List UInt8) (h : xs ≠ []) : joinB (xs ++ [y]) = joinB xs ++ 44 :: y := by
  cases xs with
  | nil => exact absurd rfl h
  | cons x t => simp [joinB]

mutual
def txtV : V → List UInt8
  | .mk k b i s l m =>
    if k = 1 then (if b = true then [116, 114, 117, 101] else [102, 97, 108, 115, 101])
    else if k = 2 then itoa i
    else if k = 3 then Q.qt s.data.toList
    else if k = 4 then 91 :: (joinB (txtL l) ++ [93])
    else if k = 5 then 123 :: (joinB (txtM m) ++ [125])
    else [110, 117, 108, 108]
def txtL : List V → List (List UInt8)
  | [] => []
  | x :: t => txtV x :: txtL t
def txtM : List Mem → List (List UInt8)
  | [] => []
  | (k, x) :: t => (Q.qt k.data.toList ++ 58 :: txtV x) :: txtM t
end
theorem txtL_eq : ∀ l : List V, txtL l = l.map txtV
  | [] => by rw [txtL]; rfl
  | x :: t => by rw [txtL, txtL_eq t]; rfl
def txtE (x : Mem) : List UInt8 := Q.qt x.1.data.toList ++ 58 :: txtV x.2
theorem txtM_eq : ∀ l : List Mem, txtM l = l.map txtE
  | [] => by rw [txtM]; rfl
  | (k, x) :: t => by rw [txtM, txtM_eq t]; rfl

/- strings and keys are UTF-8 -/
mutual
def prV : V → Prop
  | .mk k b i s l m => (In64 i ∧ s.size ≤ 1048576 ∧ 0 ≤ k ∧ k ≤ 5) ∧ validD s.data.toList = true ∧ prL l ∧ prM m
def prL : List V → Prop
  | [] => True
  | x :: t => prV x ∧ prL t
def prM : List Mem → Prop
  | [] => True
  | (k, x) :: t => ((validD k.data.toList = true ∧ k.size ≤ 1048576) ∧ prV x) ∧ prM t
end
theorem prL_mem : ∀ {l : List V}, prL l → ∀ x ∈ l, prV x
  | [], _, x, hx => by cases hx
  | y :: t, h, x, hx => by
    rw [prL] at h
    rcases List.mem_cons.1 hx with rfl | hx
    · exact h.1
    · exact prL_mem h.2 x hx
theorem prM_mem : ∀ {l : List Mem}, prM l → ∀ x ∈ l, (validD x.1.data.toList = true ∧ x.1.size ≤ 1048576) ∧ prV x.2
  | [], _, x, hx => by cases hx
  | (k, y) :: t, h, x, hx => by
    rw [prM] at h
    rcases List.mem_cons.1 hx with rfl | hx
    · exact h.1
    · exact prM_mem h.2 x hx
theorem join_len (xs : List (List UInt8)) : (joinB xs).length ≤ (xs.map List.length).sum + xs.length := by
  cases xs with
  | nil => simp [joinB]
  | cons x t =>
    simp only [joinB, List.length_append, List.length_flatten, List.map_map, List.map_cons, List.sum_cons, List.length_cons]
    have h : (t.map (List.length ∘ fun y => 44 :: y)).sum = (t.map List.length).sum + t.length := by
      induction t with
      | nil => rfl
      | cons y t ih => simp only [List.map_cons, List.sum_cons, Function.comp, List.length_cons] at ih ⊢; omega
    omega
theorem qt_len (s : ByteArray) : (Q.qt s.data.toList).length ≤ 2 + 6 * s.size := by
  have h1 := Q.qt_length s.data.toList
  have h2 := Q.sz_le s.data.toList
  have h3 : s.data.toList.length = s.size := by rw [Array.length_toList]; rfl
  omega
mutual
theorem txtV_len : ∀ v : V, prV v → (txtV v).length + 5 ≤ 40 * v.wt
  | .mk k b i s l m, h => by
    rw [prV] at h
    have h1 := txtL_len l h.2.2.1
    have h2 := txtM_len m h.2.2.2
    have h3 := join_len (txtL l)
    have h4 := join_len (txtM m)
    have h5 := itoa_length_le i h.1.1.1 h.1.1.2
    have h6 := qt_len s
    have h7 : (txtL l).length = l.length := by rw [txtL_eq, List.length_map]
    have h8 : (txtM m).length = m.length := by rw [txtM_eq, List.length_map]
    rw [txtV, V.wt]
    split
    · split <;> simp only [List.length_cons, List.length_nil] <;> omega
    split
    · omega
    split
    · omega
    split
    · simp only [List.length_cons, List.length_append, List.length_nil]; omega
    split
    · simp only [List.length_cons, List.length_append, List.length_nil]; omega
    · simp only [List.length_cons, List.length_nil]; omega
theorem txtL_len : ∀ l : List V, prL l → ((txtL l).map List.length).sum + l.length ≤ 40 * wtL l
  | [], _ => by simp [txtL, wtL]
  | x :: t, h => by
    rw [prL] at h
    have h1 := txtV_len x h.1
    have h2 := txtL_len t h.2
    simp only [txtL, wtL, List.map_cons, List.sum_cons, List.length_cons]
    omega
theorem txtM_len : ∀ l : List Mem, prM l → ((txtM l).map List.length).sum + l.length ≤ 40 * wtM l
  | [], _ => by simp [txtM, wtM]
  | (k, x) :: t, h => by
    rw [prM] at h
    have h1 := txtV_len x h.1.2
    have h2 := txtM_len t h.2
    have h3 := qt_len k
    simp only [txtM, wtM, List.map_cons, List.sum_cons, List.length_cons, List.length_append]
    omega
end
theorem prL_take : ∀ {l : List V} (j : Nat), prL l → prL (l.take j)
  | [], j, h => by rw [List.take_nil]; exact h
  | x :: t, 0, h => by rw [List.take_zero, prL]; trivial
  | x :: t, j + 1, h => by
    rw [prL] at h
    rw [List.take_succ_cons, prL]
    exact ⟨h.1, prL_take j h.2⟩
theorem prM_take : ∀ {l : List Mem} (j : Nat), prM l → prM (l.take j)
  | [], j, h => by rw [List.take_nil]; exact h
  | (k, x) :: t, 0, h => by rw [List.take_zero, prM]; trivial
  | (k, x) :: t, j + 1, h => by
    rw [prM] at h
    rw [List.take_succ_cons, prM]
    exact ⟨h.1, prM_take j h.2⟩
/-- what is written of the first j -/
def jL (l : List V) (j : Nat) : List UInt8 := joinB (txtL (l.take j))
def jM (l : List Mem) (j : Nat) : List UInt8 := joinB (txtM (l.take j))
theorem jL_zero (l : List V) : jL l 0 = [] := by rw [jL, List.take_zero, txtL]; rfl
theorem jM_zero (l : List Mem) : jM l 0 = [] := by rw [jM, List.take_zero, txtM]; rfl
theorem jL_one {l : List V} (h : 0 < l.length) : jL l 1 = txtV l[0] := by
  rw [jL, List.take_succ_eq_append_getElem h, txtL_eq]
  simp [joinB_one]
theorem jL_more {l : List V} {j : Nat} (h : j < l.length) (h0 : j ≠ 0) : jL l (j + 1) = (jL l j ++ [44]) ++ txtV l[j] := by
  rw [jL, jL, List.take_succ_eq_append_getElem h, txtL_eq, List.map_append, List.map_cons, List.map_nil, joinB_snoc _ _ (by
    intro e
    have := congrArg List.length e
    rw [List.length_map, List.length_take, List.length_nil] at this
    omega), txtL_eq]
  simp
theorem jM_one {l : List Mem} (h : 0 < l.length) : jM l 1 = txtE l[0] := by
  rw [jM, List.take_succ_eq_append_getElem h, txtM_eq]
  simp [joinB_one]
theorem jM_more {l : List Mem} {j : Nat} (h : j < l.length) (h0 : j ≠ 0) : jM l (j + 1) = (jM l j ++ [44]) ++ txtE l[j] := by
  rw [jM, jM, List.take_succ_eq_append_getElem h, txtM_eq, List.map_append, List.map_cons, List.map_nil, joinB_snoc _ _ (by
    intro e
    have := congrArg List.length e
    rw [List.length_map, List.length_take, List.length_nil] at this
    omega), txtM_eq]
  simp
theorem wtL_take (l : List V) (j : Nat) : wtL (l.take j) ≤ wtL l := by have := wtL_app (l.take j) (l.drop j); rw [List.take_append_drop] at this; omega
theorem wtM_take (l : List Mem) (j : Nat) : wtM (l.take j) ≤ wtM l := by have := wtM_app (l.take j) (l.drop j); rw [List.take_append_drop] at this; omega
theorem jL_len {l : List V} (j : Nat) (h : prL l) : (jL l j).length ≤ 40 * wtL (l.take j) := by
  have h1 := txtL_len _ (prL_take j h)
  have h2 := join_len (txtL (l.take j))
  have h3 : (txtL (l.take j)).length = (l.take j).length := by rw [txtL_eq, List.length_map]
  rw [jL]
  omega
theorem jM_len {l : List Mem} (j : Nat) (h : prM l) : (jM l j).length ≤ 40 * wtM (l.take j) := by
  have h1 := txtM_len _ (prM_take j h)
  have h2 := join_len (txtM (l.take j))
  have h3 : (txtM (l.take j)).length = (l.take j).length := by rw [txtM_eq, List.length_map]
  rw [jM]
  omega
end Go.Proofs.YtjocgajbcdmaiaaDoor
