/- joined: JsI JsM JpsB -/
import Derived.Test.YtpmhdcmmlkjjmaaGreatDoorG34
import Derived.Test.YtpmhdcmmlkjjmaaGreatDoorG33
import Derived.Lib.ItoaLen
/- the integer that the document reads is the program's. -/
set_option linter.unusedSimpArgs false
set_option linter.unusedVariables false
namespace Go.Proofs.YtpmhdcmmlkjjmaaGreatDoor
open Go.RowKit Go.Lib
def dvJ (acc : Nat) : List UInt8 → Option Nat
  | [] => some acc
  | c :: r => if 48 ≤ c.toNat ∧ c.toNat ≤ 57 then dvJ (acc * 10 + (c.toNat - 48)) r else none
def uJ (d : List UInt8) : Option Nat := if d = [] ∨ (1 < d.length ∧ d.head? = some 48) ∨ 19 < d.length then none else dvJ 0 d
def finJ (minus : Bool) (o : Option Nat) : Option Int := match o with
  | none => none
  | some n => if minus = true ∧ n = 9223372036854775808 then some (-9223372036854775808) else if 9223372036854775807 < n then none else some (if minus = true then -(n : Int) else (n : Int))
/-- the document's integer -/
def dinJ (r : List UInt8) : Option Int := if r.head? = some 45 then finJ true (uJ r.tail) else finJ false (uJ r)
theorem dv_low : ∀ {l : List UInt8} {acc u : Nat}, dvJ acc l = some u → acc * 10 ^ l.length ≤ u
  | [], acc, u, h => by rw [dvJ] at h; cases h; simp
  | c :: r, acc, u, h => by
    rw [dvJ] at h
    split at h
    · have := dv_low h
      rw [List.length_cons, Nat.pow_succ]
      have h2 : acc * (10 ^ r.length * 10) = (acc * 10) * 10 ^ r.length := by rw [Nat.mul_comm (10 ^ r.length) 10, Nat.mul_assoc]
      rw [h2]
      exact Nat.le_trans (Nat.mul_le_mul_right _ (Nat.le_add_right _ _)) this
    · cases h
theorem dv_le {l : List UInt8} {acc u : Nat} (h : dvJ acc l = some u) : acc ≤ u := by
  have := dv_low h
  exact Nat.le_trans (Nat.le_mul_of_pos_right _ (Nat.pow_pos (by decide))) this
theorem pu_dv : ∀ {l : List UInt8} {acc u : Nat}, parseUintM 18446744073709551615 acc l = .ok u → dvJ acc l = some u
  | [], acc, u, h => by rw [parseUintM] at h; cases h; rfl
  | c :: r, acc, u, h => by
    rw [parseUintM] at h
    rw [dvJ]
    split at h
    · rename_i hc
      rw [if_pos hc]
      split at h
      · cases h
      · split at h
        · cases h
        · exact pu_dv h
    · cases h
theorem dv_pu : ∀ {l : List UInt8} {acc u : Nat}, dvJ acc l = some u → u ≤ 18446744073709551615 → parseUintM 18446744073709551615 acc l = .ok u
  | [], acc, u, h, _ => by rw [dvJ] at h; cases h; rfl
  | c :: r, acc, u, h, hu => by
    rw [dvJ] at h
    rw [parseUintM]
    split at h
    · rename_i hc
      have := dv_le h
      rw [if_pos hc, if_neg (by omega), if_neg (by omega)]
      exact dv_pu h hu
    · cases h
/-- a number of nineteen digits or fewer is a uint64 -/
theorem dv_top : ∀ {l : List UInt8} {acc u : Nat}, dvJ acc l = some u → u < (acc + 1) * 10 ^ l.length
  | [], acc, u, h => by rw [dvJ] at h; cases h; simp
  | c :: r, acc, u, h => by
    rw [dvJ] at h
    split at h
    · have := dv_top h
      rw [List.length_cons, Nat.pow_succ]
      have h2 : (acc + 1) * (10 ^ r.length * 10) = ((acc + 1) * 10) * 10 ^ r.length := by rw [Nat.mul_comm (10 ^ r.length) 10, Nat.mul_assoc]
      rw [h2]
      exact Nat.lt_of_lt_of_le this (Nat.mul_le_mul_right _ (by omega))
    · cases h
theorem pfx (c d : UInt8) (t : List UInt8) : hasPrefix (c :: t) [d] = (d == c) := by simp [hasPrefix, List.isPrefixOf]
/-- what stands behind the sign, read by the library's way and by the document's -/
theorem behind (minus : Bool) (d : List UInt8) (hz : ¬ (hasPrefix d [48] = true ∧ 1 < d.length)) :
    (match parseUintB 64 d with | .ok u => (if minus = false ∧ 9223372036854775808 ≤ u then none else if minus = true ∧ 9223372036854775808 < u then none else some (if minus = true then -(u : Int) else (u : Int))) | _ => none) = finJ minus (uJ d) := by
  have e2 : (2 : Nat) ^ 64 - 1 = 18446744073709551615 := by decide
  by_cases h0 : d = []
  · subst h0; rw [parseUintB, if_pos rfl, uJ, if_pos (.inl rfl)]; rfl
  rw [parseUintB, if_neg h0, e2]
  have hz' : ¬ (1 < d.length ∧ d.head? = some 48) := by
    rintro ⟨h1, h2⟩
    cases d with
    | nil => cases h2
    | cons c t => exact hz ⟨by rw [pfx]; simp at h2; simp [h2], h1⟩
  by_cases hl : 19 < d.length
  · rw [uJ, if_pos (.inr (.inr hl))]
    cases hp : parseUintM 18446744073709551615 0 d with
    | ok u =>
      have hv := pu_dv hp
      have hu : 10000000000000000000 ≤ u := by
        cases d with
        | nil => cases h0 rfl
        | cons c t =>
          rw [dvJ] at hv
          split at hv
          · rename_i hc
            have hc48 : c.toNat ≠ 48 := fun q => hz' ⟨by omega, by rw [List.head?_cons]; exact congrArg some (UInt8.toNat_inj.1 q)⟩
            have h1 := dv_low hv
            have h2 : (10 : Nat) ^ 19 ≤ 10 ^ t.length := Nat.pow_le_pow_right (by decide) (by rw [List.length_cons] at hl; omega)
            have e : (10 : Nat) ^ 19 = 10000000000000000000 := by decide
            have h3 : 1 * 10 ^ t.length ≤ (0 * 10 + (c.toNat - 48)) * 10 ^ t.length := Nat.mul_le_mul_right _ (by omega)
            omega
          · cases hv
      dsimp only
      rw [finJ]
      cases minus with
      | true => rw [if_neg (by simp), if_pos ⟨rfl, by omega⟩]
      | false => rw [if_pos ⟨rfl, by omega⟩]
    | «syntax» => rfl
    | range => rfl
  · rw [uJ, if_neg (by rintro (h | h | h); exact h0 h; exact hz' h; exact hl h)]
    cases hv : dvJ 0 d with
    | none =>
      cases hp : parseUintM 18446744073709551615 0 d with
      | ok u => rw [pu_dv hp] at hv; cases hv
      | «syntax» => rfl
      | range => rfl
    | some u =>
      have ht := dv_top hv
      have hu : u ≤ 18446744073709551615 := by
        have : (10 : Nat) ^ d.length ≤ 10 ^ 19 := Nat.pow_le_pow_right (by decide) (by omega)
        have e : (10 : Nat) ^ 19 = 10000000000000000000 := by decide
        omega
      rw [dv_pu hv hu]
      dsimp only
      rw [finJ]
      cases minus with
      | true =>
        by_cases e1 : u = 9223372036854775808
        · subst e1; decide
        · simp only [Bool.true_eq_false, false_and, if_false, true_and, if_true, e1]
          by_cases e3 : 9223372036854775808 < u
          · rw [if_pos e3, if_pos (by omega)]
          · rw [if_neg e3, if_neg (by omega)]
      | false =>
        simp only [Bool.false_eq_true, false_and, if_false, true_and]
        by_cases e3 : 9223372036854775808 ≤ u
        · rw [if_pos e3, if_pos (by omega)]
        · rw [if_neg e3, if_neg (by omega)]
theorem int_doc (r : List UInt8) : intJ r = dinJ r := by
  have e3 : (2 : Nat) ^ (64 - 1) = 9223372036854775808 := by decide
  cases r with
  | nil => rfl
  | cons c t =>
    rw [intJ, dinJ, pfx]
    by_cases hp : c = 43
    · subst hp
      rw [if_pos (by rfl), if_neg (by simp)]
      rw [uJ]
      split
      · rfl
      · rw [dvJ, if_neg (by decide)]; rfl
    rw [if_neg (by simp; exact fun h => hp h.symm)]
    by_cases hm : c = 45
    · subst hm
      have ht : trimPrefix (45 :: t) [45] = t := by simp [trimPrefix, hasPrefix, List.isPrefixOf]
      rw [ht, if_pos (by rfl : (45 :: t).head? = some 45), List.tail_cons]
      by_cases hz : hasPrefix t [48] = true ∧ 1 < t.length
      · rw [if_pos hz]
        cases t with
        | nil => exact absurd hz.2 (by simp)
        | cons d u =>
          have : d = 48 := by have := hz.1; rw [pfx] at this; simp at this; exact this.symm
          subst this
          rw [uJ, if_pos (.inr (.inl ⟨hz.2, rfl⟩))]
          rfl
      · rw [if_neg hz, ← behind true t hz]
        unfold parseIntB
        dsimp only
        rw [if_pos (by right; rfl)]
        cases parseUintB 64 t with
        | ok u =>
          dsimp only
          rw [e3]
          by_cases q : 9223372036854775808 < u
          · simp [q]
          · simp [q]
        | «syntax» => rfl
        | range => rfl
    · have ht : trimPrefix (c :: t) [45] = c :: t := by rw [trimPrefix, pfx, if_neg (by simp; exact fun h => hm h.symm)]
      rw [ht, if_neg (by simp; exact hm : ¬ (c :: t).head? = some 45)]
      by_cases hz : hasPrefix (c :: t) [48] = true ∧ 1 < (c :: t).length
      · rw [if_pos hz]
        have : c = 48 := by have := hz.1; rw [pfx] at this; simp at this; exact this.symm
        subst this
        rw [uJ, if_pos (.inr (.inl ⟨hz.2, rfl⟩))]
        rfl
      · rw [if_neg hz, ← behind false (c :: t) hz]
        have n43 : c.toNat ≠ 43 := fun q => hp (UInt8.toNat_inj.1 q)
        have n45 : c.toNat ≠ 45 := fun q => hm (UInt8.toNat_inj.1 q)
        unfold parseIntB
        dsimp only
        rw [if_neg (by omega)]
        cases parseUintB 64 (c :: t) with
        | ok u =>
          dsimp only
          rw [e3]
          by_cases q : 9223372036854775808 ≤ u
          · simp [n45, q]
          · simp [n45, q]
        | «syntax» => rfl
        | range => rfl
end Go.Proofs.YtpmhdcmmlkjjmaaGreatDoor
/- members put in where they belong: plain. -/
namespace Go.Proofs.YtpmhdcmmlkjjmaaGreatDoor
open Go.RowKit Go.Lib
theorem toList_data (a : ByteArray) : a.toList = a.data.toList := ByteArray.toList_eq a
theorem less_cmp : ∀ a b : List UInt8, Op.bytesLess a b = decide (compareBytes a b = -1)
  | [], [] => by simp [Op.bytesLess, compareBytes]
  | [], _ :: _ => by simp [Op.bytesLess, compareBytes]
  | _ :: _, [] => by simp [Op.bytesLess, compareBytes]
  | x :: t, y :: u => by
    have ih := less_cmp t u
    simp only [Op.bytesLess, compareBytes]
    by_cases h1 : x < y
    · simp [h1]
    · by_cases h2 : y < x
      · have hne : x ≠ y := fun e => by subst e; exact h1 h2
        simp [h1, h2, hne]
      · have he : x = y := u8_tri x y h1 h2
        subst he
        simp [h1, ih]
theorem less_k (a b : ByteArray) : Op.bytesLess a.toList b.toList = decide (cmpS a b < 0) := by
  rw [less_cmp, toList_data, toList_data, Bool.eq_iff_iff, decide_eq_true_iff, decide_eq_true_iff]
  have h : compareBytes a.data.toList b.data.toList = cmpS a b := rfl
  rw [h]
  have := k_one a b
  omega
def keysM (L : List Mem) : List (List UInt8) := L.map fun x => x.1.data.toList
theorem key_eq {a b : ByteArray} (h : a.data.toList = b.data.toList) : a = b := by
  cases a; cases b
  exact congrArg ByteArray.mk (Array.toList_inj.1 h)
end Go.Proofs.YtpmhdcmmlkjjmaaGreatDoor
/- the canonical text of a value; json.appendList, appendMap, appendValue. -/
namespace Go.Proofs.YtpmhdcmmlkjjmaaGreatDoor
open Go.RowKit Go.Lib
def joinB : List (List UInt8) → List UInt8
  | [] => []
  | x :: t => x ++ (t.map (fun y => 44 :: y)).flatten
theorem joinB_one (y : List UInt8) : joinB [y] = y := by simp [joinB]
theorem joinB_snoc (xs : List (List UInt8)) (y : List UInt8) (h : xs ≠ []) : joinB (xs ++ [y]) = joinB xs ++ 44 :: y := by
  cases xs with
  | nil => exact absurd rfl h
  | cons x t => simp [joinB]
mutual
def txtV : V → List UInt8
  | .mk k b i s l m =>
    if k = 1 then (if b = true then [116, 114, 117, 101] else [102, 97, 108, 115, 101])
    else if k = 2 then itoa i
    else if k = 3 then Q.qt s.data.toList
    else if k = 4 then 91 :: (joinB (txtL l) ++ [93])
    else if k = 5 then 123 :: (joinB (txtM m) ++ [125])
    else [110, 117, 108, 108]
def txtL : List V → List (List UInt8)
  | [] => []
  | x :: t => txtV x :: txtL t
def txtM : List Mem → List (List UInt8)
  | [] => []
  | (k, x) :: t => (Q.qt k.data.toList ++ 58 :: txtV x) :: txtM t
end
theorem txtL_eq : ∀ l : List V, txtL l = l.map txtV
  | [] => by rw [txtL]; rfl
  | x :: t => by rw [txtL, txtL_eq t]; rfl
def txtE (x : Mem) : List UInt8 := Q.qt x.1.data.toList ++ 58 :: txtV x.2
theorem txtM_eq : ∀ l : List Mem, txtM l = l.map txtE
  | [] => by rw [txtM]; rfl
  | (k, x) :: t => by rw [txtM, txtM_eq t]; rfl
/- strings and keys are UTF-8 -/
mutual
def prV : V → Prop
  | .mk k b i s l m => (In64 i ∧ s.size ≤ 1048576 ∧ 0 ≤ k ∧ k ≤ 5) ∧ validD s.data.toList = true ∧ prL l ∧ prM m
def prL : List V → Prop
  | [] => True
  | x :: t => prV x ∧ prL t
def prM : List Mem → Prop
  | [] => True
  | (k, x) :: t => ((validD k.data.toList = true ∧ k.size ≤ 1048576) ∧ prV x) ∧ prM t
end
theorem prL_mem : ∀ {l : List V}, prL l → ∀ x ∈ l, prV x
  | [], _, x, hx => by cases hx
  | y :: t, h, x, hx => by
    rw [prL] at h
    rcases List.mem_cons.1 hx with rfl | hx
    · exact h.1
    · exact prL_mem h.2 x hx
theorem prM_mem : ∀ {l : List Mem}, prM l → ∀ x ∈ l, (validD x.1.data.toList = true ∧ x.1.size ≤ 1048576) ∧ prV x.2
  | [], _, x, hx => by cases hx
  | (k, y) :: t, h, x, hx => by
    rw [prM] at h
    rcases List.mem_cons.1 hx with rfl | hx
    · exact h.1
    · exact prM_mem h.2 x hx
theorem join_len (xs : List (List UInt8)) : (joinB xs).length ≤ (xs.map List.length).sum + xs.length := by
  cases xs with
  | nil => simp [joinB]
  | cons x t =>
    simp only [joinB, List.length_append, List.length_flatten, List.map_map, List.map_cons, List.sum_cons, List.length_cons]
    have h : (t.map (List.length ∘ fun y => 44 :: y)).sum = (t.map List.length).sum + t.length := by
      induction t with
      | nil => rfl
      | cons y t ih => simp only [List.map_cons, List.sum_cons, Function.comp, List.length_cons] at ih ⊢; omega
    omega
theorem qt_len (s : ByteArray) : (Q.qt s.data.toList).length ≤ 2 + 6 * s.size := by
  have h1 := Q.qt_length s.data.toList
  have h2 := Q.sz_le s.data.toList
  have h3 : s.data.toList.length = s.size := by rw [Array.length_toList]; rfl
  omega
mutual
theorem txtV_len : ∀ v : V, prV v → (txtV v).length + 5 ≤ 40 * v.wt
  | .mk k b i s l m, h => by
    rw [prV] at h
    have h1 := txtL_len l h.2.2.1
    have h2 := txtM_len m h.2.2.2
    have h3 := join_len (txtL l)
    have h4 := join_len (txtM m)
    have h5 := itoa_length_le i h.1.1.1 h.1.1.2
    have h6 := qt_len s
    have h7 : (txtL l).length = l.length := by rw [txtL_eq, List.length_map]
    have h8 : (txtM m).length = m.length := by rw [txtM_eq, List.length_map]
    rw [txtV, V.wt]
    split
    · split <;> simp only [List.length_cons, List.length_nil] <;> omega
    split
    · omega
    split
    · omega
    split
    · simp only [List.length_cons, List.length_append, List.length_nil]; omega
    split
    · simp only [List.length_cons, List.length_append, List.length_nil]; omega
    · simp only [List.length_cons, List.length_nil]; omega
theorem txtL_len : ∀ l : List V, prL l → ((txtL l).map List.length).sum + l.length ≤ 40 * wtL l
  | [], _ => by simp [txtL, wtL]
  | x :: t, h => by
    rw [prL] at h
    have h1 := txtV_len x h.1
    have h2 := txtL_len t h.2
    simp only [txtL, wtL, List.map_cons, List.sum_cons, List.length_cons]
    omega
theorem txtM_len : ∀ l : List Mem, prM l → ((txtM l).map List.length).sum + l.length ≤ 40 * wtM l
  | [], _ => by simp [txtM, wtM]
  | (k, x) :: t, h => by
    rw [prM] at h
    have h1 := txtV_len x h.1.2
    have h2 := txtM_len t h.2
    have h3 := qt_len k
    simp only [txtM, wtM, List.map_cons, List.sum_cons, List.length_cons, List.length_append]
    omega
end
theorem prL_take : ∀ {l : List V} (j : Nat), prL l → prL (l.take j)
  | [], j, h => by rw [List.take_nil]; exact h
  | x :: t, 0, h => by rw [List.take_zero, prL]; trivial
  | x :: t, j + 1, h => by
    rw [prL] at h
    rw [List.take_succ_cons, prL]
    exact ⟨h.1, prL_take j h.2⟩
theorem prM_take : ∀ {l : List Mem} (j : Nat), prM l → prM (l.take j)
  | [], j, h => by rw [List.take_nil]; exact h
  | (k, x) :: t, 0, h => by rw [List.take_zero, prM]; trivial
  | (k, x) :: t, j + 1, h => by
    rw [prM] at h
    rw [List.take_succ_cons, prM]
    exact ⟨h.1, prM_take j h.2⟩
/-- what is written of the first j -/
def jL (l : List V) (j : Nat) : List UInt8 := joinB (txtL (l.take j))
def jM (l : List Mem) (j : Nat) : List UInt8 := joinB (txtM (l.take j))
theorem jL_zero (l : List V) : jL l 0 = [] := by rw [jL, List.take_zero, txtL]; rfl
theorem jM_zero (l : List Mem) : jM l 0 = [] := by rw [jM, List.take_zero, txtM]; rfl
theorem jL_one {l : List V} (h : 0 < l.length) : jL l 1 = txtV l[0] := by
  rw [jL, List.take_succ_eq_append_getElem h, txtL_eq]
  simp [joinB_one]
theorem jL_more {l : List V} {j : Nat} (h : j < l.length) (h0 : j ≠ 0) : jL l (j + 1) = (jL l j ++ [44]) ++ txtV l[j] := by
  rw [jL, jL, List.take_succ_eq_append_getElem h, txtL_eq, List.map_append, List.map_cons, List.map_nil, joinB_snoc _ _ (by
    intro e
    have := congrArg List.length e
    rw [List.length_map, List.length_take, List.length_nil] at this
    omega), txtL_eq]
  simp
theorem jM_one {l : List Mem} (h : 0 < l.length) : jM l 1 = txtE l[0] := by
  rw [jM, List.take_succ_eq_append_getElem h, txtM_eq]
  simp [joinB_one]
theorem jM_more {l : List Mem} {j : Nat} (h : j < l.length) (h0 : j ≠ 0) : jM l (j + 1) = (jM l j ++ [44]) ++ txtE l[j] := by
  rw [jM, jM, List.take_succ_eq_append_getElem h, txtM_eq, List.map_append, List.map_cons, List.map_nil, joinB_snoc _ _ (by
    intro e
    have := congrArg List.length e
    rw [List.length_map, List.length_take, List.length_nil] at this
    omega), txtM_eq]
  simp
theorem wtL_take (l : List V) (j : Nat) : wtL (l.take j) ≤ wtL l := by have := wtL_app (l.take j) (l.drop j); rw [List.take_append_drop] at this; omega
theorem wtM_take (l : List Mem) (j : Nat) : wtM (l.take j) ≤ wtM l := by have := wtM_app (l.take j) (l.drop j); rw [List.take_append_drop] at this; omega
theorem jL_len {l : List V} (j : Nat) (h : prL l) : (jL l j).length ≤ 40 * wtL (l.take j) := by
  have h1 := txtL_len _ (prL_take j h)
  have h2 := join_len (txtL (l.take j))
  have h3 : (txtL (l.take j)).length = (l.take j).length := by rw [txtL_eq, List.length_map]
  rw [jL]
  omega
theorem jM_len {l : List Mem} (j : Nat) (h : prM l) : (jM l j).length ≤ 40 * wtM (l.take j) := by
  have h1 := txtM_len _ (prM_take j h)
  have h2 := join_len (txtM (l.take j))
  have h3 : (txtM (l.take j)).length = (l.take j).length := by rw [txtM_eq, List.length_map]
  rw [jM]
  omega
end Go.Proofs.YtpmhdcmmlkjjmaaGreatDoor
