/- joined: JpsB PrvA -/
import Derived.Test.YtpmhdcmmlkjjmaaGreatDoorG33
import Derived.Lib.ItoaLen
/- the canonical text of a value; json.appendList, appendMap, appendValue. -/
set_option linter.unusedSimpArgs false
set_option linter.unusedVariables false
namespace Go.Proofs.YtpmhdcmmlkjjmaaGreatDoor
open Go.RowKit Go.Lib
def joinB : List (List UInt8) → List UInt8
  | [] => []
  | x :: t => x ++ (t.map (fun y => 44 :: y)).flatten
theorem joinB_one (y : List UInt8) : joinB [y] = y := by simp [joinB]
theorem joinB_snoc (xs : List (List UInt8)) (y : List UInt8) (h : xs ≠ []) : joinB (xs ++ [y]) = joinB xs ++ 44 :: y := by
  cases xs with
  | nil => exact absurd rfl h
  | cons x t => simp [joinB]
mutual
def txtV : V → List UInt8
  | .mk k b i s l m =>
    if k = 1 then (if b = true then [116, 114, 117, 101] else [102, 97, 108, 115, 101])
    else if k = 2 then itoa i
    else if k = 3 then Q.qt s.data.toList
    else if k = 4 then 91 :: (joinB (txtL l) ++ [93])
    else if k = 5 then 123 :: (joinB (txtM m) ++ [125])
    else [110, 117, 108, 108]
def txtL : List V → List (List UInt8)
  | [] => []
  | x :: t => txtV x :: txtL t
def txtM : List Mem → List (List UInt8)
  | [] => []
  | (k, x) :: t => (Q.qt k.data.toList ++ 58 :: txtV x) :: txtM t
end
theorem txtL_eq : ∀ l : List V, txtL l = l.map txtV
  | [] => by rw [txtL]; rfl
  | x :: t => by rw [txtL, txtL_eq t]; rfl
def txtE (x : Mem) : List UInt8 := Q.qt x.1.data.toList ++ 58 :: txtV x.2
theorem txtM_eq : ∀ l : List Mem, txtM l = l.map txtE
  | [] => by rw [txtM]; rfl
  | (k, x) :: t => by rw [txtM, txtM_eq t]; rfl
/- strings and keys are UTF-8 -/
mutual
def prV : V → Prop
  | .mk k b i s l m => (In64 i ∧ s.size ≤ 1048576 ∧ 0 ≤ k ∧ k ≤ 5) ∧ validD s.data.toList = true ∧ prL l ∧ prM m
def prL : List V → Prop
  | [] => True
  | x :: t => prV x ∧ prL t
def prM : List Mem → Prop
  | [] => True
  | (k, x) :: t => ((validD k.data.toList = true ∧ k.size ≤ 1048576) ∧ prV x) ∧ prM t
end
theorem prL_mem : ∀ {l : List V}, prL l → ∀ x ∈ l, prV x
  | [], _, x, hx => by cases hx
  | y :: t, h, x, hx => by
    rw [prL] at h
    rcases List.mem_cons.1 hx with rfl | hx
    · exact h.1
    · exact prL_mem h.2 x hx
theorem prM_mem : ∀ {l : List Mem}, prM l → ∀ x ∈ l, (validD x.1.data.toList = true ∧ x.1.size ≤ 1048576) ∧ prV x.2
  | [], _, x, hx => by cases hx
  | (k, y) :: t, h, x, hx => by
    rw [prM] at h
    rcases List.mem_cons.1 hx with rfl | hx
    · exact h.1
    · exact prM_mem h.2 x hx
theorem join_len (xs : List (List UInt8)) : (joinB xs).length ≤ (xs.map List.length).sum + xs.length := by
  cases xs with
  | nil => simp [joinB]
  | cons x t =>
    simp only [joinB, List.length_append, List.length_flatten, List.map_map, List.map_cons, List.sum_cons, List.length_cons]
    have h : (t.map (List.length ∘ fun y => 44 :: y)).sum = (t.map List.length).sum + t.length := by
      induction t with
      | nil => rfl
      | cons y t ih => simp only [List.map_cons, List.sum_cons, Function.comp, List.length_cons] at ih ⊢; omega
    omega
theorem qt_len (s : ByteArray) : (Q.qt s.data.toList).length ≤ 2 + 6 * s.size := by
  have h1 := Q.qt_length s.data.toList
  have h2 := Q.sz_le s.data.toList
  have h3 : s.data.toList.length = s.size := by rw [Array.length_toList]; rfl
  omega
mutual
theorem txtV_len : ∀ v : V, prV v → (txtV v).length + 5 ≤ 40 * v.wt
  | .mk k b i s l m, h => by
    rw [prV] at h
    have h1 := txtL_len l h.2.2.1
    have h2 := txtM_len m h.2.2.2
    have h3 := join_len (txtL l)
    have h4 := join_len (txtM m)
    have h5 := itoa_length_le i h.1.1.1 h.1.1.2
    have h6 := qt_len s
    have h7 : (txtL l).length = l.length := by rw [txtL_eq, List.length_map]
    have h8 : (txtM m).length = m.length := by rw [txtM_eq, List.length_map]
    rw [txtV, V.wt]
    split
    · split <;> simp only [List.length_cons, List.length_nil] <;> omega
    split
    · omega
    split
    · omega
    split
    · simp only [List.length_cons, List.length_append, List.length_nil]; omega
    split
    · simp only [List.length_cons, List.length_append, List.length_nil]; omega
    · simp only [List.length_cons, List.length_nil]; omega
theorem txtL_len : ∀ l : List V, prL l → ((txtL l).map List.length).sum + l.length ≤ 40 * wtL l
  | [], _ => by simp [txtL, wtL]
  | x :: t, h => by
    rw [prL] at h
    have h1 := txtV_len x h.1
    have h2 := txtL_len t h.2
    simp only [txtL, wtL, List.map_cons, List.sum_cons, List.length_cons]
    omega
theorem txtM_len : ∀ l : List Mem, prM l → ((txtM l).map List.length).sum + l.length ≤ 40 * wtM l
  | [], _ => by simp [txtM, wtM]
  | (k, x) :: t, h => by
    rw [prM] at h
    have h1 := txtV_len x h.1.2
    have h2 := txtM_len t h.2
    have h3 := qt_len k
    simp only [txtM, wtM, List.map_cons, List.sum_cons, List.length_cons, List.length_append]
    omega
end
theorem prL_take : ∀ {l : List V} (j : Nat), prL l → prL (l.take j)
  | [], j, h => by rw [List.take_nil]; exact h
  | x :: t, 0, h => by rw [List.take_zero, prL]; trivial
  | x :: t, j + 1, h => by
    rw [prL] at h
    rw [List.take_succ_cons, prL]
    exact ⟨h.1, prL_take j h.2⟩
theorem prM_take : ∀ {l : List Mem} (j : Nat), prM l → prM (l.take j)
  | [], j, h => by rw [List.take_nil]; exact h
  | (k, x) :: t, 0, h => by rw [List.take_zero, prM]; trivial
  | (k, x) :: t, j + 1, h => by
    rw [prM] at h
    rw [List.take_succ_cons, prM]
    exact ⟨h.1, prM_take j h.2⟩
/-- what is written of the first j -/
def jL (l : List V) (j : Nat) : List UInt8 := joinB (txtL (l.take j))
def jM (l : List Mem) (j : Nat) : List UInt8 := joinB (txtM (l.take j))
theorem jL_zero (l : List V) : jL l 0 = [] := by rw [jL, List.take_zero, txtL]; rfl
theorem jM_zero (l : List Mem) : jM l 0 = [] := by rw [jM, List.take_zero, txtM]; rfl
theorem jL_one {l : List V} (h : 0 < l.length) : jL l 1 = txtV l[0] := by
  rw [jL, List.take_succ_eq_append_getElem h, txtL_eq]
  simp [joinB_one]
theorem jL_more {l : List V} {j : Nat} (h : j < l.length) (h0 : j ≠ 0) : jL l (j + 1) = (jL l j ++ [44]) ++ txtV l[j] := by
  rw [jL, jL, List.take_succ_eq_append_getElem h, txtL_eq, List.map_append, List.map_cons, List.map_nil, joinB_snoc _ _ (by
    intro e
    have := congrArg List.length e
    rw [List.length_map, List.length_take, List.length_nil] at this
    omega), txtL_eq]
  simp
theorem jM_one {l : List Mem} (h : 0 < l.length) : jM l 1 = txtE l[0] := by
  rw [jM, List.take_succ_eq_append_getElem h, txtM_eq]
  simp [joinB_one]
theorem jM_more {l : List Mem} {j : Nat} (h : j < l.length) (h0 : j ≠ 0) : jM l (j + 1) = (jM l j ++ [44]) ++ txtE l[j] := by
  rw [jM, jM, List.take_succ_eq_append_getElem h, txtM_eq, List.map_append, List.map_cons, List.map_nil, joinB_snoc _ _ (by
    intro e
    have := congrArg List.length e
    rw [List.length_map, List.length_take, List.length_nil] at this
    omega), txtM_eq]
  simp
theorem wtL_take (l : List V) (j : Nat) : wtL (l.take j) ≤ wtL l := by have := wtL_app (l.take j) (l.drop j); rw [List.take_append_drop] at this; omega
theorem wtM_take (l : List Mem) (j : Nat) : wtM (l.take j) ≤ wtM l := by have := wtM_app (l.take j) (l.drop j); rw [List.take_append_drop] at this; omega
theorem jL_len {l : List V} (j : Nat) (h : prL l) : (jL l j).length ≤ 40 * wtL (l.take j) := by
  have h1 := txtL_len _ (prL_take j h)
  have h2 := join_len (txtL (l.take j))
  have h3 : (txtL (l.take j)).length = (l.take j).length := by rw [txtL_eq, List.length_map]
  rw [jL]
  omega
theorem jM_len {l : List Mem} (j : Nat) (h : prM l) : (jM l j).length ≤ 40 * wtM (l.take j) := by
  have h1 := txtM_len _ (prM_take j h)
  have h2 := join_len (txtM (l.take j))
  have h3 : (txtM (l.take j)).length = (l.take j).length := by rw [txtM_eq, List.length_map]
  rw [jM]
  omega
end Go.Proofs.YtpmhdcmmlkjjmaaGreatDoor
/- what a value that is taken has: strings and keys that are UTF-8, and no more weight than there may be. -/
namespace Go.Proofs.YtpmhdcmmlkjjmaaGreatDoor
open Go.RowKit Go.Lib
theorem entF_wt {D n y d lv : Nat} {g : Bool} {z : Nat} (h : (entF D n y d lv g z).1 = 0) : (entF D n y d lv g z).2.1 + (entF D n y d lv g z).2.2.1 = n + y + 1 + z := by
  unfold entF at *
  split at h
  · simp at h
  split at h
  · simp at h
  split at h
  · simp at h
  split at h
  · simp at h
  · rename_i h1 h2 h3 h4
    rw [if_neg h1, if_neg h2, if_neg h3, if_neg h4]
    show n + 1 + (y + z) = _
    omega
theorem entF_z {D n y d lv : Nat} {g : Bool} {z : Nat} (h : (entF D n y d lv g z).1 = 0) : z ≤ 1048576 ∧ g = true := by
  unfold entF at h
  split at h
  · simp at h
  split at h
  · simp at h
  split at h
  · simp at h
  split at h
  · simp at h
  · rename_i h1 h2 h3 h4
    exact ⟨by omega, by cases g <;> simp_all⟩
mutual
theorem chkV_wt (D : Nat) : ∀ (v : V) (lv : Nat) (st : St), (chkV D v lv st).1 = 0 → (chkV D v lv st).2.1 + (chkV D v lv st).2.2.1 = st.1 + st.2.1 + v.wt
  | .mk k b i s l m, lv, st, h => by
    rw [chkV] at h ⊢
    by_cases h1 : (entF D st.1 st.2.1 st.2.2 lv (goodB k b i s l.length m) (s.size + keyB m)).1 = 0
    · have e1 := entF_wt h1
      simp only [h1, if_true] at h ⊢
      by_cases h2 : (chkL D l (lv + 1) (entF D st.1 st.2.1 st.2.2 lv (goodB k b i s l.length m) (s.size + keyB m)).2).1 = 0
      · simp only [h2, if_true] at h ⊢
        have a1 := chkM_wt D m (lv + 1) _ h
        have a2 := chkL_wt D l (lv + 1) _ h2
        rw [V.wt]
        omega
      · simp only [h2, if_false] at h
    · simp only [h1, if_false] at h
theorem chkL_wt (D : Nat) : ∀ (l : List V) (lv : Nat) (st : St), (chkL D l lv st).1 = 0 → (chkL D l lv st).2.1 + (chkL D l lv st).2.2.1 = st.1 + st.2.1 + wtL l
  | [], lv, st, h => by rw [chkL, wtL]; rfl
  | x :: t, lv, st, h => by
    rw [chkL] at h ⊢
    by_cases h1 : (chkV D x lv st).1 = 0
    · rw [if_pos h1] at h ⊢
      have a1 := chkL_wt D t lv _ h
      have a2 := chkV_wt D x lv st h1
      rw [wtL]
      omega
    · rw [if_neg h1] at h
      exact absurd h h1
theorem chkM_wt (D : Nat) : ∀ (l : List Mem) (lv : Nat) (st : St), (chkM D l lv st).1 = 0 → (chkM D l lv st).2.1 + (chkM D l lv st).2.2.1 + keyB l = st.1 + st.2.1 + wtM l
  | [], lv, st, h => by rw [chkM, wtM, keyB]
  | (k, x) :: t, lv, st, h => by
    rw [chkM] at h ⊢
    by_cases h1 : (chkV D x lv st).1 = 0
    · rw [if_pos h1] at h ⊢
      have a1 := chkM_wt D t lv _ h
      have a2 := chkV_wt D x lv st h1
      simp only [wtM, keyB]
      omega
    · rw [if_neg h1] at h
      exact absurd h h1
end
theorem wt_of_chkD {D : Nat} {v : V} (h : (chkV D v 0 (0, 0, 0)).1 = 0) : v.wt ≤ 1114112 := by
  have a1 := chkV_wt D v 0 (0, 0, 0) h
  have a2 := chkV_bnd D v 0 (0, 0, 0) ⟨by simp, by simp, by simp⟩ h
  have a3 := a2.n
  have a4 := a2.y
  simp only at a1
  omega
theorem key_mem : ∀ {m : List Mem} {x : Mem}, x ∈ m → x.1.size ≤ keyB m
  | y :: t, x, h => by
    rcases List.mem_cons.1 h with rfl | h
    · rw [keyB]; omega
    · have := key_mem h; rw [keyB]; omega
theorem rise_key {m : List Mem} (h : riseB m = true) : ∀ x ∈ m, validD x.1.data.toList = true := by
  intro x hx
  simp only [riseB, List.all_eq_true, List.mem_range] at h
  obtain ⟨j, hj, rfl⟩ := List.getElem_of_mem hx
  have h1 := h j hj
  rw [okAt, Bool.and_eq_true, keyAt_eq hj] at h1
  exact h1.1
mutual
theorem prv_chk (D : Nat) : ∀ (v : V) (lv : Nat) (st : St) (R : Bool) (w : World) (S : Nat → Prop) (cs : List Value), (chkV D v lv st).1 = 0 → v.lies R w S cs → prV v
  | .mk k b i s l m, lv, st, R, w, S, cs, h, hl => by
    rw [chkV] at h
    rw [V.lies] at hl
    obtain ⟨al, cl, bl, ol, am, cm, bm, om, rfl, hk, hi, hs, hal, ham, hl1, hm1, _⟩ := hl
    rw [prV]
    by_cases h1 : (entF D st.1 st.2.1 st.2.2 lv (goodB k b i s l.length m) (s.size + keyB m)).1 = 0
    · simp only [h1, if_true] at h
      obtain ⟨e1, e2⟩ := entF_z h1
      rw [goodB, Bool.and_eq_true, Bool.and_eq_true] at e2
      by_cases h2 : (chkL D l (lv + 1) (entF D st.1 st.2.1 st.2.2 lv (goodB k b i s l.length m) (s.size + keyB m)).2).1 = 0
      · simp only [h2, if_true] at h
        have e3 := of_decide_eq_true e2.1.1
        exact ⟨⟨hi, by omega, e3.1, e3.2.1⟩, e2.1.2, prl_chk D l (lv + 1) _ R w S bl ol h2 hl1, prm_chk D m (lv + 1) _ R w S bm om h hm1 (fun x hx => ⟨rise_key e2.2 x hx, by have := key_mem hx; omega⟩)⟩
      · simp only [h2, if_false] at h
    · simp only [h1, if_false] at h
theorem prl_chk (D : Nat) : ∀ (l : List V) (lv : Nat) (st : St) (R : Bool) (w : World) (S : Nat → Prop) (b o : Nat), (chkL D l lv st).1 = 0 → liesL R w S l b o → prL l
  | [], lv, st, R, w, S, b, o, h, hl => by rw [prL]; trivial
  | x :: t, lv, st, R, w, S, b, o, h, hl => by
    rw [chkL] at h
    rw [liesL] at hl
    obtain ⟨_, ⟨cs, _, hx⟩, ht⟩ := hl
    rw [prL]
    by_cases h1 : (chkV D x lv st).1 = 0
    · rw [if_pos h1] at h
      exact ⟨prv_chk D x lv st R w S cs h1 hx, prl_chk D t lv _ R w S b _ h ht⟩
    · rw [if_neg h1] at h
      exact absurd h h1
theorem prm_chk (D : Nat) : ∀ (l : List Mem) (lv : Nat) (st : St) (R : Bool) (w : World) (S : Nat → Prop) (b o : Nat), (chkM D l lv st).1 = 0 → liesM R w S l b o → (∀ x ∈ l, validD x.1.data.toList = true ∧ x.1.size ≤ 1048576) → prM l
  | [], lv, st, R, w, S, b, o, h, hl, hk => by rw [prM]; trivial
  | (k, x) :: t, lv, st, R, w, S, b, o, h, hl, hk => by
    rw [chkM] at h
    rw [liesM] at hl
    obtain ⟨_, ⟨_, cs, _, hx⟩, ht⟩ := hl
    rw [prM]
    by_cases h1 : (chkV D x lv st).1 = 0
    · rw [if_pos h1] at h
      exact ⟨⟨hk (k, x) (List.mem_cons_self ..), prv_chk D x lv st R w S cs h1 hx⟩, prm_chk D t lv _ R w S b _ h ht (fun y hy => hk y (List.mem_cons_of_mem _ hy))⟩
    · rw [if_neg h1] at h
      exact absurd h h1
end
theorem chkE_pr {R : Bool} {w : World} {S : Nat → Prop} {cs : List Value} {v : V} {depth : Int} (h : chkE v depth = 0) (hl : v.lies R w S cs) : prV v ∧ v.wt ≤ 1114112 := by
  rw [chkE] at h
  split at h
  · cases h
  · exact ⟨prv_chk _ v 0 _ R w S cs h hl, wt_of_chkD h⟩
end Go.Proofs.YtpmhdcmmlkjjmaaGreatDoor
