/- joined: DptA OrdP ShlC -/
import Derived.Test.YthgfomblodhoaaaDoorG5
import Derived.Lib.Bytealg
import Derived.Shelf.Small.Strs
/- The depth of a value: what the walk counted, and the document's depth. -/
set_option linter.unusedSimpArgs false
set_option linter.unusedVariables false
namespace Go.Proofs.YthgfomblodhoaaaDoor
open Go.RowKit Go.Lib
mutual
def dptV : V → Nat
  | .mk _ _ _ _ l m => max (dptL l) (dptM m)
def dptL : List V → Nat
  | [] => 0
  | x :: t => max (dptV x + 1) (dptL t)
def dptM : List Mem → Nat
  | [] => 0
  | (_, x) :: t => max (dptV x + 1) (dptM t)
end
theorem entF_eq {D n y d lv : Nat} {g : Bool} {z : Nat} (h : (entF D n y d lv g z).1 = 0) : (entF D n y d lv g z).2 = (n + 1, y + z, max d lv) := by
  unfold entF at *
  split at h
  · simp at h
  split at h
  · simp at h
  split at h
  · simp at h
  split at h
  · simp at h
  · rename_i h1 h2 h3 h4
    rw [if_neg h1, if_neg h2, if_neg h3, if_neg h4]
mutual
theorem chkV_dpt (D : Nat) : ∀ (v : V) (lv : Nat) (st : St), (chkV D v lv st).1 = 0 → (chkV D v lv st).2.2.2 = max st.2.2 (lv + dptV v)
  | .mk k b i s l m, lv, st, h => by
    rw [chkV] at h ⊢
    by_cases h1 : (entF D st.1 st.2.1 st.2.2 lv (goodB k b i s l.length m) (s.size + keyB m)).1 = 0
    · have b1 := entF_eq h1
      simp only [h1, if_true] at h ⊢
      generalize (entF D st.1 st.2.1 st.2.2 lv (goodB k b i s l.length m) (s.size + keyB m)).2 = q at *
      subst b1
      by_cases h2 : (chkL D l (lv + 1) (st.1 + 1, st.2.1 + (s.size + keyB m), max st.2.2 lv)).1 = 0
      · simp only [h2, if_true] at h ⊢
        have e1 := chkL_dpt D l lv _ h2 (by show lv ≤ max st.2.2 lv; omega)
        have e2 := chkM_dpt D m lv _ h (by rw [e1]; show lv ≤ _; simp only; omega)
        rw [e2, e1, dptV]; simp only; omega
      · simp only [h2, if_false] at h
    · simp only [h1, if_false] at h
theorem chkL_dpt (D : Nat) : ∀ (l : List V) (lv : Nat) (st : St), (chkL D l (lv + 1) st).1 = 0 → lv ≤ st.2.2 → (chkL D l (lv + 1) st).2.2.2 = max st.2.2 (lv + dptL l)
  | [], lv, st, h, hs => by rw [chkL, dptL]; simp only; omega
  | x :: t, lv, st, h, hs => by
    rw [chkL] at h ⊢
    by_cases h1 : (chkV D x (lv + 1) st).1 = 0
    · rw [if_pos h1] at h ⊢
      have e1 := chkV_dpt D x (lv + 1) st h1
      rw [chkL_dpt D t lv _ h (by rw [e1]; omega), e1, dptL]; omega
    · rw [if_neg h1] at h
      exact absurd h h1
theorem chkM_dpt (D : Nat) : ∀ (l : List Mem) (lv : Nat) (st : St), (chkM D l (lv + 1) st).1 = 0 → lv ≤ st.2.2 → (chkM D l (lv + 1) st).2.2.2 = max st.2.2 (lv + dptM l)
  | [], lv, st, h, hs => by rw [chkM, dptM]; simp only; omega
  | (_, x) :: t, lv, st, h, hs => by
    rw [chkM] at h ⊢
    by_cases h1 : (chkV D x (lv + 1) st).1 = 0
    · rw [if_pos h1] at h ⊢
      have e1 := chkV_dpt D x (lv + 1) st h1
      rw [chkM_dpt D t lv _ h (by rw [e1]; omega), e1, dptM]; omega
    · rw [if_neg h1] at h
      exact absurd h h1
end
end Go.Proofs.YthgfomblodhoaaaDoor
/- The order of values, and the document's, as plain functions. -/
namespace Go.Proofs.YthgfomblodhoaaaDoor
open Go.RowKit Go.Lib
def cmpI (a b : Int) : Int := if a < b then -1 else if b < a then 1 else 0
def cmpS (a b : ByteArray) : Int := Lib.compareBytes a.data.toList b.data.toList
def cmpB (a b : Bool) : Int := if a = b then 0 else if b = true then -1 else 1
mutual
def ordV : V → V → Int
  | .mk k b i s l m, .mk k' b' i' s' l' m' =>
    if k = k' then
      if k = 1 then cmpB b b' else if k = 2 then cmpI i i' else if k = 3 then cmpS s s' else if k = 4 then ordL l l' else if k = 5 then ordM m m' else 0
    else cmpI k k'
def ordL : List V → List V → Int
  | [], [] => 0
  | [], _ :: _ => -1
  | _ :: _, [] => 1
  | x :: t, y :: u => if ordV x y = 0 then ordL t u else ordV x y
def ordM : List Mem → List Mem → Int
  | [], [] => 0
  | [], _ :: _ => -1
  | _ :: _, [] => 1
  | (k, x) :: t, (k', y) :: u => if k.toList = k'.toList then (if ordV x y = 0 then ordM t u else ordV x y) else if cmpS k k' = 0 then ordM t u else cmpS k k'
end
def JPost (r : Int) (w : World) (e : Ending) (w' : World) : Prop := e = .returned (.int .i64 r) ∧ Below w.heap.size w w'
/-- one member against another -/
def ordE (p q : Mem) : Int := if p.1.toList = q.1.toList then ordV p.2 q.2 else cmpS p.1 q.1
theorem ordM_cons (p q : Mem) (t u : List Mem) : ordM (p :: t) (q :: u) = if ordE p q = 0 then ordM t u else ordE p q := by
  obtain ⟨k, x⟩ := p
  obtain ⟨k', y⟩ := q
  rw [ordM, ordE]
  split <;> rfl
theorem ordL_drop {l l' : List V} {j : Nat} (h : j < l.length) (h' : j < l'.length) : ordL (l.drop j) (l'.drop j) = if ordV l[j] l'[j] = 0 then ordL (l.drop (j + 1)) (l'.drop (j + 1)) else ordV l[j] l'[j] := by
  rw [List.drop_eq_getElem_cons h, List.drop_eq_getElem_cons h', ordL]
theorem ordL_long {l l' : List V} {j : Nat} (h : j < l.length) (h' : l'.length ≤ j) : ordL (l.drop j) (l'.drop j) = 1 := by
  rw [List.drop_eq_getElem_cons h, List.drop_eq_nil_of_le h', ordL]
theorem ordL_end {l l' : List V} (h : l.length ≤ l'.length) : ordL (l.drop l.length) (l'.drop l.length) = if l.length < l'.length then -1 else 0 := by
  rw [List.drop_length]
  by_cases hl : l.length < l'.length
  · rw [List.drop_eq_getElem_cons hl, ordL, if_pos hl]
  · rw [List.drop_eq_nil_of_le (by omega), ordL, if_neg hl]
theorem ordM_drop {l l' : List Mem} {j : Nat} (h : j < l.length) (h' : j < l'.length) : ordM (l.drop j) (l'.drop j) = if ordE l[j] l'[j] = 0 then ordM (l.drop (j + 1)) (l'.drop (j + 1)) else ordE l[j] l'[j] := by
  rw [List.drop_eq_getElem_cons h, List.drop_eq_getElem_cons h', ordM_cons]
theorem ordM_long {l l' : List Mem} {j : Nat} (h : j < l.length) (h' : l'.length ≤ j) : ordM (l.drop j) (l'.drop j) = 1 := by
  rw [List.drop_eq_getElem_cons h, List.drop_eq_nil_of_le h']
  cases l[j]; rw [ordM]
theorem ordM_end {l l' : List Mem} (h : l.length ≤ l'.length) : ordM (l.drop l.length) (l'.drop l.length) = if l.length < l'.length then -1 else 0 := by
  rw [List.drop_length]
  by_cases hl : l.length < l'.length
  · rw [List.drop_eq_getElem_cons hl, ordM, if_pos hl]
  · rw [List.drop_eq_nil_of_le (by omega), ordM, if_neg hl]
theorem cmp_one (a b : List UInt8) : compareBytes a b = -1 ∨ compareBytes a b = 0 ∨ compareBytes a b = 1 := by
  induction a generalizing b with
  | nil => cases b <;> simp [compareBytes]
  | cons x t ih =>
    cases b with
    | nil => simp [compareBytes]
    | cons y u =>
      rw [compareBytes]
      split
      · simp
      · split
        · simp
        · exact ih u
end Go.Proofs.YthgfomblodhoaaaDoor
/- strings.Compare by its contract, laid at this program; cmp.Compare of integers, the order of bools. -/
namespace Go.Proofs
open Go.Shelf Go.RowKit
def Tryd.lays106_ren : Go.Shelf.Ren := ⟨fun | 106 => 34 | 213 => 49 | 265 => 71 | n => n, fun | 3 => 3 | 9 => 9 | n => n, fun | n => n⟩
theorem Tryd.lays106 : Go.Proofs.Lays.n106 Tryd.prog Tryd.lays106_ren := {
  mixed := by kernel_rfl
  f106 := Tryd.func34.trans (congrArg some (by kernel_rfl))
  f213 := Tryd.func49.trans (congrArg some (by kernel_rfl))
  f265 := Tryd.func71.trans (congrArg some (by kernel_rfl))
  t3 := Tryd.underlying3
  a3 := Tryd.isAgg3
  z3 := Tryd.sizeOf3
  v3 := Tryd.zeroValue3
  t9 := Tryd.underlying9
  a9 := Tryd.isAgg9
  z9 := Tryd.sizeOf9
  v9 := Tryd.zeroValue9 }
namespace YthgfomblodhoaaaDoor
open Go.Lib
theorem scompare_any (a b : ByteArray) (w : World) : Calls Tryd.prog 34 #[.string a, .string b] w (JPost (cmpS a b) w) :=
  (Any.strings_Compare Tryd.lays106 a b w).mono fun e w' h => ⟨h.1, by rw [h.2]; exact Below.refl _ _⟩
theorem isnan_any (a : Int) (w : World) : Calls Tryd.prog 75 #[.int .i64 a] w (BPost false w) := by
  go_enter Tryd.func75, Tryd.ntmps75
  go_wp2_with fail
  go_ret
  exact ⟨by simp, Below.refl _ _⟩
theorem icompare_any (a b : Int) (w : World) : Calls Tryd.prog 56 #[.int .i64 a, .int .i64 b] w (JPost (cmpI a b) w) := by
  go_enter Tryd.func56, Tryd.ntmps56
  go_wp2_with fail
  refine (isnan_any a w).mono ?_
  rintro e w1 ⟨rfl, b1⟩
  go_wp2_with fail
  refine (isnan_any b w1).mono ?_
  rintro e w2 ⟨rfl, b2⟩
  have B2 := b1.trans (b2.mono b1.size)
  by_cases h1 : a < b
  · have HF : Hid (cmpI a b = -1) := by show _ = _; simp [cmpI, h1]
    go_wp2_with fail
    go_ret
    rw [HF.out]
    exact ⟨rfl, B2⟩
  · by_cases h2 : b < a
    · have HF : Hid (cmpI a b = 1) := by show _ = _; simp [cmpI, h1, h2]
      have y2 : a > b := h2
      go_wp2_with fail
      go_ret
      rw [HF.out]
      exact ⟨rfl, B2⟩
    · have HF : Hid (cmpI a b = 0) := by show _ = _; simp [cmpI, h1, h2]
      have y2 : ¬ a > b := h2
      go_wp2_with fail
      go_ret
      rw [HF.out]
      exact ⟨rfl, B2⟩
theorem bcompare_any (a b : Bool) (w : World) : Calls Tryd.prog 57 #[.bool a, .bool b] w (JPost (cmpB a b) w) := by
  cases a <;> cases b
  all_goals
    go_enter Tryd.func57, Tryd.ntmps57
    go_wp2_with fail
    go_ret
    exact ⟨rfl, Below.refl _ _⟩
end YthgfomblodhoaaaDoor
end Go.Proofs
