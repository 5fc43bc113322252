import Derived.Test.YtljgofmmihmmfabDoorDptA
import Derived.Lib.Bytealg
/- The order of values, and the document's, as plain functions. -/
set_option linter.unusedSimpArgs false
set_option linter.unusedVariables false
namespace Go.Proofs.YtljgofmmihmmfabDoor
open Go.RowKit Go.Lib

def cmpI (a b : Int) : Int := if a < b then -1 else if b < a then 1 else 0
def cmpS (a b : ByteArray) : Int := Lib.compareBytes a.data.toList b.data.toList
def cmpB (a b : Bool) : Int := if a = b then 0 else if b = true then -1 else 1
mutual
def ordV : V → V → Int
  | .mk k b i s l m, .mk k' b' i' s' l' m' =>
    if k = k' then
      if k = 1 then cmpB b b' else if k = 2 then cmpI i i' else if k = 3 then cmpS s s' else if k = 4 then ordL l l' else if k = 5 then ordM m m' else 0
    else cmpI k k'
def ordL : List V → List V → Int
  | [], [] => 0
  | [], _ :: _ => -1
  | _ :: _, [] => 1
  | x :: t, y :: u => if ordV x y = 0 then ordL t u else ordV x y
def ordM : List Mem → List Mem → Int
  | [], [] => 0
  | [], _ :: _ => -1
  | _ :: _, [] => 1
  | (k, x) :: t, (k', y) :: u => if k.toList = k'.toList then (if ordV x y = 0 then ordM t u else ordV x y) else if cmpS k k' = 0 then ordM t u else cmpS k k'
end

def JPost (r : Int) (w : World) (e : Ending) (w' : World) : Prop := e = .returned (.int .i64 r) ∧ Below w.heap.size w w'

/-- one member against another -/
def ordE (p q : Mem) : Int := if p.1.toList = q.1.toList then ordV p.2 q.2 else cmpS p.1 q.1
theorem ordM_cons (p q : Mem) (t u : List Mem) : ordM (p :: t) (q :: u) = if ordE p q = 0 then ordM t u else ordE p q := by
  obtain ⟨k, x⟩ := p
  obtain ⟨k', y⟩ := q
  rw [ordM, ordE]
  split <;> rfl

theorem ordL_drop {l l' : List V} {j : Nat} (h : j < l.length) (h' : j < l'.length) : ordL (l.drop j) (l'.drop j) = if ordV l[j] l'[j] = 0 then ordL (l.drop (j + 1)) (l'.drop (j + 1)) else ordV l[j] l'[j] := by
  rw [List.drop_eq_getElem_cons h, List.drop_eq_getElem_cons h', ordL]
theorem ordL_long {l l' : List V} {j : Nat} (h : j < l.length) (h' : l'.length ≤ j) : ordL (l.drop j) (l'.drop j) = 1 := by
  rw [List.drop_eq_getElem_cons h, List.drop_eq_nil_of_le h', ordL]
theorem ordL_end {l l' : List V} (h : l.length ≤ l'.length) : ordL (l.drop l.length) (l'.drop l.length) = if l.length < l'.length then -1 else 0 := by
  rw [List.drop_length]
  by_cases hl : l.length < l'.length
  · rw [List.drop_eq_getElem_cons hl, ordL, if_pos hl]
  · rw [List.drop_eq_nil_of_le (by omega), ordL, if_neg hl]
theorem ordM_drop {l l' : List Mem} {j : Nat} (h : j < l.length) (h' : j < l'.length) : ordM (l.drop j) (l'.drop j) = if ordE l[j] l'[j] = 0 then ordM (l.drop (j + 1)) (l'.drop (j + 1)) else ordE l[j] l'[j] := by
  rw [List.drop_eq_getElem_cons h, List.drop_eq_getElem_cons h', ordM_cons]
theorem ordM_long {l l' : List Mem} {j : Nat} (h : j < l.length) (h' : l'.length ≤ j) : ordM (l.drop j) (l'.drop j) = 1 := by
  rw [List.drop_eq_getElem_cons h, List.drop_eq_nil_of_le h']
  cases l[j]; rw [ordM]
theorem ordM_end {l l' : List Mem} (h : l.length ≤ l'.length) : ordM (l.drop l.length) (l'.drop l.length) = if l.length < l'.length then -1 else 0 := by
  rw [List.drop_length]
  by_cases hl : l.length < l'.length
  · rw [List.drop_eq_getElem_cons hl, ordM, if_pos hl]
  · rw [List.drop_eq_nil_of_le (by omega), ordM, if_neg hl]

theorem cmp_one (a b : List UInt8) : compareBytes a b = -1 ∨ compareBytes a b = 0 ∨ compareBytes a b = 1 := by
  induction a generalizing b with
  | nil => cases b <;> simp [compareBytes]
  | cons x t ih =>
    cases b with
    | nil => simp [compareBytes]
    | cons y u =>
      rw [compareBytes]
      split
      · simp
      · split
        · simp
        · exact ih u
end Go.Proofs.YtljgofmmihmmfabDoor
