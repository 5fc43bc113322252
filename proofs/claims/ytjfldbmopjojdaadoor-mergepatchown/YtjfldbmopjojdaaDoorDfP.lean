import Derived.Test.YtjfldbmopjojdaaDoorEqlX
set_option linter.unusedSimpArgs false
set_option linter.unusedVariables false
namespace Go.Proofs.YtjfldbmopjojdaaDoor
open Go Go.RowKit Go.Lib Go.Shelf
def mapV (ms : List Mem) : V := .mk 5 false 0 ⟨#[]⟩ [] ms
def stD (f : List Mem → List Mem → Option (List Mem)) (x : Pr) : Option (List Mem) :=
 if x.g = false then some [(x.key, nullV)]
 else if kindOf x.va = 5 ∧ kindOf x.vb = 5 then
  match f (memsOf x.va) (memsOf x.vb) with
  | none => none
  | some [] => some []
  | some (y :: t) => some [(x.key, mapV (y :: t))]
 else if x.f = true ∧ eqlV x.va x.vb = true then some []
 else if clnB x.vb = true then some [(x.key, x.vb)] else none
def stDs (f : List Mem → List Mem → Option (List Mem)) : List Pr → Option (List Mem)
 | [] => some []
 | x :: t => match stD f x with
  | none => none
  | some a => match stDs f t with
   | none => none
   | some b => some (a ++ b)
theorem stDs_snoc {f : List Mem → List Mem → Option (List Mem)} : ∀ {pre : List Pr} {ms : List Mem} {x : Pr} {a : List Mem}, stDs f pre = some ms → stD f x = some a → stDs f (pre ++ [x]) = some (ms ++ a)
 | [], ms, x, a, h, ha => by
  rw [stDs] at h
  cases h
  simp [stDs, ha]
 | y :: t, ms, x, a, h, ha => by
  rw [stDs] at h
  rw [List.cons_append, stDs]
  cases hy : stD f y with
  | none => rw [hy] at h; cases h
  | some c =>
   rw [hy] at h
   simp only at h ⊢
   cases ht : stDs f t with
   | none => rw [ht] at h; cases h
   | some d =>
    rw [ht] at h
    simp only at h
    cases h
    rw [stDs_snoc ht ha]
    simp
theorem stDs_none {f : List Mem → List Mem → Option (List Mem)} : ∀ {pre : List Pr} {x : Pr} {rest : List Pr}, stD f x = none → stDs f (pre ++ x :: rest) = none
 | [], x, rest, h => by rw [List.nil_append, stDs, h]
 | y :: t, x, rest, h => by
  rw [List.cons_append, stDs, stDs_none h]
  cases stD f y <;> rfl
theorem stD_len {f : List Mem → List Mem → Option (List Mem)} {x : Pr} {a : List Mem} (h : stD f x = some a) : a.length ≤ 1 := by
 unfold stD at h
 split at h
 ·cases h; simp
 ·split at h
  ·split at h
   ·cases h
   ·cases h; simp
   ·cases h; simp
  ·split at h
   ·cases h; simp
   ·split at h
    ·cases h; simp
    ·cases h
theorem stDs_len {f : List Mem → List Mem → Option (List Mem)} : ∀ {l : List Pr} {ms : List Mem}, stDs f l = some ms → ms.length ≤ l.length
 | [], ms, h => by rw [stDs] at h; cases h; simp
 | x :: t, ms, h => by
  rw [stDs] at h
  cases hx : stD f x with
  | none => rw [hx] at h; cases h
  | some a =>
   rw [hx] at h
   simp only at h
   cases ht : stDs f t with
   | none => rw [ht] at h; cases h
   | some b =>
    rw [ht] at h
    simp only at h
    cases h
    have := stD_len hx
    have := stDs_len ht
    rw [List.length_append, List.length_cons]
    omega
def noC (q : Mem × List Value) : Mem × List Value := (q.1, [])
def Pr.noC (x : Pr) : Pr := ⟨x.key, x.va, x.vb, [], [], x.f, x.g⟩
theorem stD_noC (f : List Mem → List Mem → Option (List Mem)) (x : Pr) : stD f x.noC = stD f x := rfl
theorem stDs_map (f : List Mem → List Mem → Option (List Mem)) : ∀ l : List Pr, stDs f (l.map Pr.noC) = stDs f l
 | [] => rfl
 | x :: t => by rw [List.map_cons, stDs, stDs, stDs_map f t, stD_noC]
theorem tg_noC : ∀ (a b : List (Mem × List Value)), (tgR a b).map Pr.noC = (tgR (a.map noC) (b.map noC)).map Pr.noC
 | [], [] => by simp [tgR]
 | y :: s, [] => by
  have ih := tg_noC s []
  rw [List.map_nil] at ih
  rw [tgR, List.map_nil, List.map_cons, List.map_cons, tgR, List.map_cons, ih]; rfl
 | [], z :: t => by
  have ih := tg_noC [] t
  rw [List.map_nil] at ih
  rw [tgR, List.map_nil, List.map_cons, List.map_cons, tgR, List.map_cons, ih]; rfl
 | y :: s, z :: t => by
  have i1 := tg_noC s (z :: t)
  have i2 := tg_noC (y :: s) t
  have i3 := tg_noC s t
  rw [List.map_cons] at i1
  rw [List.map_cons] at i2
  rw [tgR, List.map_cons, List.map_cons, tgR]
  show _ = List.map Pr.noC (if ltB y.1.1 z.1.1 = true then _ else if ltB z.1.1 y.1.1 = true then _ else _)
  by_cases h1 : ltB y.1.1 z.1.1 = true
  ·rw [if_pos h1, if_pos h1, List.map_cons, List.map_cons, i1]; rfl
  ·rw [if_neg h1, if_neg h1]
   by_cases h2 : ltB z.1.1 y.1.1 = true
   ·rw [if_pos h2, if_pos h2, List.map_cons, List.map_cons, i2]; rfl
   ·rw [if_neg h2, if_neg h2, List.map_cons, List.map_cons, i3]; rfl
termination_by a b => a.length + b.length
def bare (m : List Mem) : List (Mem × List Value) := m.map (fun y => (y, []))
theorem noC_bare (q : List (Mem × List Value)) : q.map noC = bare (q.map (fun z => z.1)) := by
 rw [bare, List.map_map]; rfl
def btwM : Nat → List Mem → List Mem → Option (List Mem)
 | 0, _, _ => none
 | n + 1, a, b => stDs (btwM n) (tgR (bare a) (bare b))
theorem btwM_tg (n : Nat) (qa qb : List (Mem × List Value)) : btwM (n + 1) (qa.map (fun z => z.1)) (qb.map (fun z => z.1)) = stDs (btwM n) (tgR qa qb) := by
 rw [btwM, ← noC_bare, ← noC_bare, ← stDs_map, ← tg_noC, stDs_map]
def btwV (n : Nat) (a b : V) : Option V :=
 if kindOf a = 5 ∧ kindOf b = 5 then (btwM n (memsOf a) (memsOf b)).map mapV
 else if kindOf b = 0 then some b
 else if clnB b = true then some b else none
end Go.Proofs.YtjfldbmopjojdaaDoor
