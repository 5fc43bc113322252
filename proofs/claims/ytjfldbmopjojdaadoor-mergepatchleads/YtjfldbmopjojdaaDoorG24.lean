/- joined: DfP MrgS -/
import Derived.Test.YtjfldbmopjojdaaDoorEqlX
set_option linter.unusedSimpArgs false
set_option linter.unusedVariables false
namespace Go.Proofs.YtjfldbmopjojdaaDoor
open Go.RowKit Go.Lib
def smM (g : ByteArray → V → Nat) : List Mem → Nat
 | [] => 0
 | (k, x) :: t => g k x + smM g t
theorem sm_filt (g : ByteArray → V → Nat) (p : Mem → Bool) : ∀ m : List Mem, smM g (m.filter p) ≤ smM g m
 | [] => by simp [smM]
 | (k, x) :: t => by
  have h := sm_filt g p t
  cases hf : p (k, x) with
  | true => rw [List.filter_cons_of_pos (by rw [hf])]; simp only [smM]; omega
  | false => rw [List.filter_cons_of_neg (by rw [hf]; simp)]; simp only [smM]; omega
theorem sm_app (g : ByteArray → V → Nat) : ∀ a b : List Mem, smM g (a ++ b) = smM g a + smM g b
 | [], b => by simp [smM]
 | (k, x) :: t, b => by
  have h := sm_app g t b
  rw [List.cons_append]; simp only [smM]; omega
theorem sm_get {g : ByteArray → V → Nat} (hg : ∀ k x, smM g (memsOf x) ≤ g k x) (k : ByteArray) : ∀ o : List Mem, smM g (o.filter (fun y : Mem => ltB y.1 k)) + smM g (o.filter (fun y : Mem => ltB k y.1)) + smM g (memsOf (getR o k)) ≤ smM g o
 | [] => by simp [smM, getR, nullV, memsOf]
 | (ka, xa) :: t => by
  have ih := sm_get hg k t
  rw [getR]
  have hm := hg ka xa
  by_cases he : ka.toList = k.toList
  ·rw [if_pos he]
   have h1 : ¬ ltB ka k = true := fun h => lt_ne h he
   have h2 : ¬ ltB k ka = true := fun h => lt_ne h he.symm
   rw [List.filter_cons_of_neg (by exact h1), List.filter_cons_of_neg (by exact h2)]
   simp only [smM]
   omega
  ·rw [if_neg he]
   by_cases h1 : ltB ka k = true
   ·rw [List.filter_cons_of_pos (by exact h1), List.filter_cons_of_neg (by rw [lt_asym h1]; simp)]
    simp only [smM]
    omega
   ·rw [List.filter_cons_of_neg (by exact h1)]
    by_cases h2 : ltB k ka = true
    ·rw [List.filter_cons_of_pos (by exact h2)]
     simp only [smM]
     omega
    ·rw [List.filter_cons_of_neg (by exact h2)]
     simp only [smM]
     omega
structure Mu (μ : V → Nat) (a : ByteArray → Nat) (c : Nat) : Prop where
 m : ∀ M, μ (.mk 5 false 0 ⟨#[]⟩ [] M) = c + smM (fun k x => a k + μ x) M
 u : ∀ k b i s l m, c + smM (fun k x => a k + μ x) m ≤ μ (.mk k b i s l m)
mutual
theorem pch_mu {μ : V → Nat} {a : ByteArray → Nat} {c : Nat} (h : Mu μ a c) : ∀ (t p : V), μ (pchV t p) ≤ smM (fun k x => a k + μ x) (memsOf t) + μ p
 | t, .mk k b i s l m => by
  rw [pchV]
  split
  ·have h1 := pchM_mu h (if kindOf t = 5 then memsOf t else []) m
   have h2 : smM (fun k x => a k + μ x) (if kindOf t = 5 then memsOf t else []) ≤ smM (fun k x => a k + μ x) (memsOf t) := by split <;> simp [smM]
   have h3 := h.u k b i s l m
   rw [h.m]
   omega
  ·omega
theorem pchM_mu {μ : V → Nat} {a : ByteArray → Nat} {c : Nat} (h : Mu μ a c) : ∀ (o q : List Mem), smM (fun k x => a k + μ x) (pchM o q) ≤ smM (fun k x => a k + μ x) o + smM (fun k x => a k + μ x) q
 | o, [] => by rw [pchM]; omega
 | o, (k, x) :: q => by
  rw [pchM]
  have h0 := pchM_mu h (if kindOf x = 0 then wotR o k else witR o k (pchV (getR o k) x)) q
  have h1 := pch_mu h (getR o k) x
  have hg : ∀ (k : ByteArray) (x : V), smM (fun k x => a k + μ x) (memsOf x) ≤ a k + μ x := fun k x => by
   obtain ⟨k', b, i, s, l, m⟩ := x
   have := h.u k' b i s l m
   show smM _ m ≤ _
   omega
  have h2 : smM (fun k x => a k + μ x) (if kindOf x = 0 then wotR o k else witR o k (pchV (getR o k) x)) ≤ smM (fun k x => a k + μ x) o + (a k + μ x) := by
   split
   ·have := sm_filt (fun k x => a k + μ x) (fun y => !(y.1.toList == k.toList)) o
    rw [wotR]; omega
   ·have := sm_get hg k o
    rw [witR, sm_app, smM]
    show smM _ (o.filter (fun y : Mem => ltB y.1 k)) + (a k + μ (pchV (getR o k) x) + smM _ (o.filter (fun y : Mem => ltB k y.1))) ≤ _
    omega
  show _ ≤ _ + (a k + μ x + smM _ q)
  omega
end
theorem sm_nd : ∀ m : List Mem, smM (fun _ x => 0 + ndV x) m = ndM m
 | [] => by rw [smM, ndM]
 | (k, x) :: t => by rw [smM, ndM, sm_nd t]; omega
theorem sm_by : ∀ m : List Mem, smM (fun k x => k.size + byV x) m = keyB m + byM m
 | [] => by rw [smM, keyB, byM]
 | (k, x) :: t => by
  rw [smM, keyB, byM, sm_by t]
  show k.size + _ + _ = k.size + _ + _
  omega
theorem mu_nd : Mu ndV (fun _ => 0) 1 := ⟨fun M => by rw [ndV, ndL, sm_nd], fun k b i s l m => by rw [ndV, sm_nd]; omega⟩
theorem mu_by : Mu byV (fun k => k.size) 0 := ⟨fun M => by rw [byV, byL, sm_by]; show 0 + _ + _ + _ = _; omega, fun k b i s l m => by rw [byV, sm_by]; omega⟩
theorem dpM_filt (p : Mem → Bool) : ∀ m : List Mem, dpM (m.filter p) ≤ dpM m
 | [] => by simp [dpM]
 | (k, x) :: t => by
  have h := dpM_filt p t
  cases hf : p (k, x) with
  | true => rw [List.filter_cons_of_pos (by rw [hf])]; simp only [dpM]; omega
  | false => rw [List.filter_cons_of_neg (by rw [hf]; simp)]; simp only [dpM]; omega
theorem dpM_app : ∀ a b : List Mem, dpM (a ++ b) = max (dpM a) (dpM b)
 | [], b => by simp [dpM]
 | (k, x) :: t, b => by
  have h := dpM_app t b
  rw [List.cons_append]; simp only [dpM]; omega
theorem dpM_mems (x : V) : dpM (memsOf x) ≤ dpV x := by
 obtain ⟨k, b, i, s, l, m⟩ := x
 rw [dpV]
 show dpM m ≤ _
 omega
theorem dp_get (k : ByteArray) : ∀ o : List Mem, dpM (memsOf (getR o k)) + 1 ≤ max (dpM o) 1
 | [] => by simp [getR, nullV, memsOf, dpM]
 | (ka, xa) :: t => by
  have ih := dp_get k t
  have h := dpM_mems xa
  rw [getR, dpM]
  split
  ·simp only; omega
  ·omega
mutual
theorem pch_dp : ∀ (t p : V), dpV (pchV t p) ≤ max (dpM (memsOf t)) (dpV p)
 | t, .mk k b i s l m => by
  rw [pchV]
  split
  ·have h1 := pchM_dp (if kindOf t = 5 then memsOf t else []) m
   have h2 : dpM (if kindOf t = 5 then memsOf t else []) ≤ dpM (memsOf t) := by split <;> simp [dpM]
   rw [dpV, dpL, dpV]
   omega
  ·omega
theorem pchM_dp : ∀ (o q : List Mem), dpM (pchM o q) ≤ max (dpM o) (dpM q)
 | o, [] => by rw [pchM]; omega
 | o, (k, x) :: q => by
  rw [pchM]
  have h0 := pchM_dp (if kindOf x = 0 then wotR o k else witR o k (pchV (getR o k) x)) q
  have h1 := pch_dp (getR o k) x
  have h2 : dpM (if kindOf x = 0 then wotR o k else witR o k (pchV (getR o k) x)) ≤ max (dpM o) (dpV x + 1) := by
   split
   ·have := dpM_filt (fun y => !(y.1.toList == k.toList)) o
    rw [wotR]; omega
   ·have h3 := dpM_filt (fun y : Mem => ltB y.1 k) o
    have h4 := dpM_filt (fun y : Mem => ltB k y.1) o
    have h5 := dp_get k o
    rw [witR, dpM_app, dpM]
    show max (dpM (o.filter (fun y : Mem => ltB y.1 k))) (max (dpV (pchV (getR o k) x) + 1) (dpM (o.filter (fun y : Mem => ltB k y.1)))) ≤ _
    omega
  rw [dpM]
  omega
end
theorem chk_clean {v : V} (h : chkE v 32 = 0) : chkE (pchV nullV v) 32 = 0 := by
 have h0 := (chk_iff v 32 (by omega)).1 h
 refine (chk_iff _ 32 (by omega)).2 ⟨pch_good _ _ null_good h0.1, ?_, ?_, ?_⟩
 ·have := pch_dp nullV v
  have e : dpM (memsOf nullV) = 0 := rfl
  have := h0.2.1
  omega
 ·have := pch_mu mu_nd nullV v
  have e : smM (fun _ x => 0 + ndV x) (memsOf nullV) = 0 := rfl
  have := h0.2.2.1
  omega
 ·have := pch_mu mu_by nullV v
  have e : smM (fun k x => k.size + byV x) (memsOf nullV) = 0 := rfl
  have := h0.2.2.2
  omega
end Go.Proofs.YtjfldbmopjojdaaDoor
namespace Go.Proofs.YtjfldbmopjojdaaDoor
open Go Go.RowKit Go.Lib Go.Shelf
def mapV (ms : List Mem) : V := .mk 5 false 0 ⟨#[]⟩ [] ms
def stD (f : List Mem → List Mem → Option (List Mem)) (x : Pr) : Option (List Mem) :=
 if x.g = false then some [(x.key, nullV)]
 else if kindOf x.va = 5 ∧ kindOf x.vb = 5 then
  match f (memsOf x.va) (memsOf x.vb) with
  | none => none
  | some [] => some []
  | some (y :: t) => some [(x.key, mapV (y :: t))]
 else if x.f = true ∧ eqlV x.va x.vb = true then some []
 else if clnB x.vb = true then some [(x.key, x.vb)] else none
def stDs (f : List Mem → List Mem → Option (List Mem)) : List Pr → Option (List Mem)
 | [] => some []
 | x :: t => match stD f x with
  | none => none
  | some a => match stDs f t with
   | none => none
   | some b => some (a ++ b)
theorem stDs_snoc {f : List Mem → List Mem → Option (List Mem)} : ∀ {pre : List Pr} {ms : List Mem} {x : Pr} {a : List Mem}, stDs f pre = some ms → stD f x = some a → stDs f (pre ++ [x]) = some (ms ++ a)
 | [], ms, x, a, h, ha => by
  rw [stDs] at h
  cases h
  simp [stDs, ha]
 | y :: t, ms, x, a, h, ha => by
  rw [stDs] at h
  rw [List.cons_append, stDs]
  cases hy : stD f y with
  | none => rw [hy] at h; cases h
  | some c =>
   rw [hy] at h
   simp only at h ⊢
   cases ht : stDs f t with
   | none => rw [ht] at h; cases h
   | some d =>
    rw [ht] at h
    simp only at h
    cases h
    rw [stDs_snoc ht ha]
    simp
theorem stDs_none {f : List Mem → List Mem → Option (List Mem)} : ∀ {pre : List Pr} {x : Pr} {rest : List Pr}, stD f x = none → stDs f (pre ++ x :: rest) = none
 | [], x, rest, h => by rw [List.nil_append, stDs, h]
 | y :: t, x, rest, h => by
  rw [List.cons_append, stDs, stDs_none h]
  cases stD f y <;> rfl
theorem stD_len {f : List Mem → List Mem → Option (List Mem)} {x : Pr} {a : List Mem} (h : stD f x = some a) : a.length ≤ 1 := by
 unfold stD at h
 split at h
 ·cases h; simp
 ·split at h
  ·split at h
   ·cases h
   ·cases h; simp
   ·cases h; simp
  ·split at h
   ·cases h; simp
   ·split at h
    ·cases h; simp
    ·cases h
theorem stDs_len {f : List Mem → List Mem → Option (List Mem)} : ∀ {l : List Pr} {ms : List Mem}, stDs f l = some ms → ms.length ≤ l.length
 | [], ms, h => by rw [stDs] at h; cases h; simp
 | x :: t, ms, h => by
  rw [stDs] at h
  cases hx : stD f x with
  | none => rw [hx] at h; cases h
  | some a =>
   rw [hx] at h
   simp only at h
   cases ht : stDs f t with
   | none => rw [ht] at h; cases h
   | some b =>
    rw [ht] at h
    simp only at h
    cases h
    have := stD_len hx
    have := stDs_len ht
    rw [List.length_append, List.length_cons]
    omega
def noC (q : Mem × List Value) : Mem × List Value := (q.1, [])
def Pr.noC (x : Pr) : Pr := ⟨x.key, x.va, x.vb, [], [], x.f, x.g⟩
theorem stD_noC (f : List Mem → List Mem → Option (List Mem)) (x : Pr) : stD f x.noC = stD f x := rfl
theorem stDs_map (f : List Mem → List Mem → Option (List Mem)) : ∀ l : List Pr, stDs f (l.map Pr.noC) = stDs f l
 | [] => rfl
 | x :: t => by rw [List.map_cons, stDs, stDs, stDs_map f t, stD_noC]
theorem tg_noC : ∀ (a b : List (Mem × List Value)), (tgR a b).map Pr.noC = (tgR (a.map noC) (b.map noC)).map Pr.noC
 | [], [] => by simp [tgR]
 | y :: s, [] => by
  have ih := tg_noC s []
  rw [List.map_nil] at ih
  rw [tgR, List.map_nil, List.map_cons, List.map_cons, tgR, List.map_cons, ih]; rfl
 | [], z :: t => by
  have ih := tg_noC [] t
  rw [List.map_nil] at ih
  rw [tgR, List.map_nil, List.map_cons, List.map_cons, tgR, List.map_cons, ih]; rfl
 | y :: s, z :: t => by
  have i1 := tg_noC s (z :: t)
  have i2 := tg_noC (y :: s) t
  have i3 := tg_noC s t
  rw [List.map_cons] at i1
  rw [List.map_cons] at i2
  rw [tgR, List.map_cons, List.map_cons, tgR]
  show _ = List.map Pr.noC (if ltB y.1.1 z.1.1 = true then _ else if ltB z.1.1 y.1.1 = true then _ else _)
  by_cases h1 : ltB y.1.1 z.1.1 = true
  ·rw [if_pos h1, if_pos h1, List.map_cons, List.map_cons, i1]; rfl
  ·rw [if_neg h1, if_neg h1]
   by_cases h2 : ltB z.1.1 y.1.1 = true
   ·rw [if_pos h2, if_pos h2, List.map_cons, List.map_cons, i2]; rfl
   ·rw [if_neg h2, if_neg h2, List.map_cons, List.map_cons, i3]; rfl
termination_by a b => a.length + b.length
def bare (m : List Mem) : List (Mem × List Value) := m.map (fun y => (y, []))
theorem noC_bare (q : List (Mem × List Value)) : q.map noC = bare (q.map (fun z => z.1)) := by
 rw [bare, List.map_map]; rfl
def btwM : Nat → List Mem → List Mem → Option (List Mem)
 | 0, _, _ => none
 | n + 1, a, b => stDs (btwM n) (tgR (bare a) (bare b))
theorem btwM_tg (n : Nat) (qa qb : List (Mem × List Value)) : btwM (n + 1) (qa.map (fun z => z.1)) (qb.map (fun z => z.1)) = stDs (btwM n) (tgR qa qb) := by
 rw [btwM, ← noC_bare, ← noC_bare, ← stDs_map, ← tg_noC, stDs_map]
def btwV (n : Nat) (a b : V) : Option V :=
 if kindOf a = 5 ∧ kindOf b = 5 then (btwM n (memsOf a) (memsOf b)).map mapV
 else if kindOf b = 0 then some b
 else if clnB b = true then some b else none
end Go.Proofs.YtjfldbmopjojdaaDoor
