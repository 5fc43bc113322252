/- joined: DfP DifP TwcP TwcQ -/
import Derived.Test.YtjfldbmopjojdabDoorEqlX
set_option linter.unusedSimpArgs false
set_option linter.unusedVariables false
namespace Go.Proofs.YtjfldbmopjojdabDoor
open Go Go.RowKit Go.Lib Go.Shelf
def mapV (ms : List Mem) : V := .mk 5 false 0 ⟨#[]⟩ [] ms
def stD (f : List Mem → List Mem → Option (List Mem)) (x : Pr) : Option (List Mem) :=
 if x.g = false then some [(x.key, nullV)]
 else if kindOf x.va = 5 ∧ kindOf x.vb = 5 then
  match f (memsOf x.va) (memsOf x.vb) with
  | none => none
  | some [] => some []
  | some (y :: t) => some [(x.key, mapV (y :: t))]
 else if x.f = true ∧ eqlV x.va x.vb = true then some []
 else if clnB x.vb = true then some [(x.key, x.vb)] else none
def stDs (f : List Mem → List Mem → Option (List Mem)) : List Pr → Option (List Mem)
 | [] => some []
 | x :: t => match stD f x with
  | none => none
  | some a => match stDs f t with
   | none => none
   | some b => some (a ++ b)
theorem stDs_snoc {f : List Mem → List Mem → Option (List Mem)} : ∀ {pre : List Pr} {ms : List Mem} {x : Pr} {a : List Mem}, stDs f pre = some ms → stD f x = some a → stDs f (pre ++ [x]) = some (ms ++ a)
 | [], ms, x, a, h, ha => by
  rw [stDs] at h
  cases h
  simp [stDs, ha]
 | y :: t, ms, x, a, h, ha => by
  rw [stDs] at h
  rw [List.cons_append, stDs]
  cases hy : stD f y with
  | none => rw [hy] at h; cases h
  | some c =>
   rw [hy] at h
   simp only at h ⊢
   cases ht : stDs f t with
   | none => rw [ht] at h; cases h
   | some d =>
    rw [ht] at h
    simp only at h
    cases h
    rw [stDs_snoc ht ha]
    simp
theorem stDs_none {f : List Mem → List Mem → Option (List Mem)} : ∀ {pre : List Pr} {x : Pr} {rest : List Pr}, stD f x = none → stDs f (pre ++ x :: rest) = none
 | [], x, rest, h => by rw [List.nil_append, stDs, h]
 | y :: t, x, rest, h => by
  rw [List.cons_append, stDs, stDs_none h]
  cases stD f y <;> rfl
theorem stD_len {f : List Mem → List Mem → Option (List Mem)} {x : Pr} {a : List Mem} (h : stD f x = some a) : a.length ≤ 1 := by
 unfold stD at h
 split at h
 ·cases h; simp
 ·split at h
  ·split at h
   ·cases h
   ·cases h; simp
   ·cases h; simp
  ·split at h
   ·cases h; simp
   ·split at h
    ·cases h; simp
    ·cases h
theorem stDs_len {f : List Mem → List Mem → Option (List Mem)} : ∀ {l : List Pr} {ms : List Mem}, stDs f l = some ms → ms.length ≤ l.length
 | [], ms, h => by rw [stDs] at h; cases h; simp
 | x :: t, ms, h => by
  rw [stDs] at h
  cases hx : stD f x with
  | none => rw [hx] at h; cases h
  | some a =>
   rw [hx] at h
   simp only at h
   cases ht : stDs f t with
   | none => rw [ht] at h; cases h
   | some b =>
    rw [ht] at h
    simp only at h
    cases h
    have := stD_len hx
    have := stDs_len ht
    rw [List.length_append, List.length_cons]
    omega
def noC (q : Mem × List Value) : Mem × List Value := (q.1, [])
def Pr.noC (x : Pr) : Pr := ⟨x.key, x.va, x.vb, [], [], x.f, x.g⟩
theorem stD_noC (f : List Mem → List Mem → Option (List Mem)) (x : Pr) : stD f x.noC = stD f x := rfl
theorem stDs_map (f : List Mem → List Mem → Option (List Mem)) : ∀ l : List Pr, stDs f (l.map Pr.noC) = stDs f l
 | [] => rfl
 | x :: t => by rw [List.map_cons, stDs, stDs, stDs_map f t, stD_noC]
theorem tg_noC : ∀ (a b : List (Mem × List Value)), (tgR a b).map Pr.noC = (tgR (a.map noC) (b.map noC)).map Pr.noC
 | [], [] => by simp [tgR]
 | y :: s, [] => by
  have ih := tg_noC s []
  rw [List.map_nil] at ih
  rw [tgR, List.map_nil, List.map_cons, List.map_cons, tgR, List.map_cons, ih]; rfl
 | [], z :: t => by
  have ih := tg_noC [] t
  rw [List.map_nil] at ih
  rw [tgR, List.map_nil, List.map_cons, List.map_cons, tgR, List.map_cons, ih]; rfl
 | y :: s, z :: t => by
  have i1 := tg_noC s (z :: t)
  have i2 := tg_noC (y :: s) t
  have i3 := tg_noC s t
  rw [List.map_cons] at i1
  rw [List.map_cons] at i2
  rw [tgR, List.map_cons, List.map_cons, tgR]
  show _ = List.map Pr.noC (if ltB y.1.1 z.1.1 = true then _ else if ltB z.1.1 y.1.1 = true then _ else _)
  by_cases h1 : ltB y.1.1 z.1.1 = true
  ·rw [if_pos h1, if_pos h1, List.map_cons, List.map_cons, i1]; rfl
  ·rw [if_neg h1, if_neg h1]
   by_cases h2 : ltB z.1.1 y.1.1 = true
   ·rw [if_pos h2, if_pos h2, List.map_cons, List.map_cons, i2]; rfl
   ·rw [if_neg h2, if_neg h2, List.map_cons, List.map_cons, i3]; rfl
termination_by a b => a.length + b.length
def bare (m : List Mem) : List (Mem × List Value) := m.map (fun y => (y, []))
theorem noC_bare (q : List (Mem × List Value)) : q.map noC = bare (q.map (fun z => z.1)) := by
 rw [bare, List.map_map]; rfl
def btwM : Nat → List Mem → List Mem → Option (List Mem)
 | 0, _, _ => none
 | n + 1, a, b => stDs (btwM n) (tgR (bare a) (bare b))
theorem btwM_tg (n : Nat) (qa qb : List (Mem × List Value)) : btwM (n + 1) (qa.map (fun z => z.1)) (qb.map (fun z => z.1)) = stDs (btwM n) (tgR qa qb) := by
 rw [btwM, ← noC_bare, ← noC_bare, ← stDs_map, ← tg_noC, stDs_map]
def btwV (n : Nat) (a b : V) : Option V :=
 if kindOf a = 5 ∧ kindOf b = 5 then (btwM n (memsOf a) (memsOf b)).map mapV
 else if kindOf b = 0 then some b
 else if clnB b = true then some b else none
end Go.Proofs.YtjfldbmopjojdabDoor
namespace Go.Proofs.YtjfldbmopjojdabDoor
open Go Go.RowKit Go.Lib Go.Shelf
def dffF (a b : V) : V × Bool × Int :=
 if bothE a b = 0 then
  match btwV 41 a b with
  | none => (nullV, false, 0)
  | some d => ((finF d).1, ((finF d).2 == 0), (finF d).2)
 else (nullV, false, (bothE a b : Int))
def DgPost (r : V × Bool × Int) (w : World) (e : Ending) (w' : World) : Prop := ∃ cs : List Value, e = .returned (.tuple #[.agg cs.toArray, .bool r.2.1, .int .i64 r.2.2]) ∧ r.1.lies false w' (New w w') cs ∧ Below w.heap.size w w'
theorem nullV_wt : nullV.wt = 1 := by rw [nullV, V.wt, wtL, wtM]; rfl
theorem mapV_wt (m : List Mem) : (mapV m).wt = 1 + wtM m := by rw [mapV, V.wt, wtL]; show 1 + 0 + 0 + _ = _; omega
def prW (x : Pr) : Nat := x.key.size + (if x.f = true then x.va.wt else 0) + (if x.g = true then x.vb.wt else 0)
def prsW : List Pr → Nat
 | [] => 0
 | x :: t => prW x + prsW t
theorem stD_wt {f : List Mem → List Mem → Option (List Mem)} (hf : ∀ a b ms, f a b = some ms → wtM ms ≤ wtM a + wtM b) {x : Pr} (hx : x.f = true ∨ (x.g = true ∧ x.va = nullV)) {r : List Mem} (h : stD f x = some r) : wtM r ≤ prW x := by
 unfold prW
 unfold stD at h
 by_cases hg : x.g = false
 ·rw [if_pos hg] at h
  cases h
  have hf1 : x.f = true := by rcases hx with h | h; exact h; rw [hg] at h; cases h.1
  rw [wtM, wtM, nullV_wt, if_pos hf1]
  have := V.wt_pos x.va
  show x.key.size + 1 + 0 ≤ _
  omega
 ·have hg1 : x.g = true := by simpa using hg
  rw [if_neg hg] at h
  rw [if_pos hg1]
  by_cases hk : kindOf x.va = 5 ∧ kindOf x.vb = 5
  ·rw [if_pos hk] at h
   have hf1 : x.f = true := by
    rcases hx with h | h
    ·exact h
    ·rw [h.2] at hk; exact absurd hk.1 (by decide)
   rw [if_pos hf1]
   cases hr : f (memsOf x.va) (memsOf x.vb) with
   | none => rw [hr] at h; cases h
   | some l =>
    rw [hr] at h
    have h1 := hf _ _ _ hr
    have h2 := mems_wt x.va
    have h3 := mems_wt x.vb
    cases l with
    | nil => cases h; rw [wtM]; omega
    | cons y t => cases h; rw [wtM, wtM, mapV_wt]; show x.key.size + _ + 0 ≤ _; omega
  ·rw [if_neg hk] at h
   by_cases he : x.f = true ∧ eqlV x.va x.vb = true
   ·rw [if_pos he] at h; cases h; rw [wtM]; omega
   ·rw [if_neg he] at h
    by_cases hc : clnB x.vb = true
    ·rw [if_pos hc] at h; cases h; rw [wtM, wtM]; show x.key.size + _ + 0 ≤ _; omega
    ·rw [if_neg hc] at h; cases h
theorem stDs_wt {f : List Mem → List Mem → Option (List Mem)} (hf : ∀ a b ms, f a b = some ms → wtM ms ≤ wtM a + wtM b) : ∀ {l : List Pr} {ms : List Mem}, (∀ x ∈ l, x.f = true ∨ (x.g = true ∧ x.va = nullV)) → stDs f l = some ms → wtM ms ≤ prsW l
 | [], ms, _, h => by rw [stDs] at h; cases h; rw [wtM, prsW]; omega
 | x :: t, ms, hl, h => by
  rw [stDs] at h
  cases hx : stD f x with
  | none => rw [hx] at h; cases h
  | some a =>
   rw [hx] at h
   simp only at h
   cases ht : stDs f t with
   | none => rw [ht] at h; cases h
   | some b =>
    rw [ht] at h
    simp only at h
    cases h
    have h1 := stD_wt hf (hl x (List.mem_cons_self ..)) hx
    have h2 := stDs_wt hf (fun y hy => hl y (List.mem_cons_of_mem _ hy)) ht
    rw [wtM_apq, prsW]
    omega
theorem tg_flags : ∀ (a b : List (Mem × List Value)), ∀ x ∈ tgR a b, x.f = true ∨ (x.g = true ∧ x.va = nullV)
 | [], [], x, hx => by rw [tgR] at hx; cases hx
 | y :: s, [], x, hx => by
  rw [tgR] at hx
  rcases List.mem_cons.1 hx with rfl | hx
  ·exact .inl rfl
  ·exact tg_flags s [] x hx
 | [], z :: t, x, hx => by
  rw [tgR] at hx
  rcases List.mem_cons.1 hx with rfl | hx
  ·exact .inr ⟨rfl, rfl⟩
  ·exact tg_flags [] t x hx
 | y :: s, z :: t, x, hx => by
  rw [tgR] at hx
  split at hx
  ·rcases List.mem_cons.1 hx with rfl | hx
   ·exact .inl rfl
   ·exact tg_flags s (z :: t) x hx
  ·split at hx
   ·rcases List.mem_cons.1 hx with rfl | hx
    ·exact .inr ⟨rfl, rfl⟩
    ·exact tg_flags (y :: s) t x hx
   ·rcases List.mem_cons.1 hx with rfl | hx
    ·exact .inl rfl
    ·exact tg_flags s t x hx
termination_by a b => a.length + b.length
theorem tg_wt : ∀ (a b : List (Mem × List Value)), prsW (tgR a b) ≤ wtM (a.map (fun q => q.1)) + wtM (b.map (fun q => q.1))
 | [], [] => by rw [tgR, prsW]; omega
 | y :: s, [] => by
  have ih := tg_wt s []
  rw [List.map_nil, wtM] at ih
  rw [tgR, prsW, List.map_cons, wtM, List.map_nil, wtM]
  show y.1.1.size + y.1.2.wt + 0 + _ ≤ y.1.1.size + y.1.2.wt + _ + 0
  omega
 | [], z :: t => by
  have ih := tg_wt [] t
  rw [List.map_nil, wtM] at ih
  rw [tgR, prsW, List.map_cons, wtM, List.map_nil, wtM]
  show z.1.1.size + 0 + z.1.2.wt + _ ≤ 0 + (z.1.1.size + z.1.2.wt + _)
  omega
 | y :: s, z :: t => by
  have i1 := tg_wt s (z :: t)
  have i2 := tg_wt (y :: s) t
  have i3 := tg_wt s t
  obtain ⟨⟨ka, xa⟩, ca⟩ := y
  obtain ⟨⟨kb, xb⟩, cb⟩ := z
  simp only [List.map_cons, wtM] at i1 i2 ⊢
  rw [tgR]
  split
  ·rw [prsW]
   show ka.size + xa.wt + 0 + _ ≤ _
   omega
  ·split
   ·rw [prsW]
    show kb.size + 0 + xb.wt + _ ≤ _
    omega
   ·rw [prsW]
    show kb.size + xa.wt + xb.wt + _ ≤ _
    omega
termination_by a b => a.length + b.length
theorem bare_map (m : List Mem) : (bare m).map (fun q => q.1) = m := by rw [bare, List.map_map]; exact List.map_id' m
theorem btwM_wt : ∀ (n : Nat) (a b ms : List Mem), btwM n a b = some ms → wtM ms ≤ wtM a + wtM b
 | 0, a, b, ms, h => by rw [btwM] at h; cases h
 | n + 1, a, b, ms, h => by
  rw [btwM] at h
  have h1 := stDs_wt (btwM_wt n) (tg_flags _ _) h
  have h2 := tg_wt (bare a) (bare b)
  rw [bare_map, bare_map] at h2
  omega
theorem btw_wt {n : Nat} {a b d : V} (h : btwV n a b = some d) : d.wt ≤ a.wt + b.wt := by
 unfold btwV at h
 split at h
 ·cases hm : btwM n (memsOf a) (memsOf b) with
  | none => rw [hm] at h; cases h
  | some ms =>
   rw [hm] at h
   cases h
   have := btwM_wt n _ _ _ hm
   have := mems_wt a
   have := mems_wt b
   rw [mapV_wt]
   omega
 ·split at h
  ·cases h; omega
  ·split at h
   ·cases h; omega
   ·cases h
end Go.Proofs.YtjfldbmopjojdabDoor
namespace Go.Proofs.YtjfldbmopjojdabDoor
open Go.RowKit Go.Lib
theorem lt_irr (k : ByteArray) : ltB k k = false := by
 cases h : ltB k k
 ·rfl
 ·exact absurd rfl (lt_ne h)
theorem srt_tail {k : ByteArray} {x : V} {l : List Mem} (h : Srt ((k, x) :: l)) : Srt l ∧ ∀ y ∈ l, ltB k y.1 = true := by
 have := List.pairwise_cons.1 h
 exact ⟨this.2, this.1⟩
end Go.Proofs.YtjfldbmopjojdabDoor
namespace Go.Proofs.YtjfldbmopjojdabDoor
open Go.RowKit Go.Lib
def C3 (n : Nat) : Prop := n = 0 ∨ n = 22 ∨ n = 23
theorem chk32 (v : V) : chkE v 32 = 0 ↔ allG v ∧ dpV v ≤ 32 ∧ ndV v ≤ 65536 ∧ byV v ≤ 1048576 := chk_iff v 32 (by omega)
def lk : List Mem → ByteArray → Option V
 | [], _ => none
 | y :: t, k => if y.1.toList = k.toList then some y.2 else lk t k
theorem lk_mem : ∀ {l : List Mem} {k : ByteArray} {x : V}, lk l k = some x → ∃ y ∈ l, y.2 = x
 | [], k, x, h => by cases h
 | y :: t, k, x, h => by
  rw [lk] at h
  split at h
  ·exact ⟨y, List.mem_cons_self, by injection h⟩
  ·obtain ⟨z, h1, h2⟩ := lk_mem h
   exact ⟨z, List.mem_cons_of_mem _ h1, h2⟩
theorem lk_far {l : List Mem} {k : ByteArray} (h : ∀ y ∈ l, ¬ y.1.toList = k.toList) : lk l k = none := by
 induction l with
 | nil => rfl
 | cons y t ih =>
  rw [lk, if_neg (h y List.mem_cons_self)]
  exact ih fun z hz => h z (List.mem_cons_of_mem _ hz)
theorem lk_lt {l : List Mem} {k : ByteArray} (h : ∀ y ∈ l, ltB k y.1 = true) : lk l k = none := lk_far fun y hy e => lt_ne (h y hy) e.symm
theorem lk_hit {k key : ByteArray} {x : V} {t : List Mem} (h : k.toList = key.toList) : lk ((k, x) :: t) key = some x := by rw [lk, if_pos h]
theorem lk_no {k key : ByteArray} {x : V} {t : List Mem} (h : ¬ k.toList = key.toList) : lk ((k, x) :: t) key = lk t key := by rw [lk, if_neg h]
def pk (f : V → V → V) (a b : Option V) : Option V := match b with
 | none => a
 | some x => if kindOf x = 0 then none else some (f (a.getD nullV) x)
end Go.Proofs.YtjfldbmopjojdabDoor
