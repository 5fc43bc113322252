/- joined: DifP TwcP -/
import Derived.Test.YtjfldbmopjojdaaDoorRcnX
set_option linter.unusedSimpArgs false
set_option linter.unusedVariables false
namespace Go.Proofs.YtjfldbmopjojdaaDoor
open Go Go.RowKit Go.Lib Go.Shelf
def dffF (a b : V) : V × Bool × Int :=
 if bothE a b = 0 then
  match btwV 41 a b with
  | none => (nullV, false, 0)
  | some d => ((finF d).1, ((finF d).2 == 0), (finF d).2)
 else (nullV, false, (bothE a b : Int))
def DgPost (r : V × Bool × Int) (w : World) (e : Ending) (w' : World) : Prop := ∃ cs : List Value, e = .returned (.tuple #[.agg cs.toArray, .bool r.2.1, .int .i64 r.2.2]) ∧ r.1.lies false w' (New w w') cs ∧ Below w.heap.size w w'
theorem nullV_wt : nullV.wt = 1 := by rw [nullV, V.wt, wtL, wtM]; rfl
theorem mapV_wt (m : List Mem) : (mapV m).wt = 1 + wtM m := by rw [mapV, V.wt, wtL]; show 1 + 0 + 0 + _ = _; omega
def prW (x : Pr) : Nat := x.key.size + (if x.f = true then x.va.wt else 0) + (if x.g = true then x.vb.wt else 0)
def prsW : List Pr → Nat
 | [] => 0
 | x :: t => prW x + prsW t
theorem stD_wt {f : List Mem → List Mem → Option (List Mem)} (hf : ∀ a b ms, f a b = some ms → wtM ms ≤ wtM a + wtM b) {x : Pr} (hx : x.f = true ∨ (x.g = true ∧ x.va = nullV)) {r : List Mem} (h : stD f x = some r) : wtM r ≤ prW x := by
 unfold prW
 unfold stD at h
 by_cases hg : x.g = false
 ·rw [if_pos hg] at h
  cases h
  have hf1 : x.f = true := by rcases hx with h | h; exact h; rw [hg] at h; cases h.1
  rw [wtM, wtM, nullV_wt, if_pos hf1]
  have := V.wt_pos x.va
  show x.key.size + 1 + 0 ≤ _
  omega
 ·have hg1 : x.g = true := by simpa using hg
  rw [if_neg hg] at h
  rw [if_pos hg1]
  by_cases hk : kindOf x.va = 5 ∧ kindOf x.vb = 5
  ·rw [if_pos hk] at h
   have hf1 : x.f = true := by
    rcases hx with h | h
    ·exact h
    ·rw [h.2] at hk; exact absurd hk.1 (by decide)
   rw [if_pos hf1]
   cases hr : f (memsOf x.va) (memsOf x.vb) with
   | none => rw [hr] at h; cases h
   | some l =>
    rw [hr] at h
    have h1 := hf _ _ _ hr
    have h2 := mems_wt x.va
    have h3 := mems_wt x.vb
    cases l with
    | nil => cases h; rw [wtM]; omega
    | cons y t => cases h; rw [wtM, wtM, mapV_wt]; show x.key.size + _ + 0 ≤ _; omega
  ·rw [if_neg hk] at h
   by_cases he : x.f = true ∧ eqlV x.va x.vb = true
   ·rw [if_pos he] at h; cases h; rw [wtM]; omega
   ·rw [if_neg he] at h
    by_cases hc : clnB x.vb = true
    ·rw [if_pos hc] at h; cases h; rw [wtM, wtM]; show x.key.size + _ + 0 ≤ _; omega
    ·rw [if_neg hc] at h; cases h
theorem stDs_wt {f : List Mem → List Mem → Option (List Mem)} (hf : ∀ a b ms, f a b = some ms → wtM ms ≤ wtM a + wtM b) : ∀ {l : List Pr} {ms : List Mem}, (∀ x ∈ l, x.f = true ∨ (x.g = true ∧ x.va = nullV)) → stDs f l = some ms → wtM ms ≤ prsW l
 | [], ms, _, h => by rw [stDs] at h; cases h; rw [wtM, prsW]; omega
 | x :: t, ms, hl, h => by
  rw [stDs] at h
  cases hx : stD f x with
  | none => rw [hx] at h; cases h
  | some a =>
   rw [hx] at h
   simp only at h
   cases ht : stDs f t with
   | none => rw [ht] at h; cases h
   | some b =>
    rw [ht] at h
    simp only at h
    cases h
    have h1 := stD_wt hf (hl x (List.mem_cons_self ..)) hx
    have h2 := stDs_wt hf (fun y hy => hl y (List.mem_cons_of_mem _ hy)) ht
    rw [wtM_apq, prsW]
    omega
theorem tg_flags : ∀ (a b : List (Mem × List Value)), ∀ x ∈ tgR a b, x.f = true ∨ (x.g = true ∧ x.va = nullV)
 | [], [], x, hx => by rw [tgR] at hx; cases hx
 | y :: s, [], x, hx => by
  rw [tgR] at hx
  rcases List.mem_cons.1 hx with rfl | hx
  ·exact .inl rfl
  ·exact tg_flags s [] x hx
 | [], z :: t, x, hx => by
  rw [tgR] at hx
  rcases List.mem_cons.1 hx with rfl | hx
  ·exact .inr ⟨rfl, rfl⟩
  ·exact tg_flags [] t x hx
 | y :: s, z :: t, x, hx => by
  rw [tgR] at hx
  split at hx
  ·rcases List.mem_cons.1 hx with rfl | hx
   ·exact .inl rfl
   ·exact tg_flags s (z :: t) x hx
  ·split at hx
   ·rcases List.mem_cons.1 hx with rfl | hx
    ·exact .inr ⟨rfl, rfl⟩
    ·exact tg_flags (y :: s) t x hx
   ·rcases List.mem_cons.1 hx with rfl | hx
    ·exact .inl rfl
    ·exact tg_flags s t x hx
termination_by a b => a.length + b.length
theorem tg_wt : ∀ (a b : List (Mem × List Value)), prsW (tgR a b) ≤ wtM (a.map (fun q => q.1)) + wtM (b.map (fun q => q.1))
 | [], [] => by rw [tgR, prsW]; omega
 | y :: s, [] => by
  have ih := tg_wt s []
  rw [List.map_nil, wtM] at ih
  rw [tgR, prsW, List.map_cons, wtM, List.map_nil, wtM]
  show y.1.1.size + y.1.2.wt + 0 + _ ≤ y.1.1.size + y.1.2.wt + _ + 0
  omega
 | [], z :: t => by
  have ih := tg_wt [] t
  rw [List.map_nil, wtM] at ih
  rw [tgR, prsW, List.map_cons, wtM, List.map_nil, wtM]
  show z.1.1.size + 0 + z.1.2.wt + _ ≤ 0 + (z.1.1.size + z.1.2.wt + _)
  omega
 | y :: s, z :: t => by
  have i1 := tg_wt s (z :: t)
  have i2 := tg_wt (y :: s) t
  have i3 := tg_wt s t
  obtain ⟨⟨ka, xa⟩, ca⟩ := y
  obtain ⟨⟨kb, xb⟩, cb⟩ := z
  simp only [List.map_cons, wtM] at i1 i2 ⊢
  rw [tgR]
  split
  ·rw [prsW]
   show ka.size + xa.wt + 0 + _ ≤ _
   omega
  ·split
   ·rw [prsW]
    show kb.size + 0 + xb.wt + _ ≤ _
    omega
   ·rw [prsW]
    show kb.size + xa.wt + xb.wt + _ ≤ _
    omega
termination_by a b => a.length + b.length
theorem bare_map (m : List Mem) : (bare m).map (fun q => q.1) = m := by rw [bare, List.map_map]; exact List.map_id' m
theorem btwM_wt : ∀ (n : Nat) (a b ms : List Mem), btwM n a b = some ms → wtM ms ≤ wtM a + wtM b
 | 0, a, b, ms, h => by rw [btwM] at h; cases h
 | n + 1, a, b, ms, h => by
  rw [btwM] at h
  have h1 := stDs_wt (btwM_wt n) (tg_flags _ _) h
  have h2 := tg_wt (bare a) (bare b)
  rw [bare_map, bare_map] at h2
  omega
theorem btw_wt {n : Nat} {a b d : V} (h : btwV n a b = some d) : d.wt ≤ a.wt + b.wt := by
 unfold btwV at h
 split at h
 ·cases hm : btwM n (memsOf a) (memsOf b) with
  | none => rw [hm] at h; cases h
  | some ms =>
   rw [hm] at h
   cases h
   have := btwM_wt n _ _ _ hm
   have := mems_wt a
   have := mems_wt b
   rw [mapV_wt]
   omega
 ·split at h
  ·cases h; omega
  ·split at h
   ·cases h; omega
   ·cases h
end Go.Proofs.YtjfldbmopjojdaaDoor
namespace Go.Proofs.YtjfldbmopjojdaaDoor
open Go.RowKit Go.Lib
theorem lt_irr (k : ByteArray) : ltB k k = false := by
 cases h : ltB k k
 ·rfl
 ·exact absurd rfl (lt_ne h)
theorem mrg_keys {f : V → V → V} {P : ByteArray → Prop} : ∀ (o m : List Mem), (∀ y ∈ o, P y.1) → (∀ y ∈ m, P y.1) → ∀ y ∈ mrgM f o m, P y.1
 | a, [], h1, h2 => by rw [mrgM]; exact h1
 | [], (k, x) :: b, h1, h2 => by
  have ih := mrg_keys (f := f) [] b h1 (fun y hy => h2 y (List.mem_cons_of_mem _ hy))
  rw [mrgM]
  split
  ·exact ih
  ·intro y hy
   rcases List.mem_cons.1 hy with rfl | hy
   ·exact h2 (k, x) List.mem_cons_self
   ·exact ih y hy
 | (ka, xa) :: a, (kb, xb) :: b, h1, h2 => by
  have h1' : ∀ y ∈ a, P y.1 := fun y hy => h1 y (List.mem_cons_of_mem _ hy)
  have h2' : ∀ y ∈ b, P y.1 := fun y hy => h2 y (List.mem_cons_of_mem _ hy)
  have i1 := mrg_keys (f := f) a ((kb, xb) :: b) h1' h2
  have i2 := mrg_keys (f := f) ((ka, xa) :: a) b h1 h2'
  have i3 := mrg_keys (f := f) a b h1' h2'
  have ka' := h1 (ka, xa) List.mem_cons_self
  have kb' := h2 (kb, xb) List.mem_cons_self
  rw [mrgM]
  split
  ·intro y hy
   rcases List.mem_cons.1 hy with rfl | hy
   ·exact ka'
   ·exact i1 y hy
  ·split
   ·split
    ·exact i2
    ·intro y hy
     rcases List.mem_cons.1 hy with rfl | hy
     ·exact kb'
     ·exact i2 y hy
   ·split
    ·exact i3
    ·intro y hy
     rcases List.mem_cons.1 hy with rfl | hy
     ·exact kb'
     ·exact i3 y hy
termination_by o m => o.length + m.length
theorem srt_tail {k : ByteArray} {x : V} {l : List Mem} (h : Srt ((k, x) :: l)) : Srt l ∧ ∀ y ∈ l, ltB k y.1 = true := by
 have := List.pairwise_cons.1 h
 exact ⟨this.2, this.1⟩
end Go.Proofs.YtjfldbmopjojdaaDoor
