import Derived.Test.YtgnofbigggmilaaGreatDoorConU
import Derived.Test.YtgnofbigggmilaaGreatDoorG24
set_option linter.unusedSimpArgs false
set_option linter.unusedVariables false
namespace Go.Proofs.YtgnofbigggmilaaGreatDoor
open Go.RowKit Go.Lib
theorem RowsOf.take {w : World} {b o c : Nat} {css : List (List Value)} (h : RowsOf w b o c css) (p : Nat) : RowsOf w b o c (css.take p) :=
 ⟨fun x hx => h.len x (List.mem_of_mem_take hx), fun x hx => h.one x (List.mem_of_mem_take hx), fun j hj => by
  rw [List.getElem_take]
  exact h.row j (by rw [List.length_take] at hj; omega)⟩
theorem RowsOf.drop {w : World} {b o c : Nat} {css : List (List Value)} (h : RowsOf w b o c css) (p : Nat) : RowsOf w b (o + p * c) c (css.drop p) :=
 ⟨fun x hx => h.len x (List.mem_of_mem_drop hx), fun x hx => h.one x (List.mem_of_mem_drop hx), fun j hj => by
  rw [List.length_drop] at hj
  rw [List.getElem_drop, show o + p * c + j * c = o + (p + j) * c by rw [Nat.add_mul]; omega]
  exact h.row (p + j) (by omega)⟩
theorem headed_drop {al : Option Addr} {n cl b o c p : Nat} (h : Headed al n cl b o) (hp : p ≤ n) (hn : 0 < n) : Headed (if cl = p then some ⟨b, o, none⟩ else some ⟨b, o + p * c, none⟩ : Option Addr) (n - p) (cl - p) b (o + p * c) := by
 have h1 := h.le
 have h2 := h.max
 refine ⟨by omega, by omega, ?_, fun e => ?_⟩
 ·by_cases hc : cl = p
  ·exact .inl (by omega)
  ·rw [if_neg hc]; exact .inr rfl
 ·split at e <;> cases e
theorem zip_maps {α β : Type} : ∀ (l : List α) (r : List β), l.length = r.length → (l.zip r).map (fun q => q.1) = l ∧ (l.zip r).map (fun q => q.2) = r
 | [], [], _ => by simp
 | [], y :: r, h => by simp at h
 | x :: l, [], h => by simp at h
 | x :: l, y :: r, h => by
  have := zip_maps l r (by simpa using h)
  simp [this.1, this.2]
theorem outL_map {α β : Type} (f : α → β) (l : List α) (j : Nat) : (outL l j).map f = outL (l.map f) j := by simp [outL, List.map_take, List.map_drop]
theorem insL_map {α β : Type} (f : α → β) (l : List α) (j : Nat) (x : α) : (insL l j x).map f = insL (l.map f) j (f x) := by simp [insL, List.map_take, List.map_drop]
theorem outL_mem {α : Type} {l : List α} {j : Nat} {x : α} (h : x ∈ outL l j) : x ∈ l := (outL_sub l j).subset h
theorem insL_mem {α : Type} {l : List α} {j : Nat} {y x : α} (h : x ∈ insL l j y) : x = y ∨ x ∈ l := by
 rw [insL] at h
 rcases List.mem_append.1 h with h | h
 ·exact .inr (List.mem_of_mem_take h)
 ·rcases List.mem_append.1 h with h | h
  ·exact .inl (List.mem_singleton.1 h)
  ·exact .inr (List.mem_of_mem_drop h)
def PL (w : World) (S : Nat → Prop) (q : V × List Value) : Prop := q.1.lies false w S q.2
theorem PL.keep {w w' : World} {S S' : Nat → Prop} {q : V × List Value} (h : PL w S q) (hw : ∀ b, S b → w'.heap[b]? = w.heap[b]?) (hS : ∀ b, S b → S' b) : PL w' S' q := V.lies_keep (fun h => h) hw hS _ h
theorem segL {w : World} {S : Nat → Prop} {l : List V} {b o : Nat} (h : liesL false w S l b o) : ∃ ps : List (V × List Value), ps.map (fun q => q.1) = l ∧ RowsOf w b o 6 (ps.map (fun q => q.2)) ∧ (∀ q ∈ ps, PL w S q) ∧ (0 < ps.length → S b) := by
 obtain ⟨css, h1, h2, h3⟩ := rowsL_of h
 have hz := zip_maps l css h1.symm
 refine ⟨l.zip css, hz.1, by rw [hz.2]; exact h2, fun q hq => ?_, fun hp => ?_⟩
 ·obtain ⟨j, hj, rfl⟩ := List.getElem_of_mem hq
  rw [List.length_zip] at hj
  rw [List.getElem_zip]
  exact h3 j (by omega) (by omega)
 ·rw [List.length_zip] at hp
  exact (liesL_get h 0 (by omega)).1
theorem ownL {w : World} {S : Nat → Prop} {B : Nat} {v : Value} {ps : List (V × List Value)} (h : OwnC B 25 6 v (ps.map (fun q => q.2)) w) (hp : ∀ q ∈ ps, PL w S q) : ∃ a n b o, v = .slice a (ps.map (fun q => q.1)).length n ∧ Headed a (ps.map (fun q => q.1)).length n b o ∧ liesL false w (fun x => S x ∨ (B ≤ x ∧ x < w.heap.size)) (ps.map (fun q => q.1)) b o := by
 have h' := h
 rcases h.2 with ⟨rfl, e⟩ | ⟨g, cap, cur, rfl, hB, hg, hle, hmax, hsz, htk⟩
 ·have e0 : ps = [] := by simpa using e
  subst e0
  exact ⟨none, 0, 0, 0, rfl, ⟨Nat.le_refl _, Nat.zero_le _, .inl rfl, fun _ => rfl⟩, by rw [List.map_nil, liesL]; trivial⟩
 ·simp only [List.length_map] at hle
  have hgl := (World.ownsRow.lt h' g rfl).2
  refine ⟨some ⟨g, 0, none⟩, cap, g, 0, by rw [List.length_map, List.length_map], ⟨by rw [List.length_map]; exact hle, hmax, .inr rfl, fun h => by cases h⟩, liesL_mk fun j hj => ?_⟩
  have hj' : j < ps.length := by simpa using hj
  have hq := hp ps[j] (List.getElem_mem hj')
  have hlen : ∀ x ∈ ps.map (fun q => q.2), x.length = 6 := fun x hx => by
   obtain ⟨q, hq, rfl⟩ := List.mem_map.1 hx
   exact by
    obtain ⟨k, b, i, s, al, nl, cl, am, nm, cm, e⟩ := V.ten (hp q hq)
    rw [e]; rfl
  have hrow : rowAt w g (0 + j * 6) (ps[j]).2 := fun r u hu => by
   have hr : r < 6 := by
    have := (List.getElem?_eq_some_iff.1 hu).1
    have h9 := hlen (ps[j]).2 (List.mem_map.2 ⟨_, List.getElem_mem hj', rfl⟩)
    omega
   have h1 := flat_get hlen j r hr (by simpa using hj')
   rw [List.getElem_map] at h1
   have h2 := World.ownsRow.cells h' (g := g) rfl (j * 6 + r) u (by rw [h1]; exact hu)
   rw [Go.WideShapes.add_plain] at h2
   simpa using h2
  rw [List.getElem_map]
  exact ⟨.inr ⟨hB, hgl⟩, (ps[j]).2, hrow, V.lies_keep (fun h => h) (fun _ _ => rfl) (fun b hb => .inl hb) _ hq⟩
def PM (w : World) (S : Nat → Prop) (q : Mem × List Value) : Prop := ∃ cs, q.2 = .string q.1.1 :: cs ∧ q.1.1.size ≤ maxLen ∧ q.1.2.lies false w S cs
theorem PM.keep {w w' : World} {S S' : Nat → Prop} {q : Mem × List Value} (h : PM w S q) (hw : ∀ b, S b → w'.heap[b]? = w.heap[b]?) (hS : ∀ b, S b → S' b) : PM w' S' q := by
 obtain ⟨cs, h1, h2, h3⟩ := h
 exact ⟨cs, h1, h2, V.lies_keep (fun h => h) hw hS _ h3⟩
theorem segM {w : World} {S : Nat → Prop} {l : List Mem} {b o : Nat} (h : liesM false w S l b o) : ∃ ps : List (Mem × List Value), ps.map (fun q => q.1) = l ∧ RowsOf w b o 7 (ps.map (fun q => q.2)) ∧ (∀ q ∈ ps, PM w S q) ∧ (0 < ps.length → S b) := by
 obtain ⟨css, h1, h2, h3⟩ := rowsM_of h
 have hz := zip_maps l css h1.symm
 refine ⟨l.zip css, hz.1, by rw [hz.2]; exact h2, fun q hq => ?_, fun hp => ?_⟩
 ·obtain ⟨j, hj, rfl⟩ := List.getElem_of_mem hq
  rw [List.length_zip] at hj
  rw [List.getElem_zip]
  exact h3 j (by omega) (by omega)
 ·rw [List.length_zip] at hp
  exact (liesM_get h 0 (by omega)).1
theorem ownM {w : World} {S : Nat → Prop} {B : Nat} {v : Value} {ps : List (Mem × List Value)} (h : OwnC B 64 7 v (ps.map (fun q => q.2)) w) (hp : ∀ q ∈ ps, PM w S q) : ∃ a n b o, v = .slice a (ps.map (fun q => q.1)).length n ∧ Headed a (ps.map (fun q => q.1)).length n b o ∧ liesM false w (fun x => S x ∨ (B ≤ x ∧ x < w.heap.size)) (ps.map (fun q => q.1)) b o := by
 have h' := h
 rcases h.2 with ⟨rfl, e⟩ | ⟨g, cap, cur, rfl, hB, hg, hle, hmax, hsz, htk⟩
 ·have e0 : ps = [] := by simpa using e
  subst e0
  exact ⟨none, 0, 0, 0, rfl, ⟨Nat.le_refl _, Nat.zero_le _, .inl rfl, fun _ => rfl⟩, by rw [List.map_nil, liesM]; trivial⟩
 ·simp only [List.length_map] at hle
  have hgl := (World.ownsRow.lt h' g rfl).2
  refine ⟨some ⟨g, 0, none⟩, cap, g, 0, by rw [List.length_map, List.length_map], ⟨by rw [List.length_map]; exact hle, hmax, .inr rfl, fun h => by cases h⟩, liesM_mk fun j hj => ?_⟩
  have hj' : j < ps.length := by simpa using hj
  have hq := hp ps[j] (List.getElem_mem hj')
  have hlen : ∀ x ∈ ps.map (fun q => q.2), x.length = 7 := fun x hx => by
   obtain ⟨q, hq, rfl⟩ := List.mem_map.1 hx
   exact by
    obtain ⟨cs, e0, _, e1⟩ := hp q hq
    obtain ⟨k, b, i, s, al, nl, cl, am, nm, cm, e⟩ := V.ten e1
    rw [e0, e]; rfl
  have hrow : rowAt w g (0 + j * 7) (ps[j]).2 := fun r u hu => by
   have hr : r < 7 := by
    have := (List.getElem?_eq_some_iff.1 hu).1
    have h9 := hlen (ps[j]).2 (List.mem_map.2 ⟨_, List.getElem_mem hj', rfl⟩)
    omega
   have h1 := flat_get hlen j r hr (by simpa using hj')
   rw [List.getElem_map] at h1
   have h2 := World.ownsRow.cells h' (g := g) rfl (j * 7 + r) u (by rw [h1]; exact hu)
   rw [Go.WideShapes.add_plain] at h2
   simpa using h2
  rw [List.getElem_map]
  obtain ⟨cs, e0, e1, e2⟩ := hq
  rw [e0] at hrow
  exact ⟨.inr ⟨hB, hgl⟩, e1, cs, hrow, V.lies_keep (fun h => h) (fun _ _ => rfl) (fun b hb => .inl hb) _ e2⟩
end Go.Proofs.YtgnofbigggmilaaGreatDoor
