/- joined: SegU ApcU DgtA -/
import Derived.Test.YtnakligbogkmbaaGreatDoorConU
import Derived.Test.YtnakligbogkmbaaGreatDoorPutP
set_option linter.unusedSimpArgs false
set_option linter.unusedVariables false
namespace Go.Proofs.YtnakligbogkmbaaGreatDoor
open Go.RowKit Go.Lib
theorem RowsOf.take {w : World} {b o c : Nat} {css : List (List Value)} (h : RowsOf w b o c css) (p : Nat) : RowsOf w b o c (css.take p) :=
 ⟨fun x hx => h.len x (List.mem_of_mem_take hx), fun x hx => h.one x (List.mem_of_mem_take hx), fun j hj => by
  rw [List.getElem_take]
  exact h.row j (by rw [List.length_take] at hj; omega)⟩
theorem RowsOf.drop {w : World} {b o c : Nat} {css : List (List Value)} (h : RowsOf w b o c css) (p : Nat) : RowsOf w b (o + p * c) c (css.drop p) :=
 ⟨fun x hx => h.len x (List.mem_of_mem_drop hx), fun x hx => h.one x (List.mem_of_mem_drop hx), fun j hj => by
  rw [List.length_drop] at hj
  rw [List.getElem_drop, show o + p * c + j * c = o + (p + j) * c by rw [Nat.add_mul]; omega]
  exact h.row (p + j) (by omega)⟩
theorem headed_drop {al : Option Addr} {n cl b o c p : Nat} (h : Headed al n cl b o) (hp : p ≤ n) (hn : 0 < n) : Headed (if cl = p then some ⟨b, o, none⟩ else some ⟨b, o + p * c, none⟩ : Option Addr) (n - p) (cl - p) b (o + p * c) := by
 have h1 := h.le
 have h2 := h.max
 refine ⟨by omega, by omega, ?_, fun e => ?_⟩
 ·by_cases hc : cl = p
  ·exact .inl (by omega)
  ·rw [if_neg hc]; exact .inr rfl
 ·split at e <;> cases e
theorem zip_maps {α β : Type} : ∀ (l : List α) (r : List β), l.length = r.length → (l.zip r).map (fun q => q.1) = l ∧ (l.zip r).map (fun q => q.2) = r
 | [], [], _ => by simp
 | [], y :: r, h => by simp at h
 | x :: l, [], h => by simp at h
 | x :: l, y :: r, h => by
  have := zip_maps l r (by simpa using h)
  simp [this.1, this.2]
theorem outL_map {α β : Type} (f : α → β) (l : List α) (j : Nat) : (outL l j).map f = outL (l.map f) j := by simp [outL, List.map_take, List.map_drop]
theorem insL_map {α β : Type} (f : α → β) (l : List α) (j : Nat) (x : α) : (insL l j x).map f = insL (l.map f) j (f x) := by simp [insL, List.map_take, List.map_drop]
theorem outL_mem {α : Type} {l : List α} {j : Nat} {x : α} (h : x ∈ outL l j) : x ∈ l := (outL_sub l j).subset h
theorem insL_mem {α : Type} {l : List α} {j : Nat} {y x : α} (h : x ∈ insL l j y) : x = y ∨ x ∈ l := by
 rw [insL] at h
 rcases List.mem_append.1 h with h | h
 ·exact .inr (List.mem_of_mem_take h)
 ·rcases List.mem_append.1 h with h | h
  ·exact .inl (List.mem_singleton.1 h)
  ·exact .inr (List.mem_of_mem_drop h)
def PL (w : World) (S : Nat → Prop) (q : V × List Value) : Prop := q.1.lies false w S q.2
theorem PL.keep {w w' : World} {S S' : Nat → Prop} {q : V × List Value} (h : PL w S q) (hw : ∀ b, S b → w'.heap[b]? = w.heap[b]?) (hS : ∀ b, S b → S' b) : PL w' S' q := V.lies_keep (fun h => h) hw hS _ h
theorem segL {w : World} {S : Nat → Prop} {l : List V} {b o : Nat} (h : liesL false w S l b o) : ∃ ps : List (V × List Value), ps.map (fun q => q.1) = l ∧ RowsOf w b o 6 (ps.map (fun q => q.2)) ∧ (∀ q ∈ ps, PL w S q) ∧ (0 < ps.length → S b) := by
 obtain ⟨css, h1, h2, h3⟩ := rowsL_of h
 have hz := zip_maps l css h1.symm
 refine ⟨l.zip css, hz.1, by rw [hz.2]; exact h2, fun q hq => ?_, fun hp => ?_⟩
 ·obtain ⟨j, hj, rfl⟩ := List.getElem_of_mem hq
  rw [List.length_zip] at hj
  rw [List.getElem_zip]
  exact h3 j (by omega) (by omega)
 ·rw [List.length_zip] at hp
  exact (liesL_get h 0 (by omega)).1
theorem ownL {w : World} {S : Nat → Prop} {B : Nat} {v : Value} {ps : List (V × List Value)} (h : OwnC B 25 6 v (ps.map (fun q => q.2)) w) (hp : ∀ q ∈ ps, PL w S q) : ∃ a n b o, v = .slice a (ps.map (fun q => q.1)).length n ∧ Headed a (ps.map (fun q => q.1)).length n b o ∧ liesL false w (fun x => S x ∨ (B ≤ x ∧ x < w.heap.size)) (ps.map (fun q => q.1)) b o := by
 have h' := h
 rcases h.2 with ⟨rfl, e⟩ | ⟨g, cap, cur, rfl, hB, hg, hle, hmax, hsz, htk⟩
 ·have e0 : ps = [] := by simpa using e
  subst e0
  exact ⟨none, 0, 0, 0, rfl, ⟨Nat.le_refl _, Nat.zero_le _, .inl rfl, fun _ => rfl⟩, by rw [List.map_nil, liesL]; trivial⟩
 ·simp only [List.length_map] at hle
  have hgl := (World.ownsRow.lt h' g rfl).2
  refine ⟨some ⟨g, 0, none⟩, cap, g, 0, by rw [List.length_map, List.length_map], ⟨by rw [List.length_map]; exact hle, hmax, .inr rfl, fun h => by cases h⟩, liesL_mk fun j hj => ?_⟩
  have hj' : j < ps.length := by simpa using hj
  have hq := hp ps[j] (List.getElem_mem hj')
  have hlen : ∀ x ∈ ps.map (fun q => q.2), x.length = 6 := fun x hx => by
   obtain ⟨q, hq, rfl⟩ := List.mem_map.1 hx
   exact by
    obtain ⟨k, b, i, s, al, nl, cl, am, nm, cm, e⟩ := V.ten (hp q hq)
    rw [e]; rfl
  have hrow : rowAt w g (0 + j * 6) (ps[j]).2 := fun r u hu => by
   have hr : r < 6 := by
    have := (List.getElem?_eq_some_iff.1 hu).1
    have h9 := hlen (ps[j]).2 (List.mem_map.2 ⟨_, List.getElem_mem hj', rfl⟩)
    omega
   have h1 := flat_get hlen j r hr (by simpa using hj')
   rw [List.getElem_map] at h1
   have h2 := World.ownsRow.cells h' (g := g) rfl (j * 6 + r) u (by rw [h1]; exact hu)
   rw [Go.WideShapes.add_plain] at h2
   simpa using h2
  rw [List.getElem_map]
  exact ⟨.inr ⟨hB, hgl⟩, (ps[j]).2, hrow, V.lies_keep (fun h => h) (fun _ _ => rfl) (fun b hb => .inl hb) _ hq⟩
def PM (w : World) (S : Nat → Prop) (q : Mem × List Value) : Prop := ∃ cs, q.2 = .string q.1.1 :: cs ∧ q.1.1.size ≤ maxLen ∧ q.1.2.lies false w S cs
theorem PM.keep {w w' : World} {S S' : Nat → Prop} {q : Mem × List Value} (h : PM w S q) (hw : ∀ b, S b → w'.heap[b]? = w.heap[b]?) (hS : ∀ b, S b → S' b) : PM w' S' q := by
 obtain ⟨cs, h1, h2, h3⟩ := h
 exact ⟨cs, h1, h2, V.lies_keep (fun h => h) hw hS _ h3⟩
theorem segM {w : World} {S : Nat → Prop} {l : List Mem} {b o : Nat} (h : liesM false w S l b o) : ∃ ps : List (Mem × List Value), ps.map (fun q => q.1) = l ∧ RowsOf w b o 7 (ps.map (fun q => q.2)) ∧ (∀ q ∈ ps, PM w S q) ∧ (0 < ps.length → S b) := by
 obtain ⟨css, h1, h2, h3⟩ := rowsM_of h
 have hz := zip_maps l css h1.symm
 refine ⟨l.zip css, hz.1, by rw [hz.2]; exact h2, fun q hq => ?_, fun hp => ?_⟩
 ·obtain ⟨j, hj, rfl⟩ := List.getElem_of_mem hq
  rw [List.length_zip] at hj
  rw [List.getElem_zip]
  exact h3 j (by omega) (by omega)
 ·rw [List.length_zip] at hp
  exact (liesM_get h 0 (by omega)).1
theorem ownM {w : World} {S : Nat → Prop} {B : Nat} {v : Value} {ps : List (Mem × List Value)} (h : OwnC B 39 7 v (ps.map (fun q => q.2)) w) (hp : ∀ q ∈ ps, PM w S q) : ∃ a n b o, v = .slice a (ps.map (fun q => q.1)).length n ∧ Headed a (ps.map (fun q => q.1)).length n b o ∧ liesM false w (fun x => S x ∨ (B ≤ x ∧ x < w.heap.size)) (ps.map (fun q => q.1)) b o := by
 have h' := h
 rcases h.2 with ⟨rfl, e⟩ | ⟨g, cap, cur, rfl, hB, hg, hle, hmax, hsz, htk⟩
 ·have e0 : ps = [] := by simpa using e
  subst e0
  exact ⟨none, 0, 0, 0, rfl, ⟨Nat.le_refl _, Nat.zero_le _, .inl rfl, fun _ => rfl⟩, by rw [List.map_nil, liesM]; trivial⟩
 ·simp only [List.length_map] at hle
  have hgl := (World.ownsRow.lt h' g rfl).2
  refine ⟨some ⟨g, 0, none⟩, cap, g, 0, by rw [List.length_map, List.length_map], ⟨by rw [List.length_map]; exact hle, hmax, .inr rfl, fun h => by cases h⟩, liesM_mk fun j hj => ?_⟩
  have hj' : j < ps.length := by simpa using hj
  have hq := hp ps[j] (List.getElem_mem hj')
  have hlen : ∀ x ∈ ps.map (fun q => q.2), x.length = 7 := fun x hx => by
   obtain ⟨q, hq, rfl⟩ := List.mem_map.1 hx
   exact by
    obtain ⟨cs, e0, _, e1⟩ := hp q hq
    obtain ⟨k, b, i, s, al, nl, cl, am, nm, cm, e⟩ := V.ten e1
    rw [e0, e]; rfl
  have hrow : rowAt w g (0 + j * 7) (ps[j]).2 := fun r u hu => by
   have hr : r < 7 := by
    have := (List.getElem?_eq_some_iff.1 hu).1
    have h9 := hlen (ps[j]).2 (List.mem_map.2 ⟨_, List.getElem_mem hj', rfl⟩)
    omega
   have h1 := flat_get hlen j r hr (by simpa using hj')
   rw [List.getElem_map] at h1
   have h2 := World.ownsRow.cells h' (g := g) rfl (j * 7 + r) u (by rw [h1]; exact hu)
   rw [Go.WideShapes.add_plain] at h2
   simpa using h2
  rw [List.getElem_map]
  obtain ⟨cs, e0, e1, e2⟩ := hq
  rw [e0] at hrow
  exact ⟨.inr ⟨hB, hgl⟩, e1, cs, hrow, V.lies_keep (fun h => h) (fun _ _ => rfl) (fun b hb => .inl hb) _ e2⟩
theorem news_row {w : World} {g : Nat} {row : List Value} {ty : TypeId} (h : w.heap[g]? = some (.cells row.toArray ty)) : ∀ j u, row[j]? = some u → w.cell? ((⟨g, 0, none⟩ : Addr).add j) = some u := fun j u hu => by
 rw [Go.WideShapes.add_plain, cBk h]
 simpa using hu
theorem OwnC.below {B e c : Nat} {v : Value} {css : List (List Value)} {w w' : World} (h : OwnC B e c v css w) (hb : Below w.heap.size w w') : OwnC B e c v css w' :=
 World.ownsRow.kept (row := none) h ⟨hb.os, hb.tape, hb.output, hb.size, fun k hk _ => hb.block k hk⟩ (by cases v.ownBlock <;> simp)
theorem OwnC.alloc {B e c : Nat} {v : Value} {css : List (List Value)} {w : World} (h : OwnC B e c v css w) (o : Obj) : OwnC B e c v css (w.alloc o) :=
 World.ownsRow.kept h (World.grownBy_alloc w o none) (by cases v.ownBlock <;> simp)
theorem OwnC.move {B e c : Nat} {v : Value} {css : List (List Value)} {w w' : World} (h : OwnC B e c v css w) (hk : ∀ b, B ≤ b → b < w.heap.size → w'.heap[b]? = w.heap[b]?) : OwnC B e c v css w' := by
 refine ⟨h.1, ?_⟩
 rcases h.2 with hn | ⟨g, cap, cur, rfl, hb, hgg, rest⟩
 ·exact .inl hn
 ·exact .inr ⟨g, cap, cur, rfl, hb, (hk g hb (Array.getElem?_eq_some_iff.1 hgg).1).trans hgg, rest⟩
theorem OwnC.slice {B e c : Nat} {v : Value} {css : List (List Value)} {w : World} (h : OwnC B e c v css w) : ∃ a n, v = .slice a css.length n := by
 rcases h.2 with ⟨rfl, e⟩ | ⟨g, cap, cur, rfl, _⟩
 ·exact ⟨_, _, by rw [e]⟩
 ·exact ⟨_, _, rfl⟩
theorem step_appV {ops : Array Oper} {o : Oper} {a : Act} {w : World} {K' : Act → World → Prop} {Q : Exit → Act → World → Prop} {D : Prop} (hgd : o.guard = none) (s x : Operand) (ho : o.op = .call { callee := .builtin .append, args := #[s, x], argTypes := #[22, 22] })
 (B : Nat) (v : Value) (css : List (List Value)) (hs : a.eval s = v) (hown : OwnC B 25 6 v css w) (g : Nat) (row : List Value) (hrl : row.length = 6) (hone : ∀ u ∈ row, u.oneCell' = true) (hx : a.eval x = .slice (some ⟨g, 0, none⟩) 1 1) (hblk : w.heap[g]? = some (.cells row.toArray 25)) (hlen : css.length ≤ 8000000) (hbase : B ≤ w.heap.size)
 (h : ∀ v' w', OwnC B 25 6 v' (css ++ [row]) w' → w.grownBy w' v.ownBlock → K' (a.put o.dst v') w') : if Region.wanted o (yielded ops a.tmps) = true then Oper.wp Tryz.prog o a w K' Q else D := by
 have hw : Region.wanted o (yielded ops a.tmps) = true := by simp [Region.wanted, hgd]
 rw [if_pos hw]
 obtain ⟨i1, hi1, hy0, hy1, hy2⟩ := info_parts infoVU
 refine wp_append_own w s x 22 ho B 25 i1 _ 6 88 Tryz.underlying22 hi1 hy0 hy1 hy2 rfl (by decide) v css.length css.flatten hs hown ⟨g, 0, none⟩ 1 1 row hx (by omega) (news_row hblk) hone (by unfold maxLen; omega) (by omega) hbase ?_
 intro v' w' h1 h2 _
 refine h v' w' ?_ h2
 show w'.ownsRow _ _ _ v' (css ++ [row]).length (css ++ [row]).flatten
 rw [List.flatten_append, List.length_append]
 simpa using h1
theorem wpl_appV {ops : Array Oper} {rest : List Oper} {o : Oper} {a : Act} {Q : Exit → Act → World → Prop} (w : World) (hgd : o.guard = none) (s x : Operand) (ho : o.op = .call { callee := .builtin .append, args := #[s, x], argTypes := #[22, 22] })
 (B : Nat) (v : Value) (css : List (List Value)) (hs : a.eval s = v) (hown : OwnC B 25 6 v css w) (g : Nat) (row : List Value) (hrl : row.length = 6) (hone : ∀ u ∈ row, u.oneCell' = true) (hx : a.eval x = .slice (some ⟨g, 0, none⟩) 1 1) (hblk : w.heap[g]? = some (.cells row.toArray 25)) (hlen : css.length ≤ 8000000) (hbase : B ≤ w.heap.size)
 (h : ∀ v' w', OwnC B 25 6 v' (css ++ [row]) w' → w.grownBy w' v.ownBlock → wpList Tryz.prog ops Q rest (a.put o.dst v') w') : wpList Tryz.prog ops Q (o :: rest) a w := by
 obtain ⟨i1, hi1, hy0, hy1, hy2⟩ := info_parts infoVU
 refine wpList_append_own w hgd s x 22 ho B 25 i1 _ 6 88 Tryz.underlying22 hi1 hy0 hy1 hy2 rfl (by decide) v css.length css.flatten hs hown ⟨g, 0, none⟩ 1 1 row hx (by omega) (news_row hblk) hone (by unfold maxLen; omega) (by omega) hbase ?_
 intro v' w' h1 h2 _
 refine h v' w' ?_ h2
 show w'.ownsRow _ _ _ v' (css ++ [row]).length (css ++ [row]).flatten
 rw [List.flatten_append, List.length_append]
 simpa using h1
theorem step_appM {ops : Array Oper} {o : Oper} {a : Act} {w : World} {K' : Act → World → Prop} {Q : Exit → Act → World → Prop} {D : Prop} (hgd : o.guard = none) (s x : Operand) (ho : o.op = .call { callee := .builtin .append, args := #[s, x], argTypes := #[23, 23] })
 (B : Nat) (v : Value) (css : List (List Value)) (hs : a.eval s = v) (hown : OwnC B 39 7 v css w) (g : Nat) (row : List Value) (hrl : row.length = 7) (hone : ∀ u ∈ row, u.oneCell' = true) (hx : a.eval x = .slice (some ⟨g, 0, none⟩) 1 1) (hblk : w.heap[g]? = some (.cells row.toArray 39)) (hlen : css.length ≤ 8000000) (hbase : B ≤ w.heap.size)
 (h : ∀ v' w', OwnC B 39 7 v' (css ++ [row]) w' → w.grownBy w' v.ownBlock → K' (a.put o.dst v') w') : if Region.wanted o (yielded ops a.tmps) = true then Oper.wp Tryz.prog o a w K' Q else D := by
 have hw : Region.wanted o (yielded ops a.tmps) = true := by simp [Region.wanted, hgd]
 rw [if_pos hw]
 obtain ⟨i1, hi1, hy0, hy1, hy2⟩ := info_parts infoMU
 refine wp_append_own w s x 23 ho B 39 i1 _ 7 104 Tryz.underlying23 hi1 hy0 hy1 hy2 rfl (by decide) v css.length css.flatten hs hown ⟨g, 0, none⟩ 1 1 row hx (by omega) (news_row hblk) hone (by unfold maxLen; omega) (by omega) hbase ?_
 intro v' w' h1 h2 _
 refine h v' w' ?_ h2
 show w'.ownsRow _ _ _ v' (css ++ [row]).length (css ++ [row]).flatten
 rw [List.flatten_append, List.length_append]
 simpa using h1
theorem wpl_appM {ops : Array Oper} {rest : List Oper} {o : Oper} {a : Act} {Q : Exit → Act → World → Prop} (w : World) (hgd : o.guard = none) (s x : Operand) (ho : o.op = .call { callee := .builtin .append, args := #[s, x], argTypes := #[23, 23] })
 (B : Nat) (v : Value) (css : List (List Value)) (hs : a.eval s = v) (hown : OwnC B 39 7 v css w) (g : Nat) (row : List Value) (hrl : row.length = 7) (hone : ∀ u ∈ row, u.oneCell' = true) (hx : a.eval x = .slice (some ⟨g, 0, none⟩) 1 1) (hblk : w.heap[g]? = some (.cells row.toArray 39)) (hlen : css.length ≤ 8000000) (hbase : B ≤ w.heap.size)
 (h : ∀ v' w', OwnC B 39 7 v' (css ++ [row]) w' → w.grownBy w' v.ownBlock → wpList Tryz.prog ops Q rest (a.put o.dst v') w') : wpList Tryz.prog ops Q (o :: rest) a w := by
 obtain ⟨i1, hi1, hy0, hy1, hy2⟩ := info_parts infoMU
 refine wpList_append_own w hgd s x 23 ho B 39 i1 _ 7 104 Tryz.underlying23 hi1 hy0 hy1 hy2 rfl (by decide) v css.length css.flatten hs hown ⟨g, 0, none⟩ 1 1 row hx (by omega) (news_row hblk) hone (by unfold maxLen; omega) (by omega) hbase ?_
 intro v' w' h1 h2 _
 refine h v' w' ?_ h2
 show w'.ownsRow _ _ _ v' (css ++ [row]).length (css ++ [row]).flatten
 rw [List.flatten_append, List.length_append]
 simpa using h1
def acc {α : Type} (l : List α) (j i : Nat) : List α := if i ≤ j then l.take i else l.take j ++ (l.take i).drop (j + 1)
theorem acc_zero {α : Type} (l : List α) (j : Nat) : acc l j 0 = [] := by simp [acc]
theorem acc_skip {α : Type} (l : List α) (j : Nat) : acc l j (j + 1) = acc l j j := by
 rw [acc, acc, if_neg (by omega), if_pos (Nat.le_refl _)]
 rw [List.drop_eq_nil_of_le (by rw [List.length_take]; omega), List.append_nil]
theorem acc_next {α : Type} (l : List α) (j i : Nat) (h : i < l.length) (hne : i ≠ j) : acc l j (i + 1) = acc l j i ++ [l[i]] := by
 have e : l.take (i + 1) = l.take i ++ [l[i]] := by rw [List.take_add_one, List.getElem?_eq_getElem h]; rfl
 rw [acc, acc]
 by_cases hi : i < j
 ·rw [if_pos (by omega), if_pos (by omega), e]
 ·rw [if_neg (by omega), if_neg (by omega), e, List.drop_append_of_le_length (by rw [List.length_take]; omega), List.append_assoc]
theorem acc_all {α : Type} (l : List α) (j : Nat) : acc l j l.length = outL l j := by
 rw [acc, outL, List.take_length]
 by_cases h : l.length ≤ j
 ·rw [if_pos h, List.take_of_length_le h, List.drop_eq_nil_of_le (by omega), List.append_nil]
 ·rw [if_neg h]
theorem acc_len {α : Type} (l : List α) (j i : Nat) : (acc l j i).length ≤ l.length := by
 rw [acc]
 split
 ·rw [List.length_take]; omega
 ·rw [List.length_append, List.length_take, List.length_drop, List.length_take]; omega
theorem conv_oneG (W : World) (c : UInt8) (x : Int) (hx : x = (c.toNat : Int)) :
 (convert 95 9 (.slice (some ⟨W.heap.size, 0, none⟩) 1 1)).run Tryz.prog (W.alloc (.cells #[.int .u8 x] 5)) = .ok (.string ⟨#[c]⟩) (W.alloc (.cells #[.int .u8 x] 5)) := by
 subst hx
 refine run_convert_bytes_back (P := Tryz.prog) _ 95 9 5 ⟨W.heap.size, 0, none⟩ 1 [c] Tryz.underlying95 Tryz.underlying5 Tryz.underlying9 ?_
 intro j hj
 obtain rfl : j = 0 := by simpa using hj
 rw [Go.WideShapes.add_plain, cBk (heap_alloc_new W _)]
 rfl
theorem digB_lt {q : Nat} (h : q < 10) : digB q = ⟨#[UInt8.ofNat (48 + q % 10)]⟩ := by
 rw [digB, decDigits, dif_pos h, Nat.mod_eq_of_lt h]
theorem digB_ge {q : Nat} (h : ¬ q < 10) : digB q = digB (q / 10) ++ ⟨#[UInt8.ofNat (48 + q % 10)]⟩ := by
 rw [digB, decDigits, dif_neg h, digB]
 apply ByteArray.ext
 simp [ByteArray.data_append]
theorem dig_u8 (q : Nat) : (48 : Int) + ((q : Int) % 10) = ((UInt8.ofNat (48 + q % 10)).toNat : Int) := by
 rw [UInt8.toNat_ofNat']; omega
def SgPost (s : ByteArray) (w : World) (e : Ending) (w' : World) : Prop := e = .returned (.string s) ∧ Below w.heap.size w w'
set_option maxHeartbeats 8000000 in
set_option maxRecDepth 100000 in
theorem digit_any (N : Nat) (hN : N ≤ 4000000) (w : World) : Calls Tryz.prog 80 #[.int .i64 (N : Int)] w (SgPost (digB N) w) := by
 have hc := conv_oneG w (UInt8.ofNat (48 + N % 10)) (48 + (N : Int) % 10) (dig_u8 N)
 have HL : Hid (N < 10 → digB N = ⟨#[UInt8.ofNat (48 + N % 10)]⟩) := digB_lt
 have HG : Hid (¬ N < 10 → digB N = digB (N / 10) ++ ⟨#[UInt8.ofNat (48 + N % 10)]⟩) := digB_ge
 generalize UInt8.ofNat (48 + N % 10) = c at *
 generalize digB N = DN at *
 have e2 : ((N : Int)).tmod 10 = (N : Int) % 10 := by rw [Int.tmod_eq_emod_of_nonneg (by omega)]
 have e4 : IntKind.u8.wrap (48 + (N : Int) % 10) = 48 + (N : Int) % 10 := IntWalk.u8_in _ (by omega)
 have zc : (⟨#[c]⟩ : ByteArray).size = 1 := rfl
 go_enter Tryz.func80, Tryz.ntmps80
 go_wp2_with fail
 have B0 : Below w.heap.size w (w.alloc (.cells #[.int .u8 (48 + (N : Int) % 10)] 5)) := oBw _ _
 go_loopw [0, 3] (fun e0 e3 wr => ∃ (q : Nat) (t : ByteArray), e0 = .int .i64 (q : Int) ∧ e3 = .string t ∧ q ≤ N ∧ t.size + q ≤ N + 1 ∧ Below w.heap.size w wr ∧ Hid ((q < 10 → DN = t) ∧ (¬ q < 10 → DN = digB (q / 10) ++ t))) (fun e _ _ => (RowKit.intOf e).toNat)
 case atStart => exact ⟨N, ⟨#[c]⟩, rfl, rfl, by omega, by omega, B0, ⟨HL.out, HG.out⟩⟩
 case round =>
  clear hc e2 e4 HL HG B0
  obtain ⟨q, t, rfl, rfl, hq, ht, bq, HI⟩ := hrel
  have hzr := bq.size
  by_cases h10 : q < 10
  ·have y1 : ¬ (q : Int) ≥ 10 := by omega
   have HR : Hid (DN = t) := HI.out.1 h10
   go_wp2_with fail
   go_ret
   exact ⟨by rw [HR.out]; rfl, bq⟩
  ·have y1 : (q : Int) ≥ 10 := by omega
   have e1 : (q : Int).tdiv 10 = ((q / 10 : Nat) : Int) := by rw [Int.tdiv_eq_ediv_of_nonneg (by omega)]; rfl
   have e1' : (q : Int) / 10 = ((q / 10 : Nat) : Int) := rfl
   have hu : q / 10 < q := by omega
   have HI' : Hid (DN = digB (q / 10) ++ t) := HI.out.2 h10
   obtain ⟨u, hu'⟩ : ∃ u, q / 10 = u := ⟨_, rfl⟩
   rw [hu'] at e1 e1' hu HI'
   have hc := conv_oneG wr (UInt8.ofNat (48 + u % 10)) (48 + (u : Int) % 10) (dig_u8 u)
   have HL : Hid (u < 10 → DN = ⟨#[UInt8.ofNat (48 + u % 10)]⟩ ++ t) := fun h => by rw [HI'.out, digB_lt h]
   have HG : Hid (¬ u < 10 → DN = digB (u / 10) ++ (⟨#[UInt8.ofNat (48 + u % 10)]⟩ ++ t)) := fun h => by rw [HI'.out, digB_ge h, ByteArray.append_assoc]
   have hsz : (⟨#[UInt8.ofNat (48 + u % 10)]⟩ ++ t : ByteArray).size = 1 + t.size := by rw [ByteArray.size_append]; rfl
   have zc : (⟨#[UInt8.ofNat (48 + u % 10)]⟩ : ByteArray).size = 1 := rfl
   generalize UInt8.ofNat (48 + u % 10) = c at *
   have e2 : ((u : Int)).tmod 10 = (u : Int) % 10 := by rw [Int.tmod_eq_emod_of_nonneg (by omega)]
   have e4 : IntKind.u8.wrap (48 + (u : Int) % 10) = 48 + (u : Int) % 10 := IntWalk.u8_in _ (by omega)
   have B1 : Below w.heap.size w (wr.alloc (.cells #[.int .u8 (48 + (u : Int) % 10)] 5)) := bq.alloc hzr _
   clear HI HI' hu'
   go_wp2_with fail
   go_roundw
   case rel => exact ⟨u, ⟨#[c]⟩ ++ t, rfl, rfl, by omega, by omega, B1, ⟨HL.out, HG.out⟩⟩
   case measure => simp [RowKit.intOf]; omega
def ixI (o : Option Nat) : Int := match o with | some u => (u : Int) | none => -1
set_option maxHeartbeats 8000000 in
set_option maxRecDepth 100000 in
theorem rindex_any (tok : ByteArray) (n : Nat) (hn : n ≤ 2000000) (w : World) : Calls Tryz.prog 65 #[.string tok, .int .i64 (n : Int)] w (fun e w' => e = .returned (.int .i64 (ixI (idxF tok.data.toList n))) ∧ Below w.heap.size w w') := by
 have HN : Hid ((∀ i, i < n → decDigits i ≠ tok.data.toList) → idxF tok.data.toList n = none) := fun h => idxF_none h
 have HY : Hid (∀ i, i < n → decDigits i = tok.data.toList → idxF tok.data.toList n = some i) := fun i h1 h2 => idxF_some (by omega) h1 h2
 generalize idxF tok.data.toList n = O at *
 go_enter Tryz.func65, Tryz.ntmps65
 go_wp2_with fail
 go_loopw [5] (fun e wr => ∃ i : Nat, i ≤ n ∧ e = .int .i64 (i : Int) ∧ Below w.heap.size w wr ∧ Hid (∀ j, j < i → decDigits j ≠ tok.data.toList)) (fun e _ => n - (RowKit.intOf e).toNat)
 case atStart => exact ⟨0, by omega, rfl, Below.refl _ _, fun j hj => by omega⟩
 case round =>
  obtain ⟨i, hi, rfl, bi, HI⟩ := hrel
  have hzr := bi.size
  by_cases hin : i < n
  ·have y1 : (i : Int) < n := by omega
   have CD := hmk (digit_any i (by omega) wr)
   have HE : Hid ((digB i).toList = decDigits i) := by show _ = _; rw [ByteArray.toList_eq, digB]
   by_cases he : decDigits i = tok.data.toList
   ·have HO : Hid (O = some i) := HY.out i hin he
    have e1 : ((digB i).toList == tok.toList) = true := by rw [beq_iff_eq, HE.out, he, ByteArray.toList_eq]
    have e2 : (digB i).toList = tok.toList := by simpa using e1
    generalize digB i = d at *
    clear HE HY HN
    go_wp2_with fail
    refine CD.out.mono ?_
    rintro e w1 ⟨rfl, b1⟩
    go_wp2_with fail
    go_ret
    exact ⟨by rw [HO.out]; rfl, bi.trans (b1.mono hzr)⟩
   ·have e1 : ((digB i).toList == tok.toList) = false := by rw [beq_eq_false_iff_ne, HE.out, ByteArray.toList_eq]; exact he
    have e2 : ¬ (digB i).toList = tok.toList := by simpa using e1
    have HI2 : Hid (∀ j, j < i + 1 → decDigits j ≠ tok.data.toList) := fun j hj => by
     rcases Nat.lt_or_ge j i with h | h
     ·exact HI.out j h
     ·obtain rfl : j = i := by omega
      exact he
    generalize digB i = d at *
    clear HE HI he
    go_wp2_with fail
    refine CD.out.mono ?_
    rintro e w1 ⟨rfl, b1⟩
    go_wp2_with fail
    go_roundw
    case rel => exact ⟨i + 1, by omega, by go_num, bi.trans (b1.mono hzr), HI2⟩
    case measure => simp [RowKit.intOf]; omega
  ·obtain rfl : i = n := by omega
   have y1 : ¬ (i : Int) < i := by omega
   have HO : Hid (O = none) := HN.out HI.out
   go_wp2_with fail
   go_ret
   exact ⟨by rw [HO.out]; rfl, bi⟩
end Go.Proofs.YtnakligbogkmbaaGreatDoor
