import Derived.Test.YtjfldbmopjojdabDoorAnwC
import Derived.Laws.AppendOwnNone
import Derived.LoopN
set_option linter.unusedSimpArgs false
set_option linter.unusedVariables false
namespace Go.Proofs.YtjfldbmopjojdabDoor
open Go.RowKit Go.Lib
theorem hmk {p : Prop} (h : p) : Hid p := h
theorem one_belowG (w : World) (o : Obj) : Below w.heap.size w (w.alloc o) := (Below.refl _ _).alloc (Nat.le_refl _) _
def OrNew (S : Nat → Prop) (w w' : World) (y : Nat) : Prop := S y ∨ New w w' y
def RpPost (x : V) (S : Nat → Prop) (w : World) (e : Ending) (w' : World) : Prop := ∃ cs : List Value, e = .returned (.agg cs.toArray) ∧ x.lies false w' (OrNew S w w') cs ∧ Below w.heap.size w w'
structure RowsOf (w : World) (b o c : Nat) (css : List (List Value)) : Prop where
 len : ∀ x ∈ css, x.length = c
 one : ∀ x ∈ css, ∀ u ∈ x, u.oneCell' = true
 row : ∀ (j : Nat) (h : j < css.length), rowAt w b (o + j * c) css[j]
theorem flat_get {c : Nat} : ∀ {css : List (List Value)}, (∀ x ∈ css, x.length = c) → ∀ (j r : Nat) (hr : r < c) (hj : j < css.length), css.flatten[j * c + r]? = (css[j])[r]?
 | [], _, j, r, hr, hj => by simp at hj
 | x :: t, h, 0, r, hr, hj => by
  rw [List.flatten_cons, Nat.zero_mul, Nat.zero_add, List.getElem?_append_left (by rw [h x List.mem_cons_self]; exact hr)]
  rfl
 | x :: t, h, j + 1, r, hr, hj => by
  have hx := h x List.mem_cons_self
  have := flat_get (css := t) (fun y hy => h y (List.mem_cons_of_mem _ hy)) j r hr (by simpa using hj)
  have e : (j + 1) * c + r = c + (j * c + r) := by rw [Nat.add_mul]; omega
  rw [List.flatten_cons, e, List.getElem?_append_right (by omega), hx, Nat.add_sub_cancel_left, this]
  rfl
theorem one_of_lies {v : V} {w : World} {S : Nat → Prop} {cs : List Value} (h : v.lies false w S cs) : cs.length = 6 ∧ ∀ u ∈ cs, u.oneCell' = true := by
 obtain ⟨k, b, i, s, al, nl, cl, am, nm, cm, rfl⟩ := V.ten h
 refine ⟨rfl, fun u hu => ?_⟩
 simp only [List.mem_cons, List.not_mem_nil, or_false] at hu
 rcases hu with rfl | rfl | rfl | rfl | rfl | rfl <;> rfl
theorem rowsM_of {w : World} {S : Nat → Prop} : ∀ {l : List Mem} {b o : Nat}, liesM false w S l b o → ∃ css : List (List Value), css.length = l.length ∧ RowsOf w b o 7 css ∧ ∀ (j : Nat) (h : j < l.length) (h' : j < css.length), ∃ cs, css[j] = .string (l[j]).1 :: cs ∧ (l[j]).1.size ≤ maxLen ∧ (l[j]).2.lies false w S cs
 | [], b, o, _ => ⟨[], rfl, ⟨by simp, by simp, by intro j h; simp at h⟩, by intro j h; simp at h⟩
 | (k, x) :: t, b, o, hl => by
  rw [liesM] at hl
  obtain ⟨hS, ⟨hk, cs, hr, hx⟩, ht⟩ := hl
  obtain ⟨css, h1, h2, h3⟩ := rowsM_of ht
  have ho := one_of_lies hx
  refine ⟨(.string k :: cs) :: css, by simp [h1], ⟨?_, ?_, ?_⟩, ?_⟩
  ·intro y hy
   rcases List.mem_cons.1 hy with rfl | hy
   ·simp [ho.1]
   ·exact h2.len y hy
  ·intro y hy
   rcases List.mem_cons.1 hy with rfl | hy
   ·intro u hu
    rcases List.mem_cons.1 hu with rfl | hu
    ·rfl
    ·exact ho.2 u hu
   ·exact h2.one y hy
  ·intro j hj
   cases j with
   | zero => simpa using hr
   | succ j =>
    have := h2.row j (by simpa using hj)
    rw [show o + 7 + j * 7 = o + (j + 1) * 7 by omega] at this
    simpa using this
  ·intro j hj hj'
   cases j with
   | zero => exact ⟨cs, by simp, by simpa using hk, by simpa using hx⟩
   | succ j => simpa using h3 j (by simpa using hj) (by simpa using hj')
def OwnC (B e c : Nat) (v : Value) (css : List (List Value)) (w : World) : Prop := w.ownsRow B e c v css.length css.flatten
structure SegR where
 a : Option Addr
 css : List (List Value)
 c : Nat
 b : Nat
 o : Nat
structure SegAt (c : Nat) (w : World) (S : Nat → Prop) (g : SegR) : Prop where
 hd : Headed g.a g.css.length g.c g.b g.o
 rw_ : RowsOf w g.b g.o c g.css
 ins : 0 < g.css.length → S g.b
theorem SegAt.below {c : Nat} {w w' : World} {S : Nat → Prop} {g : SegR} (h : SegAt c w S g) (hS : ∀ b, S b → b < w.heap.size) (hb : Below w.heap.size w w') : SegAt c w' S g :=
 ⟨h.hd, ⟨h.rw_.len, h.rw_.one, fun j hj => (h.rw_.row j hj).keep (hb.block _ (hS _ (h.ins (by omega))))⟩, h.ins⟩
theorem infoMU : (Tryd.prog.info? 39).map (fun i => (i.zero, i.size, i.bytes)) = some (some (.agg #[.string ⟨#[]⟩, .int .i64 0, .bool false, .int .i64 0, .string ⟨#[]⟩, .slice none 0 0, .slice none 0 0]), 7, 104) := by kernel_rfl
theorem RowsOf.take {w : World} {b o c : Nat} {css : List (List Value)} (h : RowsOf w b o c css) (p : Nat) : RowsOf w b o c (css.take p) :=
 ⟨fun x hx => h.len x (List.mem_of_mem_take hx), fun x hx => h.one x (List.mem_of_mem_take hx), fun j hj => by
  rw [List.getElem_take]
  exact h.row j (by rw [List.length_take] at hj; omega)⟩
theorem RowsOf.drop {w : World} {b o c : Nat} {css : List (List Value)} (h : RowsOf w b o c css) (p : Nat) : RowsOf w b (o + p * c) c (css.drop p) :=
 ⟨fun x hx => h.len x (List.mem_of_mem_drop hx), fun x hx => h.one x (List.mem_of_mem_drop hx), fun j hj => by
  rw [List.length_drop] at hj
  rw [List.getElem_drop, show o + p * c + j * c = o + (p + j) * c by rw [Nat.add_mul]; omega]
  exact h.row (p + j) (by omega)⟩
theorem zip_maps {α β : Type} : ∀ (l : List α) (r : List β), l.length = r.length → (l.zip r).map (fun q => q.1) = l ∧ (l.zip r).map (fun q => q.2) = r
 | [], [], _ => by simp
 | [], y :: r, h => by simp at h
 | x :: l, [], h => by simp at h
 | x :: l, y :: r, h => by
  have := zip_maps l r (by simpa using h)
  simp [this.1, this.2]
def PL (w : World) (S : Nat → Prop) (q : V × List Value) : Prop := q.1.lies false w S q.2
theorem PL.keep {w w' : World} {S S' : Nat → Prop} {q : V × List Value} (h : PL w S q) (hw : ∀ b, S b → w'.heap[b]? = w.heap[b]?) (hS : ∀ b, S b → S' b) : PL w' S' q := V.lies_keep (fun h => h) hw hS _ h
def PM (w : World) (S : Nat → Prop) (q : Mem × List Value) : Prop := ∃ cs, q.2 = .string q.1.1 :: cs ∧ q.1.1.size ≤ maxLen ∧ q.1.2.lies false w S cs
theorem PM.keep {w w' : World} {S S' : Nat → Prop} {q : Mem × List Value} (h : PM w S q) (hw : ∀ b, S b → w'.heap[b]? = w.heap[b]?) (hS : ∀ b, S b → S' b) : PM w' S' q := by
 obtain ⟨cs, h1, h2, h3⟩ := h
 exact ⟨cs, h1, h2, V.lies_keep (fun h => h) hw hS _ h3⟩
theorem segM {w : World} {S : Nat → Prop} {l : List Mem} {b o : Nat} (h : liesM false w S l b o) : ∃ ps : List (Mem × List Value), ps.map (fun q => q.1) = l ∧ RowsOf w b o 7 (ps.map (fun q => q.2)) ∧ (∀ q ∈ ps, PM w S q) ∧ (0 < ps.length → S b) := by
 obtain ⟨css, h1, h2, h3⟩ := rowsM_of h
 have hz := zip_maps l css h1.symm
 refine ⟨l.zip css, hz.1, by rw [hz.2]; exact h2, fun q hq => ?_, fun hp => ?_⟩
 ·obtain ⟨j, hj, rfl⟩ := List.getElem_of_mem hq
  rw [List.length_zip] at hj
  rw [List.getElem_zip]
  exact h3 j (by omega) (by omega)
 ·rw [List.length_zip] at hp
  exact (liesM_get h 0 (by omega)).1
theorem ownM {w : World} {S : Nat → Prop} {B : Nat} {v : Value} {ps : List (Mem × List Value)} (h : OwnC B 39 7 v (ps.map (fun q => q.2)) w) (hp : ∀ q ∈ ps, PM w S q) : ∃ a n b o, v = .slice a (ps.map (fun q => q.1)).length n ∧ Headed a (ps.map (fun q => q.1)).length n b o ∧ liesM false w (fun x => S x ∨ (B ≤ x ∧ x < w.heap.size)) (ps.map (fun q => q.1)) b o := by
 have h' := h
 rcases h.2 with ⟨rfl, e⟩ | ⟨g, cap, cur, rfl, hB, hg, hle, hmax, hsz, htk⟩
 ·have e0 : ps = [] := by simpa using e
  subst e0
  exact ⟨none, 0, 0, 0, rfl, ⟨Nat.le_refl _, Nat.zero_le _, .inl rfl, fun _ => rfl⟩, by rw [List.map_nil, liesM]; trivial⟩
 ·simp only [List.length_map] at hle
  have hgl := (World.ownsRow.lt h' g rfl).2
  refine ⟨some ⟨g, 0, none⟩, cap, g, 0, by rw [List.length_map, List.length_map], ⟨by rw [List.length_map]; exact hle, hmax, .inr rfl, fun h => by cases h⟩, liesM_mk fun j hj => ?_⟩
  have hj' : j < ps.length := by simpa using hj
  have hq := hp ps[j] (List.getElem_mem hj')
  have hlen : ∀ x ∈ ps.map (fun q => q.2), x.length = 7 := fun x hx => by
   obtain ⟨q, hq, rfl⟩ := List.mem_map.1 hx
   exact by
    obtain ⟨cs, e0, _, e1⟩ := hp q hq
    obtain ⟨k, b, i, s, al, nl, cl, am, nm, cm, e⟩ := V.ten e1
    rw [e0, e]; rfl
  have hrow : rowAt w g (0 + j * 7) (ps[j]).2 := fun r u hu => by
   have hr : r < 7 := by
    have := (List.getElem?_eq_some_iff.1 hu).1
    have h9 := hlen (ps[j]).2 (List.mem_map.2 ⟨_, List.getElem_mem hj', rfl⟩)
    omega
   have h1 := flat_get hlen j r hr (by simpa using hj')
   rw [List.getElem_map] at h1
   have h2 := World.ownsRow.cells h' (g := g) rfl (j * 7 + r) u (by rw [h1]; exact hu)
   rw [Go.WideShapes.add_plain] at h2
   simpa using h2
  rw [List.getElem_map]
  obtain ⟨cs, e0, e1, e2⟩ := hq
  rw [e0] at hrow
  exact ⟨.inr ⟨hB, hgl⟩, e1, cs, hrow, V.lies_keep (fun h => h) (fun _ _ => rfl) (fun b hb => .inl hb) _ e2⟩
theorem news_row {w : World} {g : Nat} {row : List Value} {ty : TypeId} (h : w.heap[g]? = some (.cells row.toArray ty)) : ∀ j u, row[j]? = some u → w.cell? ((⟨g, 0, none⟩ : Addr).add j) = some u := fun j u hu => by
 rw [Go.WideShapes.add_plain, cell_of_block h]
 simpa using hu
theorem OwnC.below {B e c : Nat} {v : Value} {css : List (List Value)} {w w' : World} (h : OwnC B e c v css w) (hb : Below w.heap.size w w') : OwnC B e c v css w' :=
 World.ownsRow.kept (row := none) h ⟨hb.os, hb.tape, hb.output, hb.size, fun k hk _ => hb.block k hk⟩ (by cases v.ownBlock <;> simp)
theorem OwnC.alloc {B e c : Nat} {v : Value} {css : List (List Value)} {w : World} (h : OwnC B e c v css w) (o : Obj) : OwnC B e c v css (w.alloc o) :=
 World.ownsRow.kept h (World.grownBy_alloc w o none) (by cases v.ownBlock <;> simp)
theorem OwnC.move {B e c : Nat} {v : Value} {css : List (List Value)} {w w' : World} (h : OwnC B e c v css w) (hk : ∀ b, B ≤ b → b < w.heap.size → w'.heap[b]? = w.heap[b]?) : OwnC B e c v css w' := by
 refine ⟨h.1, ?_⟩
 rcases h.2 with hn | ⟨g, cap, cur, rfl, hb, hgg, rest⟩
 ·exact .inl hn
 ·exact .inr ⟨g, cap, cur, rfl, hb, (hk g hb (Array.getElem?_eq_some_iff.1 hgg).1).trans hgg, rest⟩
theorem OwnC.slice {B e c : Nat} {v : Value} {css : List (List Value)} {w : World} (h : OwnC B e c v css w) : ∃ a n, v = .slice a css.length n := by
 rcases h.2 with ⟨rfl, e⟩ | ⟨g, cap, cur, rfl, _⟩
 ·exact ⟨_, _, by rw [e]⟩
 ·exact ⟨_, _, rfl⟩
theorem step_appM {ops : Array Oper} {o : Oper} {a : Act} {w : World} {K' : Act → World → Prop} {Q : Exit → Act → World → Prop} {D : Prop} (hgd : o.guard = none) (s x : Operand) (ho : o.op = .call { callee := .builtin .append, args := #[s, x], argTypes := #[23, 23] })
 (B : Nat) (v : Value) (css : List (List Value)) (hs : a.eval s = v) (hown : OwnC B 39 7 v css w) (g : Nat) (row : List Value) (hrl : row.length = 7) (hone : ∀ u ∈ row, u.oneCell' = true) (hx : a.eval x = .slice (some ⟨g, 0, none⟩) 1 1) (hblk : w.heap[g]? = some (.cells row.toArray 39)) (hlen : css.length ≤ 8000000) (hbase : B ≤ w.heap.size)
 (h : ∀ v' w', OwnC B 39 7 v' (css ++ [row]) w' → w.grownBy w' v.ownBlock → K' (a.put o.dst v') w') : if Region.wanted o (yielded ops a.tmps) = true then Oper.wp Tryd.prog o a w K' Q else D := by
 have hw : Region.wanted o (yielded ops a.tmps) = true := by simp [Region.wanted, hgd]
 rw [if_pos hw]
 obtain ⟨i1, hi1, hy0, hy1, hy2⟩ := info_parts infoMU
 refine wp_append_own w s x 23 ho B 39 i1 _ 7 104 Tryd.underlying23 hi1 hy0 hy1 hy2 rfl (by decide) v css.length css.flatten hs hown ⟨g, 0, none⟩ 1 1 row hx (by omega) (news_row hblk) hone (by unfold maxLen; omega) (by omega) hbase ?_
 intro v' w' h1 h2 _
 refine h v' w' ?_ h2
 show w'.ownsRow _ _ _ v' (css ++ [row]).length (css ++ [row]).flatten
 rw [List.flatten_append, List.length_append]
 simpa using h1
theorem wpl_appM {ops : Array Oper} {rest : List Oper} {o : Oper} {a : Act} {Q : Exit → Act → World → Prop} (w : World) (hgd : o.guard = none) (s x : Operand) (ho : o.op = .call { callee := .builtin .append, args := #[s, x], argTypes := #[23, 23] })
 (B : Nat) (v : Value) (css : List (List Value)) (hs : a.eval s = v) (hown : OwnC B 39 7 v css w) (g : Nat) (row : List Value) (hrl : row.length = 7) (hone : ∀ u ∈ row, u.oneCell' = true) (hx : a.eval x = .slice (some ⟨g, 0, none⟩) 1 1) (hblk : w.heap[g]? = some (.cells row.toArray 39)) (hlen : css.length ≤ 8000000) (hbase : B ≤ w.heap.size)
 (h : ∀ v' w', OwnC B 39 7 v' (css ++ [row]) w' → w.grownBy w' v.ownBlock → wpList Tryd.prog ops Q rest (a.put o.dst v') w') : wpList Tryd.prog ops Q (o :: rest) a w := by
 obtain ⟨i1, hi1, hy0, hy1, hy2⟩ := info_parts infoMU
 refine wpList_append_own w hgd s x 23 ho B 39 i1 _ 7 104 Tryd.underlying23 hi1 hy0 hy1 hy2 rfl (by decide) v css.length css.flatten hs hown ⟨g, 0, none⟩ 1 1 row hx (by omega) (news_row hblk) hone (by unfold maxLen; omega) (by omega) hbase ?_
 intro v' w' h1 h2 _
 refine h v' w' ?_ h2
 show w'.ownsRow _ _ _ v' (css ++ [row]).length (css ++ [row]).flatten
 rw [List.flatten_append, List.length_append]
 simpa using h1
end Go.Proofs.YtjfldbmopjojdabDoor
