/- joined: TogB PchA -/
import Derived.Test.YtjfldbmopjojdabDoorG22
set_option linter.unusedSimpArgs false
set_option linter.unusedVariables false
namespace Go.Proofs.YtjfldbmopjojdabDoor
open Go Go.RowKit Go.Lib Go.Shelf
structure Kx (n0 vx : Nat) (w w' : World) : Prop where
 os : w'.os = w.os
 tape : w'.tape = w.tape
 output : w'.output = w.output
 size : w.heap.size ≤ w'.heap.size
 block : ∀ k, k < n0 → k ≠ vx → w'.heap[k]? = w.heap[k]?
theorem kx_of {n0 vx : Nat} {w w' : World} (h : Below n0 w w') : Kx n0 vx w w' := ⟨h.os, h.tape, h.output, h.size, fun k hk _ => h.block k hk⟩
theorem Kx.trans {n0 vx : Nat} {a b c : World} (h : Kx n0 vx a b) (k : Kx n0 vx b c) : Kx n0 vx a c := ⟨k.os.trans h.os, k.tape.trans h.tape, k.output.trans h.output, Nat.le_trans h.size k.size, fun q hq hv => (k.block q hq hv).trans (h.block q hq hv)⟩
theorem Kx.refl (n0 vx : Nat) (w : World) : Kx n0 vx w w := ⟨rfl, rfl, rfl, Nat.le_refl _, fun _ _ _ => rfl⟩
theorem Kx.cell {n0 vx : Nat} {w w' : World} (h : Kx n0 vx w w') {p : Addr} (hp : p.block < n0) (hv : p.block ≠ vx) : w'.cell? p = w.cell? p := World.cell?_of_block (h.block _ hp hv)
theorem drew_at (W : World) (z : Nat) : W.drew.heap[z]? = W.heap[z]? := rfl
theorem drew_sz (W : World) : W.drew.heap.size = W.heap.size := rfl
theorem fillA0 {w : World} {g : Nat} {ty : TypeId} {c0 c1 c2 c3 c4 c5 c6 c7 c8 c9 c10 c11 c12 c13 : Value} (h : w.heap[g]? = some (.cells #[c0, c1, c2, c3, c4, c5, c6, c7, c8, c9, c10, c11, c12, c13] ty)) (d0 d1 d2 d3 d4 d5 e : Value) : (((((((w.setCell ⟨g, 0, none⟩ d0).setCell ⟨g, 1, none⟩ d1).setCell ⟨g, 2, none⟩ d2).setCell ⟨g, 3, none⟩ d3).setCell ⟨g, 4, none⟩ d4).setCell ⟨g, 5, none⟩ d5).setCell ⟨g, 12, none⟩ e).heap[g]? = some (.cells #[d0, d1, d2, d3, d4, d5, c6, c7, c8, c9, c10, c11, e, c13] ty) := by
 have h0 : (w.setCell ⟨g, 0, none⟩ d0).heap[g]? = some (.cells #[d0, c1, c2, c3, c4, c5, c6, c7, c8, c9, c10, c11, c12, c13] ty) := by rw [set_block h]; rfl
 have h1 : ((w.setCell ⟨g, 0, none⟩ d0).setCell ⟨g, 1, none⟩ d1).heap[g]? = some (.cells #[d0, d1, c2, c3, c4, c5, c6, c7, c8, c9, c10, c11, c12, c13] ty) := by rw [set_block h0]; rfl
 have h2 : (((w.setCell ⟨g, 0, none⟩ d0).setCell ⟨g, 1, none⟩ d1).setCell ⟨g, 2, none⟩ d2).heap[g]? = some (.cells #[d0, d1, d2, c3, c4, c5, c6, c7, c8, c9, c10, c11, c12, c13] ty) := by rw [set_block h1]; rfl
 have h3 : ((((w.setCell ⟨g, 0, none⟩ d0).setCell ⟨g, 1, none⟩ d1).setCell ⟨g, 2, none⟩ d2).setCell ⟨g, 3, none⟩ d3).heap[g]? = some (.cells #[d0, d1, d2, d3, c4, c5, c6, c7, c8, c9, c10, c11, c12, c13] ty) := by rw [set_block h2]; rfl
 have h4 : (((((w.setCell ⟨g, 0, none⟩ d0).setCell ⟨g, 1, none⟩ d1).setCell ⟨g, 2, none⟩ d2).setCell ⟨g, 3, none⟩ d3).setCell ⟨g, 4, none⟩ d4).heap[g]? = some (.cells #[d0, d1, d2, d3, d4, c5, c6, c7, c8, c9, c10, c11, c12, c13] ty) := by rw [set_block h3]; rfl
 have h5 : ((((((w.setCell ⟨g, 0, none⟩ d0).setCell ⟨g, 1, none⟩ d1).setCell ⟨g, 2, none⟩ d2).setCell ⟨g, 3, none⟩ d3).setCell ⟨g, 4, none⟩ d4).setCell ⟨g, 5, none⟩ d5).heap[g]? = some (.cells #[d0, d1, d2, d3, d4, d5, c6, c7, c8, c9, c10, c11, c12, c13] ty) := by rw [set_block h4]; rfl
 rw [set_block h5]; rfl
theorem fillAo0 (w : World) (g : Nat) (d0 d1 d2 d3 d4 d5 e : Value) : w.grownBy (((((((w.setCell ⟨g, 0, none⟩ d0).setCell ⟨g, 1, none⟩ d1).setCell ⟨g, 2, none⟩ d2).setCell ⟨g, 3, none⟩ d3).setCell ⟨g, 4, none⟩ d4).setCell ⟨g, 5, none⟩ d5).setCell ⟨g, 12, none⟩ e) (some g) ∧ (((((((w.setCell ⟨g, 0, none⟩ d0).setCell ⟨g, 1, none⟩ d1).setCell ⟨g, 2, none⟩ d2).setCell ⟨g, 3, none⟩ d3).setCell ⟨g, 4, none⟩ d4).setCell ⟨g, 5, none⟩ d5).setCell ⟨g, 12, none⟩ e).heap.size = w.heap.size := by
 refine ⟨grown_set (grown_set (grown_set (grown_set (grown_set (grown_set (grown_set (World.grownBy.refl w _) 0 d0) 1 d1) 2 d2) 3 d3) 4 d4) 5 d5) 12 e, by simp only [size_set1]⟩
theorem fillB0 {w : World} {g : Nat} {ty : TypeId} {c0 c1 c2 c3 c4 c5 c6 c7 c8 c9 c10 c11 c12 c13 : Value} (h : w.heap[g]? = some (.cells #[c0, c1, c2, c3, c4, c5, c6, c7, c8, c9, c10, c11, c12, c13] ty)) (d0 d1 d2 d3 d4 d5 e : Value) : (((((((w.setCell ⟨g, 6, none⟩ d0).setCell ⟨g, 7, none⟩ d1).setCell ⟨g, 8, none⟩ d2).setCell ⟨g, 9, none⟩ d3).setCell ⟨g, 10, none⟩ d4).setCell ⟨g, 11, none⟩ d5).setCell ⟨g, 13, none⟩ e).heap[g]? = some (.cells #[c0, c1, c2, c3, c4, c5, d0, d1, d2, d3, d4, d5, c12, e] ty) := by
 have h0 : (w.setCell ⟨g, 6, none⟩ d0).heap[g]? = some (.cells #[c0, c1, c2, c3, c4, c5, d0, c7, c8, c9, c10, c11, c12, c13] ty) := by rw [set_block h]; rfl
 have h1 : ((w.setCell ⟨g, 6, none⟩ d0).setCell ⟨g, 7, none⟩ d1).heap[g]? = some (.cells #[c0, c1, c2, c3, c4, c5, d0, d1, c8, c9, c10, c11, c12, c13] ty) := by rw [set_block h0]; rfl
 have h2 : (((w.setCell ⟨g, 6, none⟩ d0).setCell ⟨g, 7, none⟩ d1).setCell ⟨g, 8, none⟩ d2).heap[g]? = some (.cells #[c0, c1, c2, c3, c4, c5, d0, d1, d2, c9, c10, c11, c12, c13] ty) := by rw [set_block h1]; rfl
 have h3 : ((((w.setCell ⟨g, 6, none⟩ d0).setCell ⟨g, 7, none⟩ d1).setCell ⟨g, 8, none⟩ d2).setCell ⟨g, 9, none⟩ d3).heap[g]? = some (.cells #[c0, c1, c2, c3, c4, c5, d0, d1, d2, d3, c10, c11, c12, c13] ty) := by rw [set_block h2]; rfl
 have h4 : (((((w.setCell ⟨g, 6, none⟩ d0).setCell ⟨g, 7, none⟩ d1).setCell ⟨g, 8, none⟩ d2).setCell ⟨g, 9, none⟩ d3).setCell ⟨g, 10, none⟩ d4).heap[g]? = some (.cells #[c0, c1, c2, c3, c4, c5, d0, d1, d2, d3, d4, c11, c12, c13] ty) := by rw [set_block h3]; rfl
 have h5 : ((((((w.setCell ⟨g, 6, none⟩ d0).setCell ⟨g, 7, none⟩ d1).setCell ⟨g, 8, none⟩ d2).setCell ⟨g, 9, none⟩ d3).setCell ⟨g, 10, none⟩ d4).setCell ⟨g, 11, none⟩ d5).heap[g]? = some (.cells #[c0, c1, c2, c3, c4, c5, d0, d1, d2, d3, d4, d5, c12, c13] ty) := by rw [set_block h4]; rfl
 rw [set_block h5]; rfl
theorem fillBo0 (w : World) (g : Nat) (d0 d1 d2 d3 d4 d5 e : Value) : w.grownBy (((((((w.setCell ⟨g, 6, none⟩ d0).setCell ⟨g, 7, none⟩ d1).setCell ⟨g, 8, none⟩ d2).setCell ⟨g, 9, none⟩ d3).setCell ⟨g, 10, none⟩ d4).setCell ⟨g, 11, none⟩ d5).setCell ⟨g, 13, none⟩ e) (some g) ∧ (((((((w.setCell ⟨g, 6, none⟩ d0).setCell ⟨g, 7, none⟩ d1).setCell ⟨g, 8, none⟩ d2).setCell ⟨g, 9, none⟩ d3).setCell ⟨g, 10, none⟩ d4).setCell ⟨g, 11, none⟩ d5).setCell ⟨g, 13, none⟩ e).heap.size = w.heap.size := by
 refine ⟨grown_set (grown_set (grown_set (grown_set (grown_set (grown_set (grown_set (World.grownBy.refl w _) 6 d0) 7 d1) 8 d2) 9 d3) 10 d4) 11 d5) 13 e, by simp only [size_set1]⟩
theorem map_cons {α β : Type} {f : α → β} {l : List α} {y : β} {t : List β} (h : l.map f = y :: t) : ∃ x r, l = x :: r ∧ f x = y ∧ r.map f = t := by
 cases l with
 | nil => simp at h
 | cons x r => rw [List.map_cons] at h; injection h with h1 h2; exact ⟨x, r, rfl, h1, h2⟩
attribute [local go_sem] Oper.semAt_some
end Go.Proofs.YtjfldbmopjojdabDoor
namespace Go.Proofs.YtjfldbmopjojdabDoor
open Go Go.RowKit Go.Lib Go.Shelf
def IsCells (w : World) (b : Nat) : Prop := ∃ o : Obj, w.heap[b]? = some o ∧ o.isCells = true
theorem isCells_row {w : World} {b o : Nat} {u : Value} {cs : List Value} (h : rowAt w b o (u :: cs)) : IsCells w b := by
 have h1 := h 0 u rfl
 exact cells_of_cell h1
mutual
theorem lies_cells {R : Bool} {w : World} {S : Nat → Prop} (hR : R = false) : ∀ (v : V) {cs : List Value}, v.lies R w S cs → v.lies R w (fun b => S b ∧ IsCells w b) cs
 | .mk k b i s l m, cs, h => by
  rw [V.lies] at h ⊢
  obtain ⟨al, cl, bl, ol, am, cm, bm, om, e, h1, h2, h0, h3, h4, h5, h6, h7⟩ := h
  exact ⟨al, cl, bl, ol, am, cm, bm, om, e, h1, h2, h0, h3, h4, liesL_cells hR l h5, liesM_cells hR m h6, fun r => by rw [hR] at r; cases r⟩
theorem liesL_cells {R : Bool} {w : World} {S : Nat → Prop} (hR : R = false) : ∀ (l : List V) {b o : Nat}, liesL R w S l b o → liesL R w (fun b => S b ∧ IsCells w b) l b o
 | [], b, o, h => by rw [liesL]; trivial
 | x :: t, b, o, h => by
  rw [liesL] at h ⊢
  obtain ⟨h1, ⟨cs, h2, h3⟩, h4⟩ := h
  obtain ⟨k, bb, i, s, al, nl, cl, am, nm, cm, e⟩ := V.ten h3
  exact ⟨⟨h1, by rw [e] at h2; exact isCells_row h2⟩, ⟨cs, h2, lies_cells hR x h3⟩, liesL_cells hR t h4⟩
theorem liesM_cells {R : Bool} {w : World} {S : Nat → Prop} (hR : R = false) : ∀ (l : List Mem) {b o : Nat}, liesM R w S l b o → liesM R w (fun b => S b ∧ IsCells w b) l b o
 | [], b, o, h => by rw [liesM]; trivial
 | (k, x) :: t, b, o, h => by
  rw [liesM] at h ⊢
  obtain ⟨h1, ⟨h0, cs, h2, h3⟩, h4⟩ := h
  exact ⟨⟨h1, isCells_row h2⟩, ⟨h0, cs, h2, lies_cells hR x h3⟩, liesM_cells hR t h4⟩
end
def Sq (S : Nat → Prop) (B : Nat) (sl : Value) (W : World) (y : Nat) : Prop := S y ∨ (B ≤ y ∧ y < W.heap.size ∧ sl.ownBlock ≠ some y)
structure AccK (S : Nat → Prop) (B : Nat) (ms : List Mem) (sl : Value) (W : World) : Prop where
 row : ∃ ps : List (Mem × List Value), ps.map (fun q => q.1) = ms ∧ OwnC B 39 7 sl (ps.map (fun q => q.2)) W ∧ ∀ q ∈ ps, PM W (Sq S B sl W) q
theorem AccK.nil (S : Nat → Prop) (B : Nat) (W : World) : AccK S B [] (.slice none 0 0) W :=
 ⟨⟨[], rfl, World.ownsRow_nil W B 39 7, fun q hq => by cases hq⟩⟩
theorem AccK.keep {S : Nat → Prop} {B : Nat} {ms : List Mem} {sl : Value} {W W' : World} (h : AccK S B ms sl W) (hk : ∀ y, S y ∨ (B ≤ y ∧ y < W.heap.size) → W'.heap[y]? = W.heap[y]?) (hz : W.heap.size ≤ W'.heap.size) : AccK S B ms sl W' := by
 obtain ⟨ps, e, ho, hp⟩ := h.row
 refine ⟨ps, e, ho.move (fun b hb hb' => hk b (.inr ⟨hb, hb'⟩)), fun q hq => (hp q hq).keep (fun b hb => hk b ?_) (fun b hb => ?_)⟩
 ·exact hb.elim .inl (fun h => .inr ⟨h.1, h.2.1⟩)
 ·exact hb.elim .inl (fun h => .inr ⟨h.1, Nat.lt_of_lt_of_le h.2.1 hz, h.2.2⟩)
theorem AccK.own {S : Nat → Prop} {B : Nat} {ms : List Mem} {sl : Value} {W W' : World} {row : Option Nat} (h : AccK S B ms sl W) (hS : ∀ y, S y → y < W.heap.size) (hg : W.grownBy W' row) (hr : ∀ r, row = some r → ∃ o : Obj, W.heap[r]? = some o ∧ o.isCells = false) : AccK S B ms sl W' := by
 obtain ⟨ps, e, ho, hp⟩ := h.row
 have hne : ∀ b, IsCells W b → some b ≠ row := fun b ⟨o, h1, h2⟩ e => by
  obtain ⟨o', h3, h4⟩ := hr b e.symm
  rw [h1] at h3
  cases h3
  rw [h2] at h4; cases h4
 refine ⟨ps, e, ?_, fun q hq => ?_⟩
 ·refine World.ownsRow.kept ho hg ?_
  rcases ho.2 with ⟨rfl, _⟩ | ⟨g, cap, cur, rfl, hB, hgg, _⟩
  ·exact .inl rfl
  ·refine .inr (fun e => hne g ⟨_, hgg, rfl⟩ e)
 ·obtain ⟨cs, e0, e1, e2⟩ := hp q hq
  refine ⟨cs, e0, e1, V.lies_keep (fun h => h) (fun b hb => hg.block b (hb.1.elim (fun h => hS b h) (fun h => h.2.1)) (hne b hb.2)) (fun b hb => ?_) _ (lies_cells rfl _ e2)⟩
  exact hb.1.elim .inl (fun h => .inr ⟨h.1, Nat.lt_of_lt_of_le h.2.1 hg.size, h.2.2⟩)
theorem AccK.len {S : Nat → Prop} {B : Nat} {ms : List Mem} {sl : Value} {W : World} (h : AccK S B ms sl W) : ∃ a c, sl = .slice a ms.length c := by
 obtain ⟨ps, e, ho, hp⟩ := h.row
 obtain ⟨a, n, e2⟩ := ho.slice
 exact ⟨a, n, by rw [e2, ← e, List.length_map, List.length_map]⟩
theorem AccK.lies {S : Nat → Prop} {B : Nat} {ms : List Mem} {sl : Value} {W : World} (h : AccK S B ms sl W) (hS : ∀ y, S y → y < W.heap.size) : (V.mk 5 false 0 ⟨#[]⟩ [] ms).lies false W (fun y => S y ∨ (B ≤ y ∧ y < W.heap.size)) [.int .i64 5, .bool false, .int .i64 0, .string ⟨#[]⟩, .slice none 0 0, sl] := by
 obtain ⟨ps, e, ho, hp⟩ := h.row
 obtain ⟨a, n, b, o, e1, hd, hl⟩ := ownM ho hp
 rw [e] at e1 hd hl
 subst e1
 rw [V.lies]
 refine ⟨none, 0, 0, 0, a, n, b, o, rfl, ⟨by decide, by decide⟩, ⟨by decide, by decide⟩, by decide, headed_nil, hd, by rw [liesL]; trivial, liesM_keep (fun h => h) (fun _ _ => rfl) (fun y hy => ?_) _ hl, fun h => by cases h⟩
 exact hy.elim (fun h => h.elim .inl (fun h => .inr ⟨h.1, h.2.1⟩)) .inr
def nul7 : List Value := [.string ⟨#[]⟩, .int .i64 0, .bool false, .int .i64 0, .string ⟨#[]⟩, .slice none 0 0, .slice none 0 0]
theorem set_list {cur : Array Value} {n : Nat} {c0 c1 c2 c3 c4 c5 c6 : Value} {xs news : List Value} (hx : xs.length = n) (hs : n + 7 ≤ cur.size) (h : cur.toList.take (n + 7) = xs ++ news) (hn : news.length = 7) :
 (((((((cur.setIfInBounds n c0).setIfInBounds (n + 1) c1).setIfInBounds (n + 2) c2).setIfInBounds (n + 3) c3).setIfInBounds (n + 4) c4).setIfInBounds (n + 5) c5).setIfInBounds (n + 6) c6).toList.take (n + 7) = xs ++ [c0, c1, c2, c3, c4, c5, c6] := by
 apply List.ext_getElem?
 intro j
 have hz : cur.toList.length = cur.size := Array.length_toList
 have hj := congrArg (fun l => l[j]?) h
 simp only [Array.toList_setIfInBounds, List.getElem?_take, List.getElem?_set, List.length_set] at hj ⊢
 by_cases h1 : j < n
 ·have e : ∀ q, ¬ n + q = j := fun q => by omega
  have e0 : ¬ n = j := by omega
  rw [if_pos (by omega)] at hj ⊢
  simp only [e, e0, if_false]
  rw [hj, List.getElem?_append_left (by omega), List.getElem?_append_left (by omega)]
 ·by_cases h2 : j < n + 7
  ·rw [if_pos h2, List.getElem?_append_right (by omega), hx]
   obtain ⟨q, rfl⟩ : ∃ q, j = n + q := ⟨j - n, by omega⟩
   rw [Nat.add_sub_cancel_left]
   have hq : q < 7 := by omega
   rcases (by omega : q = 0 ∨ q = 1 ∨ q = 2 ∨ q = 3 ∨ q = 4 ∨ q = 5 ∨ q = 6) with rfl | rfl | rfl | rfl | rfl | rfl | rfl <;> (simp; try omega)
  ·rw [if_neg h2, List.getElem?_eq_none (by simp; omega)]
theorem own_set7 {B e : Nat} {g n cap : Nat} {css : List (List Value)} {w : World} (h : w.ownsRow B e 7 (.slice (some ⟨g, 0, none⟩) (n + 1) cap) (n + 1) (css.flatten ++ nul7)) (hl : css.flatten.length = n * 7) (hn : css.length = n) (c0 c1 c2 c3 c4 c5 c6 : Value) :
 ∀ We : World, We.heap[g]? = (((((((w.setCell ⟨g, n * 7, none⟩ c0).setCell ⟨g, n * 7 + 1, none⟩ c1).setCell ⟨g, n * 7 + 2, none⟩ c2).setCell ⟨g, n * 7 + 3, none⟩ c3).setCell ⟨g, n * 7 + 4, none⟩ c4).setCell ⟨g, n * 7 + 5, none⟩ c5).setCell ⟨g, n * 7 + 6, none⟩ c6).heap[g]? →
  OwnC B e 7 (.slice (some ⟨g, 0, none⟩) (n + 1) cap) (css ++ [[c0, c1, c2, c3, c4, c5, c6]]) We := by
 intro We hW
 rcases h.2 with ⟨h0, _⟩ | ⟨g', cap', cur, e1, hB, hg, hc, hm, hs, ht⟩
 ·cases h0
 ·injection e1 with e1 e2 e3
  injection e1 with e1
  injection e1 with e1
  subst e1 e3
  rw [set_block (set_block (set_block (set_block (set_block (set_block (set_block hg _ _) _ _) _ _) _ _) _ _) _ _)] at hW
  have e7 : (n + 1) * 7 = n * 7 + 7 := by omega
  refine ⟨by simp [hl]; omega, .inr ⟨g, cap, _, by simp [hn], hB, hW, by simp [hn]; omega, hm, by simp [hs], ?_⟩⟩
  have hlen : (css ++ [[c0, c1, c2, c3, c4, c5, c6]]).length = n + 1 := by simp [hn]
  rw [hlen, e7, List.flatten_append]
  simp only [List.flatten_cons, List.flatten_nil, List.append_nil]
  exact set_list hl (by have : (n + 1) * 7 ≤ cap * 7 := Nat.mul_le_mul_right _ hc; omega) (by rw [← e7]; exact ht) rfl
end Go.Proofs.YtjfldbmopjojdabDoor
