/- joined: PchA PchB -/
import Derived.Test.YtjfldbmopjojdaaDoorTogB
set_option linter.unusedSimpArgs false
set_option linter.unusedVariables false
namespace Go.Proofs.YtjfldbmopjojdaaDoor
open Go Go.RowKit Go.Lib Go.Shelf
def IsCells (w : World) (b : Nat) : Prop := ∃ o : Obj, w.heap[b]? = some o ∧ o.isCells = true
theorem isCells_row {w : World} {b o : Nat} {u : Value} {cs : List Value} (h : rowAt w b o (u :: cs)) : IsCells w b := by
 have h1 := h 0 u rfl
 exact cells_of_cell h1
mutual
theorem lies_cells {R : Bool} {w : World} {S : Nat → Prop} (hR : R = false) : ∀ (v : V) {cs : List Value}, v.lies R w S cs → v.lies R w (fun b => S b ∧ IsCells w b) cs
 | .mk k b i s l m, cs, h => by
  rw [V.lies] at h ⊢
  obtain ⟨al, cl, bl, ol, am, cm, bm, om, e, h1, h2, h0, h3, h4, h5, h6, h7⟩ := h
  exact ⟨al, cl, bl, ol, am, cm, bm, om, e, h1, h2, h0, h3, h4, liesL_cells hR l h5, liesM_cells hR m h6, fun r => by rw [hR] at r; cases r⟩
theorem liesL_cells {R : Bool} {w : World} {S : Nat → Prop} (hR : R = false) : ∀ (l : List V) {b o : Nat}, liesL R w S l b o → liesL R w (fun b => S b ∧ IsCells w b) l b o
 | [], b, o, h => by rw [liesL]; trivial
 | x :: t, b, o, h => by
  rw [liesL] at h ⊢
  obtain ⟨h1, ⟨cs, h2, h3⟩, h4⟩ := h
  obtain ⟨k, bb, i, s, al, nl, cl, am, nm, cm, e⟩ := V.ten h3
  exact ⟨⟨h1, by rw [e] at h2; exact isCells_row h2⟩, ⟨cs, h2, lies_cells hR x h3⟩, liesL_cells hR t h4⟩
theorem liesM_cells {R : Bool} {w : World} {S : Nat → Prop} (hR : R = false) : ∀ (l : List Mem) {b o : Nat}, liesM R w S l b o → liesM R w (fun b => S b ∧ IsCells w b) l b o
 | [], b, o, h => by rw [liesM]; trivial
 | (k, x) :: t, b, o, h => by
  rw [liesM] at h ⊢
  obtain ⟨h1, ⟨h0, cs, h2, h3⟩, h4⟩ := h
  exact ⟨⟨h1, isCells_row h2⟩, ⟨h0, cs, h2, lies_cells hR x h3⟩, liesM_cells hR t h4⟩
end
def Sq (S : Nat → Prop) (B : Nat) (sl : Value) (W : World) (y : Nat) : Prop := S y ∨ (B ≤ y ∧ y < W.heap.size ∧ sl.ownBlock ≠ some y)
structure AccK (S : Nat → Prop) (B : Nat) (ms : List Mem) (sl : Value) (W : World) : Prop where
 row : ∃ ps : List (Mem × List Value), ps.map (fun q => q.1) = ms ∧ OwnC B 57 7 sl (ps.map (fun q => q.2)) W ∧ ∀ q ∈ ps, PM W (Sq S B sl W) q
theorem AccK.nil (S : Nat → Prop) (B : Nat) (W : World) : AccK S B [] (.slice none 0 0) W :=
 ⟨⟨[], rfl, World.ownsRow_nil W B 57 7, fun q hq => by cases hq⟩⟩
theorem AccK.keep {S : Nat → Prop} {B : Nat} {ms : List Mem} {sl : Value} {W W' : World} (h : AccK S B ms sl W) (hk : ∀ y, S y ∨ (B ≤ y ∧ y < W.heap.size) → W'.heap[y]? = W.heap[y]?) (hz : W.heap.size ≤ W'.heap.size) : AccK S B ms sl W' := by
 obtain ⟨ps, e, ho, hp⟩ := h.row
 refine ⟨ps, e, ho.move (fun b hb hb' => hk b (.inr ⟨hb, hb'⟩)), fun q hq => (hp q hq).keep (fun b hb => hk b ?_) (fun b hb => ?_)⟩
 ·exact hb.elim .inl (fun h => .inr ⟨h.1, h.2.1⟩)
 ·exact hb.elim .inl (fun h => .inr ⟨h.1, Nat.lt_of_lt_of_le h.2.1 hz, h.2.2⟩)
theorem AccK.own {S : Nat → Prop} {B : Nat} {ms : List Mem} {sl : Value} {W W' : World} {row : Option Nat} (h : AccK S B ms sl W) (hS : ∀ y, S y → y < W.heap.size) (hg : W.grownBy W' row) (hr : ∀ r, row = some r → ∃ o : Obj, W.heap[r]? = some o ∧ o.isCells = false) : AccK S B ms sl W' := by
 obtain ⟨ps, e, ho, hp⟩ := h.row
 have hne : ∀ b, IsCells W b → some b ≠ row := fun b ⟨o, h1, h2⟩ e => by
  obtain ⟨o', h3, h4⟩ := hr b e.symm
  rw [h1] at h3
  cases h3
  rw [h2] at h4; cases h4
 refine ⟨ps, e, ?_, fun q hq => ?_⟩
 ·refine World.ownsRow.kept ho hg ?_
  rcases ho.2 with ⟨rfl, _⟩ | ⟨g, cap, cur, rfl, hB, hgg, _⟩
  ·exact .inl rfl
  ·refine .inr (fun e => hne g ⟨_, hgg, rfl⟩ e)
 ·obtain ⟨cs, e0, e1, e2⟩ := hp q hq
  refine ⟨cs, e0, e1, V.lies_keep (fun h => h) (fun b hb => hg.block b (hb.1.elim (fun h => hS b h) (fun h => h.2.1)) (hne b hb.2)) (fun b hb => ?_) _ (lies_cells rfl _ e2)⟩
  exact hb.1.elim .inl (fun h => .inr ⟨h.1, Nat.lt_of_lt_of_le h.2.1 hg.size, h.2.2⟩)
theorem AccK.len {S : Nat → Prop} {B : Nat} {ms : List Mem} {sl : Value} {W : World} (h : AccK S B ms sl W) : ∃ a c, sl = .slice a ms.length c := by
 obtain ⟨ps, e, ho, hp⟩ := h.row
 obtain ⟨a, n, e2⟩ := ho.slice
 exact ⟨a, n, by rw [e2, ← e, List.length_map, List.length_map]⟩
theorem AccK.lies {S : Nat → Prop} {B : Nat} {ms : List Mem} {sl : Value} {W : World} (h : AccK S B ms sl W) (hS : ∀ y, S y → y < W.heap.size) : (V.mk 5 false 0 ⟨#[]⟩ [] ms).lies false W (fun y => S y ∨ (B ≤ y ∧ y < W.heap.size)) [.int .i64 5, .bool false, .int .i64 0, .string ⟨#[]⟩, .slice none 0 0, sl] := by
 obtain ⟨ps, e, ho, hp⟩ := h.row
 obtain ⟨a, n, b, o, e1, hd, hl⟩ := ownM ho hp
 rw [e] at e1 hd hl
 subst e1
 rw [V.lies]
 refine ⟨none, 0, 0, 0, a, n, b, o, rfl, ⟨by decide, by decide⟩, ⟨by decide, by decide⟩, by decide, headed_nil, hd, by rw [liesL]; trivial, liesM_keep (fun h => h) (fun _ _ => rfl) (fun y hy => ?_) _ hl, fun h => by cases h⟩
 exact hy.elim (fun h => h.elim .inl (fun h => .inr ⟨h.1, h.2.1⟩)) .inr
def nul7 : List Value := [.string ⟨#[]⟩, .int .i64 0, .bool false, .int .i64 0, .string ⟨#[]⟩, .slice none 0 0, .slice none 0 0]
theorem set_list {cur : Array Value} {n : Nat} {c0 c1 c2 c3 c4 c5 c6 : Value} {xs news : List Value} (hx : xs.length = n) (hs : n + 7 ≤ cur.size) (h : cur.toList.take (n + 7) = xs ++ news) (hn : news.length = 7) :
 (((((((cur.setIfInBounds n c0).setIfInBounds (n + 1) c1).setIfInBounds (n + 2) c2).setIfInBounds (n + 3) c3).setIfInBounds (n + 4) c4).setIfInBounds (n + 5) c5).setIfInBounds (n + 6) c6).toList.take (n + 7) = xs ++ [c0, c1, c2, c3, c4, c5, c6] := by
 apply List.ext_getElem?
 intro j
 have hz : cur.toList.length = cur.size := Array.length_toList
 have hj := congrArg (fun l => l[j]?) h
 simp only [Array.toList_setIfInBounds, List.getElem?_take, List.getElem?_set, List.length_set] at hj ⊢
 by_cases h1 : j < n
 ·have e : ∀ q, ¬ n + q = j := fun q => by omega
  have e0 : ¬ n = j := by omega
  rw [if_pos (by omega)] at hj ⊢
  simp only [e, e0, if_false]
  rw [hj, List.getElem?_append_left (by omega), List.getElem?_append_left (by omega)]
 ·by_cases h2 : j < n + 7
  ·rw [if_pos h2, List.getElem?_append_right (by omega), hx]
   obtain ⟨q, rfl⟩ : ∃ q, j = n + q := ⟨j - n, by omega⟩
   rw [Nat.add_sub_cancel_left]
   have hq : q < 7 := by omega
   rcases (by omega : q = 0 ∨ q = 1 ∨ q = 2 ∨ q = 3 ∨ q = 4 ∨ q = 5 ∨ q = 6) with rfl | rfl | rfl | rfl | rfl | rfl | rfl <;> (simp; try omega)
  ·rw [if_neg h2, List.getElem?_eq_none (by simp; omega)]
theorem own_set7 {B e : Nat} {g n cap : Nat} {css : List (List Value)} {w : World} (h : w.ownsRow B e 7 (.slice (some ⟨g, 0, none⟩) (n + 1) cap) (n + 1) (css.flatten ++ nul7)) (hl : css.flatten.length = n * 7) (hn : css.length = n) (c0 c1 c2 c3 c4 c5 c6 : Value) :
 ∀ We : World, We.heap[g]? = (((((((w.setCell ⟨g, n * 7, none⟩ c0).setCell ⟨g, n * 7 + 1, none⟩ c1).setCell ⟨g, n * 7 + 2, none⟩ c2).setCell ⟨g, n * 7 + 3, none⟩ c3).setCell ⟨g, n * 7 + 4, none⟩ c4).setCell ⟨g, n * 7 + 5, none⟩ c5).setCell ⟨g, n * 7 + 6, none⟩ c6).heap[g]? →
  OwnC B e 7 (.slice (some ⟨g, 0, none⟩) (n + 1) cap) (css ++ [[c0, c1, c2, c3, c4, c5, c6]]) We := by
 intro We hW
 rcases h.2 with ⟨h0, _⟩ | ⟨g', cap', cur, e1, hB, hg, hc, hm, hs, ht⟩
 ·cases h0
 ·injection e1 with e1 e2 e3
  injection e1 with e1
  injection e1 with e1
  subst e1 e3
  rw [set_block (set_block (set_block (set_block (set_block (set_block (set_block hg _ _) _ _) _ _) _ _) _ _) _ _)] at hW
  have e7 : (n + 1) * 7 = n * 7 + 7 := by omega
  refine ⟨by simp [hl]; omega, .inr ⟨g, cap, _, by simp [hn], hB, hW, by simp [hn]; omega, hm, by simp [hs], ?_⟩⟩
  have hlen : (css ++ [[c0, c1, c2, c3, c4, c5, c6]]).length = n + 1 := by simp [hn]
  rw [hlen, e7, List.flatten_append]
  simp only [List.flatten_cons, List.flatten_nil, List.append_nil]
  exact set_list hl (by have : (n + 1) * 7 ≤ cap * 7 := Nat.mul_le_mul_right _ hc; omega) (by rw [← e7]; exact ht) rfl
end Go.Proofs.YtjfldbmopjojdaaDoor
namespace Go.Proofs.YtjfldbmopjojdaaDoor
open Go Go.RowKit Go.Lib Go.Shelf
theorem step_blank {ops : Array Oper} {o : Oper} {a : Act} {w : World} {K' : Act → World → Prop} {Q : Exit → Act → World → Prop} {D : Prop} (hgd : o.guard = none) (s x : Operand)
 (ho : o.op = .call { callee := .builtin .append, args := #[s, x], argTypes := #[23, 23] })
 (B : Nat) (v : Value) (n : Nat) (xs : List Value) (hs : a.eval s = v) (hown : w.ownsRow B 57 7 v n xs) (g0 : Nat) (hx : a.eval x = .slice (some ⟨g0, 0, none⟩) 1 1) (hblk : w.heap[g0]? = some (.cells #[.string ⟨#[]⟩, .int .i64 0, .bool false, .int .i64 0, .string ⟨#[]⟩, .slice none 0 0, .slice none 0 0] 57))
 (hlen : n ≤ 8000000) (hbase : B ≤ w.heap.size)
 (h : ∀ g cap w', w'.ownsRow B 57 7 (.slice (some ⟨g, 0, none⟩) (n + 1) cap) (n + 1) (xs ++ nul7) → w.grownBy w' v.ownBlock → (v.ownBlock = some g ∨ w.heap.size ≤ g) → K' (a.put o.dst (.slice (some ⟨g, 0, none⟩) (n + 1) cap)) w') :
 if Region.wanted o (yielded ops a.tmps) = true then Oper.wp Tryd.prog o a w K' Q else D := by
 have hw : Region.wanted o (yielded ops a.tmps) = true := by simp [Region.wanted, hgd]
 rw [if_pos hw]
 obtain ⟨i1, hi1, hy0, hy1, hy2⟩ := info_parts infoMU
 obtain ⟨g, cap, w', hrun, r1, r2, r3⟩ := run_append_new (P := Tryd.prog) w B 23 o.type 57 i1 _ 7 104 Tryd.underlying23 hi1 hy0 hy1 hy2 rfl (by decide) v n xs hown ⟨g0, 0, none⟩ 1 1 nul7 rfl (news_row hblk) (by decide) (by unfold maxLen; omega) (by omega) hbase (by decide)
 unfold Oper.wp
 simp [execOp, ho, resolve, invoke, builtin, hs, hx, hrun, Result.andThen]
 exact h g cap w' r1 r2 r3
theorem set_congr {w w' : World} {g : Nat} (h : w.heap[g]? = w'.heap[g]?) (i : Nat) (u : Value) : (w.setCell ⟨g, i, none⟩ u).heap[g]? = (w'.setCell ⟨g, i, none⟩ u).heap[g]? := by
 simp [World.setCell, Array.getElem?_modify, h]
structure EndP (w5 We : World) (g M n : Nat) (sl c0 c1 c2 c3 c4 c5 c6 : Value) : Prop where
 g_ : We.heap[g]? = (((((((w5.setCell ⟨g, n * 7, none⟩ c0).setCell ⟨g, n * 7 + 1, none⟩ c1).setCell ⟨g, n * 7 + 2, none⟩ c2).setCell ⟨g, n * 7 + 3, none⟩ c3).setCell ⟨g, n * 7 + 4, none⟩ c4).setCell ⟨g, n * 7 + 5, none⟩ c5).setCell ⟨g, n * 7 + 6, none⟩ c6).heap[g]?
 m_ : We.heap[M]? = some (.cells #[.int .i64 5, .bool false, .int .i64 0, .string ⟨#[]⟩, .slice none 0 0, sl] 25)
 o_ : ∀ z, z ≠ g → z ≠ M → We.heap[z]? = w5.heap[z]?
 z_ : We.heap.size = w5.heap.size
 s_ : We.os = w5.os
 t_ : We.tape = w5.tape
 p_ : We.output = w5.output
theorem sets7_o (w : World) (g n : Nat) (c0 c1 c2 c3 c4 c5 c6 : Value) (z : Nat) (hz : z ≠ g) : (((((((w.setCell ⟨g, n * 7, none⟩ c0).setCell ⟨g, n * 7 + 1, none⟩ c1).setCell ⟨g, n * 7 + 2, none⟩ c2).setCell ⟨g, n * 7 + 3, none⟩ c3).setCell ⟨g, n * 7 + 4, none⟩ c4).setCell ⟨g, n * 7 + 5, none⟩ c5).setCell ⟨g, n * 7 + 6, none⟩ c6).heap[z]? = w.heap[z]? := by
 rw [set_other hz, set_other hz, set_other hz, set_other hz, set_other hz, set_other hz, set_other hz]
theorem sets7_z (w : World) (g n : Nat) (c0 c1 c2 c3 c4 c5 c6 : Value) : (((((((w.setCell ⟨g, n * 7, none⟩ c0).setCell ⟨g, n * 7 + 1, none⟩ c1).setCell ⟨g, n * 7 + 2, none⟩ c2).setCell ⟨g, n * 7 + 3, none⟩ c3).setCell ⟨g, n * 7 + 4, none⟩ c4).setCell ⟨g, n * 7 + 5, none⟩ c5).setCell ⟨g, n * 7 + 6, none⟩ c6).heap.size = w.heap.size := by
 simp only [size_set1]
theorem sets7_g (w : World) (g n : Nat) (c0 c1 c2 c3 c4 c5 c6 : Value) : w.grownBy (((((((w.setCell ⟨g, n * 7, none⟩ c0).setCell ⟨g, n * 7 + 1, none⟩ c1).setCell ⟨g, n * 7 + 2, none⟩ c2).setCell ⟨g, n * 7 + 3, none⟩ c3).setCell ⟨g, n * 7 + 4, none⟩ c4).setCell ⟨g, n * 7 + 5, none⟩ c5).setCell ⟨g, n * 7 + 6, none⟩ c6) (some g) :=
 grown_set (grown_set (grown_set (grown_set (grown_set (grown_set (grown_set (World.grownBy.refl w _) _ c0) _ c1) _ c2) _ c3) _ c4) _ c5) _ c6
theorem end1 {w5 : World} {g M n : Nat} {sl0 : Value} (hg : g ≠ M) (hM : w5.heap[M]? = some (.cells #[.int .i64 5, .bool false, .int .i64 0, .string ⟨#[]⟩, .slice none 0 0, sl0] 25)) (sl c0 c1 c2 c3 c4 c5 c6 : Value) : EndP w5 ((((((((w5.setCell ⟨g, n * 7, none⟩ c0).setCell ⟨g, n * 7 + 1, none⟩ c1).setCell ⟨g, n * 7 + 2, none⟩ c2).setCell ⟨g, n * 7 + 3, none⟩ c3).setCell ⟨g, n * 7 + 4, none⟩ c4).setCell ⟨g, n * 7 + 5, none⟩ c5).setCell ⟨g, n * 7 + 6, none⟩ c6).setCell ⟨M, 5, none⟩ sl) g M n sl c0 c1 c2 c3 c4 c5 c6 := by
 refine ⟨set_other hg, ?_, fun z h1 h2 => ((set_other h2).trans (sets7_o w5 g n c0 c1 c2 c3 c4 c5 c6 z h1)), ?_, ((grown_set1 _ M 5 sl).os.trans (sets7_g w5 g n c0 c1 c2 c3 c4 c5 c6).os), ((grown_set1 _ M 5 sl).tape.trans (sets7_g w5 g n c0 c1 c2 c3 c4 c5 c6).tape), ((grown_set1 _ M 5 sl).output.trans (sets7_g w5 g n c0 c1 c2 c3 c4 c5 c6).output)⟩
 ·rw [set_block ((sets7_o w5 g n c0 c1 c2 c3 c4 c5 c6 M (fun e => hg e.symm)).trans hM)]; rfl
 ·rw [size_set1, sets7_z]
theorem end2 {w5 : World} {g M n : Nat} {sl0 : Value} (hg : g ≠ M) (hM : w5.heap[M]? = some (.cells #[.int .i64 5, .bool false, .int .i64 0, .string ⟨#[]⟩, .slice none 0 0, sl0] 25)) (sl c0 c1 c2 c3 c4 c5 c6 : Value) : EndP w5 ((((((((w5.setCell ⟨M, 5, none⟩ sl).setCell ⟨g, n * 7, none⟩ c0).setCell ⟨g, n * 7 + 1, none⟩ c1).setCell ⟨g, n * 7 + 2, none⟩ c2).setCell ⟨g, n * 7 + 3, none⟩ c3).setCell ⟨g, n * 7 + 4, none⟩ c4).setCell ⟨g, n * 7 + 5, none⟩ c5).setCell ⟨g, n * 7 + 6, none⟩ c6) g M n sl c0 c1 c2 c3 c4 c5 c6 := by
 refine ⟨?_, ?_, fun z h1 h2 => ((sets7_o _ g n c0 c1 c2 c3 c4 c5 c6 z h1).trans (set_other h2)), ?_, ((sets7_g _ g n c0 c1 c2 c3 c4 c5 c6).os.trans (grown_set1 w5 M 5 sl).os), ((sets7_g _ g n c0 c1 c2 c3 c4 c5 c6).tape.trans (grown_set1 w5 M 5 sl).tape), ((sets7_g _ g n c0 c1 c2 c3 c4 c5 c6).output.trans (grown_set1 w5 M 5 sl).output)⟩
 ·exact set_congr (set_congr (set_congr (set_congr (set_congr (set_congr (set_congr (set_other hg) _ _) _ _) _ _) _ _) _ _) _ _) _ _
 ·rw [sets7_o _ g n c0 c1 c2 c3 c4 c5 c6 M (fun e => hg e.symm), set_block hM]; rfl
 ·rw [sets7_z, size_set1]
theorem AccK.push {S : Nat → Prop} {B M g n cap : Nat} {ps : List (Mem × List Value)} {sl : Value} {w w5 We : World} {x : Mem} {c0 c1 c2 c3 c4 c5 c6 : Value} (hS : ∀ y, S y → y < B) (hMB : M < B) (hMS : ¬ S M) (hn : ps.length = n)
 (ho : OwnC B 57 7 sl (ps.map (fun q => q.2)) w) (hp : ∀ q ∈ ps, PM w (Sq S B sl w) q) (hB : B ≤ w.heap.size) (hx : PM w (Sq S B sl w) (x, [c0, c1, c2, c3, c4, c5, c6]))
 (h5 : w5.ownsRow B 57 7 (.slice (some ⟨g, 0, none⟩) (n + 1) cap) (n + 1) ((ps.map (fun q => q.2)).flatten ++ nul7)) (g5 : w.grownBy w5 sl.ownBlock) (l5 : sl.ownBlock = some g ∨ w.heap.size ≤ g)
 (hE : EndP w5 We g M n (.slice (some ⟨g, 0, none⟩) (n + 1) cap) c0 c1 c2 c3 c4 c5 c6) : AccK S B (ps.map (fun q => q.1) ++ [x]) (.slice (some ⟨g, 0, none⟩) (n + 1) cap) We := by
 have hBg : B ≤ g := (World.ownsRow.lt h5 g rfl).1
 have hzz : w.heap.size ≤ We.heap.size := by rw [hE.z_]; exact g5.size
 have hkeep : ∀ y, Sq S B sl w y → We.heap[y]? = w.heap[y]? := fun y hy => by
  have hyg : y ≠ g := by
   rcases hy with hy | ⟨h1, h2, h3⟩
   ·have := hS y hy; omega
   ·rcases l5 with l5 | l5
    ·exact fun e => h3 (by rw [e]; exact l5)
    ·omega
  have hyM : y ≠ M := by
   rcases hy with hy | ⟨h1, h2, h3⟩
   ·exact fun e => hMS (e ▸ hy)
   ·omega
  have hyz : y < w.heap.size := by
   rcases hy with hy | ⟨h1, h2, h3⟩
   ·have := hS y hy; omega
   ·exact h2
  refine (hE.o_ y hyg hyM).trans (g5.block y hyz (fun e => ?_))
  rcases hy with hy | ⟨h1, h2, h3⟩
  ·have := (World.ownsRow.lt ho y e.symm).1
   have := hS y hy
   omega
  ·exact h3 e.symm
 have hsub : ∀ y, Sq S B sl w y → Sq S B (.slice (some ⟨g, 0, none⟩) (n + 1) cap) We y := fun y hy => by
  rcases hy with hy | ⟨h1, h2, h3⟩
  ·exact .inl hy
  ·refine .inr ⟨h1, Nat.lt_of_lt_of_le h2 hzz, fun e => ?_⟩
   have e' : g = y := Option.some.inj e
   rcases l5 with l5 | l5
   ·exact h3 (by rw [← e']; exact l5)
   ·omega
 refine ⟨ps ++ [(x, [c0, c1, c2, c3, c4, c5, c6])], by simp, ?_, fun q hq => ?_⟩
 ·have := own_set7 h5 (by rw [ho.1, List.length_map, hn]) (by rw [List.length_map, hn]) c0 c1 c2 c3 c4 c5 c6 We hE.g_
  simpa using this
 ·rcases List.mem_append.1 hq with hq | hq
  ·exact (hp q hq).keep hkeep hsub
  ·rw [List.mem_singleton] at hq
   rw [hq]
   exact hx.keep hkeep hsub
theorem cells14 {w : World} {B : Nat} {t : TypeId} {c0 c1 c2 c3 c4 c5 c6 c7 c8 c9 c10 c11 c12 c13 : Value} (h : w.heap[B]? = some (.cells #[c0, c1, c2, c3, c4, c5, c6, c7, c8, c9, c10, c11, c12, c13] t)) : w.cell? ⟨B, 0, none⟩ = some c0 ∧ w.cell? ⟨B, 1, none⟩ = some c1 ∧ w.cell? ⟨B, 2, none⟩ = some c2 ∧ w.cell? ⟨B, 3, none⟩ = some c3 ∧ w.cell? ⟨B, 4, none⟩ = some c4 ∧ w.cell? ⟨B, 5, none⟩ = some c5 ∧ w.cell? ⟨B, 6, none⟩ = some c6 ∧ w.cell? ⟨B, 7, none⟩ = some c7 ∧ w.cell? ⟨B, 8, none⟩ = some c8 ∧ w.cell? ⟨B, 9, none⟩ = some c9 ∧ w.cell? ⟨B, 10, none⟩ = some c10 ∧ w.cell? ⟨B, 11, none⟩ = some c11 ∧ w.cell? ⟨B, 12, none⟩ = some c12 ∧ w.cell? ⟨B, 13, none⟩ = some c13 := by
 refine ⟨?_, ?_, ?_, ?_, ?_, ?_, ?_, ?_, ?_, ?_, ?_, ?_, ?_, ?_⟩ <;> (rw [cell_of_block h]; rfl)
theorem blank_cells {w : World} {B g n cap : Nat} {xs : List Value} (h : w.ownsRow B 57 7 (.slice (some ⟨g, 0, none⟩) (n + 1) cap) (n + 1) (xs ++ nul7)) (hl : xs.length = n * 7) :
 (∀ q u, nul7[q]? = some u → w.cell? ⟨g, n * 7 + q, none⟩ = some u) ∧ ∀ i, w.frozen? ⟨g, i, none⟩ = false := by
 refine ⟨fun q u hu => ?_, ?_⟩
 ·have := World.ownsRow.cells h (g := g) rfl (n * 7 + q) u (by rw [List.getElem?_append_right (by omega), hl, Nat.add_sub_cancel_left]; exact hu)
  rw [Go.WideShapes.add_plain] at this
  simpa using this
 ·rcases h.2 with ⟨h0, _⟩ | ⟨g', cap', cur, e1, hB, hg, hc, hm, hs, ht⟩
  ·cases h0
  ·injection e1 with e1 e2 e3
   injection e1 with e1
   injection e1 with e1
   subst e1
   exact frozen_of_block hg
theorem round_end {S : Nat → Prop} {n g N cap : Nat} {ps : List (Mem × List Value)} {sl : Value} {W W2 w5 We w6 : World} {x : Mem} {c0 c1 c2 c3 c4 c5 c6 : Value} {ms : List Mem} (hS : ∀ y, S y → y < n) (h6 : w6.heap.size = n + 6) (hB : Below (n + 3) w6 W) (hps : ps.map (fun q => q.1) = ms) (hN : ps.length = N)
 (ho : OwnC (n + 6) 57 7 sl (ps.map (fun q => q.2)) W) (hp : ∀ q ∈ ps, PM W (Sq S (n + 6) sl W) q) (hb : Below W.heap.size W W2) (hx : PM W2 (fun y => S y ∨ (W.heap.size ≤ y ∧ y < W2.heap.size)) (x, [c0, c1, c2, c3, c4, c5, c6]))
 (h5 : w5.ownsRow (n + 6) 57 7 (.slice (some ⟨g, 0, none⟩) (N + 1) cap) (N + 1) ((ps.map (fun q => q.2)).flatten ++ nul7)) (g5 : W2.grownBy w5 sl.ownBlock) (l5 : sl.ownBlock = some g ∨ W2.heap.size ≤ g)
 (hE : EndP w5 We g (n + 3) N (.slice (some ⟨g, 0, none⟩) (N + 1) cap) c0 c1 c2 c3 c4 c5 c6) :
 KeepsFrom (n + 6) W We ∧ Kx (n + 6) (n + 3) W We ∧ ∃ sl', We.heap[n + 3]? = some (.cells #[.int .i64 5, .bool false, .int .i64 0, .string ⟨#[]⟩, .slice none 0 0, sl'] 25) ∧ AccK S (n + 6) (ms ++ [x]) sl' We ∧ Below (n + 3) w6 We := by
 have hz := hB.size
 have hz2 := hb.size
 have hz5 := g5.size
 have hzE := hE.z_
 have hgB := (World.ownsRow.lt h5 g rfl).1
 have hown : ∀ r, sl.ownBlock = some r → n + 6 ≤ r ∧ r < W.heap.size := World.ownsRow.lt ho
 have hcell : ∀ r, sl.ownBlock = some r → ∃ o : Obj, W.heap[r]? = some o ∧ o.isCells = true := fun r hr => by
  rcases ho.2 with ⟨rfl, _⟩ | ⟨g', cap', cur, rfl, _, hg, _⟩
  ·cases hr
  ·have e : g' = r := Option.some.inj hr
   rw [← e]
   exact ⟨_, hg, rfl⟩
 have hlow : ∀ k, k < W.heap.size → k ≠ n + 3 → sl.ownBlock ≠ some k → We.heap[k]? = W.heap[k]? := fun k hk hM hne => by
  have hkg : k ≠ g := by
   rcases l5 with l5 | l5
   ·exact fun e => hne (by rw [e]; exact l5)
   ·omega
  exact (hE.o_ k hkg hM).trans ((g5.block k (by omega) (fun e => hne e.symm)).trans (hb.block k hk))
 refine ⟨⟨by omega, fun k o hk ho' hc => ?_⟩, ⟨?_, ?_, ?_, by omega, fun k hk hM => hlow k (by omega) hM (fun e => by have := (hown k e).1; omega)⟩, _, hE.m_, ?_, ?_⟩
 ·refine (hlow k (Array.getElem?_eq_some_iff.1 ho').1 (by omega) (fun e => ?_)).trans ho'
  obtain ⟨o', h1, h2⟩ := hcell k e
  rw [h1] at ho'
  cases ho'
  rw [h2] at hc; cases hc
 ·exact hE.s_.trans (g5.os.trans hb.os)
 ·exact hE.t_.trans (g5.tape.trans hb.tape)
 ·exact hE.p_.trans (g5.output.trans hb.output)
 ·rw [← hps]
  refine AccK.push (w := W2) (fun y hy => by have := hS y hy; omega) (by omega) (fun h => by have := hS _ h; omega) hN (ho.below hb) (fun q hq => (hp q hq).keep (fun b hb' => hb.block b ?_) (fun b hb' => ?_)) (by omega) (hx.keep (fun _ _ => rfl) (fun y hy => ?_)) h5 g5 l5 hE
  ·rcases hb' with h | h
   ·have := hS b h; omega
   ·exact h.2.1
  ·exact hb'.elim .inl (fun h => .inr ⟨h.1, by omega, h.2.2⟩)
  ·exact hy.elim .inl (fun h => .inr ⟨by omega, h.2, fun e => by have := (hown y e).2; omega⟩)
 ·exact hB.trans ⟨hE.s_.trans (g5.os.trans hb.os), hE.t_.trans (g5.tape.trans hb.tape), hE.p_.trans (g5.output.trans hb.output), by omega, fun k hk => hlow k (by omega) (by omega) (fun e => by have := (hown k e).1; omega)⟩
theorem AccK.open {S : Nat → Prop} {B : Nat} {ms : List Mem} {sl : Value} {W : World} (h : AccK S B ms sl W) : ∃ (ps : List (Mem × List Value)) (a : Option Addr) (c : Nat), sl = .slice a ps.length c ∧ ps.map (fun q => q.1) = ms ∧ OwnC B 57 7 sl (ps.map (fun q => q.2)) W ∧ ∀ q ∈ ps, PM W (Sq S B sl W) q := by
 obtain ⟨ps, e, ho, hp⟩ := h.row
 obtain ⟨a, n, e2⟩ := ho.slice
 exact ⟨ps, a, n, by rw [e2, List.length_map], e, ho, hp⟩
end Go.Proofs.YtjfldbmopjojdaaDoor
