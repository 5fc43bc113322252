/- joined: PchB PchF PchC RapX MrgS -/
import Derived.Test.YtjfldbmopjojdabDoorG23
set_option linter.unusedSimpArgs false
set_option linter.unusedVariables false
namespace Go.Proofs.YtjfldbmopjojdabDoor
open Go Go.RowKit Go.Lib Go.Shelf
theorem step_blank {ops : Array Oper} {o : Oper} {a : Act} {w : World} {K' : Act → World → Prop} {Q : Exit → Act → World → Prop} {D : Prop} (hgd : o.guard = none) (s x : Operand)
 (ho : o.op = .call { callee := .builtin .append, args := #[s, x], argTypes := #[23, 23] })
 (B : Nat) (v : Value) (n : Nat) (xs : List Value) (hs : a.eval s = v) (hown : w.ownsRow B 39 7 v n xs) (g0 : Nat) (hx : a.eval x = .slice (some ⟨g0, 0, none⟩) 1 1) (hblk : w.heap[g0]? = some (.cells #[.string ⟨#[]⟩, .int .i64 0, .bool false, .int .i64 0, .string ⟨#[]⟩, .slice none 0 0, .slice none 0 0] 39))
 (hlen : n ≤ 8000000) (hbase : B ≤ w.heap.size)
 (h : ∀ g cap w', w'.ownsRow B 39 7 (.slice (some ⟨g, 0, none⟩) (n + 1) cap) (n + 1) (xs ++ nul7) → w.grownBy w' v.ownBlock → (v.ownBlock = some g ∨ w.heap.size ≤ g) → K' (a.put o.dst (.slice (some ⟨g, 0, none⟩) (n + 1) cap)) w') :
 if Region.wanted o (yielded ops a.tmps) = true then Oper.wp Tryd.prog o a w K' Q else D := by
 have hw : Region.wanted o (yielded ops a.tmps) = true := by simp [Region.wanted, hgd]
 rw [if_pos hw]
 obtain ⟨i1, hi1, hy0, hy1, hy2⟩ := info_parts infoMU
 obtain ⟨g, cap, w', hrun, r1, r2, r3⟩ := run_append_new (P := Tryd.prog) w B 23 o.type 39 i1 _ 7 104 Tryd.underlying23 hi1 hy0 hy1 hy2 rfl (by decide) v n xs hown ⟨g0, 0, none⟩ 1 1 nul7 rfl (news_row hblk) (by decide) (by unfold maxLen; omega) (by omega) hbase (by decide)
 unfold Oper.wp
 simp [execOp, ho, resolve, invoke, builtin, hs, hx, hrun, Result.andThen]
 exact h g cap w' r1 r2 r3
theorem set_congr {w w' : World} {g : Nat} (h : w.heap[g]? = w'.heap[g]?) (i : Nat) (u : Value) : (w.setCell ⟨g, i, none⟩ u).heap[g]? = (w'.setCell ⟨g, i, none⟩ u).heap[g]? := by
 simp [World.setCell, Array.getElem?_modify, h]
structure EndP (w5 We : World) (g M n : Nat) (sl c0 c1 c2 c3 c4 c5 c6 : Value) : Prop where
 g_ : We.heap[g]? = (((((((w5.setCell ⟨g, n * 7, none⟩ c0).setCell ⟨g, n * 7 + 1, none⟩ c1).setCell ⟨g, n * 7 + 2, none⟩ c2).setCell ⟨g, n * 7 + 3, none⟩ c3).setCell ⟨g, n * 7 + 4, none⟩ c4).setCell ⟨g, n * 7 + 5, none⟩ c5).setCell ⟨g, n * 7 + 6, none⟩ c6).heap[g]?
 m_ : We.heap[M]? = some (.cells #[.int .i64 5, .bool false, .int .i64 0, .string ⟨#[]⟩, .slice none 0 0, sl] 25)
 o_ : ∀ z, z ≠ g → z ≠ M → We.heap[z]? = w5.heap[z]?
 z_ : We.heap.size = w5.heap.size
 s_ : We.os = w5.os
 t_ : We.tape = w5.tape
 p_ : We.output = w5.output
theorem sets7_o (w : World) (g n : Nat) (c0 c1 c2 c3 c4 c5 c6 : Value) (z : Nat) (hz : z ≠ g) : (((((((w.setCell ⟨g, n * 7, none⟩ c0).setCell ⟨g, n * 7 + 1, none⟩ c1).setCell ⟨g, n * 7 + 2, none⟩ c2).setCell ⟨g, n * 7 + 3, none⟩ c3).setCell ⟨g, n * 7 + 4, none⟩ c4).setCell ⟨g, n * 7 + 5, none⟩ c5).setCell ⟨g, n * 7 + 6, none⟩ c6).heap[z]? = w.heap[z]? := by
 rw [set_other hz, set_other hz, set_other hz, set_other hz, set_other hz, set_other hz, set_other hz]
theorem sets7_z (w : World) (g n : Nat) (c0 c1 c2 c3 c4 c5 c6 : Value) : (((((((w.setCell ⟨g, n * 7, none⟩ c0).setCell ⟨g, n * 7 + 1, none⟩ c1).setCell ⟨g, n * 7 + 2, none⟩ c2).setCell ⟨g, n * 7 + 3, none⟩ c3).setCell ⟨g, n * 7 + 4, none⟩ c4).setCell ⟨g, n * 7 + 5, none⟩ c5).setCell ⟨g, n * 7 + 6, none⟩ c6).heap.size = w.heap.size := by
 simp only [size_set1]
theorem sets7_g (w : World) (g n : Nat) (c0 c1 c2 c3 c4 c5 c6 : Value) : w.grownBy (((((((w.setCell ⟨g, n * 7, none⟩ c0).setCell ⟨g, n * 7 + 1, none⟩ c1).setCell ⟨g, n * 7 + 2, none⟩ c2).setCell ⟨g, n * 7 + 3, none⟩ c3).setCell ⟨g, n * 7 + 4, none⟩ c4).setCell ⟨g, n * 7 + 5, none⟩ c5).setCell ⟨g, n * 7 + 6, none⟩ c6) (some g) :=
 grown_set (grown_set (grown_set (grown_set (grown_set (grown_set (grown_set (World.grownBy.refl w _) _ c0) _ c1) _ c2) _ c3) _ c4) _ c5) _ c6
theorem end1 {w5 : World} {g M n : Nat} {sl0 : Value} (hg : g ≠ M) (hM : w5.heap[M]? = some (.cells #[.int .i64 5, .bool false, .int .i64 0, .string ⟨#[]⟩, .slice none 0 0, sl0] 25)) (sl c0 c1 c2 c3 c4 c5 c6 : Value) : EndP w5 ((((((((w5.setCell ⟨g, n * 7, none⟩ c0).setCell ⟨g, n * 7 + 1, none⟩ c1).setCell ⟨g, n * 7 + 2, none⟩ c2).setCell ⟨g, n * 7 + 3, none⟩ c3).setCell ⟨g, n * 7 + 4, none⟩ c4).setCell ⟨g, n * 7 + 5, none⟩ c5).setCell ⟨g, n * 7 + 6, none⟩ c6).setCell ⟨M, 5, none⟩ sl) g M n sl c0 c1 c2 c3 c4 c5 c6 := by
 refine ⟨set_other hg, ?_, fun z h1 h2 => ((set_other h2).trans (sets7_o w5 g n c0 c1 c2 c3 c4 c5 c6 z h1)), ?_, ((grown_set1 _ M 5 sl).os.trans (sets7_g w5 g n c0 c1 c2 c3 c4 c5 c6).os), ((grown_set1 _ M 5 sl).tape.trans (sets7_g w5 g n c0 c1 c2 c3 c4 c5 c6).tape), ((grown_set1 _ M 5 sl).output.trans (sets7_g w5 g n c0 c1 c2 c3 c4 c5 c6).output)⟩
 ·rw [set_block ((sets7_o w5 g n c0 c1 c2 c3 c4 c5 c6 M (fun e => hg e.symm)).trans hM)]; rfl
 ·rw [size_set1, sets7_z]
theorem end2 {w5 : World} {g M n : Nat} {sl0 : Value} (hg : g ≠ M) (hM : w5.heap[M]? = some (.cells #[.int .i64 5, .bool false, .int .i64 0, .string ⟨#[]⟩, .slice none 0 0, sl0] 25)) (sl c0 c1 c2 c3 c4 c5 c6 : Value) : EndP w5 ((((((((w5.setCell ⟨M, 5, none⟩ sl).setCell ⟨g, n * 7, none⟩ c0).setCell ⟨g, n * 7 + 1, none⟩ c1).setCell ⟨g, n * 7 + 2, none⟩ c2).setCell ⟨g, n * 7 + 3, none⟩ c3).setCell ⟨g, n * 7 + 4, none⟩ c4).setCell ⟨g, n * 7 + 5, none⟩ c5).setCell ⟨g, n * 7 + 6, none⟩ c6) g M n sl c0 c1 c2 c3 c4 c5 c6 := by
 refine ⟨?_, ?_, fun z h1 h2 => ((sets7_o _ g n c0 c1 c2 c3 c4 c5 c6 z h1).trans (set_other h2)), ?_, ((sets7_g _ g n c0 c1 c2 c3 c4 c5 c6).os.trans (grown_set1 w5 M 5 sl).os), ((sets7_g _ g n c0 c1 c2 c3 c4 c5 c6).tape.trans (grown_set1 w5 M 5 sl).tape), ((sets7_g _ g n c0 c1 c2 c3 c4 c5 c6).output.trans (grown_set1 w5 M 5 sl).output)⟩
 ·exact set_congr (set_congr (set_congr (set_congr (set_congr (set_congr (set_congr (set_other hg) _ _) _ _) _ _) _ _) _ _) _ _) _ _
 ·rw [sets7_o _ g n c0 c1 c2 c3 c4 c5 c6 M (fun e => hg e.symm), set_block hM]; rfl
 ·rw [sets7_z, size_set1]
theorem AccK.push {S : Nat → Prop} {B M g n cap : Nat} {ps : List (Mem × List Value)} {sl : Value} {w w5 We : World} {x : Mem} {c0 c1 c2 c3 c4 c5 c6 : Value} (hS : ∀ y, S y → y < B) (hMB : M < B) (hMS : ¬ S M) (hn : ps.length = n)
 (ho : OwnC B 39 7 sl (ps.map (fun q => q.2)) w) (hp : ∀ q ∈ ps, PM w (Sq S B sl w) q) (hB : B ≤ w.heap.size) (hx : PM w (Sq S B sl w) (x, [c0, c1, c2, c3, c4, c5, c6]))
 (h5 : w5.ownsRow B 39 7 (.slice (some ⟨g, 0, none⟩) (n + 1) cap) (n + 1) ((ps.map (fun q => q.2)).flatten ++ nul7)) (g5 : w.grownBy w5 sl.ownBlock) (l5 : sl.ownBlock = some g ∨ w.heap.size ≤ g)
 (hE : EndP w5 We g M n (.slice (some ⟨g, 0, none⟩) (n + 1) cap) c0 c1 c2 c3 c4 c5 c6) : AccK S B (ps.map (fun q => q.1) ++ [x]) (.slice (some ⟨g, 0, none⟩) (n + 1) cap) We := by
 have hBg : B ≤ g := (World.ownsRow.lt h5 g rfl).1
 have hzz : w.heap.size ≤ We.heap.size := by rw [hE.z_]; exact g5.size
 have hkeep : ∀ y, Sq S B sl w y → We.heap[y]? = w.heap[y]? := fun y hy => by
  have hyg : y ≠ g := by
   rcases hy with hy | ⟨h1, h2, h3⟩
   ·have := hS y hy; omega
   ·rcases l5 with l5 | l5
    ·exact fun e => h3 (by rw [e]; exact l5)
    ·omega
  have hyM : y ≠ M := by
   rcases hy with hy | ⟨h1, h2, h3⟩
   ·exact fun e => hMS (e ▸ hy)
   ·omega
  have hyz : y < w.heap.size := by
   rcases hy with hy | ⟨h1, h2, h3⟩
   ·have := hS y hy; omega
   ·exact h2
  refine (hE.o_ y hyg hyM).trans (g5.block y hyz (fun e => ?_))
  rcases hy with hy | ⟨h1, h2, h3⟩
  ·have := (World.ownsRow.lt ho y e.symm).1
   have := hS y hy
   omega
  ·exact h3 e.symm
 have hsub : ∀ y, Sq S B sl w y → Sq S B (.slice (some ⟨g, 0, none⟩) (n + 1) cap) We y := fun y hy => by
  rcases hy with hy | ⟨h1, h2, h3⟩
  ·exact .inl hy
  ·refine .inr ⟨h1, Nat.lt_of_lt_of_le h2 hzz, fun e => ?_⟩
   have e' : g = y := Option.some.inj e
   rcases l5 with l5 | l5
   ·exact h3 (by rw [← e']; exact l5)
   ·omega
 refine ⟨ps ++ [(x, [c0, c1, c2, c3, c4, c5, c6])], by simp, ?_, fun q hq => ?_⟩
 ·have := own_set7 h5 (by rw [ho.1, List.length_map, hn]) (by rw [List.length_map, hn]) c0 c1 c2 c3 c4 c5 c6 We hE.g_
  simpa using this
 ·rcases List.mem_append.1 hq with hq | hq
  ·exact (hp q hq).keep hkeep hsub
  ·rw [List.mem_singleton] at hq
   rw [hq]
   exact hx.keep hkeep hsub
theorem cells14 {w : World} {B : Nat} {t : TypeId} {c0 c1 c2 c3 c4 c5 c6 c7 c8 c9 c10 c11 c12 c13 : Value} (h : w.heap[B]? = some (.cells #[c0, c1, c2, c3, c4, c5, c6, c7, c8, c9, c10, c11, c12, c13] t)) : w.cell? ⟨B, 0, none⟩ = some c0 ∧ w.cell? ⟨B, 1, none⟩ = some c1 ∧ w.cell? ⟨B, 2, none⟩ = some c2 ∧ w.cell? ⟨B, 3, none⟩ = some c3 ∧ w.cell? ⟨B, 4, none⟩ = some c4 ∧ w.cell? ⟨B, 5, none⟩ = some c5 ∧ w.cell? ⟨B, 6, none⟩ = some c6 ∧ w.cell? ⟨B, 7, none⟩ = some c7 ∧ w.cell? ⟨B, 8, none⟩ = some c8 ∧ w.cell? ⟨B, 9, none⟩ = some c9 ∧ w.cell? ⟨B, 10, none⟩ = some c10 ∧ w.cell? ⟨B, 11, none⟩ = some c11 ∧ w.cell? ⟨B, 12, none⟩ = some c12 ∧ w.cell? ⟨B, 13, none⟩ = some c13 := by
 refine ⟨?_, ?_, ?_, ?_, ?_, ?_, ?_, ?_, ?_, ?_, ?_, ?_, ?_, ?_⟩ <;> (rw [cell_of_block h]; rfl)
theorem blank_cells {w : World} {B g n cap : Nat} {xs : List Value} (h : w.ownsRow B 39 7 (.slice (some ⟨g, 0, none⟩) (n + 1) cap) (n + 1) (xs ++ nul7)) (hl : xs.length = n * 7) :
 (∀ q u, nul7[q]? = some u → w.cell? ⟨g, n * 7 + q, none⟩ = some u) ∧ ∀ i, w.frozen? ⟨g, i, none⟩ = false := by
 refine ⟨fun q u hu => ?_, ?_⟩
 ·have := World.ownsRow.cells h (g := g) rfl (n * 7 + q) u (by rw [List.getElem?_append_right (by omega), hl, Nat.add_sub_cancel_left]; exact hu)
  rw [Go.WideShapes.add_plain] at this
  simpa using this
 ·rcases h.2 with ⟨h0, _⟩ | ⟨g', cap', cur, e1, hB, hg, hc, hm, hs, ht⟩
  ·cases h0
  ·injection e1 with e1 e2 e3
   injection e1 with e1
   injection e1 with e1
   subst e1
   exact frozen_of_block hg
theorem AccK.open {S : Nat → Prop} {B : Nat} {ms : List Mem} {sl : Value} {W : World} (h : AccK S B ms sl W) : ∃ (ps : List (Mem × List Value)) (a : Option Addr) (c : Nat), sl = .slice a ps.length c ∧ ps.map (fun q => q.1) = ms ∧ OwnC B 39 7 sl (ps.map (fun q => q.2)) W ∧ ∀ q ∈ ps, PM W (Sq S B sl W) q := by
 obtain ⟨ps, e, ho, hp⟩ := h.row
 obtain ⟨a, n, e2⟩ := ho.slice
 exact ⟨ps, a, n, by rw [e2, List.length_map], e, ho, hp⟩
end Go.Proofs.YtjfldbmopjojdabDoor
namespace Go.Proofs.YtjfldbmopjojdabDoor
open Go Go.RowKit Go.Lib Go.Shelf
theorem six_z (w : World) (g : Nat) (d0 d1 d2 d3 d4 d5 : Value) : ((((((w.setCell ⟨g, 0, none⟩ (d0)).setCell ⟨g, 1, none⟩ (d1)).setCell ⟨g, 2, none⟩ (d2)).setCell ⟨g, 3, none⟩ (d3)).setCell ⟨g, 4, none⟩ (d4)).setCell ⟨g, 5, none⟩ (d5)).heap.size = w.heap.size := by
 simp only [size_set1]
theorem six_g (w : World) (g : Nat) (d0 d1 d2 d3 d4 d5 : Value) : w.grownBy ((((((w.setCell ⟨g, 0, none⟩ (d0)).setCell ⟨g, 1, none⟩ (d1)).setCell ⟨g, 2, none⟩ (d2)).setCell ⟨g, 3, none⟩ (d3)).setCell ⟨g, 4, none⟩ (d4)).setCell ⟨g, 5, none⟩ (d5)) (some g) :=
 grown_set (grown_set (grown_set (grown_set (grown_set (grown_set (World.grownBy.refl w _) _ d0) _ d1) _ d2) _ d3) _ d4) _ d5
structure FinP (W Wf : World) (g D : Nat) (d0 d1 d2 d3 d4 d5 : Value) (ty : TypeId) : Prop where
 g_ : Wf.heap[g]? = some (.cells #[d0, d1, d2, d3, d4, d5] ty)
 o_ : ∀ z, z ≠ g → z ≠ D → Wf.heap[z]? = W.heap[z]?
 z_ : Wf.heap.size = W.heap.size
 s_ : Wf.os = W.os
 t_ : Wf.tape = W.tape
 p_ : Wf.output = W.output
theorem put_four (W : World) (D : Nat) (o : Obj) : (W.putObj D o).heap.size = W.heap.size ∧ (W.putObj D o).os = W.os ∧ (W.putObj D o).tape = W.tape ∧ (W.putObj D o).output = W.output := ⟨by simp, rfl, rfl, rfl⟩
theorem fin_put {W : World} {D g : Nat} {ty : TypeId} {c0 c1 c2 c3 c4 c5 : Value} (hg : W.heap[g]? = some (.cells #[c0, c1, c2, c3, c4, c5] ty)) (hgD : g ≠ D) (hD : W.heap[D]? = some (.deferred (some []))) (d0 d1 d2 d3 d4 d5 : Value) :
 ((((((W.setCell ⟨g, 0, none⟩ (d0)).setCell ⟨g, 1, none⟩ (d1)).setCell ⟨g, 2, none⟩ (d2)).setCell ⟨g, 3, none⟩ (d3)).setCell ⟨g, 4, none⟩ (d4)).setCell ⟨g, 5, none⟩ (d5)).heap[D]? = some (.deferred (some [])) ∧ FinP W (((((((W.setCell ⟨g, 0, none⟩ (d0)).setCell ⟨g, 1, none⟩ (d1)).setCell ⟨g, 2, none⟩ (d2)).setCell ⟨g, 3, none⟩ (d3)).setCell ⟨g, 4, none⟩ (d4)).setCell ⟨g, 5, none⟩ (d5)).putObj D (.deferred none)) g D d0 d1 d2 d3 d4 d5 ty := by
 have hG := six_g W g d0 d1 d2 d3 d4 d5
 have hP := put_four ((((((W.setCell ⟨g, 0, none⟩ (d0)).setCell ⟨g, 1, none⟩ (d1)).setCell ⟨g, 2, none⟩ (d2)).setCell ⟨g, 3, none⟩ (d3)).setCell ⟨g, 4, none⟩ (d4)).setCell ⟨g, 5, none⟩ (d5)) D (.deferred none)
 refine ⟨(six_o W g d0 d1 d2 d3 d4 d5 D (fun e => hgD e.symm)).trans hD, ?_, fun z h1 h2 => ?_, hP.1.trans (six_z W g d0 d1 d2 d3 d4 d5), hP.2.1.trans hG.os, hP.2.2.1.trans hG.tape, hP.2.2.2.trans hG.output⟩
 ·exact (World.putObj_heap_other hgD).trans (box_six hg d0 d1 d2 d3 d4 d5)
 ·exact (World.putObj_heap_other h2).trans (six_o W g d0 d1 d2 d3 d4 d5 z h1)
end Go.Proofs.YtjfldbmopjojdabDoor
namespace Go.Proofs.YtjfldbmopjojdabDoor
open Go Go.RowKit Go.Lib Go.Shelf
theorem mems_seg {t : V} {w : World} {S : Nat → Prop} {k i : Int} {b : Bool} {s : ByteArray} {al am : Option Addr} {nl cl nm cm : Nat} (h : t.lies false w S [.int .i64 k, .bool b, .int .i64 i, .string s, .slice al nl cl, .slice am nm cm]) :
 ∃ b o, ∃ qs : List (Mem × List Value), Headed am nm cm b o ∧ qs.map (fun q => q.1) = memsOf t ∧ qs.length = nm ∧ RowsOf w b o 7 (qs.map (fun q => q.2)) ∧ (∀ q ∈ qs, PM w S q) ∧ (0 < qs.length → S b) := by
 obtain ⟨k', b', i', s', l, m⟩ := t
 rw [V.lies] at h
 obtain ⟨al', cl', bl, ol, am', cm', bm, om, e, _, _, _, _, h4, _, h6, _⟩ := h
 injection e with e1 e
 injection e with e2 e
 injection e with e3 e
 injection e with e4 e
 injection e with e5 e
 injection e with e6 e
 injection e6 with e7 e8 e9
 subst e7 e8 e9
 obtain ⟨ps, h1, h2, h3, h5⟩ := segM h6
 exact ⟨bm, om, ps, h4, h1, by rw [← h1, List.length_map], h2, h3, h5⟩
theorem rows_below {w w' : World} {S : Nat → Prop} {b o : Nat} {qs : List (Mem × List Value)} (hS : ∀ y, S y → y < w.heap.size) (hi : 0 < qs.length → S b) (h : RowsOf w b o 7 (qs.map (fun q => q.2))) (hb : Below w.heap.size w w') : RowsOf w' b o 7 (qs.map (fun q => q.2)) :=
 ⟨h.len, h.one, fun j hj => (h.row j hj).keep (hb.block b (hS b (hi (by simp at hj; omega))))⟩
theorem pm_six {w : World} {S : Nat → Prop} {qs : List (Mem × List Value)} (h : ∀ q ∈ qs, PM w S q) : ∀ z ∈ qs, ∃ ek eb ei es eal enl ecl eam enm ecm, z.2 = .string z.1.1 :: [.int .i64 ek, .bool eb, .int .i64 ei, .string es, .slice eal enl ecl, .slice eam enm ecm] := fun z hz => by
 obtain ⟨cs, e0, e1, e2⟩ := h z hz
 obtain ⟨k, b, i, s, al, nl, cl, am, nm, cm, e⟩ := V.ten e2
 exact ⟨k, b, i, s, al, nl, cl, am, nm, cm, by rw [e0, e]⟩
theorem frozen_other {w w' : World} {g : Nat} (h : w'.heap[g]? = w.heap[g]?) (i : Nat) : w'.frozen? ⟨g, i, none⟩ = w.frozen? ⟨g, i, none⟩ := by
 simp [World.frozen?, h]
attribute [local go_sem] Oper.semAt_some
end Go.Proofs.YtjfldbmopjojdabDoor
namespace Go.Proofs.YtjfldbmopjojdabDoor
open Go.RowKit Go.Lib
def NwPost (p : V × Int) (w : World) (e : Ending) (w' : World) : Prop := ∃ cs : List Value, e = .returned (.tuple #[.agg cs.toArray, .int .i64 p.2]) ∧ p.1.lies false w' (New w w') cs ∧ Below w.heap.size w w'
end Go.Proofs.YtjfldbmopjojdabDoor
namespace Go.Proofs.YtjfldbmopjojdabDoor
open Go.RowKit Go.Lib
def smM (g : ByteArray → V → Nat) : List Mem → Nat
 | [] => 0
 | (k, x) :: t => g k x + smM g t
structure Mu (μ : V → Nat) (a : ByteArray → Nat) (c : Nat) : Prop where
 m : ∀ M, μ (.mk 5 false 0 ⟨#[]⟩ [] M) = c + smM (fun k x => a k + μ x) M
 u : ∀ k b i s l m, c + smM (fun k x => a k + μ x) m ≤ μ (.mk k b i s l m)
theorem dpM_mems (x : V) : dpM (memsOf x) ≤ dpV x := by
 obtain ⟨k, b, i, s, l, m⟩ := x
 rw [dpV]
 show dpM m ≤ _
 omega
end Go.Proofs.YtjfldbmopjojdabDoor
