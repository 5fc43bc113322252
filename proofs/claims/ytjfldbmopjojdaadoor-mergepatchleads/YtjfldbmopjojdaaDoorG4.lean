/- joined: TwinA TwinB ShlV -/
import Derived.Test.YtjfldbmopjojdaaDoorAppN
import Derived.Deep.QuietTactic
import Derived.BigQuiet
import Derived.Shelf.Unicode.ValidAny
set_option linter.unusedSimpArgs false
set_option linter.unusedVariables false
namespace Go.Proofs.YtjfldbmopjojdaaDoor
open Go.RowKit
def TwinPost (k : Int) (b : Bool) (i : Int) (s : ByteArray) (l : List V) (m : List Mem) (w : World) (e : Ending) (w' : World) : Prop :=
 ∃ gl cl gm cm SL SM, e = .returned (.agg #[.int .i64 k, .bool b, .int .i64 i, .string s, .slice (some ⟨gl, 0, none⟩) l.length cl, .slice (some ⟨gm, 0, none⟩) m.length cm]) ∧ Below w.heap.size w w' ∧
  OwnL true w' w.heap.size SL (.slice (some ⟨gl, 0, none⟩) (l.length + 1) cl) (l.map some ++ [none]) ∧ OwnM true w' w.heap.size SM (.slice (some ⟨gm, 0, none⟩) (m.length + 1) cm) (m.map some ++ [none]) ∧ ¬ SL gm ∧ ¬ SM gl ∧ gl ≠ gm
theorem OwnR.alloc {α : Type} {E : α → World → (Nat → Prop) → List Value → Prop} {ty sz : Nat} (K : KeepE E) {w : World} {base : Nat} {S : Nat → Prop} {v : Value} {l : List α} (h : OwnR E ty sz w base S v l) (o : Obj) : OwnR E ty sz (w.alloc o) base S v l :=
 h.keep K (World.grownBy_alloc w o none) (fun r e => by cases e)
theorem grown_of_below {w w' : World} (h : Below w.heap.size w w') : w.grownBy w' none := ⟨h.os, h.tape, h.output, h.size, fun k hk _ => h.block k hk⟩
theorem below_of_grown {w w' : World} (h : w.grownBy w' none) : Below w.heap.size w w' := ⟨h.os, h.tape, h.output, h.size, fun k hk => h.block k hk (by simp)⟩
theorem OwnR.below {α : Type} {E : α → World → (Nat → Prop) → List Value → Prop} {ty sz : Nat} (K : KeepE E) {w w' : World} {base : Nat} {S : Nat → Prop} {v : Value} {l : List α} (h : OwnR E ty sz w base S v l) (hb : Below w.heap.size w w') : OwnR E ty sz w' base S v l :=
 h.keep K (grown_of_below hb) (fun r e => by cases e)
theorem grown_set1 (w : World) (B i : Nat) (u : Value) : w.grownBy (w.setCell ⟨B, i, none⟩ u) (some B) := grown_set (World.grownBy.refl w (some B)) i u
theorem OwnR.set {α : Type} {E : α → World → (Nat → Prop) → List Value → Prop} {ty sz : Nat} (K : KeepE E) {w : World} {base B : Nat} {S : Nat → Prop} {v : Value} {l : List α} (h : OwnR E ty sz w base S v l) (hB : B < base) (i : Nat) (u : Value) : OwnR E ty sz (w.setCell ⟨B, i, none⟩ u) base S v l :=
 h.keep K (grown_set1 w B i u) (fun r e => by
  cases e
  exact ⟨fun hS => by have := (h.off _ hS).1; omega, fun e => by have := (h.lt e).1; omega⟩)
theorem set_block {w : World} {b : Nat} {c : Array Value} {t : TypeId} {f : Nat × Nat} (h : w.heap[b]? = some (.cells c t f)) (i : Nat) (u : Value) : (w.setCell ⟨b, i, none⟩ u).heap[b]? = some (.cells (c.setIfInBounds i u) t f) := by
 simp [World.setCell, Array.getElem?_modify, h]
theorem rowAt_of_own {w : World} {base ty sz n g cap : Nat} {xs : List Value} (h : w.ownsRow base ty sz (.slice (some ⟨g, 0, none⟩) n cap) n xs) (j : Nat) : rowAt w g (0 + j * sz) ((xs.drop (j * sz)).take sz) := by
 intro q u hu
 have hq : xs[j * sz + q]? = some u := by
  rw [List.getElem?_take] at hu
  split at hu
  ·rwa [List.getElem?_drop] at hu
  ·cases hu
 have := h.cells (g := g) rfl (j * sz + q) u hq
 rw [Go.WideShapes.add_plain] at this
 rwa [Nat.add_assoc]
theorem OwnR.at {α : Type} {E : α → World → (Nat → Prop) → List Value → Prop} {ty sz : Nat} {w : World} {base g n cap : Nat} {S : Nat → Prop} {l : List α} (h : OwnR E ty sz w base S (.slice (some ⟨g, 0, none⟩) n cap) l) (hn : n = l.length) (j : Nat) (hj : j < l.length) :
 ∃ cs, rowAt w g (0 + j * sz) cs ∧ E l[j] w S cs := by
 subst hn
 obtain ⟨⟨xs, h1, h2⟩, _⟩ := h
 exact ⟨_, rowAt_of_own h1 j, h2 j hj⟩
theorem OwnR.le {α : Type} {E : α → World → (Nat → Prop) → List Value → Prop} {ty sz : Nat} {w : World} {base g n cap : Nat} {S : Nat → Prop} {l : List α} (h : OwnR E ty sz w base S (.slice (some ⟨g, 0, none⟩) n cap) l) : l.length ≤ cap ∧ cap ≤ maxLen := by
 obtain ⟨⟨xs, h1, _⟩, _⟩ := h
 rcases h1.2 with ⟨e, _⟩ | ⟨g', cap', cur, e, _, _, h3, h4, _⟩
 ·cases e
 ·cases e; exact ⟨h3, h4⟩
theorem TwinPost.lies {k : Int} {b : Bool} {i : Int} {s : ByteArray} {l : List V} {m : List Mem} {w' : World} {gl cl gm cm N : Nat} {SL SM : Nat → Prop} (hk : In64 k) (hi : In64 i) (hs : s.size ≤ maxLen)
 (hL : OwnL true w' N SL (.slice (some ⟨gl, 0, none⟩) (l.length + 1) cl) (l.map some ++ [none])) (hM : OwnM true w' N SM (.slice (some ⟨gm, 0, none⟩) (m.length + 1) cm) (m.map some ++ [none])) :
 (V.mk k b i s l m).lies true w' (fun x => N ≤ x ∧ x < w'.heap.size) [.int .i64 k, .bool b, .int .i64 i, .string s, .slice (some ⟨gl, 0, none⟩) l.length cl, .slice (some ⟨gm, 0, none⟩) m.length cm] := by
 have hl1 := hL.le
 have hm1 := hM.le
 have hgl := hL.lt (g := gl) rfl
 have hgm := hM.lt (g := gm) rfl
 simp at hl1 hm1
 rw [V.lies]
 refine ⟨_, _, gl, 0, _, _, gm, 0, rfl, hk, hi, hs, ⟨by omega, hl1.2, .inr rfl, fun h => by cases h⟩, ⟨by omega, hm1.2, .inr rfl, fun h => by cases h⟩, liesL_mk fun j hj => ⟨hgl, ?_⟩, liesM_mk fun j hj => ?_, fun _ => ⟨rfl, by omega, hgl, ?_, rfl, by omega, hgm, ?_⟩⟩
 ·obtain ⟨cs, h1, h2⟩ := hL.at (by simp) j (by simp; omega)
  refine ⟨cs, h1, ?_⟩
  rw [List.getElem_append_left (by simpa using hj), List.getElem_map] at h2
  exact V.lies_keep (fun h => h) (fun _ _ => rfl) (fun b hb => ⟨(hL.off b hb).1, (hL.off b hb).2.1⟩) _ h2
 ·obtain ⟨cs, h1, h2⟩ := hM.at (by simp) j (by simp; omega)
  rw [List.getElem_append_left (by simpa using hj), List.getElem_map] at h2
  obtain ⟨cs', rfl, hks, h3⟩ := h2
  exact ⟨hgm, hks, cs', h1, V.lies_keep (fun h => h) (fun _ _ => rfl) (fun b hb => ⟨(hM.off b hb).1, (hM.off b hb).2.1⟩) _ h3⟩
 ·obtain ⟨cs, h1, h2⟩ := hL.at (by simp) l.length (by simp)
  rw [List.getElem_append_right (by simp)] at h2
  simp only [List.length_map, Nat.sub_self, List.getElem_cons_zero] at h2
  have h3 : cs = [.int .i64 77, .bool false, .int .i64 0, .string ⟨#[]⟩, .slice none 0 0, .slice none 0 0] := h2
  subst h3
  exact h1 0 _ rfl
 ·obtain ⟨cs, h1, h2⟩ := hM.at (by simp) m.length (by simp)
  rw [List.getElem_append_right (by simp)] at h2
  simp only [List.length_map, Nat.sub_self, List.getElem_cons_zero] at h2
  have h3 : cs = [.string ⟨#[114, 111, 111, 109]⟩, .int .i64 0, .bool false, .int .i64 0, .string ⟨#[]⟩, .slice none 0 0, .slice none 0 0] := h2
  subst h3
  exact h1 0 _ rfl
end Go.Proofs.YtjfldbmopjojdaaDoor
namespace Go.Proofs.YtjfldbmopjojdaaDoor
open Go.RowKit
theorem cell_of_block {w : World} {b : Nat} {c : Array Value} {t : TypeId} {f : Nat × Nat} (h : w.heap[b]? = some (.cells c t f)) (i : Nat) : w.cell? ⟨b, i, none⟩ = c[i]? := by simp [World.cell?, h]
theorem frozen_of_block {w : World} {b : Nat} {c : Array Value} {t : TypeId} (h : w.heap[b]? = some (.cells c t (0, 0))) (i : Nat) : w.frozen? ⟨b, i, none⟩ = false := by simp [World.frozen?, h]
structure TwF (w : World) (box loc : Array Value) (wr : World) : Prop where
 below : Below w.heap.size w wr
 b0 : wr.heap[w.heap.size]? = some (.cells box 25 (0, 0))
 b1 : wr.heap[w.heap.size + 1]? = some (.cells #[.int .i64 0, .bool false, .int .i64 0, .string ⟨#[]⟩, .slice none 0 0, .slice none 0 0] 25 (0, 0))
 b2 : wr.heap[w.heap.size + 1 + 1]? = some (.cells loc 25 (0, 0))
theorem TwF.lt {w : World} {box loc : Array Value} {wr : World} (h : TwF w box loc wr) : w.heap.size + 3 ≤ wr.heap.size := (Array.getElem?_eq_some_iff.1 h.b2).1
theorem TwF.grown {w : World} {box loc : Array Value} {wr wr' : World} (h : TwF w box loc wr) {row : Option Nat} (g : wr.grownBy wr' row) (hr : ∀ r, row = some r → w.heap.size + 3 ≤ r) : TwF w box loc wr' := by
 have hs := h.lt
 have hn : ∀ q, q < w.heap.size + 3 → some q ≠ row := fun q hq e => by have := hr q e.symm; omega
 exact ⟨h.below.grown g (by omega) (fun r e => by have := hr r e; omega), (g.block _ (by omega) (hn _ (by omega))).trans h.b0, (g.block _ (by omega) (hn _ (by omega))).trans h.b1, (g.block _ (by omega) (hn _ (by omega))).trans h.b2⟩
theorem TwF.set {w : World} {box loc loc' : Array Value} {wr : World} (h : TwF w box loc wr) (i : Nat) (u : Value) (e : loc.setIfInBounds i u = loc') : TwF w box loc' (wr.setCell ⟨w.heap.size + 1 + 1, i, none⟩ u) := by
 have hs := h.lt
 have g := grown_set1 wr (w.heap.size + 1 + 1) i u
 have hn : ∀ q, q < w.heap.size + 2 → some q ≠ some (w.heap.size + 1 + 1) := fun q hq e => by have := Option.some.inj e; omega
 refine ⟨h.below.grown g (by omega) (fun r e => by cases e; omega), (g.block _ (by omega) (hn _ (by omega))).trans h.b0, (g.block _ (by omega) (hn _ (by omega))).trans h.b1, ?_⟩
 rw [set_block h.b2, e]
theorem alloc_size (w : World) (o : Obj) : (w.alloc o).heap.size = w.heap.size + 1 := by simp
theorem three_allocs (w : World) (o0 o1 o2 : Obj) : (((w.alloc o0).alloc o1).alloc o2).heap[w.heap.size]? = some o0 ∧ (((w.alloc o0).alloc o1).alloc o2).heap[w.heap.size + 1]? = some o1 ∧ (((w.alloc o0).alloc o1).alloc o2).heap[w.heap.size + 1 + 1]? = some o2 := by
 refine ⟨?_, ?_, ?_⟩
 ·rw [Below.heap_alloc _ _ _ (by rw [alloc_size, alloc_size]; omega), Below.heap_alloc _ _ _ (by rw [alloc_size]; omega)]
  exact heap_alloc_new w o0
 ·rw [Below.heap_alloc _ _ _ (by rw [alloc_size, alloc_size]; omega)]
  have := heap_alloc_new (w.alloc o0) o1
  rwa [alloc_size] at this
 ·have := heap_alloc_new ((w.alloc o0).alloc o1) o2
  rwa [alloc_size, alloc_size] at this
theorem three_below (w : World) (o0 o1 o2 : Obj) : Below w.heap.size w (((w.alloc o0).alloc o1).alloc o2) :=
 (((Below.refl w.heap.size w).alloc (Nat.le_refl _) _).alloc (by rw [alloc_size]; omega) _).alloc (by rw [alloc_size, alloc_size]; omega) _
theorem alloc2_new (w : World) (o o' : Obj) : ((w.alloc o).alloc o').heap[w.heap.size + 1]? = some o' := by
 have := heap_alloc_new (w.alloc o) o'
 rwa [alloc_size] at this
theorem grown_drew (w : World) (row : Option Nat) : w.grownBy w.drew row := ⟨rfl, rfl, rfl, Nat.le_refl _, fun _ _ _ => rfl⟩
theorem OwnR.drew {α : Type} {E : α → World → (Nat → Prop) → List Value → Prop} {ty sz : Nat} (K : KeepE E) {w : World} {base : Nat} {S : Nat → Prop} {v : Value} {l : List α} (h : OwnR E ty sz w base S v l) : OwnR E ty sz w.drew base S v l :=
 h.keep K (grown_drew w none) (fun r e => by cases e)
theorem results_cell1 {fn : Func} {p : Tmp} {ty : TypeId} (h : fn.results = #[.cell p ty]) (tmps : Array Value) (P : Program) (w : World) :
 (results fn tmps).run P w = ((asAddr (tmps.getD p undef)).run P w).andThen fun a w₁ => (loadVar ty a).run P w₁ := by
 simp only [results, h]
 simp [Sem.run_bind, Result.andThen]
end Go.Proofs.YtjfldbmopjojdaaDoor
namespace Go.Proofs
open Go.Shelf Go.RowKit
def Tryd.lays196_ren : Go.Shelf.Ren := ⟨fun | 196 => 69 | 259 => 74 | n => n, fun | 0 => 0 | 3 => 3 | 4 => 4 | 5 => 5 | 9 => 9 | 12 => 12 | 46 => 90 | 53 => 103 | 119 => 93 | 138 => 95 | 139 => 96 | n => n, fun | 3 => 1 | 4 => 2 | n => n⟩
theorem Tryd.lays196 : Go.Proofs.Lays.n196 Tryd.prog Tryd.lays196_ren := {
 mixed := by kernel_rfl
 f196 := Tryd.func69.trans (congrArg some (by kernel_rfl))
 f259 := Tryd.func74.trans (congrArg some (by kernel_rfl))
 t0 := Tryd.underlying0
 a0 := Tryd.isAgg0
 z0 := Tryd.sizeOf0
 v0 := Tryd.zeroValue0
 t3 := Tryd.underlying3
 a3 := Tryd.isAgg3
 z3 := Tryd.sizeOf3
 v3 := Tryd.zeroValue3
 t4 := Tryd.underlying4
 a4 := Tryd.isAgg4
 z4 := Tryd.sizeOf4
 v4 := Tryd.zeroValue4
 t5 := Tryd.underlying5
 a5 := Tryd.isAgg5
 z5 := Tryd.sizeOf5
 v5 := Tryd.zeroValue5
 t9 := Tryd.underlying9
 a9 := Tryd.isAgg9
 z9 := Tryd.sizeOf9
 v9 := Tryd.zeroValue9
 t12 := Tryd.underlying12
 a12 := Tryd.isAgg12
 z12 := Tryd.sizeOf12
 v12 := Tryd.zeroValue12
 t46 := Tryd.underlying90
 a46 := Tryd.isAgg90
 z46 := Tryd.sizeOf90
 v46 := Tryd.zeroValue90
 t53 := Tryd.underlying103
 a53 := Tryd.isAgg103
 z53 := Tryd.sizeOf103
 v53 := Tryd.zeroValue103
 t119 := Tryd.underlying93
 a119 := Tryd.isAgg93
 z119 := Tryd.sizeOf93
 t138 := Tryd.underlying95
 a138 := Tryd.isAgg95
 z138 := Tryd.sizeOf95
 v138 := Tryd.zeroValue95
 t139 := Tryd.underlying96
 a139 := Tryd.isAgg96
 z139 := Tryd.sizeOf96
 v139 := Tryd.zeroValue96
 g3 := by kernel_rfl
 g4 := by kernel_rfl }
namespace YtjfldbmopjojdaaDoor
open Go.Lib
theorem validString_any (s : ByteArray) (w : World) (hs : s.size ≤ 281474976710656) (hU : Utf8Tabs 1 2 w) :
 Calls Tryd.prog 69 #[.string s] w fun e w' => e = .returned (.bool (validD s.data.toList)) ∧ Below w.heap.size w w' :=
 Any.utf8_ValidString Tryd.lays196 s w (by omega) hU
end YtjfldbmopjojdaaDoor
end Go.Proofs
