/- joined: TwinA TwinB ShlV ChkA QSub ChkB -/
import Derived.Test.YtolekldjbbjmjaaGreatDoorAppN
import Derived.Deep.QuietTactic
import Derived.BigQuiet
import Derived.Shelf.Unicode.ValidAny
import Derived.Deep.RegionWith
import Derived.Laws.Cover1
/- twin: the same value in memory of its own. -/
set_option linter.unusedSimpArgs false
set_option linter.unusedVariables false
namespace Go.Proofs.YtolekldjbbjmjaaGreatDoor
open Go.RowKit
def TwinPost (k : Int) (b : Bool) (i : Int) (s : ByteArray) (l : List V) (m : List Mem) (w : World) (e : Ending) (w' : World) : Prop :=
  ∃ gl cl gm cm SL SM, e = .returned (.agg #[.int .i64 k, .bool b, .int .i64 i, .string s, .slice (some ⟨gl, 0, none⟩) l.length cl, .slice (some ⟨gm, 0, none⟩) m.length cm]) ∧ Below w.heap.size w w' ∧
    OwnL true w' w.heap.size SL (.slice (some ⟨gl, 0, none⟩) (l.length + 1) cl) (l.map some ++ [none]) ∧ OwnM true w' w.heap.size SM (.slice (some ⟨gm, 0, none⟩) (m.length + 1) cm) (m.map some ++ [none]) ∧ ¬ SL gm ∧ ¬ SM gl ∧ gl ≠ gm
theorem OwnR.alloc {α : Type} {E : α → World → (Nat → Prop) → List Value → Prop} {ty sz : Nat} (K : KeepE E) {w : World} {base : Nat} {S : Nat → Prop} {v : Value} {l : List α} (h : OwnR E ty sz w base S v l) (o : Obj) : OwnR E ty sz (w.alloc o) base S v l :=
  h.keep K (World.grownBy_alloc w o none) (fun r e => by cases e)
theorem grown_of_below {w w' : World} (h : Below w.heap.size w w') : w.grownBy w' none := ⟨h.os, h.tape, h.output, h.size, fun k hk _ => h.block k hk⟩
theorem OwnR.below {α : Type} {E : α → World → (Nat → Prop) → List Value → Prop} {ty sz : Nat} (K : KeepE E) {w w' : World} {base : Nat} {S : Nat → Prop} {v : Value} {l : List α} (h : OwnR E ty sz w base S v l) (hb : Below w.heap.size w w') : OwnR E ty sz w' base S v l :=
  h.keep K (grown_of_below hb) (fun r e => by cases e)
theorem grown_set1 (w : World) (B i : Nat) (u : Value) : w.grownBy (w.setCell ⟨B, i, none⟩ u) (some B) := grown_set (World.grownBy.refl w (some B)) i u
theorem set_block {w : World} {b : Nat} {c : Array Value} {t : TypeId} {f : Nat × Nat} (h : w.heap[b]? = some (.cells c t f)) (i : Nat) (u : Value) : (w.setCell ⟨b, i, none⟩ u).heap[b]? = some (.cells (c.setIfInBounds i u) t f) := by
  simp [World.setCell, Array.getElem?_modify, h]
theorem rowAt_of_own {w : World} {base ty sz n g cap : Nat} {xs : List Value} (h : w.ownsRow base ty sz (.slice (some ⟨g, 0, none⟩) n cap) n xs) (j : Nat) : rowAt w g (0 + j * sz) ((xs.drop (j * sz)).take sz) := by
  intro q u hu
  have hq : xs[j * sz + q]? = some u := by
    rw [List.getElem?_take] at hu
    split at hu
    · rwa [List.getElem?_drop] at hu
    · cases hu
  have := h.cells (g := g) rfl (j * sz + q) u hq
  rw [Go.WideShapes.add_plain] at this
  rwa [Nat.add_assoc]
theorem OwnR.at {α : Type} {E : α → World → (Nat → Prop) → List Value → Prop} {ty sz : Nat} {w : World} {base g n cap : Nat} {S : Nat → Prop} {l : List α} (h : OwnR E ty sz w base S (.slice (some ⟨g, 0, none⟩) n cap) l) (hn : n = l.length) (j : Nat) (hj : j < l.length) :
    ∃ cs, rowAt w g (0 + j * sz) cs ∧ E l[j] w S cs := by
  subst hn
  obtain ⟨⟨xs, h1, h2⟩, _⟩ := h
  exact ⟨_, rowAt_of_own h1 j, h2 j hj⟩
theorem OwnR.le {α : Type} {E : α → World → (Nat → Prop) → List Value → Prop} {ty sz : Nat} {w : World} {base g n cap : Nat} {S : Nat → Prop} {l : List α} (h : OwnR E ty sz w base S (.slice (some ⟨g, 0, none⟩) n cap) l) : l.length ≤ cap ∧ cap ≤ maxLen := by
  obtain ⟨⟨xs, h1, _⟩, _⟩ := h
  rcases h1.2 with ⟨e, _⟩ | ⟨g', cap', cur, e, _, _, h3, h4, _⟩
  · cases e
  · cases e; exact ⟨h3, h4⟩
/-- what a twin is -/
theorem TwinPost.lies {k : Int} {b : Bool} {i : Int} {s : ByteArray} {l : List V} {m : List Mem} {w' : World} {gl cl gm cm N : Nat} {SL SM : Nat → Prop} (hk : In64 k) (hi : In64 i) (hs : s.size ≤ maxLen)
    (hL : OwnL true w' N SL (.slice (some ⟨gl, 0, none⟩) (l.length + 1) cl) (l.map some ++ [none])) (hM : OwnM true w' N SM (.slice (some ⟨gm, 0, none⟩) (m.length + 1) cm) (m.map some ++ [none])) :
    (V.mk k b i s l m).lies true w' (fun x => N ≤ x ∧ x < w'.heap.size) [.int .i64 k, .bool b, .int .i64 i, .string s, .slice (some ⟨gl, 0, none⟩) l.length cl, .slice (some ⟨gm, 0, none⟩) m.length cm] := by
  have hl1 := hL.le
  have hm1 := hM.le
  have hgl := hL.lt (g := gl) rfl
  have hgm := hM.lt (g := gm) rfl
  simp at hl1 hm1
  rw [V.lies]
  refine ⟨_, _, gl, 0, _, _, gm, 0, rfl, hk, hi, hs, ⟨by omega, hl1.2, .inr rfl, fun h => by cases h⟩, ⟨by omega, hm1.2, .inr rfl, fun h => by cases h⟩, liesL_mk fun j hj => ⟨hgl, ?_⟩, liesM_mk fun j hj => ?_, fun _ => ⟨rfl, by omega, hgl, ?_, rfl, by omega, hgm, ?_⟩⟩
  · obtain ⟨cs, h1, h2⟩ := hL.at (by simp) j (by simp; omega)
    refine ⟨cs, h1, ?_⟩
    rw [List.getElem_append_left (by simpa using hj), List.getElem_map] at h2
    exact V.lies_keep (fun h => h) (fun _ _ => rfl) (fun b hb => ⟨(hL.off b hb).1, (hL.off b hb).2.1⟩) _ h2
  · obtain ⟨cs, h1, h2⟩ := hM.at (by simp) j (by simp; omega)
    rw [List.getElem_append_left (by simpa using hj), List.getElem_map] at h2
    obtain ⟨cs', rfl, hks, h3⟩ := h2
    exact ⟨hgm, hks, cs', h1, V.lies_keep (fun h => h) (fun _ _ => rfl) (fun b hb => ⟨(hM.off b hb).1, (hM.off b hb).2.1⟩) _ h3⟩
  · obtain ⟨cs, h1, h2⟩ := hL.at (by simp) l.length (by simp)
    rw [List.getElem_append_right (by simp)] at h2
    simp only [List.length_map, Nat.sub_self, List.getElem_cons_zero] at h2
    have h3 : cs = [.int .i64 77, .bool false, .int .i64 0, .string ⟨#[]⟩, .slice none 0 0, .slice none 0 0] := h2
    subst h3
    exact h1 0 _ rfl
  · obtain ⟨cs, h1, h2⟩ := hM.at (by simp) m.length (by simp)
    rw [List.getElem_append_right (by simp)] at h2
    simp only [List.length_map, Nat.sub_self, List.getElem_cons_zero] at h2
    have h3 : cs = [.string ⟨#[114, 111, 111, 109]⟩, .int .i64 0, .bool false, .int .i64 0, .string ⟨#[]⟩, .slice none 0 0, .slice none 0 0] := h2
    subst h3
    exact h1 0 _ rfl
end Go.Proofs.YtolekldjbbjmjaaGreatDoor
/- twin: the walk. -/
namespace Go.Proofs.YtolekldjbbjmjaaGreatDoor
open Go.RowKit
theorem cell_of_block {w : World} {b : Nat} {c : Array Value} {t : TypeId} {f : Nat × Nat} (h : w.heap[b]? = some (.cells c t f)) (i : Nat) : w.cell? ⟨b, i, none⟩ = c[i]? := by simp [World.cell?, h]
theorem frozen_of_block {w : World} {b : Nat} {c : Array Value} {t : TypeId} (h : w.heap[b]? = some (.cells c t (0, 0))) (i : Nat) : w.frozen? ⟨b, i, none⟩ = false := by simp [World.frozen?, h]
/-- the three blocks of the call: the argument, the answer, the value that is made -/
structure TwF (w : World) (box loc : Array Value) (wr : World) : Prop where
  below : Below w.heap.size w wr
  b0 : wr.heap[w.heap.size]? = some (.cells box 51 (0, 0))
  b1 : wr.heap[w.heap.size + 1]? = some (.cells #[.int .i64 0, .bool false, .int .i64 0, .string ⟨#[]⟩, .slice none 0 0, .slice none 0 0] 51 (0, 0))
  b2 : wr.heap[w.heap.size + 1 + 1]? = some (.cells loc 51 (0, 0))
theorem TwF.lt {w : World} {box loc : Array Value} {wr : World} (h : TwF w box loc wr) : w.heap.size + 3 ≤ wr.heap.size := (Array.getElem?_eq_some_iff.1 h.b2).1
theorem TwF.grown {w : World} {box loc : Array Value} {wr wr' : World} (h : TwF w box loc wr) {row : Option Nat} (g : wr.grownBy wr' row) (hr : ∀ r, row = some r → w.heap.size + 3 ≤ r) : TwF w box loc wr' := by
  have hs := h.lt
  have hn : ∀ q, q < w.heap.size + 3 → some q ≠ row := fun q hq e => by have := hr q e.symm; omega
  exact ⟨h.below.grown g (by omega) (fun r e => by have := hr r e; omega), (g.block _ (by omega) (hn _ (by omega))).trans h.b0, (g.block _ (by omega) (hn _ (by omega))).trans h.b1, (g.block _ (by omega) (hn _ (by omega))).trans h.b2⟩
theorem alloc_size (w : World) (o : Obj) : (w.alloc o).heap.size = w.heap.size + 1 := by simp
theorem grown_drew (w : World) (row : Option Nat) : w.grownBy w.drew row := ⟨rfl, rfl, rfl, Nat.le_refl _, fun _ _ _ => rfl⟩
theorem OwnR.drew {α : Type} {E : α → World → (Nat → Prop) → List Value → Prop} {ty sz : Nat} (K : KeepE E) {w : World} {base : Nat} {S : Nat → Prop} {v : Value} {l : List α} (h : OwnR E ty sz w base S v l) : OwnR E ty sz w.drew base S v l :=
  h.keep K (grown_drew w none) (fun r e => by cases e)
theorem results_cell1 {fn : Func} {p : Tmp} {ty : TypeId} (h : fn.results = #[.cell p ty]) (tmps : Array Value) (P : Program) (w : World) :
    (results fn tmps).run P w = ((asAddr (tmps.getD p undef)).run P w).andThen fun a w₁ => (loadVar ty a).run P w₁ := by
  simp only [results, h]
  simp [Sem.run_bind, Result.andThen]
end Go.Proofs.YtolekldjbbjmjaaGreatDoor
/- utf8.ValidString by its contract, laid at this program. -/
namespace Go.Proofs
open Go.Shelf Go.RowKit
def Tryz.lays196_ren : Go.Shelf.Ren := ⟨fun | 196 => 110 | 259 => 127 | n => n, fun | 0 => 0 | 3 => 3 | 4 => 4 | 5 => 5 | 9 => 9 | 12 => 12 | 46 => 111 | 53 => 135 | 119 => 168 | 138 => 170 | 139 => 171 | n => n, fun | 3 => 0 | 4 => 1 | n => n⟩
theorem Tryz.lays196 : Go.Proofs.Lays.n196 Tryz.prog Tryz.lays196_ren := {
  mixed := by kernel_rfl
  f196 := Tryz.func110.trans (congrArg some (by kernel_rfl))
  f259 := Tryz.func127.trans (congrArg some (by kernel_rfl))
  t0 := Tryz.underlying0
  a0 := Tryz.isAgg0
  z0 := Tryz.sizeOf0
  v0 := Tryz.zeroValue0
  t3 := Tryz.underlying3
  a3 := Tryz.isAgg3
  z3 := Tryz.sizeOf3
  v3 := Tryz.zeroValue3
  t4 := Tryz.underlying4
  a4 := Tryz.isAgg4
  z4 := Tryz.sizeOf4
  v4 := Tryz.zeroValue4
  t5 := Tryz.underlying5
  a5 := Tryz.isAgg5
  z5 := Tryz.sizeOf5
  v5 := Tryz.zeroValue5
  t9 := Tryz.underlying9
  a9 := Tryz.isAgg9
  z9 := Tryz.sizeOf9
  v9 := Tryz.zeroValue9
  t12 := Tryz.underlying12
  a12 := Tryz.isAgg12
  z12 := Tryz.sizeOf12
  v12 := Tryz.zeroValue12
  t46 := Tryz.underlying111
  a46 := Tryz.isAgg111
  z46 := Tryz.sizeOf111
  v46 := Tryz.zeroValue111
  t53 := Tryz.underlying135
  a53 := Tryz.isAgg135
  z53 := Tryz.sizeOf135
  v53 := Tryz.zeroValue135
  t119 := Tryz.underlying168
  a119 := Tryz.isAgg168
  z119 := Tryz.sizeOf168
  t138 := Tryz.underlying170
  a138 := Tryz.isAgg170
  z138 := Tryz.sizeOf170
  v138 := Tryz.zeroValue170
  t139 := Tryz.underlying171
  a139 := Tryz.isAgg171
  z139 := Tryz.sizeOf171
  v139 := Tryz.zeroValue171
  g3 := by kernel_rfl
  g4 := by kernel_rfl }
namespace YtolekldjbbjmjaaGreatDoor
open Go.Lib
theorem validString_any (s : ByteArray) (w : World) (hs : s.size ≤ 281474976710656) (hU : Utf8Tabs 0 1 w) :
    Calls Tryz.prog 110 #[.string s] w fun e w' => e = .returned (.bool (validD s.data.toList)) ∧ Below w.heap.size w w' :=
  Any.utf8_ValidString Tryz.lays196 s w (by omega) hU
end YtolekldjbbjmjaaGreatDoor
end Go.Proofs
/- value.plain, value.rising. -/
namespace Go.Proofs.YtolekldjbbjmjaaGreatDoor
open Go.RowKit Go.Lib
theorem utab_grown {w w' : World} {row : Option Nat} (h : Utf8Tabs 0 1 w) (hb : w.grownBy w' row) (h2 : 1 < w.heap.size) (hr : ∀ r, row = some r → 1 < r) : Utf8Tabs 0 1 w' := by
  have hn : ∀ q, q ≤ 1 → some q ≠ row := fun q hq e => by have := hr q e.symm; omega
  have k1 := hb.block 0 (by omega) (hn 0 (by omega))
  have k2 := hb.block 1 (by omega) (hn 1 (by omega))
  exact ⟨fun c hc => (World.cell?_of_block (w := w) (a := ⟨0, c, none⟩) k1).trans (h.1 c hc), fun i hi => ⟨(World.cell?_of_block (w := w) (a := ⟨1, 2 * i, none⟩) k2).trans (h.2 i hi).1, (World.cell?_of_block (w := w) (a := ⟨1, 2 * i + 1, none⟩) k2).trans (h.2 i hi).2⟩⟩
/-- what the calls read beside their arguments -/
structure Tb (w : World) : Prop where
  u : Utf8Tabs 0 1 w
  z : 1 < w.heap.size
theorem Tb.grown {w w' : World} {row : Option Nat} (h : Tb w) (hb : w.grownBy w' row) (hr : ∀ r, row = some r → 1 < r) : Tb w' := ⟨utab_grown h.u hb h.z hr, Nat.lt_of_lt_of_le h.z hb.size⟩
theorem Tb.below {w w' : World} {B : Nat} (h : Tb w) (hb : Below B w w') (hB : 1 < B) : Tb w' := by
  refine ⟨?_, Nat.lt_of_lt_of_le h.z hb.size⟩
  exact ⟨fun c hc => (hb.cell (p := ⟨0, c, none⟩) (by show 0 < B; omega)).trans (h.u.1 c hc), fun i hi => ⟨(hb.cell (p := ⟨1, 2 * i, none⟩) hB).trans (h.u.2 i hi).1, (hb.cell (p := ⟨1, 2 * i + 1, none⟩) hB).trans (h.u.2 i hi).2⟩⟩
def BPost (r : Bool) (w : World) (e : Ending) (w' : World) : Prop := e = .returned (.bool r) ∧ Below w.heap.size w w'
end Go.Proofs.YtolekldjbbjmjaaGreatDoor
/- Regions that draw their order, whose operations only read and whose callees only make memory: one walk. -/
namespace Go.Proofs.YtolekldjbbjmjaaGreatDoor
open Go.RowKit
/-- a world in which all that lay below N lies as it did -/
structure Sub (N : Nat) (w0 : World) where
  w : World
  b : Below N w0 w
instance subThere (N : Nat) (w0 : World) : Inhabited (Sub N w0) := ⟨⟨w0, Below.refl N w0⟩⟩
theorem wp_region_sub {P : Program} (N : Nat) {id : Nat} {Q : Exit → Act → World → Prop} {a : Act} {w : World} {l : List Oper} (hm : P.follows .mixedOrders = true) (hB : Region.lexB .any l.toArray = true)
    (h : wpQuiet P l.toArray (fun w' => ∃ x : Sub N w, w' = x.w) (fun a' => ∀ w', (∃ x : Sub N w, w' = x.w) → Q .normal a' w') l a) : (Code.region id l.toArray true).wp P Q a w :=
  wp_region_quiet (C := fun w' => ∃ x : Sub N w, w' = x.w) hm hB ⟨⟨w.drew, (Below.refl N w).drew⟩, rfl⟩ (by simpa using h)
theorem sub_call {P : Program} {f : FuncId} {args : Array Value} {N : Nat} {w0 : World} {v : Value} (h : ∀ w', Below N w0 w' → Calls P f args w' fun e w'' => e = .returned v ∧ Below N w0 w'') (x : Sub N w0) :
    Calls P f args x.w fun e w'' => e = .returned v ∧ ∃ y : Sub N w0, w'' = y.w :=
  (h x.w x.b).mono fun e w'' ⟨he, hb⟩ => ⟨he, ⟨w'', hb⟩, rfl⟩
theorem sub_cell {N : Nat} {w0 : World} {b o : Nat} {v : Value} (h : w0.cell? ⟨b, o, none⟩ = some v) (hb : b < N) (x : Sub N w0) : x.w.cell? ⟨b, o, none⟩ = some v :=
  (x.b.cell (p := ⟨b, o, none⟩) hb).trans h
end Go.Proofs.YtolekldjbbjmjaaGreatDoor
/- value.rising. -/
namespace Go.Proofs.YtolekldjbbjmjaaGreatDoor
open Go.RowKit Go.Lib
def utfB (s : ByteArray) : Bool := validD s.data.toList
end Go.Proofs.YtolekldjbbjmjaaGreatDoor
