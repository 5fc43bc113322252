/- joined: TwinB Abb ShlV ChkA QSub -/
import Derived.Test.YtjfldbmopjojdaaDoorG2
import Derived.Deep.QuietTactic
import Derived.BigQuiet
import Derived.Deep.RegionHeld3
import Derived.Shelf.Unicode.ValidAny
import Derived.Deep.RegionWith
set_option linter.unusedSimpArgs false
set_option linter.unusedVariables false
namespace Go.Proofs.YtjfldbmopjojdaaDoor
open Go.RowKit
theorem cell_of_block {w : World} {b : Nat} {c : Array Value} {t : TypeId} {f : Nat × Nat} (h : w.heap[b]? = some (.cells c t f)) (i : Nat) : w.cell? ⟨b, i, none⟩ = c[i]? := by simp [World.cell?, h]
theorem frozen_of_block {w : World} {b : Nat} {c : Array Value} {t : TypeId} (h : w.heap[b]? = some (.cells c t (0, 0))) (i : Nat) : w.frozen? ⟨b, i, none⟩ = false := by simp [World.frozen?, h]
theorem _root_.Go.World.grownBy.trans' {a b : World} {row : Option Nat} (h : a.grownBy b row) (o : Obj) : a.grownBy (b.alloc o) row := grown_trans h (World.grownBy_alloc _ _ _)
structure TwF (w : World) (box loc : Array Value) (wr : World) : Prop where
 below : Below w.heap.size w wr
 b0 : wr.heap[w.heap.size]? = some (.cells box 25 (0, 0))
 b1 : wr.heap[w.heap.size + 1]? = some (.cells #[.int .i64 0, .bool false, .int .i64 0, .string ⟨#[]⟩, .slice none 0 0, .slice none 0 0] 25 (0, 0))
 b2 : wr.heap[w.heap.size + 1 + 1]? = some (.cells loc 25 (0, 0))
theorem TwF.lt {w : World} {box loc : Array Value} {wr : World} (h : TwF w box loc wr) : w.heap.size + 3 ≤ wr.heap.size := (Array.getElem?_eq_some_iff.1 h.b2).1
theorem TwF.grown {w : World} {box loc : Array Value} {wr wr' : World} (h : TwF w box loc wr) {row : Option Nat} (g : wr.grownBy wr' row) (hr : ∀ r, row = some r → w.heap.size + 3 ≤ r) : TwF w box loc wr' := by
 have hs := h.lt
 have hn : ∀ q, q < w.heap.size + 3 → some q ≠ row := fun q hq e => by have := hr q e.symm; omega
 exact ⟨h.below.grown g (by omega) (fun r e => by have := hr r e; omega), (g.block _ (by omega) (hn _ (by omega))).trans h.b0, (g.block _ (by omega) (hn _ (by omega))).trans h.b1, (g.block _ (by omega) (hn _ (by omega))).trans h.b2⟩
theorem TwF.set {w : World} {box loc loc' : Array Value} {wr : World} (h : TwF w box loc wr) (i : Nat) (u : Value) (e : loc.setIfInBounds i u = loc') : TwF w box loc' (wr.setCell ⟨w.heap.size + 1 + 1, i, none⟩ u) := by
 have hs := h.lt
 have g := grown_set1 wr (w.heap.size + 1 + 1) i u
 have hn : ∀ q, q < w.heap.size + 2 → some q ≠ some (w.heap.size + 1 + 1) := fun q hq e => by have := Option.some.inj e; omega
 refine ⟨h.below.grown g (by omega) (fun r e => by cases e; omega), (g.block _ (by omega) (hn _ (by omega))).trans h.b0, (g.block _ (by omega) (hn _ (by omega))).trans h.b1, ?_⟩
 rw [set_block h.b2, e]
theorem alloc_size (w : World) (o : Obj) : (w.alloc o).heap.size = w.heap.size + 1 := by simp
theorem three_allocs (w : World) (o0 o1 o2 : Obj) : (((w.alloc o0).alloc o1).alloc o2).heap[w.heap.size]? = some o0 ∧ (((w.alloc o0).alloc o1).alloc o2).heap[w.heap.size + 1]? = some o1 ∧ (((w.alloc o0).alloc o1).alloc o2).heap[w.heap.size + 1 + 1]? = some o2 := by
 refine ⟨?_, ?_, ?_⟩
 ·rw [Below.heap_alloc _ _ _ (by rw [alloc_size, alloc_size]; omega), Below.heap_alloc _ _ _ (by rw [alloc_size]; omega)]
  exact heap_alloc_new w o0
 ·rw [Below.heap_alloc _ _ _ (by rw [alloc_size, alloc_size]; omega)]
  have := heap_alloc_new (w.alloc o0) o1
  rwa [alloc_size] at this
 ·have := heap_alloc_new ((w.alloc o0).alloc o1) o2
  rwa [alloc_size, alloc_size] at this
theorem three_below (w : World) (o0 o1 o2 : Obj) : Below w.heap.size w (((w.alloc o0).alloc o1).alloc o2) :=
 (((Below.refl w.heap.size w).alloc (Nat.le_refl _) _).alloc (by rw [alloc_size]; omega) _).alloc (by rw [alloc_size, alloc_size]; omega) _
theorem alloc2_keep (w : World) (o o' : Obj) {b : Nat} (h : b < w.heap.size) : ((w.alloc o).alloc o').heap[b]? = w.heap[b]? := by
 rw [Below.heap_alloc _ _ _ (by rw [alloc_size]; omega), Below.heap_alloc _ _ _ h]
theorem alloc2_new (w : World) (o o' : Obj) : ((w.alloc o).alloc o').heap[w.heap.size + 1]? = some o' := by
 have := heap_alloc_new (w.alloc o) o'
 rwa [alloc_size] at this
theorem alloc2_off {w : World} {o o' : Obj} {b N : Nat} {v : Value} (h : N ≤ b ∧ b < w.heap.size ∧ some b ≠ v.ownBlock) : N ≤ b ∧ b < ((w.alloc o).alloc o').heap.size ∧ some b ≠ v.ownBlock :=
 ⟨h.1, by rw [alloc_size, alloc_size]; omega, h.2.2⟩
theorem grown_drew (w : World) (row : Option Nat) : w.grownBy w.drew row := ⟨rfl, rfl, rfl, Nat.le_refl _, fun _ _ _ => rfl⟩
theorem OwnR.drew {α : Type} {E : α → World → (Nat → Prop) → List Value → Prop} {ty sz : Nat} (K : KeepE E) {w : World} {base : Nat} {S : Nat → Prop} {v : Value} {l : List α} (h : OwnR E ty sz w base S v l) : OwnR E ty sz w.drew base S v l :=
 h.keep K (grown_drew w none) (fun r e => by cases e)
theorem results_cell1 {fn : Func} {p : Tmp} {ty : TypeId} (h : fn.results = #[.cell p ty]) (tmps : Array Value) (P : Program) (w : World) :
 (results fn tmps).run P w = ((asAddr (tmps.getD p undef)).run P w).andThen fun a w₁ => (loadVar ty a).run P w₁ := by
 simp only [results, h]
 simp [Sem.run_bind, Result.andThen]
theorem below_set9 {B N M : Nat} {a w : World} (h : Below B a w) (hN : B ≤ N) (hM : B ≤ M) (i1 i2 i3 i4 i5 i6 i7 i8 i9 : Nat) (u1 u2 u3 u4 u5 u6 u7 u8 u9 : Value) :
 Below B a (((((((((w.setCell ⟨N, i1, none⟩ u1).setCell ⟨N, i2, none⟩ u2).setCell ⟨N, i3, none⟩ u3).setCell ⟨M, i4, none⟩ u4).setCell ⟨M, i5, none⟩ u5).setCell ⟨M, i6, none⟩ u6).setCell ⟨M, i7, none⟩ u7).setCell ⟨M, i8, none⟩ u8).setCell ⟨M, i9, none⟩ u9) :=
 ((((((((h.setCell (p := ⟨N, i1, none⟩) hN u1).setCell (p := ⟨N, i2, none⟩) hN u2).setCell (p := ⟨N, i3, none⟩) hN u3).setCell (p := ⟨M, i4, none⟩) hM u4).setCell (p := ⟨M, i5, none⟩) hM u5).setCell (p := ⟨M, i6, none⟩) hM u6).setCell (p := ⟨M, i7, none⟩) hM u7).setCell (p := ⟨M, i8, none⟩) hM u8).setCell (p := ⟨M, i9, none⟩) hM u9
theorem OwnR.set9 {α : Type} {E : α → World → (Nat → Prop) → List Value → Prop} {ty sz : Nat} (K : KeepE E) {w : World} {base N M : Nat} {S : Nat → Prop} {v : Value} {l : List α} (h : OwnR E ty sz w base S v l) (hN : N < base) (hM : M < base) (i1 i2 i3 i4 i5 i6 i7 i8 i9 : Nat) (u1 u2 u3 u4 u5 u6 u7 u8 u9 : Value) :
 OwnR E ty sz (((((((((w.setCell ⟨N, i1, none⟩ u1).setCell ⟨N, i2, none⟩ u2).setCell ⟨N, i3, none⟩ u3).setCell ⟨M, i4, none⟩ u4).setCell ⟨M, i5, none⟩ u5).setCell ⟨M, i6, none⟩ u6).setCell ⟨M, i7, none⟩ u7).setCell ⟨M, i8, none⟩ u8).setCell ⟨M, i9, none⟩ u9) base S v l :=
 ((((((((h.set K hN i1 u1).set K hN i2 u2).set K hN i3 u3).set K hM i4 u4).set K hM i5 u5).set K hM i6 u6).set K hM i7 u7).set K hM i8 u8).set K hM i9 u9
theorem one6 {k i : Int} {b : Bool} {s : ByteArray} {p q : Option Addr} {n c n' c' : Nat} : ∀ u ∈ [Value.int .i64 k, .bool b, .int .i64 i, .string s, .slice p n c, .slice q n' c'], u.oneCell' = true := by
 intro u hu
 simp at hu
 rcases hu with rfl | rfl | rfl | rfl | rfl | rfl <;> rfl
theorem one7 {r : ByteArray} {k i : Int} {b : Bool} {s : ByteArray} {p q : Option Addr} {n c n' c' : Nat} : ∀ u ∈ [Value.string r, .int .i64 k, .bool b, .int .i64 i, .string s, .slice p n c, .slice q n' c'], u.oneCell' = true := by
 intro u hu
 simp at hu
 rcases hu with rfl | rfl | rfl | rfl | rfl | rfl | rfl <;> rfl
end Go.Proofs.YtjfldbmopjojdaaDoor
/- Short forms for what is said often in walks by hand. -/
namespace Go.Proofs.YtjfldbmopjojdaaDoor
open Go.RowKit
theorem sixC {w : World} {g : Nat} {a0 a1 a2 a3 a4 a5 : Value} {t : TypeId} {f : Nat × Nat} (h : w.heap[g]? = some (.cells #[a0, a1, a2, a3, a4, a5] t f)) :
    w.cell? ⟨g, 0, none⟩ = some a0 ∧ w.cell? ⟨g, 1, none⟩ = some a1 ∧ w.cell? ⟨g, 2, none⟩ = some a2 ∧ w.cell? ⟨g, 3, none⟩ = some a3 ∧ w.cell? ⟨g, 4, none⟩ = some a4 ∧ w.cell? ⟨g, 5, none⟩ = some a5 :=
  ⟨by rw [cell_of_block h]; rfl, by rw [cell_of_block h]; rfl, by rw [cell_of_block h]; rfl, by rw [cell_of_block h]; rfl, by rw [cell_of_block h]; rfl, by rw [cell_of_block h]; rfl⟩
theorem zA {α : Type} (l : List α) (i : Nat) (a : α) : l.toArray.setIfInBounds i a = (l.set i a).toArray := List.setIfInBounds_toArray ..
theorem zB {α : Type} (x : α) (l : List α) (a : α) : (x :: l).set 0 a = a :: l := List.set_cons_zero
theorem zC {α : Type} (x : α) (l : List α) (n : Nat) (a : α) : (x :: l).set (n + 1) a = x :: l.set n a := List.set_cons_succ
section
variable {P : Program} {ops : Array Oper} {Q : Exit → Act → World → Prop} {md : Region.Mode} {S : World → Prop} {oi : Oper} {fuel : Nat} {listed : Array Bool} {a : Act} {w : World}
theorem tkA (i : Nat) (v : Value) (h2 : ∀ w, S w → (execOp a.eval oi).run P w = .ok (.value v) w) (h : wpAnyH P md ops Q S fuel (listed.setIfInBounds i true) (a.put oi.dst v) w)
    (hi : ops[i]? = some oi := by exact rfl) (hs : Region.noSelect ops = true := by kernel_rfl) (hf : Region.free md ops listed i = true := by kernel_rfl) (hr : (Region.ready md ops listed).contains i = true := by kernel_rfl)
    (hQ : ∀ c a w, Q (.panic c) (a.put oi.dst v) w → Q (.panic c) a w := by exact fun _ _ _ h => h) (h1 : Region.wanted oi (yielded ops a.tmps) = true := by kernel_rfl) (hS : S w := by assumption) : wpAnyH P md ops Q S (fuel + 1) listed a w :=
  wpAnyH_take hi hs hf hr hQ (Or.inl ⟨h1, h2⟩) hS h
theorem tjA (i : Nat) {v : Value} (h : wpAnyH P md ops Q S fuel (listed.setIfInBounds i true) (a.put oi.dst v) w)
    (hi : ops[i]? = some oi := by exact rfl) (hs : Region.noSelect ops = true := by kernel_rfl) (hf : Region.free md ops listed i = true := by kernel_rfl) (hr : (Region.ready md ops listed).contains i = true := by kernel_rfl)
    (h1 : Region.wanted oi (yielded ops a.tmps) = true := by kernel_rfl)
    (h2 : ∀ w, S w → (execOp a.eval oi).run P w = .ok (.value v) w := by (intro W0 hSw; (try dsimp only at hSw); go_simp; (try with_reducible rfl)))
    (hQ : ∀ c a w, Q (.panic c) (a.put oi.dst v) w → Q (.panic c) a w := by exact fun _ _ _ h => h) (hS : S w := by assumption) : wpAnyH P md ops Q S (fuel + 1) listed a w :=
  wpAnyH_take hi hs hf hr hQ (Or.inl ⟨h1, h2⟩) hS h
theorem ryA (rs : List Nat) (h : AllReadyH P md ops Q S fuel listed a w rs) (hr : Region.ready md ops listed = rs := by kernel_rfl) (hne : rs ≠ [] := by simp) : wpAnyH P md ops Q S (fuel + 1) listed a w := wpAnyH_ready hr hne h
theorem rA1 {i : Nat} {o1 : Oper} (h1 : ∀ K' : Act → World → Prop, Shut (∀ a w, S w → (S w → wpAnyH P md ops Q S fuel (listed.setIfInBounds i true) a w) → K' a w) → if Region.wanted o1 (yielded ops a.tmps) = true then Oper.wp P o1 a w K' Q else K' (a.put o1.dst undef) w) (e1 : ops[i]? = some o1 := by exact rfl) : AllReadyH P md ops Q S fuel listed a w [i] :=
  AllReadyH.cons e1 h1 AllReadyH.nil
theorem rA2 {i j : Nat} {o1 o2 : Oper} (h1 : ∀ K' : Act → World → Prop, Shut (∀ a w, S w → (S w → wpAnyH P md ops Q S fuel (listed.setIfInBounds i true) a w) → K' a w) → if Region.wanted o1 (yielded ops a.tmps) = true then Oper.wp P o1 a w K' Q else K' (a.put o1.dst undef) w) (h2 : ∀ K' : Act → World → Prop, Shut (∀ a w, S w → (S w → wpAnyH P md ops Q S fuel (listed.setIfInBounds j true) a w) → K' a w) → if Region.wanted o2 (yielded ops a.tmps) = true then Oper.wp P o2 a w K' Q else K' (a.put o2.dst undef) w) (e1 : ops[i]? = some o1 := by exact rfl) (e2 : ops[j]? = some o2 := by exact rfl) : AllReadyH P md ops Q S fuel listed a w [i, j] :=
  AllReadyH.cons e1 h1 (AllReadyH.cons e2 h2 AllReadyH.nil)
theorem rA3 {i j k : Nat} {o1 o2 o3 : Oper} (h1 : ∀ K' : Act → World → Prop, Shut (∀ a w, S w → (S w → wpAnyH P md ops Q S fuel (listed.setIfInBounds i true) a w) → K' a w) → if Region.wanted o1 (yielded ops a.tmps) = true then Oper.wp P o1 a w K' Q else K' (a.put o1.dst undef) w) (h2 : ∀ K' : Act → World → Prop, Shut (∀ a w, S w → (S w → wpAnyH P md ops Q S fuel (listed.setIfInBounds j true) a w) → K' a w) → if Region.wanted o2 (yielded ops a.tmps) = true then Oper.wp P o2 a w K' Q else K' (a.put o2.dst undef) w) (h3 : ∀ K' : Act → World → Prop, Shut (∀ a w, S w → (S w → wpAnyH P md ops Q S fuel (listed.setIfInBounds k true) a w) → K' a w) → if Region.wanted o3 (yielded ops a.tmps) = true then Oper.wp P o3 a w K' Q else K' (a.put o3.dst undef) w) (e1 : ops[i]? = some o1 := by exact rfl) (e2 : ops[j]? = some o2 := by exact rfl) (e3 : ops[k]? = some o3 := by exact rfl) : AllReadyH P md ops Q S fuel listed a w [i, j, k] :=
  AllReadyH.cons e1 h1 (AllReadyH.cons e2 h2 (AllReadyH.cons e3 h3 AllReadyH.nil))
end
end Go.Proofs.YtjfldbmopjojdaaDoor
namespace Go.Proofs
open Go.Shelf Go.RowKit
def Tryd.lays196_ren : Go.Shelf.Ren := ⟨fun | 196 => 69 | 259 => 74 | n => n, fun | 0 => 0 | 3 => 3 | 4 => 4 | 5 => 5 | 9 => 9 | 12 => 12 | 46 => 90 | 53 => 103 | 119 => 93 | 138 => 95 | 139 => 96 | n => n, fun | 3 => 1 | 4 => 2 | n => n⟩
theorem Tryd.lays196 : Go.Proofs.Lays.n196 Tryd.prog Tryd.lays196_ren := {
 mixed := by kernel_rfl
 f196 := Tryd.func69.trans (congrArg some (by kernel_rfl))
 f259 := Tryd.func74.trans (congrArg some (by kernel_rfl))
 t0 := Tryd.underlying0
 a0 := Tryd.isAgg0
 z0 := Tryd.sizeOf0
 v0 := Tryd.zeroValue0
 t3 := Tryd.underlying3
 a3 := Tryd.isAgg3
 z3 := Tryd.sizeOf3
 v3 := Tryd.zeroValue3
 t4 := Tryd.underlying4
 a4 := Tryd.isAgg4
 z4 := Tryd.sizeOf4
 v4 := Tryd.zeroValue4
 t5 := Tryd.underlying5
 a5 := Tryd.isAgg5
 z5 := Tryd.sizeOf5
 v5 := Tryd.zeroValue5
 t9 := Tryd.underlying9
 a9 := Tryd.isAgg9
 z9 := Tryd.sizeOf9
 v9 := Tryd.zeroValue9
 t12 := Tryd.underlying12
 a12 := Tryd.isAgg12
 z12 := Tryd.sizeOf12
 v12 := Tryd.zeroValue12
 t46 := Tryd.underlying90
 a46 := Tryd.isAgg90
 z46 := Tryd.sizeOf90
 v46 := Tryd.zeroValue90
 t53 := Tryd.underlying103
 a53 := Tryd.isAgg103
 z53 := Tryd.sizeOf103
 v53 := Tryd.zeroValue103
 t119 := Tryd.underlying93
 a119 := Tryd.isAgg93
 z119 := Tryd.sizeOf93
 t138 := Tryd.underlying95
 a138 := Tryd.isAgg95
 z138 := Tryd.sizeOf95
 v138 := Tryd.zeroValue95
 t139 := Tryd.underlying96
 a139 := Tryd.isAgg96
 z139 := Tryd.sizeOf96
 v139 := Tryd.zeroValue96
 g3 := by kernel_rfl
 g4 := by kernel_rfl }
namespace YtjfldbmopjojdaaDoor
open Go.Lib
theorem validString_any (s : ByteArray) (w : World) (hs : s.size ≤ 281474976710656) (hU : Utf8Tabs 1 2 w) :
 Calls Tryd.prog 69 #[.string s] w fun e w' => e = .returned (.bool (validD s.data.toList)) ∧ Below w.heap.size w w' :=
 Any.utf8_ValidString Tryd.lays196 s w (by omega) hU
end YtjfldbmopjojdaaDoor
end Go.Proofs
namespace Go.Proofs.YtjfldbmopjojdaaDoor
open Go.RowKit Go.Lib
theorem utab_grown {w w' : World} {row : Option Nat} (h : Utf8Tabs 1 2 w) (hb : w.grownBy w' row) (h2 : 2 < w.heap.size) (hr : ∀ r, row = some r → 2 < r) : Utf8Tabs 1 2 w' := by
 have hn : ∀ q, q ≤ 2 → some q ≠ row := fun q hq e => by have := hr q e.symm; omega
 have k1 := hb.block 1 (by omega) (hn 1 (by omega))
 have k2 := hb.block 2 (by omega) (hn 2 (by omega))
 exact ⟨fun c hc => (World.cell?_of_block (w := w) (a := ⟨1, c, none⟩) k1).trans (h.1 c hc), fun i hi => ⟨(World.cell?_of_block (w := w) (a := ⟨2, 2 * i, none⟩) k2).trans (h.2 i hi).1, (World.cell?_of_block (w := w) (a := ⟨2, 2 * i + 1, none⟩) k2).trans (h.2 i hi).2⟩⟩
structure Tb (w : World) : Prop where
 u : Utf8Tabs 1 2 w
 z : 2 < w.heap.size
theorem Tb.grown {w w' : World} {row : Option Nat} (h : Tb w) (hb : w.grownBy w' row) (hr : ∀ r, row = some r → 2 < r) : Tb w' := ⟨utab_grown h.u hb h.z hr, Nat.lt_of_lt_of_le h.z hb.size⟩
theorem Tb.below {w w' : World} {B : Nat} (h : Tb w) (hb : Below B w w') (hB : 2 < B) : Tb w' := by
 refine ⟨?_, Nat.lt_of_lt_of_le h.z hb.size⟩
 exact ⟨fun c hc => (hb.cell (p := ⟨1, c, none⟩) (by show 1 < B; omega)).trans (h.u.1 c hc), fun i hi => ⟨(hb.cell (p := ⟨2, 2 * i, none⟩) hB).trans (h.u.2 i hi).1, (hb.cell (p := ⟨2, 2 * i + 1, none⟩) hB).trans (h.u.2 i hi).2⟩⟩
def plainB (k : Int) (b : Bool) (i : Int) (s : ByteArray) (nl nm : Nat) : Bool :=
 decide (0 ≤ k ∧ k ≤ 5 ∧ (k = 1 ∨ b = false) ∧ (k = 2 ∨ i = 0) ∧ (k = 3 ∨ s.toList.isEmpty = true) ∧ (k = 4 ∨ nl = 0) ∧ (k = 5 ∨ nm = 0))
def BPost (r : Bool) (w : World) (e : Ending) (w' : World) : Prop := e = .returned (.bool r) ∧ Below w.heap.size w w'
set_option maxHeartbeats 8000000 in
set_option maxRecDepth 100000 in
theorem plain_any (k : Int) (b : Bool) (i : Int) (s : ByteArray) (nl nm : Nat) (al am : Option Addr) (cl cm : Nat) (w : World) :
 Calls Tryd.prog 68 #[.agg #[.int .i64 k, .bool b, .int .i64 i, .string s, .slice al nl cl, .slice am nm cm]] w (BPost (plainB k b i s nl nm) w) := by
 go_enter Tryd.func68, Tryd.ntmps68
 go_wp2
 all_goals go_ret
 all_goals refine ⟨?_, (Below.refl _ _).alloc (Nat.le_refl _) _⟩
 all_goals show Ending.returned (Value.bool _) = Ending.returned (Value.bool _)
 all_goals refine congrArg (fun r => Ending.returned (Value.bool r)) ?_
 all_goals rw [Bool.eq_iff_iff]
 all_goals simp only [plainB, decide_eq_true_eq, beq_iff_eq, Bool.not_eq_true', Bool.false_eq_true, false_iff, true_iff]
 all_goals simp_all
 all_goals omega
end Go.Proofs.YtjfldbmopjojdaaDoor
namespace Go.Proofs.YtjfldbmopjojdaaDoor
open Go.RowKit
structure Sub (N : Nat) (w0 : World) where
 w : World
 b : Below N w0 w
instance subThere (N : Nat) (w0 : World) : Inhabited (Sub N w0) := ⟨⟨w0, Below.refl N w0⟩⟩
theorem wp_region_sub {P : Program} (N : Nat) {id : Nat} {Q : Exit → Act → World → Prop} {a : Act} {w : World} {l : List Oper} (hm : P.follows .mixedOrders = true) (hB : Region.lexB .any l.toArray = true)
 (h : wpQuiet P l.toArray (fun w' => ∃ x : Sub N w, w' = x.w) (fun a' => ∀ w', (∃ x : Sub N w, w' = x.w) → Q .normal a' w') l a) : (Code.region id l.toArray true).wp P Q a w :=
 wp_region_quiet (C := fun w' => ∃ x : Sub N w, w' = x.w) hm hB ⟨⟨w.drew, (Below.refl N w).drew⟩, rfl⟩ (by simpa using h)
theorem sub_call {P : Program} {f : FuncId} {args : Array Value} {N : Nat} {w0 : World} {v : Value} (h : ∀ w', Below N w0 w' → Calls P f args w' fun e w'' => e = .returned v ∧ Below N w0 w'') (x : Sub N w0) :
 Calls P f args x.w fun e w'' => e = .returned v ∧ ∃ y : Sub N w0, w'' = y.w :=
 (h x.w x.b).mono fun e w'' ⟨he, hb⟩ => ⟨he, ⟨w'', hb⟩, rfl⟩
theorem sub_cell {N : Nat} {w0 : World} {b o : Nat} {v : Value} (h : w0.cell? ⟨b, o, none⟩ = some v) (hb : b < N) (x : Sub N w0) : x.w.cell? ⟨b, o, none⟩ = some v :=
 (x.b.cell (p := ⟨b, o, none⟩) hb).trans h
end Go.Proofs.YtjfldbmopjojdaaDoor
