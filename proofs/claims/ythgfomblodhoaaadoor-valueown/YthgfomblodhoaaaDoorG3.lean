/- joined: TwinB ShlV ChkA QSub ChkB -/
import Derived.Test.YthgfomblodhoaaaDoorG2
import Derived.Deep.QuietTactic
import Derived.BigQuiet
import Derived.Shelf.Unicode.ValidAny
import Derived.Deep.RegionWith
import Derived.Laws.Cover1
/- twin: the walk. -/
set_option linter.unusedSimpArgs false
set_option linter.unusedVariables false
namespace Go.Proofs.YthgfomblodhoaaaDoor
open Go.RowKit
theorem cell_of_block {w : World} {b : Nat} {c : Array Value} {t : TypeId} {f : Nat × Nat} (h : w.heap[b]? = some (.cells c t f)) (i : Nat) : w.cell? ⟨b, i, none⟩ = c[i]? := by simp [World.cell?, h]
theorem frozen_of_block {w : World} {b : Nat} {c : Array Value} {t : TypeId} (h : w.heap[b]? = some (.cells c t (0, 0))) (i : Nat) : w.frozen? ⟨b, i, none⟩ = false := by simp [World.frozen?, h]
theorem _root_.Go.World.grownBy.trans' {a b : World} {row : Option Nat} (h : a.grownBy b row) (o : Obj) : a.grownBy (b.alloc o) row := grown_trans h (World.grownBy_alloc _ _ _)
/-- the three blocks of the call: the argument, the answer, the value that is made -/
structure TwF (w : World) (box loc : Array Value) (wr : World) : Prop where
  below : Below w.heap.size w wr
  b0 : wr.heap[w.heap.size]? = some (.cells box 25 (0, 0))
  b1 : wr.heap[w.heap.size + 1]? = some (.cells #[.int .i64 0, .bool false, .int .i64 0, .string ⟨#[]⟩, .slice none 0 0, .slice none 0 0] 25 (0, 0))
  b2 : wr.heap[w.heap.size + 1 + 1]? = some (.cells loc 25 (0, 0))
theorem TwF.lt {w : World} {box loc : Array Value} {wr : World} (h : TwF w box loc wr) : w.heap.size + 3 ≤ wr.heap.size := (Array.getElem?_eq_some_iff.1 h.b2).1
theorem TwF.grown {w : World} {box loc : Array Value} {wr wr' : World} (h : TwF w box loc wr) {row : Option Nat} (g : wr.grownBy wr' row) (hr : ∀ r, row = some r → w.heap.size + 3 ≤ r) : TwF w box loc wr' := by
  have hs := h.lt
  have hn : ∀ q, q < w.heap.size + 3 → some q ≠ row := fun q hq e => by have := hr q e.symm; omega
  exact ⟨h.below.grown g (by omega) (fun r e => by have := hr r e; omega), (g.block _ (by omega) (hn _ (by omega))).trans h.b0, (g.block _ (by omega) (hn _ (by omega))).trans h.b1, (g.block _ (by omega) (hn _ (by omega))).trans h.b2⟩
theorem TwF.set {w : World} {box loc loc' : Array Value} {wr : World} (h : TwF w box loc wr) (i : Nat) (u : Value) (e : loc.setIfInBounds i u = loc') : TwF w box loc' (wr.setCell ⟨w.heap.size + 1 + 1, i, none⟩ u) := by
  have hs := h.lt
  have g := grown_set1 wr (w.heap.size + 1 + 1) i u
  have hn : ∀ q, q < w.heap.size + 2 → some q ≠ some (w.heap.size + 1 + 1) := fun q hq e => by have := Option.some.inj e; omega
  refine ⟨h.below.grown g (by omega) (fun r e => by cases e; omega), (g.block _ (by omega) (hn _ (by omega))).trans h.b0, (g.block _ (by omega) (hn _ (by omega))).trans h.b1, ?_⟩
  rw [set_block h.b2, e]
theorem alloc_size (w : World) (o : Obj) : (w.alloc o).heap.size = w.heap.size + 1 := by simp
theorem three_allocs (w : World) (o0 o1 o2 : Obj) : (((w.alloc o0).alloc o1).alloc o2).heap[w.heap.size]? = some o0 ∧ (((w.alloc o0).alloc o1).alloc o2).heap[w.heap.size + 1]? = some o1 ∧ (((w.alloc o0).alloc o1).alloc o2).heap[w.heap.size + 1 + 1]? = some o2 := by
  refine ⟨?_, ?_, ?_⟩
  · rw [Below.heap_alloc _ _ _ (by rw [alloc_size, alloc_size]; omega), Below.heap_alloc _ _ _ (by rw [alloc_size]; omega)]
    exact heap_alloc_new w o0
  · rw [Below.heap_alloc _ _ _ (by rw [alloc_size, alloc_size]; omega)]
    have := heap_alloc_new (w.alloc o0) o1
    rwa [alloc_size] at this
  · have := heap_alloc_new ((w.alloc o0).alloc o1) o2
    rwa [alloc_size, alloc_size] at this
theorem three_below (w : World) (o0 o1 o2 : Obj) : Below w.heap.size w (((w.alloc o0).alloc o1).alloc o2) :=
  (((Below.refl w.heap.size w).alloc (Nat.le_refl _) _).alloc (by rw [alloc_size]; omega) _).alloc (by rw [alloc_size, alloc_size]; omega) _
theorem alloc2_keep (w : World) (o o' : Obj) {b : Nat} (h : b < w.heap.size) : ((w.alloc o).alloc o').heap[b]? = w.heap[b]? := by
  rw [Below.heap_alloc _ _ _ (by rw [alloc_size]; omega), Below.heap_alloc _ _ _ h]
theorem alloc2_new (w : World) (o o' : Obj) : ((w.alloc o).alloc o').heap[w.heap.size + 1]? = some o' := by
  have := heap_alloc_new (w.alloc o) o'
  rwa [alloc_size] at this
theorem alloc2_off {w : World} {o o' : Obj} {b N : Nat} {v : Value} (h : N ≤ b ∧ b < w.heap.size ∧ some b ≠ v.ownBlock) : N ≤ b ∧ b < ((w.alloc o).alloc o').heap.size ∧ some b ≠ v.ownBlock :=
  ⟨h.1, by rw [alloc_size, alloc_size]; omega, h.2.2⟩
theorem grown_drew (w : World) (row : Option Nat) : w.grownBy w.drew row := ⟨rfl, rfl, rfl, Nat.le_refl _, fun _ _ _ => rfl⟩
theorem OwnR.drew {α : Type} {E : α → World → (Nat → Prop) → List Value → Prop} {ty sz : Nat} (K : KeepE E) {w : World} {base : Nat} {S : Nat → Prop} {v : Value} {l : List α} (h : OwnR E ty sz w base S v l) : OwnR E ty sz w.drew base S v l :=
  h.keep K (grown_drew w none) (fun r e => by cases e)
theorem results_cell1 {fn : Func} {p : Tmp} {ty : TypeId} (h : fn.results = #[.cell p ty]) (tmps : Array Value) (P : Program) (w : World) :
    (results fn tmps).run P w = ((asAddr (tmps.getD p undef)).run P w).andThen fun a w₁ => (loadVar ty a).run P w₁ := by
  simp only [results, h]
  simp [Sem.run_bind, Result.andThen]
theorem below_set9 {B N M : Nat} {a w : World} (h : Below B a w) (hN : B ≤ N) (hM : B ≤ M) (i1 i2 i3 i4 i5 i6 i7 i8 i9 : Nat) (u1 u2 u3 u4 u5 u6 u7 u8 u9 : Value) :
    Below B a (((((((((w.setCell ⟨N, i1, none⟩ u1).setCell ⟨N, i2, none⟩ u2).setCell ⟨N, i3, none⟩ u3).setCell ⟨M, i4, none⟩ u4).setCell ⟨M, i5, none⟩ u5).setCell ⟨M, i6, none⟩ u6).setCell ⟨M, i7, none⟩ u7).setCell ⟨M, i8, none⟩ u8).setCell ⟨M, i9, none⟩ u9) :=
  ((((((((h.setCell (p := ⟨N, i1, none⟩) hN u1).setCell (p := ⟨N, i2, none⟩) hN u2).setCell (p := ⟨N, i3, none⟩) hN u3).setCell (p := ⟨M, i4, none⟩) hM u4).setCell (p := ⟨M, i5, none⟩) hM u5).setCell (p := ⟨M, i6, none⟩) hM u6).setCell (p := ⟨M, i7, none⟩) hM u7).setCell (p := ⟨M, i8, none⟩) hM u8).setCell (p := ⟨M, i9, none⟩) hM u9
theorem OwnR.set9 {α : Type} {E : α → World → (Nat → Prop) → List Value → Prop} {ty sz : Nat} (K : KeepE E) {w : World} {base N M : Nat} {S : Nat → Prop} {v : Value} {l : List α} (h : OwnR E ty sz w base S v l) (hN : N < base) (hM : M < base) (i1 i2 i3 i4 i5 i6 i7 i8 i9 : Nat) (u1 u2 u3 u4 u5 u6 u7 u8 u9 : Value) :
    OwnR E ty sz (((((((((w.setCell ⟨N, i1, none⟩ u1).setCell ⟨N, i2, none⟩ u2).setCell ⟨N, i3, none⟩ u3).setCell ⟨M, i4, none⟩ u4).setCell ⟨M, i5, none⟩ u5).setCell ⟨M, i6, none⟩ u6).setCell ⟨M, i7, none⟩ u7).setCell ⟨M, i8, none⟩ u8).setCell ⟨M, i9, none⟩ u9) base S v l :=
  ((((((((h.set K hN i1 u1).set K hN i2 u2).set K hN i3 u3).set K hM i4 u4).set K hM i5 u5).set K hM i6 u6).set K hM i7 u7).set K hM i8 u8).set K hM i9 u9
theorem one6 {k i : Int} {b : Bool} {s : ByteArray} {p q : Option Addr} {n c n' c' : Nat} : ∀ u ∈ [Value.int .i64 k, .bool b, .int .i64 i, .string s, .slice p n c, .slice q n' c'], u.oneCell' = true := by
  intro u hu
  simp at hu
  rcases hu with rfl | rfl | rfl | rfl | rfl | rfl <;> rfl
theorem one7 {r : ByteArray} {k i : Int} {b : Bool} {s : ByteArray} {p q : Option Addr} {n c n' c' : Nat} : ∀ u ∈ [Value.string r, .int .i64 k, .bool b, .int .i64 i, .string s, .slice p n c, .slice q n' c'], u.oneCell' = true := by
  intro u hu
  simp at hu
  rcases hu with rfl | rfl | rfl | rfl | rfl | rfl | rfl <;> rfl
end Go.Proofs.YthgfomblodhoaaaDoor
/- utf8.ValidString by its contract, laid at this program. -/
namespace Go.Proofs
open Go.Shelf Go.RowKit
def Tryd.lays196_ren : Go.Shelf.Ren := ⟨fun | 196 => 73 | 259 => 81 | n => n, fun | 0 => 0 | 3 => 3 | 4 => 4 | 5 => 5 | 9 => 9 | 12 => 12 | 46 => 73 | 53 => 92 | 119 => 101 | 138 => 103 | 139 => 104 | n => n, fun | 3 => 1 | 4 => 2 | n => n⟩
theorem Tryd.lays196 : Go.Proofs.Lays.n196 Tryd.prog Tryd.lays196_ren := {
  mixed := by kernel_rfl
  f196 := Tryd.func73.trans (congrArg some (by kernel_rfl))
  f259 := Tryd.func81.trans (congrArg some (by kernel_rfl))
  t0 := Tryd.underlying0
  a0 := Tryd.isAgg0
  z0 := Tryd.sizeOf0
  v0 := Tryd.zeroValue0
  t3 := Tryd.underlying3
  a3 := Tryd.isAgg3
  z3 := Tryd.sizeOf3
  v3 := Tryd.zeroValue3
  t4 := Tryd.underlying4
  a4 := Tryd.isAgg4
  z4 := Tryd.sizeOf4
  v4 := Tryd.zeroValue4
  t5 := Tryd.underlying5
  a5 := Tryd.isAgg5
  z5 := Tryd.sizeOf5
  v5 := Tryd.zeroValue5
  t9 := Tryd.underlying9
  a9 := Tryd.isAgg9
  z9 := Tryd.sizeOf9
  v9 := Tryd.zeroValue9
  t12 := Tryd.underlying12
  a12 := Tryd.isAgg12
  z12 := Tryd.sizeOf12
  v12 := Tryd.zeroValue12
  t46 := Tryd.underlying73
  a46 := Tryd.isAgg73
  z46 := Tryd.sizeOf73
  v46 := Tryd.zeroValue73
  t53 := Tryd.underlying92
  a53 := Tryd.isAgg92
  z53 := Tryd.sizeOf92
  v53 := Tryd.zeroValue92
  t119 := Tryd.underlying101
  a119 := Tryd.isAgg101
  z119 := Tryd.sizeOf101
  t138 := Tryd.underlying103
  a138 := Tryd.isAgg103
  z138 := Tryd.sizeOf103
  v138 := Tryd.zeroValue103
  t139 := Tryd.underlying104
  a139 := Tryd.isAgg104
  z139 := Tryd.sizeOf104
  v139 := Tryd.zeroValue104
  g3 := by kernel_rfl
  g4 := by kernel_rfl }
namespace YthgfomblodhoaaaDoor
open Go.Lib
theorem validString_any (s : ByteArray) (w : World) (hs : s.size ≤ 281474976710656) (hU : Utf8Tabs 1 2 w) :
    Calls Tryd.prog 73 #[.string s] w fun e w' => e = .returned (.bool (validD s.data.toList)) ∧ Below w.heap.size w w' :=
  Any.utf8_ValidString Tryd.lays196 s w (by omega) hU
end YthgfomblodhoaaaDoor
end Go.Proofs
/- value.plain, value.rising. -/
namespace Go.Proofs.YthgfomblodhoaaaDoor
open Go.RowKit Go.Lib
theorem utab_grown {w w' : World} {row : Option Nat} (h : Utf8Tabs 1 2 w) (hb : w.grownBy w' row) (h2 : 2 < w.heap.size) (hr : ∀ r, row = some r → 2 < r) : Utf8Tabs 1 2 w' := by
  have hn : ∀ q, q ≤ 2 → some q ≠ row := fun q hq e => by have := hr q e.symm; omega
  have k1 := hb.block 1 (by omega) (hn 1 (by omega))
  have k2 := hb.block 2 (by omega) (hn 2 (by omega))
  exact ⟨fun c hc => (World.cell?_of_block (w := w) (a := ⟨1, c, none⟩) k1).trans (h.1 c hc), fun i hi => ⟨(World.cell?_of_block (w := w) (a := ⟨2, 2 * i, none⟩) k2).trans (h.2 i hi).1, (World.cell?_of_block (w := w) (a := ⟨2, 2 * i + 1, none⟩) k2).trans (h.2 i hi).2⟩⟩
/-- what the calls read beside their arguments -/
structure Tb (w : World) : Prop where
  u : Utf8Tabs 1 2 w
  z : 2 < w.heap.size
theorem Tb.grown {w w' : World} {row : Option Nat} (h : Tb w) (hb : w.grownBy w' row) (hr : ∀ r, row = some r → 2 < r) : Tb w' := ⟨utab_grown h.u hb h.z hr, Nat.lt_of_lt_of_le h.z hb.size⟩
theorem Tb.below {w w' : World} {B : Nat} (h : Tb w) (hb : Below B w w') (hB : 2 < B) : Tb w' := by
  refine ⟨?_, Nat.lt_of_lt_of_le h.z hb.size⟩
  exact ⟨fun c hc => (hb.cell (p := ⟨1, c, none⟩) (by show 1 < B; omega)).trans (h.u.1 c hc), fun i hi => ⟨(hb.cell (p := ⟨2, 2 * i, none⟩) hB).trans (h.u.2 i hi).1, (hb.cell (p := ⟨2, 2 * i + 1, none⟩) hB).trans (h.u.2 i hi).2⟩⟩
def plainB (k : Int) (b : Bool) (i : Int) (s : ByteArray) (nl nm : Nat) : Bool :=
  decide (0 ≤ k ∧ k ≤ 5 ∧ (k = 1 ∨ b = false) ∧ (k = 2 ∨ i = 0) ∧ (k = 3 ∨ s.toList.isEmpty = true) ∧ (k = 4 ∨ nl = 0) ∧ (k = 5 ∨ nm = 0))
def BPost (r : Bool) (w : World) (e : Ending) (w' : World) : Prop := e = .returned (.bool r) ∧ Below w.heap.size w w'
set_option maxHeartbeats 4000000 in
set_option maxRecDepth 100000 in
theorem plain_any (k : Int) (b : Bool) (i : Int) (s : ByteArray) (nl nm : Nat) (al am : Option Addr) (cl cm : Nat) (w : World) :
    Calls Tryd.prog 72 #[.agg #[.int .i64 k, .bool b, .int .i64 i, .string s, .slice al nl cl, .slice am nm cm]] w (BPost (plainB k b i s nl nm) w) := by
  go_enter Tryd.func72, Tryd.ntmps72
  go_wp2
  all_goals go_ret
  all_goals refine ⟨?_, (Below.refl _ _).alloc (Nat.le_refl _) _⟩
  all_goals show Ending.returned (Value.bool _) = Ending.returned (Value.bool _)
  all_goals refine congrArg (fun r => Ending.returned (Value.bool r)) ?_
  all_goals rw [Bool.eq_iff_iff]
  all_goals simp only [plainB, decide_eq_true_eq, beq_iff_eq, Bool.not_eq_true', Bool.false_eq_true, false_iff, true_iff]
  all_goals simp_all
  all_goals omega
end Go.Proofs.YthgfomblodhoaaaDoor
/- Regions that draw their order, whose operations only read and whose callees only make memory: one walk. -/
namespace Go.Proofs.YthgfomblodhoaaaDoor
open Go.RowKit
/-- a world in which all that lay below N lies as it did -/
structure Sub (N : Nat) (w0 : World) where
  w : World
  b : Below N w0 w
instance subThere (N : Nat) (w0 : World) : Inhabited (Sub N w0) := ⟨⟨w0, Below.refl N w0⟩⟩
theorem wp_region_sub {P : Program} (N : Nat) {id : Nat} {Q : Exit → Act → World → Prop} {a : Act} {w : World} {l : List Oper} (hm : P.follows .mixedOrders = true) (hB : Region.lexB .any l.toArray = true)
    (h : wpQuiet P l.toArray (fun w' => ∃ x : Sub N w, w' = x.w) (fun a' => ∀ w', (∃ x : Sub N w, w' = x.w) → Q .normal a' w') l a) : (Code.region id l.toArray true).wp P Q a w :=
  wp_region_quiet (C := fun w' => ∃ x : Sub N w, w' = x.w) hm hB ⟨⟨w.drew, (Below.refl N w).drew⟩, rfl⟩ (by simpa using h)
theorem sub_call {P : Program} {f : FuncId} {args : Array Value} {N : Nat} {w0 : World} {v : Value} (h : ∀ w', Below N w0 w' → Calls P f args w' fun e w'' => e = .returned v ∧ Below N w0 w'') (x : Sub N w0) :
    Calls P f args x.w fun e w'' => e = .returned v ∧ ∃ y : Sub N w0, w'' = y.w :=
  (h x.w x.b).mono fun e w'' ⟨he, hb⟩ => ⟨he, ⟨w'', hb⟩, rfl⟩
theorem sub_cell {N : Nat} {w0 : World} {b o : Nat} {v : Value} (h : w0.cell? ⟨b, o, none⟩ = some v) (hb : b < N) (x : Sub N w0) : x.w.cell? ⟨b, o, none⟩ = some v :=
  (x.b.cell (p := ⟨b, o, none⟩) hb).trans h
end Go.Proofs.YthgfomblodhoaaaDoor
/- value.rising. -/
namespace Go.Proofs.YthgfomblodhoaaaDoor
open Go.RowKit Go.Lib
def keyAt (l : List Mem) (j : Nat) : ByteArray := match l[j]? with | some x => x.1 | none => ⟨#[]⟩
theorem keyAt_eq {l : List Mem} {j : Nat} (h : j < l.length) : keyAt l j = (l[j]).1 := by simp [keyAt, h]
def utfB (s : ByteArray) : Bool := validD s.data.toList
def ltB (a b : ByteArray) : Bool := Op.bytesLess a.toList b.toList
def okAt (l : List Mem) (j : Nat) : Bool := utfB (keyAt l j) && (decide (j = 0) || ltB (keyAt l (j - 1)) (keyAt l j))
def riseB (l : List Mem) : Bool := (List.range l.length).all (okAt l)
theorem riseB_true {l : List Mem} (h : ∀ j, j < l.length → okAt l j = true) : riseB l = true := by
  simp only [riseB, List.all_eq_true, List.mem_range]; exact h
theorem riseB_false {l : List Mem} {j : Nat} (hj : j < l.length) (h : okAt l j = false) : riseB l = false := by
  rw [riseB, List.all_eq_false]; exact ⟨j, by simpa using hj, by simp [h]⟩
theorem V.ten {R : Bool} {w : World} {S : Nat → Prop} {v : V} {cs : List Value} (h : v.lies R w S cs) : ∃ k b i s al nl cl am nm cm, cs = [.int .i64 k, .bool b, .int .i64 i, .string s, .slice al nl cl, .slice am nm cm] := by
  cases v
  rw [V.lies] at h
  obtain ⟨al, cl, bl, ol, am, cm, bm, om, e, _⟩ := h
  exact ⟨_, _, _, _, _, _, _, _, _, _, e⟩
set_option maxHeartbeats 4000000 in
set_option maxRecDepth 100000 in
theorem rising_any (R : Bool) (l : List Mem) (am : Option Addr) (cm bm om : Nat) (S : Nat → Prop) (w : World) (t : Tb w) (ham : Headed am l.length cm bm om) (hl : liesM R w S l bm om) (hS : ∀ b, S b → b < w.heap.size) (hwt : wtM l ≤ 562949953421312) (hky : ∀ y ∈ l, y.1.size ≤ 281474976710656) :
    Calls Tryd.prog 74 #[.slice am l.length cm] w (BPost (riseB l) w) := by
  have HL : Hid (liesM R w S l bm om) := hl
  clear hl
  have hlen := wtM_len l
  go_enter Tryd.func74, Tryd.ntmps74
  go_wp2_with fail
  go_loopw [7] (fun e wr => ∃ j : Nat, j ≤ l.length ∧ e = .int .i64 (j : Int) ∧ Below w.heap.size w wr ∧ Hid (∀ q, q < j → okAt l q = true)) (fun e _ => l.length - (RowKit.intOf e).toNat)
  case atStart => exact ⟨0, by omega, rfl, Below.refl _ _, fun q hq => by omega⟩
  case round =>
    obtain ⟨j, hj, rfl, bj, ok⟩ := hrel
    by_cases hjl : j < l.length
    · have y1 : (j : Int) < l.length := by omega
      obtain ⟨hSb, hks, csj, hrow, hlj⟩ := liesM_get HL.out j hjl
      obtain rfl : am = some ⟨bm, om, none⟩ := ham.at_.resolve_left (by omega)
      have hrow' := hrow.keep (bj.block _ (hS _ hSb))
      obtain ⟨ek, eb, ei, es, eal, enl, ecl, eam, enm, ecm, rfl⟩ := V.ten hlj
      obtain ⟨q, q0, q1, q2, q3, q4, q5⟩ := row7 hrow'
      clear hlj hrow hrow'
      have hkz : (l[j]).1.size ≤ 281474976710656 := hky _ (List.getElem_mem hjl)
      have HK : Hid (keyAt l j = (l[j]).1) := keyAt_eq hjl
      generalize (l[j]).1 = key at *
      have tj : Tb wr := t.below bj (by have := t.z; omega)
      have hz : wr.heap.size ≥ w.heap.size := bj.size
      let oB : Obj := .cells #[.string key, .int .i64 ek, .bool eb, .int .i64 ei, .string es, .slice eal enl ecl, .slice eam enm ecm] 38
      have hzo : (wr.alloc oB).heap.size = wr.heap.size + 1 := alloc_size wr oB
      have cv : ∀ x : Sub (wr.heap.size + 1) (wr.alloc oB), Calls Tryd.prog 73 #[.string key] x.w fun e w'' => e = .returned (.bool (validD key.data.toList)) ∧ ∃ y : Sub (wr.heap.size + 1) (wr.alloc oB), w'' = y.w :=
        sub_call fun w' hb => by
          have t1 : Tb w' := (tj.grown (World.grownBy_alloc wr oB none) (fun r e => by cases e)).below hb (by have := tj.z; omega)
          refine (validString_any key w' hkz t1.u).mono fun e w'' ⟨he, h2⟩ => ⟨he, hb.trans (h2.mono (by rw [← hzo]; exact hb.size))⟩
      have x0 : ∀ x : Sub (wr.heap.size + 1) (wr.alloc oB), x.w.cell? ⟨wr.heap.size, 0, none⟩ = some (.string key) := sub_cell (box_row wr [.string key, .int .i64 ek, .bool eb, .int .i64 ei, .string es, .slice eal enl ecl, .slice eam enm ecm] 38 0 _ rfl) (by omega)
      have CV : Hid _ := cv
      have hback : ∀ wq, Below (wr.heap.size + 1) (wr.alloc oB) wq → Below w.heap.size w wq := fun wq h => (bj.alloc (by omega) oB).trans (h.mono (by omega))
      clear cv
      cases hV : validD key.data.toList
      · have HV : Hid (okAt l j = false) := by show _ = _; simp [okAt, HK.out, utfB, hV]
        have CF : Hid (∀ x : Sub (wr.heap.size + 1) (wr.alloc oB), Calls Tryd.prog 73 #[.string key] x.w fun e w'' => e = .returned (.bool false) ∧ ∃ y : Sub (wr.heap.size + 1) (wr.alloc oB), w'' = y.w) := by rw [← hV]; exact CV.out
        clear hV CV
        go_wp2_with fail
        refine wp_region_sub (wr.heap.size + 1) (by kernel_rfl) (by kernel_rfl) ?_
        repeat (go_big_quiet_step (exact CF.out _))
        refine wpQuiet_nil ?_
        rintro _ ⟨⟨wq, bq⟩, rfl⟩
        go_wp2_with fail
        go_ret
        exact ⟨by rw [riseB_false hjl HV.out]; rfl, hback _ bq⟩
      · have CF : Hid (∀ x : Sub (wr.heap.size + 1) (wr.alloc oB), Calls Tryd.prog 73 #[.string key] x.w fun e w'' => e = .returned (.bool true) ∧ ∃ y : Sub (wr.heap.size + 1) (wr.alloc oB), w'' = y.w) := by rw [← hV]; exact CV.out
        by_cases hj0 : j = 0
        · have HV : Hid (okAt l j = true) := by show _ = _; rw [okAt, HK.out]; simp [utfB, hV, hj0]
          have HO : Hid (∀ q, q < j + 1 → okAt l q = true) := fun q hq => by
            by_cases hqj : q < j
            · exact ok.out q hqj
            · obtain rfl : q = j := by omega
              exact HV.out
          have yj : decide ((0 : Int) < (j : Int)) = false := by simp [hj0]
          have yk : decide (0 < j) = false := by simp [hj0]
          clear hV CV hj0 HV
          go_wp2_with fail
          refine wp_region_sub (wr.heap.size + 1) (by kernel_rfl) (by kernel_rfl) ?_
          repeat (go_big_quiet_step (exact CF.out _))
          refine wpQuiet_nil ?_
          rintro _ ⟨⟨wq, bq⟩, rfl⟩
          go_wp2_with fail
          go_roundw
          case rel => exact ⟨j + 1, by omega, by go_num, hback _ bq, HO⟩
          case measure => simp [RowKit.intOf]; omega
        · obtain ⟨p, rfl⟩ : ∃ p, j = p + 1 := ⟨j - 1, by omega⟩
          obtain ⟨hSb', hks', csp, hrowp, _⟩ := liesM_get HL.out p (by omega)
          have hrowp' := hrowp.keep (bj.block _ (hS _ hSb'))
          have p0 : wr.cell? ⟨bm, om + p * 7, none⟩ = some (.string (l[p]'(by omega)).1) := hrowp' 0 _ rfl
          have HP : Hid (keyAt l p = (l[p]'(by omega)).1) := keyAt_eq (by omega)
          generalize (l[p]'(by omega)).1 = prev at *
          have hbb : bm < wr.heap.size := World.block_lt_of_cell? wr _ p0
          have p1 : (wr.alloc oB).cell? ⟨bm, om + p * 7, none⟩ = some (.string prev) := (World.cell?_of_block (w := wr) (a := ⟨bm, om + p * 7, none⟩) (Below.heap_alloc wr oB bm hbb)).trans p0
          have x1 : ∀ x : Sub (wr.heap.size + 1) (wr.alloc oB), x.w.cell? ⟨bm, om + p * 7, none⟩ = some (.string prev) := sub_cell p1 (by omega)
          have y2 : (p : Int) < l.length := by omega
          have y3 : decide ((0 : Int) < (p : Int) + 1) = true := by simp
          clear hrowp hrowp'
          cases hL : Op.bytesLess prev.toList key.toList
          · have HV : Hid (okAt l (p + 1) = false) := by show _ = _; rw [okAt, HK.out, Nat.add_sub_cancel, HP.out]; simp [utfB, ltB, hL]
            clear hV CV HK HP
            go_wp2_with fail
            refine wp_region_sub (wr.heap.size + 1) (by kernel_rfl) (by kernel_rfl) ?_
            repeat (go_big_quiet_step (exact CF.out _))
            refine wpQuiet_nil ?_
            rintro _ ⟨⟨wq, bq⟩, rfl⟩
            go_wp2_with fail
            go_ret
            exact ⟨by rw [riseB_false hjl HV.out]; rfl, hback _ bq⟩
          · have HV : Hid (okAt l (p + 1) = true) := by show _ = _; rw [okAt, HK.out, Nat.add_sub_cancel, HP.out]; simp [utfB, ltB, hL, hV]
            have HO : Hid (∀ q, q < p + 1 + 1 → okAt l q = true) := fun q hq => by
              by_cases hqj : q < p + 1
              · exact ok.out q hqj
              · obtain rfl : q = p + 1 := by omega
                exact HV.out
            clear hV CV HK HP HV
            go_wp2_with fail
            refine wp_region_sub (wr.heap.size + 1) (by kernel_rfl) (by kernel_rfl) ?_
            repeat (go_big_quiet_step (exact CF.out _))
            refine wpQuiet_nil ?_
            rintro _ ⟨⟨wq, bq⟩, rfl⟩
            go_wp2_with fail
            go_roundw
            case rel => exact ⟨p + 1 + 1, by omega, by go_num, hback _ bq, HO⟩
            case measure => simp [RowKit.intOf]; omega
    · obtain rfl : j = l.length := by omega
      have y1 : ¬ (l.length : Int) < l.length := by omega
      go_wp2_with fail
      go_ret
      exact ⟨by rw [riseB_true ok.out]; rfl, bj⟩
end Go.Proofs.YthgfomblodhoaaaDoor
