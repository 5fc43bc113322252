/- joined: TwinB ChkA JpsA -/
import Derived.Test.YtpmhdcmmlkjjmaaGreatDoorG9
import Derived.Test.YtpmhdcmmlkjjmaaGreatDoorG5
import Derived.Lib.AppendStr
import Derived.Lib.LaidTab
import Derived.Lib.ItoaNum
/- twin: the walk. -/
set_option linter.unusedSimpArgs false
set_option linter.unusedVariables false
set_option maxRecDepth 100000
namespace Go.Proofs.YtpmhdcmmlkjjmaaGreatDoor
open Go.RowKit
theorem cell_of_block {w : World} {b : Nat} {c : Array Value} {t : TypeId} {f : Nat × Nat} (h : w.heap[b]? = some (.cells c t f)) (i : Nat) : w.cell? ⟨b, i, none⟩ = c[i]? := by simp [World.cell?, h]
theorem frozen_of_block {w : World} {b : Nat} {c : Array Value} {t : TypeId} (h : w.heap[b]? = some (.cells c t (0, 0))) (i : Nat) : w.frozen? ⟨b, i, none⟩ = false := by simp [World.frozen?, h]
/-- the three blocks of the call: the argument, the answer, the value that is made -/
structure TwF (w : World) (box loc : Array Value) (wr : World) : Prop where
  below : Below w.heap.size w wr
  b0 : wr.heap[w.heap.size]? = some (.cells box 25 (0, 0))
  b1 : wr.heap[w.heap.size + 1]? = some (.cells #[.int .i64 0, .bool false, .int .i64 0, .string ⟨#[]⟩, .slice none 0 0, .slice none 0 0] 25 (0, 0))
  b2 : wr.heap[w.heap.size + 1 + 1]? = some (.cells loc 25 (0, 0))
theorem TwF.lt {w : World} {box loc : Array Value} {wr : World} (h : TwF w box loc wr) : w.heap.size + 3 ≤ wr.heap.size := (Array.getElem?_eq_some_iff.1 h.b2).1
theorem TwF.grown {w : World} {box loc : Array Value} {wr wr' : World} (h : TwF w box loc wr) {row : Option Nat} (g : wr.grownBy wr' row) (hr : ∀ r, row = some r → w.heap.size + 3 ≤ r) : TwF w box loc wr' := by
  have hs := h.lt
  have hn : ∀ q, q < w.heap.size + 3 → some q ≠ row := fun q hq e => by have := hr q e.symm; omega
  exact ⟨h.below.grown g (by omega) (fun r e => by have := hr r e; omega), (g.block _ (by omega) (hn _ (by omega))).trans h.b0, (g.block _ (by omega) (hn _ (by omega))).trans h.b1, (g.block _ (by omega) (hn _ (by omega))).trans h.b2⟩
theorem alloc_size (w : World) (o : Obj) : (w.alloc o).heap.size = w.heap.size + 1 := by simp
theorem three_allocs (w : World) (o0 o1 o2 : Obj) : (((w.alloc o0).alloc o1).alloc o2).heap[w.heap.size]? = some o0 ∧ (((w.alloc o0).alloc o1).alloc o2).heap[w.heap.size + 1]? = some o1 ∧ (((w.alloc o0).alloc o1).alloc o2).heap[w.heap.size + 1 + 1]? = some o2 := by
  refine ⟨?_, ?_, ?_⟩
  · rw [Below.heap_alloc _ _ _ (by rw [alloc_size, alloc_size]; omega), Below.heap_alloc _ _ _ (by rw [alloc_size]; omega)]
    exact heap_alloc_new w o0
  · rw [Below.heap_alloc _ _ _ (by rw [alloc_size, alloc_size]; omega)]
    have := heap_alloc_new (w.alloc o0) o1
    rwa [alloc_size] at this
  · have := heap_alloc_new ((w.alloc o0).alloc o1) o2
    rwa [alloc_size, alloc_size] at this
theorem three_below (w : World) (o0 o1 o2 : Obj) : Below w.heap.size w (((w.alloc o0).alloc o1).alloc o2) :=
  (((Below.refl w.heap.size w).alloc (Nat.le_refl _) _).alloc (by rw [alloc_size]; omega) _).alloc (by rw [alloc_size, alloc_size]; omega) _
theorem alloc2_new (w : World) (o o' : Obj) : ((w.alloc o).alloc o').heap[w.heap.size + 1]? = some o' := by
  have := heap_alloc_new (w.alloc o) o'
  rwa [alloc_size] at this
theorem grown_drew (w : World) (row : Option Nat) : w.grownBy w.drew row := ⟨rfl, rfl, rfl, Nat.le_refl _, fun _ _ _ => rfl⟩
theorem OwnR.drew {α : Type} {E : α → World → (Nat → Prop) → List Value → Prop} {ty sz : Nat} (K : KeepE E) {w : World} {base : Nat} {S : Nat → Prop} {v : Value} {l : List α} (h : OwnR E ty sz w base S v l) : OwnR E ty sz w.drew base S v l :=
  h.keep K (grown_drew w none) (fun r e => by cases e)
theorem results_cell1 {fn : Func} {p : Tmp} {ty : TypeId} (h : fn.results = #[.cell p ty]) (tmps : Array Value) (P : Program) (w : World) :
    (results fn tmps).run P w = ((asAddr (tmps.getD p undef)).run P w).andThen fun a w₁ => (loadVar ty a).run P w₁ := by
  simp only [results, h]
  simp [Sem.run_bind, Result.andThen]
theorem one6 {k i : Int} {b : Bool} {s : ByteArray} {p q : Option Addr} {n c n' c' : Nat} : ∀ u ∈ [Value.int .i64 k, .bool b, .int .i64 i, .string s, .slice p n c, .slice q n' c'], u.oneCell' = true := by
  intro u hu
  simp at hu
  rcases hu with rfl | rfl | rfl | rfl | rfl | rfl <;> rfl
theorem one7 {r : ByteArray} {k i : Int} {b : Bool} {s : ByteArray} {p q : Option Addr} {n c n' c' : Nat} : ∀ u ∈ [Value.string r, .int .i64 k, .bool b, .int .i64 i, .string s, .slice p n c, .slice q n' c'], u.oneCell' = true := by
  intro u hu
  simp at hu
  rcases hu with rfl | rfl | rfl | rfl | rfl | rfl | rfl <;> rfl
end Go.Proofs.YtpmhdcmmlkjjmaaGreatDoor
/- value.plain, value.rising. -/
set_option maxRecDepth 100000
namespace Go.Proofs.YtpmhdcmmlkjjmaaGreatDoor
open Go.RowKit Go.Lib
theorem utab_grown {w w' : World} {row : Option Nat} (h : Utf8Tabs 1 2 w) (hb : w.grownBy w' row) (h2 : 2 < w.heap.size) (hr : ∀ r, row = some r → 2 < r) : Utf8Tabs 1 2 w' := by
  have hn : ∀ q, q ≤ 2 → some q ≠ row := fun q hq e => by have := hr q e.symm; omega
  have k1 := hb.block 1 (by omega) (hn 1 (by omega))
  have k2 := hb.block 2 (by omega) (hn 2 (by omega))
  exact ⟨fun c hc => (World.cell?_of_block (w := w) (a := ⟨1, c, none⟩) k1).trans (h.1 c hc), fun i hi => ⟨(World.cell?_of_block (w := w) (a := ⟨2, 2 * i, none⟩) k2).trans (h.2 i hi).1, (World.cell?_of_block (w := w) (a := ⟨2, 2 * i + 1, none⟩) k2).trans (h.2 i hi).2⟩⟩
/-- what the calls read beside their arguments -/
structure Tb (w : World) : Prop where
  u : Utf8Tabs 1 2 w
  z : 2 < w.heap.size
theorem Tb.grown {w w' : World} {row : Option Nat} (h : Tb w) (hb : w.grownBy w' row) (hr : ∀ r, row = some r → 2 < r) : Tb w' := ⟨utab_grown h.u hb h.z hr, Nat.lt_of_lt_of_le h.z hb.size⟩
theorem Tb.below {w w' : World} {B : Nat} (h : Tb w) (hb : Below B w w') (hB : 2 < B) : Tb w' := by
  refine ⟨?_, Nat.lt_of_lt_of_le h.z hb.size⟩
  exact ⟨fun c hc => (hb.cell (p := ⟨1, c, none⟩) (by show 1 < B; omega)).trans (h.u.1 c hc), fun i hi => ⟨(hb.cell (p := ⟨2, 2 * i, none⟩) hB).trans (h.u.2 i hi).1, (hb.cell (p := ⟨2, 2 * i + 1, none⟩) hB).trans (h.u.2 i hi).2⟩⟩
def plainB (k : Int) (b : Bool) (i : Int) (s : ByteArray) (nl nm : Nat) : Bool :=
  decide (0 ≤ k ∧ k ≤ 5 ∧ (k = 1 ∨ b = false) ∧ (k = 2 ∨ i = 0) ∧ (k = 3 ∨ s.toList.isEmpty = true) ∧ (k = 4 ∨ nl = 0) ∧ (k = 5 ∨ nm = 0))
def BPost (r : Bool) (w : World) (e : Ending) (w' : World) : Prop := e = .returned (.bool r) ∧ Below w.heap.size w w'
set_option maxHeartbeats 4000000 in
set_option maxRecDepth 100000 in
theorem plain_any (k : Int) (b : Bool) (i : Int) (s : ByteArray) (nl nm : Nat) (al am : Option Addr) (cl cm : Nat) (w : World) :
    Calls Tryz.prog 59 #[.agg #[.int .i64 k, .bool b, .int .i64 i, .string s, .slice al nl cl, .slice am nm cm]] w (BPost (plainB k b i s nl nm) w) := by
  go_enter Tryz.func59, Tryz.ntmps59
  go_wp2
  all_goals go_ret
  all_goals refine ⟨?_, (Below.refl _ _).alloc (Nat.le_refl _) _⟩
  all_goals show Ending.returned (Value.bool _) = Ending.returned (Value.bool _)
  all_goals refine congrArg (fun r => Ending.returned (Value.bool r)) ?_
  all_goals rw [Bool.eq_iff_iff]
  all_goals simp only [plainB, decide_eq_true_eq, beq_iff_eq, Bool.not_eq_true', Bool.false_eq_true, false_iff, true_iff]
  all_goals simp_all
  all_goals omega
end Go.Proofs.YtpmhdcmmlkjjmaaGreatDoor
/- json.appendString. -/
set_option maxRecDepth 100000
namespace Go.Proofs.YtpmhdcmmlkjjmaaGreatDoor
open Go.RowKit Go.Lib
/-- strconv's table of powers -/
def PowTab (w : World) : Prop := TabIs Tryz.prog w "internal/strconv.uint64pow10" .u64 pow10Tab
theorem PowTab.below {w w' : World} {B : Nat} (h : PowTab w) (hb : Below B w w') (hB : 9 < B) : PowTab w' := by
  unfold PowTab TabIs World.var? at *
  have hg : Tryz.prog.globalNamed "internal/strconv.uint64pow10" = some 3 := by kernel_rfl
  simp only [hg, Option.bind_some] at h ⊢
  rw [hb.block 3 (by omega)]
  exact h
/-- what an escape says (quote.saidBy) -/
def SaidT (w : World) : Prop := ∀ c : Nat, c < 128 → w.cell? ⟨9, c, none⟩ = some (.int .u8 (Q.saidN c))
theorem SaidT.below {B : Nat} {w w' : World} (h : SaidT w) (hb : Below B w w') (hB : 9 < B) : SaidT w' :=
  fun c hc => (hb.cell (p := ⟨9, c, none⟩) (by show 9 < B; omega)).trans (h c hc)
/-- strconv's two errors -/
def ErrT (w : World) : Prop := ∃ t5 p5 t6 p6, w.cell? ⟨7, 0, none⟩ = some (.iface t5 p5) ∧ w.cell? ⟨8, 0, none⟩ = some (.iface t6 p6)
theorem ErrT.below {B : Nat} {w w' : World} (h : ErrT w) (hb : Below B w w') (hB : 9 < B) : ErrT w' := by
  obtain ⟨t5, p5, t6, p6, h5, h6⟩ := h
  exact ⟨t5, p5, t6, p6, (hb.cell (p := ⟨7, 0, none⟩) (by show 7 < B; omega)).trans h5, (hb.cell (p := ⟨8, 0, none⟩) (by show 8 < B; omega)).trans h6⟩
/-- what the calls read beside their arguments -/
structure Td (w : World) : Prop where
  u : Utf8Tabs 1 2 w
  z : 9 < w.heap.size
  p : PowTab w
  s : SaidT w
  e : ErrT w
theorem Td.below {w w' : World} {B : Nat} (h : Td w) (hb : Below B w w') (hB : 9 < B) (hs : w.heap.size ≤ w'.heap.size) : Td w' :=
  ⟨utab_below h.u hb (by omega), Nat.lt_of_lt_of_le h.z hs, h.p.below hb hB, h.s.below hb hB, h.e.below hb hB⟩
theorem OwnB.below {B : Nat} {v : Value} {l : List UInt8} {w w' : World} (h : OwnB B v l w) (hb : Below w.heap.size w w') : OwnB B v l w' :=
  World.ownsRow.kept h (grown_of_below hb) (Classical.em _)
theorem wpl_str {ops : Array Oper} {rest : List Oper} {o : Oper} {a : Act} {Q : Exit → Act → World → Prop} (w : World) (hgd : o.guard = none) (s x : Operand)
    (ho : o.op = .call { callee := .builtin .append, args := #[s, x], argTypes := #[28, 9] }) (B : Nat) (v : Value) (l : List UInt8) (hs : a.eval s = v) (hown : OwnB B v l w)
    (t : ByteArray) (hx : a.eval x = .string t) (hlen : l.length + t.size ≤ 140737488355328) (hbase : B ≤ w.heap.size)
    (h : ∀ v' w', OwnB B v' (l ++ t.data.toList) w' → Below B w w' → wpList Tryz.prog ops Q rest (a.put o.dst v') w') : wpList Tryz.prog ops Q (o :: rest) a w := by
  obtain ⟨i0, hi, hz0, hz1, hz2⟩ := info_parts info5
  refine wpList_append_own_string w hgd s x 28 9 ho B 5 i0 Tryz.underlying28 Tryz.underlying9 hi hz0 hz1 hz2 v l.length (byteCells l) hs hown t hx (by unfold maxLen; omega) (by omega) hbase ?_
  intro v' w' h1 h2 _
  refine h v' w' ?_ ((Below.refl B w).grown h2 hbase (fun k hk => (World.ownsRow.lt hown k hk).1))
  show w'.ownsRow B 5 1 v' (l ++ t.data.toList).length (byteCells (l ++ t.data.toList))
  have e : byteCells (l ++ t.data.toList) = byteCells l ++ strCells t := by simp [byteCells, strCells]
  have e2 : t.data.toList.length = t.size := by rw [Array.length_toList]; rfl
  rw [e, List.length_append, e2]
  exact h1
/-- bytes that were appended to -/
def ApPost (B : Nat) (l : List UInt8) (w : World) (e : Ending) (w' : World) : Prop := ∃ v', e = .returned v' ∧ OwnB B v' l w' ∧ Below B w w'
end Go.Proofs.YtpmhdcmmlkjjmaaGreatDoor
