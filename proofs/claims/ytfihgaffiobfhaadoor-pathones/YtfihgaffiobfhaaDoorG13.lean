/- joined: Own JpsA RowO -/
import Derived.Deep.AppendLies
import Derived.Laws.IdiomStrings
import Derived.Laws.BytesArg
import Derived.Lib.UnsafeStr
import Derived.Test.YtfihgaffiobfhaaDoorG12
import Derived.Lib.AppendStr
import Derived.Lib.LaidTab
import Derived.Lib.ItoaNum
import Derived.Test.YtfihgaffiobfhaaDoorG7
/- Rows of bytes that a call owns: append onto them, and their string. -/
set_option linter.unusedSimpArgs false
set_option linter.unusedVariables false
namespace Go.Proofs.YtfihgaffiobfhaaDoor
open Go.RowKit
theorem info5 : (Tryd.prog.info? 5).map (fun i => (i.zero, i.size, i.bytes)) = some (some (.int .u8 0), 1, 1) := by kernel_rfl
/-- the slice v owns the bytes l, in a block from B on -/
def OwnB (B : Nat) (v : Value) (l : List UInt8) (w : World) : Prop := w.ownsRow B 5 1 v l.length (Lib.byteCells l)
theorem OwnB.alloc {B : Nat} {v : Value} {l : List UInt8} {w : World} (h : OwnB B v l w) (o : Obj) : OwnB B v l (w.alloc o) := World.ownsRow.alloc h o
theorem OwnB.nil (B : Nat) (w : World) : OwnB B (.slice none 0 0) [] w := World.ownsRow_nil w B 5 1
theorem OwnB.built (B : Nat) (w : World) (l : List UInt8) (hB : B ≤ w.heap.size) (hl : l.length ≤ 1000) :
    OwnB B (.slice (some ⟨w.heap.size, 0, none⟩) l.length l.length) l (w.alloc (.cells (Lib.byteCells l).toArray 5)) := by
  refine ⟨by simp [Lib.byteCells_length], .inr ⟨w.heap.size, l.length, (Lib.byteCells l).toArray, rfl, hB, heap_alloc_new w _, Nat.le_refl _, by unfold maxLen; omega, by simp [Lib.byteCells_length], ?_⟩⟩
  simp [Lib.byteCells_length]
  exact List.take_of_length_le (by simp [Lib.byteCells_length])
theorem OwnB.conv {B : Nat} {v : Value} {l : List UInt8} {w : World} (h : OwnB B v l w) : (convert 46 9 v).run Tryd.prog w = .ok (.string ⟨l.toArray⟩) w := by
  rcases h.2 with ⟨hv, h0⟩ | ⟨g, cap, cur, hv, hb, hg, hn, hm, hs, ht⟩
  · have : l = [] := List.length_eq_zero_iff.1 h0
    subst this
    rw [hv]
    exact run_convert_bytes_nil (P := Tryd.prog) w 46 5 Tryd.underlying46 Tryd.underlying5 0 0 9 Tryd.underlying9
  · rw [hv]
    refine run_convert_bytes_back (P := Tryd.prog) w 46 9 5 ⟨g, 0, none⟩ cap l Tryd.underlying46 Tryd.underlying5 Tryd.underlying9 ?_
    intro j hj
    have hu : (Lib.byteCells l)[j]? = some (.int .u8 (l[j].toNat : Int)) := by simp [Lib.byteCells, hj]
    exact World.ownsRow.cells h (g := g) (by rw [hv]; rfl) j _ hu
theorem bytes_oneCell (l : List UInt8) : ∀ u ∈ Lib.byteCells l, u.oneCell' = true := by
  intro u hu
  simp only [Lib.byteCells, List.mem_map] at hu
  obtain ⟨c, _, rfl⟩ := hu
  rfl
/-- append of bytes that lie in a block of their own -/
theorem wpl_app {ops : Array Oper} {rest : List Oper} {o : Oper} {a : Act} {Q : Exit → Act → World → Prop} (w : World) (hgd : o.guard = none) (s x : Operand)
    (ho : o.op = .call { callee := .builtin .append, args := #[s, x], argTypes := #[46, 46] }) (B : Nat) (v : Value) (l : List UInt8) (hs : a.eval s = v) (hown : OwnB B v l w)
    (g m c : Nat) (new : List UInt8) (hx : a.eval x = .slice (some ⟨g, 0, none⟩) m c) (hm : new.length = m) (cs : Array Value) (fr : Nat × Nat) (hblk : w.heap[g]? = some (.cells cs 5 fr)) (hcs : cs.toList = Lib.byteCells new)
    (hlen : l.length + new.length ≤ 140737488355328) (hbase : B ≤ w.heap.size)
    (h : ∀ v' w', OwnB B v' (l ++ new) w' → Below B w w' → wpList Tryd.prog ops Q rest (a.put o.dst v') w') : wpList Tryd.prog ops Q (o :: rest) a w := by
  obtain ⟨i0, hi, hz0, hz1, hz2⟩ := info_parts info5
  refine wpList_append_own w hgd s x 46 ho B 5 i0 (.int .u8 0) 1 1 Tryd.underlying46 hi hz0 hz1 hz2 rfl (by decide) v l.length (Lib.byteCells l) hs hown ⟨g, 0, none⟩ m c (Lib.byteCells new) hx
    (by rw [Lib.byteCells_length, hm]; omega) (by rw [← hcs]; exact World.news_of_block hblk) (bytes_oneCell new) (by unfold maxLen; omega) (by omega) hbase ?_
  intro v' w' h1 h2 _
  refine h v' w' ?_ ((Below.refl B w).grown h2 hbase (fun k hk => (World.ownsRow.lt hown k hk).1))
  show w'.ownsRow B 5 1 v' (l ++ new).length (Lib.byteCells (l ++ new))
  have e : Lib.byteCells (l ++ new) = Lib.byteCells l ++ Lib.byteCells new := by simp [Lib.byteCells]
  rw [e, List.length_append, hm]
  exact h1
/-- the same at a step of a region that draws its order -/
theorem step_app {ops : Array Oper} {o : Oper} {a : Act} {K : Act → World → Prop} {Q : Exit → Act → World → Prop} {E : Prop} (w : World) (hgd : o.guard = none) (s x : Operand)
    (ho : o.op = .call { callee := .builtin .append, args := #[s, x], argTypes := #[46, 46] }) (B : Nat) (v : Value) (l : List UInt8) (hs : a.eval s = v) (hown : OwnB B v l w)
    (g m c : Nat) (new : List UInt8) (hx : a.eval x = .slice (some ⟨g, 0, none⟩) m c) (hm : new.length = m) (hm0 : 0 < m) (cs : Array Value) (fr : Nat × Nat) (hblk : w.heap[g]? = some (.cells cs 5 fr)) (hcs : cs.toList = Lib.byteCells new)
    (hlen : l.length + new.length ≤ 140737488355328) (hbase : B ≤ w.heap.size)
    (h : ∀ v' w', OwnB B v' (l ++ new) w' → Below B w w' → K (a.put o.dst v') w') :
    if Region.wanted o (yielded ops a.tmps) = true then Oper.wp Tryd.prog o a w K Q else E := by
  obtain ⟨i0, hi, hz0, hz1, hz2⟩ := info_parts info5
  refine step_append_lies w hgd s x 46 ho B 5 i0 (.int .u8 0) 1 1 Tryd.underlying46 hi hz0 hz1 hz2 rfl (by decide) v l.length (Lib.byteCells l) hs hown ⟨g, 0, none⟩ m c (Lib.byteCells new) hx
    (by rw [Lib.byteCells_length, hm]; omega) (by rw [← hcs]; exact World.news_of_block hblk) (bytes_oneCell new) hm0 (by unfold maxLen; omega) (by omega) hbase w.heap.size rfl ?_
  intro g' cap w' h1 h2 _ _
  refine h _ w' ?_ ((Below.refl B w).grown h2 hbase (fun k hk => (World.ownsRow.lt hown k hk).1))
  show w'.ownsRow B 5 1 _ (l ++ new).length (Lib.byteCells (l ++ new))
  have e : Lib.byteCells (l ++ new) = Lib.byteCells l ++ Lib.byteCells new := by simp [Lib.byteCells]
  rw [e, List.length_append, hm]
  exact h1
end Go.Proofs.YtfihgaffiobfhaaDoor
/- json.appendString. -/
namespace Go.Proofs.YtfihgaffiobfhaaDoor
open Go.RowKit Go.Lib
/-- strconv's table of powers -/
def PowTab (w : World) : Prop := TabIs Tryd.prog w "internal/strconv.uint64pow10" .u64 pow10Tab
theorem PowTab.below {w w' : World} {B : Nat} (h : PowTab w) (hb : Below B w w') (hB : 3 < B) : PowTab w' := by
  unfold PowTab TabIs World.var? at *
  have hg : Tryd.prog.globalNamed "internal/strconv.uint64pow10" = some 3 := by kernel_rfl
  simp only [hg, Option.bind_some] at h ⊢
  rw [hb.block 3 (by omega)]
  exact h
/-- what the calls read beside their arguments -/
structure Td (w : World) : Prop where
  u : Utf8Tabs 0 1 w
  l : LetTab w
  z : 3 < w.heap.size
  p : PowTab w
theorem Td.below {w w' : World} {B : Nat} (h : Td w) (hb : Below B w w') (hB : 3 < B) (hs : w.heap.size ≤ w'.heap.size) : Td w' :=
  ⟨utab_below h.u hb (by omega), h.l.below hb hB, Nat.lt_of_lt_of_le h.z hs, h.p.below hb hB⟩
theorem OwnB.below {B : Nat} {v : Value} {l : List UInt8} {w w' : World} (h : OwnB B v l w) (hb : Below w.heap.size w w') : OwnB B v l w' :=
  World.ownsRow.kept h (grown_of_below hb) (Classical.em _)
theorem wpl_str {ops : Array Oper} {rest : List Oper} {o : Oper} {a : Act} {Q : Exit → Act → World → Prop} (w : World) (hgd : o.guard = none) (s x : Operand)
    (ho : o.op = .call { callee := .builtin .append, args := #[s, x], argTypes := #[46, 9] }) (B : Nat) (v : Value) (l : List UInt8) (hs : a.eval s = v) (hown : OwnB B v l w)
    (t : ByteArray) (hx : a.eval x = .string t) (hlen : l.length + t.size ≤ 140737488355328) (hbase : B ≤ w.heap.size)
    (h : ∀ v' w', OwnB B v' (l ++ t.data.toList) w' → Below B w w' → wpList Tryd.prog ops Q rest (a.put o.dst v') w') : wpList Tryd.prog ops Q (o :: rest) a w := by
  obtain ⟨i0, hi, hz0, hz1, hz2⟩ := info_parts info5
  refine wpList_append_own_string w hgd s x 46 9 ho B 5 i0 Tryd.underlying46 Tryd.underlying9 hi hz0 hz1 hz2 v l.length (byteCells l) hs hown t hx (by unfold maxLen; omega) (by omega) hbase ?_
  intro v' w' h1 h2 _
  refine h v' w' ?_ ((Below.refl B w).grown h2 hbase (fun k hk => (World.ownsRow.lt hown k hk).1))
  show w'.ownsRow B 5 1 v' (l ++ t.data.toList).length (byteCells (l ++ t.data.toList))
  have e : byteCells (l ++ t.data.toList) = byteCells l ++ strCells t := by simp [byteCells, strCells]
  have e2 : t.data.toList.length = t.size := by rw [Array.length_toList]; rfl
  rw [e, List.length_append, e2]
  exact h1
end Go.Proofs.YtfihgaffiobfhaaDoor
/- What the row of PathOnes needs: the tables, a world for the witness. -/
namespace Go.Proofs.YtfihgaffiobfhaaDoor
open Go.Shelf Go.Lib Go.ChangeShapes Go.RowKit
def letTab : List Int := (List.range 128).map fun c => (Q.letN c : Int)
theorem let_eq : Rows.laid_freehold_quote_letterOf = Lib.tabData (H := Unit) .u8 letTab := by kernel_rfl
theorem pow_eq : Rows.laid_internal_strconv_uint64pow10 = Lib.tabData (H := Unit) .u64 Lib.pow10Tab := by kernel_rfl
theorem cellsU5 : Tryd.prog.cellsOf 5 = 1 := by kernel_rfl
theorem cellsU84 : Tryd.prog.cellsOf 84 = 1 := by kernel_rfl
theorem cellsU118 : Tryd.prog.cellsOf 118 = 20 := by kernel_rfl
theorem cellsU115 : Tryd.prog.cellsOf 115 = 128 := by kernel_rfl
theorem letTab_of {W : World} (h : VarReads Tryd.prog W "freehold/quote.letterOf" Rows.laid_freehold_quote_letterOf) : LetTab W := by
  rw [let_eq] at h
  intro c hc
  obtain ⟨g, t, cs, fuel, p, hg, hty, hvar, hd⟩ := h
  obtain rfl : g = 2 := Option.some.inj (hg.symm.trans (by kernel_rfl))
  obtain rfl : t = 115 := Option.some.inj (hty.symm.trans (by kernel_rfl))
  have hcs := cells_of_tab Tryd.underlying115 Tryd.underlying5 cellsU5 cellsU115 hd
  have := World.var?_cell hg hvar c
  rw [this, ← Array.getElem?_toList, hcs]
  simp [letTab, hc]
theorem powTab_of {W : World} (h : VarReads Tryd.prog W "internal/strconv.uint64pow10" Rows.laid_internal_strconv_uint64pow10) : PowTab W := by
  rw [pow_eq] at h
  obtain ⟨g, t, cs, fuel, p, hg, hty, hvar, hd⟩ := h
  obtain rfl : g = 3 := Option.some.inj (hg.symm.trans (by kernel_rfl))
  obtain rfl : t = 118 := Option.some.inj (hty.symm.trans (by kernel_rfl))
  have hcs := cells_of_tab Tryd.underlying118 Tryd.underlying84 cellsU84 cellsU118 hd
  unfold PowTab TabIs
  rw [hvar]
  exact congrArg some (Array.ext' (by rw [hcs]))
def t32 : List Int := [0,1,28,2,29,14,24,3,30,22,20,15,25,17,4,8,31,27,13,23,21,19,16,7,26,12,18,6,11,5,10,9]
def t64 : List Int := [0,1,56,2,57,49,28,3,61,58,42,50,38,29,17,4,62,47,59,36,45,43,51,22,53,39,33,30,24,18,12,5,63,55,48,27,60,41,37,16,46,35,44,21,52,32,23,11,54,26,40,15,34,20,31,10,25,14,19,9,13,8,7,6]
theorem pow_lt {W : World} (h : PowTab W) : 3 < W.heap.size := by
  rcases Nat.lt_or_ge 3 W.heap.size with h' | h'
  · exact h'
  · unfold PowTab TabIs World.var? at h
    have hg : Tryd.prog.globalNamed "internal/strconv.uint64pow10" = some 3 := by kernel_rfl
    simp only [hg, Option.bind_some] at h
    rw [Array.getElem?_eq_none h'] at h
    cases h
def laidWorldOne (P : Program) (os : Os) : World :=
  { World.holding P os ⟨#[], #[], []⟩ with heap := ((((((World.holding P os ⟨#[], #[], []⟩).heap.modify 0 (putCells (Lib.firstTab.map fun z => Value.int .u8 z).toArray)).modify 1
      (putCells ((List.range 16).flatMap fun i => [Value.int .u8 (Lib.accLo i), Value.int .u8 (Lib.accHi i)]).toArray)).modify 3 (putCells (Lib.pow10Tab.map fun z => Value.int .u64 z).toArray)).modify 2 (putCells (letTab.map fun z => Value.int .u8 z).toArray)).modify 5 (putCells (t32.map fun z => Value.int .u8 z).toArray)).modify 6 (putCells (t64.map fun z => Value.int .u8 z).toArray) }
end Go.Proofs.YtfihgaffiobfhaaDoor
