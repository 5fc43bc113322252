/- json.appendString. -/
import Derived.Test.YtjocgajbcdmaiaaDoorWalksD
import Derived.Test.YtjocgajbcdmaiaaDoorOwn
import Derived.Test.YtjocgajbcdmaiaaDoorChkA
import Derived.Lib.AppendStr
import Derived.Lib.LaidTab
import Derived.Lib.ItoaNum
set_option linter.unusedSimpArgs false
set_option linter.unusedVariables false
namespace Go.Proofs.YtjocgajbcdmaiaaDoor
open Go.RowKit Go.Lib

/-- strconv's table of powers -/
def PowTab (w : World) : Prop := TabIs Tryd.prog w "internal/strconv.uint64pow10" .u64 pow10Tab
theorem PowTab.below {w w' : World} {B : Nat} (h : PowTab w) (hb : Below B w w') (hB : 3 < B) : PowTab w' := by
  unfold PowTab TabIs World.var? at *
  have hg : Tryd.prog.globalNamed "internal/strconv.uint64pow10" = some 2 := by kernel_rfl
  simp only [hg, Option.bind_some] at h ⊢
  rw [hb.block 2 (by omega)]
  exact h

/-- what the calls read beside their arguments -/
structure Td (w : World) : Prop where
  u : Utf8Tabs 0 1 w
  l : LetTab w
  z : 3 < w.heap.size
  p : PowTab w
theorem Td.below {w w' : World} {B : Nat} (h : Td w) (hb : Below B w w') (hB : 3 < B) (hs : w.heap.size ≤ w'.heap.size) : Td w' :=
  ⟨utab_below h.u hb (by omega), h.l.below hb hB, Nat.lt_of_lt_of_le h.z hs, h.p.below hb hB⟩
theorem Own.below {B : Nat} {v : Value} {l : List UInt8} {w w' : World} (h : Own B v l w) (hb : Below w.heap.size w w') : Own B v l w' :=
  World.ownsRow.kept h (grown_of_below hb) (Classical.em _)
theorem strCells_bytes (s : ByteArray) : strCells s = byteCells s.data.toList := rfl

theorem wpl_str {ops : Array Oper} {rest : List Oper} {o : Oper} {a : Act} {Q : Exit → Act → World → Prop} (w : World) (hgd : o.guard = none) (s x : Operand)
    (ho : o.op = .call { callee := .builtin .append, args := #[s, x], argTypes := #[28, 9] }) (B : Nat) (v : Value) (l : List UInt8) (hs : a.eval s = v) (hown : Own B v l w)
    (t : ByteArray) (hx : a.eval x = .string t) (hlen : l.length + t.size ≤ 140737488355328) (hbase : B ≤ w.heap.size)
    (h : ∀ v' w', Own B v' (l ++ t.data.toList) w' → Below B w w' → wpList Tryd.prog ops Q rest (a.put o.dst v') w') : wpList Tryd.prog ops Q (o :: rest) a w := by
  obtain ⟨i0, hi, hz0, hz1, hz2⟩ := info_parts info5
  refine wpList_append_own_string w hgd s x 28 9 ho B 5 i0 Tryd.underlying28 Tryd.underlying9 hi hz0 hz1 hz2 v l.length (byteCells l) hs hown t hx (by unfold maxLen; omega) (by omega) hbase ?_
  intro v' w' h1 h2 _
  refine h v' w' ?_ ((Below.refl B w).grown h2 hbase (fun k hk => (World.ownsRow.lt hown k hk).1))
  show w'.ownsRow B 5 1 v' (l ++ t.data.toList).length (byteCells (l ++ t.data.toList))
  have e : byteCells (l ++ t.data.toList) = byteCells l ++ strCells t := by simp [byteCells, strCells]
  have e2 : t.data.toList.length = t.size := by rw [Array.length_toList]; rfl
  rw [e, List.length_append, e2]
  exact h1

/-- bytes that were appended to -/
def ApPost (B : Nat) (l : List UInt8) (w : World) (e : Ending) (w' : World) : Prop := ∃ v', e = .returned v' ∧ Own B v' l w' ∧ Below B w w'

set_option maxHeartbeats 1000000 in
set_option maxRecDepth 100000 in
theorem appstr_any (s : ByteArray) (B : Nat) (bv : Value) (bs : List UInt8) (w : World) (td : Td w) (hBw : B ≤ w.heap.size) (ho : Own B bv bs w) (hs : s.size ≤ 1048576) (hV : validD s.data.toList = true) (hlen : bs.length ≤ 1000000000) :
    Calls Tryd.prog 19 #[bv, .string s] w (ApPost B (bs ++ Q.qt s.data.toList) w) := by
  have c := quote_good s w hs td.u td.l td.z hV
  have hq : (⟨(Q.qt s.data.toList).toArray⟩ : ByteArray).size ≤ 6291458 := by
    have h1 := Q.qt_length s.data.toList
    have h2 := Q.sz_le s.data.toList
    have h3 : s.data.toList.length = s.size := by rw [Array.length_toList]; rfl
    show (Q.qt s.data.toList).toArray.size ≤ _
    rw [List.size_toArray]
    omega
  have HD : Hid ((⟨(Q.qt s.data.toList).toArray⟩ : ByteArray).data.toList = Q.qt s.data.toList) := rfl
  generalize (⟨(Q.qt s.data.toList).toArray⟩ : ByteArray) = qs at *
  go_enter Tryd.func19, Tryd.ntmps19
  go_wp2_with fail
  refine c.mono ?_
  rintro e w1 ⟨rfl, b1⟩
  have ho1 := ho.below b1
  have hz := b1.size
  go_wp2_with (at_builtin; go_loud (refine wpl_str _ rfl (.tmp 12) (.tmp 13) rfl B bv bs rfl ho1 qs rfl (by omega) (by omega) ?_))
  intro v' w2 o2 b2
  go_wp2_with fail
  go_ret
  rw [HD.out] at o2
  exact ⟨_, rfl, o2, (b1.mono hBw).trans b2⟩
end Go.Proofs.YtjocgajbcdmaiaaDoor
