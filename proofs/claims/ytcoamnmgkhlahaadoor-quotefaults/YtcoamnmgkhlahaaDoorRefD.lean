/- Contracts: the document's Unquote. -/
import Derived.Test.YtcoamnmgkhlahaaDoorRefC
import Derived.Test.YtcoamnmgkhlahaaDoorRdH
import Derived.Lib.AppendStr
set_option linter.unusedSimpArgs false
set_option linter.unusedVariables false
namespace Go.Proofs.YtcoamnmgkhlahaaDoor
open Go.RowKit Go.Lib

theorem Own.drewN {B : Nat} {v : Value} {l : List UInt8} {w : World} (h : Own B v l w) (q : Nat) : Own B v l (w.drewN q) := by
  induction q with
  | zero => exact h
  | succ q ih => exact ih

/-- append of a string's bytes -/
theorem wpl_app_str {ops : Array Oper} {rest : List Oper} {o : Oper} {a : Act} {Q : Exit → Act → World → Prop} (w : World) (hgd : o.guard = none) (s x : Operand)
    (ho : o.op = .call { callee := .builtin .append, args := #[s, x], argTypes := #[38, 9] }) (B : Nat) (v : Value) (l : List UInt8) (hs : a.eval s = v) (hown : Own B v l w)
    (t : ByteArray) (hx : a.eval x = .string t) (hlen : l.length + t.size ≤ 140737488355328) (hbase : B ≤ w.heap.size)
    (h : ∀ v' w', Own B v' (l ++ t.data.toList) w' → Below B w w' → wpList Tryd.prog ops Q rest (a.put o.dst v') w') : wpList Tryd.prog ops Q (o :: rest) a w := by
  obtain ⟨i0, hi, hz0, hz1, hz2⟩ := info_parts info5
  refine Lib.wpList_append_own_string w hgd s x 38 9 ho B 5 i0 Tryd.underlying38 Tryd.underlying9 hi hz0 hz1 hz2 v l.length (Lib.byteCells l) hs hown t hx (by unfold maxLen; omega) (by omega) hbase ?_
  intro v' w' h1 h2 _
  refine h v' w' ?_ ((Below.refl B w).grown h2 hbase (fun k hk => (World.ownsRow.lt hown k hk).1))
  show w'.ownsRow B 5 1 v' (l ++ t.data.toList).length (Lib.byteCells (l ++ t.data.toList))
  have e : Lib.byteCells (l ++ t.data.toList) = Lib.byteCells l ++ Lib.strCells t := by simp [Lib.byteCells, Lib.strCells]
  have e2 : t.data.toList.length = t.size := by simp
  rw [e, List.length_append, e2]
  exact h1
end Go.Proofs.YtcoamnmgkhlahaaDoor
