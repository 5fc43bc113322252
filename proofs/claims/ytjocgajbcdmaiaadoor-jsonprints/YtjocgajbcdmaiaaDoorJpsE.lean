/- json.appendString, appendList, appendMap: bytes that are appended to, and that nothing else has turned. -/
import Derived.Test.YtjocgajbcdmaiaaDoorJpsB
import Derived.Test.YtjocgajbcdmaiaaDoorJpsD
import Derived.Test.YtjocgajbcdmaiaaDoorAppN
set_option linter.unusedSimpArgs false
set_option linter.unusedVariables false
namespace Go.Proofs.YtjocgajbcdmaiaaDoor
open Go.RowKit Go.Lib

theorem Own.lt {B : Nat} {v : Value} {l : List UInt8} {w : World} (h : Own B v l w) {g : Nat} (hg : v.ownBlock = some g) : B ≤ g ∧ g < w.heap.size := World.ownsRow.lt h g hg
theorem gtrans {w w1 w2 : World} {row : Option Nat} (h : w.grownBy w1 row) (h' : w1.grownBy w2 row) : w.grownBy w2 row :=
  ⟨h'.os.trans h.os, h'.tape.trans h.tape, h'.output.trans h.output, Nat.le_trans h.size h'.size, fun k hk hne => (h'.block k (Nat.lt_of_lt_of_le hk h.size) hne).trans (h.block k hk hne)⟩
theorem gnone {w w1 : World} (h : w.grownBy w1 none) (row : Option Nat) : w.grownBy w1 row := ⟨h.os, h.tape, h.output, h.size, fun k hk _ => h.block k hk (by simp)⟩
theorem Own.belowOf {B : Nat} {v : Value} {l : List UInt8} {w w' : World} (h : Own B v l w) (g : w.grownBy w' v.ownBlock) (hB : B ≤ w.heap.size) : Below B w w' := (Below.refl B w).grown g hB (fun k hk => (h.lt hk).1)

/-- the answer: bytes l, in the row that bv has or in a new block; nothing but that row has turned -/
def ApQ (B : Nat) (bv : Value) (l : List UInt8) (w : World) (e : Ending) (w' : World) : Prop := ∃ v', e = .returned v' ∧ Own B v' l w' ∧ w.grownBy w' bv.ownBlock ∧ Lands bv w.heap.size v'

theorem wpl_strQ {ops : Array Oper} {rest : List Oper} {o : Oper} {a : Act} {Q : Exit → Act → World → Prop} (w : World) (hgd : o.guard = none) (s x : Operand)
    (ho : o.op = .call { callee := .builtin .append, args := #[s, x], argTypes := #[28, 9] }) (B : Nat) (v : Value) (l : List UInt8) (hs : a.eval s = v) (hown : Own B v l w)
    (t : ByteArray) (hx : a.eval x = .string t) (h0 : 0 < t.size) (hlen : l.length + t.size ≤ 140737488355328) (hbase : B ≤ w.heap.size)
    (h : ∀ v' w', Own B v' (l ++ t.data.toList) w' → w.grownBy w' v.ownBlock → Lands v w.heap.size v' → wpList Tryd.prog ops Q rest (a.put o.dst v') w') : wpList Tryd.prog ops Q (o :: rest) a w := by
  refine wpList_plain hgd fun K hK => ?_
  obtain ⟨v', w', hr, h2, h3, h4⟩ := run_str_where w B v l hown o.type t h0 hlen hbase
  unfold Oper.wp execOp
  simp only [ho, resolve, invoke, builtin, Sem.run_bind, Sem.run_pure, Result.andThen_ok, List.map_toArray, List.map_cons, List.map_nil, hs, hx, hr]
  exact hK _ _ (h v' w' h2 h3 h4)
theorem wpl_appQ {ops : Array Oper} {rest : List Oper} {o : Oper} {a : Act} {Q : Exit → Act → World → Prop} (w : World) (hgd : o.guard = none) (s x : Operand)
    (ho : o.op = .call { callee := .builtin .append, args := #[s, x], argTypes := #[28, 28] }) (B : Nat) (v : Value) (l : List UInt8) (hs : a.eval s = v) (hown : Own B v l w)
    (g : Nat) (c : UInt8) (hx : a.eval x = .slice (some ⟨g, 0, none⟩) 1 1) (fr : Nat × Nat) (hblk : w.heap[g]? = some (.cells #[.int .u8 c.toNat] 5 fr))
    (hlen : l.length + 1 ≤ 140737488355328) (hbase : B ≤ w.heap.size)
    (h : ∀ v' w', Own B v' (l ++ [c]) w' → w.grownBy w' v.ownBlock → Lands v w.heap.size v' → wpList Tryd.prog ops Q rest (a.put o.dst v') w') : wpList Tryd.prog ops Q (o :: rest) a w := by
  obtain ⟨i0, hi, hz0, hz1, hz2⟩ := info_parts info5
  refine wpList_plain hgd fun K hK => ?_
  obtain ⟨g', cap, w', hr, h1, h2, h3⟩ := run_append_new (P := Tryd.prog) w B 28 o.type 5 i0 (.int .u8 0) 1 1 Tryd.underlying28 hi hz0 hz1 hz2 rfl (by decide) v l.length (byteCells l) hown ⟨g, 0, none⟩ 1 1 [.int .u8 c.toNat] rfl (fun j u hu => by
    rcases j with _ | j
    · have : u = .int .u8 c.toNat := by simpa using hu.symm
      rw [this]
      show w.cell? ⟨g, 0 + 0, none⟩ = _
      rw [cell_of_block hblk]; rfl
    · simp at hu) (fun u hu => by rw [List.mem_singleton.1 hu]; rfl) (by unfold maxLen; omega) (by omega) hbase (by omega)
  unfold Oper.wp execOp
  simp only [ho, resolve, invoke, builtin, Sem.run_bind, Sem.run_pure, Result.andThen_ok, List.map_toArray, List.map_cons, List.map_nil, hs, hx, hr]
  refine hK _ _ (h _ w' ?_ h2 ?_)
  · show w'.ownsRow B 5 1 _ (l ++ [c]).length (byteCells (l ++ [c]))
    have e : byteCells (l ++ [c]) = byteCells l ++ [.int .u8 c.toNat] := by simp [byteCells]
    rw [e, List.length_append]
    exact h1
  · intro q hq
    have : q = g' := by simpa [Value.ownBlock] using hq.symm
    rw [this]
    exact h3

set_option maxHeartbeats 1000000 in
set_option maxRecDepth 100000 in
theorem appstr_q (s : ByteArray) (B : Nat) (bv : Value) (bs : List UInt8) (w : World) (td : Td w) (hBw : B ≤ w.heap.size) (ho : Own B bv bs w) (hs : s.size ≤ 1048576) (hV : validD s.data.toList = true) (hlen : bs.length ≤ 1000000000) :
    Calls Tryd.prog 19 #[bv, .string s] w (ApQ B bv (bs ++ Q.qt s.data.toList) w) := by
  have c := quote_good s w hs td.u td.l td.z hV
  have hq : (⟨(Q.qt s.data.toList).toArray⟩ : ByteArray).size ≤ 6291458 ∧ 0 < (⟨(Q.qt s.data.toList).toArray⟩ : ByteArray).size := by
    have h1 := Q.qt_length s.data.toList
    have h2 := Q.sz_le s.data.toList
    have h3 : s.data.toList.length = s.size := by rw [Array.length_toList]; rfl
    show (Q.qt s.data.toList).toArray.size ≤ _ ∧ 0 < (Q.qt s.data.toList).toArray.size
    rw [List.size_toArray]
    omega
  have HD : Hid ((⟨(Q.qt s.data.toList).toArray⟩ : ByteArray).data.toList = Q.qt s.data.toList) := rfl
  generalize (⟨(Q.qt s.data.toList).toArray⟩ : ByteArray) = qs at *
  obtain ⟨hq1, hq2⟩ := hq
  go_enter Tryd.func19, Tryd.ntmps19
  go_wp2_with fail
  refine c.mono ?_
  rintro e w1 ⟨rfl, b1⟩
  have ho1 := ho.below b1
  have hz := b1.size
  have g1 := gnone (grown_of_below b1) bv.ownBlock
  go_wp2_with (at_builtin; go_loud (refine wpl_strQ _ rfl (.tmp 12) (.tmp 13) rfl B bv bs rfl ho1 qs rfl hq2 (by omega) (by omega) ?_))
  intro v' w2 o2 g2 l2
  go_wp2_with fail
  go_ret
  rw [HD.out] at o2
  exact ⟨_, rfl, o2, gtrans g1 g2, fun g hg => (l2 g hg).imp id (fun h => Nat.le_trans hz h)⟩
end Go.Proofs.YtjocgajbcdmaiaaDoor
