/- joined: JdK JdQ JdD JpsD JpsE -/
import Derived.Test.YtpmhdcmmlkjjmaaGreatDoorG37
import Derived.RegionTactic
import Derived.ChangeAlike
/- the document's value: its box. -/
set_option linter.unusedSimpArgs false
set_option linter.unusedVariables false
set_option maxRecDepth 100000
namespace Go.Proofs.YtpmhdcmmlkjjmaaGreatDoor
open Go.RowKit Go.Lib
/-- the box that answers -/
structure Dy (w : World) (g : Nat) (s : ByteArray) (D k n e bd : Nat) (W : World) : Prop where
  b4 : W.heap[w.heap.size]? = some z46
  jd : JD g s k n D e bd W
  gr : w.grownBy W (some g)
section
variable {w W W' : World} {g D k n e bd : Nat} {s : ByteArray}
theorem Dy.lt (h : Dy w g s D k n e bd W) : w.heap.size < W.heap.size := by
  rcases Nat.lt_or_ge w.heap.size W.heap.size with q | q
  · exact q
  · have := h.b4; rw [Array.getElem?_eq_none q] at this; cases this
theorem Dy.next {k2 n2 e2 bd2 : Nat} (h : Dy w g s D k n e bd W) (hg : g < w.heap.size) (gr : W.grownBy W' (some g)) (hj : JD g s k2 n2 D e2 bd2 W') : Dy w g s D k2 n2 e2 bd2 W' :=
  ⟨(gr.block _ h.lt (fun e => by have := Option.some.inj e; omega)).trans h.b4, hj, grown_trans h.gr gr⟩
theorem Dy.put1 (h : Dy w g s D k n e bd W) (hg : g < w.heap.size) (m : Nat) (z : Int) (hz : z = m) : Dy w g s D m n e bd (W.setCell ⟨g, 1, none⟩ (.int .i64 z)) := h.next hg (grown_set1 W g 1 _) (h.jd.put m z hz)
theorem Dy.put2 (h : Dy w g s D k n e bd W) (hg : g < w.heap.size) (m : Nat) (z : Int) (hz : z = m) : Dy w g s D k m e bd (W.setCell ⟨g, 2, none⟩ (.int .i64 z)) := h.next hg (grown_set1 W g 2 _) (h.jd.putN m z hz)
theorem Dy.cells (h : Dy w g s D k n e bd W) :
    (W.cell? ⟨w.heap.size, 0, none⟩ = some (.int .i64 0) ∧ W.cell? ⟨w.heap.size, 1, none⟩ = some (.bool false) ∧ W.cell? ⟨w.heap.size, 2, none⟩ = some (.int .i64 0) ∧ W.cell? ⟨w.heap.size, 3, none⟩ = some (.string ⟨#[]⟩) ∧ W.cell? ⟨w.heap.size, 4, none⟩ = some (.slice none 0 0) ∧ W.cell? ⟨w.heap.size, 5, none⟩ = some (.slice none 0 0)) ∧ (∀ i, W.frozen? ⟨w.heap.size, i, none⟩ = false) :=
  ⟨⟨cell_of_block h.b4 0, cell_of_block h.b4 1, cell_of_block h.b4 2, cell_of_block h.b4 3, cell_of_block h.b4 4, cell_of_block h.b4 5⟩, frozen_of_block h.b4⟩
theorem Dy.done (h : Dy w g s D k n e bd W) (hg : g < w.heap.size) (v0 v1 v2 v3 v4 v5 : Value) :
    ∃ W6, W6 = ((((((W.setCell ⟨w.heap.size, 0, none⟩ v0).setCell ⟨w.heap.size, 1, none⟩ v1).setCell ⟨w.heap.size, 2, none⟩ v2).setCell ⟨w.heap.size, 3, none⟩ v3).setCell ⟨w.heap.size, 4, none⟩ v4).setCell ⟨w.heap.size, 5, none⟩ v5) ∧
      (W6.cell? ⟨w.heap.size, 0, none⟩ = some v0 ∧ W6.cell? ⟨w.heap.size, 1, none⟩ = some v1 ∧ W6.cell? ⟨w.heap.size, 2, none⟩ = some v2 ∧ W6.cell? ⟨w.heap.size, 3, none⟩ = some v3 ∧ W6.cell? ⟨w.heap.size, 4, none⟩ = some v4 ∧ W6.cell? ⟨w.heap.size, 5, none⟩ = some v5) ∧ JD g s k n D e bd W6 ∧ w.grownBy W6 (some g) ∧ W.grownBy W6 (some w.heap.size) := by
  have hb := st6_block h.b4 v0 v1 v2 v3 v4 v5
  have hg6 := st6_grown W w.heap.size v0 v1 v2 v3 v4 v5
  generalize ((((((W.setCell ⟨w.heap.size, 0, none⟩ v0).setCell ⟨w.heap.size, 1, none⟩ v1).setCell ⟨w.heap.size, 2, none⟩ v2).setCell ⟨w.heap.size, 3, none⟩ v3).setCell ⟨w.heap.size, 4, none⟩ v4).setCell ⟨w.heap.size, 5, none⟩ v5) = W6 at *
  exact ⟨W6, rfl, ⟨cell_of_block hb 0, cell_of_block hb 1, cell_of_block hb 2, cell_of_block hb 3, cell_of_block hb 4, cell_of_block hb 5⟩, h.jd.own hg6 (fun e => by have := Option.some.inj e; omega), grown_own h.gr hg6 (fun r e => by cases e; exact Nat.le_refl _), hg6⟩
end
theorem entD_ok {c : UInt8} {D n o k : Nat} (h : c = 110 ∨ c = 116 ∨ c = 102 ∨ c = 34 ∨ c = 91 ∨ c = 123 ∨ numC c = true) (hn : ¬ n = 65536) (ho : ¬ D < o) : entJ c D n o k = .ok (n + 1) := by rw [entJ, if_neg (fun q => q h), if_neg hn, if_neg ho]
end Go.Proofs.YtpmhdcmmlkjjmaaGreatDoor
/- the document's Parse. -/
set_option maxRecDepth 100000
namespace Go.Proofs.YtpmhdcmmlkjjmaaGreatDoor
open Go.RowKit Go.Lib
/-- the box that answers, the reader's box -/
structure Dz (w : World) (s : ByteArray) (D k n e bd : Nat) (W : World) : Prop where
  b4 : W.heap[w.heap.size]? = some z46
  jd : JD (w.heap.size + 1) s k n D e bd W
  bl : Below w.heap.size w W
section
variable {w W W' : World} {D k n e bd : Nat} {s : ByteArray}
theorem Dz.next {k2 n2 e2 bd2 : Nat} (h : Dz w s D k n e bd W) (gr : W.grownBy W' (some (w.heap.size + 1))) (hj : JD (w.heap.size + 1) s k2 n2 D e2 bd2 W') : Dz w s D k2 n2 e2 bd2 W' :=
  ⟨(gr.block _ (by have := h.jd.lt; omega) (fun e => by have := Option.some.inj e; omega)).trans h.b4, hj, h.bl.grown gr h.bl.size (fun r e => by cases e; omega)⟩
theorem Dz.alloc (h : Dz w s D k n e bd W) (o : Obj) : Dz w s D k n e bd (W.alloc o) :=
  ⟨(Below.heap_alloc W o _ (by have := h.jd.lt; omega)).trans h.b4, h.jd.keep ((Below.refl _ _).alloc (Nat.le_refl _) _), h.bl.alloc h.bl.size _⟩
theorem Dz.below (h : Dz w s D k n e bd W) (hb : Below W.heap.size W W') : Dz w s D k n e bd W' :=
  ⟨(hb.block _ (by have := h.jd.lt; omega)).trans h.b4, h.jd.keep hb, h.bl.trans (hb.mono h.bl.size)⟩
end
end Go.Proofs.YtpmhdcmmlkjjmaaGreatDoor
/- the document's integer: the walk. -/
set_option maxRecDepth 100000
namespace Go.Proofs.YtpmhdcmmlkjjmaaGreatDoor
open Go.RowKit Go.Lib
theorem uJ_dig {l : List UInt8} (h0 : l ≠ []) (hz : ¬ (1 < l.length ∧ l.head? = some 48)) (hl : ¬ 19 < l.length) : uJ l = dvJ 0 l := by
  rw [uJ, if_neg]
  rintro (q | q | q)
  · exact h0 q
  · exact hz q
  · exact hl q
end Go.Proofs.YtpmhdcmmlkjjmaaGreatDoor
/- where appended bytes lie: in their row, or in a new block. -/
namespace Go.Proofs.YtpmhdcmmlkjjmaaGreatDoor
open Go.RowKit Go.Lib
/-- in the row that v has, or in a block from n on -/
def Lands (v : Value) (n : Nat) (v' : Value) : Prop := ∀ g, v'.ownBlock = some g → v.ownBlock = some g ∨ n ≤ g
theorem Lands.trans {v v1 v2 : Value} {n n1 : Nat} (h : Lands v n v1) (h' : Lands v1 n1 v2) (hn : n ≤ n1) : Lands v n v2 := fun g hg => by
  rcases h' g hg with e | e
  · exact h g e
  · exact .inr (Nat.le_trans hn e)
theorem Lands.refl (v : Value) (n : Nat) : Lands v n v := fun g hg => .inl hg
theorem run_str_where (w : World) (B : Nat) (v : Value) (l : List UInt8) (hown : OwnB B v l w) (ty : TypeId) (t : ByteArray) (h0 : 0 < t.size) (hlen : l.length + t.size ≤ 140737488355328) (hbase : B ≤ w.heap.size) :
    ∃ v' w', (Builtin.append_ #[28, 9] ty #[v, .string t]).run Tryz.prog w = .ok v' w' ∧ OwnB B v' (l ++ t.data.toList) w' ∧ w.grownBy w' v.ownBlock ∧ Lands v w.heap.size v' := by
  obtain ⟨i0, hi, hz0, hz1, hz2⟩ := info_parts info5
  obtain ⟨v', w', hr, h1, h2, _⟩ := run_append_own_string (P := Tryz.prog) w B 28 9 ty 5 i0 Tryz.underlying28 Tryz.underlying9 hi hz0 hz1 hz2 v l.length (byteCells l) hown t (by unfold maxLen; omega) hlen hbase
  refine ⟨v', w', hr, ?_, h2, ?_⟩
  · show w'.ownsRow B 5 1 v' (l ++ t.data.toList).length (byteCells (l ++ t.data.toList))
    have e : byteCells (l ++ t.data.toList) = byteCells l ++ strCells t := by simp [byteCells, strCells]
    have e2 : t.data.toList.length = t.size := by rw [Array.length_toList]; rfl
    rw [e, List.length_append, e2]
    exact h1
  · intro g' hg'
    rcases hown.2 with ⟨rfl, hx⟩ | ⟨g, cap, cur, rfl, hbg, hg, hnc, hcm, hcs, htake⟩
    · have h3 := run_append_nil_string (P := Tryz.prog) w 28 9 ty 5 i0 (.int .u8 0) Tryz.underlying28 Tryz.underlying9 hi hz0 t h0 (by omega) (by rw [hz2]; omega)
      rw [h3] at hr
      obtain ⟨rfl, _⟩ := Result.ok.inj hr
      simp [Value.ownBlock] at hg'
      exact .inr (by omega)
    · by_cases hroom : l.length + t.size ≤ cap
      · have hcs' : cur.size = cap := by simpa using hcs
        have h3 := run_append_room_string (P := Tryz.prog) w 28 9 ty 5 i0 Tryz.underlying28 Tryz.underlying9 hi hz1 g l.length cap cur hg t hroom (by omega)
        rw [h3] at hr
        obtain ⟨rfl, _⟩ := Result.ok.inj hr
        exact .inl hg'
      · have hxl : (byteCells l).length = l.length := byteCells_length l
        have holds : ∀ j u, (byteCells l)[j]? = some u → w.cell? ((⟨g, 0, none⟩ : Addr).add j) = some u := World.ownsRow.cells hown (g := g) rfl
        have h3 := run_append_grow_string (P := Tryz.prog) w 28 9 ty 5 i0 (.int .u8 0) Tryz.underlying28 Tryz.underlying9 hi hz0 ⟨g, 0, none⟩ l.length cap (byteCells l) (by rw [hz1]; omega) holds t (by omega) (by omega) (by rw [hz2]; exact growslice_fits (by omega) (by omega))
        rw [h3] at hr
        obtain ⟨rfl, _⟩ := Result.ok.inj hr
        simp [Value.ownBlock] at hg'
        exact .inr (by omega)
end Go.Proofs.YtpmhdcmmlkjjmaaGreatDoor
/- json.appendString, appendList, appendMap: bytes that are appended to, and that nothing else has turned. -/
namespace Go.Proofs.YtpmhdcmmlkjjmaaGreatDoor
open Go.RowKit Go.Lib
theorem OwnB.lt {B : Nat} {v : Value} {l : List UInt8} {w : World} (h : OwnB B v l w) {g : Nat} (hg : v.ownBlock = some g) : B ≤ g ∧ g < w.heap.size := World.ownsRow.lt h g hg
theorem gtrans {w w1 w2 : World} {row : Option Nat} (h : w.grownBy w1 row) (h' : w1.grownBy w2 row) : w.grownBy w2 row :=
  ⟨h'.os.trans h.os, h'.tape.trans h.tape, h'.output.trans h.output, Nat.le_trans h.size h'.size, fun k hk hne => (h'.block k (Nat.lt_of_lt_of_le hk h.size) hne).trans (h.block k hk hne)⟩
theorem gnone {w w1 : World} (h : w.grownBy w1 none) (row : Option Nat) : w.grownBy w1 row := ⟨h.os, h.tape, h.output, h.size, fun k hk _ => h.block k hk (by simp)⟩
theorem OwnB.belowOf {B : Nat} {v : Value} {l : List UInt8} {w w' : World} (h : OwnB B v l w) (g : w.grownBy w' v.ownBlock) (hB : B ≤ w.heap.size) : Below B w w' := (Below.refl B w).grown g hB (fun k hk => (h.lt hk).1)
/-- the answer: bytes l, in the row that bv has or in a new block; nothing but that row has turned -/
def ApQ (B : Nat) (bv : Value) (l : List UInt8) (w : World) (e : Ending) (w' : World) : Prop := ∃ v', e = .returned v' ∧ OwnB B v' l w' ∧ w.grownBy w' bv.ownBlock ∧ Lands bv w.heap.size v'
theorem wpl_strQ {ops : Array Oper} {rest : List Oper} {o : Oper} {a : Act} {Q : Exit → Act → World → Prop} (w : World) (hgd : o.guard = none) (s x : Operand)
    (ho : o.op = .call { callee := .builtin .append, args := #[s, x], argTypes := #[28, 9] }) (B : Nat) (v : Value) (l : List UInt8) (hs : a.eval s = v) (hown : OwnB B v l w)
    (t : ByteArray) (hx : a.eval x = .string t) (h0 : 0 < t.size) (hlen : l.length + t.size ≤ 140737488355328) (hbase : B ≤ w.heap.size)
    (h : ∀ v' w', OwnB B v' (l ++ t.data.toList) w' → w.grownBy w' v.ownBlock → Lands v w.heap.size v' → wpList Tryz.prog ops Q rest (a.put o.dst v') w') : wpList Tryz.prog ops Q (o :: rest) a w := by
  refine wpList_plain hgd fun K hK => ?_
  obtain ⟨v', w', hr, h2, h3, h4⟩ := run_str_where w B v l hown o.type t h0 hlen hbase
  unfold Oper.wp execOp
  simp only [ho, resolve, invoke, builtin, Sem.run_bind, Sem.run_pure, Result.andThen_ok, List.map_toArray, List.map_cons, List.map_nil, hs, hx, hr]
  exact hK _ _ (h v' w' h2 h3 h4)
theorem wpl_appQ {ops : Array Oper} {rest : List Oper} {o : Oper} {a : Act} {Q : Exit → Act → World → Prop} (w : World) (hgd : o.guard = none) (s x : Operand)
    (ho : o.op = .call { callee := .builtin .append, args := #[s, x], argTypes := #[28, 28] }) (B : Nat) (v : Value) (l : List UInt8) (hs : a.eval s = v) (hown : OwnB B v l w)
    (g : Nat) (c : UInt8) (hx : a.eval x = .slice (some ⟨g, 0, none⟩) 1 1) (fr : Nat × Nat) (hblk : w.heap[g]? = some (.cells #[.int .u8 c.toNat] 5 fr))
    (hlen : l.length + 1 ≤ 140737488355328) (hbase : B ≤ w.heap.size)
    (h : ∀ v' w', OwnB B v' (l ++ [c]) w' → w.grownBy w' v.ownBlock → Lands v w.heap.size v' → wpList Tryz.prog ops Q rest (a.put o.dst v') w') : wpList Tryz.prog ops Q (o :: rest) a w := by
  obtain ⟨i0, hi, hz0, hz1, hz2⟩ := info_parts info5
  refine wpList_plain hgd fun K hK => ?_
  obtain ⟨g', cap, w', hr, h1, h2, h3⟩ := run_append_new (P := Tryz.prog) w B 28 o.type 5 i0 (.int .u8 0) 1 1 Tryz.underlying28 hi hz0 hz1 hz2 rfl (by decide) v l.length (byteCells l) hown ⟨g, 0, none⟩ 1 1 [.int .u8 c.toNat] rfl (fun j u hu => by
    rcases j with _ | j
    · have : u = .int .u8 c.toNat := by simpa using hu.symm
      rw [this]
      show w.cell? ⟨g, 0 + 0, none⟩ = _
      rw [cell_of_block hblk]; rfl
    · simp at hu) (fun u hu => by rw [List.mem_singleton.1 hu]; rfl) (by unfold maxLen; omega) (by omega) hbase (by omega)
  unfold Oper.wp execOp
  simp only [ho, resolve, invoke, builtin, Sem.run_bind, Sem.run_pure, Result.andThen_ok, List.map_toArray, List.map_cons, List.map_nil, hs, hx, hr]
  refine hK _ _ (h _ w' ?_ h2 ?_)
  · show w'.ownsRow B 5 1 _ (l ++ [c]).length (byteCells (l ++ [c]))
    have e : byteCells (l ++ [c]) = byteCells l ++ [.int .u8 c.toNat] := by simp [byteCells]
    rw [e, List.length_append]
    exact h1
  · intro q hq
    have : q = g' := by simpa [Value.ownBlock] using hq.symm
    rw [this]
    exact h3
set_option maxHeartbeats 1000000 in
set_option maxRecDepth 100000 in
theorem appstr_q (s : ByteArray) (B : Nat) (bv : Value) (bs : List UInt8) (w : World) (td : Tdl w) (hBw : B ≤ w.heap.size) (ho : OwnB B bv bs w) (hs : s.size ≤ 1048576) (hV : validD s.data.toList = true) (hlen : bs.length ≤ 1000000000) :
    Calls Tryz.prog 40 #[bv, .string s] w (ApQ B bv (bs ++ Q.qt s.data.toList) w) := by
  have c := quote_good s w (by omega) td.u td.l td.z hV
  have hq : (⟨(Q.qt s.data.toList).toArray⟩ : ByteArray).size ≤ 6291458 ∧ 0 < (⟨(Q.qt s.data.toList).toArray⟩ : ByteArray).size := by
    have h1 := Q.qt_length s.data.toList
    have h2 := Q.sz_le s.data.toList
    have h3 : s.data.toList.length = s.size := by rw [Array.length_toList]; rfl
    show (Q.qt s.data.toList).toArray.size ≤ _ ∧ 0 < (Q.qt s.data.toList).toArray.size
    rw [List.size_toArray]
    omega
  have HD : Hid ((⟨(Q.qt s.data.toList).toArray⟩ : ByteArray).data.toList = Q.qt s.data.toList) := rfl
  generalize (⟨(Q.qt s.data.toList).toArray⟩ : ByteArray) = qs at *
  obtain ⟨hq1, hq2⟩ := hq
  go_enter Tryz.func40, Tryz.ntmps40
  go_wp2_with fail
  refine c.mono ?_
  rintro e w1 ⟨rfl, b1⟩
  have ho1 := ho.below b1
  have hz := b1.size
  have g1 := gnone (grown_of_below b1) bv.ownBlock
  go_wp2_with (at_builtin; go_loud (refine wpl_strQ _ rfl (.tmp 12) (.tmp 13) rfl B bv bs rfl ho1 qs rfl hq2 (by omega) (by omega) ?_))
  intro v' w2 o2 g2 l2
  go_wp2_with fail
  go_ret
  rw [HD.out] at o2
  exact ⟨_, rfl, o2, gtrans g1 g2, fun g hg => (l2 g hg).imp id (fun h => Nat.le_trans hz h)⟩
end Go.Proofs.YtpmhdcmmlkjjmaaGreatDoor
