/- joined: JpsE JpsC -/
import Derived.Test.YtpmhdcmmlkjjmaaGreatDoorG38
/- json.appendString, appendList, appendMap: bytes that are appended to, and that nothing else has turned. -/
set_option linter.unusedSimpArgs false
set_option linter.unusedVariables false
namespace Go.Proofs.YtpmhdcmmlkjjmaaGreatDoor
open Go.RowKit Go.Lib
theorem OwnB.lt {B : Nat} {v : Value} {l : List UInt8} {w : World} (h : OwnB B v l w) {g : Nat} (hg : v.ownBlock = some g) : B ≤ g ∧ g < w.heap.size := World.ownsRow.lt h g hg
theorem gtrans {w w1 w2 : World} {row : Option Nat} (h : w.grownBy w1 row) (h' : w1.grownBy w2 row) : w.grownBy w2 row :=
  ⟨h'.os.trans h.os, h'.tape.trans h.tape, h'.output.trans h.output, Nat.le_trans h.size h'.size, fun k hk hne => (h'.block k (Nat.lt_of_lt_of_le hk h.size) hne).trans (h.block k hk hne)⟩
theorem gnone {w w1 : World} (h : w.grownBy w1 none) (row : Option Nat) : w.grownBy w1 row := ⟨h.os, h.tape, h.output, h.size, fun k hk _ => h.block k hk (by simp)⟩
theorem OwnB.belowOf {B : Nat} {v : Value} {l : List UInt8} {w w' : World} (h : OwnB B v l w) (g : w.grownBy w' v.ownBlock) (hB : B ≤ w.heap.size) : Below B w w' := (Below.refl B w).grown g hB (fun k hk => (h.lt hk).1)
/-- the answer: bytes l, in the row that bv has or in a new block; nothing but that row has turned -/
def ApQ (B : Nat) (bv : Value) (l : List UInt8) (w : World) (e : Ending) (w' : World) : Prop := ∃ v', e = .returned v' ∧ OwnB B v' l w' ∧ w.grownBy w' bv.ownBlock ∧ Lands bv w.heap.size v'
theorem wpl_strQ {ops : Array Oper} {rest : List Oper} {o : Oper} {a : Act} {Q : Exit → Act → World → Prop} (w : World) (hgd : o.guard = none) (s x : Operand)
    (ho : o.op = .call { callee := .builtin .append, args := #[s, x], argTypes := #[28, 9] }) (B : Nat) (v : Value) (l : List UInt8) (hs : a.eval s = v) (hown : OwnB B v l w)
    (t : ByteArray) (hx : a.eval x = .string t) (h0 : 0 < t.size) (hlen : l.length + t.size ≤ 140737488355328) (hbase : B ≤ w.heap.size)
    (h : ∀ v' w', OwnB B v' (l ++ t.data.toList) w' → w.grownBy w' v.ownBlock → Lands v w.heap.size v' → wpList Tryz.prog ops Q rest (a.put o.dst v') w') : wpList Tryz.prog ops Q (o :: rest) a w := by
  refine wpList_plain hgd fun K hK => ?_
  obtain ⟨v', w', hr, h2, h3, h4⟩ := run_str_where w B v l hown o.type t h0 hlen hbase
  unfold Oper.wp execOp
  simp only [ho, resolve, invoke, builtin, Sem.run_bind, Sem.run_pure, Result.andThen_ok, List.map_toArray, List.map_cons, List.map_nil, hs, hx, hr]
  exact hK _ _ (h v' w' h2 h3 h4)
theorem wpl_appQ {ops : Array Oper} {rest : List Oper} {o : Oper} {a : Act} {Q : Exit → Act → World → Prop} (w : World) (hgd : o.guard = none) (s x : Operand)
    (ho : o.op = .call { callee := .builtin .append, args := #[s, x], argTypes := #[28, 28] }) (B : Nat) (v : Value) (l : List UInt8) (hs : a.eval s = v) (hown : OwnB B v l w)
    (g : Nat) (c : UInt8) (hx : a.eval x = .slice (some ⟨g, 0, none⟩) 1 1) (fr : Nat × Nat) (hblk : w.heap[g]? = some (.cells #[.int .u8 c.toNat] 5 fr))
    (hlen : l.length + 1 ≤ 140737488355328) (hbase : B ≤ w.heap.size)
    (h : ∀ v' w', OwnB B v' (l ++ [c]) w' → w.grownBy w' v.ownBlock → Lands v w.heap.size v' → wpList Tryz.prog ops Q rest (a.put o.dst v') w') : wpList Tryz.prog ops Q (o :: rest) a w := by
  obtain ⟨i0, hi, hz0, hz1, hz2⟩ := info_parts info5
  refine wpList_plain hgd fun K hK => ?_
  obtain ⟨g', cap, w', hr, h1, h2, h3⟩ := run_append_new (P := Tryz.prog) w B 28 o.type 5 i0 (.int .u8 0) 1 1 Tryz.underlying28 hi hz0 hz1 hz2 rfl (by decide) v l.length (byteCells l) hown ⟨g, 0, none⟩ 1 1 [.int .u8 c.toNat] rfl (fun j u hu => by
    rcases j with _ | j
    · have : u = .int .u8 c.toNat := by simpa using hu.symm
      rw [this]
      show w.cell? ⟨g, 0 + 0, none⟩ = _
      rw [cell_of_block hblk]; rfl
    · simp at hu) (fun u hu => by rw [List.mem_singleton.1 hu]; rfl) (by unfold maxLen; omega) (by omega) hbase (by omega)
  unfold Oper.wp execOp
  simp only [ho, resolve, invoke, builtin, Sem.run_bind, Sem.run_pure, Result.andThen_ok, List.map_toArray, List.map_cons, List.map_nil, hs, hx, hr]
  refine hK _ _ (h _ w' ?_ h2 ?_)
  · show w'.ownsRow B 5 1 _ (l ++ [c]).length (byteCells (l ++ [c]))
    have e : byteCells (l ++ [c]) = byteCells l ++ [.int .u8 c.toNat] := by simp [byteCells]
    rw [e, List.length_append]
    exact h1
  · intro q hq
    have : q = g' := by simpa [Value.ownBlock] using hq.symm
    rw [this]
    exact h3
set_option maxHeartbeats 1000000 in
set_option maxRecDepth 100000 in
theorem appstr_q (s : ByteArray) (B : Nat) (bv : Value) (bs : List UInt8) (w : World) (td : Tdl w) (hBw : B ≤ w.heap.size) (ho : OwnB B bv bs w) (hs : s.size ≤ 1048576) (hV : validD s.data.toList = true) (hlen : bs.length ≤ 1000000000) :
    Calls Tryz.prog 40 #[bv, .string s] w (ApQ B bv (bs ++ Q.qt s.data.toList) w) := by
  have c := quote_good s w (by omega) td.u td.l td.z hV
  have hq : (⟨(Q.qt s.data.toList).toArray⟩ : ByteArray).size ≤ 6291458 ∧ 0 < (⟨(Q.qt s.data.toList).toArray⟩ : ByteArray).size := by
    have h1 := Q.qt_length s.data.toList
    have h2 := Q.sz_le s.data.toList
    have h3 : s.data.toList.length = s.size := by rw [Array.length_toList]; rfl
    show (Q.qt s.data.toList).toArray.size ≤ _ ∧ 0 < (Q.qt s.data.toList).toArray.size
    rw [List.size_toArray]
    omega
  have HD : Hid ((⟨(Q.qt s.data.toList).toArray⟩ : ByteArray).data.toList = Q.qt s.data.toList) := rfl
  generalize (⟨(Q.qt s.data.toList).toArray⟩ : ByteArray) = qs at *
  obtain ⟨hq1, hq2⟩ := hq
  go_enter Tryz.func40, Tryz.ntmps40
  go_wp2_with fail
  refine c.mono ?_
  rintro e w1 ⟨rfl, b1⟩
  have ho1 := ho.below b1
  have hz := b1.size
  have g1 := gnone (grown_of_below b1) bv.ownBlock
  go_wp2_with (at_builtin; go_loud (refine wpl_strQ _ rfl (.tmp 12) (.tmp 13) rfl B bv bs rfl ho1 qs rfl hq2 (by omega) (by omega) ?_))
  intro v' w2 o2 g2 l2
  go_wp2_with fail
  go_ret
  rw [HD.out] at o2
  exact ⟨_, rfl, o2, gtrans g1 g2, fun g hg => (l2 g hg).imp id (fun h => Nat.le_trans hz h)⟩
end Go.Proofs.YtpmhdcmmlkjjmaaGreatDoor
/- json.appendList, appendMap, appendValue. -/
namespace Go.Proofs.YtpmhdcmmlkjjmaaGreatDoor
open Go.RowKit Go.Lib
/-- what appendValue does with x -/
def AppV (x : V) : Prop := ∀ (R : Bool) (S : Nat → Prop) (cs : List Value) (B : Nat) (bv : Value) (bs : List UInt8) (w : World), x.lies R w S cs → (∀ b, S b → b < B) → Tdl w → 9 < B → B ≤ w.heap.size → OwnB B bv bs w → prV x → x.wt ≤ 1114112 → bs.length + 40 * x.wt ≤ 1000000000 →
  Calls Tryz.prog 27 #[bv, .agg cs.toArray] w (ApPost B (bs ++ txtV x) w)
/-- append of bytes, and that nothing but their own row has turned -/
theorem wpl_appG {ops : Array Oper} {rest : List Oper} {o : Oper} {a : Act} {Q : Exit → Act → World → Prop} (w : World) (hgd : o.guard = none) (s x : Operand)
    (ho : o.op = .call { callee := .builtin .append, args := #[s, x], argTypes := #[28, 28] }) (B : Nat) (v : Value) (l : List UInt8) (hs : a.eval s = v) (hown : OwnB B v l w)
    (g m c : Nat) (new : List UInt8) (hx : a.eval x = .slice (some ⟨g, 0, none⟩) m c) (hm : new.length = m) (cs : Array Value) (fr : Nat × Nat) (hblk : w.heap[g]? = some (.cells cs 5 fr)) (hcs : cs.toList = byteCells new)
    (hlen : l.length + new.length ≤ 140737488355328) (hbase : B ≤ w.heap.size)
    (h : ∀ v' w', OwnB B v' (l ++ new) w' → Below B w w' → w.grownBy w' v.ownBlock → wpList Tryz.prog ops Q rest (a.put o.dst v') w') : wpList Tryz.prog ops Q (o :: rest) a w := by
  obtain ⟨i0, hi, hz0, hz1, hz2⟩ := info_parts info5
  refine wpList_append_own w hgd s x 28 ho B 5 i0 (.int .u8 0) 1 1 Tryz.underlying28 hi hz0 hz1 hz2 rfl (by decide) v l.length (byteCells l) hs hown ⟨g, 0, none⟩ m c (byteCells new) hx
    (by rw [byteCells_length, hm]; omega) (by rw [← hcs]; exact World.news_of_block hblk) (bytes_oneCell new) (by unfold maxLen; omega) (by omega) hbase ?_
  intro v' w' h1 h2 _
  refine h v' w' ?_ ((Below.refl B w).grown h2 hbase (fun k hk => (World.ownsRow.lt hown k hk).1)) h2
  show w'.ownsRow B 5 1 v' (l ++ new).length (byteCells (l ++ new))
  have e : byteCells (l ++ new) = byteCells l ++ byteCells new := by simp [byteCells]
  rw [e, List.length_append, hm]
  exact h1
set_option maxHeartbeats 2000000 in
set_option maxRecDepth 100000 in
theorem applist_any (l : List V) (ih : ∀ x ∈ l, AppV x) (R : Bool) (S : Nat → Prop) (al : Option Addr) (cl bl ol : Nat) (B : Nat) (bv : Value) (bs : List UInt8) (w : World) (hal : Headed al l.length cl bl ol) (hl : liesL R w S l bl ol) (hS : ∀ b, S b → b < B) (td : Tdl w) (hB3 : 9 < B) (hBw : B ≤ w.heap.size) (ho : OwnB B bv bs w) (hp : prL l) (hwt : wtL l ≤ 1114112) (hlen : bs.length + 40 * wtL l + 5 ≤ 1000000000) :
    Calls Tryz.prog 41 #[bv, .slice al l.length cl] w (ApPost B (bs ++ (91 :: (joinB (txtL l) ++ [93]))) w) := by
  have hll := wtL_len l
  have HL : Hid (∀ W, Below B w W → liesL R W S l bl ol ∧ Tdl W) := fun W hb => ⟨liesL_keep (fun h => h) (fun x hx => hb.block x (hS x hx)) (fun _ h => h) _ hl, td.below hb hB3 hb.size⟩
  have HE : Hid (bs ++ (91 :: (joinB (txtL l) ++ [93])) = (bs ++ [(91 : UInt8)] ++ jL l l.length) ++ [93]) := by show _ = _; rw [jL, List.take_length]; simp
  have HN : Hid (∀ j, (jL l j).length ≤ 40 * wtL l) := fun j => Nat.le_trans (jL_len j hp) (Nat.mul_le_mul_left _ (wtL_take l j))
  have HI : Hid (∀ j (h : j < l.length), AppV l[j] ∧ prV l[j] ∧ (l[j]).wt ≤ wtL l ∧ (jL l j).length + 40 * (l[j]).wt ≤ 40 * wtL l) := fun j h => by
    have h1 := jL_len j hp
    have h2 := wtL_app (l.take j) (l.drop j)
    rw [List.take_append_drop, List.drop_eq_getElem_cons h, wtL] at h2
    exact ⟨ih _ (List.getElem_mem h), prL_mem hp _ (List.getElem_mem h), wtL_mem (List.getElem_mem h), by omega⟩
  have HJ1 : Hid (∀ h : 0 < l.length, jL l 1 = txtV l[0]) := fun h => jL_one h
  have HJ2 : Hid (∀ j (h : j < l.length), j ≠ 0 → jL l (j + 1) = (jL l j ++ [44]) ++ txtV l[j]) := fun j h h0 => jL_more h h0
  clear hl td
  go_enter Tryz.func41, Tryz.ntmps41
  go_wp2_with (at_builtin; go_loud (refine wpl_appG _ rfl (.tmp 7) (.tmp 8) rfl B _ _ rfl (ho.alloc _) w.heap.size 1 1 [91] rfl rfl _ _ (heap_alloc_new w _) rfl (by (try simp only [List.length_append, List.length_cons, List.length_nil]); omega) (by rw [alloc_size]; omega) ?_))
  intro v1 w1 o1 b1 _
  have B1 : Below B w w1 := ((Below.refl B w).alloc hBw _).trans b1
  clear b1
  go_wp2_with fail
  go_loopw [0, 12] (fun e0 e12 wr => ∃ (j : Nat) (bv' : Value), j ≤ l.length ∧ bv' = e0 ∧ e12 = .int .i64 (j : Int) ∧ OwnB B bv' (bs ++ [(91 : UInt8)] ++ jL l j) wr ∧ Hid (Below B w wr)) (fun _ e _ => l.length - (RowKit.intOf e).toNat)
  case atStart => exact ⟨0, _, by omega, rfl, rfl, by rw [jL_zero, List.append_nil]; exact o1, B1⟩
  case round =>
    clear o1 B1
    obtain ⟨j, bv', hj, rfl, rfl, oj, Bj⟩ := hrel
    have hnj := HN.out j
    obtain ⟨P, hP⟩ : ∃ P, bs ++ [(91 : UInt8)] ++ jL l j = P := ⟨_, rfl⟩
    have HPP : Hid (bs ++ [(91 : UInt8)] ++ jL l j = P) := hP
    have hPl : P.length = bs.length + 1 + (jL l j).length := by rw [← hP]; simp only [List.length_append, List.length_cons, List.length_nil]
    rw [hP] at oj
    clear hP
    have hzr := Bj.out.size
    by_cases hjl : j < l.length
    · have y1 : (j : Int) < l.length := by omega
      obtain rfl : al = some ⟨bl, ol, none⟩ := hal.at_.resolve_left (by omega)
      obtain ⟨hSb, csj, hrow, hlj⟩ := liesL_get (HL.out wr Bj.out).1 j hjl
      obtain ⟨ek, eb, ei, es, eal, enl, ecl, eam, enm, ecm, rfl⟩ := V.ten hlj
      obtain ⟨q0, q1, q2, q3, q4, q5⟩ := row6 hrow
      obtain ⟨hA, hpj, hwj, hlj2⟩ := HI.out j hjl
      have nb := heap_alloc_new wr (.cells #[.int .i64 ek, .bool eb, .int .i64 ei, .string es, .slice eal enl ecl, .slice eam enm ecm] 25)
      have hza := alloc_size wr (.cells #[.int .i64 ek, .bool eb, .int .i64 ei, .string es, .slice eal enl ecl, .slice eam enm ecm] 25)
      have hlW : ∀ W, Below B wr W → (l[j]).lies R W S [.int .i64 ek, .bool eb, .int .i64 ei, .string es, .slice eal enl ecl, .slice eam enm ecm] := fun W hb => V.lies_keep (fun h => h) (fun x hx => hb.block x (hS x hx)) (fun _ h => h) _ hlj
      have HLW : Hid (∀ W, Below B wr W → (l[j]).lies R W S [.int .i64 ek, .bool eb, .int .i64 ei, .string es, .slice eal enl ecl, .slice eam enm ecm]) := hlW
      have HA : Hid (AppV l[j]) := hA
      have bA : Below B wr (wr.alloc (.cells #[.int .i64 ek, .bool eb, .int .i64 ei, .string es, .slice eal enl ecl, .slice eam enm ecm] 25)) := (Below.refl B wr).alloc (by omega) _
      have oA := oj.alloc (.cells #[.int .i64 ek, .bool eb, .int .i64 ei, .string es, .slice eal enl ecl, .slice eam enm ecm] 25)
      have hlt := fun g hg => (oj.lt (g := g) hg).2
      clear hlj hlW hA hrow
      by_cases hj0 : j = 0
      · have HT : Hid (bs ++ [(91 : UInt8)] ++ jL l (j + 1) = P ++ txtV l[j]) := by
          show _ = _
          rw [← HPP.out]
          subst hj0
          rw [HJ1.out hjl, jL_zero]; simp
        have y2 : ¬ (j : Int) > 0 := by omega
        have y3 : ¬ (0 : Int) < j := by omega
        have y4 : ¬ 0 < j := by omega
        have y5 : decide (0 < j) = false := by simp [hj0]
        clear hj0
        have n0 : (wr.alloc (.cells #[.int .i64 ek, .bool eb, .int .i64 ei, .string es, .slice eal enl ecl, .slice eam enm ecm] 25)).cell? ⟨wr.heap.size, 0, none⟩ = some (.int .i64 ek) := by rw [cell_of_block nb]; rfl
        have n1 : (wr.alloc (.cells #[.int .i64 ek, .bool eb, .int .i64 ei, .string es, .slice eal enl ecl, .slice eam enm ecm] 25)).cell? ⟨wr.heap.size, 1, none⟩ = some (.bool eb) := by rw [cell_of_block nb]; rfl
        have n2 : (wr.alloc (.cells #[.int .i64 ek, .bool eb, .int .i64 ei, .string es, .slice eal enl ecl, .slice eam enm ecm] 25)).cell? ⟨wr.heap.size, 2, none⟩ = some (.int .i64 ei) := by rw [cell_of_block nb]; rfl
        have n3 : (wr.alloc (.cells #[.int .i64 ek, .bool eb, .int .i64 ei, .string es, .slice eal enl ecl, .slice eam enm ecm] 25)).cell? ⟨wr.heap.size, 3, none⟩ = some (.string es) := by rw [cell_of_block nb]; rfl
        have n4 : (wr.alloc (.cells #[.int .i64 ek, .bool eb, .int .i64 ei, .string es, .slice eal enl ecl, .slice eam enm ecm] 25)).cell? ⟨wr.heap.size, 4, none⟩ = some (.slice eal enl ecl) := by rw [cell_of_block nb]; rfl
        have n5 : (wr.alloc (.cells #[.int .i64 ek, .bool eb, .int .i64 ei, .string es, .slice eal enl ecl, .slice eam enm ecm] 25)).cell? ⟨wr.heap.size, 5, none⟩ = some (.slice eam enm ecm) := by rw [cell_of_block nb]; rfl
        go_wp2_with fail
        refine (HA.out R S _ B bv' P _ (HLW.out _ bA) hS (HL.out _ (Bj.out.trans (bA.mono (Nat.le_refl _)))).2 hB3 (by rw [alloc_size]; omega) oA hpj (by omega) (by (try simp only [List.length_append, List.length_cons, List.length_nil]); omega)).mono ?_
        rintro e w3 ⟨v3, rfl, o3, b3⟩
        have B3 : Below B w w3 := (Bj.out.trans bA).trans b3
        clear n0 n1 n2 n3 n4 n5 q0 q1 q2 q3 q4 q5
        go_wp2_with fail
        go_roundw
        case rel => exact ⟨j + 1, v3, by omega, rfl, by go_num, by rw [HT.out]; exact o3, B3⟩
        case measure => simp [RowKit.intOf]; omega
      · have HT : Hid (bs ++ [(91 : UInt8)] ++ jL l (j + 1) = (P ++ [44]) ++ txtV l[j]) := by show _ = _; rw [← HPP.out, HJ2.out j hjl hj0]; simp
        have y2 : (j : Int) > 0 := by omega
        have y3 : (0 : Int) < j := by omega
        have y4 : 0 < j := by omega
        have y5 : decide (0 < j) = true := by simp; omega
        go_wp2_with (at_builtin; go_loud (refine wpl_appG _ rfl (.tmp 19) (.tmp 20) rfl B _ _ rfl (oA.alloc _) (wr.heap.size + 1) 1 1 [44] rfl rfl _ _ (alloc2_new wr _ _) rfl (by (try simp only [List.length_append, List.length_cons, List.length_nil]); omega) (by rw [alloc_size, alloc_size]; omega) ?_))
        intro v2 w2 o2 b2 g2
        have n2' := (g2.block wr.heap.size (by rw [alloc_size, alloc_size]; omega) (fun e => by have := hlt _ e.symm; omega)).trans ((Below.heap_alloc _ _ _ (by omega)).trans nb)
        have B2 : Below B wr w2 := (bA.alloc (by rw [alloc_size]; omega) _).trans b2
        have hz2 := B2.size
        have n0 : w2.cell? ⟨wr.heap.size, 0, none⟩ = some (.int .i64 ek) := by rw [cell_of_block n2']; rfl
        have n1 : w2.cell? ⟨wr.heap.size, 1, none⟩ = some (.bool eb) := by rw [cell_of_block n2']; rfl
        have n2 : w2.cell? ⟨wr.heap.size, 2, none⟩ = some (.int .i64 ei) := by rw [cell_of_block n2']; rfl
        have n3 : w2.cell? ⟨wr.heap.size, 3, none⟩ = some (.string es) := by rw [cell_of_block n2']; rfl
        have n4 : w2.cell? ⟨wr.heap.size, 4, none⟩ = some (.slice eal enl ecl) := by rw [cell_of_block n2']; rfl
        have n5 : w2.cell? ⟨wr.heap.size, 5, none⟩ = some (.slice eam enm ecm) := by rw [cell_of_block n2']; rfl
        clear b2 g2 n2' nb q0 q1 q2 q3 q4 q5
        go_wp2_with fail
        refine (HA.out R S _ B v2 (P ++ [44]) _ (HLW.out _ B2) hS (HL.out _ (Bj.out.trans B2)).2 hB3 (by omega) o2 hpj (by omega) (by (try simp only [List.length_append, List.length_cons, List.length_nil]); omega)).mono ?_
        rintro e w3 ⟨v3, rfl, o3, b3⟩
        have B3 : Below B w w3 := (Bj.out.trans B2).trans b3
        clear n0 n1 n2 n3 n4 n5
        go_wp2_with fail
        go_roundw
        case rel => exact ⟨j + 1, v3, by omega, rfl, by go_num, by rw [HT.out]; exact o3, B3⟩
        case measure => simp [RowKit.intOf]; omega
    · obtain rfl : j = l.length := by omega
      have y1 : ¬ (l.length : Int) < l.length := by omega
      go_wp2_with (at_builtin; go_loud (refine wpl_appG _ rfl (.tmp 26) (.tmp 27) rfl B _ _ rfl (oj.alloc _) wr.heap.size 1 1 [93] rfl rfl _ _ (heap_alloc_new wr _) rfl (by (try simp only [List.length_append, List.length_cons, List.length_nil]); omega) (by rw [alloc_size]; omega) ?_))
      intro v2 w2 o2 b2 g2
      have B2 : Below B w w2 := (Bj.out.trans ((Below.refl B wr).alloc (by omega) _)).trans b2
      go_wp2_with fail
      go_ret
      rw [HE.out, HPP.out]
      exact ⟨_, rfl, o2, B2⟩
end Go.Proofs.YtpmhdcmmlkjjmaaGreatDoor
