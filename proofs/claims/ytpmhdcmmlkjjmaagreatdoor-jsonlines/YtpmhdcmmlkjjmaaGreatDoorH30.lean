/- joined: TxtL TxtM -/
import Derived.Test.YtpmhdcmmlkjjmaaGreatDoorH29
/- freeholdref03.Text. -/
set_option linter.unusedSimpArgs false
set_option linter.unusedVariables false
namespace Go.Proofs.YtpmhdcmmlkjjmaaGreatDoor
open Go.RowKit Go.Lib
/-- append of bytes that lie in a row of their own -/
theorem wpl_appO {ops : Array Oper} {rest : List Oper} {o : Oper} {a : Act} {Q : Exit → Act → World → Prop} (w : World) (hgd : o.guard = none) (s x : Operand)
    (ho : o.op = .call { callee := .builtin .append, args := #[s, x], argTypes := #[28, 28] }) (B : Nat) (v : Value) (l : List UInt8) (hs : a.eval s = v) (hown : OwnB B v l w)
    (B' : Nat) (u : Value) (new : List UInt8) (hx : a.eval x = u) (hnew : OwnB B' u new w) (h0 : 0 < new.length)
    (hlen : l.length + new.length ≤ 140737488355328) (hbase : B ≤ w.heap.size)
    (h : ∀ v' w', OwnB B v' (l ++ new) w' → Below B w w' → wpList Tryz.prog ops Q rest (a.put o.dst v') w') : wpList Tryz.prog ops Q (o :: rest) a w := by
  obtain ⟨i0, hi, hz0, hz1, hz2⟩ := info_parts info5
  rcases hnew.2 with ⟨rfl, e⟩ | ⟨g, cap, cur, rfl, _⟩
  · omega
  refine wpList_append_own w hgd s x 28 ho B 5 i0 (.int .u8 0) 1 1 Tryz.underlying28 hi hz0 hz1 hz2 rfl (by decide) v l.length (byteCells l) hs hown ⟨g, 0, none⟩ new.length cap (byteCells new) hx
    (by rw [byteCells_length]; omega) (World.ownsRow.cells hnew (g := g) rfl) (bytes_oneCell new) (by unfold maxLen; omega) (by omega) hbase ?_
  intro v' w' h1 h2 _
  refine h v' w' ?_ ((Below.refl B w).grown h2 hbase (fun k hk => (World.ownsRow.lt hown k hk).1))
  show w'.ownsRow B 5 1 v' (l ++ new).length (byteCells (l ++ new))
  have e : byteCells (l ++ new) = byteCells l ++ byteCells new := by simp [byteCells]
  rw [e, List.length_append]
  exact h1
/-- new bytes -/
def TxPost (l : List UInt8) (w : World) (e : Ending) (w' : World) : Prop := ∃ v', e = .returned v' ∧ OwnB w.heap.size v' l w' ∧ Below w.heap.size w w'
theorem own_le {B B' : Nat} {v : Value} {l : List UInt8} {w : World} (h : OwnB B v l w) (hb : B' ≤ B) : OwnB B' v l w := by
  rcases h with ⟨h1, h2⟩
  refine ⟨h1, ?_⟩
  rcases h2 with h | ⟨g, cap, cur, e, q, r⟩
  · exact .inl h
  · exact .inr ⟨g, cap, cur, e, Nat.le_trans hb q, r⟩
/-- what Text does with x -/
def TxV (x : V) : Prop := ∀ (R : Bool) (S : Nat → Prop) (cs : List Value) (w : World), x.lies R w S cs → (∀ b, S b → b < w.heap.size) → prV x → x.wt ≤ 1114112 →
  Calls Tryz.prog 48 #[.agg cs.toArray] w (TxPost (txtV x) w)
theorem txtV_pos : ∀ v : V, 0 < (txtV v).length
  | .mk k b i s l m => by
    rw [txtV]
    split
    · split <;> simp
    split
    · have h : ∀ u, 0 < (decDigits u).length := fun u => by
        rw [decDigits]
        split <;> simp
      rw [itoa]
      split
      · simp
      · exact h _
    split
    · have := Q.qt_length s.data.toList
      omega
    split
    · simp
    split
    · simp
    · simp
set_option maxHeartbeats 4000000 in
set_option maxRecDepth 100000 in
theorem txt_list (l : List V) (ih : ∀ x ∈ l, TxV x) (b : Bool) (i : Int) (s : ByteArray) (R : Bool) (S : Nat → Prop) (al : Option Addr) (cl bl ol : Nat) (am : Option Addr) (nm cm : Nat) (w : World) (hal : Headed al l.length cl bl ol) (hl : liesL R w S l bl ol) (hS : ∀ b, S b → b < w.heap.size) (hp : prL l) (hwt : wtL l ≤ 1114112) :
    Calls Tryz.prog 48 #[.agg #[.int .i64 4, .bool b, .int .i64 i, .string s, .slice al l.length cl, .slice am nm cm]] w (TxPost (91 :: (joinB (txtL l) ++ [93])) w) := by
  have hll := wtL_len l
  have nb := heap_alloc_new w (.cells #[.int .i64 4, .bool b, .int .i64 i, .string s, .slice al l.length cl, .slice am nm cm] 25)
  have hza := alloc_size w (.cells #[.int .i64 4, .bool b, .int .i64 i, .string s, .slice al l.length cl, .slice am nm cm] 25)
  have bA : Below w.heap.size w (w.alloc (.cells #[.int .i64 4, .bool b, .int .i64 i, .string s, .slice al l.length cl, .slice am nm cm] 25)) := (Below.refl _ w).alloc (Nat.le_refl _) _
  have HW : Hid (∀ W, Below (w.heap.size + 1) (w.alloc (.cells #[.int .i64 4, .bool b, .int .i64 i, .string s, .slice al l.length cl, .slice am nm cm] 25)) W → Below w.heap.size w W) := fun W hb => bA.trans (hb.mono (by omega))
  have HL : Hid (∀ W, Below (w.heap.size + 1) (w.alloc (.cells #[.int .i64 4, .bool b, .int .i64 i, .string s, .slice al l.length cl, .slice am nm cm] 25)) W → liesL R W S l bl ol ∧ W.cell? ⟨w.heap.size, 4, none⟩ = some (.slice al l.length cl)) := fun W hb =>
    ⟨liesL_keep (fun h => h) (fun x hx => (HW.out W hb).block x (hS x hx)) (fun _ h => h) _ hl, by rw [cell_of_block ((hb.block _ (by omega)).trans nb)]; rfl⟩
  have HE : Hid (91 :: (joinB (txtL l) ++ [93]) = ([(91 : UInt8)] ++ jL l l.length) ++ [93]) := by show _ = _; rw [jL, List.take_length]; simp
  have HN : Hid (∀ j, (jL l j).length ≤ 40 * wtL l) := fun j => Nat.le_trans (jL_len j hp) (Nat.mul_le_mul_left _ (wtL_take l j))
  have HI : Hid (∀ j (h : j < l.length), TxV l[j] ∧ prV l[j] ∧ (l[j]).wt ≤ wtL l ∧ (txtV l[j]).length ≤ 40 * (l[j]).wt ∧ 0 < (txtV l[j]).length) := fun j h =>
    ⟨ih _ (List.getElem_mem h), prL_mem hp _ (List.getElem_mem h), wtL_mem (List.getElem_mem h), by have := txtV_len _ (prL_mem hp _ (List.getElem_mem h)); omega, txtV_pos _⟩
  have HJ1 : Hid (∀ h : 0 < l.length, jL l 1 = txtV l[0]) := fun h => jL_one h
  have HJ2 : Hid (∀ j (h : j < l.length), j ≠ 0 → jL l (j + 1) = (jL l j ++ [44]) ++ txtV l[j]) := fun j h h0 => jL_more h h0
  have oN : OwnB (w.heap.size + 1) (.slice none 0 0) [] (w.alloc (.cells #[.int .i64 4, .bool b, .int .i64 i, .string s, .slice al l.length cl, .slice am nm cm] 25)) := World.ownsRow_nil _ _ 5 1
  have n0 : (w.alloc (.cells #[.int .i64 4, .bool b, .int .i64 i, .string s, .slice al l.length cl, .slice am nm cm] 25)).cell? ⟨w.heap.size, 0, none⟩ = some (.int .i64 4) := by rw [cell_of_block nb]; rfl
  clear hl
  go_enter Tryz.func48, Tryz.ntmps48
  go_wp2_with (at_builtin; go_loud (refine wpl_appG _ rfl (.tmp 46) (.tmp 47) rfl (w.heap.size + 1) _ _ rfl (oN.alloc _) (w.heap.size + 1) 1 1 [91] rfl rfl _ _ (alloc2_new w _ _) rfl (by (try simp only [List.length_append, List.length_cons, List.length_nil]); omega) (by rw [alloc_size, alloc_size]; omega) ?_))
  intro v1 w1 o1 b1 _
  have B1 : Below (w.heap.size + 1) (w.alloc (.cells #[.int .i64 4, .bool b, .int .i64 i, .string s, .slice al l.length cl, .slice am nm cm] 25)) w1 := ((Below.refl _ _).alloc (by omega) _).trans b1
  clear b1
  go_wp2_with fail
  generalize (w.alloc (.cells #[.int .i64 4, .bool b, .int .i64 i, .string s, .slice al l.length cl, .slice am nm cm] 25)) = w0 at *
  go_loopw [3, 6] (fun e3 e6 wr => ∃ (j : Nat) (bv' : Value), j ≤ l.length ∧ bv' = e3 ∧ e6 = .int .i64 (j : Int) ∧ OwnB (w.heap.size + 1) bv' ([(91 : UInt8)] ++ jL l j) wr ∧ Hid (Below (w.heap.size + 1) w0 wr)) (fun _ e _ => l.length - (RowKit.intOf e).toNat)
  case atStart => exact ⟨0, _, by omega, rfl, rfl, by rw [jL_zero, List.append_nil]; exact o1, B1⟩
  case round =>
    clear o1 B1 n0
    obtain ⟨j, bv', hj, rfl, rfl, oj, Bj⟩ := hrel
    have hnj := HN.out j
    obtain ⟨P, hP⟩ : ∃ P, [(91 : UInt8)] ++ jL l j = P := ⟨_, rfl⟩
    have HPP : Hid ([(91 : UInt8)] ++ jL l j = P) := hP
    have hPl : P.length = 1 + (jL l j).length := by rw [← hP]; simp only [List.length_append, List.length_cons, List.length_nil]
    rw [hP] at oj
    clear hP
    have hzr := Bj.out.size
    have d4 := (HL.out wr Bj.out).2
    by_cases hjl : j < l.length
    · have y1 : (j : Int) < l.length := by omega
      obtain rfl : al = some ⟨bl, ol, none⟩ := hal.at_.resolve_left (by omega)
      obtain ⟨hA, hpj, hwj, htj, hpos⟩ := HI.out j hjl
      have HT1 : Hid (∀ h : j = 0, [(91 : UInt8)] ++ jL l (j + 1) = P ++ txtV l[j]) := fun h => by
        rw [← HPP.out]; subst h; rw [HJ1.out hjl, jL_zero]; simp
      have HT2 : Hid (∀ h : j ≠ 0, [(91 : UInt8)] ++ jL l (j + 1) = (P ++ [44]) ++ txtV l[j]) := fun h => by
        rw [← HPP.out, HJ2.out j hjl h]; simp
      obtain ⟨_, csj, hrow, hlj0⟩ := liesL_get (HL.out wr Bj.out).1 j hjl
      obtain ⟨ek, eb, ei, es, eal, enl, ecl, eam, enm, ecm, rfl⟩ := V.ten hlj0
      have hSbl : S bl := (liesL_get (HL.out wr Bj.out).1 j hjl).1
      have HR : Hid (∀ W, Below (w.heap.size + 1) wr W → W.cell? ⟨w.heap.size, 4, none⟩ = some (.slice (some ⟨bl, ol, none⟩) l.length cl) ∧ rowAt W bl (ol + j * 6) [.int .i64 ek, .bool eb, .int .i64 ei, .string es, .slice eal enl ecl, .slice eam enm ecm] ∧ (l[j]).lies R W S [.int .i64 ek, .bool eb, .int .i64 ei, .string es, .slice eal enl ecl, .slice eam enm ecm]) := fun W hb =>
        ⟨(HL.out W (Bj.out.trans hb)).2, hrow.keep (hb.block _ (by have := hS _ hSbl; omega)), V.lies_keep (fun h => h) (fun x hx => hb.block x (by have := hS x hx; omega)) (fun _ h => h) _ hlj0⟩
      obtain ⟨xj, hxj⟩ : ∃ xj, l[j] = xj := ⟨_, rfl⟩
      rw [hxj] at HT1 HT2 hA hpj hwj htj hpos HR
      clear hxj hrow hlj0
      by_cases hj0 : j = 0
      · have HT := HT1.out hj0
        have y2 : ¬ (j : Int) > 0 := by omega
        have y3 : ¬ (0 : Int) < j := by omega
        have y4 : ¬ 0 < j := by omega
        have y5 : decide (0 < j) = false := by simp [hj0]
        clear hj0 HT1 HT2 d4
        have Bs : Below (w.heap.size + 1) wr wr := Below.refl _ _
        obtain ⟨f4, hrj, hlj⟩ := HR.out _ Bs
        obtain ⟨q0, q1, q2, q3, q4, q5⟩ := row6 hrj
        have C := hmk (hA R S _ _ hlj (fun x hx => by have := hS x hx; have := (Bs).size; omega) hpj (by omega))
        clear hrj hlj
        go_wp2_with fail
        refine C.out.mono ?_
        rintro e w3 ⟨v3, rfl, o3, b3⟩
        have hz3 := b3.size
        have p3 := (oj).below b3
        have hzW := (Bs).size
        clear q0 q1 q2 q3 q4 q5 f4 C
        go_wp2_with (at_builtin; go_loud (refine wpl_appO _ rfl (.tmp 67) (.tmp 68) rfl (w.heap.size + 1) _ _ rfl p3 _ v3 (txtV xj) rfl o3 hpos (by (try simp only [List.length_append, List.length_cons, List.length_nil]); omega) (by omega) ?_))
        intro v4 w4 o4 b4
        have B4 := (Bj.out.trans (b3.mono (by omega))).trans b4
        have o4' : OwnB (w.heap.size + 1) v4 ([91] ++ jL l (j + 1)) w4 := by rw [HT]; (try simp only [List.append_assoc] at o4 ⊢); exact o4
        go_wp2_with fail
        go_roundw
        case rel => exact ⟨j + 1, v4, by omega, rfl, by go_num, o4', B4⟩
        case measure => simp [RowKit.intOf]; omega
      · have HT := HT2.out hj0
        have y2 : (j : Int) > 0 := by omega
        have y3 : (0 : Int) < j := by omega
        have y4 : 0 < j := by omega
        have y5 : decide (0 < j) = true := by simp; omega
        clear HT1 HT2
        go_wp2_with (at_builtin; go_loud (refine wpl_appG _ rfl (.tmp 58) (.tmp 59) rfl (w.heap.size + 1) _ _ rfl (oj.alloc _) wr.heap.size 1 1 [44] rfl rfl _ _ (heap_alloc_new wr _) rfl (by (try simp only [List.length_append, List.length_cons, List.length_nil]); omega) (by rw [alloc_size]; omega) ?_))
        intro v2 w2 o2 b2 _
        have B2 : Below (w.heap.size + 1) wr w2 := ((Below.refl _ wr).alloc (by omega) _).trans b2
        have hz2 := B2.size
        clear b2 d4
        obtain ⟨f4, hrj, hlj⟩ := HR.out _ B2
        obtain ⟨q0, q1, q2, q3, q4, q5⟩ := row6 hrj
        have C := hmk (hA R S _ _ hlj (fun x hx => by have := hS x hx; have := (B2).size; omega) hpj (by omega))
        clear hrj hlj
        go_wp2_with fail
        refine C.out.mono ?_
        rintro e w3 ⟨v3, rfl, o3, b3⟩
        have hz3 := b3.size
        have p3 := (o2).below b3
        have hzW := (B2).size
        clear q0 q1 q2 q3 q4 q5 f4 C
        go_wp2_with (at_builtin; go_loud (refine wpl_appO _ rfl (.tmp 67) (.tmp 68) rfl (w.heap.size + 1) _ _ rfl p3 _ v3 (txtV xj) rfl o3 hpos (by (try simp only [List.length_append, List.length_cons, List.length_nil]); omega) (by omega) ?_))
        intro v4 w4 o4 b4
        have B4 := ((Bj.out.trans B2).trans (b3.mono (by omega))).trans b4
        have o4' : OwnB (w.heap.size + 1) v4 ([91] ++ jL l (j + 1)) w4 := by rw [HT]; (try simp only [List.append_assoc] at o4 ⊢); exact o4
        go_wp2_with fail
        go_roundw
        case rel => exact ⟨j + 1, v4, by omega, rfl, by go_num, o4', B4⟩
        case measure => simp [RowKit.intOf]; omega
    · obtain rfl : j = l.length := by omega
      have y1 : ¬ (l.length : Int) < l.length := by omega
      go_wp2_with (at_builtin; go_loud (refine wpl_appG _ rfl (.tmp 70) (.tmp 71) rfl (w.heap.size + 1) _ _ rfl (oj.alloc _) wr.heap.size 1 1 [93] rfl rfl _ _ (heap_alloc_new wr _) rfl (by (try simp only [List.length_append, List.length_cons, List.length_nil]); omega) (by rw [alloc_size]; omega) ?_))
      intro v2 w2 o2 b2 _
      have B2 := (Bj.out.trans ((Below.refl _ wr).alloc (by omega) _)).trans b2
      go_wp2_with fail
      go_ret
      rw [HE.out, HPP.out]
      exact ⟨_, rfl, own_le o2 (by omega), HW.out _ B2⟩
end Go.Proofs.YtpmhdcmmlkjjmaaGreatDoor
/- freeholdref03.Text, of maps. -/
namespace Go.Proofs.YtpmhdcmmlkjjmaaGreatDoor
open Go.RowKit Go.Lib
set_option maxHeartbeats 4000000 in
set_option maxRecDepth 100000 in
theorem txt_map (l : List Mem) (ih : ∀ x ∈ l, TxV x.2) (b : Bool) (i : Int) (s : ByteArray) (R : Bool) (S : Nat → Prop) (al : Option Addr) (nl cl : Nat) (am : Option Addr) (cm bm om : Nat) (w : World) (ham : Headed am l.length cm bm om) (hl : liesM R w S l bm om) (hS : ∀ b, S b → b < w.heap.size) (hp : prM l) (hwt : wtM l ≤ 1114112) :
    Calls Tryz.prog 48 #[.agg #[.int .i64 5, .bool b, .int .i64 i, .string s, .slice al nl cl, .slice am l.length cm]] w (TxPost (123 :: (joinB (txtM l) ++ [125])) w) := by
  have hll := wtM_len l
  have nb := heap_alloc_new w (.cells #[.int .i64 5, .bool b, .int .i64 i, .string s, .slice al nl cl, .slice am l.length cm] 25)
  have hza := alloc_size w (.cells #[.int .i64 5, .bool b, .int .i64 i, .string s, .slice al nl cl, .slice am l.length cm] 25)
  have bA : Below w.heap.size w (w.alloc (.cells #[.int .i64 5, .bool b, .int .i64 i, .string s, .slice al nl cl, .slice am l.length cm] 25)) := (Below.refl _ w).alloc (Nat.le_refl _) _
  have HW : Hid (∀ W, Below (w.heap.size + 1) (w.alloc (.cells #[.int .i64 5, .bool b, .int .i64 i, .string s, .slice al nl cl, .slice am l.length cm] 25)) W → Below w.heap.size w W) := fun W hb => bA.trans (hb.mono (by omega))
  have HL : Hid (∀ W, Below (w.heap.size + 1) (w.alloc (.cells #[.int .i64 5, .bool b, .int .i64 i, .string s, .slice al nl cl, .slice am l.length cm] 25)) W → liesM R W S l bm om ∧ W.cell? ⟨w.heap.size, 5, none⟩ = some (.slice am l.length cm)) := fun W hb =>
    ⟨liesM_keep (fun h => h) (fun x hx => (HW.out W hb).block x (hS x hx)) (fun _ h => h) _ hl, by rw [cell_of_block ((hb.block _ (by omega)).trans nb)]; rfl⟩
  have HE : Hid (123 :: (joinB (txtM l) ++ [125]) = ([(123 : UInt8)] ++ jM l l.length) ++ [125]) := by show _ = _; rw [jM, List.take_length]; simp
  have HN : Hid (∀ j, (jM l j).length ≤ 40 * wtM l) := fun j => Nat.le_trans (jM_len j hp) (Nat.mul_le_mul_left _ (wtM_take l j))
  have HI : Hid (∀ j (h : j < l.length), TxV (l[j]).2 ∧ prV (l[j]).2 ∧ validD (l[j]).1.data.toList = true ∧ (l[j]).1.size ≤ 1048576 ∧ (l[j]).2.wt ≤ wtM l ∧ (txtV (l[j]).2).length ≤ 40 * (l[j]).2.wt ∧ 0 < (txtV (l[j]).2).length ∧ (Q.qt (l[j]).1.data.toList).length ≤ 2 + 6 * (l[j]).1.size) := fun j h => by
    have hm := prM_mem hp _ (List.getElem_mem h)
    exact ⟨ih _ (List.getElem_mem h), hm.2, hm.1.1, hm.1.2, (by have := wtM_mem (List.getElem_mem h); omega), by have := txtV_len _ hm.2; omega, txtV_pos _, qt_len _⟩
  have HJ1 : Hid (∀ h : 0 < l.length, jM l 1 = txtE l[0]) := fun h => jM_one h
  have HJ2 : Hid (∀ j (h : j < l.length), j ≠ 0 → jM l (j + 1) = (jM l j ++ [44]) ++ txtE l[j]) := fun j h h0 => jM_more h h0
  have oN : OwnB (w.heap.size + 1) (.slice none 0 0) [] (w.alloc (.cells #[.int .i64 5, .bool b, .int .i64 i, .string s, .slice al nl cl, .slice am l.length cm] 25)) := World.ownsRow_nil _ _ 5 1
  have n0 : (w.alloc (.cells #[.int .i64 5, .bool b, .int .i64 i, .string s, .slice al nl cl, .slice am l.length cm] 25)).cell? ⟨w.heap.size, 0, none⟩ = some (.int .i64 5) := by rw [cell_of_block nb]; rfl
  clear hl
  go_enter Tryz.func48, Tryz.ntmps48
  go_wp2_with (at_builtin; go_loud (refine wpl_appG _ rfl (.tmp 73) (.tmp 74) rfl (w.heap.size + 1) _ _ rfl (oN.alloc _) (w.heap.size + 1) 1 1 [123] rfl rfl _ _ (alloc2_new w _ _) rfl (by (try simp only [List.length_append, List.length_cons, List.length_nil]); omega) (by rw [alloc_size, alloc_size]; omega) ?_))
  intro v1 w1 o1 b1 _
  have B1 : Below (w.heap.size + 1) (w.alloc (.cells #[.int .i64 5, .bool b, .int .i64 i, .string s, .slice al nl cl, .slice am l.length cm] 25)) w1 := ((Below.refl _ _).alloc (by omega) _).trans b1
  clear b1
  go_wp2_with fail
  generalize (w.alloc (.cells #[.int .i64 5, .bool b, .int .i64 i, .string s, .slice al nl cl, .slice am l.length cm] 25)) = w0 at *
  go_loopw [3, 8] (fun e3 e8 wr => ∃ (j : Nat) (bv' : Value), j ≤ l.length ∧ bv' = e3 ∧ e8 = .int .i64 (j : Int) ∧ OwnB (w.heap.size + 1) bv' ([(123 : UInt8)] ++ jM l j) wr ∧ Hid (Below (w.heap.size + 1) w0 wr)) (fun _ e _ => l.length - (RowKit.intOf e).toNat)
  case atStart => exact ⟨0, _, by omega, rfl, rfl, by rw [jM_zero, List.append_nil]; exact o1, B1⟩
  case round =>
    clear o1 B1 n0
    obtain ⟨j, bv', hj, rfl, rfl, oj, Bj⟩ := hrel
    have hnj := HN.out j
    obtain ⟨P, hP⟩ : ∃ P, [(123 : UInt8)] ++ jM l j = P := ⟨_, rfl⟩
    have HPP : Hid ([(123 : UInt8)] ++ jM l j = P) := hP
    have hPl : P.length = 1 + (jM l j).length := by rw [← hP]; simp only [List.length_append, List.length_cons, List.length_nil]
    rw [hP] at oj
    clear hP
    have hzr := Bj.out.size
    have d4 := (HL.out wr Bj.out).2
    by_cases hjl : j < l.length
    · have y1 : (j : Int) < l.length := by omega
      obtain rfl : am = some ⟨bm, om, none⟩ := ham.at_.resolve_left (by omega)
      obtain ⟨hA, hpj, hvk, hks, hwj, htj, hpos, hql⟩ := HI.out j hjl
      have HT1 : Hid (∀ h : j = 0, [(123 : UInt8)] ++ jM l (j + 1) = ((P ++ Q.qt (l[j]).1.data.toList) ++ [58]) ++ txtV (l[j]).2) := fun h => by
        rw [← HPP.out]; subst h; rw [HJ1.out hjl, jM_zero, txtE]; simp
      have HT2 : Hid (∀ h : j ≠ 0, [(123 : UInt8)] ++ jM l (j + 1) = (((P ++ [44]) ++ Q.qt (l[j]).1.data.toList) ++ [58]) ++ txtV (l[j]).2) := fun h => by
        rw [← HPP.out, HJ2.out j hjl h, txtE]; simp
      obtain ⟨hSbl, hkm, csj, hrow, hlj0⟩ := liesM_get (HL.out wr Bj.out).1 j hjl
      obtain ⟨ek, eb, ei, es, eal, enl, ecl, eam, enm, ecm, rfl⟩ := V.ten hlj0
      obtain ⟨kj, hkj⟩ : ∃ kj, (l[j]).1 = kj := ⟨_, rfl⟩
      obtain ⟨xj, hxj⟩ : ∃ xj, (l[j]).2 = xj := ⟨_, rfl⟩
      rw [hkj] at hrow
      rw [hxj] at hlj0
      have HR : Hid (∀ W, Below (w.heap.size + 1) wr W → W.cell? ⟨w.heap.size, 5, none⟩ = some (.slice (some ⟨bm, om, none⟩) l.length cm) ∧ rowAt W bm (om + j * 7) (.string kj :: [.int .i64 ek, .bool eb, .int .i64 ei, .string es, .slice eal enl ecl, .slice eam enm ecm]) ∧ xj.lies R W S [.int .i64 ek, .bool eb, .int .i64 ei, .string es, .slice eal enl ecl, .slice eam enm ecm]) := fun W hb =>
        ⟨(HL.out W (Bj.out.trans hb)).2, hrow.keep (hb.block _ (by have := hS _ hSbl; omega)), V.lies_keep (fun h => h) (fun x hx => hb.block x (by have := hS x hx; omega)) (fun _ h => h) _ hlj0⟩
      rw [hkj, hxj] at HT1 HT2
      rw [hkj] at hvk hks hql
      rw [hxj] at hA hpj hwj htj hpos
      have hq2 : (⟨(Q.qt kj.data.toList).toArray⟩ : ByteArray).size ≤ 6291458 := by show (Q.qt kj.data.toList).toArray.size ≤ _; rw [List.size_toArray]; omega
      have HQ : Hid (∀ W, Calls Tryz.prog 72 #[.string kj] W fun e w' => e = .returned (.tuple #[.string ⟨(Q.qt kj.data.toList).toArray⟩, .int .i64 0]) ∧ Below W.heap.size W w') := fun W => refQuote_good kj W (by omega) hvk
      obtain ⟨K, hK⟩ : ∃ K, Q.qt kj.data.toList = K := ⟨_, rfl⟩
      rw [hK] at HT1 HT2 hql hq2 HQ
      have HD : Hid ((⟨K.toArray⟩ : ByteArray).data.toList = K) := hmk rfl
      generalize (⟨K.toArray⟩ : ByteArray) = qs at *
      clear hxj hkj hK hrow hlj0
      by_cases hj0 : j = 0
      · have HT := HT1.out hj0
        have y2 : ¬ (j : Int) > 0 := by omega
        have y3 : ¬ (0 : Int) < j := by omega
        have y4 : ¬ 0 < j := by omega
        have y5 : decide (0 < j) = false := by simp [hj0]
        clear hj0 HT1 HT2 d4
        have Bs : Below (w.heap.size + 1) wr wr := Below.refl _ _
        obtain ⟨f5, hrj, hlj⟩ := HR.out _ Bs
        obtain ⟨q, q0, q1, q2, q3, q4, q5⟩ := row7 hrj
        clear hrj hlj
        go_wp2_with fail
        refine (HQ.out _).mono ?_
        rintro e w3 ⟨rfl, b3⟩
        have hz3 := b3.size
        have hzW := (Bs).size
        have p3 := (oj).below b3
        clear q q0 q1 q2 q3 q4 q5 f5
        go_wp2_with (at_builtin; go_loud (refine wpl_str _ rfl (.tmp 98) (.tmp 99) rfl (w.heap.size + 1) _ _ rfl p3 qs rfl (by (try simp only [List.length_append, List.length_cons, List.length_nil]); omega) (by omega) ?_))
        intro v4 w4 o4 b4
        rw [HD.out] at o4
        have B4 : Below (w.heap.size + 1) wr w4 := ((Bs).trans (b3.mono (by omega))).trans b4
        have hz4 := B4.size
        clear b4 b3 p3
        go_wp2_with (at_builtin; go_loud (refine wpl_appG _ rfl (.tmp 101) (.tmp 102) rfl (w.heap.size + 1) _ _ rfl (o4.alloc _) w4.heap.size 1 1 [58] rfl rfl _ _ (heap_alloc_new w4 _) rfl (by (try simp only [List.length_append, List.length_cons, List.length_nil]); omega) (by rw [alloc_size]; omega) ?_))
        intro v5 w5 o5 b5 _
        have B5 : Below (w.heap.size + 1) wr w5 := (B4.alloc (by omega) _).trans b5
        have hz5 := B5.size
        have o5' : OwnB (w.heap.size + 1) v5 (((P) ++ K) ++ [58]) w5 := by (try simp only [List.append_assoc] at o5 ⊢); exact o5
        clear b5 B4 o4 o5
        obtain ⟨f5, hrj, hlj⟩ := HR.out _ B5
        obtain ⟨q, q0, q1, q2, q3, q4, q5⟩ := row7 hrj
        have C := hmk (hA R S _ _ hlj (fun x hx => by have := hS x hx; omega) hpj (by omega))
        clear hrj hlj
        go_wp2_with fail
        refine C.out.mono ?_
        rintro e w6 ⟨v6, rfl, o6, b6⟩
        have hz6 := b6.size
        have p6 := o5'.below b6
        clear q q0 q1 q2 q3 q4 q5 f5 C
        go_wp2_with (at_builtin; go_loud (refine wpl_appO _ rfl (.tmp 111) (.tmp 112) rfl (w.heap.size + 1) _ _ rfl p6 _ v6 (txtV xj) rfl o6 hpos (by (try simp only [List.length_append, List.length_cons, List.length_nil]); omega) (by omega) ?_))
        intro v7 w7 o7 b7
        have B7 := ((Bj.out.trans B5).trans (b6.mono (by omega))).trans b7
        have o7' : OwnB (w.heap.size + 1) v7 ([123] ++ jM l (j + 1)) w7 := by rw [HT]; (try simp only [List.append_assoc] at o7 ⊢); exact o7
        go_wp2_with fail
        go_roundw
        case rel => exact ⟨j + 1, v7, by omega, rfl, by go_num, o7', B7⟩
        case measure => simp [RowKit.intOf]; omega
      · have HT := HT2.out hj0
        have y2 : (j : Int) > 0 := by omega
        have y3 : (0 : Int) < j := by omega
        have y4 : 0 < j := by omega
        have y5 : decide (0 < j) = true := by simp; omega
        clear HT1 HT2
        go_wp2_with (at_builtin; go_loud (refine wpl_appG _ rfl (.tmp 85) (.tmp 86) rfl (w.heap.size + 1) _ _ rfl (oj.alloc _) wr.heap.size 1 1 [44] rfl rfl _ _ (heap_alloc_new wr _) rfl (by (try simp only [List.length_append, List.length_cons, List.length_nil]); omega) (by rw [alloc_size]; omega) ?_))
        intro v2 w2 o2 b2 _
        have B2 : Below (w.heap.size + 1) wr w2 := ((Below.refl _ wr).alloc (by omega) _).trans b2
        have hz2 := B2.size
        clear b2 d4
        obtain ⟨f5, hrj, hlj⟩ := HR.out _ B2
        obtain ⟨q, q0, q1, q2, q3, q4, q5⟩ := row7 hrj
        clear hrj hlj
        go_wp2_with fail
        refine (HQ.out _).mono ?_
        rintro e w3 ⟨rfl, b3⟩
        have hz3 := b3.size
        have hzW := (B2).size
        have p3 := (o2).below b3
        clear q q0 q1 q2 q3 q4 q5 f5
        go_wp2_with (at_builtin; go_loud (refine wpl_str _ rfl (.tmp 98) (.tmp 99) rfl (w.heap.size + 1) _ _ rfl p3 qs rfl (by (try simp only [List.length_append, List.length_cons, List.length_nil]); omega) (by omega) ?_))
        intro v4 w4 o4 b4
        rw [HD.out] at o4
        have B4 : Below (w.heap.size + 1) wr w4 := ((B2).trans (b3.mono (by omega))).trans b4
        have hz4 := B4.size
        clear b4 b3 p3
        go_wp2_with (at_builtin; go_loud (refine wpl_appG _ rfl (.tmp 101) (.tmp 102) rfl (w.heap.size + 1) _ _ rfl (o4.alloc _) w4.heap.size 1 1 [58] rfl rfl _ _ (heap_alloc_new w4 _) rfl (by (try simp only [List.length_append, List.length_cons, List.length_nil]); omega) (by rw [alloc_size]; omega) ?_))
        intro v5 w5 o5 b5 _
        have B5 : Below (w.heap.size + 1) wr w5 := (B4.alloc (by omega) _).trans b5
        have hz5 := B5.size
        have o5' : OwnB (w.heap.size + 1) v5 (((P ++ [44]) ++ K) ++ [58]) w5 := by (try simp only [List.append_assoc] at o5 ⊢); exact o5
        clear b5 B4 o4 o5
        obtain ⟨f5, hrj, hlj⟩ := HR.out _ B5
        obtain ⟨q, q0, q1, q2, q3, q4, q5⟩ := row7 hrj
        have C := hmk (hA R S _ _ hlj (fun x hx => by have := hS x hx; omega) hpj (by omega))
        clear hrj hlj
        go_wp2_with fail
        refine C.out.mono ?_
        rintro e w6 ⟨v6, rfl, o6, b6⟩
        have hz6 := b6.size
        have p6 := o5'.below b6
        clear q q0 q1 q2 q3 q4 q5 f5 C
        go_wp2_with (at_builtin; go_loud (refine wpl_appO _ rfl (.tmp 111) (.tmp 112) rfl (w.heap.size + 1) _ _ rfl p6 _ v6 (txtV xj) rfl o6 hpos (by (try simp only [List.length_append, List.length_cons, List.length_nil]); omega) (by omega) ?_))
        intro v7 w7 o7 b7
        have B7 := ((Bj.out.trans B5).trans (b6.mono (by omega))).trans b7
        have o7' : OwnB (w.heap.size + 1) v7 ([123] ++ jM l (j + 1)) w7 := by rw [HT]; (try simp only [List.append_assoc] at o7 ⊢); exact o7
        go_wp2_with fail
        go_roundw
        case rel => exact ⟨j + 1, v7, by omega, rfl, by go_num, o7', B7⟩
        case measure => simp [RowKit.intOf]; omega
    · obtain rfl : j = l.length := by omega
      have y1 : ¬ (l.length : Int) < l.length := by omega
      go_wp2_with (at_builtin; go_loud (refine wpl_appG _ rfl (.tmp 114) (.tmp 115) rfl (w.heap.size + 1) _ _ rfl (oj.alloc _) wr.heap.size 1 1 [125] rfl rfl _ _ (heap_alloc_new wr _) rfl (by (try simp only [List.length_append, List.length_cons, List.length_nil]); omega) (by rw [alloc_size]; omega) ?_))
      intro v2 w2 o2 b2 _
      have B2 := (Bj.out.trans ((Below.refl _ wr).alloc (by omega) _)).trans b2
      go_wp2_with fail
      go_ret
      rw [HE.out, HPP.out]
      exact ⟨_, rfl, own_le o2 (by omega), HW.out _ B2⟩
end Go.Proofs.YtpmhdcmmlkjjmaaGreatDoor
