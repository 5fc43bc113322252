/- joined: JpsG TxtL -/
import Derived.Test.YtpmhdcmmlkjjmaaGreatDoorG43
/- strconv.AppendBool; json.appendValue. -/
set_option linter.unusedSimpArgs false
set_option linter.unusedVariables false
namespace Go.Proofs.YtpmhdcmmlkjjmaaGreatDoor
open Go.RowKit Go.Lib
set_option maxHeartbeats 1000000 in
set_option maxRecDepth 100000 in
theorem appbool26 (b : Bool) (B : Nat) (bv : Value) (bs : List UInt8) (w : World) (hBw : B ≤ w.heap.size) (ho : OwnB B bv bs w) (hlen : bs.length ≤ 1000000000) :
    Calls Tryz.prog 56 #[bv, .bool b] w (ApPost B (bs ++ (if b = true then [116, 114, 117, 101] else [102, 97, 108, 115, 101])) w) := by
  cases b
  · go_enter Tryz.func56, Tryz.ntmps56
    go_wp2_with (at_builtin; go_loud (refine wpl_str _ rfl (.tmp 8) _ rfl B bv bs rfl ho ⟨#[102, 97, 108, 115, 101]⟩ rfl (by (try show _ + 5 ≤ _); omega) (by omega) ?_))
    intro v' w2 o2 b2
    go_wp2_with fail
    go_ret
    exact ⟨_, rfl, o2, b2⟩
  · go_enter Tryz.func56, Tryz.ntmps56
    go_wp2_with (at_builtin; go_loud (refine wpl_str _ rfl (.tmp 6) _ rfl B bv bs rfl ho ⟨#[116, 114, 117, 101]⟩ rfl (by (try show _ + 4 ≤ _); omega) (by omega) ?_))
    intro v' w2 o2 b2
    go_wp2_with fail
    go_ret
    exact ⟨_, rfl, o2, b2⟩
set_option maxHeartbeats 1000000 in
set_option maxRecDepth 100000 in
theorem appbool_any (b : Bool) (B : Nat) (bv : Value) (bs : List UInt8) (w : World) (hBw : B ≤ w.heap.size) (ho : OwnB B bv bs w) (hlen : bs.length ≤ 1000000000) :
    Calls Tryz.prog 38 #[bv, .bool b] w (ApPost B (bs ++ (if b = true then [116, 114, 117, 101] else [102, 97, 108, 115, 101])) w) := by
  have c := appbool26 b B bv bs w hBw ho hlen
  generalize (if b = true then ([116, 114, 117, 101] : List UInt8) else [102, 97, 108, 115, 101]) = T at *
  obtain ⟨bw, hbw⟩ : ∃ bw, Value.bool b = bw := ⟨_, rfl⟩
  rw [hbw] at c ⊢
  clear hbw
  go_enter Tryz.func38, Tryz.ntmps38
  go_wp2_with fail
  refine c.mono ?_
  rintro e w1 ⟨v1, rfl, h⟩
  go_wp2_with fail
  go_ret
  exact ⟨_, rfl, h⟩
set_option maxHeartbeats 4000000 in
set_option maxRecDepth 100000 in
theorem appval_any : ∀ x : V, AppV x := by
  refine V.ind_v ?_
  intro k b i s l m ihl ihm R S cs B bv bs w hx hS td hB3 hBw ho hp hwt hlen
  rw [V.lies] at hx
  obtain ⟨al, cl, bl, ol, am, cm, bm, om, rfl, hk, hi, hs, hal, ham, hl, hm, _⟩ := hx
  rw [prV] at hp
  obtain ⟨⟨hi64, hs6, _⟩, hv, hpl, hpm⟩ := hp
  rw [V.wt] at hwt hlen
  have nb := heap_alloc_new w (.cells #[.int .i64 k, .bool b, .int .i64 i, .string s, .slice al l.length cl, .slice am m.length cm] 25)
  have hza := alloc_size w (.cells #[.int .i64 k, .bool b, .int .i64 i, .string s, .slice al l.length cl, .slice am m.length cm] 25)
  have bA : Below B w (w.alloc (.cells #[.int .i64 k, .bool b, .int .i64 i, .string s, .slice al l.length cl, .slice am m.length cm] 25)) := (Below.refl B w).alloc (by omega) _
  have oA := ho.alloc (.cells #[.int .i64 k, .bool b, .int .i64 i, .string s, .slice al l.length cl, .slice am m.length cm] 25)
  have tA := td.below bA hB3 bA.size
  have hL : liesL R (w.alloc (.cells #[.int .i64 k, .bool b, .int .i64 i, .string s, .slice al l.length cl, .slice am m.length cm] 25)) S l bl ol := liesL_keep (fun h => h) (fun x hx => bA.block x (hS x hx)) (fun _ h => h) _ hl
  have hM : liesM R (w.alloc (.cells #[.int .i64 k, .bool b, .int .i64 i, .string s, .slice al l.length cl, .slice am m.length cm] 25)) S m bm om := liesM_keep (fun h => h) (fun x hx => bA.block x (hS x hx)) (fun _ h => h) _ hm
  have CB := hmk (appbool_any b B bv bs _ (by omega) oA (by omega))
  have CI := hmk (appint_any i hi64 B bv bs _ tA hB3 (by omega) oA (by omega))
  have CS := hmk (appstr_any s B bv bs _ tA (by omega) oA hs6 hv (by omega))
  have CL := hmk (applist_any l ihl R S al cl bl ol B bv bs _ hal hL hS tA hB3 (by omega) oA hpl (by omega) (by omega))
  have CM := hmk (appmap_any m ihm R S am cm bm om B bv bs _ ham hM hS tA hB3 (by omega) oA hpm (by omega) (by omega))
  have n0 : (w.alloc (.cells #[.int .i64 k, .bool b, .int .i64 i, .string s, .slice al l.length cl, .slice am m.length cm] 25)).cell? ⟨w.heap.size, 0, none⟩ = some (.int .i64 k) := by rw [cell_of_block nb]; rfl
  have n1 : (w.alloc (.cells #[.int .i64 k, .bool b, .int .i64 i, .string s, .slice al l.length cl, .slice am m.length cm] 25)).cell? ⟨w.heap.size, 1, none⟩ = some (.bool b) := by rw [cell_of_block nb]; rfl
  have n2 : (w.alloc (.cells #[.int .i64 k, .bool b, .int .i64 i, .string s, .slice al l.length cl, .slice am m.length cm] 25)).cell? ⟨w.heap.size, 2, none⟩ = some (.int .i64 i) := by rw [cell_of_block nb]; rfl
  have n3 : (w.alloc (.cells #[.int .i64 k, .bool b, .int .i64 i, .string s, .slice al l.length cl, .slice am m.length cm] 25)).cell? ⟨w.heap.size, 3, none⟩ = some (.string s) := by rw [cell_of_block nb]; rfl
  have n4 : (w.alloc (.cells #[.int .i64 k, .bool b, .int .i64 i, .string s, .slice al l.length cl, .slice am m.length cm] 25)).cell? ⟨w.heap.size, 4, none⟩ = some (.slice al l.length cl) := by rw [cell_of_block nb]; rfl
  have n5 : (w.alloc (.cells #[.int .i64 k, .bool b, .int .i64 i, .string s, .slice al l.length cl, .slice am m.length cm] 25)).cell? ⟨w.heap.size, 5, none⟩ = some (.slice am m.length cm) := by rw [cell_of_block nb]; rfl
  have HT : Hid (txtV (.mk k b i s l m) = if k = 1 then (if b = true then [116, 114, 117, 101] else [102, 97, 108, 115, 101])
    else if k = 2 then itoa i
    else if k = 3 then Q.qt s.data.toList
    else if k = 4 then 91 :: (joinB (txtL l) ++ [93])
    else if k = 5 then 123 :: (joinB (txtM m) ++ [125])
    else [110, 117, 108, 108]) := hmk (by rw [txtV])
  generalize txtV (.mk k b i s l m) = T at *
  clear hl hm hL hM ihl ihm hk hi hs hal ham hpl hpm hv td tA
  by_cases k1 : k = 1
  · have e : T = (if b = true then [116, 114, 117, 101] else [102, 97, 108, 115, 101]) := HT.out.trans (by rw [if_pos k1])
    rw [← e] at CB
    subst k1
    clear HT e CI CS CL CM
    go_enter Tryz.func27, Tryz.ntmps27
    go_wp2_with fail
    refine CB.out.mono ?_
    rintro e w1 ⟨v1, rfl, o1, b1⟩
    go_wp2_with fail
    go_ret
    exact ⟨_, rfl, o1, bA.trans b1⟩
  by_cases k2 : k = 2
  · have e : T = itoa i := HT.out.trans (by rw [if_neg k1, if_pos k2])
    rw [← e] at CI
    subst k2
    clear HT e CB CS CL CM
    go_enter Tryz.func27, Tryz.ntmps27
    go_wp2_with fail
    refine CI.out.mono ?_
    rintro e w1 ⟨v1, rfl, o1, b1⟩
    go_wp2_with fail
    go_ret
    exact ⟨_, rfl, o1, bA.trans b1⟩
  by_cases k3 : k = 3
  · have e : T = Q.qt s.data.toList := HT.out.trans (by rw [if_neg k1, if_neg k2, if_pos k3])
    rw [← e] at CS
    subst k3
    clear HT e CB CI CL CM
    go_enter Tryz.func27, Tryz.ntmps27
    go_wp2_with fail
    refine CS.out.mono ?_
    rintro e w1 ⟨v1, rfl, o1, b1⟩
    go_wp2_with fail
    go_ret
    exact ⟨_, rfl, o1, bA.trans b1⟩
  by_cases k4 : k = 4
  · have e : T = 91 :: (joinB (txtL l) ++ [93]) := HT.out.trans (by rw [if_neg k1, if_neg k2, if_neg k3, if_pos k4])
    rw [← e] at CL
    subst k4
    clear HT e CB CI CS CM
    go_enter Tryz.func27, Tryz.ntmps27
    go_wp2_with fail
    refine CL.out.mono ?_
    rintro e w1 ⟨v1, rfl, o1, b1⟩
    go_wp2_with fail
    go_ret
    exact ⟨_, rfl, o1, bA.trans b1⟩
  by_cases k5 : k = 5
  · have e : T = 123 :: (joinB (txtM m) ++ [125]) := HT.out.trans (by rw [if_neg k1, if_neg k2, if_neg k3, if_neg k4, if_pos k5])
    rw [← e] at CM
    subst k5
    clear HT e CB CI CS CL
    go_enter Tryz.func27, Tryz.ntmps27
    go_wp2_with fail
    refine CM.out.mono ?_
    rintro e w1 ⟨v1, rfl, o1, b1⟩
    go_wp2_with fail
    go_ret
    exact ⟨_, rfl, o1, bA.trans b1⟩
  · have e : T = [110, 117, 108, 108] := by rw [HT.out, if_neg k1, if_neg k2, if_neg k3, if_neg k4, if_neg k5]
    subst e
    clear HT CB CI CS CL CM
    go_enter Tryz.func27, Tryz.ntmps27
    go_wp2_with (at_builtin; go_loud (refine wpl_str _ rfl (.tmp 37) _ rfl B bv bs rfl oA ⟨#[110, 117, 108, 108]⟩ rfl (by (try show _ + 4 ≤ _); omega) (by omega) ?_))
    intro v' w2 o2 b2
    go_wp2_with fail
    go_ret
    exact ⟨_, rfl, o2, bA.trans b2⟩
end Go.Proofs.YtpmhdcmmlkjjmaaGreatDoor
/- freeholdref03.Text. -/
namespace Go.Proofs.YtpmhdcmmlkjjmaaGreatDoor
open Go.RowKit Go.Lib
/-- append of bytes that lie in a row of their own -/
theorem wpl_appO {ops : Array Oper} {rest : List Oper} {o : Oper} {a : Act} {Q : Exit → Act → World → Prop} (w : World) (hgd : o.guard = none) (s x : Operand)
    (ho : o.op = .call { callee := .builtin .append, args := #[s, x], argTypes := #[28, 28] }) (B : Nat) (v : Value) (l : List UInt8) (hs : a.eval s = v) (hown : OwnB B v l w)
    (B' : Nat) (u : Value) (new : List UInt8) (hx : a.eval x = u) (hnew : OwnB B' u new w) (h0 : 0 < new.length)
    (hlen : l.length + new.length ≤ 140737488355328) (hbase : B ≤ w.heap.size)
    (h : ∀ v' w', OwnB B v' (l ++ new) w' → Below B w w' → wpList Tryz.prog ops Q rest (a.put o.dst v') w') : wpList Tryz.prog ops Q (o :: rest) a w := by
  obtain ⟨i0, hi, hz0, hz1, hz2⟩ := info_parts info5
  rcases hnew.2 with ⟨rfl, e⟩ | ⟨g, cap, cur, rfl, _⟩
  · omega
  refine wpList_append_own w hgd s x 28 ho B 5 i0 (.int .u8 0) 1 1 Tryz.underlying28 hi hz0 hz1 hz2 rfl (by decide) v l.length (byteCells l) hs hown ⟨g, 0, none⟩ new.length cap (byteCells new) hx
    (by rw [byteCells_length]; omega) (World.ownsRow.cells hnew (g := g) rfl) (bytes_oneCell new) (by unfold maxLen; omega) (by omega) hbase ?_
  intro v' w' h1 h2 _
  refine h v' w' ?_ ((Below.refl B w).grown h2 hbase (fun k hk => (World.ownsRow.lt hown k hk).1))
  show w'.ownsRow B 5 1 v' (l ++ new).length (byteCells (l ++ new))
  have e : byteCells (l ++ new) = byteCells l ++ byteCells new := by simp [byteCells]
  rw [e, List.length_append]
  exact h1
/-- new bytes -/
def TxPost (l : List UInt8) (w : World) (e : Ending) (w' : World) : Prop := ∃ v', e = .returned v' ∧ OwnB w.heap.size v' l w' ∧ Below w.heap.size w w'
theorem own_le {B B' : Nat} {v : Value} {l : List UInt8} {w : World} (h : OwnB B v l w) (hb : B' ≤ B) : OwnB B' v l w := by
  rcases h with ⟨h1, h2⟩
  refine ⟨h1, ?_⟩
  rcases h2 with h | ⟨g, cap, cur, e, q, r⟩
  · exact .inl h
  · exact .inr ⟨g, cap, cur, e, Nat.le_trans hb q, r⟩
/-- what Text does with x -/
def TxV (x : V) : Prop := ∀ (R : Bool) (S : Nat → Prop) (cs : List Value) (w : World), x.lies R w S cs → (∀ b, S b → b < w.heap.size) → prV x → x.wt ≤ 1114112 →
  Calls Tryz.prog 48 #[.agg cs.toArray] w (TxPost (txtV x) w)
theorem txtV_pos : ∀ v : V, 0 < (txtV v).length
  | .mk k b i s l m => by
    rw [txtV]
    split
    · split <;> simp
    split
    · have h : ∀ u, 0 < (decDigits u).length := fun u => by
        rw [decDigits]
        split <;> simp
      rw [itoa]
      split
      · simp
      · exact h _
    split
    · have := Q.qt_length s.data.toList
      omega
    split
    · simp
    split
    · simp
    · simp
set_option maxHeartbeats 4000000 in
set_option maxRecDepth 100000 in
theorem txt_list (l : List V) (ih : ∀ x ∈ l, TxV x) (b : Bool) (i : Int) (s : ByteArray) (R : Bool) (S : Nat → Prop) (al : Option Addr) (cl bl ol : Nat) (am : Option Addr) (nm cm : Nat) (w : World) (hal : Headed al l.length cl bl ol) (hl : liesL R w S l bl ol) (hS : ∀ b, S b → b < w.heap.size) (hp : prL l) (hwt : wtL l ≤ 1114112) :
    Calls Tryz.prog 48 #[.agg #[.int .i64 4, .bool b, .int .i64 i, .string s, .slice al l.length cl, .slice am nm cm]] w (TxPost (91 :: (joinB (txtL l) ++ [93])) w) := by
  have hll := wtL_len l
  have nb := heap_alloc_new w (.cells #[.int .i64 4, .bool b, .int .i64 i, .string s, .slice al l.length cl, .slice am nm cm] 25)
  have hza := alloc_size w (.cells #[.int .i64 4, .bool b, .int .i64 i, .string s, .slice al l.length cl, .slice am nm cm] 25)
  have bA : Below w.heap.size w (w.alloc (.cells #[.int .i64 4, .bool b, .int .i64 i, .string s, .slice al l.length cl, .slice am nm cm] 25)) := (Below.refl _ w).alloc (Nat.le_refl _) _
  have HW : Hid (∀ W, Below (w.heap.size + 1) (w.alloc (.cells #[.int .i64 4, .bool b, .int .i64 i, .string s, .slice al l.length cl, .slice am nm cm] 25)) W → Below w.heap.size w W) := fun W hb => bA.trans (hb.mono (by omega))
  have HL : Hid (∀ W, Below (w.heap.size + 1) (w.alloc (.cells #[.int .i64 4, .bool b, .int .i64 i, .string s, .slice al l.length cl, .slice am nm cm] 25)) W → liesL R W S l bl ol ∧ W.cell? ⟨w.heap.size, 4, none⟩ = some (.slice al l.length cl)) := fun W hb =>
    ⟨liesL_keep (fun h => h) (fun x hx => (HW.out W hb).block x (hS x hx)) (fun _ h => h) _ hl, by rw [cell_of_block ((hb.block _ (by omega)).trans nb)]; rfl⟩
  have HE : Hid (91 :: (joinB (txtL l) ++ [93]) = ([(91 : UInt8)] ++ jL l l.length) ++ [93]) := by show _ = _; rw [jL, List.take_length]; simp
  have HN : Hid (∀ j, (jL l j).length ≤ 40 * wtL l) := fun j => Nat.le_trans (jL_len j hp) (Nat.mul_le_mul_left _ (wtL_take l j))
  have HI : Hid (∀ j (h : j < l.length), TxV l[j] ∧ prV l[j] ∧ (l[j]).wt ≤ wtL l ∧ (txtV l[j]).length ≤ 40 * (l[j]).wt ∧ 0 < (txtV l[j]).length) := fun j h =>
    ⟨ih _ (List.getElem_mem h), prL_mem hp _ (List.getElem_mem h), wtL_mem (List.getElem_mem h), by have := txtV_len _ (prL_mem hp _ (List.getElem_mem h)); omega, txtV_pos _⟩
  have HJ1 : Hid (∀ h : 0 < l.length, jL l 1 = txtV l[0]) := fun h => jL_one h
  have HJ2 : Hid (∀ j (h : j < l.length), j ≠ 0 → jL l (j + 1) = (jL l j ++ [44]) ++ txtV l[j]) := fun j h h0 => jL_more h h0
  have oN : OwnB (w.heap.size + 1) (.slice none 0 0) [] (w.alloc (.cells #[.int .i64 4, .bool b, .int .i64 i, .string s, .slice al l.length cl, .slice am nm cm] 25)) := World.ownsRow_nil _ _ 5 1
  have n0 : (w.alloc (.cells #[.int .i64 4, .bool b, .int .i64 i, .string s, .slice al l.length cl, .slice am nm cm] 25)).cell? ⟨w.heap.size, 0, none⟩ = some (.int .i64 4) := by rw [cell_of_block nb]; rfl
  clear hl
  go_enter Tryz.func48, Tryz.ntmps48
  go_wp2_with (at_builtin; go_loud (refine wpl_appG _ rfl (.tmp 46) (.tmp 47) rfl (w.heap.size + 1) _ _ rfl (oN.alloc _) (w.heap.size + 1) 1 1 [91] rfl rfl _ _ (alloc2_new w _ _) rfl (by (try simp only [List.length_append, List.length_cons, List.length_nil]); omega) (by rw [alloc_size, alloc_size]; omega) ?_))
  intro v1 w1 o1 b1 _
  have B1 : Below (w.heap.size + 1) (w.alloc (.cells #[.int .i64 4, .bool b, .int .i64 i, .string s, .slice al l.length cl, .slice am nm cm] 25)) w1 := ((Below.refl _ _).alloc (by omega) _).trans b1
  clear b1
  go_wp2_with fail
  generalize (w.alloc (.cells #[.int .i64 4, .bool b, .int .i64 i, .string s, .slice al l.length cl, .slice am nm cm] 25)) = w0 at *
  go_loopw [3, 6] (fun e3 e6 wr => ∃ (j : Nat) (bv' : Value), j ≤ l.length ∧ bv' = e3 ∧ e6 = .int .i64 (j : Int) ∧ OwnB (w.heap.size + 1) bv' ([(91 : UInt8)] ++ jL l j) wr ∧ Hid (Below (w.heap.size + 1) w0 wr)) (fun _ e _ => l.length - (RowKit.intOf e).toNat)
  case atStart => exact ⟨0, _, by omega, rfl, rfl, by rw [jL_zero, List.append_nil]; exact o1, B1⟩
  case round =>
    clear o1 B1 n0
    obtain ⟨j, bv', hj, rfl, rfl, oj, Bj⟩ := hrel
    have hnj := HN.out j
    obtain ⟨P, hP⟩ : ∃ P, [(91 : UInt8)] ++ jL l j = P := ⟨_, rfl⟩
    have HPP : Hid ([(91 : UInt8)] ++ jL l j = P) := hP
    have hPl : P.length = 1 + (jL l j).length := by rw [← hP]; simp only [List.length_append, List.length_cons, List.length_nil]
    rw [hP] at oj
    clear hP
    have hzr := Bj.out.size
    have d4 := (HL.out wr Bj.out).2
    by_cases hjl : j < l.length
    · have y1 : (j : Int) < l.length := by omega
      obtain rfl : al = some ⟨bl, ol, none⟩ := hal.at_.resolve_left (by omega)
      obtain ⟨hA, hpj, hwj, htj, hpos⟩ := HI.out j hjl
      have HT1 : Hid (∀ h : j = 0, [(91 : UInt8)] ++ jL l (j + 1) = P ++ txtV l[j]) := fun h => by
        rw [← HPP.out]; subst h; rw [HJ1.out hjl, jL_zero]; simp
      have HT2 : Hid (∀ h : j ≠ 0, [(91 : UInt8)] ++ jL l (j + 1) = (P ++ [44]) ++ txtV l[j]) := fun h => by
        rw [← HPP.out, HJ2.out j hjl h]; simp
      obtain ⟨_, csj, hrow, hlj0⟩ := liesL_get (HL.out wr Bj.out).1 j hjl
      obtain ⟨ek, eb, ei, es, eal, enl, ecl, eam, enm, ecm, rfl⟩ := V.ten hlj0
      have hSbl : S bl := (liesL_get (HL.out wr Bj.out).1 j hjl).1
      have HR : Hid (∀ W, Below (w.heap.size + 1) wr W → W.cell? ⟨w.heap.size, 4, none⟩ = some (.slice (some ⟨bl, ol, none⟩) l.length cl) ∧ rowAt W bl (ol + j * 6) [.int .i64 ek, .bool eb, .int .i64 ei, .string es, .slice eal enl ecl, .slice eam enm ecm] ∧ (l[j]).lies R W S [.int .i64 ek, .bool eb, .int .i64 ei, .string es, .slice eal enl ecl, .slice eam enm ecm]) := fun W hb =>
        ⟨(HL.out W (Bj.out.trans hb)).2, hrow.keep (hb.block _ (by have := hS _ hSbl; omega)), V.lies_keep (fun h => h) (fun x hx => hb.block x (by have := hS x hx; omega)) (fun _ h => h) _ hlj0⟩
      obtain ⟨xj, hxj⟩ : ∃ xj, l[j] = xj := ⟨_, rfl⟩
      rw [hxj] at HT1 HT2 hA hpj hwj htj hpos HR
      clear hxj hrow hlj0
      by_cases hj0 : j = 0
      · have HT := HT1.out hj0
        have y2 : ¬ (j : Int) > 0 := by omega
        have y3 : ¬ (0 : Int) < j := by omega
        have y4 : ¬ 0 < j := by omega
        have y5 : decide (0 < j) = false := by simp [hj0]
        clear hj0 HT1 HT2 d4
        have Bs : Below (w.heap.size + 1) wr wr := Below.refl _ _
        obtain ⟨f4, hrj, hlj⟩ := HR.out _ Bs
        obtain ⟨q0, q1, q2, q3, q4, q5⟩ := row6 hrj
        have C := hmk (hA R S _ _ hlj (fun x hx => by have := hS x hx; have := (Bs).size; omega) hpj (by omega))
        clear hrj hlj
        go_wp2_with fail
        refine C.out.mono ?_
        rintro e w3 ⟨v3, rfl, o3, b3⟩
        have hz3 := b3.size
        have p3 := (oj).below b3
        have hzW := (Bs).size
        clear q0 q1 q2 q3 q4 q5 f4 C
        go_wp2_with (at_builtin; go_loud (refine wpl_appO _ rfl (.tmp 67) (.tmp 68) rfl (w.heap.size + 1) _ _ rfl p3 _ v3 (txtV xj) rfl o3 hpos (by (try simp only [List.length_append, List.length_cons, List.length_nil]); omega) (by omega) ?_))
        intro v4 w4 o4 b4
        have B4 := (Bj.out.trans (b3.mono (by omega))).trans b4
        have o4' : OwnB (w.heap.size + 1) v4 ([91] ++ jL l (j + 1)) w4 := by rw [HT]; (try simp only [List.append_assoc] at o4 ⊢); exact o4
        go_wp2_with fail
        go_roundw
        case rel => exact ⟨j + 1, v4, by omega, rfl, by go_num, o4', B4⟩
        case measure => simp [RowKit.intOf]; omega
      · have HT := HT2.out hj0
        have y2 : (j : Int) > 0 := by omega
        have y3 : (0 : Int) < j := by omega
        have y4 : 0 < j := by omega
        have y5 : decide (0 < j) = true := by simp; omega
        clear HT1 HT2
        go_wp2_with (at_builtin; go_loud (refine wpl_appG _ rfl (.tmp 58) (.tmp 59) rfl (w.heap.size + 1) _ _ rfl (oj.alloc _) wr.heap.size 1 1 [44] rfl rfl _ _ (heap_alloc_new wr _) rfl (by (try simp only [List.length_append, List.length_cons, List.length_nil]); omega) (by rw [alloc_size]; omega) ?_))
        intro v2 w2 o2 b2 _
        have B2 : Below (w.heap.size + 1) wr w2 := ((Below.refl _ wr).alloc (by omega) _).trans b2
        have hz2 := B2.size
        clear b2 d4
        obtain ⟨f4, hrj, hlj⟩ := HR.out _ B2
        obtain ⟨q0, q1, q2, q3, q4, q5⟩ := row6 hrj
        have C := hmk (hA R S _ _ hlj (fun x hx => by have := hS x hx; have := (B2).size; omega) hpj (by omega))
        clear hrj hlj
        go_wp2_with fail
        refine C.out.mono ?_
        rintro e w3 ⟨v3, rfl, o3, b3⟩
        have hz3 := b3.size
        have p3 := (o2).below b3
        have hzW := (B2).size
        clear q0 q1 q2 q3 q4 q5 f4 C
        go_wp2_with (at_builtin; go_loud (refine wpl_appO _ rfl (.tmp 67) (.tmp 68) rfl (w.heap.size + 1) _ _ rfl p3 _ v3 (txtV xj) rfl o3 hpos (by (try simp only [List.length_append, List.length_cons, List.length_nil]); omega) (by omega) ?_))
        intro v4 w4 o4 b4
        have B4 := ((Bj.out.trans B2).trans (b3.mono (by omega))).trans b4
        have o4' : OwnB (w.heap.size + 1) v4 ([91] ++ jL l (j + 1)) w4 := by rw [HT]; (try simp only [List.append_assoc] at o4 ⊢); exact o4
        go_wp2_with fail
        go_roundw
        case rel => exact ⟨j + 1, v4, by omega, rfl, by go_num, o4', B4⟩
        case measure => simp [RowKit.intOf]; omega
    · obtain rfl : j = l.length := by omega
      have y1 : ¬ (l.length : Int) < l.length := by omega
      go_wp2_with (at_builtin; go_loud (refine wpl_appG _ rfl (.tmp 70) (.tmp 71) rfl (w.heap.size + 1) _ _ rfl (oj.alloc _) wr.heap.size 1 1 [93] rfl rfl _ _ (heap_alloc_new wr _) rfl (by (try simp only [List.length_append, List.length_cons, List.length_nil]); omega) (by rw [alloc_size]; omega) ?_))
      intro v2 w2 o2 b2 _
      have B2 := (Bj.out.trans ((Below.refl _ wr).alloc (by omega) _)).trans b2
      go_wp2_with fail
      go_ret
      rw [HE.out, HPP.out]
      exact ⟨_, rfl, own_le o2 (by omega), HW.out _ B2⟩
end Go.Proofs.YtpmhdcmmlkjjmaaGreatDoor
