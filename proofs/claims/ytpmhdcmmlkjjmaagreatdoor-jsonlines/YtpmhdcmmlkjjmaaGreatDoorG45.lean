/- joined: TxtM PrtA RfP -/
import Derived.Test.YtpmhdcmmlkjjmaaGreatDoorG44
/- freeholdref03.Text, of maps. -/
set_option linter.unusedSimpArgs false
set_option linter.unusedVariables false
namespace Go.Proofs.YtpmhdcmmlkjjmaaGreatDoor
open Go.RowKit Go.Lib
set_option maxHeartbeats 4000000 in
set_option maxRecDepth 100000 in
theorem txt_map (l : List Mem) (ih : ∀ x ∈ l, TxV x.2) (b : Bool) (i : Int) (s : ByteArray) (R : Bool) (S : Nat → Prop) (al : Option Addr) (nl cl : Nat) (am : Option Addr) (cm bm om : Nat) (w : World) (ham : Headed am l.length cm bm om) (hl : liesM R w S l bm om) (hS : ∀ b, S b → b < w.heap.size) (hp : prM l) (hwt : wtM l ≤ 1114112) :
    Calls Tryz.prog 48 #[.agg #[.int .i64 5, .bool b, .int .i64 i, .string s, .slice al nl cl, .slice am l.length cm]] w (TxPost (123 :: (joinB (txtM l) ++ [125])) w) := by
  have hll := wtM_len l
  have nb := heap_alloc_new w (.cells #[.int .i64 5, .bool b, .int .i64 i, .string s, .slice al nl cl, .slice am l.length cm] 25)
  have hza := alloc_size w (.cells #[.int .i64 5, .bool b, .int .i64 i, .string s, .slice al nl cl, .slice am l.length cm] 25)
  have bA : Below w.heap.size w (w.alloc (.cells #[.int .i64 5, .bool b, .int .i64 i, .string s, .slice al nl cl, .slice am l.length cm] 25)) := (Below.refl _ w).alloc (Nat.le_refl _) _
  have HW : Hid (∀ W, Below (w.heap.size + 1) (w.alloc (.cells #[.int .i64 5, .bool b, .int .i64 i, .string s, .slice al nl cl, .slice am l.length cm] 25)) W → Below w.heap.size w W) := fun W hb => bA.trans (hb.mono (by omega))
  have HL : Hid (∀ W, Below (w.heap.size + 1) (w.alloc (.cells #[.int .i64 5, .bool b, .int .i64 i, .string s, .slice al nl cl, .slice am l.length cm] 25)) W → liesM R W S l bm om ∧ W.cell? ⟨w.heap.size, 5, none⟩ = some (.slice am l.length cm)) := fun W hb =>
    ⟨liesM_keep (fun h => h) (fun x hx => (HW.out W hb).block x (hS x hx)) (fun _ h => h) _ hl, by rw [cell_of_block ((hb.block _ (by omega)).trans nb)]; rfl⟩
  have HE : Hid (123 :: (joinB (txtM l) ++ [125]) = ([(123 : UInt8)] ++ jM l l.length) ++ [125]) := by show _ = _; rw [jM, List.take_length]; simp
  have HN : Hid (∀ j, (jM l j).length ≤ 40 * wtM l) := fun j => Nat.le_trans (jM_len j hp) (Nat.mul_le_mul_left _ (wtM_take l j))
  have HI : Hid (∀ j (h : j < l.length), TxV (l[j]).2 ∧ prV (l[j]).2 ∧ validD (l[j]).1.data.toList = true ∧ (l[j]).1.size ≤ 1048576 ∧ (l[j]).2.wt ≤ wtM l ∧ (txtV (l[j]).2).length ≤ 40 * (l[j]).2.wt ∧ 0 < (txtV (l[j]).2).length ∧ (Q.qt (l[j]).1.data.toList).length ≤ 2 + 6 * (l[j]).1.size) := fun j h => by
    have hm := prM_mem hp _ (List.getElem_mem h)
    exact ⟨ih _ (List.getElem_mem h), hm.2, hm.1.1, hm.1.2, (by have := wtM_mem (List.getElem_mem h); omega), by have := txtV_len _ hm.2; omega, txtV_pos _, qt_len _⟩
  have HJ1 : Hid (∀ h : 0 < l.length, jM l 1 = txtE l[0]) := fun h => jM_one h
  have HJ2 : Hid (∀ j (h : j < l.length), j ≠ 0 → jM l (j + 1) = (jM l j ++ [44]) ++ txtE l[j]) := fun j h h0 => jM_more h h0
  have oN : OwnB (w.heap.size + 1) (.slice none 0 0) [] (w.alloc (.cells #[.int .i64 5, .bool b, .int .i64 i, .string s, .slice al nl cl, .slice am l.length cm] 25)) := World.ownsRow_nil _ _ 5 1
  have n0 : (w.alloc (.cells #[.int .i64 5, .bool b, .int .i64 i, .string s, .slice al nl cl, .slice am l.length cm] 25)).cell? ⟨w.heap.size, 0, none⟩ = some (.int .i64 5) := by rw [cell_of_block nb]; rfl
  clear hl
  go_enter Tryz.func48, Tryz.ntmps48
  go_wp2_with (at_builtin; go_loud (refine wpl_appG _ rfl (.tmp 73) (.tmp 74) rfl (w.heap.size + 1) _ _ rfl (oN.alloc _) (w.heap.size + 1) 1 1 [123] rfl rfl _ _ (alloc2_new w _ _) rfl (by (try simp only [List.length_append, List.length_cons, List.length_nil]); omega) (by rw [alloc_size, alloc_size]; omega) ?_))
  intro v1 w1 o1 b1 _
  have B1 : Below (w.heap.size + 1) (w.alloc (.cells #[.int .i64 5, .bool b, .int .i64 i, .string s, .slice al nl cl, .slice am l.length cm] 25)) w1 := ((Below.refl _ _).alloc (by omega) _).trans b1
  clear b1
  go_wp2_with fail
  generalize (w.alloc (.cells #[.int .i64 5, .bool b, .int .i64 i, .string s, .slice al nl cl, .slice am l.length cm] 25)) = w0 at *
  go_loopw [3, 8] (fun e3 e8 wr => ∃ (j : Nat) (bv' : Value), j ≤ l.length ∧ bv' = e3 ∧ e8 = .int .i64 (j : Int) ∧ OwnB (w.heap.size + 1) bv' ([(123 : UInt8)] ++ jM l j) wr ∧ Hid (Below (w.heap.size + 1) w0 wr)) (fun _ e _ => l.length - (RowKit.intOf e).toNat)
  case atStart => exact ⟨0, _, by omega, rfl, rfl, by rw [jM_zero, List.append_nil]; exact o1, B1⟩
  case round =>
    clear o1 B1 n0
    obtain ⟨j, bv', hj, rfl, rfl, oj, Bj⟩ := hrel
    have hnj := HN.out j
    obtain ⟨P, hP⟩ : ∃ P, [(123 : UInt8)] ++ jM l j = P := ⟨_, rfl⟩
    have HPP : Hid ([(123 : UInt8)] ++ jM l j = P) := hP
    have hPl : P.length = 1 + (jM l j).length := by rw [← hP]; simp only [List.length_append, List.length_cons, List.length_nil]
    rw [hP] at oj
    clear hP
    have hzr := Bj.out.size
    have d4 := (HL.out wr Bj.out).2
    by_cases hjl : j < l.length
    · have y1 : (j : Int) < l.length := by omega
      obtain rfl : am = some ⟨bm, om, none⟩ := ham.at_.resolve_left (by omega)
      obtain ⟨hA, hpj, hvk, hks, hwj, htj, hpos, hql⟩ := HI.out j hjl
      have HT1 : Hid (∀ h : j = 0, [(123 : UInt8)] ++ jM l (j + 1) = ((P ++ Q.qt (l[j]).1.data.toList) ++ [58]) ++ txtV (l[j]).2) := fun h => by
        rw [← HPP.out]; subst h; rw [HJ1.out hjl, jM_zero, txtE]; simp
      have HT2 : Hid (∀ h : j ≠ 0, [(123 : UInt8)] ++ jM l (j + 1) = (((P ++ [44]) ++ Q.qt (l[j]).1.data.toList) ++ [58]) ++ txtV (l[j]).2) := fun h => by
        rw [← HPP.out, HJ2.out j hjl h, txtE]; simp
      obtain ⟨hSbl, hkm, csj, hrow, hlj0⟩ := liesM_get (HL.out wr Bj.out).1 j hjl
      obtain ⟨ek, eb, ei, es, eal, enl, ecl, eam, enm, ecm, rfl⟩ := V.ten hlj0
      obtain ⟨kj, hkj⟩ : ∃ kj, (l[j]).1 = kj := ⟨_, rfl⟩
      obtain ⟨xj, hxj⟩ : ∃ xj, (l[j]).2 = xj := ⟨_, rfl⟩
      rw [hkj] at hrow
      rw [hxj] at hlj0
      have HR : Hid (∀ W, Below (w.heap.size + 1) wr W → W.cell? ⟨w.heap.size, 5, none⟩ = some (.slice (some ⟨bm, om, none⟩) l.length cm) ∧ rowAt W bm (om + j * 7) (.string kj :: [.int .i64 ek, .bool eb, .int .i64 ei, .string es, .slice eal enl ecl, .slice eam enm ecm]) ∧ xj.lies R W S [.int .i64 ek, .bool eb, .int .i64 ei, .string es, .slice eal enl ecl, .slice eam enm ecm]) := fun W hb =>
        ⟨(HL.out W (Bj.out.trans hb)).2, hrow.keep (hb.block _ (by have := hS _ hSbl; omega)), V.lies_keep (fun h => h) (fun x hx => hb.block x (by have := hS x hx; omega)) (fun _ h => h) _ hlj0⟩
      rw [hkj, hxj] at HT1 HT2
      rw [hkj] at hvk hks hql
      rw [hxj] at hA hpj hwj htj hpos
      have hq2 : (⟨(Q.qt kj.data.toList).toArray⟩ : ByteArray).size ≤ 6291458 := by show (Q.qt kj.data.toList).toArray.size ≤ _; rw [List.size_toArray]; omega
      have HQ : Hid (∀ W, Calls Tryz.prog 72 #[.string kj] W fun e w' => e = .returned (.tuple #[.string ⟨(Q.qt kj.data.toList).toArray⟩, .int .i64 0]) ∧ Below W.heap.size W w') := fun W => refQuote_good kj W (by omega) hvk
      obtain ⟨K, hK⟩ : ∃ K, Q.qt kj.data.toList = K := ⟨_, rfl⟩
      rw [hK] at HT1 HT2 hql hq2 HQ
      have HD : Hid ((⟨K.toArray⟩ : ByteArray).data.toList = K) := hmk rfl
      generalize (⟨K.toArray⟩ : ByteArray) = qs at *
      clear hxj hkj hK hrow hlj0
      by_cases hj0 : j = 0
      · have HT := HT1.out hj0
        have y2 : ¬ (j : Int) > 0 := by omega
        have y3 : ¬ (0 : Int) < j := by omega
        have y4 : ¬ 0 < j := by omega
        have y5 : decide (0 < j) = false := by simp [hj0]
        clear hj0 HT1 HT2 d4
        have Bs : Below (w.heap.size + 1) wr wr := Below.refl _ _
        obtain ⟨f5, hrj, hlj⟩ := HR.out _ Bs
        obtain ⟨q, q0, q1, q2, q3, q4, q5⟩ := row7 hrj
        clear hrj hlj
        go_wp2_with fail
        refine (HQ.out _).mono ?_
        rintro e w3 ⟨rfl, b3⟩
        have hz3 := b3.size
        have hzW := (Bs).size
        have p3 := (oj).below b3
        clear q q0 q1 q2 q3 q4 q5 f5
        go_wp2_with (at_builtin; go_loud (refine wpl_str _ rfl (.tmp 98) (.tmp 99) rfl (w.heap.size + 1) _ _ rfl p3 qs rfl (by (try simp only [List.length_append, List.length_cons, List.length_nil]); omega) (by omega) ?_))
        intro v4 w4 o4 b4
        rw [HD.out] at o4
        have B4 : Below (w.heap.size + 1) wr w4 := ((Bs).trans (b3.mono (by omega))).trans b4
        have hz4 := B4.size
        clear b4 b3 p3
        go_wp2_with (at_builtin; go_loud (refine wpl_appG _ rfl (.tmp 101) (.tmp 102) rfl (w.heap.size + 1) _ _ rfl (o4.alloc _) w4.heap.size 1 1 [58] rfl rfl _ _ (heap_alloc_new w4 _) rfl (by (try simp only [List.length_append, List.length_cons, List.length_nil]); omega) (by rw [alloc_size]; omega) ?_))
        intro v5 w5 o5 b5 _
        have B5 : Below (w.heap.size + 1) wr w5 := (B4.alloc (by omega) _).trans b5
        have hz5 := B5.size
        have o5' : OwnB (w.heap.size + 1) v5 (((P) ++ K) ++ [58]) w5 := by (try simp only [List.append_assoc] at o5 ⊢); exact o5
        clear b5 B4 o4 o5
        obtain ⟨f5, hrj, hlj⟩ := HR.out _ B5
        obtain ⟨q, q0, q1, q2, q3, q4, q5⟩ := row7 hrj
        have C := hmk (hA R S _ _ hlj (fun x hx => by have := hS x hx; omega) hpj (by omega))
        clear hrj hlj
        go_wp2_with fail
        refine C.out.mono ?_
        rintro e w6 ⟨v6, rfl, o6, b6⟩
        have hz6 := b6.size
        have p6 := o5'.below b6
        clear q q0 q1 q2 q3 q4 q5 f5 C
        go_wp2_with (at_builtin; go_loud (refine wpl_appO _ rfl (.tmp 111) (.tmp 112) rfl (w.heap.size + 1) _ _ rfl p6 _ v6 (txtV xj) rfl o6 hpos (by (try simp only [List.length_append, List.length_cons, List.length_nil]); omega) (by omega) ?_))
        intro v7 w7 o7 b7
        have B7 := ((Bj.out.trans B5).trans (b6.mono (by omega))).trans b7
        have o7' : OwnB (w.heap.size + 1) v7 ([123] ++ jM l (j + 1)) w7 := by rw [HT]; (try simp only [List.append_assoc] at o7 ⊢); exact o7
        go_wp2_with fail
        go_roundw
        case rel => exact ⟨j + 1, v7, by omega, rfl, by go_num, o7', B7⟩
        case measure => simp [RowKit.intOf]; omega
      · have HT := HT2.out hj0
        have y2 : (j : Int) > 0 := by omega
        have y3 : (0 : Int) < j := by omega
        have y4 : 0 < j := by omega
        have y5 : decide (0 < j) = true := by simp; omega
        clear HT1 HT2
        go_wp2_with (at_builtin; go_loud (refine wpl_appG _ rfl (.tmp 85) (.tmp 86) rfl (w.heap.size + 1) _ _ rfl (oj.alloc _) wr.heap.size 1 1 [44] rfl rfl _ _ (heap_alloc_new wr _) rfl (by (try simp only [List.length_append, List.length_cons, List.length_nil]); omega) (by rw [alloc_size]; omega) ?_))
        intro v2 w2 o2 b2 _
        have B2 : Below (w.heap.size + 1) wr w2 := ((Below.refl _ wr).alloc (by omega) _).trans b2
        have hz2 := B2.size
        clear b2 d4
        obtain ⟨f5, hrj, hlj⟩ := HR.out _ B2
        obtain ⟨q, q0, q1, q2, q3, q4, q5⟩ := row7 hrj
        clear hrj hlj
        go_wp2_with fail
        refine (HQ.out _).mono ?_
        rintro e w3 ⟨rfl, b3⟩
        have hz3 := b3.size
        have hzW := (B2).size
        have p3 := (o2).below b3
        clear q q0 q1 q2 q3 q4 q5 f5
        go_wp2_with (at_builtin; go_loud (refine wpl_str _ rfl (.tmp 98) (.tmp 99) rfl (w.heap.size + 1) _ _ rfl p3 qs rfl (by (try simp only [List.length_append, List.length_cons, List.length_nil]); omega) (by omega) ?_))
        intro v4 w4 o4 b4
        rw [HD.out] at o4
        have B4 : Below (w.heap.size + 1) wr w4 := ((B2).trans (b3.mono (by omega))).trans b4
        have hz4 := B4.size
        clear b4 b3 p3
        go_wp2_with (at_builtin; go_loud (refine wpl_appG _ rfl (.tmp 101) (.tmp 102) rfl (w.heap.size + 1) _ _ rfl (o4.alloc _) w4.heap.size 1 1 [58] rfl rfl _ _ (heap_alloc_new w4 _) rfl (by (try simp only [List.length_append, List.length_cons, List.length_nil]); omega) (by rw [alloc_size]; omega) ?_))
        intro v5 w5 o5 b5 _
        have B5 : Below (w.heap.size + 1) wr w5 := (B4.alloc (by omega) _).trans b5
        have hz5 := B5.size
        have o5' : OwnB (w.heap.size + 1) v5 (((P ++ [44]) ++ K) ++ [58]) w5 := by (try simp only [List.append_assoc] at o5 ⊢); exact o5
        clear b5 B4 o4 o5
        obtain ⟨f5, hrj, hlj⟩ := HR.out _ B5
        obtain ⟨q, q0, q1, q2, q3, q4, q5⟩ := row7 hrj
        have C := hmk (hA R S _ _ hlj (fun x hx => by have := hS x hx; omega) hpj (by omega))
        clear hrj hlj
        go_wp2_with fail
        refine C.out.mono ?_
        rintro e w6 ⟨v6, rfl, o6, b6⟩
        have hz6 := b6.size
        have p6 := o5'.below b6
        clear q q0 q1 q2 q3 q4 q5 f5 C
        go_wp2_with (at_builtin; go_loud (refine wpl_appO _ rfl (.tmp 111) (.tmp 112) rfl (w.heap.size + 1) _ _ rfl p6 _ v6 (txtV xj) rfl o6 hpos (by (try simp only [List.length_append, List.length_cons, List.length_nil]); omega) (by omega) ?_))
        intro v7 w7 o7 b7
        have B7 := ((Bj.out.trans B5).trans (b6.mono (by omega))).trans b7
        have o7' : OwnB (w.heap.size + 1) v7 ([123] ++ jM l (j + 1)) w7 := by rw [HT]; (try simp only [List.append_assoc] at o7 ⊢); exact o7
        go_wp2_with fail
        go_roundw
        case rel => exact ⟨j + 1, v7, by omega, rfl, by go_num, o7', B7⟩
        case measure => simp [RowKit.intOf]; omega
    · obtain rfl : j = l.length := by omega
      have y1 : ¬ (l.length : Int) < l.length := by omega
      go_wp2_with (at_builtin; go_loud (refine wpl_appG _ rfl (.tmp 114) (.tmp 115) rfl (w.heap.size + 1) _ _ rfl (oj.alloc _) wr.heap.size 1 1 [125] rfl rfl _ _ (heap_alloc_new wr _) rfl (by (try simp only [List.length_append, List.length_cons, List.length_nil]); omega) (by rw [alloc_size]; omega) ?_))
      intro v2 w2 o2 b2 _
      have B2 := (Bj.out.trans ((Below.refl _ wr).alloc (by omega) _)).trans b2
      go_wp2_with fail
      go_ret
      rw [HE.out, HPP.out]
      exact ⟨_, rfl, own_le o2 (by omega), HW.out _ B2⟩
end Go.Proofs.YtpmhdcmmlkjjmaaGreatDoor
/- json.Print. -/
namespace Go.Proofs.YtpmhdcmmlkjjmaaGreatDoor
open Go.RowKit Go.Lib
/-- what Print answers: the error's number, and the bytes -/
def prF (v : V) (depth : Int) : Nat × List UInt8 := if chkE v depth ≠ 0 then (chkE v depth, []) else if 1048576 < (txtV v).length then (30, []) else (0, txtV v)
def PrPost (v : V) (depth : Int) (w : World) (e : Ending) (w' : World) : Prop := ∃ bv B, e = .returned (.tuple #[bv, .int .i64 ((prF v depth).1 : Int)]) ∧ OwnB B bv (prF v depth).2 w' ∧ w.heap.size ≤ B ∧ Below w.heap.size w w'
theorem own_none (B : Nat) (w : World) : OwnB B (.slice none 0 0) [] w := World.ownsRow_nil w B 5 1
theorem own_slice {B : Nat} {bv : Value} {l : List UInt8} {w : World} (h : OwnB B bv l w) : ∃ a c, bv = .slice a l.length c := by
  rcases h.2 with ⟨rfl, e⟩ | ⟨g, cap, cur, rfl, _⟩
  · rw [e]; exact ⟨_, _, rfl⟩
  · exact ⟨_, _, rfl⟩
end Go.Proofs.YtpmhdcmmlkjjmaaGreatDoor
/- The document's way to ask for UTF-8 is the library's. -/
namespace Go.Proofs.YtpmhdcmmlkjjmaaGreatDoor
open Go.RowKit Go.Lib
def wellC (c : Nat) (two three four : Bool) (b1 : Nat) : Nat :=
  if c < 128 then 1 else if 194 ≤ c ∧ c ≤ 223 ∧ two = true then 2 else if c = 224 ∧ three = true ∧ 160 ≤ b1 then 3 else if c = 237 ∧ three = true ∧ b1 ≤ 159 then 3
  else if 225 ≤ c ∧ c ≤ 239 ∧ c ≠ 237 ∧ three = true then 3 else if c = 240 ∧ four = true ∧ 144 ≤ b1 then 4 else if c = 244 ∧ four = true ∧ b1 ≤ 143 then 4 else if 241 ≤ c ∧ c ≤ 243 ∧ four = true then 4 else 0
def moreL (l : List UInt8) (j : Nat) : Bool := match l[j]? with | some c => decide (128 ≤ c.toNat ∧ c.toNat ≤ 191) | none => false
def tail1 (lo hi : Nat) : List UInt8 → Bool
  | c :: _ => decide (lo ≤ c.toNat ∧ c.toNat ≤ hi)
  | _ => false
def tail2 (lo hi : Nat) : List UInt8 → Bool
  | c :: t => decide (lo ≤ c.toNat ∧ c.toNat ≤ hi) && tail1 128 191 t
  | _ => false
def tail3 (lo hi : Nat) : List UInt8 → Bool
  | c :: t => decide (lo ≤ c.toNat ∧ c.toNat ≤ hi) && tail2 128 191 t
  | _ => false
theorem nxtGo_end (n lo hi : Nat) (t : List UInt8) : Q.nxtGo n n lo hi t = (n, true) := by cases t <;> simp [Q.nxtGo]
theorem go1 (n lo hi : Nat) (t : List UInt8) : (if (Q.nxtGo (n + 1) n lo hi t).2 then (Q.nxtGo (n + 1) n lo hi t).1 else 0) = if tail1 lo hi t then n + 1 else 0 := by
  cases t with
  | nil =>
    have e : Q.nxtGo (n + 1) n lo hi [] = (n, false) := by rw [Q.nxtGo, if_neg (by omega)]
    rw [e]; rfl
  | cons c t =>
    have e : Q.nxtGo (n + 1) n lo hi (c :: t) = if c.toNat < lo ∨ hi < c.toNat then (n, false) else Q.nxtGo (n + 1) (n + 1) 128 191 t := by rw [Q.nxtGo, if_neg (by omega)]
    rw [e, tail1]
    clear e
    by_cases h : c.toNat < lo ∨ hi < c.toNat
    · rw [if_pos h]; simp; omega
    · rw [if_neg h, nxtGo_end]; simp; omega
theorem go2 (n lo hi : Nat) (t : List UInt8) : (if (Q.nxtGo (n + 2) n lo hi t).2 then (Q.nxtGo (n + 2) n lo hi t).1 else 0) = if tail2 lo hi t then n + 2 else 0 := by
  cases t with
  | nil =>
    have e : Q.nxtGo (n + 2) n lo hi [] = (n, false) := by rw [Q.nxtGo, if_neg (by omega)]
    rw [e]; rfl
  | cons c t =>
    have e : Q.nxtGo (n + 2) n lo hi (c :: t) = if c.toNat < lo ∨ hi < c.toNat then (n, false) else Q.nxtGo (n + 2) (n + 1) 128 191 t := by rw [Q.nxtGo, if_neg (by omega)]
    rw [e, tail2]
    clear e
    by_cases h : c.toNat < lo ∨ hi < c.toNat
    · rw [if_pos h]; simp; omega
    · rw [if_neg h]
      have e := go1 (n + 1) 128 191 t
      rw [show n + 1 + 1 = n + 2 by omega] at e
      rw [e]
      have hd : decide (lo ≤ c.toNat ∧ c.toNat ≤ hi) = true := by simp; omega
      rw [hd, Bool.true_and]
theorem go3 (n lo hi : Nat) (t : List UInt8) : (if (Q.nxtGo (n + 3) n lo hi t).2 then (Q.nxtGo (n + 3) n lo hi t).1 else 0) = if tail3 lo hi t then n + 3 else 0 := by
  cases t with
  | nil =>
    have e : Q.nxtGo (n + 3) n lo hi [] = (n, false) := by rw [Q.nxtGo, if_neg (by omega)]
    rw [e]; rfl
  | cons c t =>
    have e : Q.nxtGo (n + 3) n lo hi (c :: t) = if c.toNat < lo ∨ hi < c.toNat then (n, false) else Q.nxtGo (n + 3) (n + 1) 128 191 t := by rw [Q.nxtGo, if_neg (by omega)]
    rw [e, tail3]
    clear e
    by_cases h : c.toNat < lo ∨ hi < c.toNat
    · rw [if_pos h]; simp; omega
    · rw [if_neg h]
      have e := go2 (n + 1) 128 191 t
      rw [show n + 1 + 2 = n + 3 by omega] at e
      rw [e]
      have hd : decide (lo ≤ c.toNat ∧ c.toNat ≤ hi) = true := by simp; omega
      rw [hd, Bool.true_and]
theorem moreL_nil (j : Nat) : moreL [] j = false := by simp [moreL]
theorem moreL_zero (c : UInt8) (t : List UInt8) : moreL (c :: t) 0 = decide (128 ≤ c.toNat ∧ c.toNat ≤ 191) := by simp [moreL]
theorem moreL_succ (c : UInt8) (t : List UInt8) (j : Nat) : moreL (c :: t) (j + 1) = moreL t j := by simp [moreL]
theorem tail1_eq (t : List UInt8) (lo hi : Nat) (h1 : 128 ≤ lo) (h2 : hi ≤ 191) : tail1 lo hi t = (moreL t 0 && decide (lo ≤ (t.getD 0 0).toNat ∧ (t.getD 0 0).toNat ≤ hi)) := by
  cases t with
  | nil => simp [tail1, moreL_nil]
  | cons c t =>
    rw [tail1, moreL_zero, List.getD_cons_zero]
    rw [Bool.eq_iff_iff]; simp; omega
theorem tail2_eq (t : List UInt8) (lo hi : Nat) (h1 : 128 ≤ lo) (h2 : hi ≤ 191) : tail2 lo hi t = (moreL t 0 && moreL t 1 && decide (lo ≤ (t.getD 0 0).toNat ∧ (t.getD 0 0).toNat ≤ hi)) := by
  cases t with
  | nil => simp [tail2, moreL_nil]
  | cons c t =>
    rw [tail2, moreL_zero, moreL_succ, List.getD_cons_zero, tail1_eq t 128 191 (by omega) (by omega)]
    cases t with
    | nil => simp [moreL_nil]
    | cons d t =>
      rw [moreL_zero, List.getD_cons_zero]
      rw [Bool.eq_iff_iff]; simp; omega
theorem tail3_eq (t : List UInt8) (lo hi : Nat) (h1 : 128 ≤ lo) (h2 : hi ≤ 191) : tail3 lo hi t = (moreL t 0 && moreL t 1 && moreL t 2 && decide (lo ≤ (t.getD 0 0).toNat ∧ (t.getD 0 0).toNat ≤ hi)) := by
  cases t with
  | nil => simp [tail3, moreL_nil]
  | cons c t =>
    rw [tail3, moreL_zero, moreL_succ, moreL_succ, List.getD_cons_zero, tail2_eq t 128 191 (by omega) (by omega)]
    cases t with
    | nil => simp [moreL_nil]
    | cons d t =>
      rw [moreL_zero, List.getD_cons_zero]
      generalize moreL (d :: t) 1 = X
      rw [Bool.eq_iff_iff]; simp
      constructor
      · rintro ⟨h1, ⟨h2, h3⟩, h4⟩; exact ⟨⟨⟨by omega, h2⟩, h3⟩, h1⟩
      · rintro ⟨⟨⟨h1, h2⟩, h3⟩, h4⟩; exact ⟨h4, ⟨h2, h3⟩, h2⟩
theorem moreL_bd {t : List UInt8} (h : moreL t 0 = true) : 128 ≤ (t.getD 0 0).toNat ∧ (t.getD 0 0).toNat ≤ 191 := by
  cases t with
  | nil => simp [moreL_nil] at h
  | cons c t => rw [moreL_zero] at h; simpa using h
set_option maxHeartbeats 4000000 in
theorem well_nxt (b : UInt8) (t : List UInt8) : wellC b.toNat (moreL t 0) (moreL t 0 && moreL t 1) (moreL t 0 && moreL t 1 && moreL t 2) (t.getD 0 0).toNat = if (Q.nxt (b :: t)).2 then (Q.nxt (b :: t)).1 else 0 := by
  rw [Q.nxt_cons]
  have hbd := @moreL_bd t
  have g1 := fun lo hi => go1 1 lo hi t
  have g2 := fun lo hi => go2 1 lo hi t
  have g3 := fun lo hi => go3 1 lo hi t
  have e1 := tail1_eq t
  have e2 := tail2_eq t
  have e3 := tail3_eq t
  simp only [Nat.reduceAdd] at g1 g2 g3
  generalize b.toNat = c at *
  generalize (t.getD 0 0).toNat = d at *
  generalize moreL t 0 = T2 at *
  generalize moreL t 1 = T3 at *
  generalize moreL t 2 = T4 at *
  by_cases k1 : c < 128
  · have hb : Q.bnd c = (1, 0, 0) := by unfold Q.bnd; rw [if_pos k1]
    rw [hb]; simp only [nxtGo_end]; simp [wellC, k1]
  by_cases k2 : 194 ≤ c ∧ c < 224
  · have hb : Q.bnd c = (2, 128, 191) := by unfold Q.bnd; rw [if_neg k1, if_pos k2]
    have hw : wellC c T2 (T2 && T3) (T2 && T3 && T4) d = if T2 = true then 2 else 0 := by
      unfold wellC
      rw [if_neg k1]
      cases T2
      · repeat (rw [if_neg (by simp)])
        all_goals rfl
      · rw [if_pos (by simp; omega)]; rfl
    rw [hb, hw]; simp only [g1, e1 128 191 (by omega) (by omega), show ¬ (2 : Nat) = 0 by omega, if_false]
    cases T2
    · rfl
    · have := hbd rfl; simp; omega
  by_cases k3 : c = 224
  · have hb : Q.bnd c = (3, 160, 191) := by unfold Q.bnd; rw [if_neg k1, if_neg k2, if_pos k3]
    rw [hb]; simp only [g2, e2 160 191 (by omega) (by omega), show ¬ (3 : Nat) = 0 by omega, if_false]
    unfold wellC
    cases T2 <;> cases T3 <;> cases T4 <;> simp <;> (try have := hbd rfl) <;> (repeat' split) <;> first | rfl | omega
  by_cases k4 : c = 237
  · have hb : Q.bnd c = (3, 128, 159) := by unfold Q.bnd; rw [if_neg k1, if_neg k2, if_neg k3, if_pos k4]
    rw [hb]; simp only [g2, e2 128 159 (by omega) (by omega), show ¬ (3 : Nat) = 0 by omega, if_false]
    unfold wellC
    cases T2 <;> cases T3 <;> cases T4 <;> simp <;> (try have := hbd rfl) <;> (repeat' split) <;> first | rfl | omega
  by_cases k5 : 224 < c ∧ c < 240
  · have hb : Q.bnd c = (3, 128, 191) := by unfold Q.bnd; rw [if_neg k1, if_neg k2, if_neg k3, if_neg k4, if_pos k5]
    rw [hb]; simp only [g2, e2 128 191 (by omega) (by omega), show ¬ (3 : Nat) = 0 by omega, if_false]
    unfold wellC
    cases T2 <;> cases T3 <;> cases T4 <;> simp <;> (try have := hbd rfl) <;> (repeat' split) <;> first | rfl | omega
  by_cases k6 : c = 240
  · have hb : Q.bnd c = (4, 144, 191) := by unfold Q.bnd; rw [if_neg k1, if_neg k2, if_neg k3, if_neg k4, if_neg k5, if_pos k6]
    rw [hb]; simp only [g3, e3 144 191 (by omega) (by omega), show ¬ (4 : Nat) = 0 by omega, if_false]
    unfold wellC
    cases T2 <;> cases T3 <;> cases T4 <;> simp <;> (try have := hbd rfl) <;> (repeat' split) <;> first | rfl | omega
  by_cases k7 : c = 244
  · have hb : Q.bnd c = (4, 128, 143) := by unfold Q.bnd; rw [if_neg k1, if_neg k2, if_neg k3, if_neg k4, if_neg k5, if_neg k6, if_pos k7]
    rw [hb]; simp only [g3, e3 128 143 (by omega) (by omega), show ¬ (4 : Nat) = 0 by omega, if_false]
    unfold wellC
    cases T2 <;> cases T3 <;> cases T4 <;> simp <;> (try have := hbd rfl) <;> (repeat' split) <;> first | rfl | omega
  by_cases k8 : 240 < c ∧ c < 244
  · have hb : Q.bnd c = (4, 128, 191) := by unfold Q.bnd; rw [if_neg k1, if_neg k2, if_neg k3, if_neg k4, if_neg k5, if_neg k6, if_neg k7, if_pos k8]
    rw [hb]; simp only [g3, e3 128 191 (by omega) (by omega), show ¬ (4 : Nat) = 0 by omega, if_false]
    unfold wellC
    cases T2 <;> cases T3 <;> cases T4 <;> simp <;> (try have := hbd rfl) <;> (repeat' split) <;> first | rfl | omega
  have hb : Q.bnd c = (0, 0, 0) := by unfold Q.bnd; rw [if_neg k1, if_neg k2, if_neg k3, if_neg k4, if_neg k5, if_neg k6, if_neg k7, if_neg k8]
  rw [hb]
  unfold wellC
  simp
  (repeat' split) <;> first | rfl | omega
end Go.Proofs.YtpmhdcmmlkjjmaaGreatDoor
