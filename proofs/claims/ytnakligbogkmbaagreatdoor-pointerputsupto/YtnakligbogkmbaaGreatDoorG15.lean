/- joined: FndA WalksA WalksB WalksD -/
import Derived.Test.YtnakligbogkmbaaGreatDoorG14
import Derived.WalkMore
set_option linter.unusedSimpArgs false
set_option linter.unusedVariables false
namespace Go.Proofs.YtnakligbogkmbaaGreatDoor
open Go.RowKit Go.Lib
set_option maxHeartbeats 8000000 in
set_option maxRecDepth 100000 in
theorem findcmp_any (k key : ByteArray) (cs : List Value) (w : World) (h6 : ∃ ek eb ei es eal enl ecl eam enm ecm, cs = [.int .i64 ek, .bool eb, .int .i64 ei, .string es, .slice eal enl ecl, .slice eam enm ecm]) :
 Calls Tryz.prog 55 #[.agg (.string k :: cs).toArray, .string key] w (JPost (cmpS k key) w) := by
 obtain ⟨ek, eb, ei, es, eal, enl, ecl, eam, enm, ecm, rfl⟩ := h6
 have B1 : Below w.heap.size w (w.alloc (.cells #[.string k, .int .i64 ek, .bool eb, .int .i64 ei, .string es, .slice eal enl ecl, .slice eam enm ecm] 39)) := (Below.refl _ _).alloc (Nat.le_refl _) _
 have hc := scompare_any k key (w.alloc (.cells #[.string k, .int .i64 ek, .bool eb, .int .i64 ei, .string es, .slice eal enl ecl, .slice eam enm ecm] 39))
 generalize cmpS k key = c at *
 go_enter Tryz.func55, Tryz.ntmps55
 go_wp2_with fail
 refine hc.mono ?_
 rintro e w3 ⟨rfl, b3⟩
 go_wp2_with fail
 go_ret
 exact ⟨rfl, B1.trans (b3.mono B1.size)⟩
def posF (l : List Mem) (key : ByteArray) : Nat := (l.filter (lessKey key)).length
theorem pos_le (l : List Mem) (key : ByteArray) : posF l key ≤ l.length := List.length_filter_le _ _
theorem pos_less {l : List Mem} {key : ByteArray} (h : Srt l) {t : Nat} (ht : t < l.length) : ltB (l[t]).1 key = decide (t < posF l key) := by
 have hf := srt_filter (key := key) h
 have hle := pos_le l key
 change _ = decide (t < posF l key)
 by_cases hp : t < posF l key
 ·rw [decide_eq_true hp]
  have hm : l[t] ∈ l.filter (lessKey key) := by
   rw [hf.1]
   have : (l.take (l.filter (lessKey key)).length)[t]? = some l[t] := by
    rw [List.getElem?_take, if_pos (show t < (l.filter (lessKey key)).length from hp), List.getElem?_eq_getElem ht]
   exact List.mem_of_getElem? this
  exact (List.mem_filter.1 hm).2
 ·rw [decide_eq_false hp]
  refine hf.2 l[t] ?_
  have : (l.drop (l.filter (lessKey key)).length)[t - posF l key]? = some l[t] := by
   rw [List.getElem?_drop, show (l.filter (lessKey key)).length + (t - posF l key) = t from by have : posF l key = (l.filter (lessKey key)).length := rfl; omega, List.getElem?_eq_getElem ht]
  exact List.mem_of_getElem? this
set_option maxHeartbeats 8000000 in
set_option maxRecDepth 100000 in
theorem search_any (l : List Mem) (key : ByteArray) (R : Bool) (S : Nat → Prop) (am : Option Addr) (cm bm om : Nat) (w : World) (ham : Headed am l.length cm bm om) (hl : liesM R w S l bm om) (hS : ∀ b, S b → b < w.heap.size) (hs : Srt l) (hn : l.length ≤ 1099511627776) :
 Calls Tryz.prog 54 #[.slice am l.length cm, .string key, .func (.func 55) #[] #[]] w (fun e w' => e = .returned (.tuple #[.int .i64 (posF l key : Int), .bool (keyIs key l[posF l key]?)]) ∧ Below w.heap.size w w') := by
 have HL : Hid (liesM R w S l bm om) := hl
 clear hl
 have hpl := pos_le l key
 have HP : Hid (∀ t (ht : t < l.length), ltB (l[t]).1 key = decide (t < posF l key)) := fun t ht => pos_less hs ht
 clear hs
 go_enter Tryz.func54, Tryz.ntmps54
 go_wp2_with fail
 go_loopw [9, 10] (fun e9 e10 wr => ∃ i j : Nat, i ≤ posF l key ∧ posF l key ≤ j ∧ j ≤ l.length ∧ e9 = .int .i64 (i : Int) ∧ e10 = .int .i64 (j : Int) ∧ Below w.heap.size w wr) (fun e9 e10 _ => (RowKit.intOf e10).toNat - (RowKit.intOf e9).toNat)
 case atStart => exact ⟨0, l.length, by omega, by omega, by omega, rfl, rfl, Below.refl _ _⟩
 case round =>
  obtain ⟨i, j, hi, hj, hjl, rfl, rfl, bj⟩ := hrel
  by_cases hij : i < j
  ·have y1 : (i : Int) < j := by omega
   obtain ⟨h, hh, hh1, hh2⟩ : ∃ h : Nat, ((i : Int) + (j : Int)) / 2 = (h : Int) ∧ i ≤ h ∧ h < j := ⟨(i + j) / 2, by omega, by omega, by omega⟩
   have hhl : h < l.length := by omega
   have y2 : (h : Int) < l.length := by omega
   obtain ⟨hSb, hks, csj, hrow, hlj⟩ := liesM_get HL.out h hhl
   obtain rfl : am = some ⟨bm, om, none⟩ := ham.at_.resolve_left (by omega)
   obtain ⟨ek, eb, ei, es, eal, enl, ecl, eam, enm, ecm, rfl⟩ := V.ten hlj
   have hP := HP.out h hhl
   obtain ⟨ekey, hek⟩ : ∃ ekey, (l[h]).1 = ekey := ⟨_, rfl⟩
   rw [hek] at hrow hP
   obtain ⟨q, q0, q1, q2, q3, q4, q5⟩ := row7 (hrow.keep (bj.block _ (hS _ hSb)))
   have hc := findcmp_any ekey key [.int .i64 ek, .bool eb, .int .i64 ei, .string es, .slice eal enl ecl, .slice eam enm ecm] wr ⟨_, _, _, _, _, _, _, _, _, _, rfl⟩
   have hlt := ltB_cmp ekey key
   have h1 := cmp_one ekey.data.toList key.data.toList
   change cmpS ekey key = -1 ∨ cmpS ekey key = 0 ∨ cmpS ekey key = 1 at h1
   rw [hP] at hlt
   generalize cmpS ekey key = c at *
   clear hrow hlj hP
   by_cases hp : h < posF l key
   ·have hcm : c = -1 := hlt.1 (decide_eq_true hp)
    subst hcm
    clear hlt h1
    go_wp2_with fail
    refine hc.mono ?_
    rintro e w3 ⟨rfl, b3⟩
    go_wp2_with fail
    go_roundw
    case rel => exact ⟨h + 1, j, by omega, by omega, by omega, by go_num, rfl, bj.trans (b3.mono bj.size)⟩
    case measure => simp [RowKit.intOf]; omega
   ·have hcm : ¬ c = -1 := fun e => hp (of_decide_eq_true (hlt.2 e))
    have y3 : ¬ c < 0 := by omega
    clear hlt h1
    go_wp2_with fail
    refine hc.mono ?_
    rintro e w3 ⟨rfl, b3⟩
    go_wp2_with fail
    go_roundw
    case rel => exact ⟨i, h, by omega, by omega, by omega, rfl, rfl, bj.trans (b3.mono bj.size)⟩
    case measure => simp [RowKit.intOf]; omega
  ·have hie : i = posF l key := by omega
   have y1 : ¬ (i : Int) < j := by omega
   by_cases hpos : i < l.length
   ·have y2 : (i : Int) < l.length := by omega
    obtain ⟨hSb, hks, csj, hrow, hlj⟩ := liesM_get HL.out i hpos
    obtain rfl : am = some ⟨bm, om, none⟩ := ham.at_.resolve_left (by omega)
    obtain ⟨ek, eb, ei, es, eal, enl, ecl, eam, enm, ecm, rfl⟩ := V.ten hlj
    have HK : Hid (keyIs key l[posF l key]? = ((l[i]).1.toList == key.toList)) := by show _ = _; rw [← hie, List.getElem?_eq_getElem hpos]; rfl
    obtain ⟨ekey, hek⟩ : ∃ ekey, (l[i]).1 = ekey := ⟨_, rfl⟩
    rw [hek] at hrow HK
    obtain ⟨q, q0, q1, q2, q3, q4, q5⟩ := row7 (hrow.keep (bj.block _ (hS _ hSb)))
    have hc := findcmp_any ekey key [.int .i64 ek, .bool eb, .int .i64 ei, .string es, .slice eal enl ecl, .slice eam enm ecm] wr ⟨_, _, _, _, _, _, _, _, _, _, rfl⟩
    have hz := cmpS_zero ekey key
    have HZ : Hid ((cmpS ekey key == 0) = (ekey.toList == key.toList)) := by show _ = _; rw [Bool.eq_iff_iff, beq_iff_eq, beq_iff_eq]; exact hz
    have HI : Hid (i = posF l key) := hie
    generalize cmpS ekey key = c at *
    clear hrow hlj hz hie
    go_wp2_with fail
    refine hc.mono ?_
    rintro e w3 ⟨rfl, b3⟩
    go_wp2_with fail
    go_ret2
    refine ⟨?_, bj.trans (b3.mono bj.size)⟩
    rw [HK.out, ← HZ.out, ← HI.out]
    rfl
   ·have y2 : ¬ (i : Int) < l.length := by omega
    have HK : Hid (keyIs key l[posF l key]? = false) := by show _ = _; rw [← hie, List.getElem?_eq_none (by omega)]; rfl
    have HI : Hid (i = posF l key) := hie
    clear hie
    go_wp2_with fail
    go_ret2
    refine ⟨?_, bj⟩
    rw [HK.out, ← HI.out]
    rfl
set_option maxHeartbeats 8000000 in
set_option maxRecDepth 100000 in
theorem find_any (l : List Mem) (key : ByteArray) (R : Bool) (S : Nat → Prop) (am : Option Addr) (cm bm om : Nat) (w : World) (ham : Headed am l.length cm bm om) (hl : liesM R w S l bm om) (hS : ∀ b, S b → b < w.heap.size) (hs : Srt l) (hn : l.length ≤ 1099511627776) :
 Calls Tryz.prog 34 #[.slice am l.length cm, .string key] w (fun e w' => e = .returned (.tuple #[.int .i64 (posF l key : Int), .bool (keyIs key l[posF l key]?)]) ∧ Below w.heap.size w w') := by
 have hc := search_any l key R S am cm bm om w ham hl hS hs hn
 clear hl
 generalize posF l key = p at *
 generalize keyIs key l[p]? = q at *
 go_enter Tryz.func34, Tryz.ntmps34
 go_wp2_with fail
 refine hc.mono ?_
 rintro e w1 ⟨rfl, b1⟩
 go_wp2_with fail
 go_ret2
 exact ⟨rfl, b1⟩
theorem srt_rise {l : List Mem} (h : riseB l = true) : Srt l := by
 have h0 : ∀ j, j < l.length → okAt l j = true := by
  simpa only [riseB, List.all_eq_true, List.mem_range] using h
 have h1 : ∀ (j : Nat) (hj : j + 1 < l.length), ltB (l[j]).1 (l[j + 1]).1 = true := fun j hj => by
  have := h0 (j + 1) hj
  rw [okAt, keyAt_eq hj, Nat.add_sub_cancel, keyAt_eq (by omega)] at this
  simpa using (Bool.and_eq_true _ _ ▸ this).2
 have h2 : ∀ (d i : Nat) (hd : i + (d + 1) < l.length), ltB (l[i]).1 (l[i + (d + 1)]).1 = true := by
  intro d
  induction d with
  | zero => intro i hd; exact h1 i hd
  | succ d ih =>
   intro i hd
   exact ltB_trans (ih i (by omega)) (h1 (i + (d + 1)) hd)
 refine List.pairwise_iff_getElem.2 fun i j hi hj hij => ?_
 have := h2 (j - i - 1) i (by omega)
 have e : i + (j - i - 1 + 1) = j := by omega
 simp only [e] at this
 exact this
set_option maxHeartbeats 8000000 in
theorem bounds_any (n : Nat) (hn : n < 256) (w : World) :
 Calls Tryz.prog 98 #[.int .u8 n] w fun e w' => e = .returned (.tuple #[.int .i64 (Q.bnd n).1, .int .u8 (Q.bnd n).2.1, .int .u8 (Q.bnd n).2.2]) ∧ w' = w := by
 have key : ∀ a b c : Nat, Q.bnd n = (a, b, c) → (Calls Tryz.prog 98 #[.int .u8 n] w fun e w' => e = .returned (.tuple #[.int .i64 a, .int .u8 b, .int .u8 c]) ∧ w' = w) → Calls Tryz.prog 98 #[.int .u8 n] w fun e w' => e = .returned (.tuple #[.int .i64 (Q.bnd n).1, .int .u8 (Q.bnd n).2.1, .int .u8 (Q.bnd n).2.2]) ∧ w' = w := by
  intro a b c e h
  rw [e]
  exact h
 have c9 : n < 128 ∨ (128 ≤ n ∧ n < 194) ∨ (194 ≤ n ∧ n < 224) ∨ n = 224 ∨ n = 237 ∨ (224 < n ∧ n < 240 ∧ n ≠ 237) ∨ n = 240 ∨ n = 244 ∨ (240 < n ∧ n < 244) ∨ 244 < n := by omega
 rcases c9 with h | h | h | h | h | h | h | h | h | h
 case inr.inr.inr.inl => subst h; refine key 3 160 191 (by decide) ?_; go_enter Tryz.func98, Tryz.ntmps98; go_wp2; go_ret3; exact ⟨rfl, rfl⟩
 case inr.inr.inr.inr.inl => subst h; refine key 3 128 159 (by decide) ?_; go_enter Tryz.func98, Tryz.ntmps98; go_wp2; go_ret3; exact ⟨rfl, rfl⟩
 case inr.inr.inr.inr.inr.inr.inl => subst h; refine key 4 144 191 (by decide) ?_; go_enter Tryz.func98, Tryz.ntmps98; go_wp2; go_ret3; exact ⟨rfl, rfl⟩
 case inr.inr.inr.inr.inr.inr.inr.inl => subst h; refine key 4 128 143 (by decide) ?_; go_enter Tryz.func98, Tryz.ntmps98; go_wp2; go_ret3; exact ⟨rfl, rfl⟩
 ·refine key 1 0 0 (by simp [Q.bnd, h]) ?_
  have z1 : (n : Int) < 128 := by omega
  go_enter Tryz.func98, Tryz.ntmps98
  go_wp2
  go_ret3
  exact ⟨rfl, rfl⟩
 all_goals
  have z1 : ¬ (n : Int) < 128 := by omega
  have b1 : ((n : Int) == 224) = false := by rw [beq_eq_false_iff_ne]; omega
  have b2 : ((n : Int) == 237) = false := by rw [beq_eq_false_iff_ne]; omega
  have b3 : ((n : Int) == 240) = false := by rw [beq_eq_false_iff_ne]; omega
  have b4 : ((n : Int) == 244) = false := by rw [beq_eq_false_iff_ne]; omega
 focus
  refine key 0 0 0 ?_ ?_
  ·unfold Q.bnd; repeat' split
   all_goals first | rfl | (exfalso; omega)
  have d1 : ¬ (194 : Int) ≤ n := by omega
  have d2 : ¬ (224 : Int) < n := by omega
  have d3 : ¬ (240 : Int) < n := by omega
 rotate_left 1
 focus
  refine key 2 128 191 ?_ ?_
  ·unfold Q.bnd; repeat' split
   all_goals first | rfl | (exfalso; omega)
  have d1 : (194 : Int) ≤ n := by omega
  have d2 : (n : Int) < 224 := by omega
 rotate_left 1
 focus
  refine key 3 128 191 ?_ ?_
  ·unfold Q.bnd; repeat' split
   all_goals first | rfl | (exfalso; omega)
  have d1 : (194 : Int) ≤ n := by omega
  have d2 : ¬ (n : Int) < 224 := by omega
  have d3 : (224 : Int) < n := by omega
  have d4 : (n : Int) < 240 := by omega
 rotate_left 1
 focus
  refine key 4 128 191 ?_ ?_
  ·unfold Q.bnd; repeat' split
   all_goals first | rfl | (exfalso; omega)
  have d1 : (194 : Int) ≤ n := by omega
  have d2 : ¬ (n : Int) < 224 := by omega
  have d3 : (224 : Int) < n := by omega
  have d4 : ¬ (n : Int) < 240 := by omega
  have d5 : (240 : Int) < n := by omega
  have d6 : (n : Int) < 244 := by omega
 rotate_left 1
 focus
  refine key 0 0 0 ?_ ?_
  ·unfold Q.bnd; repeat' split
   all_goals first | rfl | (exfalso; omega)
  have d1 : (194 : Int) ≤ n := by omega
  have d2 : ¬ (n : Int) < 224 := by omega
  have d3 : (224 : Int) < n := by omega
  have d4 : ¬ (n : Int) < 240 := by omega
  have d5 : (240 : Int) < n := by omega
  have d6 : ¬ (n : Int) < 244 := by omega
 rotate_left 1
 all_goals
  go_enter Tryz.func98, Tryz.ntmps98
  go_wp2
  go_ret3
  exact ⟨rfl, rfl⟩
theorem drop_cons (s : ByteArray) (k : Nat) (h : k < s.size) : s.data.toList.drop k = s[k] :: s.data.toList.drop (k + 1) := by
 rw [List.drop_eq_getElem_cons (by simpa using h)]
 rfl
theorem drop_end (s : ByteArray) (k : Nat) (h : s.size ≤ k) : s.data.toList.drop k = [] := by
 rw [List.drop_eq_nil_iff]
 simpa using h
theorem ret_ib {a b : Int} {p q : Bool} (h : a = b) (h2 : p = q) : Ending.returned (.tuple #[.int .i64 a, .bool p]) = .returned (.tuple #[.int .i64 b, .bool q]) := by rw [h, h2]
set_option maxRecDepth 100000 in
set_option maxHeartbeats 8000000 in
theorem next_any (s : ByteArray) (a : Int) (k : Nat) (hak : a = k) (hk : k ≤ s.size) (hs : s.size ≤ 140737488351232) (w : World) :
 Calls Tryz.prog 79 #[.string s, .int .i64 a] w fun e w' => e = .returned (.tuple #[.int .i64 (k + (Q.nxt (s.data.toList.drop k)).1 : Int), .bool (Q.nxt (s.data.toList.drop k)).2]) ∧ w' = w := by
 subst hak
 by_cases h0 : k < s.size
 ·have z0 : (k : Int) < s.size := by omega
  have hd := drop_cons s k h0
  have cb := bounds_any s[k].toNat s[k].toNat_lt w
  have hn4 := Q.bnd_le s[k].toNat
  have hR : Q.nxt (s.data.toList.drop k) = if (Q.bnd s[k].toNat).1 = 0 then (0, false) else Q.nxtGo (Q.bnd s[k].toNat).1 1 (Q.bnd s[k].toNat).2.1 (Q.bnd s[k].toNat).2.2 (s.data.toList.drop (k + 1)) := by
   rw [hd]; rfl
  generalize hR0 : Q.nxt (s.data.toList.drop k) = R at *
  have hlo : (Q.bnd s[k].toNat).2.1 < 256 ∧ (Q.bnd s[k].toNat).2.2 < 256 := by
   unfold Q.bnd; repeat' split
   all_goals simp
  generalize Q.bnd s[k].toNat = B at *
  obtain ⟨n, lo, hi⟩ := B
  simp only at cb hn4 hR hlo
  clear hd hR0
  by_cases hz : n = 0
  ·subst hz
   rw [if_pos rfl] at hR
   subst hR
   go_enter Tryz.func79, Tryz.ntmps79
   go_wp2_with (go_at_call 98; refine cb.mono ?_; rintro e w' ⟨rfl, rfl⟩)
   go_ret2
   exact ⟨ret_ib (by simp) rfl, rfl⟩
  ·rw [if_neg hz] at hR
   have HR : Hid (R = Q.nxtGo n 1 lo hi (s.data.toList.drop (k + 1))) := hR
   clear hR
   have bz : ((n : Int) == 0) = false := by rw [beq_eq_false_iff_ne]; omega
   go_enter Tryz.func79, Tryz.ntmps79
   go_wp2_with (go_at_call 98; refine cb.mono ?_; rintro e w' ⟨rfl, rfl⟩)
   go_loop [7, 8, 9] (fun lo' hi' j' => ∃ j l g : Nat, 1 ≤ j ∧ j ≤ n ∧ l < 256 ∧ g < 256 ∧ lo' = .int .u8 l ∧ hi' = .int .u8 g ∧ j' = .int .i64 j ∧ Hid (R = Q.nxtGo n j l g (s.data.toList.drop (k + j)))) (fun _ _ j' => n - (RowKit.intOf j').toNat)
   case atStart => exact ⟨1, lo, hi, by omega, by omega, hlo.1, hlo.2, rfl, rfl, rfl, HR⟩
   case round =>
    obtain ⟨j, l, g, hj1, hj2, hl, hg, rfl, rfl, rfl, HJ⟩ := hrel
    clear HR hlo cb
    by_cases hjn : j < n
    ·have y1 : (j : Int) < n := by omega
     by_cases hend : k + j < s.size
     ·have y2 : ((k : Int) + j) < s.size := by omega
      have hd := drop_cons s (k + j) hend
      by_cases c1 : s[k + j].toNat < l
      ·have hfin : R = (j, false) := by
        rw [HJ.out, hd, Q.nxtGo, if_neg (by omega), if_pos (Or.inl c1)]
       subst hfin
       have y3 : (s[k + j].toNat : Int) < l := by omega
       clear HJ hd
       go_wp2
       go_ret2
       exact ⟨ret_ib (by simp) rfl, rfl⟩
      ·by_cases c2 : g < s[k + j].toNat
       ·have hfin : R = (j, false) := by
         rw [HJ.out, hd, Q.nxtGo, if_neg (by omega), if_pos (Or.inr c2)]
        subst hfin
        have y3 : ¬ (s[k + j].toNat : Int) < l := by omega
        have y4 : (g : Int) < s[k + j].toNat := by omega
        clear HJ hd
        go_wp2
        go_ret2
        exact ⟨ret_ib (by simp) rfl, rfl⟩
       ·have HN : Hid (R = Q.nxtGo n (j + 1) 128 191 (s.data.toList.drop (k + (j + 1)))) := by
         show R = _
         rw [HJ.out, hd, Q.nxtGo, if_neg (by omega), if_neg (by omega)]
         rfl
        have y3 : ¬ (s[k + j].toNat : Int) < l := by omega
        have y4 : ¬ (g : Int) < s[k + j].toNat := by omega
        clear HJ hd
        go_wp2
        go_round
        case rel => exact ⟨j + 1, 128, 191, by omega, by omega, by omega, by omega, rfl, rfl, by go_num, HN⟩
        case measure => simp [RowKit.intOf]; omega
     ·have hd := drop_end s (k + j) (by omega)
      have hfin : R = (j, false) := by
       rw [HJ.out, hd, Q.nxtGo, if_neg (by omega)]
      subst hfin
      have y2 : (s.size : Int) ≤ (k : Int) + j := by omega
      clear HJ hd
      go_wp2
      go_ret2
      exact ⟨ret_ib (by simp) rfl, rfl⟩
    ·have hfin : R = (n, true) := by
      rw [HJ.out]
      cases s.data.toList.drop (k + j) <;> rw [Q.nxtGo, if_pos (by omega)]
     subst hfin
     have y1 : ¬ (j : Int) < n := by omega
     clear HJ
     go_wp2
     go_ret2
     exact ⟨ret_ib (by simp) rfl, rfl⟩
 ·have hd := drop_end s k (by omega)
  rw [hd]
  have z0 : ¬ (k : Int) < s.size := by omega
  have z1 : (s.size : Int) ≤ k := by omega
  clear hd
  go_enter Tryz.func79, Tryz.ntmps79
  go_wp2
  go_ret2
  exact ⟨ret_ib (by simp [Q.nxt]) rfl, rfl⟩
set_option maxRecDepth 100000 in
set_option maxHeartbeats 8000000 in
theorem refValid_any (s : ByteArray) (hs : s.size ≤ 140737488351232) (w : World) :
 Calls Tryz.prog 63 #[.string s] w fun e w' => e = .returned (.bool (Lib.validD s.data.toList)) ∧ w' = w := by
 generalize hV : Lib.validD s.data.toList = V
 have HV : Hid (Lib.validD s.data.toList = V) := hV
 clear hV
 go_enter Tryz.func63, Tryz.ntmps63
 go_wp2
 go_loop [3] (fun a => ∃ k : Nat, k ≤ s.size ∧ a = .int .i64 k ∧ Hid (Lib.validD (s.data.toList.drop k) = V)) (fun a => s.size - (RowKit.intOf a).toNat)
 case atStart => exact ⟨0, by omega, rfl, HV⟩
 case round =>
  obtain ⟨k, hk, rfl, HK⟩ := hrel
  by_cases hlt : k < s.size
  ·have y1 : (k : Int) < s.size := by omega
   have hne : s.data.toList.drop k ≠ [] := by rw [drop_cons s k hlt]; simp
   have hst := Q.valid_step (s.data.toList.drop k) hne
   have hle := Q.nxt_le (s.data.toList.drop k)
   have hlen : (s.data.toList.drop k).length = s.size - k := by simp
   rw [hlen] at hle
   have cn := next_any s k k rfl hk hs w
   have HST : Hid (V = if (Q.nxt (s.data.toList.drop k)).2 then Lib.validD (s.data.toList.drop (k + (Q.nxt (s.data.toList.drop k)).1)) else false) := by
    show V = _
    rw [← HK.out, hst, List.drop_drop]
   clear hst hne hlen HK HV
   generalize Q.nxt (s.data.toList.drop k) = R at *
   obtain ⟨m, b⟩ := R
   simp only at hle cn
   cases b
   ·have hfin : V = false := by rw [HST.out]; rfl
    subst hfin
    clear HST
    go_wp2_with (go_at_call 79; refine cn.mono ?_; rintro e w' ⟨rfl, rfl⟩)
    go_ret
    exact ⟨rfl, rfl⟩
   ·have hm := hle.2.2 rfl
    have HN : Hid (Lib.validD (s.data.toList.drop (k + m)) = V) := by
     show _ = V
     rw [HST.out]; rfl
    clear HST
    go_wp2_with (go_at_call 79; refine cn.mono ?_; rintro e w' ⟨rfl, rfl⟩)
    go_round
    case rel => exact ⟨k + m, by omega, by go_num, HN⟩
    case measure => simp [RowKit.intOf]; omega
  ·have y1 : ¬ (k : Int) < s.size := by omega
   have hfin : V = true := by
    rw [← HK.out, drop_end s k (by omega)]
    rfl
   subst hfin
   clear HK HV
   go_wp2
   go_ret
   exact ⟨rfl, rfl⟩
theorem utab_below {B : Nat} {w w' : World} (h : Utf8Tabs 0 1 w) (hb : Below B w w') (hB : 1 < B) : Utf8Tabs 0 1 w' :=
 ⟨fun c hc => (hb.cell (p := ⟨0, c, none⟩) (by show 0 < B; omega)).trans (h.1 c hc), fun i hi => ⟨(hb.cell (p := ⟨1, 2 * i, none⟩) hB).trans (h.2 i hi).1, (hb.cell (p := ⟨1, 2 * i + 1, none⟩) hB).trans (h.2 i hi).2⟩⟩
set_option maxHeartbeats 400000 in
theorem valid_any (s : ByteArray) (w : World) (hs : s.size ≤ 140737488351232) (hU : Utf8Tabs 0 1 w) :
 Calls Tryz.prog 48 #[.string s] w fun e w' => e = .returned (.bool (validD s.data.toList)) ∧ Below w.heap.size w w' := by
 have c := validString_any s w (by omega) hU
 generalize validD s.data.toList = V at *
 clear hU
 go_enter Tryz.func48, Tryz.ntmps48
 go_wp2_with (go_at_call 67; refine c.mono ?_; rintro e w' ⟨rfl, hb⟩)
 go_ret
 exact ⟨rfl, hb⟩
theorem alloc_last (w : World) (o : Obj) : (w.alloc o).heap[w.heap.size]? = some o := by
 show (w.heap.push o)[w.heap.size]? = some o
 simp
end Go.Proofs.YtnakligbogkmbaaGreatDoor
