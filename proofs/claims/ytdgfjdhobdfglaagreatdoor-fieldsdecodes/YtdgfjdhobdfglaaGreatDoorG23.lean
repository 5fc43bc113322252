/- joined: Dig RdE RdF -/
import Derived.Handy
import Derived.Test.YtdgfjdhobdfglaaGreatDoorG22
import Derived.Laws.DeepBits32
set_option linter.unusedSimpArgs false
set_option linter.unusedVariables false
set_option maxHeartbeats 64000000
namespace Go.Proofs.YtdgfjdhobdfglaaGreatDoor
open Go.RowKit
theorem ret_int {k : IntKind} {a b : Int} (h : a = b) : Ending.returned (.int k a) = .returned (.int k b) := by rw [h]
theorem digit_any (n : Nat) (hn : n < 256) (w : World) :
 Calls Tryz.prog 207 #[.int .u8 n] w fun e w' => e = .returned (.int .i32 (Q.dig n)) /\ w' = w := by
 have c7 : (48 <= n /\ n <= 57) \/ (97 <= n /\ n <= 102) \/ (65 <= n /\ n <= 70) \/ (n < 48) \/ (58 <= n /\ n <= 64) \/ (71 <= n /\ n <= 96) \/ (103 <= n) := by omega
 rcases c7 with h | h | h | h | h | h | h
 focus
  have e : Q.dig n = (n : Int) - 48 := by
   unfold Q.dig; repeat' split
   all_goals first | rfl | (exfalso; omega)
  rw [e]
  clear e
  have f0 : (48 : Int) <= n := by omega
  have f1 : (n : Int) <= 57 := by omega
 rotate_left 1
 focus
  have e : Q.dig n = (n : Int) - 87 := by
   unfold Q.dig; repeat' split
   all_goals first | rfl | (exfalso; omega)
  rw [e]
  clear e
  have f0 : (48 : Int) <= n := by omega
  have f1 : ¬ (n : Int) <= 57 := by omega
  have f2 : (97 : Int) <= n := by omega
  have f3 : (n : Int) <= 102 := by omega
 rotate_left 1
 focus
  have e : Q.dig n = (n : Int) - 55 := by
   unfold Q.dig; repeat' split
   all_goals first | rfl | (exfalso; omega)
  rw [e]
  clear e
  have f0 : (48 : Int) <= n := by omega
  have f1 : ¬ (n : Int) <= 57 := by omega
  have f2 : ¬ (97 : Int) <= n := by omega
  have f3 : (65 : Int) <= n := by omega
  have f4 : (n : Int) <= 70 := by omega
 rotate_left 1
 focus
  have e : Q.dig n = -1 := by
   unfold Q.dig; repeat' split
   all_goals first | rfl | (exfalso; omega)
  rw [e]
  clear e
  have f0 : ¬ (48 : Int) <= n := by omega
  have f1 : ¬ (97 : Int) <= n := by omega
  have f2 : ¬ (65 : Int) <= n := by omega
 rotate_left 1
 focus
  have e : Q.dig n = -1 := by
   unfold Q.dig; repeat' split
   all_goals first | rfl | (exfalso; omega)
  rw [e]
  clear e
  have f0 : (48 : Int) <= n := by omega
  have f1 : ¬ (n : Int) <= 57 := by omega
  have f2 : ¬ (97 : Int) <= n := by omega
  have f3 : ¬ (65 : Int) <= n := by omega
 rotate_left 1
 focus
  have e : Q.dig n = -1 := by
   unfold Q.dig; repeat' split
   all_goals first | rfl | (exfalso; omega)
  rw [e]
  clear e
  have f0 : (48 : Int) <= n := by omega
  have f1 : ¬ (n : Int) <= 57 := by omega
  have f2 : ¬ (97 : Int) <= n := by omega
  have f3 : (65 : Int) <= n := by omega
  have f4 : ¬ (n : Int) <= 70 := by omega
 rotate_left 1
 focus
  have e : Q.dig n = -1 := by
   unfold Q.dig; repeat' split
   all_goals first | rfl | (exfalso; omega)
  rw [e]
  clear e
  have f0 : (48 : Int) <= n := by omega
  have f1 : ¬ (n : Int) <= 57 := by omega
  have f2 : (97 : Int) <= n := by omega
  have f3 : ¬ (n : Int) <= 102 := by omega
  have f4 : (65 : Int) <= n := by omega
  have f5 : ¬ (n : Int) <= 70 := by omega
 rotate_left 1
 all_goals
  go_enter Tryz.func207, Tryz.ntmps207
  go_wp2
  go_ret
  exact ⟨ret_int (by first | rfl | omega | go_arith), rfl⟩
theorem refDigit_any (n : Nat) (hn : n < 256) (w : World) :
 Calls Tryz.prog 150 #[.int .u8 n] w fun e w' => e = .returned (.int .i64 (Q.dig n)) /\ w' = w := by
 have c7 : (48 <= n /\ n <= 57) \/ (97 <= n /\ n <= 102) \/ (65 <= n /\ n <= 70) \/ (n < 48) \/ (58 <= n /\ n <= 64) \/ (71 <= n /\ n <= 96) \/ (103 <= n) := by omega
 rcases c7 with h | h | h | h | h | h | h
 focus
  have e : Q.dig n = (n : Int) - 48 := by
   unfold Q.dig; repeat' split
   all_goals first | rfl | (exfalso; omega)
  rw [e]
  clear e
  have f0 : (48 : Int) <= n := by omega
  have f1 : (n : Int) <= 57 := by omega
 rotate_left 1
 focus
  have e : Q.dig n = (n : Int) - 87 := by
   unfold Q.dig; repeat' split
   all_goals first | rfl | (exfalso; omega)
  rw [e]
  clear e
  have f0 : (48 : Int) <= n := by omega
  have f1 : ¬ (n : Int) <= 57 := by omega
  have f2 : (97 : Int) <= n := by omega
  have f3 : (n : Int) <= 102 := by omega
 rotate_left 1
 focus
  have e : Q.dig n = (n : Int) - 55 := by
   unfold Q.dig; repeat' split
   all_goals first | rfl | (exfalso; omega)
  rw [e]
  clear e
  have f0 : (48 : Int) <= n := by omega
  have f1 : ¬ (n : Int) <= 57 := by omega
  have f2 : ¬ (97 : Int) <= n := by omega
  have f3 : (65 : Int) <= n := by omega
  have f4 : (n : Int) <= 70 := by omega
 rotate_left 1
 focus
  have e : Q.dig n = -1 := by
   unfold Q.dig; repeat' split
   all_goals first | rfl | (exfalso; omega)
  rw [e]
  clear e
  have f0 : ¬ (48 : Int) <= n := by omega
  have f1 : ¬ (97 : Int) <= n := by omega
  have f2 : ¬ (65 : Int) <= n := by omega
 rotate_left 1
 focus
  have e : Q.dig n = -1 := by
   unfold Q.dig; repeat' split
   all_goals first | rfl | (exfalso; omega)
  rw [e]
  clear e
  have f0 : (48 : Int) <= n := by omega
  have f1 : ¬ (n : Int) <= 57 := by omega
  have f2 : ¬ (97 : Int) <= n := by omega
  have f3 : ¬ (65 : Int) <= n := by omega
 rotate_left 1
 focus
  have e : Q.dig n = -1 := by
   unfold Q.dig; repeat' split
   all_goals first | rfl | (exfalso; omega)
  rw [e]
  clear e
  have f0 : (48 : Int) <= n := by omega
  have f1 : ¬ (n : Int) <= 57 := by omega
  have f2 : ¬ (97 : Int) <= n := by omega
  have f3 : (65 : Int) <= n := by omega
  have f4 : ¬ (n : Int) <= 70 := by omega
 rotate_left 1
 focus
  have e : Q.dig n = -1 := by
   unfold Q.dig; repeat' split
   all_goals first | rfl | (exfalso; omega)
  rw [e]
  clear e
  have f0 : (48 : Int) <= n := by omega
  have f1 : ¬ (n : Int) <= 57 := by omega
  have f2 : (97 : Int) <= n := by omega
  have f3 : ¬ (n : Int) <= 102 := by omega
  have f4 : (65 : Int) <= n := by omega
  have f5 : ¬ (n : Int) <= 70 := by omega
 rotate_left 1
 all_goals
  go_enter Tryz.func150, Tryz.ntmps150
  go_wp2
  go_ret
  exact ⟨ret_int (by first | rfl | omega | go_arith), rfl⟩
theorem goesOn_any (c d : Int) (hc0 : 0 <= c) (hc : c <= 65535) (hd0 : 0 <= d) (hd : d <= 15) (i : Nat) (hi : i < 4) (aw : Bool) (w : World) :
 Calls Tryz.prog 208 #[.int .i32 c, .int .i32 d, .int .i64 i, .bool aw] w fun e w' => e = .returned (.bool (Q.goes c d i aw)) /\ w' = w := by
 have ci : i = 0 \/ i = 1 \/ i = 2 \/ i = 3 := by omega
 rcases ci with rfl | rfl | rfl | rfl
 ·cases aw
  ·go_enter Tryz.func208, Tryz.ntmps208
   go_wp2
   go_ret
   exact ⟨by simp [Q.goes], rfl⟩
  ·go_enter Tryz.func208, Tryz.ntmps208
   go_wp2
   go_ret
   exact ⟨by simp [Q.goes], rfl⟩
 ·by_cases h13 : c = 13
  ·subst h13
   cases aw
   ·go_enter Tryz.func208, Tryz.ntmps208
    go_wp2
    go_ret
    exact ⟨by simp [Q.goes], rfl⟩
   ·go_enter Tryz.func208, Tryz.ntmps208
    go_wp2
    go_ret
    exact ⟨by simp [Q.goes], rfl⟩
  ·have hb : (c == 13) = false := by simpa using h13
   cases aw
   ·go_enter Tryz.func208, Tryz.ntmps208
    go_wp2
    go_ret
    exact ⟨by simp [Q.goes, hb], rfl⟩
   ·go_enter Tryz.func208, Tryz.ntmps208
    go_wp2
    go_ret
    exact ⟨by simp [Q.goes, hb], rfl⟩
 ·go_enter Tryz.func208, Tryz.ntmps208
  go_wp2
  go_ret
  exact ⟨rfl, rfl⟩
 ·go_enter Tryz.func208, Tryz.ntmps208
  go_wp2
  go_ret
  exact ⟨rfl, rfl⟩
end Go.Proofs.YtdgfjdhobdfglaaGreatDoor
set_option maxRecDepth 100000
namespace Go.Proofs.YtdgfjdhobdfglaaGreatDoor
open Go.RowKit Go.Lib
theorem or16 (c d : Nat) (hc : c < 65536) (hd : d < 16) : bits .or .i32 ((c : Int) * 16) (d : Int) = ((16 * c + d : Nat) : Int) := by
 show IntKind.i32.wrap ((BitVec.ofInt 32 ((c : Int) * 16) ||| BitVec.ofInt 32 (d : Int)).toNat : Int) = _
 have e : (c : Int) * 16 = ((c * 16 : Nat) : Int) := by omega
 have e2 : c * 16 ||| d = c * 16 + d := by
  have h : d < 2 ^ 4 := hd
  rw [show c * 16 = c <<< 4 by rw [Nat.shiftLeft_eq], Nat.shiftLeft_add_eq_or_of_lt h]
 rw [e, BitVec.toNat_or, ofInt_u32 (c * 16) (by omega), ofInt_u32 d (by omega), e2, wrap_i32_small _ (by omega) (by omega)]
 omega
set_option maxHeartbeats 8000000 in
theorem qdigits_any (B b : Nat) (s : ByteArray) (k : Nat) (l : List UInt8) (aw : Bool) (w : World) (h : Rd B b s k l w) (hs : s.size <= 281474976710656) (hk : k <= s.size) :
 Calls Tryz.prog 203 #[.pointer (some ⟨b, 0, none⟩), .bool aw] w fun e w' => e = .returned (.tuple #[.int .i32 (Q.digs aw 4 0 0 (s.data.toList.drop k)).1, .bool (Q.digs aw 4 0 0 (s.data.toList.drop k)).2.2]) /\ Rd B b s (k + (Q.digs aw 4 0 0 (s.data.toList.drop k)).2.1) l w' /\ Below B w w' := by
 have hB := h.1
 obtain ⟨R, hR⟩ : ∃ R, R = Q.digs aw 4 0 0 (s.data.toList.drop k) := ⟨_, rfl⟩
 rw [<- hR]
 have HR : Hid (R = Q.digs aw 4 0 0 (s.data.toList.drop k)) := hR
 clear hR
 go_enter Tryz.func203, Tryz.ntmps203
 go_wp2
 go_loopw [6, 9] (fun c i wr => ∃ j cN : Nat, j <= 4 /\ i = .int .i64 (j : Int) /\ c = .int .i32 (cN : Int) /\ cN < 16 ^ j /\ k + j <= s.size /\ Rd B b s (k + j) l wr /\ Below B w wr /\ Hid (R = Q.digs aw (4 - j) j cN (s.data.toList.drop (k + j)))) (fun _ i _ => 4 - (RowKit.intOf i).toNat)
 case atStart => exact ⟨0, 0, by omega, rfl, rfl, by decide, hk, h, Below.refl _ _, HR⟩
 case round =>
  obtain ⟨j, cN, hj, rfl, rfl, hc, hkj, Rj, bj, HJ⟩ := hrel
  clear HR
  obtain ⟨q, hq⟩ : ∃ q, q = k + j := ⟨_, rfl⟩
  rw [<- hq] at hkj Rj HJ
  have HQ : Hid (q = k + j) := hq
  clear hq
  by_cases hj4 : j < 4
  ·have y1 : (j : Int) < 4 := by omega
   have hc4 : cN < 4096 := by
    have : 16 ^ j <= 4096 := by
     have cj : j = 0 \/ j = 1 \/ j = 2 \/ j = 3 := by omega
     rcases cj with rfl | rfl | rfl | rfl <;> decide
    omega
   have hc16 : 16 * cN + 15 < 16 ^ (j + 1) := by rw [Nat.pow_succ]; omega
   obtain ⟨p, v, hr⟩ := Rj.at
   have c0 := hr.c0
   have c1 := hr.c1
   have f1 := hr.fz 1
   clear hr
   by_cases hend : q = s.size
   ·have y2 : ((q : Int) == (s.size : Int)) = true := by rw [beq_iff_eq]; omega
    have hfin : R = (0, j, false) := by
     rw [HJ.out, drop_endW s q (by omega)]
     obtain ⟨r, hr⟩ : ∃ r, 4 - j = r + 1 := ⟨3 - j, by omega⟩
     rw [hr, Q.digs]
    subst hfin
    have HE : Hid (q = s.size) := hend
    clear HJ hend
    go_wp2
    go_quiet (fail)
    go_wp2
    go_ret2
    exact ⟨rfl, by have := Rj.drewN nq; rw [HQ.out] at this; exact this, below_drewN bj nq⟩
   ·have hlt : q < s.size := by omega
    have y2 : ((q : Int) == (s.size : Int)) = false := by rw [beq_eq_false_iff_ne]; omega
    have y3 : (q : Int) < s.size := by omega
    have hd := drop_consW s q hlt
    have hdl := Q.dig_le s[q].toNat
    obtain ⟨r, hr⟩ : ∃ r, 4 - j = r + 1 := ⟨3 - j, by omega⟩
    have cd : ∀ w, _ := fun w => digit_any s[q].toNat s[q].toNat_lt w
    have HJ2 : Hid (R = if Q.dig s[q].toNat < 0 \/ Q.goes cN (Q.dig s[q].toNat) j aw = false then (0, j, false) else Q.digs aw r (j + 1) (16 * cN + (Q.dig s[q].toNat).toNat) (s.data.toList.drop (q + 1))) := by
     show R = _
     rw [HJ.out, hd, hr, Q.digs]
    generalize Q.dig s[q].toNat = D at *
    have CD : Hid (∀ w : World, Calls Tryz.prog 207 #[.int .u8 (s[q].toNat : Int)] w fun e w' => e = .returned (.int .i32 D) /\ w' = w) := cd
    have HD : Hid (4 - j = r + 1) := hr
    clear HJ hend hd cd hr
    by_cases hneg : D < 0
    ·have hfin : R = (0, j, false) := by rw [HJ2.out, if_pos (Or.inl hneg)]
     subst hfin
     clear HJ2
     go_wp2
     go_quiet (fail)
     go_wp2
     go_quiet ((go_at_call 207; exact (CD.out _).mono (fun _ _ h => ⟨h.1, _, h.2⟩)))
     go_wp2
     go_ret2
     refine ⟨rfl, ?_, below_drewN bj _⟩
     rw [<- HQ.out]
     exact Rj.drewN _
    ·have hnn : 0 <= D := by omega
     have cg : ∀ w, _ := fun w => goesOn_any (cN : Int) D (by omega) (by omega) hnn (by omega) j hj4 aw w
     have HJ3 : Hid (R = if Q.goes cN D j aw = false then (0, j, false) else Q.digs aw r (j + 1) (16 * cN + D.toNat) (s.data.toList.drop (q + 1))) := by
      show R = _
      rw [HJ2.out]
      simp [hneg]
     cases hG : Q.goes cN D j aw
     ·rw [hG] at cg
      have hfin : R = (0, j, false) := by rw [HJ3.out, if_pos hG]
      subst hfin
      have CG : Hid (∀ w : World, Calls Tryz.prog 208 #[.int .i32 (cN : Int), .int .i32 D, .int .i64 (j : Int), .bool aw] w fun e w' => e = .returned (.bool false) /\ w' = w) := cg
      clear HJ2 HJ3 hG cg
      go_wp2
      go_quiet (fail)
      go_wp2
      go_quiet ((go_at_call 207; exact (CD.out _).mono (fun _ _ h => ⟨h.1, _, h.2⟩)))
      go_wp2_with (go_at_call 208; refine (CG.out _).mono ?_; rintro e w1 ⟨rfl, rfl⟩)
      go_ret2
      refine ⟨rfl, ?_, below_drewN bj _⟩
      rw [<- HQ.out]
      exact Rj.drewN _
     ·rw [hG] at cg
      have HN : Hid (R = Q.digs aw r (j + 1) (16 * cN + D.toNat) (s.data.toList.drop (q + 1))) := by
       show R = _
       rw [HJ3.out, if_neg (by rw [hG]; simp)]
      have CG : Hid (∀ w : World, Calls Tryz.prog 208 #[.int .i32 (cN : Int), .int .i32 D, .int .i64 (j : Int), .bool aw] w fun e w' => e = .returned (.bool true) /\ w' = w) := cg
      clear HJ2 HJ3 hG cg
      go_wp2
      go_quiet (fail)
      go_wp2
      go_quiet ((go_at_call 207; exact (CD.out _).mono (fun _ _ h => ⟨h.1, _, h.2⟩)))
      go_wp2_with (go_at_call 208; refine (CG.out _).mono ?_; rintro e w1 ⟨rfl, rfl⟩)
      go_roundw
      case rel =>
       have hD : D = (D.toNat : Int) := by omega
       have hor := or16 cN D.toNat (by omega) (by omega)
       rw [<- hD] at hor
       have hq := HQ.out
       refine ⟨j + 1, 16 * cN + D.toNat, by omega, by go_num, by rw [hor], by omega, by omega, ?_, ?_, ?_⟩
       ·have e : k + (j + 1) = q + 1 := by omega
        rw [e]
        exact (Rj.drewN _).put1 (q + 1) _ (by omega)
       ·exact (below_drewN bj _).setCell (p := ⟨b, 1, none⟩) hB _
       ·have e : k + (j + 1) = q + 1 := by omega
        have e2 : 4 - (j + 1) = r := by have := HD.out; omega
        rw [e, e2]
        exact HN
      case measure => simp [RowKit.intOf]; omega
  ·have hj4' : j = 4 := by omega
   have y1 : ¬ (j : Int) < 4 := by omega
   have hfin : R = (cN, j, true) := by
    rw [HJ.out]
    have e : 4 - j = 0 := by omega
    rw [e, Q.digs]
   subst hfin
   clear HJ hj4'
   go_wp2
   go_ret2
   refine ⟨rfl, ?_, bj⟩
   rw [<- HQ.out]
   exact Rj
end Go.Proofs.YtdgfjdhobdfglaaGreatDoor
set_option maxRecDepth 100000
set_option maxHeartbeats 64000000
namespace Go.Proofs.YtdgfjdhobdfglaaGreatDoor
open Go.RowKit Go.Lib
theorem Q.saidN_hi (n : Nat) (h : 128 <= n) : Q.saidN n = 0 := by
 unfold Q.saidN
 repeat' split
 all_goals first | omega | rfl
theorem said_any (n : Nat) (hn : n < 256) (w : World) (hT : SaidT w) :
 Calls Tryz.prog 194 #[.int .u8 n] w fun e w' => e = .returned (.int .u8 (Q.saidN n)) /\ w' = w := by
 by_cases h : n < 128
 ·have hc := hT n h
  have hz : (n : Int) < 128 := by omega
  generalize Q.saidN n = L at *
  clear hT
  go_enter Tryz.func194, Tryz.ntmps194
  go_wp2
  go_ret
  exact ⟨rfl, rfl⟩
 ·have hz : (128 : Int) <= n := by omega
  rw [Q.saidN_hi n (by omega)]
  clear hT
  go_enter Tryz.func194, Tryz.ntmps194
  go_wp2
  go_ret
  exact ⟨rfl, rfl⟩
theorem hit_yes {s : ByteArray} {k c : Nat} (h : hit s k c = true) : ∃ hk : k < s.size, s[k].toNat = c := by simpa [hit] using h
theorem hit_no {s : ByteArray} {k c : Nat} (h : hit s k c = false) (x : UInt8) (r : List UInt8) (hd : s.data.toList.drop k = x :: r) : x.toNat ≠ c := by
 intro e
 have hk : k < s.size := by
  rcases Nat.lt_or_ge k s.size with h' | h'
  ·exact h'
  ·rw [drop_endW s k h'] at hd; cases hd
 rw [drop_consW s k hk] at hd
 have : s[k] = x := (List.cons.inj hd).1
 simp [hit, hk, this, e] at h
theorem numF_pre (t : List UInt8) (h : (Q.digs false 4 0 0 t).2.2 = false) : Q.numF t = (0, (Q.digs false 4 0 0 t).2.1, false) := by
 rw [Q.numF, if_pos h]
theorem numF_plain (t : List UInt8) (h : (Q.digs false 4 0 0 t).2.2 = true) (hc : ¬ (55296 <= (Q.digs false 4 0 0 t).1 /\ (Q.digs false 4 0 0 t).1 < 56320)) : Q.numF t = ((Q.digs false 4 0 0 t).1, 4, true) := by
 rw [Q.numF, if_neg (by rw [h]; simp), if_neg hc]
theorem numF_p1 (t : List UInt8) (h : (Q.digs false 4 0 0 t).2.2 = true) (hc : 55296 <= (Q.digs false 4 0 0 t).1 /\ (Q.digs false 4 0 0 t).1 < 56320) (h2 : ∀ x r, t.drop 4 = x :: r -> x.toNat ≠ 92) : Q.numF t = (0, 4, false) := by
 rw [Q.numF, if_neg (by rw [h]; simp), if_pos hc]
 split
 ·rfl
 ·rename_i x r hx
  rw [if_pos (h2 x r hx)]
theorem numF_p2 (t : List UInt8) (h : (Q.digs false 4 0 0 t).2.2 = true) (hc : 55296 <= (Q.digs false 4 0 0 t).1 /\ (Q.digs false 4 0 0 t).1 < 56320) (x : UInt8) (r : List UInt8) (hx : t.drop 4 = x :: r) (h92 : x.toNat = 92) (h2 : ∀ y r2, r = y :: r2 -> y.toNat ≠ 117) : Q.numF t = (0, 5, false) := by
 rw [Q.numF, if_neg (by rw [h]; simp), if_pos hc, hx]
 simp only
 rw [if_neg (by omega)]
 split
 ·rfl
 ·rename_i y r2
  rw [if_pos (h2 y r2 rfl)]
theorem numF_p3 (t : List UInt8) (h : (Q.digs false 4 0 0 t).2.2 = true) (hc : 55296 <= (Q.digs false 4 0 0 t).1 /\ (Q.digs false 4 0 0 t).1 < 56320) (x y : UInt8) (r : List UInt8) (hx : t.drop 4 = x :: y :: r) (h92 : x.toNat = 92) (h117 : y.toNat = 117) :
 Q.numF t = if (Q.digs true 4 0 0 r).2.2 = false then (0, 6 + (Q.digs true 4 0 0 r).2.1, false) else (65536 + 1024 * ((Q.digs false 4 0 0 t).1 - 55296) + ((Q.digs true 4 0 0 r).1 - 56320), 10, true) := by
 rw [Q.numF, if_neg (by rw [h]; simp), if_pos hc, hx]
 simp only
 rw [if_neg (by omega), if_neg (by omega)]
def Told (B b : Nat) (s : ByteArray) (l : List UInt8) (w : World) (err : Nat) (q : Nat) (ok : Bool) (bs : List UInt8) (e : Ending) (w' : World) : Prop :=
 e = .returned (.int .i64 (if ok then 0 else err)) /\ Rd B b s q (if ok then l ++ bs else l) w' /\ Below B w w'
theorem number_pair (B b : Nat) (s : ByteArray) (k : Nat) (l : List UInt8) (w : World) (h : Rd B b s k l w) (hs : s.size <= 281474976710656) (hk : k <= s.size) (hlen : l.length + 4 <= 140737488355328) (hBw : B <= w.heap.size)
 (hok : (Q.digs false 4 0 0 (s.data.toList.drop k)).2.2 = true) (hc : 55296 <= (Q.digs false 4 0 0 (s.data.toList.drop k)).1 /\ (Q.digs false 4 0 0 (s.data.toList.drop k)).1 < 56320) :
 Calls Tryz.prog 193 #[.pointer (some ⟨b, 0, none⟩)] w (Told B b s l w 12 (k + (Q.numF (s.data.toList.drop k)).2.1) (Q.numF (s.data.toList.drop k)).2.2 (encodeRune ((Q.numF (s.data.toList.drop k)).1 : Int))) := by
 have cd := qdigits_any B b s k l false w h hs hk
 have hdl := Q.digs_le false 4 0 0 (s.data.toList.drop k)
 have hlen2 : (s.data.toList.drop k).length = s.size - k := by simp
 rw [hlen2] at hdl
 have hn4 := hdl.2.2.2 hok
 rw [hok, hn4, Nat.zero_add] at cd
 have hk4 : k + 4 <= s.size := by omega
 have hd4 : (s.data.toList.drop k).drop 4 = s.data.toList.drop (k + 4) := by rw [List.drop_drop]
 obtain ⟨v, hv⟩ : ∃ v, v = (Q.digs false 4 0 0 (s.data.toList.drop k)).1 := ⟨_, rfl⟩
 have CD : Hid (Calls Tryz.prog 203 #[.pointer (some ⟨b, 0, none⟩), .bool false] w fun e w' => e = .returned (.tuple #[.int .i32 (v : Int), .bool true]) /\ Rd B b s (k + 4) l w' /\ Below B w w') := by
  rw [hv]; exact cd
 have hc' := hc
 rw [<- hv] at hc'
 have y1 : (55296 : Int) <= (v : Int) := by omega
 have y2 : (v : Int) < 56320 := by omega
 cases h92 : hit s (k + 4) 92
 ·rw [numF_p1 _ hok hc (by intro x r hx; rw [hd4] at hx; exact hit_no h92 x r hx)]
  clear hdl hlen2 hn4 cd hc hc' hok hd4 hv
  generalize (v : Int) = V at *
  go_enter Tryz.func193, Tryz.ntmps193
  go_wp2_with fail
  refine CD.out.mono ?_
  rintro e w1 ⟨rfl, R1, b1⟩
  go_wp2_with fail
  refine (take_any B b s (k + 4) l 92 w1 R1 hs hk4).mono ?_
  rw [h92]
  rintro e w2 ⟨rfl, R2, b2⟩
  go_wp2
  go_ret
  exact ⟨rfl, R2, b1.trans b2⟩
 ·obtain ⟨hk5, he92⟩ := hit_yes h92
  have hx4 := drop_consW s (k + 4) hk5
  have hk5' : k + 5 <= s.size := by omega
  cases h117 : hit s (k + 5) 117
  ·rw [numF_p2 _ hok hc s[k + 4] _ (by rw [hd4]; exact hx4) he92 (by intro y r2 hy; exact hit_no h117 y r2 hy)]
   clear hdl hlen2 hn4 cd hc hc' hok hd4 hv hx4 he92
   generalize (v : Int) = V at *
   go_enter Tryz.func193, Tryz.ntmps193
   go_wp2_with fail
   refine CD.out.mono ?_
   rintro e w1 ⟨rfl, R1, b1⟩
   go_wp2_with fail
   refine (take_any B b s (k + 4) l 92 w1 R1 hs hk4).mono ?_
   rw [h92]
   rintro e w2 ⟨rfl, R2, b2⟩
   go_wp2_with fail
   refine (take_any B b s (k + 5) l 117 w2 R2 hs hk5').mono ?_
   rw [h117]
   rintro e w3 ⟨rfl, R3, b3⟩
   go_wp2
   go_ret
   exact ⟨rfl, R3, (b1.trans b2).trans b3⟩
  ·obtain ⟨hk6, he117⟩ := hit_yes h117
   have hx5 := drop_consW s (k + 5) hk6
   rw [hx5] at hx4
   have hk6' : k + 6 <= s.size := by omega
   have hF := numF_p3 _ hok hc s[k + 4] s[k + 5] _ (by rw [hd4]; exact hx4) he92 he117
   rw [hF]
   have ct := fun w2 (R2 : Rd B b s (k + 6) l w2) => qdigits_any B b s (k + 6) l true w2 R2 hs hk6'
   have htl := Q.digs_le true 4 0 0 (s.data.toList.drop (k + 6))
   rw [<- hv]
   cases hok2 : (Q.digs true 4 0 0 (s.data.toList.drop (k + 6))).2.2
   ·rw [if_pos rfl]
    have CT : Hid (∀ w2, Rd B b s (k + 6) l w2 -> Calls Tryz.prog 203 #[.pointer (some ⟨b, 0, none⟩), .bool true] w2 fun e w' => e = .returned (.tuple #[.int .i32 (Q.digs true 4 0 0 (s.data.toList.drop (k + 6))).1, .bool false]) /\ Rd B b s (k + 6 + (Q.digs true 4 0 0 (s.data.toList.drop (k + 6))).2.1) l w' /\ Below B w2 w') := by
     intro w2 R2
     have := ct w2 R2
     rw [hok2] at this
     exact this
    have e6 : k + (6 + (Q.digs true 4 0 0 (s.data.toList.drop (k + 5 + 1))).2.1) = k + 6 + (Q.digs true 4 0 0 (s.data.toList.drop (k + 6))).2.1 := by
     show k + (6 + (Q.digs true 4 0 0 (s.data.toList.drop (k + 6))).2.1) = _
     omega
    simp only
    rw [e6]
    clear hdl hlen2 hn4 cd hc hc' hok hd4 hv hx4 he92 he117 hF ct htl hok2 e6 hx5
    generalize Q.digs true 4 0 0 (s.data.toList.drop (k + 6)) = D at *
    generalize (v : Int) = V at *
    obtain ⟨v2, n2, o2⟩ := D
    simp only at *
    go_enter Tryz.func193, Tryz.ntmps193
    go_wp2_with fail
    refine CD.out.mono ?_
    rintro e w1 ⟨rfl, R1, b1⟩
    go_wp2_with fail
    refine (take_any B b s (k + 4) l 92 w1 R1 hs hk4).mono ?_
    rw [h92]
    rintro e w2 ⟨rfl, R2, b2⟩
    go_wp2_with fail
    refine (take_any B b s (k + 5) l 117 w2 R2 hs hk5').mono ?_
    rw [h117]
    rintro e w3 ⟨rfl, R3, b3⟩
    go_wp2_with fail
    refine (CT.out w3 R3).mono ?_
    rintro e w4 ⟨rfl, R4, b4⟩
    go_wp2
    go_ret
    exact ⟨rfl, R4, ((b1.trans b2).trans b3).trans b4⟩
   ·rw [if_neg (by simp)]
    have hr2 := (Q.digs_range true _ hok2).2.1 rfl
    have hm := htl.2.2.2 hok2
    have CT : Hid (∀ w2, Rd B b s (k + 6) l w2 -> Calls Tryz.prog 203 #[.pointer (some ⟨b, 0, none⟩), .bool true] w2 fun e w' => e = .returned (.tuple #[.int .i32 (Q.digs true 4 0 0 (s.data.toList.drop (k + 6))).1, .bool true]) /\ Rd B b s (k + 10) l w' /\ Below B w2 w') := by
     intro w2 R2
     have := ct w2 R2
     rw [hok2, hm] at this
     exact this
    have e6 : (Q.digs true 4 0 0 (s.data.toList.drop (k + 5 + 1))).1 = (Q.digs true 4 0 0 (s.data.toList.drop (k + 6))).1 := rfl
    simp only
    rw [e6]
    clear hdl hlen2 hn4 cd hc hok hd4 hv hx4 he92 he117 hF ct htl hok2 e6 hx5 hm
    generalize (Q.digs true 4 0 0 (s.data.toList.drop (k + 6))).1 = u at *
    obtain ⟨V, hV⟩ : ∃ V : Int, V = (v : Int) := ⟨_, rfl⟩
    obtain ⟨U, hU⟩ : ∃ U : Int, U = (u : Int) := ⟨_, rfl⟩
    have e7 : ((65536 + 1024 * (v - 55296) + (u - 56320) : Nat) : Int) = 65536 + (V - 55296) * 1024 + (U - 56320) := by omega
    have y3 : (56320 : Int) <= U := by omega
    have y4 : U <= 57343 := by omega
    have WR : Hid (∀ w1, Rd B b s (k + 10) l w1 -> B <= w1.heap.size -> Calls Tryz.prog 196 #[.pointer (some ⟨b, 2, none⟩), .int .i32 (65536 + (V - 55296) * 1024 + (U - 56320))] w1 fun e w' => (∃ m : Int, e = .returned (.tuple #[.int .i64 m, .nilIface])) /\ Rd B b s (k + 10) (l ++ encodeRune (65536 + (V - 55296) * 1024 + (U - 56320))) w' /\ Below B w1 w') :=
     fun w1 R1 hb => writeRune_rd B b s (k + 10) l _ (by omega) (by omega) w1 R1 hlen hb
    rw [e7]
    rw [<- hV] at CD y1 y2
    rw [<- hU] at CT
    clear e7 hV hU hc' hr2 hlen
    generalize hT : encodeRune (65536 + (V - 55296) * 1024 + (U - 56320)) = T at *
    clear hT
    go_enter Tryz.func193, Tryz.ntmps193
    go_wp2_with fail
    refine CD.out.mono ?_
    rintro e w1 ⟨rfl, R1, b1⟩
    go_wp2_with fail
    refine (take_any B b s (k + 4) l 92 w1 R1 hs hk4).mono ?_
    rw [h92]
    rintro e w2 ⟨rfl, R2, b2⟩
    go_wp2_with fail
    refine (take_any B b s (k + 5) l 117 w2 R2 hs hk5').mono ?_
    rw [h117]
    rintro e w3 ⟨rfl, R3, b3⟩
    go_wp2_with fail
    refine (CT.out w3 R3).mono ?_
    rintro e w4 ⟨rfl, R4, b4⟩
    have s4 := (((b1.trans b2).trans b3).trans b4).size
    go_wp2_with fail
    refine (WR.out w4 R4 (by omega)).mono ?_
    rintro e w5 ⟨⟨m, rfl⟩, R5, b5⟩
    go_wp2
    go_ret
    exact ⟨rfl, R5, (((b1.trans b2).trans b3).trans b4).trans b5⟩
theorem number_any (B b : Nat) (s : ByteArray) (k : Nat) (l : List UInt8) (w : World) (h : Rd B b s k l w) (hs : s.size <= 281474976710656) (hk : k <= s.size) (hlen : l.length + 4 <= 140737488355328) (hBw : B <= w.heap.size) :
 Calls Tryz.prog 193 #[.pointer (some ⟨b, 0, none⟩)] w (Told B b s l w 12 (k + (Q.numF (s.data.toList.drop k)).2.1) (Q.numF (s.data.toList.drop k)).2.2 (encodeRune ((Q.numF (s.data.toList.drop k)).1 : Int))) := by
 have cd := qdigits_any B b s k l false w h hs hk
 have hdl := Q.digs_le false 4 0 0 (s.data.toList.drop k)
 have hlen2 : (s.data.toList.drop k).length = s.size - k := by simp
 rw [hlen2] at hdl
 cases hok : (Q.digs false 4 0 0 (s.data.toList.drop k)).2.2
 ·rw [numF_pre _ hok]
  rw [hok] at cd
  generalize Q.digs false 4 0 0 (s.data.toList.drop k) = D at *
  obtain ⟨v, n, ok⟩ := D
  simp only at *
  clear hok
  go_enter Tryz.func193, Tryz.ntmps193
  go_wp2_with (go_at_call 203; refine cd.mono ?_; rintro e w1 ⟨rfl, R1, b1⟩)
  go_ret
  exact ⟨rfl, R1, b1⟩
 ·have hrg := Q.digs_range false _ hok
  have hn4 := hdl.2.2.2 hok
  rw [hok, hn4] at cd
  by_cases hc : 55296 <= (Q.digs false 4 0 0 (s.data.toList.drop k)).1 /\ (Q.digs false 4 0 0 (s.data.toList.drop k)).1 < 56320
  ·exact number_pair B b s k l w h hs hk hlen hBw hok hc
  ·rw [numF_plain _ hok hc]
   generalize Q.digs false 4 0 0 (s.data.toList.drop k) = D at *
   obtain ⟨v, n, ok⟩ := D
   simp only at *
   have hv := hrg.1
   have CD : Hid (Calls Tryz.prog 203 #[.pointer (some ⟨b, 0, none⟩), .bool false] w fun e w' => e = .returned (.tuple #[.int .i32 (v : Int), .bool true]) /\ Rd B b s (k + 4) l w' /\ Below B w w') := by
    rw [Nat.zero_add] at cd
    exact cd
   have WR : Hid (∀ w1, Rd B b s (k + 4) l w1 -> B <= w1.heap.size -> Calls Tryz.prog 196 #[.pointer (some ⟨b, 2, none⟩), .int .i32 (v : Int)] w1 fun e w' => (∃ m : Int, e = .returned (.tuple #[.int .i64 m, .nilIface])) /\ Rd B b s (k + 4) (l ++ encodeRune (v : Int)) w' /\ Below B w1 w') :=
    fun w1 R1 hb => writeRune_rd B b s (k + 4) l (v : Int) (by omega) (by omega) w1 R1 hlen hb
   generalize encodeRune (v : Int) = T at *
   have hcase : (v : Int) < 55296 \/ (55296 <= (v : Int) /\ 56320 <= (v : Int)) := by omega
   clear hok hrg cd hc hdl hn4 hlen2 hlen hv
   generalize (v : Int) = V at *
   rcases hcase with hlo | hlo
   focus
    have y1 : ¬ (55296 : Int) <= V := by omega
   rotate_left 1
   focus
    have y1 : (55296 : Int) <= V := by omega
    have y2 : ¬ V < 56320 := by omega
   rotate_left 1
   all_goals
    clear hlo
    go_enter Tryz.func193, Tryz.ntmps193
    go_wp2_with (go_at_call 203; refine CD.out.mono ?_; rintro e w1 ⟨rfl, R1, b1⟩)
    refine (WR.out _ R1 (by have := b1.size; omega)).mono ?_
    rintro e w2 ⟨⟨m, rfl⟩, R2, b2⟩
    go_wp2
    go_ret
    exact ⟨rfl, R2, b1.trans b2⟩
end Go.Proofs.YtdgfjdhobdfglaaGreatDoor
