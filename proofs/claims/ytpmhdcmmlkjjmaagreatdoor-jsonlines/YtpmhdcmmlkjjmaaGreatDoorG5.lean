/- joined: Dig RdE Vals -/
import Derived.Test.YtpmhdcmmlkjjmaaGreatDoorG4
import Derived.Handy
import Derived.Laws.DeepBits32
import Derived.ProofKit
import Derived.Deep.Slices
/- Contracts: the two digit functions; goesOn. -/
set_option linter.unusedSimpArgs false
set_option linter.unusedVariables false
namespace Go.Proofs.YtpmhdcmmlkjjmaaGreatDoor
open Go.RowKit
theorem ret_int {k : IntKind} {a b : Int} (h : a = b) : Ending.returned (.int k a) = .returned (.int k b) := by rw [h]
set_option maxHeartbeats 1000000 in
theorem digit_any (n : Nat) (hn : n < 256) (w : World) :
    Calls Tryz.prog 188 #[.int .u8 n] w fun e w' => e = .returned (.int .i32 (Q.dig n)) ∧ w' = w := by
  have c7 : (48 ≤ n ∧ n ≤ 57) ∨ (97 ≤ n ∧ n ≤ 102) ∨ (65 ≤ n ∧ n ≤ 70) ∨ (n < 48) ∨ (58 ≤ n ∧ n ≤ 64) ∨ (71 ≤ n ∧ n ≤ 96) ∨ (103 ≤ n) := by omega
  rcases c7 with h | h | h | h | h | h | h
  · have e : Q.dig n = (n : Int) - 48 := by
      unfold Q.dig; repeat' split
      all_goals first | rfl | (exfalso; omega)
    rw [e]
    clear e
    have f0 : (48 : Int) ≤ n := by omega
    have f1 : (n : Int) ≤ 57 := by omega
    go_enter Tryz.func188, Tryz.ntmps188
    go_wp2
    go_ret
    exact ⟨ret_int (by first | rfl | omega | go_arith), rfl⟩
  · have e : Q.dig n = (n : Int) - 87 := by
      unfold Q.dig; repeat' split
      all_goals first | rfl | (exfalso; omega)
    rw [e]
    clear e
    have f0 : (48 : Int) ≤ n := by omega
    have f1 : ¬ (n : Int) ≤ 57 := by omega
    have f2 : (97 : Int) ≤ n := by omega
    have f3 : (n : Int) ≤ 102 := by omega
    go_enter Tryz.func188, Tryz.ntmps188
    go_wp2
    go_ret
    exact ⟨ret_int (by first | rfl | omega | go_arith), rfl⟩
  · have e : Q.dig n = (n : Int) - 55 := by
      unfold Q.dig; repeat' split
      all_goals first | rfl | (exfalso; omega)
    rw [e]
    clear e
    have f0 : (48 : Int) ≤ n := by omega
    have f1 : ¬ (n : Int) ≤ 57 := by omega
    have f2 : ¬ (97 : Int) ≤ n := by omega
    have f3 : (65 : Int) ≤ n := by omega
    have f4 : (n : Int) ≤ 70 := by omega
    go_enter Tryz.func188, Tryz.ntmps188
    go_wp2
    go_ret
    exact ⟨ret_int (by first | rfl | omega | go_arith), rfl⟩
  · have e : Q.dig n = -1 := by
      unfold Q.dig; repeat' split
      all_goals first | rfl | (exfalso; omega)
    rw [e]
    clear e
    have f0 : ¬ (48 : Int) ≤ n := by omega
    have f1 : ¬ (97 : Int) ≤ n := by omega
    have f2 : ¬ (65 : Int) ≤ n := by omega
    go_enter Tryz.func188, Tryz.ntmps188
    go_wp2
    go_ret
    exact ⟨ret_int (by first | rfl | omega | go_arith), rfl⟩
  · have e : Q.dig n = -1 := by
      unfold Q.dig; repeat' split
      all_goals first | rfl | (exfalso; omega)
    rw [e]
    clear e
    have f0 : (48 : Int) ≤ n := by omega
    have f1 : ¬ (n : Int) ≤ 57 := by omega
    have f2 : ¬ (97 : Int) ≤ n := by omega
    have f3 : ¬ (65 : Int) ≤ n := by omega
    go_enter Tryz.func188, Tryz.ntmps188
    go_wp2
    go_ret
    exact ⟨ret_int (by first | rfl | omega | go_arith), rfl⟩
  · have e : Q.dig n = -1 := by
      unfold Q.dig; repeat' split
      all_goals first | rfl | (exfalso; omega)
    rw [e]
    clear e
    have f0 : (48 : Int) ≤ n := by omega
    have f1 : ¬ (n : Int) ≤ 57 := by omega
    have f2 : ¬ (97 : Int) ≤ n := by omega
    have f3 : (65 : Int) ≤ n := by omega
    have f4 : ¬ (n : Int) ≤ 70 := by omega
    go_enter Tryz.func188, Tryz.ntmps188
    go_wp2
    go_ret
    exact ⟨ret_int (by first | rfl | omega | go_arith), rfl⟩
  · have e : Q.dig n = -1 := by
      unfold Q.dig; repeat' split
      all_goals first | rfl | (exfalso; omega)
    rw [e]
    clear e
    have f0 : (48 : Int) ≤ n := by omega
    have f1 : ¬ (n : Int) ≤ 57 := by omega
    have f2 : (97 : Int) ≤ n := by omega
    have f3 : ¬ (n : Int) ≤ 102 := by omega
    have f4 : (65 : Int) ≤ n := by omega
    have f5 : ¬ (n : Int) ≤ 70 := by omega
    go_enter Tryz.func188, Tryz.ntmps188
    go_wp2
    go_ret
    exact ⟨ret_int (by first | rfl | omega | go_arith), rfl⟩
set_option maxHeartbeats 1000000 in
theorem refDigit_any (n : Nat) (hn : n < 256) (w : World) :
    Calls Tryz.prog 140 #[.int .u8 n] w fun e w' => e = .returned (.int .i64 (Q.dig n)) ∧ w' = w := by
  have c7 : (48 ≤ n ∧ n ≤ 57) ∨ (97 ≤ n ∧ n ≤ 102) ∨ (65 ≤ n ∧ n ≤ 70) ∨ (n < 48) ∨ (58 ≤ n ∧ n ≤ 64) ∨ (71 ≤ n ∧ n ≤ 96) ∨ (103 ≤ n) := by omega
  rcases c7 with h | h | h | h | h | h | h
  · have e : Q.dig n = (n : Int) - 48 := by
      unfold Q.dig; repeat' split
      all_goals first | rfl | (exfalso; omega)
    rw [e]
    clear e
    have f0 : (48 : Int) ≤ n := by omega
    have f1 : (n : Int) ≤ 57 := by omega
    go_enter Tryz.func140, Tryz.ntmps140
    go_wp2
    go_ret
    exact ⟨ret_int (by first | rfl | omega | go_arith), rfl⟩
  · have e : Q.dig n = (n : Int) - 87 := by
      unfold Q.dig; repeat' split
      all_goals first | rfl | (exfalso; omega)
    rw [e]
    clear e
    have f0 : (48 : Int) ≤ n := by omega
    have f1 : ¬ (n : Int) ≤ 57 := by omega
    have f2 : (97 : Int) ≤ n := by omega
    have f3 : (n : Int) ≤ 102 := by omega
    go_enter Tryz.func140, Tryz.ntmps140
    go_wp2
    go_ret
    exact ⟨ret_int (by first | rfl | omega | go_arith), rfl⟩
  · have e : Q.dig n = (n : Int) - 55 := by
      unfold Q.dig; repeat' split
      all_goals first | rfl | (exfalso; omega)
    rw [e]
    clear e
    have f0 : (48 : Int) ≤ n := by omega
    have f1 : ¬ (n : Int) ≤ 57 := by omega
    have f2 : ¬ (97 : Int) ≤ n := by omega
    have f3 : (65 : Int) ≤ n := by omega
    have f4 : (n : Int) ≤ 70 := by omega
    go_enter Tryz.func140, Tryz.ntmps140
    go_wp2
    go_ret
    exact ⟨ret_int (by first | rfl | omega | go_arith), rfl⟩
  · have e : Q.dig n = -1 := by
      unfold Q.dig; repeat' split
      all_goals first | rfl | (exfalso; omega)
    rw [e]
    clear e
    have f0 : ¬ (48 : Int) ≤ n := by omega
    have f1 : ¬ (97 : Int) ≤ n := by omega
    have f2 : ¬ (65 : Int) ≤ n := by omega
    go_enter Tryz.func140, Tryz.ntmps140
    go_wp2
    go_ret
    exact ⟨ret_int (by first | rfl | omega | go_arith), rfl⟩
  · have e : Q.dig n = -1 := by
      unfold Q.dig; repeat' split
      all_goals first | rfl | (exfalso; omega)
    rw [e]
    clear e
    have f0 : (48 : Int) ≤ n := by omega
    have f1 : ¬ (n : Int) ≤ 57 := by omega
    have f2 : ¬ (97 : Int) ≤ n := by omega
    have f3 : ¬ (65 : Int) ≤ n := by omega
    go_enter Tryz.func140, Tryz.ntmps140
    go_wp2
    go_ret
    exact ⟨ret_int (by first | rfl | omega | go_arith), rfl⟩
  · have e : Q.dig n = -1 := by
      unfold Q.dig; repeat' split
      all_goals first | rfl | (exfalso; omega)
    rw [e]
    clear e
    have f0 : (48 : Int) ≤ n := by omega
    have f1 : ¬ (n : Int) ≤ 57 := by omega
    have f2 : ¬ (97 : Int) ≤ n := by omega
    have f3 : (65 : Int) ≤ n := by omega
    have f4 : ¬ (n : Int) ≤ 70 := by omega
    go_enter Tryz.func140, Tryz.ntmps140
    go_wp2
    go_ret
    exact ⟨ret_int (by first | rfl | omega | go_arith), rfl⟩
  · have e : Q.dig n = -1 := by
      unfold Q.dig; repeat' split
      all_goals first | rfl | (exfalso; omega)
    rw [e]
    clear e
    have f0 : (48 : Int) ≤ n := by omega
    have f1 : ¬ (n : Int) ≤ 57 := by omega
    have f2 : (97 : Int) ≤ n := by omega
    have f3 : ¬ (n : Int) ≤ 102 := by omega
    have f4 : (65 : Int) ≤ n := by omega
    have f5 : ¬ (n : Int) ≤ 70 := by omega
    go_enter Tryz.func140, Tryz.ntmps140
    go_wp2
    go_ret
    exact ⟨ret_int (by first | rfl | omega | go_arith), rfl⟩
set_option maxHeartbeats 1000000 in
theorem goesOn_any (c d : Int) (hc0 : 0 ≤ c) (hc : c ≤ 65535) (hd0 : 0 ≤ d) (hd : d ≤ 15) (i : Nat) (hi : i < 4) (aw : Bool) (w : World) :
    Calls Tryz.prog 189 #[.int .i32 c, .int .i32 d, .int .i64 i, .bool aw] w fun e w' => e = .returned (.bool (Q.goes c d i aw)) ∧ w' = w := by
  have ci : i = 0 ∨ i = 1 ∨ i = 2 ∨ i = 3 := by omega
  rcases ci with rfl | rfl | rfl | rfl
  · cases aw
    · go_enter Tryz.func189, Tryz.ntmps189
      go_wp2
      go_ret
      exact ⟨by simp [Q.goes], rfl⟩
    · go_enter Tryz.func189, Tryz.ntmps189
      go_wp2
      go_ret
      exact ⟨by simp [Q.goes], rfl⟩
  · by_cases h13 : c = 13
    · subst h13
      cases aw
      · go_enter Tryz.func189, Tryz.ntmps189
        go_wp2
        go_ret
        exact ⟨by simp [Q.goes], rfl⟩
      · go_enter Tryz.func189, Tryz.ntmps189
        go_wp2
        go_ret
        exact ⟨by simp [Q.goes], rfl⟩
    · have hb : (c == 13) = false := by simpa using h13
      cases aw
      · go_enter Tryz.func189, Tryz.ntmps189
        go_wp2
        go_ret
        exact ⟨by simp [Q.goes, hb], rfl⟩
      · go_enter Tryz.func189, Tryz.ntmps189
        go_wp2
        go_ret
        exact ⟨by simp [Q.goes, hb], rfl⟩
  · go_enter Tryz.func189, Tryz.ntmps189
    go_wp2
    go_ret
    exact ⟨rfl, rfl⟩
  · go_enter Tryz.func189, Tryz.ntmps189
    go_wp2
    go_ret
    exact ⟨rfl, rfl⟩
end Go.Proofs.YtpmhdcmmlkjjmaaGreatDoor
/- quote's reader: digits. -/
set_option maxRecDepth 100000
namespace Go.Proofs.YtpmhdcmmlkjjmaaGreatDoor
open Go.RowKit Go.Lib
theorem or16 (c d : Nat) (hc : c < 65536) (hd : d < 16) : bits .or .i32 ((c : Int) * 16) (d : Int) = ((16 * c + d : Nat) : Int) := by
  show IntKind.i32.wrap ((BitVec.ofInt 32 ((c : Int) * 16) ||| BitVec.ofInt 32 (d : Int)).toNat : Int) = _
  have e : (c : Int) * 16 = ((c * 16 : Nat) : Int) := by omega
  have e2 : c * 16 ||| d = c * 16 + d := by
    have h : d < 2 ^ 4 := hd
    rw [show c * 16 = c <<< 4 by rw [Nat.shiftLeft_eq], Nat.shiftLeft_add_eq_or_of_lt h]
  rw [e, BitVec.toNat_or, ofInt_u32 (c * 16) (by omega), ofInt_u32 d (by omega), e2, wrap_i32_small _ (by omega) (by omega)]
  omega
set_option maxHeartbeats 4000000 in
set_option maxRecDepth 100000 in
theorem qdigits_any (B b : Nat) (s : ByteArray) (k : Nat) (l : List UInt8) (aw : Bool) (w : World) (h : Rd B b s k l w) (hs : s.size ≤ 281474976710656) (hk : k ≤ s.size) :
    Calls Tryz.prog 183 #[.pointer (some ⟨b, 0, none⟩), .bool aw] w fun e w' => e = .returned (.tuple #[.int .i32 (Q.digs aw 4 0 0 (s.data.toList.drop k)).1, .bool (Q.digs aw 4 0 0 (s.data.toList.drop k)).2.2]) ∧ Rd B b s (k + (Q.digs aw 4 0 0 (s.data.toList.drop k)).2.1) l w' ∧ Below B w w' := by
  have hB := h.1
  obtain ⟨R, hR⟩ : ∃ R, R = Q.digs aw 4 0 0 (s.data.toList.drop k) := ⟨_, rfl⟩
  rw [← hR]
  have HR : Hid (R = Q.digs aw 4 0 0 (s.data.toList.drop k)) := hR
  clear hR
  go_enter Tryz.func183, Tryz.ntmps183
  go_wp2
  go_loopw [6, 9] (fun c i wr => ∃ j cN : Nat, j ≤ 4 ∧ i = .int .i64 (j : Int) ∧ c = .int .i32 (cN : Int) ∧ cN < 16 ^ j ∧ k + j ≤ s.size ∧ Rd B b s (k + j) l wr ∧ Below B w wr ∧ Hid (R = Q.digs aw (4 - j) j cN (s.data.toList.drop (k + j)))) (fun _ i _ => 4 - (RowKit.intOf i).toNat)
  case atStart => exact ⟨0, 0, by omega, rfl, rfl, by decide, hk, h, Below.refl _ _, HR⟩
  case round =>
    obtain ⟨j, cN, hj, rfl, rfl, hc, hkj, Rj, bj, HJ⟩ := hrel
    clear HR
    obtain ⟨q, hq⟩ : ∃ q, q = k + j := ⟨_, rfl⟩
    rw [← hq] at hkj Rj HJ
    have HQ : Hid (q = k + j) := hq
    clear hq
    by_cases hj4 : j < 4
    · have y1 : (j : Int) < 4 := by omega
      have hc4 : cN < 4096 := by
        have : 16 ^ j ≤ 4096 := by
          have cj : j = 0 ∨ j = 1 ∨ j = 2 ∨ j = 3 := by omega
          rcases cj with rfl | rfl | rfl | rfl <;> decide
        omega
      have hc16 : 16 * cN + 15 < 16 ^ (j + 1) := by rw [Nat.pow_succ]; omega
      obtain ⟨p, v, hr⟩ := Rj.at
      have c0 := hr.c0
      have c1 := hr.c1
      have f1 := hr.fz 1
      clear hr
      by_cases hend : q = s.size
      · have y2 : ((q : Int) == (s.size : Int)) = true := by rw [beq_iff_eq]; omega
        have hfin : R = (0, j, false) := by
          rw [HJ.out, drop_endW s q (by omega)]
          obtain ⟨r, hr⟩ : ∃ r, 4 - j = r + 1 := ⟨3 - j, by omega⟩
          rw [hr, Q.digs]
        subst hfin
        have HE : Hid (q = s.size) := hend
        clear HJ hend
        go_wp2
        go_quiet (fail)
        go_wp2
        go_ret2
        exact ⟨rfl, by have := Rj.drewN nq; rw [HQ.out] at this; exact this, below_drewN bj nq⟩
      · have hlt : q < s.size := by omega
        have y2 : ((q : Int) == (s.size : Int)) = false := by rw [beq_eq_false_iff_ne]; omega
        have y3 : (q : Int) < s.size := by omega
        have hd := drop_consW s q hlt
        have hdl := Q.dig_le s[q].toNat
        obtain ⟨r, hr⟩ : ∃ r, 4 - j = r + 1 := ⟨3 - j, by omega⟩
        have cd : ∀ w, _ := fun w => digit_any s[q].toNat s[q].toNat_lt w
        have HJ2 : Hid (R = if Q.dig s[q].toNat < 0 ∨ Q.goes cN (Q.dig s[q].toNat) j aw = false then (0, j, false) else Q.digs aw r (j + 1) (16 * cN + (Q.dig s[q].toNat).toNat) (s.data.toList.drop (q + 1))) := by
          show R = _
          rw [HJ.out, hd, hr, Q.digs]
        generalize Q.dig s[q].toNat = D at *
        have CD : Hid (∀ w : World, Calls Tryz.prog 188 #[.int .u8 (s[q].toNat : Int)] w fun e w' => e = .returned (.int .i32 D) ∧ w' = w) := cd
        have HD : Hid (4 - j = r + 1) := hr
        clear HJ hend hd cd hr
        by_cases hneg : D < 0
        · have hfin : R = (0, j, false) := by rw [HJ2.out, if_pos (Or.inl hneg)]
          subst hfin
          clear HJ2
          go_wp2
          go_quiet (fail)
          go_wp2
          go_quiet ((go_at_call 188; exact (CD.out _).mono (fun _ _ h => ⟨h.1, _, h.2⟩)))
          go_wp2
          go_ret2
          refine ⟨rfl, ?_, below_drewN bj _⟩
          rw [← HQ.out]
          exact Rj.drewN _
        · have hnn : 0 ≤ D := by omega
          have cg : ∀ w, _ := fun w => goesOn_any (cN : Int) D (by omega) (by omega) hnn (by omega) j hj4 aw w
          have HJ3 : Hid (R = if Q.goes cN D j aw = false then (0, j, false) else Q.digs aw r (j + 1) (16 * cN + D.toNat) (s.data.toList.drop (q + 1))) := by
            show R = _
            rw [HJ2.out]
            simp [hneg]
          cases hG : Q.goes cN D j aw
          · rw [hG] at cg
            have hfin : R = (0, j, false) := by rw [HJ3.out, if_pos hG]
            subst hfin
            have CG : Hid (∀ w : World, Calls Tryz.prog 189 #[.int .i32 (cN : Int), .int .i32 D, .int .i64 (j : Int), .bool aw] w fun e w' => e = .returned (.bool false) ∧ w' = w) := cg
            clear HJ2 HJ3 hG cg
            go_wp2
            go_quiet (fail)
            go_wp2
            go_quiet ((go_at_call 188; exact (CD.out _).mono (fun _ _ h => ⟨h.1, _, h.2⟩)))
            go_wp2_with (go_at_call 189; refine (CG.out _).mono ?_; rintro e w1 ⟨rfl, rfl⟩)
            go_ret2
            refine ⟨rfl, ?_, below_drewN bj _⟩
            rw [← HQ.out]
            exact Rj.drewN _
          · rw [hG] at cg
            have HN : Hid (R = Q.digs aw r (j + 1) (16 * cN + D.toNat) (s.data.toList.drop (q + 1))) := by
              show R = _
              rw [HJ3.out, if_neg (by rw [hG]; simp)]
            have CG : Hid (∀ w : World, Calls Tryz.prog 189 #[.int .i32 (cN : Int), .int .i32 D, .int .i64 (j : Int), .bool aw] w fun e w' => e = .returned (.bool true) ∧ w' = w) := cg
            clear HJ2 HJ3 hG cg
            go_wp2
            go_quiet (fail)
            go_wp2
            go_quiet ((go_at_call 188; exact (CD.out _).mono (fun _ _ h => ⟨h.1, _, h.2⟩)))
            go_wp2_with (go_at_call 189; refine (CG.out _).mono ?_; rintro e w1 ⟨rfl, rfl⟩)
            go_roundw
            case rel =>
              have hD : D = (D.toNat : Int) := by omega
              have hor := or16 cN D.toNat (by omega) (by omega)
              rw [← hD] at hor
              have hq := HQ.out
              refine ⟨j + 1, 16 * cN + D.toNat, by omega, by go_num, by rw [hor], by omega, by omega, ?_, ?_, ?_⟩
              · have e : k + (j + 1) = q + 1 := by omega
                rw [e]
                exact (Rj.drewN _).put1 (q + 1) _ (by omega)
              · exact (below_drewN bj _).setCell (p := ⟨b, 1, none⟩) hB _
              · have e : k + (j + 1) = q + 1 := by omega
                have e2 : 4 - (j + 1) = r := by have := HD.out; omega
                rw [e, e2]
                exact HN
            case measure => simp [RowKit.intOf]; omega
    · have hj4' : j = 4 := by omega
      have y1 : ¬ (j : Int) < 4 := by omega
      have hfin : R = (cN, j, true) := by
        rw [HJ.out]
        have e : 4 - j = 0 := by omega
        rw [e, Q.digs]
      subst hfin
      clear HJ hj4'
      go_wp2
      go_ret2
      refine ⟨rfl, ?_, bj⟩
      rw [← HQ.out]
      exact Rj
end Go.Proofs.YtpmhdcmmlkjjmaaGreatDoor
/- Values as trees, and how they lie in memory. -/
namespace Go.Proofs.YtpmhdcmmlkjjmaaGreatDoor
open Go.ChangeShapes Go.WideShapes Go.Deep
inductive V where
  | mk (k : Int) (b : Bool) (i : Int) (s : ByteArray) (l : List V) (m : List (ByteArray × V))
abbrev Mem := ByteArray × V
mutual
theorem V.ind_v {P : V → Prop} (h : ∀ k b i s l m, (∀ x ∈ l, P x) → (∀ x ∈ m, P x.2) → P (.mk k b i s l m)) : ∀ v, P v
  | .mk k b i s l m => h k b i s l m (V.ind_l h l) (V.ind_m h m)
theorem V.ind_l {P : V → Prop} (h : ∀ k b i s l m, (∀ x ∈ l, P x) → (∀ x ∈ m, P x.2) → P (.mk k b i s l m)) : ∀ l : List V, ∀ x ∈ l, P x
  | [], x, hx => by cases hx
  | y :: t, x, hx => by
    rcases List.mem_cons.1 hx with e | hx
    · rw [e]; exact V.ind_v h y
    · exact V.ind_l h t x hx
theorem V.ind_m {P : V → Prop} (h : ∀ k b i s l m, (∀ x ∈ l, P x) → (∀ x ∈ m, P x.2) → P (.mk k b i s l m)) : ∀ m : List Mem, ∀ x ∈ m, P x.2
  | [], x, hx => by cases hx
  | (k, y) :: t, x, hx => by
    rcases List.mem_cons.1 hx with e | hx
    · rw [e]; exact V.ind_v h y
    · exact V.ind_m h t x hx
end
mutual
/-- how many values and bytes -/
def V.wt : V → Nat
  | .mk _ _ _ s l m => 1 + s.size + wtL l + wtM m
def wtL : List V → Nat
  | [] => 0
  | x :: t => x.wt + wtL t
def wtM : List Mem → Nat
  | [] => 0
  | (k, x) :: t => k.size + x.wt + wtM t
end
theorem V.wt_pos (v : V) : 1 ≤ v.wt := by cases v; rw [V.wt]; omega
theorem wtL_len : ∀ l : List V, l.length ≤ wtL l
  | [] => by simp [wtL]
  | x :: t => by have := V.wt_pos x; have := wtL_len t; simp only [wtL, List.length_cons]; omega
theorem wtM_len : ∀ l : List Mem, l.length ≤ wtM l
  | [] => by simp [wtM]
  | (k, x) :: t => by have := V.wt_pos x; have := wtM_len t; simp only [wtM, List.length_cons]; omega
theorem wtL_mem : ∀ {l : List V} {x : V}, x ∈ l → x.wt ≤ wtL l
  | [], x, h => by cases h
  | y :: t, x, h => by
    rcases List.mem_cons.1 h with rfl | h
    · simp only [wtL]; omega
    · have := wtL_mem h; simp only [wtL]; omega
theorem wtM_mem : ∀ {l : List Mem} {x : Mem}, x ∈ l → x.1.size + x.2.wt ≤ wtM l
  | [], x, h => by cases h
  | (k, y) :: t, x, h => by
    rcases List.mem_cons.1 h with rfl | h
    · simp only [wtM]; omega
    · have := wtM_mem h; simp only [wtM]; omega
theorem wtL_app : ∀ a b : List V, wtL (a ++ b) = wtL a + wtL b
  | [], b => by simp [wtL]
  | x :: t, b => by have := wtL_app t b; simp only [wtL, List.cons_append]; omega
theorem wtM_app : ∀ a b : List Mem, wtM (a ++ b) = wtM a + wtM b
  | [], b => by simp [wtM]
  | (k, x) :: t, b => by have := wtM_app t b; simp only [wtM, List.cons_append]; omega
def rowAt (w : World) (b o : Nat) (cs : List Value) : Prop := ∀ j u, cs[j]? = some u → w.cell? ⟨b, o + j, none⟩ = some u
def In64 (k : Int) : Prop := -9223372036854775808 ≤ k ∧ k ≤ 9223372036854775807
/-- a slice's head: of n elements, at b, o where there is one -/
structure Headed (ao : Option Addr) (n cap b o : Nat) : Prop where
  le : n ≤ cap
  max : cap ≤ maxLen
  at_ : n = 0 ∨ ao = some ⟨b, o, none⟩
  nil : ao = none → cap = 0
mutual
/-- the value lies in these six cells, and below in blocks of S (R: with a mark behind each list and map) -/
def V.lies (R : Bool) (w : World) (S : Nat → Prop) : V → List Value → Prop
  | .mk k b i s l m, cs => ∃ al cl bl ol am cm bm om, cs = [.int .i64 k, .bool b, .int .i64 i, .string s, .slice al l.length cl, .slice am m.length cm] ∧ In64 k ∧ In64 i ∧ s.size ≤ maxLen ∧
      Headed al l.length cl bl ol ∧ Headed am m.length cm bm om ∧ liesL R w S l bl ol ∧ liesM R w S m bm om ∧
      (R = true → al = some ⟨bl, ol, none⟩ ∧ l.length < cl ∧ S bl ∧ w.cell? ⟨bl, ol + l.length * 6, none⟩ = some (.int .i64 77) ∧
        am = some ⟨bm, om, none⟩ ∧ m.length < cm ∧ S bm ∧ w.cell? ⟨bm, om + m.length * 7, none⟩ = some (.string ⟨#[114, 111, 111, 109]⟩))
def liesL (R : Bool) (w : World) (S : Nat → Prop) : List V → Nat → Nat → Prop
  | [], _, _ => True
  | x :: t, b, o => S b ∧ (∃ cs, rowAt w b o cs ∧ x.lies R w S cs) ∧ liesL R w S t b (o + 6)
def liesM (R : Bool) (w : World) (S : Nat → Prop) : List Mem → Nat → Nat → Prop
  | [], _, _ => True
  | (k, x) :: t, b, o => S b ∧ (k.size ≤ maxLen ∧ ∃ cs, rowAt w b o (.string k :: cs) ∧ x.lies R w S cs) ∧ liesM R w S t b (o + 7)
end
theorem liesL_get {R : Bool} {w : World} {S : Nat → Prop} : ∀ {l : List V} {b o : Nat}, liesL R w S l b o → ∀ (j : Nat) (h : j < l.length), S b ∧ ∃ cs, rowAt w b (o + j * 6) cs ∧ (l[j]).lies R w S cs
  | [], b, o, _, j, h => by simp at h
  | x :: t, b, o, hl, 0, h => by
    rw [liesL] at hl
    obtain ⟨hS, hx, _⟩ := hl
    exact ⟨hS, by simpa using hx⟩
  | x :: t, b, o, hl, j + 1, h => by
    rw [liesL] at hl
    obtain ⟨hS, hx, ht⟩ := hl
    have := liesL_get ht j (by simpa using h)
    rw [show o + 6 + j * 6 = o + (j + 1) * 6 by omega] at this
    simpa using this
theorem liesL_mk {R : Bool} {w : World} {S : Nat → Prop} : ∀ {l : List V} {b o : Nat}, (∀ (j : Nat) (h : j < l.length), S b ∧ ∃ cs, rowAt w b (o + j * 6) cs ∧ (l[j]).lies R w S cs) → liesL R w S l b o
  | [], b, o, _ => by rw [liesL]; trivial
  | x :: t, b, o, hl => by
    rw [liesL]
    have h0 := hl 0 (by simp)
    refine ⟨h0.1, by simpa using h0.2, liesL_mk fun j h => ?_⟩
    have := hl (j + 1) (by simpa using h)
    rw [show o + (j + 1) * 6 = o + 6 + j * 6 by omega] at this
    simpa using this
theorem liesM_get {R : Bool} {w : World} {S : Nat → Prop} : ∀ {l : List Mem} {b o : Nat}, liesM R w S l b o → ∀ (j : Nat) (h : j < l.length), S b ∧ (l[j]).1.size ≤ maxLen ∧ ∃ cs, rowAt w b (o + j * 7) (.string (l[j]).1 :: cs) ∧ (l[j]).2.lies R w S cs
  | [], b, o, _, j, h => by simp at h
  | (k, x) :: t, b, o, hl, 0, h => by
    rw [liesM] at hl
    obtain ⟨hS, hx, _⟩ := hl
    exact ⟨hS, by simpa using hx⟩
  | (k, x) :: t, b, o, hl, j + 1, h => by
    rw [liesM] at hl
    obtain ⟨hS, hx, ht⟩ := hl
    have := liesM_get ht j (by simpa using h)
    rw [show o + 7 + j * 7 = o + (j + 1) * 7 by omega] at this
    simpa using this
theorem liesM_mk {R : Bool} {w : World} {S : Nat → Prop} : ∀ {l : List Mem} {b o : Nat}, (∀ (j : Nat) (h : j < l.length), S b ∧ (l[j]).1.size ≤ maxLen ∧ ∃ cs, rowAt w b (o + j * 7) (.string (l[j]).1 :: cs) ∧ (l[j]).2.lies R w S cs) → liesM R w S l b o
  | [], b, o, _ => by rw [liesM]; trivial
  | (k, x) :: t, b, o, hl => by
    rw [liesM]
    have h0 := hl 0 (by simp)
    refine ⟨h0.1, by simpa using h0.2, liesM_mk fun j h => ?_⟩
    have := hl (j + 1) (by simpa using h)
    rw [show o + (j + 1) * 7 = o + 7 + j * 7 by omega] at this
    simpa using this
theorem rowAt.keep {w w' : World} {b o : Nat} {cs : List Value} (h : rowAt w b o cs) (hb : w'.heap[b]? = w.heap[b]?) : rowAt w' b o cs := fun j u hu =>
  (World.cell?_of_block (w := w) (a := ⟨b, o + j, none⟩) hb).trans (h j u hu)
mutual
theorem V.lies_keep {R R' : Bool} {w w' : World} {S S' : Nat → Prop} (hR : R' = true → R = true) (hw : ∀ b, S b → w'.heap[b]? = w.heap[b]?) (hS : ∀ b, S b → S' b) : ∀ (v : V) {cs : List Value}, v.lies R w S cs → v.lies R' w' S' cs
  | .mk k b i s l m, cs, h => by
    rw [V.lies] at h ⊢
    obtain ⟨al, cl, bl, ol, am, cm, bm, om, e, h1, h2, h0, h3, h4, h5, h6, h7⟩ := h
    refine ⟨al, cl, bl, ol, am, cm, bm, om, e, h1, h2, h0, h3, h4, liesL_keep hR hw hS l h5, liesM_keep hR hw hS m h6, fun r => ?_⟩
    obtain ⟨a1, a2, a3, a4, a5, a6, a7, a8⟩ := h7 (hR r)
    exact ⟨a1, a2, hS _ a3, (World.cell?_of_block (w := w) (hw _ a3)).trans a4, a5, a6, hS _ a7, (World.cell?_of_block (w := w) (hw _ a7)).trans a8⟩
theorem liesL_keep {R R' : Bool} {w w' : World} {S S' : Nat → Prop} (hR : R' = true → R = true) (hw : ∀ b, S b → w'.heap[b]? = w.heap[b]?) (hS : ∀ b, S b → S' b) : ∀ (l : List V) {b o : Nat}, liesL R w S l b o → liesL R' w' S' l b o
  | [], b, o, h => by rw [liesL]; trivial
  | x :: t, b, o, h => by
    rw [liesL] at h ⊢
    obtain ⟨h1, ⟨cs, h2, h3⟩, h4⟩ := h
    exact ⟨hS _ h1, ⟨cs, h2.keep (hw _ h1), V.lies_keep hR hw hS x h3⟩, liesL_keep hR hw hS t h4⟩
theorem liesM_keep {R R' : Bool} {w w' : World} {S S' : Nat → Prop} (hR : R' = true → R = true) (hw : ∀ b, S b → w'.heap[b]? = w.heap[b]?) (hS : ∀ b, S b → S' b) : ∀ (l : List Mem) {b o : Nat}, liesM R w S l b o → liesM R' w' S' l b o
  | [], b, o, h => by rw [liesM]; trivial
  | (k, x) :: t, b, o, h => by
    rw [liesM] at h ⊢
    obtain ⟨h1, ⟨h0, cs, h2, h3⟩, h4⟩ := h
    exact ⟨hS _ h1, ⟨h0, cs, h2.keep (hw _ h1), V.lies_keep hR hw hS x h3⟩, liesM_keep hR hw hS t h4⟩
end
end Go.Proofs.YtpmhdcmmlkjjmaaGreatDoor
