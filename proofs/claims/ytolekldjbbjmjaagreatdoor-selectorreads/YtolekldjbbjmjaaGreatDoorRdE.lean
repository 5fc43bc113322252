import Derived.Test.YtolekldjbbjmjaaGreatDoorRdD
import Derived.Test.YtolekldjbbjmjaaGreatDoorDig
import Derived.Laws.DeepBits32
/- quote's reader: digits. -/
set_option linter.unusedSimpArgs false
set_option linter.unusedVariables false
set_option maxRecDepth 100000
namespace Go.Proofs.YtolekldjbbjmjaaGreatDoor
open Go.RowKit Go.Lib
theorem or16 (c d : Nat) (hc : c < 65536) (hd : d < 16) : bits .or .i32 ((c : Int) * 16) (d : Int) = ((16 * c + d : Nat) : Int) := by
  show IntKind.i32.wrap ((BitVec.ofInt 32 ((c : Int) * 16) ||| BitVec.ofInt 32 (d : Int)).toNat : Int) = _
  have e : (c : Int) * 16 = ((c * 16 : Nat) : Int) := by omega
  have e2 : c * 16 ||| d = c * 16 + d := by
    have h : d < 2 ^ 4 := hd
    rw [show c * 16 = c <<< 4 by rw [Nat.shiftLeft_eq], Nat.shiftLeft_add_eq_or_of_lt h]
  rw [e, BitVec.toNat_or, ofInt_u32 (c * 16) (by omega), ofInt_u32 d (by omega), e2, wrap_i32_small _ (by omega) (by omega)]
  omega
set_option maxHeartbeats 4000000 in
set_option maxRecDepth 100000 in
theorem qdigits_any (B b : Nat) (s : ByteArray) (k : Nat) (l : List UInt8) (aw : Bool) (w : World) (h : Rd B b s k l w) (hs : s.size ≤ 281474976710656) (hk : k ≤ s.size) :
    Calls Tryz.prog 147 #[.pointer (some ⟨b, 0, none⟩), .bool aw] w fun e w' => e = .returned (.tuple #[.int .i32 (Q.digs aw 4 0 0 (s.data.toList.drop k)).1, .bool (Q.digs aw 4 0 0 (s.data.toList.drop k)).2.2]) ∧ Rd B b s (k + (Q.digs aw 4 0 0 (s.data.toList.drop k)).2.1) l w' ∧ Below B w w' := by
  have hB := h.1
  obtain ⟨R, hR⟩ : ∃ R, R = Q.digs aw 4 0 0 (s.data.toList.drop k) := ⟨_, rfl⟩
  rw [← hR]
  have HR : Hid (R = Q.digs aw 4 0 0 (s.data.toList.drop k)) := hR
  clear hR
  go_enter Tryz.func147, Tryz.ntmps147
  go_wp2
  go_loopw [6, 9] (fun c i wr => ∃ j cN : Nat, j ≤ 4 ∧ i = .int .i64 (j : Int) ∧ c = .int .i32 (cN : Int) ∧ cN < 16 ^ j ∧ k + j ≤ s.size ∧ Rd B b s (k + j) l wr ∧ Below B w wr ∧ Hid (R = Q.digs aw (4 - j) j cN (s.data.toList.drop (k + j)))) (fun _ i _ => 4 - (RowKit.intOf i).toNat)
  case atStart => exact ⟨0, 0, by omega, rfl, rfl, by decide, hk, h, Below.refl _ _, HR⟩
  case round =>
    obtain ⟨j, cN, hj, rfl, rfl, hc, hkj, Rj, bj, HJ⟩ := hrel
    clear HR
    obtain ⟨q, hq⟩ : ∃ q, q = k + j := ⟨_, rfl⟩
    rw [← hq] at hkj Rj HJ
    have HQ : Hid (q = k + j) := hq
    clear hq
    by_cases hj4 : j < 4
    · have y1 : (j : Int) < 4 := by omega
      have hc4 : cN < 4096 := by
        have : 16 ^ j ≤ 4096 := by
          have cj : j = 0 ∨ j = 1 ∨ j = 2 ∨ j = 3 := by omega
          rcases cj with rfl | rfl | rfl | rfl <;> decide
        omega
      have hc16 : 16 * cN + 15 < 16 ^ (j + 1) := by rw [Nat.pow_succ]; omega
      obtain ⟨p, v, hr⟩ := Rj.at
      have c0 := hr.c0
      have c1 := hr.c1
      have f1 := hr.fz 1
      clear hr
      by_cases hend : q = s.size
      · have y2 : ((q : Int) == (s.size : Int)) = true := by rw [beq_iff_eq]; omega
        have hfin : R = (0, j, false) := by
          rw [HJ.out, drop_endW s q (by omega)]
          obtain ⟨r, hr⟩ : ∃ r, 4 - j = r + 1 := ⟨3 - j, by omega⟩
          rw [hr, Q.digs]
        subst hfin
        have HE : Hid (q = s.size) := hend
        clear HJ hend
        go_wp2
        go_quiet (fail)
        go_wp2
        go_ret2
        exact ⟨rfl, by have := Rj.drewN nq; rw [HQ.out] at this; exact this, below_drewN bj nq⟩
      · have hlt : q < s.size := by omega
        have y2 : ((q : Int) == (s.size : Int)) = false := by rw [beq_eq_false_iff_ne]; omega
        have y3 : (q : Int) < s.size := by omega
        have hd := drop_consW s q hlt
        have hdl := Q.dig_le s[q].toNat
        obtain ⟨r, hr⟩ : ∃ r, 4 - j = r + 1 := ⟨3 - j, by omega⟩
        have cd : ∀ w, _ := fun w => digit_any s[q].toNat s[q].toNat_lt w
        have HJ2 : Hid (R = if Q.dig s[q].toNat < 0 ∨ Q.goes cN (Q.dig s[q].toNat) j aw = false then (0, j, false) else Q.digs aw r (j + 1) (16 * cN + (Q.dig s[q].toNat).toNat) (s.data.toList.drop (q + 1))) := by
          show R = _
          rw [HJ.out, hd, hr, Q.digs]
        generalize Q.dig s[q].toNat = D at *
        have CD : Hid (∀ w : World, Calls Tryz.prog 150 #[.int .u8 (s[q].toNat : Int)] w fun e w' => e = .returned (.int .i32 D) ∧ w' = w) := cd
        have HD : Hid (4 - j = r + 1) := hr
        clear HJ hend hd cd hr
        by_cases hneg : D < 0
        · have hfin : R = (0, j, false) := by rw [HJ2.out, if_pos (Or.inl hneg)]
          subst hfin
          clear HJ2
          go_wp2
          go_quiet (fail)
          go_wp2
          go_quiet ((go_at_call 150; exact (CD.out _).mono (fun _ _ h => ⟨h.1, _, h.2⟩)))
          go_wp2
          go_ret2
          refine ⟨rfl, ?_, below_drewN bj _⟩
          rw [← HQ.out]
          exact Rj.drewN _
        · have hnn : 0 ≤ D := by omega
          have cg : ∀ w, _ := fun w => goesOn_any (cN : Int) D (by omega) (by omega) hnn (by omega) j hj4 aw w
          have HJ3 : Hid (R = if Q.goes cN D j aw = false then (0, j, false) else Q.digs aw r (j + 1) (16 * cN + D.toNat) (s.data.toList.drop (q + 1))) := by
            show R = _
            rw [HJ2.out]
            simp [hneg]
          cases hG : Q.goes cN D j aw
          · rw [hG] at cg
            have hfin : R = (0, j, false) := by rw [HJ3.out, if_pos hG]
            subst hfin
            have CG : Hid (∀ w : World, Calls Tryz.prog 151 #[.int .i32 (cN : Int), .int .i32 D, .int .i64 (j : Int), .bool aw] w fun e w' => e = .returned (.bool false) ∧ w' = w) := cg
            clear HJ2 HJ3 hG cg
            go_wp2
            go_quiet (fail)
            go_wp2
            go_quiet ((go_at_call 150; exact (CD.out _).mono (fun _ _ h => ⟨h.1, _, h.2⟩)))
            go_wp2_with (go_at_call 151; refine (CG.out _).mono ?_; rintro e w1 ⟨rfl, rfl⟩)
            go_ret2
            refine ⟨rfl, ?_, below_drewN bj _⟩
            rw [← HQ.out]
            exact Rj.drewN _
          · rw [hG] at cg
            have HN : Hid (R = Q.digs aw r (j + 1) (16 * cN + D.toNat) (s.data.toList.drop (q + 1))) := by
              show R = _
              rw [HJ3.out, if_neg (by rw [hG]; simp)]
            have CG : Hid (∀ w : World, Calls Tryz.prog 151 #[.int .i32 (cN : Int), .int .i32 D, .int .i64 (j : Int), .bool aw] w fun e w' => e = .returned (.bool true) ∧ w' = w) := cg
            clear HJ2 HJ3 hG cg
            go_wp2
            go_quiet (fail)
            go_wp2
            go_quiet ((go_at_call 150; exact (CD.out _).mono (fun _ _ h => ⟨h.1, _, h.2⟩)))
            go_wp2_with (go_at_call 151; refine (CG.out _).mono ?_; rintro e w1 ⟨rfl, rfl⟩)
            go_roundw
            case rel =>
              have hD : D = (D.toNat : Int) := by omega
              have hor := or16 cN D.toNat (by omega) (by omega)
              rw [← hD] at hor
              have hq := HQ.out
              refine ⟨j + 1, 16 * cN + D.toNat, by omega, by go_num, by rw [hor], by omega, by omega, ?_, ?_, ?_⟩
              · have e : k + (j + 1) = q + 1 := by omega
                rw [e]
                exact (Rj.drewN _).put1 (q + 1) _ (by omega)
              · exact (below_drewN bj _).setCell (p := ⟨b, 1, none⟩) hB _
              · have e : k + (j + 1) = q + 1 := by omega
                have e2 : 4 - (j + 1) = r := by have := HD.out; omega
                rw [e, e2]
                exact HN
            case measure => simp [RowKit.intOf]; omega
    · have hj4' : j = 4 := by omega
      have y1 : ¬ (j : Int) < 4 := by omega
      have hfin : R = (cN, j, true) := by
        rw [HJ.out]
        have e : 4 - j = 0 := by omega
        rw [e, Q.digs]
      subst hfin
      clear HJ hj4'
      go_wp2
      go_ret2
      refine ⟨rfl, ?_, bj⟩
      rw [← HQ.out]
      exact Rj
end Go.Proofs.YtolekldjbbjmjaaGreatDoor
