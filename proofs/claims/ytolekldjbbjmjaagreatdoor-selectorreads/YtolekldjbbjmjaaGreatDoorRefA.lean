import Derived.Test.YtolekldjbbjmjaaGreatDoorDig
import Derived.Test.YtolekldjbbjmjaaGreatDoorG13
/- Contracts: the document's four, escape, Sequence. -/
set_option linter.unusedSimpArgs false
set_option linter.unusedVariables false
set_option maxRecDepth 100000
namespace Go.Proofs.YtolekldjbbjmjaaGreatDoor
open Go.RowKit
theorem ret_iib {a b c d : Int} {p q : Bool} (h : a = b) (h1 : c = d) (h2 : p = q) : Ending.returned (.tuple #[.int .i64 a, .int .i64 c, .bool p]) = .returned (.tuple #[.int .i64 b, .int .i64 d, .bool q]) := by rw [h, h1, h2]
set_option maxHeartbeats 4000000 in
set_option maxRecDepth 100000 in
theorem four_any (s : ByteArray) (a : Int) (k : Nat) (hak : a = k) (low : Bool) (hk : k ≤ s.size) (hs : s.size ≤ 140737488351232) (w : World) :
    Calls Tryz.prog 125 #[.string s, .int .i64 a, .bool low] w fun e w' => e = .returned (.tuple #[.int .i64 (Q.digs low 4 0 0 (s.data.toList.drop k)).1, .int .i64 ((k + (Q.digs low 4 0 0 (s.data.toList.drop k)).2.1 : Nat) : Int), .bool (Q.digs low 4 0 0 (s.data.toList.drop k)).2.2]) ∧ w' = w := by
  subst hak
  obtain ⟨R, hR⟩ : ∃ R, R = Q.digs low 4 0 0 (s.data.toList.drop k) := ⟨_, rfl⟩
  rw [← hR]
  have HR : Hid (R = Q.digs low 4 0 0 (s.data.toList.drop k)) := hR
  clear hR
  go_enter Tryz.func125, Tryz.ntmps125
  go_wp2
  go_loop [9, 10] (fun c i => ∃ j cN : Nat, j ≤ 4 ∧ i = .int .i64 (j : Int) ∧ c = .int .i64 (cN : Int) ∧ cN < 16 ^ j ∧ k + j ≤ s.size ∧ Hid (low = true → j = 1 → cN = 13) ∧ Hid (R = Q.digs low (4 - j) j cN (s.data.toList.drop (k + j)))) (fun _ i => 4 - (RowKit.intOf i).toNat)
  case atStart => exact ⟨0, 0, by omega, rfl, rfl, by decide, hk, (fun _ h => by omega), HR⟩
  case round =>
    obtain ⟨j, cN, hj, rfl, rfl, hc, hkj, HINV, HJ⟩ := hrel
    clear HR
    by_cases hj4 : j < 4
    · have y1 : (j : Int) < 4 := by omega
      have hc4 : cN < 4096 := by
        have : 16 ^ j ≤ 4096 := by
          have cj : j = 0 ∨ j = 1 ∨ j = 2 ∨ j = 3 := by omega
          rcases cj with rfl | rfl | rfl | rfl <;> decide
        omega
      have hc16 : 16 * cN + 15 < 16 ^ (j + 1) := by rw [Nat.pow_succ]; omega
      by_cases hlt : k + j < s.size
      · have y2 : ((k : Int) + j) < s.size := by omega
        have hd := drop_consW s (k + j) hlt
        have hdl := Q.dig_le s[k + j].toNat
        obtain ⟨r, hr⟩ : ∃ r, 4 - j = r + 1 := ⟨3 - j, by omega⟩
        have cd : ∀ w, _ := fun w => refDigit_any s[k + j].toNat s[k + j].toNat_lt w
        have HJ2 : Hid (R = if Q.dig s[k + j].toNat < 0 ∨ Q.goes cN (Q.dig s[k + j].toNat) j low = false then (0, j, false) else Q.digs low r (j + 1) (16 * cN + (Q.dig s[k + j].toNat).toNat) (s.data.toList.drop (k + (j + 1)))) := by
          show R = _
          rw [HJ.out, hd, hr, Q.digs]
          rfl
        generalize Q.dig s[k + j].toNat = D at *
        have CD : Hid (∀ w : World, Calls Tryz.prog 134 #[.int .u8 (s[k + j].toNat : Int)] w fun e w' => e = .returned (.int .i64 D) ∧ w' = w) := cd
        have HD : Hid (4 - j = r + 1) := hr
        clear HJ hd cd hr
        by_cases hneg : D < 0
        · obtain rfl : R = (0, j, false) := by rw [HJ2.out, if_pos (Or.inl hneg)]
          clear HJ2 HINV
          go_wp2_with (go_at_call 134; refine (CD.out _).mono ?_; rintro e w1 ⟨rfl, rfl⟩)
          go_ret3
          exact ⟨ret_iib rfl (by simp) rfl, rfl⟩
        · have hnn : 0 ≤ D := by omega
          have HINV2 : low = true → j = 1 → cN = 13 := HINV.out
          have bj0 : j = 0 → ((j : Int) == 0) = true := by intro h; rw [beq_iff_eq]; omega
          have bj0' : j ≠ 0 → ((j : Int) == 0) = false := by intro h; rw [beq_eq_false_iff_ne]; omega
          have bj1 : j = 1 → ((j : Int) == 1) = true := by intro h; rw [beq_iff_eq]; omega
          have bj1' : j ≠ 1 → ((j : Int) == 1) = false := by intro h; rw [beq_eq_false_iff_ne]; omega
          have bc : cN = 13 → ((cN : Int) == 13) = true := by intro h; rw [beq_iff_eq]; omega
          have bc' : cN ≠ 13 → ((cN : Int) == 13) = false := by intro h; rw [beq_eq_false_iff_ne]; omega
          have bd : D = 13 → (D != 13) = false := by intro h; simpa using h
          have bd' : D ≠ 13 → (D != 13) = true := by intro h; simpa using h
          cases hG : Q.goes cN D j low
          · obtain rfl : R = (0, j, false) := by rw [HJ2.out, if_pos (Or.inr hG)]
            clear HJ2 HINV
            have hcase : (j = 0 ∧ low = true ∧ D ≠ 13) ∨ (j = 1 ∧ low = false ∧ cN = 13 ∧ 12 ≤ D) ∨ (j = 1 ∧ low = true ∧ cN = 13 ∧ ¬ 12 ≤ D) := by
              unfold Q.goes at hG
              by_cases j0 : j = 0
              · rw [if_pos j0] at hG
                left
                cases low <;> simp at hG ⊢
                exact ⟨j0, hG⟩
              · rw [if_neg j0] at hG
                by_cases j1 : j = 1
                · rw [if_pos j1] at hG
                  right
                  cases low
                  · left
                    simp at hG
                    exact ⟨j1, rfl, by omega, by omega⟩
                  · right
                    have := HINV2 rfl j1
                    subst this
                    simp at hG
                    exact ⟨j1, rfl, rfl, by omega⟩
                · rw [if_neg j1] at hG
                  cases hG
            clear hG HINV2
            rcases hcase with ⟨j0, l0, d0⟩ | ⟨j1, l0, c0, d0⟩ | ⟨j1, l0, c0, d0⟩
            · have e1 := bj0 j0
              have e2 := bd' d0
              subst l0
              have H0 : Hid (j = 0) := j0
              clear bj0 bj0' bj1 bj1' bc bc' bd bd' j0 d0
              go_wp2_with (go_at_call 134; refine (CD.out _).mono ?_; rintro e w1 ⟨rfl, rfl⟩)
              go_ret3
              exact ⟨ret_iib rfl (by have := H0.out; omega) rfl, rfl⟩
            · have e1 := bj0' (by omega)
              have e2 := bj1 j1
              have e3 := bc c0
              subst l0
              have H0 : Hid (j = 1) := j1
              clear bj0 bj0' bj1 bj1' bc bc' bd bd' j1 c0
              go_wp2_with (go_at_call 134; refine (CD.out _).mono ?_; rintro e w1 ⟨rfl, rfl⟩)
              go_ret3
              exact ⟨ret_iib rfl (by have := H0.out; omega) rfl, rfl⟩
            · have e1 := bj0' (by omega)
              have e2 := bj1 j1
              have e3 := bc c0
              have e4 : decide (12 ≤ D) = false := by simp; omega
              subst l0
              have H0 : Hid (j = 1) := j1
              clear bj0 bj0' bj1 bj1' bc bc' bd bd' j1 c0
              go_wp2_with (go_at_call 134; refine (CD.out _).mono ?_; rintro e w1 ⟨rfl, rfl⟩)
              go_ret3
              exact ⟨ret_iib rfl (by have := H0.out; omega) rfl, rfl⟩
          · have HN : Hid (R = Q.digs low r (j + 1) (16 * cN + D.toNat) (s.data.toList.drop (k + (j + 1)))) := by
              show R = _
              rw [HJ2.out, if_neg (by rw [hG]; simp; omega)]
            have hcase : (j = 0 ∧ low = false) ∨ (j = 0 ∧ low = true ∧ D = 13) ∨ (j = 1 ∧ low = false ∧ cN = 13 ∧ ¬ 12 ≤ D) ∨ (j = 1 ∧ low = false ∧ cN ≠ 13) ∨ (j = 1 ∧ low = true ∧ cN = 13 ∧ 12 ≤ D) ∨ (j ≠ 0 ∧ j ≠ 1 ∧ low = false) ∨ (j ≠ 0 ∧ j ≠ 1 ∧ low = true) := by
              unfold Q.goes at hG
              by_cases j0 : j = 0
              · rw [if_pos j0] at hG
                cases low <;> simp at hG ⊢
                · exact .inl j0
                · exact .inl ⟨j0, hG⟩
              · rw [if_neg j0] at hG
                by_cases j1 : j = 1
                · rw [if_pos j1] at hG
                  cases low
                  · simp at hG
                    by_cases c13 : cN = 13
                    · exact .inr (.inr (.inl ⟨j1, rfl, c13, by omega⟩))
                    · exact .inr (.inr (.inr (.inl ⟨j1, rfl, c13⟩)))
                  · simp at hG
                    exact .inr (.inr (.inr (.inr (.inl ⟨j1, rfl, by omega, by omega⟩))))
                · cases low
                  · exact .inr (.inr (.inr (.inr (.inr (.inl ⟨j0, j1, rfl⟩)))))
                  · exact .inr (.inr (.inr (.inr (.inr (.inr ⟨j0, j1, rfl⟩)))))
            have HI : Hid (low = true → j + 1 = 1 → 16 * cN + D.toNat = 13) := by
              intro hl hj0
              have j0 : j = 0 := by omega
              have h16 : (16 : Nat) ^ 0 = 1 := rfl
              rw [j0, h16] at hc
              rcases hcase with h | h | h | h | h | h | h
              · rw [h.2] at hl; cases hl
              · have := h.2.2; omega
              all_goals omega
            clear HJ2 HINV HINV2 hG
            rcases hcase with ⟨j0, l0⟩ | ⟨j0, l0, d0⟩ | ⟨j1, l0, c0, d0⟩ | ⟨j1, l0, c0⟩ | ⟨j1, l0, c0, d0⟩ | ⟨j0, j1, l0⟩ | ⟨j0, j1, l0⟩
            · have e1 := bj0 j0
              have e2 := bj1' (by omega)
              subst l0
              clear bj0 bj0' bj1 bj1' bc bc' bd bd' j0
              go_wp2_with (go_at_call 134; refine (CD.out _).mono ?_; rintro e w1 ⟨rfl, rfl⟩)
              go_round
              case rel =>
                have hD : D = (D.toNat : Int) := by omega
                have e2 : 4 - (j + 1) = r := by have := HD.out; omega
                refine ⟨j + 1, 16 * cN + D.toNat, by omega, by go_num, by congr 1; omega, by omega, by omega, HI, ?_⟩
                rw [e2]
                exact HN
              case measure => simp [RowKit.intOf]; omega
            · have e1 := bj0 j0
              have e2 := bj1' (by omega)
              have e3 := bd d0
              subst l0
              clear bj0 bj0' bj1 bj1' bc bc' bd bd' j0 d0
              go_wp2_with (go_at_call 134; refine (CD.out _).mono ?_; rintro e w1 ⟨rfl, rfl⟩)
              go_round
              case rel =>
                have hD : D = (D.toNat : Int) := by omega
                have e2 : 4 - (j + 1) = r := by have := HD.out; omega
                refine ⟨j + 1, 16 * cN + D.toNat, by omega, by go_num, by congr 1; omega, by omega, by omega, HI, ?_⟩
                rw [e2]
                exact HN
              case measure => simp [RowKit.intOf]; omega
            · have e1 := bj0' (by omega)
              have e2 := bj1 j1
              have e3 := bc c0
              subst l0
              clear bj0 bj0' bj1 bj1' bc bc' bd bd' j1 c0
              go_wp2_with (go_at_call 134; refine (CD.out _).mono ?_; rintro e w1 ⟨rfl, rfl⟩)
              go_round
              case rel =>
                have hD : D = (D.toNat : Int) := by omega
                have e2 : 4 - (j + 1) = r := by have := HD.out; omega
                refine ⟨j + 1, 16 * cN + D.toNat, by omega, by go_num, by congr 1; omega, by omega, by omega, HI, ?_⟩
                rw [e2]
                exact HN
              case measure => simp [RowKit.intOf]; omega
            · have e1 := bj0' (by omega)
              have e2 := bj1 j1
              have e3 := bc' c0
              subst l0
              clear bj0 bj0' bj1 bj1' bc bc' bd bd' j1 c0
              go_wp2_with (go_at_call 134; refine (CD.out _).mono ?_; rintro e w1 ⟨rfl, rfl⟩)
              go_round
              case rel =>
                have hD : D = (D.toNat : Int) := by omega
                have e2 : 4 - (j + 1) = r := by have := HD.out; omega
                refine ⟨j + 1, 16 * cN + D.toNat, by omega, by go_num, by congr 1; omega, by omega, by omega, HI, ?_⟩
                rw [e2]
                exact HN
              case measure => simp [RowKit.intOf]; omega
            · have e1 := bj0' (by omega)
              have e2 := bj1 j1
              have e3 := bc c0
              subst l0
              clear bj0 bj0' bj1 bj1' bc bc' bd bd' j1 c0
              go_wp2_with (go_at_call 134; refine (CD.out _).mono ?_; rintro e w1 ⟨rfl, rfl⟩)
              go_round
              case rel =>
                have hD : D = (D.toNat : Int) := by omega
                have e2 : 4 - (j + 1) = r := by have := HD.out; omega
                refine ⟨j + 1, 16 * cN + D.toNat, by omega, by go_num, by congr 1; omega, by omega, by omega, HI, ?_⟩
                rw [e2]
                exact HN
              case measure => simp [RowKit.intOf]; omega
            · have e1 := bj0' j0
              have e2 := bj1' j1
              subst l0
              clear bj0 bj0' bj1 bj1' bc bc' bd bd'
              go_wp2_with (go_at_call 134; refine (CD.out _).mono ?_; rintro e w1 ⟨rfl, rfl⟩)
              go_round
              case rel =>
                have hD : D = (D.toNat : Int) := by omega
                have e2 : 4 - (j + 1) = r := by have := HD.out; omega
                refine ⟨j + 1, 16 * cN + D.toNat, by omega, by go_num, by congr 1; omega, by omega, by omega, HI, ?_⟩
                rw [e2]
                exact HN
              case measure => simp [RowKit.intOf]; omega
            · have e1 := bj0' j0
              have e2 := bj1' j1
              subst l0
              clear bj0 bj0' bj1 bj1' bc bc' bd bd'
              go_wp2_with (go_at_call 134; refine (CD.out _).mono ?_; rintro e w1 ⟨rfl, rfl⟩)
              go_round
              case rel =>
                have hD : D = (D.toNat : Int) := by omega
                have e2 : 4 - (j + 1) = r := by have := HD.out; omega
                refine ⟨j + 1, 16 * cN + D.toNat, by omega, by go_num, by congr 1; omega, by omega, by omega, HI, ?_⟩
                rw [e2]
                exact HN
              case measure => simp [RowKit.intOf]; omega
      · have y2 : (s.size : Int) ≤ (k : Int) + j := by omega
        have hd := drop_endW s (k + j) (by omega)
        obtain ⟨r, hr⟩ : ∃ r, 4 - j = r + 1 := ⟨3 - j, by omega⟩
        obtain rfl : R = (0, j, false) := by rw [HJ.out, hd, hr, Q.digs]
        clear HJ HINV hd hr
        go_wp2
        go_ret3
        exact ⟨ret_iib rfl (by simp) rfl, rfl⟩
    · have hj4' : j = 4 := by omega
      have y1 : ¬ (j : Int) < 4 := by omega
      have hfin : R = (cN, j, true) := by
        rw [HJ.out]
        have e : 4 - j = 0 := by omega
        rw [e, Q.digs]
      subst hfin
      have H4 : Hid (j = 4) := hj4'
      clear HJ hj4' HINV
      go_wp2
      go_ret3
      exact ⟨ret_iib rfl (by have := H4.out; simp; omega) rfl, rfl⟩
end Go.Proofs.YtolekldjbbjmjaaGreatDoor
