/- joined: RefA RefB RefC RefD RefE -/
import Derived.Lib.RuneBytes
import Derived.Test.YtpmhdcmmlkjjmaaGreatDoorRdH
/- Contracts: the document's four, escape, Sequence. -/
set_option linter.unusedSimpArgs false
set_option linter.unusedVariables false
set_option maxRecDepth 100000
namespace Go.Proofs.YtpmhdcmmlkjjmaaGreatDoor
open Go.RowKit
theorem ret_iib {a b c d : Int} {p q : Bool} (h : a = b) (h1 : c = d) (h2 : p = q) : Ending.returned (.tuple #[.int .i64 a, .int .i64 c, .bool p]) = .returned (.tuple #[.int .i64 b, .int .i64 d, .bool q]) := by rw [h, h1, h2]
set_option maxHeartbeats 4000000 in
set_option maxRecDepth 100000 in
theorem four_any (s : ByteArray) (a : Int) (k : Nat) (hak : a = k) (low : Bool) (hk : k ≤ s.size) (hs : s.size ≤ 140737488351232) (w : World) :
    Calls Tryz.prog 121 #[.string s, .int .i64 a, .bool low] w fun e w' => e = .returned (.tuple #[.int .i64 (Q.digs low 4 0 0 (s.data.toList.drop k)).1, .int .i64 ((k + (Q.digs low 4 0 0 (s.data.toList.drop k)).2.1 : Nat) : Int), .bool (Q.digs low 4 0 0 (s.data.toList.drop k)).2.2]) ∧ w' = w := by
  subst hak
  obtain ⟨R, hR⟩ : ∃ R, R = Q.digs low 4 0 0 (s.data.toList.drop k) := ⟨_, rfl⟩
  rw [← hR]
  have HR : Hid (R = Q.digs low 4 0 0 (s.data.toList.drop k)) := hR
  clear hR
  go_enter Tryz.func121, Tryz.ntmps121
  go_wp2
  go_loop [9, 10] (fun c i => ∃ j cN : Nat, j ≤ 4 ∧ i = .int .i64 (j : Int) ∧ c = .int .i64 (cN : Int) ∧ cN < 16 ^ j ∧ k + j ≤ s.size ∧ Hid (low = true → j = 1 → cN = 13) ∧ Hid (R = Q.digs low (4 - j) j cN (s.data.toList.drop (k + j)))) (fun _ i => 4 - (RowKit.intOf i).toNat)
  case atStart => exact ⟨0, 0, by omega, rfl, rfl, by decide, hk, (fun _ h => by omega), HR⟩
  case round =>
    obtain ⟨j, cN, hj, rfl, rfl, hc, hkj, HINV, HJ⟩ := hrel
    clear HR
    by_cases hj4 : j < 4
    · have y1 : (j : Int) < 4 := by omega
      have hc4 : cN < 4096 := by
        have : 16 ^ j ≤ 4096 := by
          have cj : j = 0 ∨ j = 1 ∨ j = 2 ∨ j = 3 := by omega
          rcases cj with rfl | rfl | rfl | rfl <;> decide
        omega
      have hc16 : 16 * cN + 15 < 16 ^ (j + 1) := by rw [Nat.pow_succ]; omega
      by_cases hlt : k + j < s.size
      · have y2 : ((k : Int) + j) < s.size := by omega
        have hd := drop_consW s (k + j) hlt
        have hdl := Q.dig_le s[k + j].toNat
        obtain ⟨r, hr⟩ : ∃ r, 4 - j = r + 1 := ⟨3 - j, by omega⟩
        have cd : ∀ w, _ := fun w => refDigit_any s[k + j].toNat s[k + j].toNat_lt w
        have HJ2 : Hid (R = if Q.dig s[k + j].toNat < 0 ∨ Q.goes cN (Q.dig s[k + j].toNat) j low = false then (0, j, false) else Q.digs low r (j + 1) (16 * cN + (Q.dig s[k + j].toNat).toNat) (s.data.toList.drop (k + (j + 1)))) := by
          show R = _
          rw [HJ.out, hd, hr, Q.digs]
          rfl
        generalize Q.dig s[k + j].toNat = D at *
        have CD : Hid (∀ w : World, Calls Tryz.prog 140 #[.int .u8 (s[k + j].toNat : Int)] w fun e w' => e = .returned (.int .i64 D) ∧ w' = w) := cd
        have HD : Hid (4 - j = r + 1) := hr
        clear HJ hd cd hr
        by_cases hneg : D < 0
        · obtain rfl : R = (0, j, false) := by rw [HJ2.out, if_pos (Or.inl hneg)]
          clear HJ2 HINV
          go_wp2_with (go_at_call 140; refine (CD.out _).mono ?_; rintro e w1 ⟨rfl, rfl⟩)
          go_ret3
          exact ⟨ret_iib rfl (by simp) rfl, rfl⟩
        · have hnn : 0 ≤ D := by omega
          have HINV2 : low = true → j = 1 → cN = 13 := HINV.out
          have bj0 : j = 0 → ((j : Int) == 0) = true := by intro h; rw [beq_iff_eq]; omega
          have bj0' : j ≠ 0 → ((j : Int) == 0) = false := by intro h; rw [beq_eq_false_iff_ne]; omega
          have bj1 : j = 1 → ((j : Int) == 1) = true := by intro h; rw [beq_iff_eq]; omega
          have bj1' : j ≠ 1 → ((j : Int) == 1) = false := by intro h; rw [beq_eq_false_iff_ne]; omega
          have bc : cN = 13 → ((cN : Int) == 13) = true := by intro h; rw [beq_iff_eq]; omega
          have bc' : cN ≠ 13 → ((cN : Int) == 13) = false := by intro h; rw [beq_eq_false_iff_ne]; omega
          have bd : D = 13 → (D != 13) = false := by intro h; simpa using h
          have bd' : D ≠ 13 → (D != 13) = true := by intro h; simpa using h
          cases hG : Q.goes cN D j low
          · obtain rfl : R = (0, j, false) := by rw [HJ2.out, if_pos (Or.inr hG)]
            clear HJ2 HINV
            have hcase : (j = 0 ∧ low = true ∧ D ≠ 13) ∨ (j = 1 ∧ low = false ∧ cN = 13 ∧ 12 ≤ D) ∨ (j = 1 ∧ low = true ∧ cN = 13 ∧ ¬ 12 ≤ D) := by
              unfold Q.goes at hG
              by_cases j0 : j = 0
              · rw [if_pos j0] at hG
                left
                cases low <;> simp at hG ⊢
                exact ⟨j0, hG⟩
              · rw [if_neg j0] at hG
                by_cases j1 : j = 1
                · rw [if_pos j1] at hG
                  right
                  cases low
                  · left
                    simp at hG
                    exact ⟨j1, rfl, by omega, by omega⟩
                  · right
                    have := HINV2 rfl j1
                    subst this
                    simp at hG
                    exact ⟨j1, rfl, rfl, by omega⟩
                · rw [if_neg j1] at hG
                  cases hG
            clear hG HINV2
            rcases hcase with ⟨j0, l0, d0⟩ | ⟨j1, l0, c0, d0⟩ | ⟨j1, l0, c0, d0⟩
            · have e1 := bj0 j0
              have e2 := bd' d0
              subst l0
              have H0 : Hid (j = 0) := j0
              clear bj0 bj0' bj1 bj1' bc bc' bd bd' j0 d0
              go_wp2_with (go_at_call 140; refine (CD.out _).mono ?_; rintro e w1 ⟨rfl, rfl⟩)
              go_ret3
              exact ⟨ret_iib rfl (by have := H0.out; omega) rfl, rfl⟩
            · have e1 := bj0' (by omega)
              have e2 := bj1 j1
              have e3 := bc c0
              subst l0
              have H0 : Hid (j = 1) := j1
              clear bj0 bj0' bj1 bj1' bc bc' bd bd' j1 c0
              go_wp2_with (go_at_call 140; refine (CD.out _).mono ?_; rintro e w1 ⟨rfl, rfl⟩)
              go_ret3
              exact ⟨ret_iib rfl (by have := H0.out; omega) rfl, rfl⟩
            · have e1 := bj0' (by omega)
              have e2 := bj1 j1
              have e3 := bc c0
              have e4 : decide (12 ≤ D) = false := by simp; omega
              subst l0
              have H0 : Hid (j = 1) := j1
              clear bj0 bj0' bj1 bj1' bc bc' bd bd' j1 c0
              go_wp2_with (go_at_call 140; refine (CD.out _).mono ?_; rintro e w1 ⟨rfl, rfl⟩)
              go_ret3
              exact ⟨ret_iib rfl (by have := H0.out; omega) rfl, rfl⟩
          · have HN : Hid (R = Q.digs low r (j + 1) (16 * cN + D.toNat) (s.data.toList.drop (k + (j + 1)))) := by
              show R = _
              rw [HJ2.out, if_neg (by rw [hG]; simp; omega)]
            have hcase : (j = 0 ∧ low = false) ∨ (j = 0 ∧ low = true ∧ D = 13) ∨ (j = 1 ∧ low = false ∧ cN = 13 ∧ ¬ 12 ≤ D) ∨ (j = 1 ∧ low = false ∧ cN ≠ 13) ∨ (j = 1 ∧ low = true ∧ cN = 13 ∧ 12 ≤ D) ∨ (j ≠ 0 ∧ j ≠ 1 ∧ low = false) ∨ (j ≠ 0 ∧ j ≠ 1 ∧ low = true) := by
              unfold Q.goes at hG
              by_cases j0 : j = 0
              · rw [if_pos j0] at hG
                cases low <;> simp at hG ⊢
                · exact .inl j0
                · exact .inl ⟨j0, hG⟩
              · rw [if_neg j0] at hG
                by_cases j1 : j = 1
                · rw [if_pos j1] at hG
                  cases low
                  · simp at hG
                    by_cases c13 : cN = 13
                    · exact .inr (.inr (.inl ⟨j1, rfl, c13, by omega⟩))
                    · exact .inr (.inr (.inr (.inl ⟨j1, rfl, c13⟩)))
                  · simp at hG
                    exact .inr (.inr (.inr (.inr (.inl ⟨j1, rfl, by omega, by omega⟩))))
                · cases low
                  · exact .inr (.inr (.inr (.inr (.inr (.inl ⟨j0, j1, rfl⟩)))))
                  · exact .inr (.inr (.inr (.inr (.inr (.inr ⟨j0, j1, rfl⟩)))))
            have HI : Hid (low = true → j + 1 = 1 → 16 * cN + D.toNat = 13) := by
              intro hl hj0
              have j0 : j = 0 := by omega
              have h16 : (16 : Nat) ^ 0 = 1 := rfl
              rw [j0, h16] at hc
              rcases hcase with h | h | h | h | h | h | h
              · rw [h.2] at hl; cases hl
              · have := h.2.2; omega
              all_goals omega
            clear HJ2 HINV HINV2 hG
            rcases hcase with ⟨j0, l0⟩ | ⟨j0, l0, d0⟩ | ⟨j1, l0, c0, d0⟩ | ⟨j1, l0, c0⟩ | ⟨j1, l0, c0, d0⟩ | ⟨j0, j1, l0⟩ | ⟨j0, j1, l0⟩
            · have e1 := bj0 j0
              have e2 := bj1' (by omega)
              subst l0
              clear bj0 bj0' bj1 bj1' bc bc' bd bd' j0
              go_wp2_with (go_at_call 140; refine (CD.out _).mono ?_; rintro e w1 ⟨rfl, rfl⟩)
              go_round
              case rel =>
                have hD : D = (D.toNat : Int) := by omega
                have e2 : 4 - (j + 1) = r := by have := HD.out; omega
                refine ⟨j + 1, 16 * cN + D.toNat, by omega, by go_num, by congr 1; omega, by omega, by omega, HI, ?_⟩
                rw [e2]
                exact HN
              case measure => simp [RowKit.intOf]; omega
            · have e1 := bj0 j0
              have e2 := bj1' (by omega)
              have e3 := bd d0
              subst l0
              clear bj0 bj0' bj1 bj1' bc bc' bd bd' j0 d0
              go_wp2_with (go_at_call 140; refine (CD.out _).mono ?_; rintro e w1 ⟨rfl, rfl⟩)
              go_round
              case rel =>
                have hD : D = (D.toNat : Int) := by omega
                have e2 : 4 - (j + 1) = r := by have := HD.out; omega
                refine ⟨j + 1, 16 * cN + D.toNat, by omega, by go_num, by congr 1; omega, by omega, by omega, HI, ?_⟩
                rw [e2]
                exact HN
              case measure => simp [RowKit.intOf]; omega
            · have e1 := bj0' (by omega)
              have e2 := bj1 j1
              have e3 := bc c0
              subst l0
              clear bj0 bj0' bj1 bj1' bc bc' bd bd' j1 c0
              go_wp2_with (go_at_call 140; refine (CD.out _).mono ?_; rintro e w1 ⟨rfl, rfl⟩)
              go_round
              case rel =>
                have hD : D = (D.toNat : Int) := by omega
                have e2 : 4 - (j + 1) = r := by have := HD.out; omega
                refine ⟨j + 1, 16 * cN + D.toNat, by omega, by go_num, by congr 1; omega, by omega, by omega, HI, ?_⟩
                rw [e2]
                exact HN
              case measure => simp [RowKit.intOf]; omega
            · have e1 := bj0' (by omega)
              have e2 := bj1 j1
              have e3 := bc' c0
              subst l0
              clear bj0 bj0' bj1 bj1' bc bc' bd bd' j1 c0
              go_wp2_with (go_at_call 140; refine (CD.out _).mono ?_; rintro e w1 ⟨rfl, rfl⟩)
              go_round
              case rel =>
                have hD : D = (D.toNat : Int) := by omega
                have e2 : 4 - (j + 1) = r := by have := HD.out; omega
                refine ⟨j + 1, 16 * cN + D.toNat, by omega, by go_num, by congr 1; omega, by omega, by omega, HI, ?_⟩
                rw [e2]
                exact HN
              case measure => simp [RowKit.intOf]; omega
            · have e1 := bj0' (by omega)
              have e2 := bj1 j1
              have e3 := bc c0
              subst l0
              clear bj0 bj0' bj1 bj1' bc bc' bd bd' j1 c0
              go_wp2_with (go_at_call 140; refine (CD.out _).mono ?_; rintro e w1 ⟨rfl, rfl⟩)
              go_round
              case rel =>
                have hD : D = (D.toNat : Int) := by omega
                have e2 : 4 - (j + 1) = r := by have := HD.out; omega
                refine ⟨j + 1, 16 * cN + D.toNat, by omega, by go_num, by congr 1; omega, by omega, by omega, HI, ?_⟩
                rw [e2]
                exact HN
              case measure => simp [RowKit.intOf]; omega
            · have e1 := bj0' j0
              have e2 := bj1' j1
              subst l0
              clear bj0 bj0' bj1 bj1' bc bc' bd bd'
              go_wp2_with (go_at_call 140; refine (CD.out _).mono ?_; rintro e w1 ⟨rfl, rfl⟩)
              go_round
              case rel =>
                have hD : D = (D.toNat : Int) := by omega
                have e2 : 4 - (j + 1) = r := by have := HD.out; omega
                refine ⟨j + 1, 16 * cN + D.toNat, by omega, by go_num, by congr 1; omega, by omega, by omega, HI, ?_⟩
                rw [e2]
                exact HN
              case measure => simp [RowKit.intOf]; omega
            · have e1 := bj0' j0
              have e2 := bj1' j1
              subst l0
              clear bj0 bj0' bj1 bj1' bc bc' bd bd'
              go_wp2_with (go_at_call 140; refine (CD.out _).mono ?_; rintro e w1 ⟨rfl, rfl⟩)
              go_round
              case rel =>
                have hD : D = (D.toNat : Int) := by omega
                have e2 : 4 - (j + 1) = r := by have := HD.out; omega
                refine ⟨j + 1, 16 * cN + D.toNat, by omega, by go_num, by congr 1; omega, by omega, by omega, HI, ?_⟩
                rw [e2]
                exact HN
              case measure => simp [RowKit.intOf]; omega
      · have y2 : (s.size : Int) ≤ (k : Int) + j := by omega
        have hd := drop_endW s (k + j) (by omega)
        obtain ⟨r, hr⟩ : ∃ r, 4 - j = r + 1 := ⟨3 - j, by omega⟩
        obtain rfl : R = (0, j, false) := by rw [HJ.out, hd, hr, Q.digs]
        clear HJ HINV hd hr
        go_wp2
        go_ret3
        exact ⟨ret_iib rfl (by simp) rfl, rfl⟩
    · have hj4' : j = 4 := by omega
      have y1 : ¬ (j : Int) < 4 := by omega
      have hfin : R = (cN, j, true) := by
        rw [HJ.out]
        have e : 4 - j = 0 := by omega
        rw [e, Q.digs]
      subst hfin
      have H4 : Hid (j = 4) := hj4'
      clear HJ hj4' HINV
      go_wp2
      go_ret3
      exact ⟨ret_iib rfl (by have := H4.out; simp; omega) rfl, rfl⟩
end Go.Proofs.YtpmhdcmmlkjjmaaGreatDoor
/- Contracts: the document's Sequence. -/
set_option maxRecDepth 100000
namespace Go.Proofs.YtpmhdcmmlkjjmaaGreatDoor
open Go.RowKit
set_option maxHeartbeats 4000000 in
set_option maxRecDepth 100000 in
theorem seq_any (V : Int) (h0 : 0 ≤ V) (h1 : V ≤ 1114111) (h2 : ¬ (55296 ≤ V ∧ V ≤ 57343)) (w : World) :
    Calls Tryz.prog 97 #[.int .i64 V] w fun e w' => e = .returned (.slice (some ⟨w.heap.size, 0, none⟩) (Lib.runeCells V).length (Lib.runeCells V).length) ∧ w' = w.alloc (.cells (Lib.runeCells V).toArray 5) := by
  unfold Lib.runeCells
  by_cases c1 : V < 128
  · rw [Lib.encodeRuneZ_one h0 (by omega)]
    have q1 : IntKind.u8.wrap V = V := by rw [IntKind.wrap_u8]; omega
    clear h2 h1
    go_enter Tryz.func97, Tryz.ntmps97
    go_wp2
    go_ret
    exact ⟨rfl, rfl⟩
  · by_cases c2 : V < 2048
    · rw [Lib.encodeRuneZ_two (by omega) (by omega)]
      have y0 : (0 : Int) ≤ V / 64 := by omega
      have y1 : V / 64 < 32 := by omega
      have y2 : (0 : Int) ≤ V % 64 := by omega
      have y3 : V % 64 < 64 := by omega
      have q1 : IntKind.u8.wrap (192 + V / 64) = 192 + V / 64 := by rw [IntKind.wrap_u8]; omega
      have q2 : IntKind.u8.wrap (128 + V % 64) = 128 + V % 64 := by rw [IntKind.wrap_u8]; omega
      clear h2 h1
      go_enter Tryz.func97, Tryz.ntmps97
      go_wp2
      go_ret
      exact ⟨rfl, rfl⟩
    · by_cases c3 : V < 65536
      · rw [Lib.encodeRuneZ_three (by omega)]
        have y0 : (0 : Int) ≤ V / 4096 := by omega
        have y1 : V / 4096 < 16 := by omega
        have y2 : (0 : Int) ≤ V / 64 := by omega
        have y3 : V / 64 < 1024 := by omega
        have q1 : IntKind.u8.wrap (224 + V / 4096) = 224 + V / 4096 := by rw [IntKind.wrap_u8]; omega
        have q2 : IntKind.u8.wrap (128 + V / 64 % 64) = 128 + V / 64 % 64 := by rw [IntKind.wrap_u8]; omega
        have q3 : IntKind.u8.wrap (128 + V % 64) = 128 + V % 64 := by rw [IntKind.wrap_u8]; omega
        clear h2 h1
        go_enter Tryz.func97, Tryz.ntmps97
        go_wp2
        go_ret
        exact ⟨rfl, rfl⟩
      · rw [Lib.encodeRuneZ_four (by omega) h1]
        have y0 : (0 : Int) ≤ V / 262144 := by omega
        have y1 : V / 262144 < 5 := by omega
        have y2 : (0 : Int) ≤ V / 4096 := by omega
        have y3 : V / 4096 < 273 := by omega
        have y4 : (0 : Int) ≤ V / 64 := by omega
        have y5 : V / 64 < 17408 := by omega
        have q1 : IntKind.u8.wrap (240 + V / 262144) = 240 + V / 262144 := by rw [IntKind.wrap_u8]; omega
        have q2 : IntKind.u8.wrap (128 + V / 4096 % 64) = 128 + V / 4096 % 64 := by rw [IntKind.wrap_u8]; omega
        have q3 : IntKind.u8.wrap (128 + V / 64 % 64) = 128 + V / 64 % 64 := by rw [IntKind.wrap_u8]; omega
        have q4 : IntKind.u8.wrap (128 + V % 64) = 128 + V % 64 := by rw [IntKind.wrap_u8]; omega
        clear h2
        go_enter Tryz.func97, Tryz.ntmps97
        go_wp2
        go_ret
        exact ⟨rfl, rfl⟩
end Go.Proofs.YtpmhdcmmlkjjmaaGreatDoor
/- Contracts: the document's escape. -/
set_option maxRecDepth 100000
namespace Go.Proofs.YtpmhdcmmlkjjmaaGreatDoor
open Go.RowKit
/-- where the letter stands among the seven; 7: nowhere -/
def Q.lidN (c : Nat) : Nat := if c = 34 then 0 else if c = 92 then 1 else if c = 98 then 2 else if c = 116 then 3 else if c = 110 then 4 else if c = 102 then 5 else if c = 114 then 6 else 7
theorem Q.lidN_le (c : Nat) : Q.lidN c ≤ 7 := by
  unfold Q.lidN
  repeat' split
  all_goals omega
theorem lid_none (c : Nat) (h : ¬ Q.lidN c < 7) (h47 : c ≠ 47) : Q.saidN c = 0 := by
  revert h
  unfold Q.lidN Q.saidN
  repeat' split
  all_goals first | rfl | (intro h; omega)
theorem lid_ne (c : UInt8) (k : Nat) (h : k < Q.lidN c.toNat) (h' : k < (⟨#[34, 92, 98, 116, 110, 102, 114]⟩ : ByteArray).size) : (⟨#[34, 92, 98, 116, 110, 102, 114]⟩ : ByteArray)[k].toNat ≠ c.toNat := by
  have key : ∀ (k : Fin 7), (⟨#[34, 92, 98, 116, 110, 102, 114]⟩ : ByteArray)[k.val]'(k.isLt) = UInt8.ofNat ([34, 92, 98, 116, 110, 102, 114].getD k.val 0) ∧ Q.lidN ([34, 92, 98, 116, 110, 102, 114].getD k.val 0) = k.val ∧ [34, 92, 98, 116, 110, 102, 114].getD k.val 0 < 256 := by decide
  have hk := key ⟨k, h'⟩
  simp only at hk
  intro e
  rw [hk.1] at e
  obtain ⟨_, h2, h3⟩ := hk
  generalize [34, 92, 98, 116, 110, 102, 114].getD k 0 = z at *
  have e2 : z = c.toNat := by
    rw [← e]; simp; omega
  rw [← e2] at h
  omega
theorem lid_eq (c : UInt8) (h : Q.lidN c.toNat < 7) (h' : Q.lidN c.toNat < (⟨#[34, 92, 98, 116, 110, 102, 114]⟩ : ByteArray).size) (h'' : Q.lidN c.toNat < (⟨#[34, 92, 8, 9, 10, 12, 13]⟩ : ByteArray).size) :
    (⟨#[34, 92, 98, 116, 110, 102, 114]⟩ : ByteArray)[Q.lidN c.toNat].toNat = c.toNat ∧ (⟨#[34, 92, 8, 9, 10, 12, 13]⟩ : ByteArray)[Q.lidN c.toNat].toNat = Q.saidN c.toNat ∧ Q.saidN c.toNat ≠ 0 ∧ c.toNat ≠ 117 := by
  have key : ∀ c : Fin 256, (hh : Q.lidN c.val < 7) → ((⟨#[34, 92, 98, 116, 110, 102, 114]⟩ : ByteArray)[Q.lidN c.val]'(hh)).toNat = c.val ∧ ((⟨#[34, 92, 8, 9, 10, 12, 13]⟩ : ByteArray)[Q.lidN c.val]'(hh)).toNat = Q.saidN c.val ∧ Q.saidN c.val ≠ 0 ∧ c.val ≠ 117 := by decide +kernel
  exact key ⟨c.toNat, c.toNat_lt⟩ h
theorem wrap64_u8 (x : UInt8) : wrap64 (x.toNat : Int) = (x.toNat : Int) := by
  have := x.toNat_lt
  simp only [wrap64, IntKind.wrap_i64]
  omega
/-- what the document's escape tells -/
def Esc (k : Nat) (F : Nat × Nat × Bool) (w : World) (e : Ending) (w' : World) : Prop :=
  (∃ v : Int, e = .returned (.tuple #[.int .i64 v, .int .i64 ((k + F.2.1 : Nat) : Int), .bool F.2.2]) ∧ (F.2.2 = true → v = (F.1 : Int))) ∧ ∃ n, w' = w.drewN n
set_option maxHeartbeats 4000000 in
set_option maxRecDepth 100000 in
theorem refEscape_short (s : ByteArray) (k : Nat) (hk : k ≤ s.size) (hs : s.size ≤ 140737488351232) (w : World) (hu : hit s k 117 = false) :
    Calls Tryz.prog 96 #[.string s, .int .i64 k] w (Esc k (Q.escF (s.data.toList.drop k)) w) := by
  by_cases hlt : k < s.size
  · have y1 : (k : Int) < s.size := by omega
    have hx := drop_consW s k hlt
    have hne : s[k].toNat ≠ 117 := hit_no hu _ _ hx
    have e : Q.escF (s.data.toList.drop k) = if Q.saidN s[k].toNat = 0 then (0, 0, false) else (Q.saidN s[k].toNat, 1, true) := by
      rw [hx, Q.escF_cons, if_neg hne]
    rw [e]
    by_cases h47 : s[k].toNat = 47
    · have e47 : Q.saidN s[k].toNat = 47 := by rw [h47]; rfl
      rw [e47, if_neg (by omega)]
      have b47 : ((s[k].toNat : Int) == 47) = true := by rw [beq_iff_eq]; omega
      clear e e47 h47 hne hx hu
      go_enter Tryz.func96, Tryz.ntmps96
      go_wp2
      go_ret3
      exact ⟨⟨_, ret_iib rfl (by simp) rfl, fun _ => rfl⟩, 0, rfl⟩
    · have b47 : ((s[k].toNat : Int) == 47) = false := by rw [beq_eq_false_iff_ne]; omega
      have bne : ((s[k].toNat : Int) != 117) = true := by rw [bne_iff_ne]; omega
      have hl7 := Q.lidN_le s[k].toNat
      have hnone := lid_none s[k].toNat
      have hse := fun h : Q.lidN s[k].toNat < 7 => lid_eq s[k] h (by exact h) (by exact h)
      have hsn := lid_ne s[k]
      obtain ⟨I, hI⟩ : ∃ I, I = Q.lidN s[k].toNat := ⟨_, rfl⟩
      obtain ⟨S, hS⟩ : ∃ S, S = Q.saidN s[k].toNat := ⟨_, rfl⟩
      rw [← hS]
      have HNONE : Hid (¬ I < 7 → S = 0) := by rw [hI, hS]; exact fun h => hnone h h47
      have HSE : Hid (∀ h : I < 7, ((⟨#[34, 92, 98, 116, 110, 102, 114]⟩ : ByteArray)[I]'(by exact h)).toNat = s[k].toNat ∧ ((⟨#[34, 92, 8, 9, 10, 12, 13]⟩ : ByteArray)[I]'(by exact h)).toNat = S ∧ S ≠ 0) := by
        subst hI
        rw [hS]
        intro h
        exact ⟨(hse h).1, (hse h).2.1, (hse h).2.2.1⟩
      have HSN : Hid (∀ i, (h : i < I) → (h' : i < 7) → ((⟨#[34, 92, 98, 116, 110, 102, 114]⟩ : ByteArray)[i]'(by exact h')).toNat ≠ s[k].toNat) := by
        subst hI
        intro i h h'
        exact hsn i h h'
      rw [← hI] at hl7
      obtain ⟨F, hF⟩ : ∃ F : Nat × Nat × Bool, F = if S = 0 then (0, 0, false) else (S, 1, true) := ⟨_, rfl⟩
      rw [← hF]
      have HF : Hid (F = if S = 0 then (0, 0, false) else (S, 1, true)) := hF
      clear hF
      clear hnone hse hsn hI hS e h47 hne hx hu
      go_enter Tryz.func96, Tryz.ntmps96
      go_wp2
      go_loopw [7] (fun j wr => ∃ i : Nat, i ≤ I ∧ j = .int .i64 i ∧ ∃ n, wr = w.drewN n) (fun j _ => 7 - (RowKit.intOf j).toNat)
      case atStart => exact ⟨0, Nat.zero_le _, rfl, 0, rfl⟩
      case round =>
        obtain ⟨i, hi, rfl, n, rfl⟩ := hrel
        by_cases hii : i < I
        · have z1 : (i : Int) < 7 := by omega
          have hne := HSN.out i hii (by omega)
          have z2 : ((((⟨#[34, 92, 98, 116, 110, 102, 114]⟩ : ByteArray)[i]'(by show i < 7; omega)).toNat : Int) == (s[k].toNat : Int)) = false := by rw [beq_eq_false_iff_ne]; omega
          clear hne
          go_wp2
          go_quiet (fail)
          go_wp2
          go_roundw
          case rel => exact ⟨i + 1, by omega, by go_num, _, rfl⟩
          case measure => simp [RowKit.intOf]; omega
        · obtain rfl : i = I := by omega
          by_cases h7 : i < 7
          · have hse := HSE.out h7
            have z1 : (i : Int) < 7 := by omega
            have z2 : ((((⟨#[34, 92, 98, 116, 110, 102, 114]⟩ : ByteArray)[i]'(by exact h7)).toNat : Int) == (s[k].toNat : Int)) = true := by rw [beq_iff_eq]; omega
            obtain rfl : F = (S, 1, true) := by rw [HF.out, if_neg hse.2.2]
            have HV : Hid ((((⟨#[34, 92, 8, 9, 10, 12, 13]⟩ : ByteArray)[i]'(by exact h7)).toNat : Int) = (S : Int)) := by show _ = _; omega
            clear hse HSE HSN HNONE HF
            go_wp2
            go_quiet (fail)
            go_wp2
            go_ret3
            exact ⟨⟨_, ret_iib rfl (by simp) rfl, fun _ => (wrap64_u8 _).trans HV.out⟩, _, rfl⟩
          · have z1 : ¬ (i : Int) < 7 := by omega
            obtain rfl : F = (0, 0, false) := by rw [HF.out, if_pos (HNONE.out h7)]
            clear HSE HSN HNONE HF
            go_wp2
            go_ret3
            exact ⟨⟨_, ret_iib rfl (by simp) rfl, fun h => by cases h⟩, _, rfl⟩
  · have y1 : (s.size : Int) ≤ k := by omega
    have e : Q.escF (s.data.toList.drop k) = (0, 0, false) := by rw [drop_endW s k (by omega)]; rfl
    rw [e]
    clear e hu
    go_enter Tryz.func96, Tryz.ntmps96
    go_wp2
    go_ret3
    exact ⟨⟨_, ret_iib rfl (by simp) rfl, fun h => by cases h⟩, 0, rfl⟩
set_option maxHeartbeats 8000000 in
set_option maxRecDepth 100000 in
theorem refEscape_u (s : ByteArray) (k : Nat) (hs : s.size ≤ 140737488351232) (w : World) (hlt : k < s.size) (he : s[k].toNat = 117) :
    Calls Tryz.prog 96 #[.string s, .int .i64 k] w (Esc k (Q.escF (s.data.toList.drop k)) w) := by
  have y1 : (k : Int) < s.size := by omega
  have hx := drop_consW s k hlt
  have eF : Q.escF (s.data.toList.drop k) = ((Q.numF (s.data.toList.drop (k + 1))).1, 1 + (Q.numF (s.data.toList.drop (k + 1))).2.1, (Q.numF (s.data.toList.drop (k + 1))).2.2) := by
    rw [hx, Q.escF_cons, if_pos he]
  obtain ⟨F, hF⟩ : ∃ F, F = Q.escF (s.data.toList.drop k) := ⟨_, rfl⟩
  rw [← hF]
  rw [← hF] at eF
  have EF : Hid (F = ((Q.numF (s.data.toList.drop (k + 1))).1, 1 + (Q.numF (s.data.toList.drop (k + 1))).2.1, (Q.numF (s.data.toList.drop (k + 1))).2.2)) := eF
  have b47 : ((s[k].toNat : Int) == 47) = false := by rw [beq_eq_false_iff_ne]; omega
  have bne : ((s[k].toNat : Int) != 117) = false := by rw [bne_eq_false_iff_eq]; omega
  have HSN : Hid (∀ i, (h' : i < 7) → ((⟨#[34, 92, 98, 116, 110, 102, 114]⟩ : ByteArray)[i]'(by exact h')).toNat ≠ s[k].toNat) := by
    intro i h'
    have e7 : Q.lidN s[k].toNat = 7 := by rw [he]; rfl
    exact lid_ne s[k] i (by omega) h'
  have C4 : Hid (∀ w1 : World, Calls Tryz.prog 121 #[.string s, .int .i64 ((k : Int) + 1), .bool false] w1 fun e w' => e = .returned (.tuple #[.int .i64 ((Q.digs false 4 0 0 (s.data.toList.drop (k + 1))).1 : Int), .int .i64 ((k + 1 + (Q.digs false 4 0 0 (s.data.toList.drop (k + 1))).2.1 : Nat) : Int), .bool (Q.digs false 4 0 0 (s.data.toList.drop (k + 1))).2.2]) ∧ w' = w1) :=
    fun w1 => four_any s _ (k + 1) (by omega) false (by omega) hs w1
  clear hF eF hx he
  go_enter Tryz.func96, Tryz.ntmps96
  go_wp2
  go_loopw [7] (fun j wr => ∃ i : Nat, i ≤ 7 ∧ j = .int .i64 i ∧ ∃ n, wr = w.drewN n) (fun j _ => 7 - (RowKit.intOf j).toNat)
  case atStart => exact ⟨0, Nat.zero_le _, rfl, 0, rfl⟩
  case round =>
    obtain ⟨i, hi, rfl, n, rfl⟩ := hrel
    by_cases hii : i < 7
    · have z1 : (i : Int) < 7 := by omega
      have hne := HSN.out i hii
      have z2 : ((((⟨#[34, 92, 98, 116, 110, 102, 114]⟩ : ByteArray)[i]'(by exact hii)).toNat : Int) == (s[k].toNat : Int)) = false := by rw [beq_eq_false_iff_ne]; omega
      clear hne
      go_wp2
      go_quiet (fail)
      go_wp2
      go_roundw
      case rel => exact ⟨i + 1, by omega, by go_num, _, rfl⟩
      case measure => simp [RowKit.intOf]; omega
    · have z1 : ¬ (i : Int) < 7 := by omega
      clear HSN
      have hdl := Q.digs_le false 4 0 0 (s.data.toList.drop (k + 1))
      have hlen2 : (s.data.toList.drop (k + 1)).length = s.size - (k + 1) := by simp
      rw [hlen2] at hdl
      cases hok : (Q.digs false 4 0 0 (s.data.toList.drop (k + 1))).2.2
      · obtain rfl : F = (0, 1 + (Q.digs false 4 0 0 (s.data.toList.drop (k + 1))).2.1, false) := by rw [EF.out, numF_pre _ hok]
        rw [hok] at C4
        generalize Q.digs false 4 0 0 (s.data.toList.drop (k + 1)) = D at *
        obtain ⟨v, m, o⟩ := D
        simp only at *
        clear EF hok hlen2
        go_wp2_with (go_at_call 121; refine (C4.out _).mono ?_; rintro e w1 ⟨rfl, rfl⟩)
        go_ret3
        exact ⟨⟨_, ret_iib rfl (by simp only; omega) rfl, fun h => by cases h⟩, n, rfl⟩
      · have hn4 := hdl.2.2.2 hok
        have hrg := Q.digs_range false _ hok
        rw [hok, hn4, Nat.zero_add] at C4
        by_cases hc : 55296 ≤ (Q.digs false 4 0 0 (s.data.toList.drop (k + 1))).1 ∧ (Q.digs false 4 0 0 (s.data.toList.drop (k + 1))).1 < 56320
        · have hd4 : (s.data.toList.drop (k + 1)).drop 4 = s.data.toList.drop (k + 5) := by rw [List.drop_drop]
          have hk5 : k + 5 ≤ s.size := by omega
          obtain ⟨v, hv⟩ : ∃ v, v = (Q.digs false 4 0 0 (s.data.toList.drop (k + 1))).1 := ⟨_, rfl⟩
          obtain ⟨V, hV⟩ : ∃ V : Int, V = (v : Int) := ⟨_, rfl⟩
          have hc' := hc
          rw [← hv] at C4 hc'
          rw [← hV] at C4
          have v1 : ¬ V < 55296 := by omega
          have v2 : ¬ (56319 : Int) < V := by omega
          have v3 : (55296 : Int) ≤ V := by omega
          have v4 : V < 56320 := by omega
          have HV : Hid (V = (v : Int)) := hV
          cases h92 : hit s (k + 5) 92
          · obtain rfl : F = (0, 5, false) := by
              rw [EF.out, numF_p1 _ hok hc (by intro x r hx; rw [hd4] at hx; exact hit_no h92 x r hx)]
              rfl
            have C4' : Hid (∀ w1 : World, Calls Tryz.prog 121 #[.string s, .int .i64 ((k : Int) + 1), .bool false] w1 fun e w' => e = .returned (.tuple #[.int .i64 V, .int .i64 ((k + 5 : Nat) : Int), .bool true]) ∧ w' = w1) := C4
            by_cases hlt5 : k + 5 < s.size
            · have q1 : ((k + 5 : Nat) : Int) < s.size := by omega
              have q1' : (k : Int) + 5 < s.size := by omega
              have hne5 := hit_no h92 _ _ (drop_consW s (k + 5) hlt5)
              have q2 : ((s[k + 5].toNat : Int) != 92) = true := by rw [bne_iff_ne]; omega
              clear EF hok hlen2 hc hrg hdl hn4 hV C4 hd4 hv hc' h92 hne5
              go_wp2_with (go_at_call 121; refine (C4'.out _).mono ?_; rintro e w1 ⟨rfl, rfl⟩)
              go_ret3
              exact ⟨⟨_, ret_iib rfl (by simp only; omega) rfl, fun h => by cases h⟩, n, rfl⟩
            · have q1 : (s.size : Int) ≤ ((k + 5 : Nat) : Int) := by omega
              have q1' : (s.size : Int) ≤ (k : Int) + 5 := by omega
              clear EF hok hlen2 hc hrg hdl hn4 hV C4 hd4 hv hc' h92
              go_wp2_with (go_at_call 121; refine (C4'.out _).mono ?_; rintro e w1 ⟨rfl, rfl⟩)
              go_ret3
              exact ⟨⟨_, ret_iib rfl (by simp only; omega) rfl, fun h => by cases h⟩, n, rfl⟩
          · obtain ⟨hlt5, he92⟩ := hit_yes h92
            have hx5 := drop_consW s (k + 5) hlt5
            have C4' : Hid (∀ w1 : World, Calls Tryz.prog 121 #[.string s, .int .i64 ((k : Int) + 1), .bool false] w1 fun e w' => e = .returned (.tuple #[.int .i64 V, .int .i64 ((k + 5 : Nat) : Int), .bool true]) ∧ w' = w1) := C4
            have q1 : ((k + 5 : Nat) : Int) < s.size := by omega
            have q1' : (k : Int) + 5 < s.size := by omega
            have q2 : ((s[k + 5].toNat : Int) != 92) = false := by rw [bne_eq_false_iff_eq]; omega
            cases h117 : hit s (k + 6) 117
            · obtain rfl : F = (0, 6, false) := by
                rw [EF.out, numF_p2 _ hok hc s[k + 5] _ (by rw [hd4]; exact hx5) he92 (by intro y r2 hy; exact hit_no h117 y r2 hy)]
                rfl
              by_cases hlt6 : k + 6 < s.size
              · have q3 : ((k + 5 : Nat) : Int) + 1 < s.size := by omega
                have q3' : (k : Int) + 5 + 1 < s.size := by omega
                have q3'' : (k : Int) + 6 < s.size := by omega
                have hne6 := hit_no h117 _ _ (drop_consW s (k + 6) hlt6)
                have q4 : ((s[k + 6].toNat : Int) != 117) = true := by rw [bne_iff_ne]; omega
                have q4' : ((s[k + 5 + 1].toNat : Int) != 117) = true := q4
                clear EF hok hlen2 hc hrg hdl hn4 hV C4 hd4 hv hc' h92 h117 hne6 hx5 he92
                go_wp2_with (go_at_call 121; refine (C4'.out _).mono ?_; rintro e w1 ⟨rfl, rfl⟩)
                go_ret3
                exact ⟨⟨_, ret_iib rfl (by simp only; omega) rfl, fun h => by cases h⟩, n, rfl⟩
              · have q3 : (s.size : Int) ≤ ((k + 5 : Nat) : Int) + 1 := by omega
                have q3' : (s.size : Int) ≤ (k : Int) + 5 + 1 := by omega
                have q3'' : (s.size : Int) ≤ (k : Int) + 6 := by omega
                clear EF hok hlen2 hc hrg hdl hn4 hV C4 hd4 hv hc' h92 h117 hx5 he92
                go_wp2_with (go_at_call 121; refine (C4'.out _).mono ?_; rintro e w1 ⟨rfl, rfl⟩)
                go_ret3
                exact ⟨⟨_, ret_iib rfl (by simp only; omega) rfl, fun h => by cases h⟩, n, rfl⟩
            · obtain ⟨hlt6, he117⟩ := hit_yes h117
              have hx6 := drop_consW s (k + 6) hlt6
              have hx5' : s.data.toList.drop (k + 5) = s[k + 5] :: s[k + 6] :: s.data.toList.drop (k + 7) := by rw [hx5]; congr 1
              have hFF : F = ((if (Q.digs true 4 0 0 (s.data.toList.drop (k + 7))).2.2 = false then (0, 6 + (Q.digs true 4 0 0 (s.data.toList.drop (k + 7))).2.1, false) else (65536 + 1024 * (v - 55296) + ((Q.digs true 4 0 0 (s.data.toList.drop (k + 7))).1 - 56320), 10, true) : Nat × Nat × Bool).1, 1 + (if (Q.digs true 4 0 0 (s.data.toList.drop (k + 7))).2.2 = false then (0, 6 + (Q.digs true 4 0 0 (s.data.toList.drop (k + 7))).2.1, false) else (65536 + 1024 * (v - 55296) + ((Q.digs true 4 0 0 (s.data.toList.drop (k + 7))).1 - 56320), 10, true) : Nat × Nat × Bool).2.1, (if (Q.digs true 4 0 0 (s.data.toList.drop (k + 7))).2.2 = false then (0, 6 + (Q.digs true 4 0 0 (s.data.toList.drop (k + 7))).2.1, false) else (65536 + 1024 * (v - 55296) + ((Q.digs true 4 0 0 (s.data.toList.drop (k + 7))).1 - 56320), 10, true) : Nat × Nat × Bool).2.2) := by
                rw [EF.out, numF_p3 _ hok hc s[k + 5] s[k + 6] _ (by rw [hd4]; exact hx5') he92 he117, hv]
              have C5 : Hid (∀ (a : Int) (w1 : World), a = ((k + 7 : Nat) : Int) → Calls Tryz.prog 121 #[.string s, .int .i64 a, .bool true] w1 fun e w' => e = .returned (.tuple #[.int .i64 ((Q.digs true 4 0 0 (s.data.toList.drop (k + 7))).1 : Int), .int .i64 ((k + 7 + (Q.digs true 4 0 0 (s.data.toList.drop (k + 7))).2.1 : Nat) : Int), .bool (Q.digs true 4 0 0 (s.data.toList.drop (k + 7))).2.2]) ∧ w' = w1) :=
                fun a w1 ha => four_any s a (k + 7) ha true (by omega) hs w1
              have htl := Q.digs_le true 4 0 0 (s.data.toList.drop (k + 7))
              have hrt := Q.digs_range true (s.data.toList.drop (k + 7))
              have q3 : ((k + 5 : Nat) : Int) + 1 < s.size := by omega
              have q3' : (k : Int) + 5 + 1 < s.size := by omega
              have q3'' : (k : Int) + 6 < s.size := by omega
              have q4 : ((s[k + 6].toNat : Int) != 117) = false := by rw [bne_eq_false_iff_eq]; omega
              have q4' : ((s[k + 5 + 1].toNat : Int) != 117) = false := q4
              generalize Q.digs true 4 0 0 (s.data.toList.drop (k + 7)) = E at *
              obtain ⟨u, m2, o2⟩ := E
              simp only at *
              have hm2 := htl.2.1
              cases o2
              · obtain rfl : F = (0, 7 + m2, false) := by rw [hFF, if_pos rfl]; simp; omega
                obtain ⟨U, hU⟩ : ∃ U : Int, U = (u : Int) := ⟨_, rfl⟩
                rw [← hU] at C5
                have hU0 : 0 ≤ U := by omega
                have HU1 : Hid (0 ≤ U) := hU0
                clear EF hok hlen2 hc hrg hdl hn4 hV C4 hd4 hv hc' h92 h117 hx5 hx6 hx5' he92 he117 hFF htl hrt hU
                go_wp2_with fail
                refine (C4'.out _).mono ?_
                rintro e w1 ⟨rfl, rfl⟩
                go_wp2_with fail
                refine (C5.out _ _ (by omega)).mono ?_
                rintro e w1 ⟨rfl, rfl⟩
                go_wp2
                go_ret3
                exact ⟨⟨_, ret_iib rfl (by simp only; omega) rfl, fun h => by cases h⟩, n, rfl⟩
              · have hr := (hrt rfl).2.1 trivial
                have hm4 := htl.2.2.2 rfl
                obtain rfl : F = (65536 + 1024 * (v - 55296) + (u - 56320), 11, true) := by rw [hFF, if_neg (by simp)]; rfl
                obtain ⟨U, hU⟩ : ∃ U : Int, U = (u : Int) := ⟨_, rfl⟩
                rw [← hU] at C5
                have u1 : (56320 : Int) ≤ U := by omega
                have u2 : U ≤ 57343 := by omega
                have HRES : Hid (65536 + 1024 * (V - 55296) + U - 56320 = ((65536 + 1024 * (v - 55296) + (u - 56320) : Nat) : Int)) := by show _ = _; omega
                have HM : Hid (m2 = 4) := by show m2 = 4; omega
                clear EF hok hlen2 hc hrg hdl hn4 hV C4 hd4 hv hc' h92 h117 hx5 hx6 hx5' he92 he117 hFF htl hrt hU hr hm4 hm2
                go_wp2_with fail
                refine (C4'.out _).mono ?_
                rintro e w1 ⟨rfl, rfl⟩
                go_wp2_with fail
                refine (C5.out _ _ (by omega)).mono ?_
                rintro e w1 ⟨rfl, rfl⟩
                go_wp2
                go_ret3
                exact ⟨⟨_, ret_iib rfl (by have := HM.out; simp only; omega) rfl, fun _ => HRES.out⟩, n, rfl⟩
        · obtain rfl : F = ((Q.digs false 4 0 0 (s.data.toList.drop (k + 1))).1, 5, true) := by rw [EF.out, numF_plain _ hok hc]; rfl
          generalize Q.digs false 4 0 0 (s.data.toList.drop (k + 1)) = D at *
          obtain ⟨v, m, o⟩ := D
          simp only at *
          have hcase : (v : Int) < 55296 ∨ (¬ (v : Int) < 55296 ∧ (56319 : Int) < (v : Int)) := by omega
          obtain ⟨V, hV⟩ : ∃ V : Int, V = (v : Int) := ⟨_, rfl⟩
          rw [← hV] at C4 hcase
          have HV : Hid (V = (v : Int)) := hV
          clear EF hok hlen2 hc hrg hdl hn4 hV
          rcases hcase with h1 | ⟨h1, h2⟩
          · go_wp2_with (go_at_call 121; refine (C4.out _).mono ?_; rintro e w1 ⟨rfl, rfl⟩)
            go_ret3
            exact ⟨⟨_, ret_iib rfl (by simp only; omega) rfl, fun _ => HV.out⟩, n, rfl⟩
          · go_wp2_with (go_at_call 121; refine (C4.out _).mono ?_; rintro e w1 ⟨rfl, rfl⟩)
            go_ret3
            exact ⟨⟨_, ret_iib rfl (by simp only; omega) rfl, fun _ => HV.out⟩, n, rfl⟩
end Go.Proofs.YtpmhdcmmlkjjmaaGreatDoor
/- Contracts: the document's Unquote. -/
set_option maxRecDepth 100000
namespace Go.Proofs.YtpmhdcmmlkjjmaaGreatDoor
open Go.RowKit Go.Lib
theorem OwnB.drewN {B : Nat} {v : Value} {l : List UInt8} {w : World} (h : OwnB B v l w) (q : Nat) : OwnB B v l (w.drewN q) := by
  induction q with
  | zero => exact h
  | succ q ih => exact ih
/-- append of a string's bytes -/
theorem wpl_app_str {ops : Array Oper} {rest : List Oper} {o : Oper} {a : Act} {Q : Exit → Act → World → Prop} (w : World) (hgd : o.guard = none) (s x : Operand)
    (ho : o.op = .call { callee := .builtin .append, args := #[s, x], argTypes := #[28, 9] }) (B : Nat) (v : Value) (l : List UInt8) (hs : a.eval s = v) (hown : OwnB B v l w)
    (t : ByteArray) (hx : a.eval x = .string t) (hlen : l.length + t.size ≤ 140737488355328) (hbase : B ≤ w.heap.size)
    (h : ∀ v' w', OwnB B v' (l ++ t.data.toList) w' → Below B w w' → wpList Tryz.prog ops Q rest (a.put o.dst v') w') : wpList Tryz.prog ops Q (o :: rest) a w := by
  obtain ⟨i0, hi, hz0, hz1, hz2⟩ := info_parts info5
  refine Lib.wpList_append_own_string w hgd s x 28 9 ho B 5 i0 Tryz.underlying28 Tryz.underlying9 hi hz0 hz1 hz2 v l.length (Lib.byteCells l) hs hown t hx (by unfold maxLen; omega) (by omega) hbase ?_
  intro v' w' h1 h2 _
  refine h v' w' ?_ ((Below.refl B w).grown h2 hbase (fun k hk => (World.ownsRow.lt hown k hk).1))
  show w'.ownsRow B 5 1 v' (l ++ t.data.toList).length (Lib.byteCells (l ++ t.data.toList))
  have e : Lib.byteCells (l ++ t.data.toList) = Lib.byteCells l ++ Lib.strCells t := by simp [Lib.byteCells, Lib.strCells]
  have e2 : t.data.toList.length = t.size := by simp
  rw [e, List.length_append, e2]
  exact h1
end Go.Proofs.YtpmhdcmmlkjjmaaGreatDoor
/- Contracts: the document's Unquote: the loop. -/
set_option maxRecDepth 100000
namespace Go.Proofs.YtpmhdcmmlkjjmaaGreatDoor
open Go.RowKit Go.Lib
/-- what the document's Unquote tells -/
def Read (w : World) (RES : List UInt8 × Nat × Nat) (e : Ending) (w' : World) : Prop :=
  e = .returned (.tuple #[.string ⟨RES.1.toArray⟩, .int .i64 (RES.2.1 : Int), .int .i64 (RES.2.2 : Int)]) ∧ Below w.heap.size w w'
theorem escape_all (s : ByteArray) (k : Nat) (hk : k ≤ s.size) (hs : s.size ≤ 140737488351232) (w : World) : Calls Tryz.prog 96 #[.string s, .int .i64 (k : Int)] w (Esc k (Q.escF (s.data.toList.drop k)) w) := by
  cases h : hit s k 117
  · exact refEscape_short s k hk hs w h
  · obtain ⟨hlt, he⟩ := hit_yes h
    exact refEscape_u s k hs w hlt he
theorem nxt_take (s : ByteArray) (k n : Nat) (hkn : k + n ≤ s.size) : (s.extract k (k + n)).data.toList = (s.data.toList.drop k).take n ∧ (s.extract k (k + n)).size = n := by
  have e : (s.extract k (k + n)).data.toList = (s.data.toList.drop k).take n := by
    rw [extract_data]; congr 1; omega
  refine ⟨e, ?_⟩
  rw [size_eq, e]; simp; omega
set_option maxHeartbeats 8000000 in
set_option maxRecDepth 100000 in
theorem refUnquote_yes (s : ByteArray) (k0 : Nat) (w : World) (hs : s.size ≤ 140737488351232) (h34 : hit s k0 34 = true) (RES : List UInt8 × Nat × Nat)
    (hR : Q.unq (s.size + 1) (s.data.toList.drop (k0 + 1)) (k0 + 1) [] = RES) :
    Calls Tryz.prog 73 #[.string s, .int .i64 (k0 : Int)] w (Read w RES) := by
  obtain ⟨hlt0, he0⟩ := hit_yes h34
  have HR : Hid (Q.unq (s.size + 1) (s.data.toList.drop (k0 + 1)) (k0 + 1) [] = RES) := hR
  have p1 : ¬ (k0 : Int) < 0 := by omega
  have p2 : ¬ (s.size : Int) < (k0 : Int) := by omega
  have p3 : ((k0 : Int) == (s.size : Int)) = false := by rw [beq_eq_false_iff_ne]; omega
  have p4 : (k0 : Int) < s.size := by omega
  have p5 : ((s[k0].toNat : Int) != 34) = false := by rw [bne_eq_false_iff_eq]; omega
  clear hR h34 he0
  go_enter Tryz.func73, Tryz.ntmps73
  go_wp2
  go_loopw [7, 8] (fun v p wr => ∃ (k : Nat) (l : List UInt8) (f : Nat), k ≤ s.size ∧ l.length ≤ k ∧ p = .int .i64 (k : Int) ∧ OwnB w.heap.size v l wr ∧ Below w.heap.size w wr ∧ Hid ((s.data.toList.drop k).length < f ∧ Q.unq f (s.data.toList.drop k) k l = RES)) (fun _ p _ => s.size + 1 - (RowKit.intOf p).toNat)
  case atStart => exact ⟨k0 + 1, [], s.size + 1, by omega, by simp, by go_num, OwnB.nil _ _, Below.refl _ _, by simp; omega, HR.out⟩
  case round =>
    obtain ⟨k, l, f, hk, hl, rfl, ho, bk, HK⟩ := hrel
    clear HR
    have sk := bk.size
    obtain ⟨f', hf'⟩ : ∃ f', f = f' + 1 := ⟨f - 1, by have := HK.out.1; omega⟩
    by_cases hlt : k < s.size
    · have y1 : (k : Int) < s.size := by omega
      have hx := drop_consW s k hlt
      by_cases h32 : s[k].toNat < 32
      · have y3 : (s[k].toNat : Int) < 32 := by omega
        obtain rfl : RES = ([], k, 10) := by
          rw [← HK.out.2, hf', Q.unq_step, Q.stp_low _ (by intro x r e; rw [hx] at e; have := (List.cons.inj e).1; subst this; exact h32)]
          rfl
        clear HK hf' hx
        go_wp2
        go_ret3
        exact ⟨rfl, bk⟩
      · have y3 : ¬ (s[k].toNat : Int) < 32 := by omega
        by_cases e34 : s[k].toNat = 34
        · have y4 : ((s[k].toNat : Int) == 34) = true := by rw [beq_iff_eq]; omega
          obtain rfl : RES = (l, k + 1, 0) := by
            rw [← HK.out.2, hf', Q.unq_step]
            have e : Q.stp (s.data.toList.drop k) = (1, [], 1, 0) := by
              rw [hx, Q.stp_cons, if_neg h32, if_pos e34]
            rw [e]; rfl
          have hcv := ho.conv
          clear HK hf' hx e34
          go_wp2
          go_ret3
          exact ⟨ret_sii rfl (by simp) rfl, bk⟩
        · have y4 : ((s[k].toNat : Int) == 34) = false := by rw [beq_eq_false_iff_ne]; omega
          have est := Q.stp_cons s[k] (s.data.toList.drop (k + 1))
          rw [← hx, if_neg h32, if_neg e34] at est
          have hle := Q.stp_le (s.data.toList.drop k)
          have hlen2 : (s.data.toList.drop k).length = s.size - k := by simp
          rw [hlen2] at hle
          have HU : Hid (s.size - k < f ∧ (if (Q.stp (s.data.toList.drop k)).1 = 0 then ([], k + (Q.stp (s.data.toList.drop k)).2.2.1, (Q.stp (s.data.toList.drop k)).2.2.2) else if (Q.stp (s.data.toList.drop k)).1 = 1 then (l, k + 1, 0) else Q.unq f' (s.data.toList.drop (k + (Q.stp (s.data.toList.drop k)).2.2.1)) (k + (Q.stp (s.data.toList.drop k)).2.2.1) (l ++ (Q.stp (s.data.toList.drop k)).2.1)) = RES) := by
            have := HK.out
            rw [hlen2] at this
            refine ⟨this.1, ?_⟩
            rw [← this.2, hf', Q.unq_step, List.drop_drop]
          have HF : Hid (f = f' + 1) := hf'
          clear HK hf'
          by_cases e92 : s[k].toNat = 92
          · have y5 : ((s[k].toNat : Int) == 92) = true := by rw [beq_iff_eq]; omega
            rw [if_pos e92] at est
            have ce : Hid (∀ w1, Calls Tryz.prog 96 #[.string s, .int .i64 ((k : Int) + 1)] w1 (Esc (k + 1) (Q.escF (s.data.toList.drop (k + 1))) w1)) := fun w1 => escape_all s (k + 1) (by omega) hs w1
            have hfl := Q.escF_le (s.data.toList.drop (k + 1))
            have hlen3 : (s.data.toList.drop (k + 1)).length = s.size - (k + 1) := by simp
            rw [hlen3] at hfl
            generalize Q.escF (s.data.toList.drop (k + 1)) = F at *
            obtain ⟨f1, f2, f3⟩ := F
            simp only at *
            cases f3
            · rw [if_neg (by simp)] at est
              rw [est] at HU
              obtain rfl : RES = ([], k + (1 + f2), 12) := by rw [← HU.out.2]; rfl
              clear est HU hle hx e34 e92 hlen2 hlen3 hfl
              go_wp2_with (go_at_call 96; refine (ce.out _).mono ?_; rintro e w1 ⟨⟨v, rfl, -⟩, n, rfl⟩)
              go_ret3
              exact ⟨ret_sii rfl (by simp only; omega) rfl, below_drewN bk n⟩
            · rw [if_pos rfl] at est
              rw [est] at HU hle
              simp only at hle
              have hv := hfl.2 rfl
              have HN : Hid (s.size - k < f ∧ Q.unq f' (s.data.toList.drop (k + (1 + f2))) (k + (1 + f2)) (l ++ encodeRune (f1 : Int)) = RES) := HU.out
              obtain ⟨V, hV⟩ : ∃ V : Int, V = (f1 : Int) := ⟨_, rfl⟩
              have cs : Hid (∀ w1, Calls Tryz.prog 97 #[.int .i64 V] w1 fun e w' => e = .returned (.slice (some ⟨w1.heap.size, 0, none⟩) (encodeRune V).length (encodeRune V).length) ∧ w' = w1.alloc (.cells (byteCells (encodeRune V)).toArray 5)) := by
                intro w1
                have := seq_any V (by omega) (by omega) (by omega) w1
                rw [← byteCells_encodeRune, byteCells_length] at this
                exact this
              rw [← hV] at HN hle
              have HV : Hid (V = (f1 : Int)) := hV
              clear est HU hx e34 e92 hlen2 hlen3 hfl hv hV
              generalize encodeRune V = T at *
              go_wp2_with fail
              refine (ce.out _).mono ?_
              rintro e w1 ⟨⟨v, rfl, hv⟩, n, rfl⟩
              obtain rfl : v = V := (hv rfl).trans HV.out.symm
              clear hv
              go_wp2_with fail
              refine (cs.out _).mono ?_
              rintro e w1 ⟨rfl, rfl⟩
              have ho1 := (ho.drewN n).alloc (.cells (byteCells T).toArray 5)
              have hz1 := drewN_size wr n
              go_wp2_with (at_builtin; refine wpl_app _ rfl (.tmp 69) (.tmp 71) rfl w.heap.size _ _ rfl ho1 (wr.drewN n).heap.size _ _ T rfl rfl _ (0, 0) (heap_alloc_new (wr.drewN n) _) (by simp) (by omega) (by simp; omega) ?_; intro v' w2 ho2 b2)
              go_roundw
              case rel => exact ⟨k + (1 + f2), l ++ T, f', by omega, by rw [List.length_append]; omega, by go_num, ho2, ((below_drewN bk n).alloc (by omega) _).trans b2, by have := HN.out; have := HF.out; simp; omega, HN.out.2⟩
              case measure => simp [RowKit.intOf]; omega
          · have y5 : ((s[k].toNat : Int) == 92) = false := by rw [beq_eq_false_iff_ne]; omega
            rw [if_neg e92] at est
            have cn : Hid (∀ w1, Calls Tryz.prog 98 #[.string s, .int .i64 (k : Int)] w1 fun e w' => e = .returned (.tuple #[.int .i64 (k + (Q.nxt (s.data.toList.drop k)).1 : Int), .bool (Q.nxt (s.data.toList.drop k)).2]) ∧ w' = w1) := fun w1 => next_anyW s k k rfl hk hs w1
            have hnl := (Q.nxt_le (s.data.toList.drop k)).1
            rw [hlen2] at hnl
            cases hok : (Q.nxt (s.data.toList.drop k)).2
            · rw [if_neg (by rw [hok]; simp)] at est
              rw [est] at HU
              rw [hok] at cn
              obtain rfl : RES = ([], k + (Q.nxt (s.data.toList.drop k)).1, 11) := by rw [← HU.out.2]; rfl
              clear est HU hle hx e34 e92 hlen2 hok
              generalize (Q.nxt (s.data.toList.drop k)).1 = N at *
              go_wp2_with (go_at_call 98; refine (cn.out _).mono ?_; rintro e w1 ⟨rfl, rfl⟩)
              go_ret3
              exact ⟨ret_sii rfl (by simp) rfl, bk⟩
            · rw [if_pos hok] at est
              rw [est] at HU hle
              simp only at hle
              rw [hok] at cn
              have HN : Hid (s.size - k < f ∧ Q.unq f' (s.data.toList.drop (k + (Q.nxt (s.data.toList.drop k)).1)) (k + (Q.nxt (s.data.toList.drop k)).1) (l ++ (s.data.toList.drop k).take (Q.nxt (s.data.toList.drop k)).1) = RES) := HU.out
              have hn1 := (Q.nxt_le (s.data.toList.drop k)).2.2 hok
              have htk := nxt_take s k (Q.nxt (s.data.toList.drop k)).1 (by omega)
              clear est HU hx e34 e92 hlen2 hok
              generalize hN : (Q.nxt (s.data.toList.drop k)).1 = N at *
              rw [← htk.1] at HN
              have hsz := htk.2
              have hsl : ∀ W : World, (Instr.slice 9 (.string s) (some (.int .i64 (k : Int))) (some (.int .i64 ((k : Int) + N))) none).run Tryz.prog W = .ok (.string (s.extract k (k + N))) W := by
                intro W
                have h := run_slice_string (P := Tryz.prog) W 9 s .i64 .i64 (k : Int) ((k : Int) + N) Tryz.underlying9 (by omega) (by omega) (by omega)
                have e1 : (k : Int).toNat = k := by omega
                have e2 : ((k : Int) + N).toNat = k + N := by omega
                rw [e1, e2] at h
                exact h
              clear htk hN hle
              generalize s.extract k (k + N) = X at *
              have hXl : X.data.toList.length = X.size := by simp
              go_wp2_with (first | (go_at_call 98; refine (cn.out _).mono ?_; rintro e w1 ⟨rfl, rfl⟩) | (at_builtin; refine wpl_app_str _ rfl (.tmp 83) (.tmp 87) rfl w.heap.size _ _ rfl ho X rfl (by omega) (by omega) ?_; intro v' w2 ho2 b2))
              go_roundw
              case rel => exact ⟨k + N, l ++ X.data.toList, f', by omega, by rw [List.length_append, hXl]; omega, by go_num, ho2, bk.trans b2, by have := HN.out; have := HF.out; simp; omega, HN.out.2⟩
              case measure => simp [RowKit.intOf]; omega
    · have y1 : (s.size : Int) ≤ k := by omega
      obtain rfl : RES = ([], k, 10) := by
        rw [← HK.out.2, hf', Q.unq_step, Q.stp_low _ (by intro x r e; rw [drop_endW s k (by omega)] at e; cases e)]
        rfl
      clear HK hf'
      go_wp2
      go_ret3
      exact ⟨rfl, bk⟩
end Go.Proofs.YtpmhdcmmlkjjmaaGreatDoor
