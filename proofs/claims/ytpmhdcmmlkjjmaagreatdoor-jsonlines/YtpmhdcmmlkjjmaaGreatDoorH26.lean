/- joined: JdL JdM -/
import Derived.Test.YtpmhdcmmlkjjmaaGreatDoorH14
/- the document's value: null, true, false. -/
set_option linter.unusedSimpArgs false
set_option linter.unusedVariables false
set_option maxRecDepth 100000
namespace Go.Proofs.YtpmhdcmmlkjjmaaGreatDoor
open Go.RowKit Go.Lib
set_option maxHeartbeats 16000000 in
theorem dval_n (g : Nat) (s : ByteArray) (D f o k n : Nat) (w : World) (h : JD g s k n D 0 0 w) (hs : s.size ≤ 100000000) (hk : k ≤ s.size) (hn : n ≤ 65536) (ho : o ≤ D + 1) (hD : D ≤ 900) (hK : blk s.data.toList k < s.size) (hc : s[blk s.data.toList k] = 110) :
    Calls Tryz.prog 34 #[.pointer (some ⟨g, 0, none⟩), .int .i64 (o : Int)] w (DvP (valJ s.data.toList D (f + 1) o (blk s.data.toList k) n) g s D w) := by
  have hll : s.data.toList.length = s.size := by simp
  have HLL := hmk hll
  have hlt := h.lt
  have X0 := hmk (dy_one w g s D k n h)
  have CN := hmk (dnext_yes g s k n D 0 0 _ X0.out.jd (by omega) hk hK)
  have CF : Hid (∀ (W : World) (k n p er : Nat), JD g s k n D 0 0 W → Calls Tryz.prog 36 #[.pointer (some ⟨g, 0, none⟩), .int .i64 (p : Int), .int .i64 (er : Int)] W fun e w' => e = .returned (.tuple #[]) ∧ JD g s k n D er p w' ∧ W.grownBy w' (some g)) := fun W k n p er hW => dfail_any g s k n D 0 p er W hW
  clear h
  have ec : ((((110 : UInt8)).toNat : Nat) : Int) = 110 := rfl
  rw [hc, ec] at CN
  have HCL : Hid (s[blk s.data.toList k] = 110 ∨ s[blk s.data.toList k] = 116 ∨ s[blk s.data.toList k] = 102 ∨ s[blk s.data.toList k] = 34 ∨ s[blk s.data.toList k] = 91 ∨ s[blk s.data.toList k] = 123 ∨ numC s[blk s.data.toList k] = true) := by rw [hc]; exact hmk (by decide)
  by_cases hN : n = 65536
  · have HE : Hid (valJ s.data.toList D (f + 1) o (blk s.data.toList k) n = .error (blk s.data.toList k, 22)) := valJ_ent (by rw [hll]; exact hK) (entD_nodes HCL.out hN)
    have yN : ((n : Int) == 65536) = true := by rw [hN]; rfl
    clear hN
    clear HCL
    obtain ⟨K, hKK⟩ : ∃ K, K = blk s.data.toList k := ⟨_, rfl⟩
    rw [← hKK] at CN HE ⊢
    clear hKK
    go_enter Tryz.func34, Tryz.ntmps34
    go_wp2_with fail
    refine CN.out.mono ?_
    rintro e w1 ⟨rfl, R1, g1⟩
    have X1 := X0.out.next hlt g1 R1
    have c4 := X1.jd.c4
    have c1 := X1.jd.c1
    have c2 := X1.jd.c2
    have c3 := X1.jd.c3
    have f2 := X1.jd.fz 2
    clear CN X0 R1 g1
    go_wp2_with fail
    refine (CF.out _ _ _ K 22 X1.jd).mono ?_
    rintro e w2 ⟨rfl, R2, g2⟩
    have X2 := X1.next hlt g2 R2
    clear X1 R2 g2 c4 c1 c2 c3 f2 CF
    obtain ⟨⟨q0, q1, q2, q3, q4, q5⟩, kf⟩ := X2.cells
    obtain ⟨W6, e6, ⟨z0, z1, z2, z3, z4, z5⟩, R6, G6, gb⟩ := X2.done hlt (.int .i64 0) (.bool false) (.int .i64 0) (.string ⟨#[]⟩) (.slice none 0 0) (.slice none 0 0)
    have HR6 := hmk R6
    have HG6 := hmk G6
    have HGB := hmk gb
    clear R6 G6 gb
    go_wp2_with fail
    (try rw [← e6])
    clear e6 q0 q1 q2 q3 q4 q5 kf
    (try simp only [Exit.inBlock, Exit.then])
    refine bodyPost_ret (v := .agg #[.int .i64 0, .bool false, .int .i64 0, .string ⟨#[]⟩, .slice none 0 0, .slice none 0 0]) ?_ rfl ?_
    · rw [results_cell1 rfl]
      go_simp
    · rw [HE.out]
      exact ⟨⟨_, _, _, _, _, _, _, _, _, _, _, _, rfl, HR6.out, by simp⟩, HG6.out⟩
  have yN : ((n : Int) == 65536) = false := by rw [beq_eq_false_iff_ne]; omega
  by_cases hO : D < o
  · have HE : Hid (valJ s.data.toList D (f + 1) o (blk s.data.toList k) n = .error (blk s.data.toList k, 21)) := valJ_ent (by rw [hll]; exact hK) (entD_deep HCL.out hN hO)
    have yO : (D : Int) < (o : Int) := by omega
    clear HCL
    obtain ⟨K, hKK⟩ : ∃ K, K = blk s.data.toList k := ⟨_, rfl⟩
    rw [← hKK] at CN HE ⊢
    clear hKK
    go_enter Tryz.func34, Tryz.ntmps34
    go_wp2_with fail
    refine CN.out.mono ?_
    rintro e w1 ⟨rfl, R1, g1⟩
    have X1 := X0.out.next hlt g1 R1
    have c4 := X1.jd.c4
    have c1 := X1.jd.c1
    have c2 := X1.jd.c2
    have c3 := X1.jd.c3
    have f2 := X1.jd.fz 2
    clear CN X0 R1 g1
    have X2 := X1.put2 hlt (n + 1) ((n : Int) + 1) (by omega)
    have c1' := X2.jd.c1
    have c3' := X2.jd.c3
    clear X1
    go_wp2_with fail
    refine (CF.out _ _ _ K 21 X2.jd).mono ?_
    rintro e w2 ⟨rfl, R2, g2⟩
    have X3 := X2.next hlt g2 R2
    clear X2 R2 g2 c4 c1 c2 c3 f2 c1' c3' CF
    obtain ⟨⟨q0, q1, q2, q3, q4, q5⟩, kf⟩ := X3.cells
    obtain ⟨W6, e6, ⟨z0, z1, z2, z3, z4, z5⟩, R6, G6, gb⟩ := X3.done hlt (.int .i64 0) (.bool false) (.int .i64 0) (.string ⟨#[]⟩) (.slice none 0 0) (.slice none 0 0)
    have HR6 := hmk R6
    have HG6 := hmk G6
    have HGB := hmk gb
    clear R6 G6 gb
    go_wp2_with fail
    (try rw [← e6])
    clear e6 q0 q1 q2 q3 q4 q5 kf
    (try simp only [Exit.inBlock, Exit.then])
    refine bodyPost_ret (v := .agg #[.int .i64 0, .bool false, .int .i64 0, .string ⟨#[]⟩, .slice none 0 0, .slice none 0 0]) ?_ rfl ?_
    · rw [results_cell1 rfl]
      go_simp
    · rw [HE.out]
      exact ⟨⟨_, _, _, _, _, _, _, _, _, _, _, _, rfl, HR6.out, by simp⟩, HG6.out⟩
  have yO : ¬ (D : Int) < (o : Int) := by omega
  have HW : Hid (valJ s.data.toList D (f + 1) o (blk s.data.toList k) n = swJ s.data.toList D f o (blk s.data.toList k) (n + 1) s[blk s.data.toList k]) := valJ_in (by rw [hll]; exact hK) (entD_ok HCL.out hN hO)
  rw [hc] at HW
  have HS : Hid (swJ s.data.toList D f o (blk s.data.toList k) (n + 1) 110 = (match wordJ s.data.toList (blk s.data.toList k) [110, 117, 108, 108] with | .error e => .error e | .ok k1 => .ok (nulV, k1, n + 1))) := by show _ = _; rfl
  have CW : Hid (∀ W, JD g s (blk s.data.toList k) (n + 1) D 0 0 W → Calls Tryz.prog 51 #[.pointer (some ⟨g, 0, none⟩), .string ⟨#[110, 117, 108, 108]⟩] W (DP (.tuple #[]) (wordJ s.data.toList (blk s.data.toList k) [110, 117, 108, 108]) (fun k' e w' => e = .returned (.tuple #[]) ∧ JD g s k' (n + 1) D 0 0 w') g s D W)) := fun W hW => dword_any g s ⟨#[110, 117, 108, 108]⟩ (blk s.data.toList k) (n + 1) D 0 W hW (by omega) (by omega) (by show (Array.size _) ≤ 100; simp)
  cases hw : wordJ s.data.toList (blk s.data.toList k) [110, 117, 108, 108] with
  | error fl =>
    obtain ⟨fp, fe⟩ := fl
    have HE : Hid (valJ s.data.toList D (f + 1) o (blk s.data.toList k) n = .error (fp, fe)) := by show _ = _; rw [HW.out, HS.out, hw]
    rw [hw] at CW
    clear HW HS hw CF HCL
    obtain ⟨K, hKK⟩ : ∃ K, K = blk s.data.toList k := ⟨_, rfl⟩
    rw [← hKK] at CN HE CW ⊢
    clear hKK
    go_enter Tryz.func34, Tryz.ntmps34
    go_wp2_with fail
    refine CN.out.mono ?_
    rintro e w1 ⟨rfl, R1, g1⟩
    have X1 := X0.out.next hlt g1 R1
    have c4 := X1.jd.c4
    have c1 := X1.jd.c1
    have c2 := X1.jd.c2
    have c3 := X1.jd.c3
    have f2 := X1.jd.fz 2
    clear CN X0 R1 g1
    have X2 := X1.put2 hlt (n + 1) ((n : Int) + 1) (by omega)
    have c1' := X2.jd.c1
    have c3' := X2.jd.c3
    clear X1
    go_wp2_with fail
    refine (CW.out _ X2.jd).mono ?_
    rintro e w2 ⟨⟨kq, nq, rfl, R2, hne⟩, g2⟩
    dsimp only at R2 hne
    have HNE := hmk hne
    have X3 := X2.next hlt g2 R2
    clear X2 R2 g2 c4 c1 c2 c3 f2 c1' c3' CW hne
    obtain ⟨⟨q0, q1, q2, q3, q4, q5⟩, kf⟩ := X3.cells
    obtain ⟨W6, e6, ⟨z0, z1, z2, z3, z4, z5⟩, R6, G6, gb⟩ := X3.done hlt (.int .i64 0) (.bool false) (.int .i64 0) (.string ⟨#[]⟩) (.slice none 0 0) (.slice none 0 0)
    have HR6 := hmk R6
    have HG6 := hmk G6
    have HGB := hmk gb
    clear R6 G6 gb
    go_wp2_with fail
    (try rw [← e6])
    clear e6 q0 q1 q2 q3 q4 q5 kf
    (try simp only [Exit.inBlock, Exit.then])
    refine bodyPost_ret (v := .agg #[.int .i64 0, .bool false, .int .i64 0, .string ⟨#[]⟩, .slice none 0 0, .slice none 0 0]) ?_ rfl ?_
    · rw [results_cell1 rfl]
      go_simp
    · rw [HE.out]
      exact ⟨⟨_, _, _, _, _, _, _, _, _, _, _, _, rfl, HR6.out, HNE.out⟩, HG6.out⟩
  | ok k1 =>
    have HE : Hid (valJ s.data.toList D (f + 1) o (blk s.data.toList k) n = .ok (nulV, k1, n + 1)) := by show _ = _; rw [HW.out, HS.out, hw]
    rw [hw] at CW
    clear HW HS hw CF HCL
    obtain ⟨K, hKK⟩ : ∃ K, K = blk s.data.toList k := ⟨_, rfl⟩
    rw [← hKK] at CN HE CW ⊢
    clear hKK
    go_enter Tryz.func34, Tryz.ntmps34
    go_wp2_with fail
    refine CN.out.mono ?_
    rintro e w1 ⟨rfl, R1, g1⟩
    have X1 := X0.out.next hlt g1 R1
    have c4 := X1.jd.c4
    have c1 := X1.jd.c1
    have c2 := X1.jd.c2
    have c3 := X1.jd.c3
    have f2 := X1.jd.fz 2
    clear CN X0 R1 g1
    have X2 := X1.put2 hlt (n + 1) ((n : Int) + 1) (by omega)
    have c1' := X2.jd.c1
    have c3' := X2.jd.c3
    clear X1
    go_wp2_with fail
    refine (CW.out _ X2.jd).mono ?_
    rintro e w2 ⟨⟨rfl, R2⟩, g2⟩
    have X3 := X2.next hlt g2 R2
    clear X2 R2 g2 c4 c1 c2 c3 f2 c1' c3' CW
    obtain ⟨⟨q0, q1, q2, q3, q4, q5⟩, kf⟩ := X3.cells
    obtain ⟨W6, e6, ⟨z0, z1, z2, z3, z4, z5⟩, R6, G6, gb⟩ := X3.done hlt (.int .i64 0) (.bool false) (.int .i64 0) (.string ⟨#[]⟩) (.slice none 0 0) (.slice none 0 0)
    have HR6 := hmk R6
    have HG6 := hmk G6
    have HGB := hmk gb
    clear R6 G6 gb
    go_wp2_with fail
    (try rw [← e6])
    clear e6 q0 q1 q2 q3 q4 q5 kf
    (try simp only [Exit.inBlock, Exit.then])
    refine bodyPost_ret (v := .agg #[.int .i64 0, .bool false, .int .i64 0, .string ⟨#[]⟩, .slice none 0 0, .slice none 0 0]) ?_ rfl ?_
    · rw [results_cell1 rfl]
      go_simp
    · rw [HE.out]
      exact ⟨⟨_, rfl, lies_sca ⟨by omega, by omega⟩ In64.zero (by simp [maxLen, ByteArray.size]) _ _, HR6.out⟩, HG6.out⟩
set_option maxHeartbeats 16000000 in
theorem dval_t (g : Nat) (s : ByteArray) (D f o k n : Nat) (w : World) (h : JD g s k n D 0 0 w) (hs : s.size ≤ 100000000) (hk : k ≤ s.size) (hn : n ≤ 65536) (ho : o ≤ D + 1) (hD : D ≤ 900) (hK : blk s.data.toList k < s.size) (hc : s[blk s.data.toList k] = 116) :
    Calls Tryz.prog 34 #[.pointer (some ⟨g, 0, none⟩), .int .i64 (o : Int)] w (DvP (valJ s.data.toList D (f + 1) o (blk s.data.toList k) n) g s D w) := by
  have hll : s.data.toList.length = s.size := by simp
  have HLL := hmk hll
  have hlt := h.lt
  have X0 := hmk (dy_one w g s D k n h)
  have CN := hmk (dnext_yes g s k n D 0 0 _ X0.out.jd (by omega) hk hK)
  have CF : Hid (∀ (W : World) (k n p er : Nat), JD g s k n D 0 0 W → Calls Tryz.prog 36 #[.pointer (some ⟨g, 0, none⟩), .int .i64 (p : Int), .int .i64 (er : Int)] W fun e w' => e = .returned (.tuple #[]) ∧ JD g s k n D er p w' ∧ W.grownBy w' (some g)) := fun W k n p er hW => dfail_any g s k n D 0 p er W hW
  clear h
  have ec : ((((116 : UInt8)).toNat : Nat) : Int) = 116 := rfl
  rw [hc, ec] at CN
  have HCL : Hid (s[blk s.data.toList k] = 110 ∨ s[blk s.data.toList k] = 116 ∨ s[blk s.data.toList k] = 102 ∨ s[blk s.data.toList k] = 34 ∨ s[blk s.data.toList k] = 91 ∨ s[blk s.data.toList k] = 123 ∨ numC s[blk s.data.toList k] = true) := by rw [hc]; exact hmk (by decide)
  by_cases hN : n = 65536
  · have HE : Hid (valJ s.data.toList D (f + 1) o (blk s.data.toList k) n = .error (blk s.data.toList k, 22)) := valJ_ent (by rw [hll]; exact hK) (entD_nodes HCL.out hN)
    have yN : ((n : Int) == 65536) = true := by rw [hN]; rfl
    clear hN
    clear HCL
    obtain ⟨K, hKK⟩ : ∃ K, K = blk s.data.toList k := ⟨_, rfl⟩
    rw [← hKK] at CN HE ⊢
    clear hKK
    go_enter Tryz.func34, Tryz.ntmps34
    go_wp2_with fail
    refine CN.out.mono ?_
    rintro e w1 ⟨rfl, R1, g1⟩
    have X1 := X0.out.next hlt g1 R1
    have c4 := X1.jd.c4
    have c1 := X1.jd.c1
    have c2 := X1.jd.c2
    have c3 := X1.jd.c3
    have f2 := X1.jd.fz 2
    clear CN X0 R1 g1
    go_wp2_with fail
    refine (CF.out _ _ _ K 22 X1.jd).mono ?_
    rintro e w2 ⟨rfl, R2, g2⟩
    have X2 := X1.next hlt g2 R2
    clear X1 R2 g2 c4 c1 c2 c3 f2 CF
    obtain ⟨⟨q0, q1, q2, q3, q4, q5⟩, kf⟩ := X2.cells
    obtain ⟨W6, e6, ⟨z0, z1, z2, z3, z4, z5⟩, R6, G6, gb⟩ := X2.done hlt (.int .i64 0) (.bool false) (.int .i64 0) (.string ⟨#[]⟩) (.slice none 0 0) (.slice none 0 0)
    have HR6 := hmk R6
    have HG6 := hmk G6
    have HGB := hmk gb
    clear R6 G6 gb
    go_wp2_with fail
    (try rw [← e6])
    clear e6 q0 q1 q2 q3 q4 q5 kf
    (try simp only [Exit.inBlock, Exit.then])
    refine bodyPost_ret (v := .agg #[.int .i64 0, .bool false, .int .i64 0, .string ⟨#[]⟩, .slice none 0 0, .slice none 0 0]) ?_ rfl ?_
    · rw [results_cell1 rfl]
      go_simp
    · rw [HE.out]
      exact ⟨⟨_, _, _, _, _, _, _, _, _, _, _, _, rfl, HR6.out, by simp⟩, HG6.out⟩
  have yN : ((n : Int) == 65536) = false := by rw [beq_eq_false_iff_ne]; omega
  by_cases hO : D < o
  · have HE : Hid (valJ s.data.toList D (f + 1) o (blk s.data.toList k) n = .error (blk s.data.toList k, 21)) := valJ_ent (by rw [hll]; exact hK) (entD_deep HCL.out hN hO)
    have yO : (D : Int) < (o : Int) := by omega
    clear HCL
    obtain ⟨K, hKK⟩ : ∃ K, K = blk s.data.toList k := ⟨_, rfl⟩
    rw [← hKK] at CN HE ⊢
    clear hKK
    go_enter Tryz.func34, Tryz.ntmps34
    go_wp2_with fail
    refine CN.out.mono ?_
    rintro e w1 ⟨rfl, R1, g1⟩
    have X1 := X0.out.next hlt g1 R1
    have c4 := X1.jd.c4
    have c1 := X1.jd.c1
    have c2 := X1.jd.c2
    have c3 := X1.jd.c3
    have f2 := X1.jd.fz 2
    clear CN X0 R1 g1
    have X2 := X1.put2 hlt (n + 1) ((n : Int) + 1) (by omega)
    have c1' := X2.jd.c1
    have c3' := X2.jd.c3
    clear X1
    go_wp2_with fail
    refine (CF.out _ _ _ K 21 X2.jd).mono ?_
    rintro e w2 ⟨rfl, R2, g2⟩
    have X3 := X2.next hlt g2 R2
    clear X2 R2 g2 c4 c1 c2 c3 f2 c1' c3' CF
    obtain ⟨⟨q0, q1, q2, q3, q4, q5⟩, kf⟩ := X3.cells
    obtain ⟨W6, e6, ⟨z0, z1, z2, z3, z4, z5⟩, R6, G6, gb⟩ := X3.done hlt (.int .i64 0) (.bool false) (.int .i64 0) (.string ⟨#[]⟩) (.slice none 0 0) (.slice none 0 0)
    have HR6 := hmk R6
    have HG6 := hmk G6
    have HGB := hmk gb
    clear R6 G6 gb
    go_wp2_with fail
    (try rw [← e6])
    clear e6 q0 q1 q2 q3 q4 q5 kf
    (try simp only [Exit.inBlock, Exit.then])
    refine bodyPost_ret (v := .agg #[.int .i64 0, .bool false, .int .i64 0, .string ⟨#[]⟩, .slice none 0 0, .slice none 0 0]) ?_ rfl ?_
    · rw [results_cell1 rfl]
      go_simp
    · rw [HE.out]
      exact ⟨⟨_, _, _, _, _, _, _, _, _, _, _, _, rfl, HR6.out, by simp⟩, HG6.out⟩
  have yO : ¬ (D : Int) < (o : Int) := by omega
  have HW : Hid (valJ s.data.toList D (f + 1) o (blk s.data.toList k) n = swJ s.data.toList D f o (blk s.data.toList k) (n + 1) s[blk s.data.toList k]) := valJ_in (by rw [hll]; exact hK) (entD_ok HCL.out hN hO)
  rw [hc] at HW
  have HS : Hid (swJ s.data.toList D f o (blk s.data.toList k) (n + 1) 116 = (match wordJ s.data.toList (blk s.data.toList k) [116, 114, 117, 101] with | .error e => .error e | .ok k1 => .ok (.mk 1 true 0 ⟨#[]⟩ [] [], k1, n + 1))) := by show _ = _; rfl
  have CW : Hid (∀ W, JD g s (blk s.data.toList k) (n + 1) D 0 0 W → Calls Tryz.prog 51 #[.pointer (some ⟨g, 0, none⟩), .string ⟨#[116, 114, 117, 101]⟩] W (DP (.tuple #[]) (wordJ s.data.toList (blk s.data.toList k) [116, 114, 117, 101]) (fun k' e w' => e = .returned (.tuple #[]) ∧ JD g s k' (n + 1) D 0 0 w') g s D W)) := fun W hW => dword_any g s ⟨#[116, 114, 117, 101]⟩ (blk s.data.toList k) (n + 1) D 0 W hW (by omega) (by omega) (by show (Array.size _) ≤ 100; simp)
  cases hw : wordJ s.data.toList (blk s.data.toList k) [116, 114, 117, 101] with
  | error fl =>
    obtain ⟨fp, fe⟩ := fl
    have HE : Hid (valJ s.data.toList D (f + 1) o (blk s.data.toList k) n = .error (fp, fe)) := by show _ = _; rw [HW.out, HS.out, hw]
    rw [hw] at CW
    clear HW HS hw CF HCL
    obtain ⟨K, hKK⟩ : ∃ K, K = blk s.data.toList k := ⟨_, rfl⟩
    rw [← hKK] at CN HE CW ⊢
    clear hKK
    go_enter Tryz.func34, Tryz.ntmps34
    go_wp2_with fail
    refine CN.out.mono ?_
    rintro e w1 ⟨rfl, R1, g1⟩
    have X1 := X0.out.next hlt g1 R1
    have c4 := X1.jd.c4
    have c1 := X1.jd.c1
    have c2 := X1.jd.c2
    have c3 := X1.jd.c3
    have f2 := X1.jd.fz 2
    clear CN X0 R1 g1
    have X2 := X1.put2 hlt (n + 1) ((n : Int) + 1) (by omega)
    have c1' := X2.jd.c1
    have c3' := X2.jd.c3
    clear X1
    go_wp2_with fail
    refine (CW.out _ X2.jd).mono ?_
    rintro e w2 ⟨⟨kq, nq, rfl, R2, hne⟩, g2⟩
    dsimp only at R2 hne
    have HNE := hmk hne
    have X3 := X2.next hlt g2 R2
    clear X2 R2 g2 c4 c1 c2 c3 f2 c1' c3' CW hne
    obtain ⟨⟨q0, q1, q2, q3, q4, q5⟩, kf⟩ := X3.cells
    obtain ⟨W6, e6, ⟨z0, z1, z2, z3, z4, z5⟩, R6, G6, gb⟩ := X3.done hlt (.int .i64 1) (.bool true) (.int .i64 0) (.string ⟨#[]⟩) (.slice none 0 0) (.slice none 0 0)
    have HR6 := hmk R6
    have HG6 := hmk G6
    have HGB := hmk gb
    clear R6 G6 gb
    go_wp2_with fail
    (try rw [← e6])
    clear e6 q0 q1 q2 q3 q4 q5 kf
    (try simp only [Exit.inBlock, Exit.then])
    refine bodyPost_ret (v := .agg #[.int .i64 1, .bool true, .int .i64 0, .string ⟨#[]⟩, .slice none 0 0, .slice none 0 0]) ?_ rfl ?_
    · rw [results_cell1 rfl]
      go_simp
    · rw [HE.out]
      exact ⟨⟨_, _, _, _, _, _, _, _, _, _, _, _, rfl, HR6.out, HNE.out⟩, HG6.out⟩
  | ok k1 =>
    have HE : Hid (valJ s.data.toList D (f + 1) o (blk s.data.toList k) n = .ok (.mk 1 true 0 ⟨#[]⟩ [] [], k1, n + 1)) := by show _ = _; rw [HW.out, HS.out, hw]
    rw [hw] at CW
    clear HW HS hw CF HCL
    obtain ⟨K, hKK⟩ : ∃ K, K = blk s.data.toList k := ⟨_, rfl⟩
    rw [← hKK] at CN HE CW ⊢
    clear hKK
    go_enter Tryz.func34, Tryz.ntmps34
    go_wp2_with fail
    refine CN.out.mono ?_
    rintro e w1 ⟨rfl, R1, g1⟩
    have X1 := X0.out.next hlt g1 R1
    have c4 := X1.jd.c4
    have c1 := X1.jd.c1
    have c2 := X1.jd.c2
    have c3 := X1.jd.c3
    have f2 := X1.jd.fz 2
    clear CN X0 R1 g1
    have X2 := X1.put2 hlt (n + 1) ((n : Int) + 1) (by omega)
    have c1' := X2.jd.c1
    have c3' := X2.jd.c3
    clear X1
    go_wp2_with fail
    refine (CW.out _ X2.jd).mono ?_
    rintro e w2 ⟨⟨rfl, R2⟩, g2⟩
    have X3 := X2.next hlt g2 R2
    clear X2 R2 g2 c4 c1 c2 c3 f2 c1' c3' CW
    obtain ⟨⟨q0, q1, q2, q3, q4, q5⟩, kf⟩ := X3.cells
    obtain ⟨W6, e6, ⟨z0, z1, z2, z3, z4, z5⟩, R6, G6, gb⟩ := X3.done hlt (.int .i64 1) (.bool true) (.int .i64 0) (.string ⟨#[]⟩) (.slice none 0 0) (.slice none 0 0)
    have HR6 := hmk R6
    have HG6 := hmk G6
    have HGB := hmk gb
    clear R6 G6 gb
    go_wp2_with fail
    (try rw [← e6])
    clear e6 q0 q1 q2 q3 q4 q5 kf
    (try simp only [Exit.inBlock, Exit.then])
    refine bodyPost_ret (v := .agg #[.int .i64 1, .bool true, .int .i64 0, .string ⟨#[]⟩, .slice none 0 0, .slice none 0 0]) ?_ rfl ?_
    · rw [results_cell1 rfl]
      go_simp
    · rw [HE.out]
      exact ⟨⟨_, rfl, lies_sca ⟨by omega, by omega⟩ In64.zero (by simp [maxLen, ByteArray.size]) _ _, HR6.out⟩, HG6.out⟩
set_option maxHeartbeats 16000000 in
theorem dval_f (g : Nat) (s : ByteArray) (D f o k n : Nat) (w : World) (h : JD g s k n D 0 0 w) (hs : s.size ≤ 100000000) (hk : k ≤ s.size) (hn : n ≤ 65536) (ho : o ≤ D + 1) (hD : D ≤ 900) (hK : blk s.data.toList k < s.size) (hc : s[blk s.data.toList k] = 102) :
    Calls Tryz.prog 34 #[.pointer (some ⟨g, 0, none⟩), .int .i64 (o : Int)] w (DvP (valJ s.data.toList D (f + 1) o (blk s.data.toList k) n) g s D w) := by
  have hll : s.data.toList.length = s.size := by simp
  have HLL := hmk hll
  have hlt := h.lt
  have X0 := hmk (dy_one w g s D k n h)
  have CN := hmk (dnext_yes g s k n D 0 0 _ X0.out.jd (by omega) hk hK)
  have CF : Hid (∀ (W : World) (k n p er : Nat), JD g s k n D 0 0 W → Calls Tryz.prog 36 #[.pointer (some ⟨g, 0, none⟩), .int .i64 (p : Int), .int .i64 (er : Int)] W fun e w' => e = .returned (.tuple #[]) ∧ JD g s k n D er p w' ∧ W.grownBy w' (some g)) := fun W k n p er hW => dfail_any g s k n D 0 p er W hW
  clear h
  have ec : ((((102 : UInt8)).toNat : Nat) : Int) = 102 := rfl
  rw [hc, ec] at CN
  have HCL : Hid (s[blk s.data.toList k] = 110 ∨ s[blk s.data.toList k] = 116 ∨ s[blk s.data.toList k] = 102 ∨ s[blk s.data.toList k] = 34 ∨ s[blk s.data.toList k] = 91 ∨ s[blk s.data.toList k] = 123 ∨ numC s[blk s.data.toList k] = true) := by rw [hc]; exact hmk (by decide)
  by_cases hN : n = 65536
  · have HE : Hid (valJ s.data.toList D (f + 1) o (blk s.data.toList k) n = .error (blk s.data.toList k, 22)) := valJ_ent (by rw [hll]; exact hK) (entD_nodes HCL.out hN)
    have yN : ((n : Int) == 65536) = true := by rw [hN]; rfl
    clear hN
    clear HCL
    obtain ⟨K, hKK⟩ : ∃ K, K = blk s.data.toList k := ⟨_, rfl⟩
    rw [← hKK] at CN HE ⊢
    clear hKK
    go_enter Tryz.func34, Tryz.ntmps34
    go_wp2_with fail
    refine CN.out.mono ?_
    rintro e w1 ⟨rfl, R1, g1⟩
    have X1 := X0.out.next hlt g1 R1
    have c4 := X1.jd.c4
    have c1 := X1.jd.c1
    have c2 := X1.jd.c2
    have c3 := X1.jd.c3
    have f2 := X1.jd.fz 2
    clear CN X0 R1 g1
    go_wp2_with fail
    refine (CF.out _ _ _ K 22 X1.jd).mono ?_
    rintro e w2 ⟨rfl, R2, g2⟩
    have X2 := X1.next hlt g2 R2
    clear X1 R2 g2 c4 c1 c2 c3 f2 CF
    obtain ⟨⟨q0, q1, q2, q3, q4, q5⟩, kf⟩ := X2.cells
    obtain ⟨W6, e6, ⟨z0, z1, z2, z3, z4, z5⟩, R6, G6, gb⟩ := X2.done hlt (.int .i64 0) (.bool false) (.int .i64 0) (.string ⟨#[]⟩) (.slice none 0 0) (.slice none 0 0)
    have HR6 := hmk R6
    have HG6 := hmk G6
    have HGB := hmk gb
    clear R6 G6 gb
    go_wp2_with fail
    (try rw [← e6])
    clear e6 q0 q1 q2 q3 q4 q5 kf
    (try simp only [Exit.inBlock, Exit.then])
    refine bodyPost_ret (v := .agg #[.int .i64 0, .bool false, .int .i64 0, .string ⟨#[]⟩, .slice none 0 0, .slice none 0 0]) ?_ rfl ?_
    · rw [results_cell1 rfl]
      go_simp
    · rw [HE.out]
      exact ⟨⟨_, _, _, _, _, _, _, _, _, _, _, _, rfl, HR6.out, by simp⟩, HG6.out⟩
  have yN : ((n : Int) == 65536) = false := by rw [beq_eq_false_iff_ne]; omega
  by_cases hO : D < o
  · have HE : Hid (valJ s.data.toList D (f + 1) o (blk s.data.toList k) n = .error (blk s.data.toList k, 21)) := valJ_ent (by rw [hll]; exact hK) (entD_deep HCL.out hN hO)
    have yO : (D : Int) < (o : Int) := by omega
    clear HCL
    obtain ⟨K, hKK⟩ : ∃ K, K = blk s.data.toList k := ⟨_, rfl⟩
    rw [← hKK] at CN HE ⊢
    clear hKK
    go_enter Tryz.func34, Tryz.ntmps34
    go_wp2_with fail
    refine CN.out.mono ?_
    rintro e w1 ⟨rfl, R1, g1⟩
    have X1 := X0.out.next hlt g1 R1
    have c4 := X1.jd.c4
    have c1 := X1.jd.c1
    have c2 := X1.jd.c2
    have c3 := X1.jd.c3
    have f2 := X1.jd.fz 2
    clear CN X0 R1 g1
    have X2 := X1.put2 hlt (n + 1) ((n : Int) + 1) (by omega)
    have c1' := X2.jd.c1
    have c3' := X2.jd.c3
    clear X1
    go_wp2_with fail
    refine (CF.out _ _ _ K 21 X2.jd).mono ?_
    rintro e w2 ⟨rfl, R2, g2⟩
    have X3 := X2.next hlt g2 R2
    clear X2 R2 g2 c4 c1 c2 c3 f2 c1' c3' CF
    obtain ⟨⟨q0, q1, q2, q3, q4, q5⟩, kf⟩ := X3.cells
    obtain ⟨W6, e6, ⟨z0, z1, z2, z3, z4, z5⟩, R6, G6, gb⟩ := X3.done hlt (.int .i64 0) (.bool false) (.int .i64 0) (.string ⟨#[]⟩) (.slice none 0 0) (.slice none 0 0)
    have HR6 := hmk R6
    have HG6 := hmk G6
    have HGB := hmk gb
    clear R6 G6 gb
    go_wp2_with fail
    (try rw [← e6])
    clear e6 q0 q1 q2 q3 q4 q5 kf
    (try simp only [Exit.inBlock, Exit.then])
    refine bodyPost_ret (v := .agg #[.int .i64 0, .bool false, .int .i64 0, .string ⟨#[]⟩, .slice none 0 0, .slice none 0 0]) ?_ rfl ?_
    · rw [results_cell1 rfl]
      go_simp
    · rw [HE.out]
      exact ⟨⟨_, _, _, _, _, _, _, _, _, _, _, _, rfl, HR6.out, by simp⟩, HG6.out⟩
  have yO : ¬ (D : Int) < (o : Int) := by omega
  have HW : Hid (valJ s.data.toList D (f + 1) o (blk s.data.toList k) n = swJ s.data.toList D f o (blk s.data.toList k) (n + 1) s[blk s.data.toList k]) := valJ_in (by rw [hll]; exact hK) (entD_ok HCL.out hN hO)
  rw [hc] at HW
  have HS : Hid (swJ s.data.toList D f o (blk s.data.toList k) (n + 1) 102 = (match wordJ s.data.toList (blk s.data.toList k) [102, 97, 108, 115, 101] with | .error e => .error e | .ok k1 => .ok (.mk 1 false 0 ⟨#[]⟩ [] [], k1, n + 1))) := by show _ = _; rfl
  have CW : Hid (∀ W, JD g s (blk s.data.toList k) (n + 1) D 0 0 W → Calls Tryz.prog 51 #[.pointer (some ⟨g, 0, none⟩), .string ⟨#[102, 97, 108, 115, 101]⟩] W (DP (.tuple #[]) (wordJ s.data.toList (blk s.data.toList k) [102, 97, 108, 115, 101]) (fun k' e w' => e = .returned (.tuple #[]) ∧ JD g s k' (n + 1) D 0 0 w') g s D W)) := fun W hW => dword_any g s ⟨#[102, 97, 108, 115, 101]⟩ (blk s.data.toList k) (n + 1) D 0 W hW (by omega) (by omega) (by show (Array.size _) ≤ 100; simp)
  cases hw : wordJ s.data.toList (blk s.data.toList k) [102, 97, 108, 115, 101] with
  | error fl =>
    obtain ⟨fp, fe⟩ := fl
    have HE : Hid (valJ s.data.toList D (f + 1) o (blk s.data.toList k) n = .error (fp, fe)) := by show _ = _; rw [HW.out, HS.out, hw]
    rw [hw] at CW
    clear HW HS hw CF HCL
    obtain ⟨K, hKK⟩ : ∃ K, K = blk s.data.toList k := ⟨_, rfl⟩
    rw [← hKK] at CN HE CW ⊢
    clear hKK
    go_enter Tryz.func34, Tryz.ntmps34
    go_wp2_with fail
    refine CN.out.mono ?_
    rintro e w1 ⟨rfl, R1, g1⟩
    have X1 := X0.out.next hlt g1 R1
    have c4 := X1.jd.c4
    have c1 := X1.jd.c1
    have c2 := X1.jd.c2
    have c3 := X1.jd.c3
    have f2 := X1.jd.fz 2
    clear CN X0 R1 g1
    have X2 := X1.put2 hlt (n + 1) ((n : Int) + 1) (by omega)
    have c1' := X2.jd.c1
    have c3' := X2.jd.c3
    clear X1
    go_wp2_with fail
    refine (CW.out _ X2.jd).mono ?_
    rintro e w2 ⟨⟨kq, nq, rfl, R2, hne⟩, g2⟩
    dsimp only at R2 hne
    have HNE := hmk hne
    have X3 := X2.next hlt g2 R2
    clear X2 R2 g2 c4 c1 c2 c3 f2 c1' c3' CW hne
    obtain ⟨⟨q0, q1, q2, q3, q4, q5⟩, kf⟩ := X3.cells
    obtain ⟨W6, e6, ⟨z0, z1, z2, z3, z4, z5⟩, R6, G6, gb⟩ := X3.done hlt (.int .i64 1) (.bool false) (.int .i64 0) (.string ⟨#[]⟩) (.slice none 0 0) (.slice none 0 0)
    have HR6 := hmk R6
    have HG6 := hmk G6
    have HGB := hmk gb
    clear R6 G6 gb
    go_wp2_with fail
    (try rw [← e6])
    clear e6 q0 q1 q2 q3 q4 q5 kf
    (try simp only [Exit.inBlock, Exit.then])
    refine bodyPost_ret (v := .agg #[.int .i64 1, .bool false, .int .i64 0, .string ⟨#[]⟩, .slice none 0 0, .slice none 0 0]) ?_ rfl ?_
    · rw [results_cell1 rfl]
      go_simp
    · rw [HE.out]
      exact ⟨⟨_, _, _, _, _, _, _, _, _, _, _, _, rfl, HR6.out, HNE.out⟩, HG6.out⟩
  | ok k1 =>
    have HE : Hid (valJ s.data.toList D (f + 1) o (blk s.data.toList k) n = .ok (.mk 1 false 0 ⟨#[]⟩ [] [], k1, n + 1)) := by show _ = _; rw [HW.out, HS.out, hw]
    rw [hw] at CW
    clear HW HS hw CF HCL
    obtain ⟨K, hKK⟩ : ∃ K, K = blk s.data.toList k := ⟨_, rfl⟩
    rw [← hKK] at CN HE CW ⊢
    clear hKK
    go_enter Tryz.func34, Tryz.ntmps34
    go_wp2_with fail
    refine CN.out.mono ?_
    rintro e w1 ⟨rfl, R1, g1⟩
    have X1 := X0.out.next hlt g1 R1
    have c4 := X1.jd.c4
    have c1 := X1.jd.c1
    have c2 := X1.jd.c2
    have c3 := X1.jd.c3
    have f2 := X1.jd.fz 2
    clear CN X0 R1 g1
    have X2 := X1.put2 hlt (n + 1) ((n : Int) + 1) (by omega)
    have c1' := X2.jd.c1
    have c3' := X2.jd.c3
    clear X1
    go_wp2_with fail
    refine (CW.out _ X2.jd).mono ?_
    rintro e w2 ⟨⟨rfl, R2⟩, g2⟩
    have X3 := X2.next hlt g2 R2
    clear X2 R2 g2 c4 c1 c2 c3 f2 c1' c3' CW
    obtain ⟨⟨q0, q1, q2, q3, q4, q5⟩, kf⟩ := X3.cells
    obtain ⟨W6, e6, ⟨z0, z1, z2, z3, z4, z5⟩, R6, G6, gb⟩ := X3.done hlt (.int .i64 1) (.bool false) (.int .i64 0) (.string ⟨#[]⟩) (.slice none 0 0) (.slice none 0 0)
    have HR6 := hmk R6
    have HG6 := hmk G6
    have HGB := hmk gb
    clear R6 G6 gb
    go_wp2_with fail
    (try rw [← e6])
    clear e6 q0 q1 q2 q3 q4 q5 kf
    (try simp only [Exit.inBlock, Exit.then])
    refine bodyPost_ret (v := .agg #[.int .i64 1, .bool false, .int .i64 0, .string ⟨#[]⟩, .slice none 0 0, .slice none 0 0]) ?_ rfl ?_
    · rw [results_cell1 rfl]
      go_simp
    · rw [HE.out]
      exact ⟨⟨_, rfl, lies_sca ⟨by omega, by omega⟩ In64.zero (by simp [maxLen, ByteArray.size]) _ _, HR6.out⟩, HG6.out⟩
end Go.Proofs.YtpmhdcmmlkjjmaaGreatDoor
/- the document's value: a string. -/
set_option maxRecDepth 100000
namespace Go.Proofs.YtpmhdcmmlkjjmaaGreatDoor
open Go.RowKit Go.Lib
set_option maxHeartbeats 16000000 in
theorem dval_q (g : Nat) (s : ByteArray) (D f o k n : Nat) (w : World) (h : JD g s k n D 0 0 w) (hs : s.size ≤ 100000000) (hk : k ≤ s.size) (hn : n ≤ 65536) (ho : o ≤ D + 1) (hD : D ≤ 900) (hK : blk s.data.toList k < s.size) (hc : s[blk s.data.toList k] = 34) :
    Calls Tryz.prog 34 #[.pointer (some ⟨g, 0, none⟩), .int .i64 (o : Int)] w (DvP (valJ s.data.toList D (f + 1) o (blk s.data.toList k) n) g s D w) := by
  have hll : s.data.toList.length = s.size := by simp
  have HLL := hmk hll
  have hlt := h.lt
  have X0 := hmk (dy_one w g s D k n h)
  have CN := hmk (dnext_yes g s k n D 0 0 _ X0.out.jd (by omega) hk hK)
  have CF : Hid (∀ (W : World) (k n p er : Nat), JD g s k n D 0 0 W → Calls Tryz.prog 36 #[.pointer (some ⟨g, 0, none⟩), .int .i64 (p : Int), .int .i64 (er : Int)] W fun e w' => e = .returned (.tuple #[]) ∧ JD g s k n D er p w' ∧ W.grownBy w' (some g)) := fun W k n p er hW => dfail_any g s k n D 0 p er W hW
  clear h
  have ec : ((((34 : UInt8)).toNat : Nat) : Int) = 34 := rfl
  rw [hc, ec] at CN
  have HCL : Hid (s[blk s.data.toList k] = 110 ∨ s[blk s.data.toList k] = 116 ∨ s[blk s.data.toList k] = 102 ∨ s[blk s.data.toList k] = 34 ∨ s[blk s.data.toList k] = 91 ∨ s[blk s.data.toList k] = 123 ∨ numC s[blk s.data.toList k] = true) := by rw [hc]; exact hmk (by decide)
  by_cases hN : n = 65536
  · have HE : Hid (valJ s.data.toList D (f + 1) o (blk s.data.toList k) n = .error (blk s.data.toList k, 22)) := valJ_ent (by rw [hll]; exact hK) (entD_nodes HCL.out hN)
    have yN : ((n : Int) == 65536) = true := by rw [hN]; rfl
    clear hN
    clear HCL
    obtain ⟨K, hKK⟩ : ∃ K, K = blk s.data.toList k := ⟨_, rfl⟩
    rw [← hKK] at CN HE ⊢
    clear hKK
    go_enter Tryz.func34, Tryz.ntmps34
    go_wp2_with fail
    refine CN.out.mono ?_
    rintro e w1 ⟨rfl, R1, g1⟩
    have X1 := X0.out.next hlt g1 R1
    have c4 := X1.jd.c4
    have c1 := X1.jd.c1
    have c2 := X1.jd.c2
    have c3 := X1.jd.c3
    have f2 := X1.jd.fz 2
    clear CN X0 R1 g1
    go_wp2_with fail
    refine (CF.out _ _ _ K 22 X1.jd).mono ?_
    rintro e w2 ⟨rfl, R2, g2⟩
    have X2 := X1.next hlt g2 R2
    clear X1 R2 g2 c4 c1 c2 c3 f2 CF
    obtain ⟨⟨q0, q1, q2, q3, q4, q5⟩, kf⟩ := X2.cells
    obtain ⟨W6, e6, ⟨z0, z1, z2, z3, z4, z5⟩, R6, G6, gb⟩ := X2.done hlt (.int .i64 0) (.bool false) (.int .i64 0) (.string ⟨#[]⟩) (.slice none 0 0) (.slice none 0 0)
    have HR6 := hmk R6
    have HG6 := hmk G6
    have HGB := hmk gb
    clear R6 G6 gb
    go_wp2_with fail
    (try rw [← e6])
    clear e6 q0 q1 q2 q3 q4 q5 kf
    (try simp only [Exit.inBlock, Exit.then])
    refine bodyPost_ret (v := .agg #[.int .i64 0, .bool false, .int .i64 0, .string ⟨#[]⟩, .slice none 0 0, .slice none 0 0]) ?_ rfl ?_
    · rw [results_cell1 rfl]
      go_simp
    · rw [HE.out]
      exact ⟨⟨_, _, _, _, _, _, _, _, _, _, _, _, rfl, HR6.out, by simp⟩, HG6.out⟩
  have yN : ((n : Int) == 65536) = false := by rw [beq_eq_false_iff_ne]; omega
  by_cases hO : D < o
  · have HE : Hid (valJ s.data.toList D (f + 1) o (blk s.data.toList k) n = .error (blk s.data.toList k, 21)) := valJ_ent (by rw [hll]; exact hK) (entD_deep HCL.out hN hO)
    have yO : (D : Int) < (o : Int) := by omega
    clear HCL
    obtain ⟨K, hKK⟩ : ∃ K, K = blk s.data.toList k := ⟨_, rfl⟩
    rw [← hKK] at CN HE ⊢
    clear hKK
    go_enter Tryz.func34, Tryz.ntmps34
    go_wp2_with fail
    refine CN.out.mono ?_
    rintro e w1 ⟨rfl, R1, g1⟩
    have X1 := X0.out.next hlt g1 R1
    have c4 := X1.jd.c4
    have c1 := X1.jd.c1
    have c2 := X1.jd.c2
    have c3 := X1.jd.c3
    have f2 := X1.jd.fz 2
    clear CN X0 R1 g1
    have X2 := X1.put2 hlt (n + 1) ((n : Int) + 1) (by omega)
    have c1' := X2.jd.c1
    have c3' := X2.jd.c3
    clear X1
    go_wp2_with fail
    refine (CF.out _ _ _ K 21 X2.jd).mono ?_
    rintro e w2 ⟨rfl, R2, g2⟩
    have X3 := X2.next hlt g2 R2
    clear X2 R2 g2 c4 c1 c2 c3 f2 c1' c3' CF
    obtain ⟨⟨q0, q1, q2, q3, q4, q5⟩, kf⟩ := X3.cells
    obtain ⟨W6, e6, ⟨z0, z1, z2, z3, z4, z5⟩, R6, G6, gb⟩ := X3.done hlt (.int .i64 0) (.bool false) (.int .i64 0) (.string ⟨#[]⟩) (.slice none 0 0) (.slice none 0 0)
    have HR6 := hmk R6
    have HG6 := hmk G6
    have HGB := hmk gb
    clear R6 G6 gb
    go_wp2_with fail
    (try rw [← e6])
    clear e6 q0 q1 q2 q3 q4 q5 kf
    (try simp only [Exit.inBlock, Exit.then])
    refine bodyPost_ret (v := .agg #[.int .i64 0, .bool false, .int .i64 0, .string ⟨#[]⟩, .slice none 0 0, .slice none 0 0]) ?_ rfl ?_
    · rw [results_cell1 rfl]
      go_simp
    · rw [HE.out]
      exact ⟨⟨_, _, _, _, _, _, _, _, _, _, _, _, rfl, HR6.out, by simp⟩, HG6.out⟩
  have yO : ¬ (D : Int) < (o : Int) := by omega
  have HW : Hid (valJ s.data.toList D (f + 1) o (blk s.data.toList k) n = swJ s.data.toList D f o (blk s.data.toList k) (n + 1) s[blk s.data.toList k]) := valJ_in (by rw [hll]; exact hK) (entD_ok HCL.out hN hO)
  have CW : Hid (∀ W, JD g s (blk s.data.toList k) (n + 1) D 0 0 W → Calls Tryz.prog 52 #[.pointer (some ⟨g, 0, none⟩)] W (DP (.string ⟨#[]⟩) (quoJ s.data.toList (blk s.data.toList k)) (fun x e w' => e = .returned (.string x.1) ∧ JD g s x.2 (n + 1) D 0 0 w') g s D W)) := fun W hW => dtext_any g s (blk s.data.toList k) (n + 1) D 0 W hW hs hK hc
  rw [hc] at HW
  have HS : Hid (swJ s.data.toList D f o (blk s.data.toList k) (n + 1) 34 = (match quoJ s.data.toList (blk s.data.toList k) with | .error e => .error e | .ok x => .ok (.mk 3 false 0 x.1 [] [], x.2, n + 1))) := by show _ = _; rfl
  cases hw : quoJ s.data.toList (blk s.data.toList k) with
  | error fl =>
    obtain ⟨fp, fe⟩ := fl
    have HE : Hid (valJ s.data.toList D (f + 1) o (blk s.data.toList k) n = .error (fp, fe)) := by show _ = _; rw [HW.out, HS.out, hw]
    rw [hw] at CW
    clear HW HS hw CF HCL hc
    obtain ⟨K, hKK⟩ : ∃ K, K = blk s.data.toList k := ⟨_, rfl⟩
    rw [← hKK] at CN HE CW ⊢
    clear hKK
    go_enter Tryz.func34, Tryz.ntmps34
    go_wp2_with fail
    refine CN.out.mono ?_
    rintro e w1 ⟨rfl, R1, g1⟩
    have X1 := X0.out.next hlt g1 R1
    have c4 := X1.jd.c4
    have c1 := X1.jd.c1
    have c2 := X1.jd.c2
    have c3 := X1.jd.c3
    have f2 := X1.jd.fz 2
    clear CN X0 R1 g1
    have X2 := X1.put2 hlt (n + 1) ((n : Int) + 1) (by omega)
    have c1' := X2.jd.c1
    have c3' := X2.jd.c3
    clear X1
    go_wp2_with fail
    refine (CW.out _ X2.jd).mono ?_
    rintro e w2 ⟨⟨kq, nq, rfl, R2, hne⟩, g2⟩
    dsimp only at R2 hne
    have HNE := hmk hne
    have X3 := X2.next hlt g2 R2
    clear X2 R2 g2 c4 c1 c2 c3 f2 c1' c3' CW hne
    obtain ⟨⟨q0, q1, q2, q3, q4, q5⟩, kf⟩ := X3.cells
    obtain ⟨W6, e6, ⟨z0, z1, z2, z3, z4, z5⟩, R6, G6, gb⟩ := X3.done hlt (.int .i64 3) (.bool false) (.int .i64 0) (.string ⟨#[]⟩) (.slice none 0 0) (.slice none 0 0)
    have HR6 := hmk R6
    have HG6 := hmk G6
    have HGB := hmk gb
    clear R6 G6 gb
    go_wp2_with fail
    (try rw [← e6])
    clear e6 q0 q1 q2 q3 q4 q5 kf
    (try simp only [Exit.inBlock, Exit.then])
    refine bodyPost_ret (v := .agg #[.int .i64 3, .bool false, .int .i64 0, .string ⟨#[]⟩, .slice none 0 0, .slice none 0 0]) ?_ rfl ?_
    · rw [results_cell1 rfl]
      go_simp
    · rw [HE.out]
      exact ⟨⟨_, _, _, _, _, _, _, _, _, _, _, _, rfl, HR6.out, HNE.out⟩, HG6.out⟩
  | ok y =>
    obtain ⟨xs, k1⟩ := y
    have hqi := quoJ_in hw
    dsimp only at hqi
    rw [hll] at hqi
    have HE : Hid (valJ s.data.toList D (f + 1) o (blk s.data.toList k) n = .ok (.mk 3 false 0 xs [] [], k1, n + 1)) := by show _ = _; rw [HW.out, HS.out, hw]
    rw [hw] at CW
    clear HW HS hw CF HCL hc
    obtain ⟨K, hKK⟩ : ∃ K, K = blk s.data.toList k := ⟨_, rfl⟩
    rw [← hKK] at CN HE CW ⊢
    clear hKK
    go_enter Tryz.func34, Tryz.ntmps34
    go_wp2_with fail
    refine CN.out.mono ?_
    rintro e w1 ⟨rfl, R1, g1⟩
    have X1 := X0.out.next hlt g1 R1
    have c4 := X1.jd.c4
    have c1 := X1.jd.c1
    have c2 := X1.jd.c2
    have c3 := X1.jd.c3
    have f2 := X1.jd.fz 2
    clear CN X0 R1 g1
    have X2 := X1.put2 hlt (n + 1) ((n : Int) + 1) (by omega)
    have c1' := X2.jd.c1
    have c3' := X2.jd.c3
    clear X1
    go_wp2_with fail
    refine (CW.out _ X2.jd).mono ?_
    rintro e w2 ⟨⟨rfl, R2⟩, g2⟩
    have X3 := X2.next hlt g2 R2
    clear X2 R2 g2 c4 c1 c2 c3 f2 c1' c3' CW
    obtain ⟨⟨q0, q1, q2, q3, q4, q5⟩, kf⟩ := X3.cells
    obtain ⟨W6, e6, ⟨z0, z1, z2, z3, z4, z5⟩, R6, G6, gb⟩ := X3.done hlt (.int .i64 3) (.bool false) (.int .i64 0) (.string xs) (.slice none 0 0) (.slice none 0 0)
    have HR6 := hmk R6
    have HG6 := hmk G6
    have HGB := hmk gb
    clear R6 G6 gb
    go_wp2_with fail
    (try rw [← e6])
    clear e6 q0 q1 q2 q3 q4 q5 kf
    (try simp only [Exit.inBlock, Exit.then])
    refine bodyPost_ret (v := .agg #[.int .i64 3, .bool false, .int .i64 0, .string xs, .slice none 0 0, .slice none 0 0]) ?_ rfl ?_
    · rw [results_cell1 rfl]
      go_simp
    · rw [HE.out]
      exact ⟨⟨_, rfl, lies_sca ⟨by omega, by omega⟩ In64.zero (by simp only [maxLen]; omega) _ _, HR6.out⟩, HG6.out⟩
end Go.Proofs.YtpmhdcmmlkjjmaaGreatDoor
