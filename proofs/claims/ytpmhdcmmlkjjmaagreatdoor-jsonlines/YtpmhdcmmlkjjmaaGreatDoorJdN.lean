import Derived.Test.YtpmhdcmmlkjjmaaGreatDoorH14
/- the document's value: a list, a map. -/
set_option linter.unusedSimpArgs false
set_option linter.unusedVariables false
set_option maxRecDepth 100000
namespace Go.Proofs.YtpmhdcmmlkjjmaaGreatDoor
open Go.RowKit Go.Lib
set_option maxHeartbeats 16000000 in
theorem dval_l (g : Nat) (s : ByteArray) (D f o k n : Nat) (w : World) (h : JD g s k n D 0 0 w) (hs : s.size ≤ 100000000) (hk : k ≤ s.size) (hn : n ≤ 65536) (ho : o ≤ D + 1) (hD : D ≤ 900) (hK : blk s.data.toList k < s.size) (hc : s[blk s.data.toList k] = 91) (CW : ∀ W, JD g s (blk s.data.toList k) (n + 1) D 0 0 W → o ≤ D → n + 1 ≤ 65536 → Calls Tryz.prog 53 #[.pointer (some ⟨g, 0, none⟩), .int .i64 (o : Int)] W (DvP (lisV (lisJ s.data.toList D f (o + 1) (begunJ s.data.toList (blk s.data.toList k) 93).1 (begunJ s.data.toList (blk s.data.toList k) 93).2 (n + 1) [])) g s D W)) :
    Calls Tryz.prog 34 #[.pointer (some ⟨g, 0, none⟩), .int .i64 (o : Int)] w (DvP (valJ s.data.toList D (f + 1) o (blk s.data.toList k) n) g s D w) := by
  have hll : s.data.toList.length = s.size := by simp
  have HLL := hmk hll
  have hlt := h.lt
  have X0 := hmk (dy_one w g s D k n h)
  have CN := hmk (dnext_yes g s k n D 0 0 _ X0.out.jd (by omega) hk hK)
  have CF : Hid (∀ (W : World) (k n p er : Nat), JD g s k n D 0 0 W → Calls Tryz.prog 36 #[.pointer (some ⟨g, 0, none⟩), .int .i64 (p : Int), .int .i64 (er : Int)] W fun e w' => e = .returned (.tuple #[]) ∧ JD g s k n D er p w' ∧ W.grownBy w' (some g)) := fun W k n p er hW => dfail_any g s k n D 0 p er W hW
  clear h
  have CWH := hmk CW
  clear CW
  have ec : ((((91 : UInt8)).toNat : Nat) : Int) = 91 := rfl
  rw [hc, ec] at CN
  have HCL : Hid (s[blk s.data.toList k] = 110 ∨ s[blk s.data.toList k] = 116 ∨ s[blk s.data.toList k] = 102 ∨ s[blk s.data.toList k] = 34 ∨ s[blk s.data.toList k] = 91 ∨ s[blk s.data.toList k] = 123 ∨ numC s[blk s.data.toList k] = true) := by rw [hc]; exact hmk (by decide)
  by_cases hN : n = 65536
  · have HE : Hid (valJ s.data.toList D (f + 1) o (blk s.data.toList k) n = .error (blk s.data.toList k, 22)) := valJ_ent (by rw [hll]; exact hK) (entD_nodes HCL.out hN)
    have yN : ((n : Int) == 65536) = true := by rw [hN]; rfl
    clear hN
    clear HCL
    obtain ⟨K, hKK⟩ : ∃ K, K = blk s.data.toList k := ⟨_, rfl⟩
    rw [← hKK] at CN HE ⊢
    clear hKK
    go_enter Tryz.func34, Tryz.ntmps34
    go_wp2_with fail
    refine CN.out.mono ?_
    rintro e w1 ⟨rfl, R1, g1⟩
    have X1 := X0.out.next hlt g1 R1
    have c4 := X1.jd.c4
    have c1 := X1.jd.c1
    have c2 := X1.jd.c2
    have c3 := X1.jd.c3
    have f2 := X1.jd.fz 2
    clear CN X0 R1 g1
    go_wp2_with fail
    refine (CF.out _ _ _ K 22 X1.jd).mono ?_
    rintro e w2 ⟨rfl, R2, g2⟩
    have X2 := X1.next hlt g2 R2
    clear X1 R2 g2 c4 c1 c2 c3 f2 CF
    obtain ⟨⟨q0, q1, q2, q3, q4, q5⟩, kf⟩ := X2.cells
    obtain ⟨W6, e6, ⟨z0, z1, z2, z3, z4, z5⟩, R6, G6, gb⟩ := X2.done hlt (.int .i64 0) (.bool false) (.int .i64 0) (.string ⟨#[]⟩) (.slice none 0 0) (.slice none 0 0)
    have HR6 := hmk R6
    have HG6 := hmk G6
    have HGB := hmk gb
    clear R6 G6 gb
    go_wp2_with fail
    (try rw [← e6])
    clear e6 q0 q1 q2 q3 q4 q5 kf
    (try simp only [Exit.inBlock, Exit.then])
    refine bodyPost_ret (v := .agg #[.int .i64 0, .bool false, .int .i64 0, .string ⟨#[]⟩, .slice none 0 0, .slice none 0 0]) ?_ rfl ?_
    · rw [results_cell1 rfl]
      go_simp
    · rw [HE.out]
      exact ⟨⟨_, _, _, _, _, _, _, _, _, _, _, _, rfl, HR6.out, by simp⟩, HG6.out⟩
  have yN : ((n : Int) == 65536) = false := by rw [beq_eq_false_iff_ne]; omega
  by_cases hO : D < o
  · have HE : Hid (valJ s.data.toList D (f + 1) o (blk s.data.toList k) n = .error (blk s.data.toList k, 21)) := valJ_ent (by rw [hll]; exact hK) (entD_deep HCL.out hN hO)
    have yO : (D : Int) < (o : Int) := by omega
    clear HCL
    obtain ⟨K, hKK⟩ : ∃ K, K = blk s.data.toList k := ⟨_, rfl⟩
    rw [← hKK] at CN HE ⊢
    clear hKK
    go_enter Tryz.func34, Tryz.ntmps34
    go_wp2_with fail
    refine CN.out.mono ?_
    rintro e w1 ⟨rfl, R1, g1⟩
    have X1 := X0.out.next hlt g1 R1
    have c4 := X1.jd.c4
    have c1 := X1.jd.c1
    have c2 := X1.jd.c2
    have c3 := X1.jd.c3
    have f2 := X1.jd.fz 2
    clear CN X0 R1 g1
    have X2 := X1.put2 hlt (n + 1) ((n : Int) + 1) (by omega)
    have c1' := X2.jd.c1
    have c3' := X2.jd.c3
    clear X1
    go_wp2_with fail
    refine (CF.out _ _ _ K 21 X2.jd).mono ?_
    rintro e w2 ⟨rfl, R2, g2⟩
    have X3 := X2.next hlt g2 R2
    clear X2 R2 g2 c4 c1 c2 c3 f2 c1' c3' CF
    obtain ⟨⟨q0, q1, q2, q3, q4, q5⟩, kf⟩ := X3.cells
    obtain ⟨W6, e6, ⟨z0, z1, z2, z3, z4, z5⟩, R6, G6, gb⟩ := X3.done hlt (.int .i64 0) (.bool false) (.int .i64 0) (.string ⟨#[]⟩) (.slice none 0 0) (.slice none 0 0)
    have HR6 := hmk R6
    have HG6 := hmk G6
    have HGB := hmk gb
    clear R6 G6 gb
    go_wp2_with fail
    (try rw [← e6])
    clear e6 q0 q1 q2 q3 q4 q5 kf
    (try simp only [Exit.inBlock, Exit.then])
    refine bodyPost_ret (v := .agg #[.int .i64 0, .bool false, .int .i64 0, .string ⟨#[]⟩, .slice none 0 0, .slice none 0 0]) ?_ rfl ?_
    · rw [results_cell1 rfl]
      go_simp
    · rw [HE.out]
      exact ⟨⟨_, _, _, _, _, _, _, _, _, _, _, _, rfl, HR6.out, by simp⟩, HG6.out⟩
  have yO : ¬ (D : Int) < (o : Int) := by omega
  have HW : Hid (valJ s.data.toList D (f + 1) o (blk s.data.toList k) n = swJ s.data.toList D f o (blk s.data.toList k) (n + 1) s[blk s.data.toList k]) := valJ_in (by rw [hll]; exact hK) (entD_ok HCL.out hN hO)
  rw [hc] at HW
  have HS : Hid (swJ s.data.toList D f o (blk s.data.toList k) (n + 1) 91 = lisV (lisJ s.data.toList D f (o + 1) (begunJ s.data.toList (blk s.data.toList k) 93).1 (begunJ s.data.toList (blk s.data.toList k) 93).2 (n + 1) [])) := by show _ = _; rfl
  have HVJ : Hid (valJ s.data.toList D (f + 1) o (blk s.data.toList k) n = lisV (lisJ s.data.toList D f (o + 1) (begunJ s.data.toList (blk s.data.toList k) 93).1 (begunJ s.data.toList (blk s.data.toList k) 93).2 (n + 1) [])) := by show _ = _; rw [HW.out, HS.out]
  clear HW HS
  generalize lisV (lisJ s.data.toList D f (o + 1) (begunJ s.data.toList (blk s.data.toList k) 93).1 (begunJ s.data.toList (blk s.data.toList k) 93).2 (n + 1) []) = RR at *
  cases RR with
  | error fl =>
    obtain ⟨fp, fe⟩ := fl
    have HE := HVJ
    clear HVJ CF HCL
    obtain ⟨K, hKK⟩ : ∃ K, K = blk s.data.toList k := ⟨_, rfl⟩
    rw [← hKK] at CN HE CWH ⊢
    clear hKK
    go_enter Tryz.func34, Tryz.ntmps34
    go_wp2_with fail
    refine CN.out.mono ?_
    rintro e w1 ⟨rfl, R1, g1⟩
    have X1 := X0.out.next hlt g1 R1
    have c4 := X1.jd.c4
    have c1 := X1.jd.c1
    have c2 := X1.jd.c2
    have c3 := X1.jd.c3
    have f2 := X1.jd.fz 2
    clear CN X0 R1 g1
    have X2 := X1.put2 hlt (n + 1) ((n : Int) + 1) (by omega)
    have c1' := X2.jd.c1
    have c3' := X2.jd.c3
    clear X1
    go_wp2_with fail
    refine (CWH.out _ X2.jd (by omega) (by omega)).mono ?_
    rintro e w2 ⟨⟨a0, a1, a2, a3, xa4, xl4, xc4, xa5, xl5, xc5, kq, nq, rfl, R2, hne⟩, g2⟩
    dsimp only at R2 hne
    have HNE := hmk hne
    have X3 := X2.next hlt g2 R2
    clear X2 R2 g2 c4 c1 c2 c3 f2 c1' c3' CWH hne
    obtain ⟨⟨q0, q1, q2, q3, q4, q5⟩, kf⟩ := X3.cells
    obtain ⟨W6, e6, ⟨z0, z1, z2, z3, z4, z5⟩, R6, G6, gb⟩ := X3.done hlt (.int .i64 a0) (.bool a1) (.int .i64 a2) (.string a3) (.slice xa4 xl4 xc4) (.slice xa5 xl5 xc5)
    have HR6 := hmk R6
    have HG6 := hmk G6
    have HGB := hmk gb
    clear R6 G6 gb
    go_wp2_with fail
    (try rw [← e6])
    clear e6 q0 q1 q2 q3 q4 q5 kf
    (try simp only [Exit.inBlock, Exit.then])
    refine bodyPost_ret (v := .agg #[.int .i64 a0, .bool a1, .int .i64 a2, .string a3, .slice xa4 xl4 xc4, .slice xa5 xl5 xc5]) ?_ rfl ?_
    · rw [results_cell1 rfl]
      go_simp
    · rw [HE.out]
      exact ⟨⟨_, _, _, _, _, _, _, _, _, _, _, _, rfl, HR6.out, HNE.out⟩, HG6.out⟩
  | ok y =>
    obtain ⟨v, k1, n1⟩ := y
    have HE := HVJ
    clear HVJ CF HCL
    obtain ⟨K, hKK⟩ : ∃ K, K = blk s.data.toList k := ⟨_, rfl⟩
    rw [← hKK] at CN HE CWH ⊢
    clear hKK
    go_enter Tryz.func34, Tryz.ntmps34
    go_wp2_with fail
    refine CN.out.mono ?_
    rintro e w1 ⟨rfl, R1, g1⟩
    have X1 := X0.out.next hlt g1 R1
    have c4 := X1.jd.c4
    have c1 := X1.jd.c1
    have c2 := X1.jd.c2
    have c3 := X1.jd.c3
    have f2 := X1.jd.fz 2
    clear CN X0 R1 g1
    have X2 := X1.put2 hlt (n + 1) ((n : Int) + 1) (by omega)
    have c1' := X2.jd.c1
    have c3' := X2.jd.c3
    clear X1
    have h2lt := X2.lt
    go_wp2_with fail
    refine (CWH.out _ X2.jd (by omega) (by omega)).mono ?_
    rintro e w2 ⟨⟨cs, rfl, hl, R2⟩, g2⟩
    dsimp only at hl R2
    have X3 := X2.next hlt g2 R2
    have HLV := hmk hl
    obtain ⟨vk, vb, vi, vs, vl, vm⟩ := v
    rw [V.lies] at hl
    obtain ⟨al, cl, bl, ol, am, cm, bm, om, rfl, _⟩ := hl
    clear X2 R2 g2 c4 c1 c2 c3 f2 c1' c3' CWH
    obtain ⟨⟨q0, q1, q2, q3, q4, q5⟩, kf⟩ := X3.cells
    obtain ⟨W6, e6, ⟨z0, z1, z2, z3, z4, z5⟩, R6, G6, gb⟩ := X3.done hlt (.int .i64 vk) (.bool vb) (.int .i64 vi) (.string vs) (.slice al vl.length cl) (.slice am vm.length cm)
    have HR6 := hmk R6
    have HG6 := hmk G6
    have HGB := hmk gb
    clear R6 G6 gb
    go_wp2_with fail
    (try rw [← e6])
    clear e6 q0 q1 q2 q3 q4 q5 kf
    (try simp only [Exit.inBlock, Exit.then])
    refine bodyPost_ret (v := .agg #[.int .i64 vk, .bool vb, .int .i64 vi, .string vs, .slice al vl.length cl, .slice am vm.length cm]) ?_ rfl ?_
    · rw [results_cell1 rfl]
      go_simp
    · rw [HE.out]
      exact ⟨⟨_, rfl, lies_done HLV.out HGB.out h2lt, HR6.out⟩, HG6.out⟩
set_option maxHeartbeats 16000000 in
theorem dval_m (g : Nat) (s : ByteArray) (D f o k n : Nat) (w : World) (h : JD g s k n D 0 0 w) (hs : s.size ≤ 100000000) (hk : k ≤ s.size) (hn : n ≤ 65536) (ho : o ≤ D + 1) (hD : D ≤ 900) (hK : blk s.data.toList k < s.size) (hc : s[blk s.data.toList k] = 123) (CW : ∀ W, JD g s (blk s.data.toList k) (n + 1) D 0 0 W → o ≤ D → n + 1 ≤ 65536 → Calls Tryz.prog 54 #[.pointer (some ⟨g, 0, none⟩), .int .i64 (o : Int)] W (DvP (memV (memJ s.data.toList D f (o + 1) (begunJ s.data.toList (blk s.data.toList k) 125).1 (begunJ s.data.toList (blk s.data.toList k) 125).2 (n + 1) [])) g s D W)) :
    Calls Tryz.prog 34 #[.pointer (some ⟨g, 0, none⟩), .int .i64 (o : Int)] w (DvP (valJ s.data.toList D (f + 1) o (blk s.data.toList k) n) g s D w) := by
  have hll : s.data.toList.length = s.size := by simp
  have HLL := hmk hll
  have hlt := h.lt
  have X0 := hmk (dy_one w g s D k n h)
  have CN := hmk (dnext_yes g s k n D 0 0 _ X0.out.jd (by omega) hk hK)
  have CF : Hid (∀ (W : World) (k n p er : Nat), JD g s k n D 0 0 W → Calls Tryz.prog 36 #[.pointer (some ⟨g, 0, none⟩), .int .i64 (p : Int), .int .i64 (er : Int)] W fun e w' => e = .returned (.tuple #[]) ∧ JD g s k n D er p w' ∧ W.grownBy w' (some g)) := fun W k n p er hW => dfail_any g s k n D 0 p er W hW
  clear h
  have CWH := hmk CW
  clear CW
  have ec : ((((123 : UInt8)).toNat : Nat) : Int) = 123 := rfl
  rw [hc, ec] at CN
  have HCL : Hid (s[blk s.data.toList k] = 110 ∨ s[blk s.data.toList k] = 116 ∨ s[blk s.data.toList k] = 102 ∨ s[blk s.data.toList k] = 34 ∨ s[blk s.data.toList k] = 91 ∨ s[blk s.data.toList k] = 123 ∨ numC s[blk s.data.toList k] = true) := by rw [hc]; exact hmk (by decide)
  by_cases hN : n = 65536
  · have HE : Hid (valJ s.data.toList D (f + 1) o (blk s.data.toList k) n = .error (blk s.data.toList k, 22)) := valJ_ent (by rw [hll]; exact hK) (entD_nodes HCL.out hN)
    have yN : ((n : Int) == 65536) = true := by rw [hN]; rfl
    clear hN
    clear HCL
    obtain ⟨K, hKK⟩ : ∃ K, K = blk s.data.toList k := ⟨_, rfl⟩
    rw [← hKK] at CN HE ⊢
    clear hKK
    go_enter Tryz.func34, Tryz.ntmps34
    go_wp2_with fail
    refine CN.out.mono ?_
    rintro e w1 ⟨rfl, R1, g1⟩
    have X1 := X0.out.next hlt g1 R1
    have c4 := X1.jd.c4
    have c1 := X1.jd.c1
    have c2 := X1.jd.c2
    have c3 := X1.jd.c3
    have f2 := X1.jd.fz 2
    clear CN X0 R1 g1
    go_wp2_with fail
    refine (CF.out _ _ _ K 22 X1.jd).mono ?_
    rintro e w2 ⟨rfl, R2, g2⟩
    have X2 := X1.next hlt g2 R2
    clear X1 R2 g2 c4 c1 c2 c3 f2 CF
    obtain ⟨⟨q0, q1, q2, q3, q4, q5⟩, kf⟩ := X2.cells
    obtain ⟨W6, e6, ⟨z0, z1, z2, z3, z4, z5⟩, R6, G6, gb⟩ := X2.done hlt (.int .i64 0) (.bool false) (.int .i64 0) (.string ⟨#[]⟩) (.slice none 0 0) (.slice none 0 0)
    have HR6 := hmk R6
    have HG6 := hmk G6
    have HGB := hmk gb
    clear R6 G6 gb
    go_wp2_with fail
    (try rw [← e6])
    clear e6 q0 q1 q2 q3 q4 q5 kf
    (try simp only [Exit.inBlock, Exit.then])
    refine bodyPost_ret (v := .agg #[.int .i64 0, .bool false, .int .i64 0, .string ⟨#[]⟩, .slice none 0 0, .slice none 0 0]) ?_ rfl ?_
    · rw [results_cell1 rfl]
      go_simp
    · rw [HE.out]
      exact ⟨⟨_, _, _, _, _, _, _, _, _, _, _, _, rfl, HR6.out, by simp⟩, HG6.out⟩
  have yN : ((n : Int) == 65536) = false := by rw [beq_eq_false_iff_ne]; omega
  by_cases hO : D < o
  · have HE : Hid (valJ s.data.toList D (f + 1) o (blk s.data.toList k) n = .error (blk s.data.toList k, 21)) := valJ_ent (by rw [hll]; exact hK) (entD_deep HCL.out hN hO)
    have yO : (D : Int) < (o : Int) := by omega
    clear HCL
    obtain ⟨K, hKK⟩ : ∃ K, K = blk s.data.toList k := ⟨_, rfl⟩
    rw [← hKK] at CN HE ⊢
    clear hKK
    go_enter Tryz.func34, Tryz.ntmps34
    go_wp2_with fail
    refine CN.out.mono ?_
    rintro e w1 ⟨rfl, R1, g1⟩
    have X1 := X0.out.next hlt g1 R1
    have c4 := X1.jd.c4
    have c1 := X1.jd.c1
    have c2 := X1.jd.c2
    have c3 := X1.jd.c3
    have f2 := X1.jd.fz 2
    clear CN X0 R1 g1
    have X2 := X1.put2 hlt (n + 1) ((n : Int) + 1) (by omega)
    have c1' := X2.jd.c1
    have c3' := X2.jd.c3
    clear X1
    go_wp2_with fail
    refine (CF.out _ _ _ K 21 X2.jd).mono ?_
    rintro e w2 ⟨rfl, R2, g2⟩
    have X3 := X2.next hlt g2 R2
    clear X2 R2 g2 c4 c1 c2 c3 f2 c1' c3' CF
    obtain ⟨⟨q0, q1, q2, q3, q4, q5⟩, kf⟩ := X3.cells
    obtain ⟨W6, e6, ⟨z0, z1, z2, z3, z4, z5⟩, R6, G6, gb⟩ := X3.done hlt (.int .i64 0) (.bool false) (.int .i64 0) (.string ⟨#[]⟩) (.slice none 0 0) (.slice none 0 0)
    have HR6 := hmk R6
    have HG6 := hmk G6
    have HGB := hmk gb
    clear R6 G6 gb
    go_wp2_with fail
    (try rw [← e6])
    clear e6 q0 q1 q2 q3 q4 q5 kf
    (try simp only [Exit.inBlock, Exit.then])
    refine bodyPost_ret (v := .agg #[.int .i64 0, .bool false, .int .i64 0, .string ⟨#[]⟩, .slice none 0 0, .slice none 0 0]) ?_ rfl ?_
    · rw [results_cell1 rfl]
      go_simp
    · rw [HE.out]
      exact ⟨⟨_, _, _, _, _, _, _, _, _, _, _, _, rfl, HR6.out, by simp⟩, HG6.out⟩
  have yO : ¬ (D : Int) < (o : Int) := by omega
  have HW : Hid (valJ s.data.toList D (f + 1) o (blk s.data.toList k) n = swJ s.data.toList D f o (blk s.data.toList k) (n + 1) s[blk s.data.toList k]) := valJ_in (by rw [hll]; exact hK) (entD_ok HCL.out hN hO)
  rw [hc] at HW
  have HS : Hid (swJ s.data.toList D f o (blk s.data.toList k) (n + 1) 123 = memV (memJ s.data.toList D f (o + 1) (begunJ s.data.toList (blk s.data.toList k) 125).1 (begunJ s.data.toList (blk s.data.toList k) 125).2 (n + 1) [])) := by show _ = _; rfl
  have HVJ : Hid (valJ s.data.toList D (f + 1) o (blk s.data.toList k) n = memV (memJ s.data.toList D f (o + 1) (begunJ s.data.toList (blk s.data.toList k) 125).1 (begunJ s.data.toList (blk s.data.toList k) 125).2 (n + 1) [])) := by show _ = _; rw [HW.out, HS.out]
  clear HW HS
  generalize memV (memJ s.data.toList D f (o + 1) (begunJ s.data.toList (blk s.data.toList k) 125).1 (begunJ s.data.toList (blk s.data.toList k) 125).2 (n + 1) []) = RR at *
  cases RR with
  | error fl =>
    obtain ⟨fp, fe⟩ := fl
    have HE := HVJ
    clear HVJ CF HCL
    obtain ⟨K, hKK⟩ : ∃ K, K = blk s.data.toList k := ⟨_, rfl⟩
    rw [← hKK] at CN HE CWH ⊢
    clear hKK
    go_enter Tryz.func34, Tryz.ntmps34
    go_wp2_with fail
    refine CN.out.mono ?_
    rintro e w1 ⟨rfl, R1, g1⟩
    have X1 := X0.out.next hlt g1 R1
    have c4 := X1.jd.c4
    have c1 := X1.jd.c1
    have c2 := X1.jd.c2
    have c3 := X1.jd.c3
    have f2 := X1.jd.fz 2
    clear CN X0 R1 g1
    have X2 := X1.put2 hlt (n + 1) ((n : Int) + 1) (by omega)
    have c1' := X2.jd.c1
    have c3' := X2.jd.c3
    clear X1
    go_wp2_with fail
    refine (CWH.out _ X2.jd (by omega) (by omega)).mono ?_
    rintro e w2 ⟨⟨a0, a1, a2, a3, xa4, xl4, xc4, xa5, xl5, xc5, kq, nq, rfl, R2, hne⟩, g2⟩
    dsimp only at R2 hne
    have HNE := hmk hne
    have X3 := X2.next hlt g2 R2
    clear X2 R2 g2 c4 c1 c2 c3 f2 c1' c3' CWH hne
    obtain ⟨⟨q0, q1, q2, q3, q4, q5⟩, kf⟩ := X3.cells
    obtain ⟨W6, e6, ⟨z0, z1, z2, z3, z4, z5⟩, R6, G6, gb⟩ := X3.done hlt (.int .i64 a0) (.bool a1) (.int .i64 a2) (.string a3) (.slice xa4 xl4 xc4) (.slice xa5 xl5 xc5)
    have HR6 := hmk R6
    have HG6 := hmk G6
    have HGB := hmk gb
    clear R6 G6 gb
    go_wp2_with fail
    (try rw [← e6])
    clear e6 q0 q1 q2 q3 q4 q5 kf
    (try simp only [Exit.inBlock, Exit.then])
    refine bodyPost_ret (v := .agg #[.int .i64 a0, .bool a1, .int .i64 a2, .string a3, .slice xa4 xl4 xc4, .slice xa5 xl5 xc5]) ?_ rfl ?_
    · rw [results_cell1 rfl]
      go_simp
    · rw [HE.out]
      exact ⟨⟨_, _, _, _, _, _, _, _, _, _, _, _, rfl, HR6.out, HNE.out⟩, HG6.out⟩
  | ok y =>
    obtain ⟨v, k1, n1⟩ := y
    have HE := HVJ
    clear HVJ CF HCL
    obtain ⟨K, hKK⟩ : ∃ K, K = blk s.data.toList k := ⟨_, rfl⟩
    rw [← hKK] at CN HE CWH ⊢
    clear hKK
    go_enter Tryz.func34, Tryz.ntmps34
    go_wp2_with fail
    refine CN.out.mono ?_
    rintro e w1 ⟨rfl, R1, g1⟩
    have X1 := X0.out.next hlt g1 R1
    have c4 := X1.jd.c4
    have c1 := X1.jd.c1
    have c2 := X1.jd.c2
    have c3 := X1.jd.c3
    have f2 := X1.jd.fz 2
    clear CN X0 R1 g1
    have X2 := X1.put2 hlt (n + 1) ((n : Int) + 1) (by omega)
    have c1' := X2.jd.c1
    have c3' := X2.jd.c3
    clear X1
    have h2lt := X2.lt
    go_wp2_with fail
    refine (CWH.out _ X2.jd (by omega) (by omega)).mono ?_
    rintro e w2 ⟨⟨cs, rfl, hl, R2⟩, g2⟩
    dsimp only at hl R2
    have X3 := X2.next hlt g2 R2
    have HLV := hmk hl
    obtain ⟨vk, vb, vi, vs, vl, vm⟩ := v
    rw [V.lies] at hl
    obtain ⟨al, cl, bl, ol, am, cm, bm, om, rfl, _⟩ := hl
    clear X2 R2 g2 c4 c1 c2 c3 f2 c1' c3' CWH
    obtain ⟨⟨q0, q1, q2, q3, q4, q5⟩, kf⟩ := X3.cells
    obtain ⟨W6, e6, ⟨z0, z1, z2, z3, z4, z5⟩, R6, G6, gb⟩ := X3.done hlt (.int .i64 vk) (.bool vb) (.int .i64 vi) (.string vs) (.slice al vl.length cl) (.slice am vm.length cm)
    have HR6 := hmk R6
    have HG6 := hmk G6
    have HGB := hmk gb
    clear R6 G6 gb
    go_wp2_with fail
    (try rw [← e6])
    clear e6 q0 q1 q2 q3 q4 q5 kf
    (try simp only [Exit.inBlock, Exit.then])
    refine bodyPost_ret (v := .agg #[.int .i64 vk, .bool vb, .int .i64 vi, .string vs, .slice al vl.length cl, .slice am vm.length cm]) ?_ rfl ?_
    · rw [results_cell1 rfl]
      go_simp
    · rw [HE.out]
      exact ⟨⟨_, rfl, lies_done HLV.out HGB.out h2lt, HR6.out⟩, HG6.out⟩
end Go.Proofs.YtpmhdcmmlkjjmaaGreatDoor
