import Derived.Test.YtpmhdcmmlkjjmaaGreatDoorH14
import Derived.Test.YtpmhdcmmlkjjmaaGreatDoorJdF
/- the document's value: a number, or no value. -/
set_option linter.unusedSimpArgs false
set_option linter.unusedVariables false
set_option maxRecDepth 100000
namespace Go.Proofs.YtpmhdcmmlkjjmaaGreatDoor
open Go.RowKit Go.Lib
set_option maxHeartbeats 16000000 in
theorem dval_o (g : Nat) (s : ByteArray) (D f o k n : Nat) (w : World) (h : JD g s k n D 0 0 w) (hs : s.size ≤ 100000000) (hk : k ≤ s.size) (hn : n ≤ 65536) (ho : o ≤ D + 1) (hD : D ≤ 900) (hK : blk s.data.toList k < s.size) (h110 : ¬ s[blk s.data.toList k] = 110) (h116 : ¬ s[blk s.data.toList k] = 116) (h102 : ¬ s[blk s.data.toList k] = 102) (h34 : ¬ s[blk s.data.toList k] = 34) (h91 : ¬ s[blk s.data.toList k] = 91) (h123 : ¬ s[blk s.data.toList k] = 123) :
    Calls Tryz.prog 34 #[.pointer (some ⟨g, 0, none⟩), .int .i64 (o : Int)] w (DvP (valJ s.data.toList D (f + 1) o (blk s.data.toList k) n) g s D w) := by
  have hll : s.data.toList.length = s.size := by simp
  have HLL := hmk hll
  have hlt := h.lt
  have X0 := hmk (dy_one w g s D k n h)
  have CN := hmk (dnext_yes g s k n D 0 0 _ X0.out.jd (by omega) hk hK)
  have CF : Hid (∀ (W : World) (k n p er : Nat), JD g s k n D 0 0 W → Calls Tryz.prog 36 #[.pointer (some ⟨g, 0, none⟩), .int .i64 (p : Int), .int .i64 (er : Int)] W fun e w' => e = .returned (.tuple #[]) ∧ JD g s k n D er p w' ∧ W.grownBy w' (some g)) := fun W k n p er hW => dfail_any g s k n D 0 p er W hW
  clear h
  have CM : Hid (∀ W, Calls Tryz.prog 50 #[.int .u8 (s[blk s.data.toList k].toNat : Int)] W fun e w' => e = .returned (.bool (numC s[blk s.data.toList k])) ∧ w' = W) := fun W => dnumeric_any s[blk s.data.toList k] W
  have y110 : ((s[blk s.data.toList k].toNat : Int) != 110) = true := by rw [bne_iff_ne]; intro q; exact h110 (UInt8.toNat_inj.1 (by show s[blk s.data.toList k].toNat = 110; omega))
  have x110 : ((s[blk s.data.toList k].toNat : Int) == 110) = false := by rw [beq_eq_false_iff_ne]; intro q; exact h110 (UInt8.toNat_inj.1 (by show s[blk s.data.toList k].toNat = 110; omega))
  have y116 : ((s[blk s.data.toList k].toNat : Int) != 116) = true := by rw [bne_iff_ne]; intro q; exact h116 (UInt8.toNat_inj.1 (by show s[blk s.data.toList k].toNat = 116; omega))
  have x116 : ((s[blk s.data.toList k].toNat : Int) == 116) = false := by rw [beq_eq_false_iff_ne]; intro q; exact h116 (UInt8.toNat_inj.1 (by show s[blk s.data.toList k].toNat = 116; omega))
  have y102 : ((s[blk s.data.toList k].toNat : Int) != 102) = true := by rw [bne_iff_ne]; intro q; exact h102 (UInt8.toNat_inj.1 (by show s[blk s.data.toList k].toNat = 102; omega))
  have x102 : ((s[blk s.data.toList k].toNat : Int) == 102) = false := by rw [beq_eq_false_iff_ne]; intro q; exact h102 (UInt8.toNat_inj.1 (by show s[blk s.data.toList k].toNat = 102; omega))
  have y34 : ((s[blk s.data.toList k].toNat : Int) != 34) = true := by rw [bne_iff_ne]; intro q; exact h34 (UInt8.toNat_inj.1 (by show s[blk s.data.toList k].toNat = 34; omega))
  have x34 : ((s[blk s.data.toList k].toNat : Int) == 34) = false := by rw [beq_eq_false_iff_ne]; intro q; exact h34 (UInt8.toNat_inj.1 (by show s[blk s.data.toList k].toNat = 34; omega))
  have y91 : ((s[blk s.data.toList k].toNat : Int) != 91) = true := by rw [bne_iff_ne]; intro q; exact h91 (UInt8.toNat_inj.1 (by show s[blk s.data.toList k].toNat = 91; omega))
  have x91 : ((s[blk s.data.toList k].toNat : Int) == 91) = false := by rw [beq_eq_false_iff_ne]; intro q; exact h91 (UInt8.toNat_inj.1 (by show s[blk s.data.toList k].toNat = 91; omega))
  have y123 : ((s[blk s.data.toList k].toNat : Int) != 123) = true := by rw [bne_iff_ne]; intro q; exact h123 (UInt8.toNat_inj.1 (by show s[blk s.data.toList k].toNat = 123; omega))
  have x123 : ((s[blk s.data.toList k].toNat : Int) == 123) = false := by rw [beq_eq_false_iff_ne]; intro q; exact h123 (UInt8.toNat_inj.1 (by show s[blk s.data.toList k].toNat = 123; omega))
  cases hnum : numC s[blk s.data.toList k] with
  | false =>
    have HE : Hid (valJ s.data.toList D (f + 1) o (blk s.data.toList k) n = .error (blk s.data.toList k, 32)) := valJ_ent (by rw [hll]; exact hK) (entD_byte (by
      show ¬ (s[blk s.data.toList k] = 110 ∨ s[blk s.data.toList k] = 116 ∨ s[blk s.data.toList k] = 102 ∨ s[blk s.data.toList k] = 34 ∨ s[blk s.data.toList k] = 91 ∨ s[blk s.data.toList k] = 123 ∨ numC s[blk s.data.toList k] = true)
      rw [hnum]
      rintro (q | q | q | q | q | q | q)
      · exact h110 q
      · exact h116 q
      · exact h102 q
      · exact h34 q
      · exact h91 q
      · exact h123 q
      · cases q))
    rw [hnum] at CM
    clear hnum h110 h116 h102 h34 h91 h123
    generalize s[blk s.data.toList k] = cc at *
    generalize blk s.data.toList k = K at *
    go_enter Tryz.func34, Tryz.ntmps34
    go_wp2_with fail
    refine CN.out.mono ?_
    rintro e w1 ⟨rfl, R1, g1⟩
    have X1 := X0.out.next hlt g1 R1
    have c4 := X1.jd.c4
    have c1 := X1.jd.c1
    have c2 := X1.jd.c2
    have c3 := X1.jd.c3
    have f2 := X1.jd.fz 2
    clear CN X0 R1 g1
    go_wp2_with fail
    refine (CM.out _).mono ?_
    rintro e w1' ⟨rfl, hw⟩
    subst hw
    go_wp2_with fail
    refine (CF.out _ _ _ K 32 X1.jd).mono ?_
    rintro e w2 ⟨rfl, R2, g2⟩
    have X2 := X1.next hlt g2 R2
    clear X1 R2 g2 c4 c1 c2 c3 f2 CF
    obtain ⟨⟨q0, q1, q2, q3, q4, q5⟩, kf⟩ := X2.cells
    obtain ⟨W6, e6, ⟨z0, z1, z2, z3, z4, z5⟩, R6, G6, gb⟩ := X2.done hlt (.int .i64 0) (.bool false) (.int .i64 0) (.string ⟨#[]⟩) (.slice none 0 0) (.slice none 0 0)
    have HR6 := hmk R6
    have HG6 := hmk G6
    have HGB := hmk gb
    clear R6 G6 gb
    go_wp2_with fail
    (try rw [← e6])
    clear e6 q0 q1 q2 q3 q4 q5 kf
    (try simp only [Exit.inBlock, Exit.then])
    refine bodyPost_ret (v := .agg #[.int .i64 0, .bool false, .int .i64 0, .string ⟨#[]⟩, .slice none 0 0, .slice none 0 0]) ?_ rfl ?_
    · rw [results_cell1 rfl]
      go_simp
    · rw [HE.out]
      exact ⟨⟨_, _, _, _, _, _, _, _, _, _, _, _, rfl, HR6.out, by simp⟩, HG6.out⟩
  | true =>
    have HCL : Hid (s[blk s.data.toList k] = 110 ∨ s[blk s.data.toList k] = 116 ∨ s[blk s.data.toList k] = 102 ∨ s[blk s.data.toList k] = 34 ∨ s[blk s.data.toList k] = 91 ∨ s[blk s.data.toList k] = 123 ∨ numC s[blk s.data.toList k] = true) := hmk (.inr (.inr (.inr (.inr (.inr (.inr hnum))))))
    rw [hnum] at CM
    have HNM := hmk hnum
    clear hnum
    by_cases hN : n = 65536
    · have HE : Hid (valJ s.data.toList D (f + 1) o (blk s.data.toList k) n = .error (blk s.data.toList k, 22)) := valJ_ent (by rw [hll]; exact hK) (entD_nodes HCL.out hN)
      have yN : ((n : Int) == 65536) = true := by rw [hN]; rfl
      clear hN
      clear HCL
      obtain ⟨K, hKK⟩ : ∃ K, K = blk s.data.toList k := ⟨_, rfl⟩
      clear HNM h110 h116 h102 h34 h91 h123
      generalize s[blk s.data.toList k] = cc at *
      rw [← hKK] at CN HE ⊢
      clear hKK
      go_enter Tryz.func34, Tryz.ntmps34
      go_wp2_with fail
      refine CN.out.mono ?_
      rintro e w1 ⟨rfl, R1, g1⟩
      have X1 := X0.out.next hlt g1 R1
      have c4 := X1.jd.c4
      have c1 := X1.jd.c1
      have c2 := X1.jd.c2
      have c3 := X1.jd.c3
      have f2 := X1.jd.fz 2
      clear CN X0 R1 g1
      go_wp2_with fail
      refine (CM.out _).mono ?_
      rintro e w1' ⟨rfl, hw⟩
      subst hw
      go_wp2_with fail
      refine (CF.out _ _ _ K 22 X1.jd).mono ?_
      rintro e w2 ⟨rfl, R2, g2⟩
      have X2 := X1.next hlt g2 R2
      clear X1 R2 g2 c4 c1 c2 c3 f2 CF
      obtain ⟨⟨q0, q1, q2, q3, q4, q5⟩, kf⟩ := X2.cells
      obtain ⟨W6, e6, ⟨z0, z1, z2, z3, z4, z5⟩, R6, G6, gb⟩ := X2.done hlt (.int .i64 0) (.bool false) (.int .i64 0) (.string ⟨#[]⟩) (.slice none 0 0) (.slice none 0 0)
      have HR6 := hmk R6
      have HG6 := hmk G6
      have HGB := hmk gb
      clear R6 G6 gb
      go_wp2_with fail
      (try rw [← e6])
      clear e6 q0 q1 q2 q3 q4 q5 kf
      (try simp only [Exit.inBlock, Exit.then])
      refine bodyPost_ret (v := .agg #[.int .i64 0, .bool false, .int .i64 0, .string ⟨#[]⟩, .slice none 0 0, .slice none 0 0]) ?_ rfl ?_
      · rw [results_cell1 rfl]
        go_simp
      · rw [HE.out]
        exact ⟨⟨_, _, _, _, _, _, _, _, _, _, _, _, rfl, HR6.out, by simp⟩, HG6.out⟩
    have yN : ((n : Int) == 65536) = false := by rw [beq_eq_false_iff_ne]; omega
    by_cases hO : D < o
    · have HE : Hid (valJ s.data.toList D (f + 1) o (blk s.data.toList k) n = .error (blk s.data.toList k, 21)) := valJ_ent (by rw [hll]; exact hK) (entD_deep HCL.out hN hO)
      have yO : (D : Int) < (o : Int) := by omega
      clear HCL
      obtain ⟨K, hKK⟩ : ∃ K, K = blk s.data.toList k := ⟨_, rfl⟩
      clear HNM h110 h116 h102 h34 h91 h123
      generalize s[blk s.data.toList k] = cc at *
      rw [← hKK] at CN HE ⊢
      clear hKK
      go_enter Tryz.func34, Tryz.ntmps34
      go_wp2_with fail
      refine CN.out.mono ?_
      rintro e w1 ⟨rfl, R1, g1⟩
      have X1 := X0.out.next hlt g1 R1
      have c4 := X1.jd.c4
      have c1 := X1.jd.c1
      have c2 := X1.jd.c2
      have c3 := X1.jd.c3
      have f2 := X1.jd.fz 2
      clear CN X0 R1 g1
      go_wp2_with fail
      refine (CM.out _).mono ?_
      rintro e w1' ⟨rfl, hw⟩
      subst hw
      have X2 := X1.put2 hlt (n + 1) ((n : Int) + 1) (by omega)
      have c1' := X2.jd.c1
      have c3' := X2.jd.c3
      clear X1
      go_wp2_with fail
      refine (CF.out _ _ _ K 21 X2.jd).mono ?_
      rintro e w2 ⟨rfl, R2, g2⟩
      have X3 := X2.next hlt g2 R2
      clear X2 R2 g2 c4 c1 c2 c3 f2 c1' c3' CF
      obtain ⟨⟨q0, q1, q2, q3, q4, q5⟩, kf⟩ := X3.cells
      obtain ⟨W6, e6, ⟨z0, z1, z2, z3, z4, z5⟩, R6, G6, gb⟩ := X3.done hlt (.int .i64 0) (.bool false) (.int .i64 0) (.string ⟨#[]⟩) (.slice none 0 0) (.slice none 0 0)
      have HR6 := hmk R6
      have HG6 := hmk G6
      have HGB := hmk gb
      clear R6 G6 gb
      go_wp2_with fail
      (try rw [← e6])
      clear e6 q0 q1 q2 q3 q4 q5 kf
      (try simp only [Exit.inBlock, Exit.then])
      refine bodyPost_ret (v := .agg #[.int .i64 0, .bool false, .int .i64 0, .string ⟨#[]⟩, .slice none 0 0, .slice none 0 0]) ?_ rfl ?_
      · rw [results_cell1 rfl]
        go_simp
      · rw [HE.out]
        exact ⟨⟨_, _, _, _, _, _, _, _, _, _, _, _, rfl, HR6.out, by simp⟩, HG6.out⟩
    have yO : ¬ (D : Int) < (o : Int) := by omega
    have HW : Hid (valJ s.data.toList D (f + 1) o (blk s.data.toList k) n = swJ s.data.toList D f o (blk s.data.toList k) (n + 1) s[blk s.data.toList k]) := valJ_in (by rw [hll]; exact hK) (entD_ok HCL.out hN hO)
    have HS : Hid (swJ s.data.toList D f o (blk s.data.toList k) (n + 1) s[blk s.data.toList k] = (match numJ s.data.toList (blk s.data.toList k) with | .error e => .error e | .ok x => .ok (.mk 2 false x.1 ⟨#[]⟩ [] [], x.2, n + 1))) := by show _ = _; rw [swJ, if_neg h110, if_neg h116, if_neg h102, if_neg h34, if_neg h91, if_neg h123]; rfl
    have HVJ : Hid (valJ s.data.toList D (f + 1) o (blk s.data.toList k) n = (match numJ s.data.toList (blk s.data.toList k) with | .error e => .error e | .ok x => .ok (.mk 2 false x.1 ⟨#[]⟩ [] [], x.2, n + 1))) := by show _ = _; rw [HW.out, HS.out]
    have HBK := hmk hK
    clear HW HS HNM h110 h116 h102 h34 h91 h123 HCL
    generalize s[blk s.data.toList k] = cc at *
    obtain ⟨K, hKK⟩ : ∃ K, K = blk s.data.toList k := ⟨_, rfl⟩
    rw [← hKK] at CN HVJ hK ⊢
    clear hKK HBK
    have hrl := runJ_le s.data.toList K
    rw [hll] at hrl
    have HRL := hmk hrl
    clear hrl
    go_enter Tryz.func34, Tryz.ntmps34
    go_wp2_with fail
    refine CN.out.mono ?_
    rintro e w1 ⟨rfl, R1, g1⟩
    have X1 := X0.out.next hlt g1 R1
    have c4 := X1.jd.c4
    have c1 := X1.jd.c1
    have c2 := X1.jd.c2
    have c3 := X1.jd.c3
    have f2 := X1.jd.fz 2
    clear CN X0 R1 g1
    go_wp2_with fail
    refine (CM.out _).mono ?_
    rintro e w1' ⟨rfl, hw⟩
    subst hw
    have X2 := X1.put2 hlt (n + 1) ((n : Int) + 1) (by omega)
    have c1' := X2.jd.c1
    have c3' := X2.jd.c3
    clear X1
    go_wp2_with fail
    go_loopg [] (s.size + 1) (fun gk wr => ∃ m : Nat, K ≤ m ∧ m ≤ s.size ∧ s.size - m < gk ∧ Dy w g s D m (n + 1) 0 0 wr ∧ Hid (K + (runJ s.data.toList K).length = m + (runJ s.data.toList m).length))
    case atStart => exact ⟨K, Nat.le_refl _, by omega, by omega, X2, hmk rfl⟩
    case round =>
      clear X2 c4 c1 c2 c3 f2 c1' c3'
      obtain ⟨m, hkm, hm, hg, X, HM⟩ := hrel
      have c0 := X.jd.c0
      have c1 := X.jd.c1
      have f1 := X.jd.fz 1
      have hgw := X.jd.lt
      have p0 : ∀ x : Sub wr.heap.size wr, x.w.cell? ⟨g, 0, none⟩ = some (.string s) := sub_cell c0 hgw
      have p1 : ∀ x : Sub wr.heap.size wr, x.w.cell? ⟨g, 1, none⟩ = some (.int .i64 (m : Int)) := sub_cell c1 hgw
      by_cases hms : m < s.size
      · have y1 : (m : Int) < s.size := by omega
        have CI : Hid (∀ x : Sub wr.heap.size wr, Calls Tryz.prog 50 #[.int .u8 (s[m].toNat : Int)] x.w fun e w'' => e = .returned (.bool (numC s[m])) ∧ ∃ y : Sub wr.heap.size wr, w'' = y.w) := fun x => (dnumeric_any s[m] x.w).mono fun e w'' h => ⟨h.1, x, h.2⟩
        cases hc : numC s[m] with
        | true =>
          have HM2 : Hid (K + (runJ s.data.toList K).length = (m + 1) + (runJ s.data.toList (m + 1)).length) := by
            show _ = _
            rw [HM.out]
            exact runJ_go (by rw [HLL.out]; exact hms) hc
          rw [hc] at CI
          clear HM hc
          go_wp2_with fail
          refine wp_region_sub wr.heap.size (by kernel_rfl) (by kernel_rfl) ?_
          repeat (go_big_quiet_step (first | exact CI.out _))
          refine wpQuiet_nil ?_
          rintro wq ⟨⟨wq', bq⟩, hq⟩
          have hq' : wq = wq' := hq
          subst hq'
          clear hq
          have XQ := X.next hlt (grown_belowS bq g) (X.jd.keep bq)
          have c1' := XQ.jd.c1
          have f1' := XQ.jd.fz 1
          have XP := hmk (XQ.put1 hlt (m + 1) ((m : Int) + 1) (by omega))
          clear XQ X bq
          go_wp2_with fail
          go_roundg (s.size - (m + 1) + 1)
          case measure => omega
          case rel => exact ⟨m + 1, by omega, by omega, by omega, XP.out, HM2⟩
        | false =>
          have h0 : (runJ s.data.toList m).length = 0 := runJ_stop (by rw [HLL.out]; exact hms) hc
          rw [hc] at CI
          clear hc
          have hme : m = K + (runJ s.data.toList K).length := by have := HM.out; omega
          have HME := hmk hme
          clear hme h0 HM
          go_wp2_with fail
          refine wp_region_sub wr.heap.size (by kernel_rfl) (by kernel_rfl) ?_
          repeat (go_big_quiet_step (first | exact CI.out _))
          refine wpQuiet_nil ?_
          rintro wq ⟨⟨wq', bq⟩, hq⟩
          have hq' : wq = wq' := hq
          subst hq'
          clear hq
          have XQ := X.next hlt (grown_belowS bq g) (X.jd.keep bq)
          clear X bq c0 c1 f1 p0 p1 CI
          have d0 := XQ.jd.c0
          have d1 := XQ.jd.c1
          have hgq := XQ.jd.lt
          have p0 : ∀ x : Sub wq.heap.size wq, x.w.cell? ⟨g, 0, none⟩ = some (.string s) := sub_cell d0 hgq
          have p1 : ∀ x : Sub wq.heap.size wq, x.w.cell? ⟨g, 1, none⟩ = some (.int .i64 (m : Int)) := sub_cell d1 hgq
          have hsl := hsl_in s K m hkm hm
          have HDG : Hid (∀ x : Sub wq.heap.size wq, Calls Tryz.prog 55 #[.string (s.extract K m)] x.w fun e w'' => e = .returned (.tuple #[.int .i64 ((intJ (runJ s.data.toList K)).getD 0), .bool (intJ (runJ s.data.toList K)).isSome]) ∧ ∃ y : Sub wq.heap.size wq, w'' = y.w) := fun x => by
            have c := dinteger_any (s.extract K m) x.w (by rw [ByteArray.size_extract]; omega)
            rw [HME.out, ext_run] at c
            rw [HME.out]
            exact c.mono fun e w'' h => ⟨h.1, x, h.2⟩
          generalize s.extract K m = sd at *
          cases hR : intJ (runJ s.data.toList K) with
          | some v =>
            have HE : Hid (valJ s.data.toList D (f + 1) o K n = .ok (.mk 2 false v ⟨#[]⟩ [] [], m, n + 1)) := by show _ = _; rw [HVJ.out, numJ_yes hR, ← HME.out]
            have hv64 := intJ_in hR
            have HV64 := hmk hv64
            rw [hR] at HDG
            simp only [Option.getD_some, Option.isSome_some] at HDG
            clear hR HVJ HME CF hv64
            go_wp2_with fail
            refine wp_region_sub wq.heap.size (by kernel_rfl) (by kernel_rfl) ?_
            repeat (go_big_quiet_step (first | exact HDG.out _))
            refine wpQuiet_nil ?_
            rintro wz ⟨⟨wz', bz⟩, hq⟩
            have hq' : wz = wz' := hq
            subst hq'
            clear hq
            have X3 := XQ.next hlt (grown_belowS bz g) (XQ.jd.keep bz)
            clear XQ bz d0 d1 p0 p1 HDG
            obtain ⟨⟨q0, q1, q2, q3, q4, q5⟩, kf⟩ := X3.cells
            obtain ⟨W6, e6, ⟨z0, z1, z2, z3, z4, z5⟩, R6, G6, gb⟩ := X3.done hlt (.int .i64 2) (.bool false) (.int .i64 v) (.string ⟨#[]⟩) (.slice none 0 0) (.slice none 0 0)
            have HR6 := hmk R6
            have HG6 := hmk G6
            have HGB := hmk gb
            clear R6 G6 gb
            go_wp2_with fail
            (try rw [← e6])
            clear e6 q0 q1 q2 q3 q4 q5 kf
            (try simp only [Exit.inBlock, Exit.then])
            refine bodyPost_ret (v := .agg #[.int .i64 2, .bool false, .int .i64 v, .string ⟨#[]⟩, .slice none 0 0, .slice none 0 0]) ?_ rfl ?_
            · rw [results_cell1 rfl]
              go_simp
            · rw [HE.out]
              exact ⟨⟨_, rfl, lies_sca ⟨by omega, by omega⟩ HV64.out (by simp [maxLen, ByteArray.size]) _ _, HR6.out⟩, HG6.out⟩
          | none =>
            have HE : Hid (valJ s.data.toList D (f + 1) o K n = .error (K, 33)) := by show _ = _; rw [HVJ.out, numJ_no hR]
            rw [hR] at HDG
            simp only [Option.getD_none, Option.isSome_none] at HDG
            clear hR HVJ HME
            go_wp2_with fail
            refine wp_region_sub wq.heap.size (by kernel_rfl) (by kernel_rfl) ?_
            repeat (go_big_quiet_step (first | exact HDG.out _))
            refine wpQuiet_nil ?_
            rintro wz ⟨⟨wz', bz⟩, hq⟩
            have hq' : wz = wz' := hq
            subst hq'
            clear hq
            have X3 := XQ.next hlt (grown_belowS bz g) (XQ.jd.keep bz)
            clear XQ bz d0 d1 p0 p1 HDG
            go_wp2_with fail
            refine (CF.out _ _ _ K 33 X3.jd).mono ?_
            rintro e w2 ⟨rfl, R2, g2⟩
            have X4 := X3.next hlt g2 R2
            clear X3 R2 g2 CF
            obtain ⟨⟨q0, q1, q2, q3, q4, q5⟩, kf⟩ := X4.cells
            obtain ⟨W6, e6, ⟨z0, z1, z2, z3, z4, z5⟩, R6, G6, gb⟩ := X4.done hlt (.int .i64 2) (.bool false) (.int .i64 0) (.string ⟨#[]⟩) (.slice none 0 0) (.slice none 0 0)
            have HR6 := hmk R6
            have HG6 := hmk G6
            have HGB := hmk gb
            clear R6 G6 gb
            go_wp2_with fail
            (try rw [← e6])
            clear e6 q0 q1 q2 q3 q4 q5 kf
            (try simp only [Exit.inBlock, Exit.then])
            refine bodyPost_ret (v := .agg #[.int .i64 2, .bool false, .int .i64 0, .string ⟨#[]⟩, .slice none 0 0, .slice none 0 0]) ?_ rfl ?_
            · rw [results_cell1 rfl]
              go_simp
            · rw [HE.out]
              exact ⟨⟨_, _, _, _, _, _, _, _, _, _, _, _, rfl, HR6.out, by simp⟩, HG6.out⟩
      · have y1 : ¬ (m : Int) < s.size := by omega
        have h0 : (runJ s.data.toList m).length = 0 := runJ_end (by rw [HLL.out]; omega)
        have hme : m = K + (runJ s.data.toList K).length := by have := HM.out; omega
        have HME := hmk hme
        clear hme h0 HM
        go_wp2_with fail
        refine wp_region_sub wr.heap.size (by kernel_rfl) (by kernel_rfl) ?_
        repeat (go_big_quiet_step (fail))
        refine wpQuiet_nil ?_
        rintro wq ⟨⟨wq', bq⟩, hq⟩
        have hq' : wq = wq' := hq
        subst hq'
        clear hq
        have XQ := X.next hlt (grown_belowS bq g) (X.jd.keep bq)
        clear X bq c0 c1 f1 p0 p1
        have d0 := XQ.jd.c0
        have d1 := XQ.jd.c1
        have hgq := XQ.jd.lt
        have p0 : ∀ x : Sub wq.heap.size wq, x.w.cell? ⟨g, 0, none⟩ = some (.string s) := sub_cell d0 hgq
        have p1 : ∀ x : Sub wq.heap.size wq, x.w.cell? ⟨g, 1, none⟩ = some (.int .i64 (m : Int)) := sub_cell d1 hgq
        have hsl := hsl_in s K m hkm hm
        have HDG : Hid (∀ x : Sub wq.heap.size wq, Calls Tryz.prog 55 #[.string (s.extract K m)] x.w fun e w'' => e = .returned (.tuple #[.int .i64 ((intJ (runJ s.data.toList K)).getD 0), .bool (intJ (runJ s.data.toList K)).isSome]) ∧ ∃ y : Sub wq.heap.size wq, w'' = y.w) := fun x => by
          have c := dinteger_any (s.extract K m) x.w (by rw [ByteArray.size_extract]; omega)
          rw [HME.out, ext_run] at c
          rw [HME.out]
          exact c.mono fun e w'' h => ⟨h.1, x, h.2⟩
        generalize s.extract K m = sd at *
        cases hR : intJ (runJ s.data.toList K) with
        | some v =>
          have HE : Hid (valJ s.data.toList D (f + 1) o K n = .ok (.mk 2 false v ⟨#[]⟩ [] [], m, n + 1)) := by show _ = _; rw [HVJ.out, numJ_yes hR, ← HME.out]
          have hv64 := intJ_in hR
          have HV64 := hmk hv64
          rw [hR] at HDG
          simp only [Option.getD_some, Option.isSome_some] at HDG
          clear hR HVJ HME CF hv64
          go_wp2_with fail
          refine wp_region_sub wq.heap.size (by kernel_rfl) (by kernel_rfl) ?_
          repeat (go_big_quiet_step (first | exact HDG.out _))
          refine wpQuiet_nil ?_
          rintro wz ⟨⟨wz', bz⟩, hq⟩
          have hq' : wz = wz' := hq
          subst hq'
          clear hq
          have X3 := XQ.next hlt (grown_belowS bz g) (XQ.jd.keep bz)
          clear XQ bz d0 d1 p0 p1 HDG
          obtain ⟨⟨q0, q1, q2, q3, q4, q5⟩, kf⟩ := X3.cells
          obtain ⟨W6, e6, ⟨z0, z1, z2, z3, z4, z5⟩, R6, G6, gb⟩ := X3.done hlt (.int .i64 2) (.bool false) (.int .i64 v) (.string ⟨#[]⟩) (.slice none 0 0) (.slice none 0 0)
          have HR6 := hmk R6
          have HG6 := hmk G6
          have HGB := hmk gb
          clear R6 G6 gb
          go_wp2_with fail
          (try rw [← e6])
          clear e6 q0 q1 q2 q3 q4 q5 kf
          (try simp only [Exit.inBlock, Exit.then])
          refine bodyPost_ret (v := .agg #[.int .i64 2, .bool false, .int .i64 v, .string ⟨#[]⟩, .slice none 0 0, .slice none 0 0]) ?_ rfl ?_
          · rw [results_cell1 rfl]
            go_simp
          · rw [HE.out]
            exact ⟨⟨_, rfl, lies_sca ⟨by omega, by omega⟩ HV64.out (by simp [maxLen, ByteArray.size]) _ _, HR6.out⟩, HG6.out⟩
        | none =>
          have HE : Hid (valJ s.data.toList D (f + 1) o K n = .error (K, 33)) := by show _ = _; rw [HVJ.out, numJ_no hR]
          rw [hR] at HDG
          simp only [Option.getD_none, Option.isSome_none] at HDG
          clear hR HVJ HME
          go_wp2_with fail
          refine wp_region_sub wq.heap.size (by kernel_rfl) (by kernel_rfl) ?_
          repeat (go_big_quiet_step (first | exact HDG.out _))
          refine wpQuiet_nil ?_
          rintro wz ⟨⟨wz', bz⟩, hq⟩
          have hq' : wz = wz' := hq
          subst hq'
          clear hq
          have X3 := XQ.next hlt (grown_belowS bz g) (XQ.jd.keep bz)
          clear XQ bz d0 d1 p0 p1 HDG
          go_wp2_with fail
          refine (CF.out _ _ _ K 33 X3.jd).mono ?_
          rintro e w2 ⟨rfl, R2, g2⟩
          have X4 := X3.next hlt g2 R2
          clear X3 R2 g2 CF
          obtain ⟨⟨q0, q1, q2, q3, q4, q5⟩, kf⟩ := X4.cells
          obtain ⟨W6, e6, ⟨z0, z1, z2, z3, z4, z5⟩, R6, G6, gb⟩ := X4.done hlt (.int .i64 2) (.bool false) (.int .i64 0) (.string ⟨#[]⟩) (.slice none 0 0) (.slice none 0 0)
          have HR6 := hmk R6
          have HG6 := hmk G6
          have HGB := hmk gb
          clear R6 G6 gb
          go_wp2_with fail
          (try rw [← e6])
          clear e6 q0 q1 q2 q3 q4 q5 kf
          (try simp only [Exit.inBlock, Exit.then])
          refine bodyPost_ret (v := .agg #[.int .i64 2, .bool false, .int .i64 0, .string ⟨#[]⟩, .slice none 0 0, .slice none 0 0]) ?_ rfl ?_
          · rw [results_cell1 rfl]
            go_simp
          · rw [HE.out]
            exact ⟨⟨_, _, _, _, _, _, _, _, _, _, _, _, rfl, HR6.out, by simp⟩, HG6.out⟩
end Go.Proofs.YtpmhdcmmlkjjmaaGreatDoor
