import Derived.Test.YtihcggepeadklaaGreatDoorDcmF
/- The document's value of a number. -/
set_option linter.unusedSimpArgs false
set_option linter.unusedVariables false
namespace Go.Proofs.YtihcggepeadklaaGreatDoor
open Go.RowKit Go.Lib
theorem tw_step {l : List UInt8} {m : Nat} {P : UInt8 → Bool} {c : UInt8} {t : List UInt8} (h : l.takeWhile P = l.take m ++ (l.drop m).takeWhile P) (hd : l.drop m = c :: t) (hc : P c = true) (hm : m < l.length) : l.takeWhile P = l.take (m + 1) ++ (l.drop (m + 1)).takeWhile P := by
  have e1 : l.take (m + 1) = l.take m ++ [c] := by
    rw [List.take_succ_eq_append_getElem hm]
    congr 1
    have : l[m] = c := by
      have := List.drop_eq_getElem_cons hm
      rw [hd] at this
      injection this with h1 _
      exact h1.symm
    rw [this]
  have e2 : l.drop (m + 1) = t := by rw [← List.drop_drop, hd]; rfl
  rw [h, e1, e2, hd, List.takeWhile_cons, if_pos hc]
  simp
theorem tw_stop {l : List UInt8} {m : Nat} {P : UInt8 → Bool} {c : UInt8} {t : List UInt8} (h : l.takeWhile P = l.take m ++ (l.drop m).takeWhile P) (hd : l.drop m = c :: t) (hc : P c = false) : l.takeWhile P = l.take m := by
  rw [h, hd, List.takeWhile_cons, if_neg (by rw [hc]; decide), List.append_nil]
theorem tw_end {l : List UInt8} {m : Nat} {P : UInt8 → Bool} (h : l.takeWhile P = l.take m ++ (l.drop m).takeWhile P) (hd : l.drop m = []) : l.takeWhile P = l.take m := by
  rw [h, hd]; simp
theorem ext0 (s : ByteArray) (m : Nat) : (s.extract 0 m).data.toList = s.data.toList.take m := by
  simp [ByteArray.data_extract, Array.toList_extract]
theorem numB_no {c : Nat} (h : numB c = true) : c ≠ 110 ∧ c ≠ 116 ∧ c ≠ 102 ∧ c ≠ 34 ∧ c ≠ 91 ∧ c ≠ 123 ∧ c ≠ 32 ∧ c ≠ 9 ∧ c ≠ 10 ∧ c ≠ 13 := by
  refine ⟨?_, ?_, ?_, ?_, ?_, ?_, ?_, ?_, ?_, ?_⟩ <;> (rintro rfl; revert h; decide)
set_option maxHeartbeats 2000000 in
set_option maxRecDepth 100000 in
theorem dval_bad (g : Nat) (s : ByteArray) (w : World) (h : RB g s 0 0 0 0 w) (h0 : 0 < s.size) (hb : blkB ((s[0]'h0).toNat : Int) = false) (hn : numB ((s[0]'h0).toNat : Int) = false) (hx : (s[0]'h0).toNat ≠ 110 ∧ (s[0]'h0).toNat ≠ 116 ∧ (s[0]'h0).toNat ≠ 102 ∧ (s[0]'h0).toNat ≠ 34 ∧ (s[0]'h0).toNat ≠ 91 ∧ (s[0]'h0).toNat ≠ 123) (hs : s.size ≤ 2147483647) :
    Calls Tryz.prog 121 #[.pointer (some ⟨g, 0, none⟩), .int .i64 0] w (VlP (valP s.data.toList) g s w) := by
  have hgl := h.lt
  have gA : w.grownBy (w.alloc z46) (some g) := grown_alloc1 g z46
  have nb := heap_alloc_new w z46
  have hA : RB g s 0 0 0 0 (w.alloc z46) := h.keep ((Below.refl _ _).alloc (Nat.le_refl _) _)
  have KN : Hid (∀ W, (w.alloc z46).grownBy W (some g) → W.heap[w.heap.size]? = some z46) := fun W hW => (hW.block _ (by rw [alloc_size]; omega) (fun e => by have := Option.some.inj e; omega)).trans nb
  obtain ⟨n1, n2, n3, n4, n5, n6⟩ := hx
  have HV : Hid (valP s.data.toList = none) := by
    show _ = _
    rw [valP, head0 h0]
    dsimp only
    rw [if_neg n1, if_neg n2, if_neg n3, if_neg (by rw [hn]; decide)]
  have CN := hmk (dnext_yes g s 0 0 0 0 _ hA h0 hb)
  have HGA := hmk gA
  have CQ := hmk (fun W => numeric_any ((s[0]'h0).toNat : Int) W)
  rw [hn] at CQ
  have y110 : (((s[0]'h0).toNat : Int) != 110) = true := by rw [bne_iff_ne]; omega
  have y116 : (((s[0]'h0).toNat : Int) != 116) = true := by rw [bne_iff_ne]; omega
  have y102 : (((s[0]'h0).toNat : Int) != 102) = true := by rw [bne_iff_ne]; omega
  have y34 : (((s[0]'h0).toNat : Int) != 34) = true := by rw [bne_iff_ne]; omega
  have y91 : (((s[0]'h0).toNat : Int) != 91) = true := by rw [bne_iff_ne]; omega
  have y123 : (((s[0]'h0).toNat : Int) != 123) = true := by rw [bne_iff_ne]; omega
  clear h gA nb hA hb hn n1 n2 n3 n4 n5 n6
  go_enter Tryz.func121, Tryz.ntmps121
  go_wp2_with fail
  refine CN.out.mono ?_
  rintro e w1 ⟨rfl, R1, g1⟩
  have c4 := R1.c4
  have c1 := R1.c1
  have CF := hmk (dfail_any g s 0 0 0 0 32 w1 R1)
  have HG1 := hmk g1
  clear R1 g1 CN
  go_wp2_with (go_at_call 141; refine (CQ.out _).mono ?_; rintro e w' ⟨rfl, rfl⟩)
  refine CF.out.mono ?_
  rintro e w2 ⟨rfl, RW, g2⟩
  have G2 := grown_trans HG1.out g2
  have NW := KN.out w2 G2
  have GW : w.grownBy w2 (some g) := grown_trans HGA.out G2
  clear g2 G2 KN HG1 HGA c4 c1 CF CQ
  have q0 : w2.cell? ⟨w.heap.size, 0, none⟩ = some (.int .i64 0) := cell_of_block NW 0
  have q1 : w2.cell? ⟨w.heap.size, 1, none⟩ = some (.bool false) := cell_of_block NW 1
  have q2 : w2.cell? ⟨w.heap.size, 2, none⟩ = some (.int .i64 0) := cell_of_block NW 2
  have q3 : w2.cell? ⟨w.heap.size, 3, none⟩ = some (.string ⟨#[]⟩) := cell_of_block NW 3
  have q4 : w2.cell? ⟨w.heap.size, 4, none⟩ = some (.slice none 0 0) := cell_of_block NW 4
  have q5 : w2.cell? ⟨w.heap.size, 5, none⟩ = some (.slice none 0 0) := cell_of_block NW 5
  have kf : ∀ ii, w2.frozen? ⟨w.heap.size, ii, none⟩ = false := frozen_of_block NW
  have sg := st6_grown w2 w.heap.size (.int .i64 0) (.bool false) (.int .i64 0) (.string ⟨#[]⟩) (.slice none 0 0) (.slice none 0 0)
  have HRF := hmk (RW.gr sg (by omega))
  have HGF := hmk (grown_far GW (Nat.le_refl _) sg)
  clear sg NW RW GW
  go_wp2_with fail
  (try simp only [Exit.inBlock, Exit.then])
  refine bodyPost_ret (v := .agg #[.int .i64 0, .bool false, .int .i64 0, .string ⟨#[]⟩, .slice none 0 0, .slice none 0 0]) ?_ rfl ⟨0, false, 0, 0, 0, 32, 0, rfl, Nat.zero_le _, HRF.out, HGF.out, .inr ⟨HV.out, by omega⟩⟩
  rw [results_cell1 rfl]
  go_simp
set_option maxHeartbeats 2000000 in
set_option maxRecDepth 100000 in
theorem dval_num (g : Nat) (s : ByteArray) (w : World) (h : RB g s 0 0 0 0 w) (h0 : 0 < s.size) (hn : numB ((s[0]'h0).toNat : Int) = true) (hs : s.size ≤ 2147483647) :
    Calls Tryz.prog 121 #[.pointer (some ⟨g, 0, none⟩), .int .i64 0] w (VlP (valP s.data.toList) g s w) := by
  have hgl := h.lt
  have gA : w.grownBy (w.alloc z46) (some g) := grown_alloc1 g z46
  have nb := heap_alloc_new w z46
  have hA : RB g s 0 0 0 0 (w.alloc z46) := h.keep ((Below.refl _ _).alloc (Nat.le_refl _) _)
  have KN : Hid (∀ W, (w.alloc z46).grownBy W (some g) → W.heap[w.heap.size]? = some z46) := fun W hW => (hW.block _ (by rw [alloc_size]; omega) (fun e => by have := Option.some.inj e; omega)).trans nb
  obtain ⟨n1, n2, n3, n4, n5, n6, n7, n8, n9, n10⟩ := numB_no hn
  have HLS : Hid (s.data.toList.length = s.size) := by show _ = _; simp
  have HV : Hid (valP s.data.toList = (dint (s.data.toList.takeWhile (fun x => numB x.toNat))).map (fun i => (.mk 2 false i ⟨#[]⟩ [] [], (s.data.toList.takeWhile (fun x => numB x.toNat)).length))) := by
    show _ = _
    rw [valP, head0 h0]
    dsimp only
    rw [if_neg n1, if_neg n2, if_neg n3, if_pos hn]
  have CI : Hid (∀ m, s.data.toList.takeWhile (fun x => numB x.toNat) = s.data.toList.take m → ∀ W, Calls Tryz.prog 146 #[.string (s.extract 0 m)] W (DiP (dint (s.data.toList.takeWhile (fun x => numB x.toNat))) W)) := fun m hm W => by
    have c := dint_any (s.extract 0 m) W (by rw [ByteArray.size_extract]; omega)
    rw [ext0, ← hm] at c
    exact c
  have CN := hmk (dnext_yes g s 0 0 0 0 _ hA h0 (by unfold blkB; rw [decide_eq_false (by omega), decide_eq_false (by omega), decide_eq_false (by omega), decide_eq_false (by omega)]; rfl))
  have HGA := hmk gA
  have CQ := hmk (fun (c : Int) W => numeric_any c W)
  have CQ0 := hmk (fun W => numeric_any ((s[0]'h0).toNat : Int) W)
  rw [hn] at CQ0
  have y110 : (((s[0]'h0).toNat : Int) != 110) = true := by rw [bne_iff_ne]; omega
  have z110 : (((s[0]'h0).toNat : Int) == 110) = false := by rw [beq_eq_false_iff_ne]; omega
  have y116 : (((s[0]'h0).toNat : Int) != 116) = true := by rw [bne_iff_ne]; omega
  have z116 : (((s[0]'h0).toNat : Int) == 116) = false := by rw [beq_eq_false_iff_ne]; omega
  have y102 : (((s[0]'h0).toNat : Int) != 102) = true := by rw [bne_iff_ne]; omega
  have z102 : (((s[0]'h0).toNat : Int) == 102) = false := by rw [beq_eq_false_iff_ne]; omega
  have y34 : (((s[0]'h0).toNat : Int) != 34) = true := by rw [bne_iff_ne]; omega
  have z34 : (((s[0]'h0).toNat : Int) == 34) = false := by rw [beq_eq_false_iff_ne]; omega
  have y91 : (((s[0]'h0).toNat : Int) != 91) = true := by rw [bne_iff_ne]; omega
  have z91 : (((s[0]'h0).toNat : Int) == 91) = false := by rw [beq_eq_false_iff_ne]; omega
  have y123 : (((s[0]'h0).toNat : Int) != 123) = true := by rw [bne_iff_ne]; omega
  have z123 : (((s[0]'h0).toNat : Int) == 123) = false := by rw [beq_eq_false_iff_ne]; omega
  clear h gA nb hA hn n1 n2 n3 n4 n5 n6 n7 n8 n9 n10
  go_enter Tryz.func121, Tryz.ntmps121
  go_wp2_with fail
  refine CN.out.mono ?_
  rintro e w1 ⟨rfl, R1, g1⟩
  have c4 := R1.c4
  have c2 := R1.c2
  have f2 := R1.fz 2
  have c3 := (R1.put2 1 1 rfl).c3
  have c1 := (R1.put2 1 1 rfl).c1
  have HR1 := hmk (R1.put2 1 1 rfl)
  have HG1 := hmk (grown_set g1 2 (.int .i64 1))
  clear R1 g1 CN
  go_wp2_with (go_at_call 141; refine (CQ0.out _).mono ?_; rintro e w' ⟨rfl, rfl⟩)
  clear y110 y116 y102 y34 y91 y123 z110 z116 z102 z34 z91 z123 c4 c2 f2 c3 c1 CQ0
  generalize w'.setCell ⟨g, 2, none⟩ (.int .i64 1) = wx at *
  go_loopw [146] (fun e wr => ∃ m : Nat, m ≤ s.size ∧ RowKit.intOf e = (m : Int) ∧ RB g s m 1 0 0 wr ∧ (w.alloc z46).grownBy wr (some g) ∧ Hid (s.data.toList.takeWhile (fun x => numB x.toNat) = s.data.toList.take m ++ (s.data.toList.drop m).takeWhile (fun x => numB x.toNat))) (fun e _ => s.size - (RowKit.intOf e).toNat)
  case atStart => exact ⟨0, Nat.zero_le _, rfl, HR1.out, HG1.out, by show _ = _; simp⟩
  case round =>
    clear HR1 HG1
    obtain ⟨m, hm, he, hr, gr, HTW⟩ := hrel
    have c0 := hr.c0
    have c1 := hr.c1
    have HR := hmk hr
    have HG := hmk gr
    have HE := hmk he
    clear hr gr he
    by_cases hms : m < s.size
    · have a1 : (m : Int) < s.size := by omega
      have ed := hmk (drop_consN s m hms)
      have cq := fun W => CQ.out ((s[m]'hms).toNat : Int) W
      cases hq : numB ((s[m]'hms).toNat : Int) with
      | true =>
        rw [hq] at cq
        have HN := hmk (tw_step HTW.out ed.out hq (by rw [HLS.out]; exact hms))
        clear HTW ed hq
        go_wp2_with fail
        go_quiet ((go_at_call 141; exact Calls.quiet_of_same (cq _)))
        have c1 : (wr.drewN nq).cell? ⟨g, 1, none⟩ = some (.int .i64 (m : Int)) := (HR.out.drewN nq).c1
        have f1 := (HR.out.drewN nq).fz 1
        have HR2 := hmk (HR.out.drewN nq)
        have HG2 := hmk (grown_drewN HG.out nq)
        generalize wr.drewN nq = w2 at *
        clear HR HG c0
        go_wp2_with fail
        go_roundw
        case rel => exact ⟨m + 1, by omega, by simp [RowKit.intOf], HR2.out.put1 (m + 1) _ (by omega), grown_set HG2.out _ _, HN⟩
        case measure => first | (rw [HE.out]; simp [RowKit.intOf]; omega) | (simp only [HE.out]; simp [RowKit.intOf]; omega) | (have hh := HE.out; generalize RowKit.intOf _ = zz at hh ⊢; simp [RowKit.intOf]; omega)
      | false =>
        rw [hq] at cq
        have HTK := hmk (tw_stop HTW.out ed.out hq)
        clear HTW ed hq HE
        go_wp2_with fail
        go_quiet ((go_at_call 141; exact Calls.quiet_of_same (cq _)))
        have HR3 := hmk (HR.out.drewN nq)
        have HG3 := hmk (grown_drewN HG.out nq)
        generalize wr.drewN nq = w3 at *
        clear HR HG c0 c1 cq CQ
        have HL : Hid ((s.data.toList.takeWhile (fun x => numB x.toNat)).length = m) := by
          show _ = _
          rw [HTK.out, List.length_take, HLS.out]; omega
        have c0 : w3.cell? ⟨g, 0, none⟩ = some (.string s) := HR3.out.c0
        have c1 : w3.cell? ⟨g, 1, none⟩ = some (.int .i64 (m : Int)) := HR3.out.c1
        have hm1 : (m : Int) ≤ s.size := by omega
        have hm0 : (0 : Int) ≤ m := by omega
        have ci := CI.out m HTK.out
        rcases hdi : dint (s.data.toList.takeWhile (fun x => numB x.toNat)) with _ | i
        · rw [hdi] at ci
          have HI := hmk hdi
          have cj : ∀ W, Calls Tryz.prog 146 #[.string (s.extract 0 m)] W fun e w' => e = .returned (.tuple #[.int .i64 0, .bool false]) ∧ w' = W := fun W => (ci W).mono (by
            rintro e w' ⟨rfl, (⟨i, hh, _⟩ | ⟨_, rfl⟩)⟩
            · cases hh
            · exact ⟨rfl, rfl⟩)
          clear hdi ci CI HTK
          go_wp2_with fail
          go_quiet ((go_at_call 146; exact Calls.quiet_of_same (cj _)))
          have CF := hmk (dfail_any g s m 1 0 0 33 _ (HR3.out.drewN nq))
          have HG4 := hmk (grown_drewN HG3.out nq)
          generalize w3.drewN nq = w4' at *
          go_wp2_with fail
          refine CF.out.mono ?_
          rintro e w4 ⟨rfl, RW, g4⟩
          have G4 := grown_trans HG4.out g4
          have NW := KN.out w4 G4
          have GW : w.grownBy w4 (some g) := grown_trans HGA.out G4
          clear g4 G4 KN HG3 HG4 HGA CF HR3 c0 c1 cj
          have q0 : w4.cell? ⟨w.heap.size, 0, none⟩ = some (.int .i64 0) := cell_of_block NW 0
          have q1 : w4.cell? ⟨w.heap.size, 1, none⟩ = some (.bool false) := cell_of_block NW 1
          have q2 : w4.cell? ⟨w.heap.size, 2, none⟩ = some (.int .i64 0) := cell_of_block NW 2
          have q3 : w4.cell? ⟨w.heap.size, 3, none⟩ = some (.string ⟨#[]⟩) := cell_of_block NW 3
          have q4 : w4.cell? ⟨w.heap.size, 4, none⟩ = some (.slice none 0 0) := cell_of_block NW 4
          have q5 : w4.cell? ⟨w.heap.size, 5, none⟩ = some (.slice none 0 0) := cell_of_block NW 5
          have kf : ∀ ii, w4.frozen? ⟨w.heap.size, ii, none⟩ = false := frozen_of_block NW
          have sg := st6_grown w4 w.heap.size (.int .i64 2) (.bool false) (.int .i64 0) (.string ⟨#[]⟩) (.slice none 0 0) (.slice none 0 0)
          have HRF := hmk (RW.gr sg (by omega))
          have HGF := hmk (grown_far GW (Nat.le_refl _) sg)
          clear sg NW RW GW
          go_wp2_with fail
          (try simp only [Exit.inBlock, Exit.then])
          refine bodyPost_ret (v := .agg #[.int .i64 2, .bool false, .int .i64 0, .string ⟨#[]⟩, .slice none 0 0, .slice none 0 0]) ?_ rfl ⟨2, false, 0, m, 1, 33, 0, rfl, hm, HRF.out, HGF.out, .inr ⟨by rw [HV.out, HI.out]; rfl, by omega⟩⟩
          rw [results_cell1 rfl]
          go_simp
        · rw [hdi] at ci
          have HI := hmk hdi
          have cj : ∀ W, Calls Tryz.prog 146 #[.string (s.extract 0 m)] W fun e w' => e = .returned (.tuple #[.int .i64 i, .bool true]) ∧ w' = W := fun W => (ci W).mono (by
            rintro e w' ⟨rfl, (⟨i', hh, rfl⟩ | ⟨hh, _⟩)⟩
            · cases hh; exact ⟨rfl, rfl⟩
            · cases hh)
          clear hdi ci CI HTK
          go_wp2_with fail
          go_quiet ((go_at_call 146; exact Calls.quiet_of_same (cj _)))
          have RW := HR3.out.drewN nq
          have G4 := grown_drewN HG3.out nq
          generalize w3.drewN nq = w4 at *
          have NW := KN.out w4 G4
          have GW : w.grownBy w4 (some g) := grown_trans HGA.out G4
          clear G4 KN HG3 HGA HR3 c0 c1 cj
          have q0 : w4.cell? ⟨w.heap.size, 0, none⟩ = some (.int .i64 0) := cell_of_block NW 0
          have q1 : w4.cell? ⟨w.heap.size, 1, none⟩ = some (.bool false) := cell_of_block NW 1
          have q2 : w4.cell? ⟨w.heap.size, 2, none⟩ = some (.int .i64 0) := cell_of_block NW 2
          have q3 : w4.cell? ⟨w.heap.size, 3, none⟩ = some (.string ⟨#[]⟩) := cell_of_block NW 3
          have q4 : w4.cell? ⟨w.heap.size, 4, none⟩ = some (.slice none 0 0) := cell_of_block NW 4
          have q5 : w4.cell? ⟨w.heap.size, 5, none⟩ = some (.slice none 0 0) := cell_of_block NW 5
          have kf : ∀ ii, w4.frozen? ⟨w.heap.size, ii, none⟩ = false := frozen_of_block NW
          have sg := st6_grown w4 w.heap.size (.int .i64 2) (.bool false) (.int .i64 i) (.string ⟨#[]⟩) (.slice none 0 0) (.slice none 0 0)
          have HRF := hmk (RW.gr sg (by omega))
          have HGF := hmk (grown_far GW (Nat.le_refl _) sg)
          clear sg NW RW GW
          go_wp2_with fail
          (try simp only [Exit.inBlock, Exit.then])
          refine bodyPost_ret (v := .agg #[.int .i64 2, .bool false, .int .i64 i, .string ⟨#[]⟩, .slice none 0 0, .slice none 0 0]) ?_ rfl ⟨2, false, i, m, 1, 0, 0, rfl, hm, HRF.out, HGF.out, .inl ⟨by rw [HV.out, HI.out, HL.out]; rfl, rfl⟩⟩
          rw [results_cell1 rfl]
          go_simp
    · have a1 : ¬ (m : Int) < s.size := by omega
      have HTK := hmk (tw_end HTW.out (drop_endN s m hms))
      clear HTW HE
      go_wp2_with fail
      go_quiet (fail)
      have HR3 := hmk (HR.out.drewN nq)
      have HG3 := hmk (grown_drewN HG.out nq)
      generalize wr.drewN nq = w3 at *
      clear HR HG c0 c1 CQ
      have HL : Hid ((s.data.toList.takeWhile (fun x => numB x.toNat)).length = m) := by
        show _ = _
        rw [HTK.out, List.length_take, HLS.out]; omega
      have c0 : w3.cell? ⟨g, 0, none⟩ = some (.string s) := HR3.out.c0
      have c1 : w3.cell? ⟨g, 1, none⟩ = some (.int .i64 (m : Int)) := HR3.out.c1
      have hm1 : (m : Int) ≤ s.size := by omega
      have hm0 : (0 : Int) ≤ m := by omega
      have ci := CI.out m HTK.out
      rcases hdi : dint (s.data.toList.takeWhile (fun x => numB x.toNat)) with _ | i
      · rw [hdi] at ci
        have HI := hmk hdi
        have cj : ∀ W, Calls Tryz.prog 146 #[.string (s.extract 0 m)] W fun e w' => e = .returned (.tuple #[.int .i64 0, .bool false]) ∧ w' = W := fun W => (ci W).mono (by
          rintro e w' ⟨rfl, (⟨i, hh, _⟩ | ⟨_, rfl⟩)⟩
          · cases hh
          · exact ⟨rfl, rfl⟩)
        clear hdi ci CI HTK
        go_wp2_with fail
        go_quiet ((go_at_call 146; exact Calls.quiet_of_same (cj _)))
        have CF := hmk (dfail_any g s m 1 0 0 33 _ (HR3.out.drewN nq))
        have HG4 := hmk (grown_drewN HG3.out nq)
        generalize w3.drewN nq = w4' at *
        go_wp2_with fail
        refine CF.out.mono ?_
        rintro e w4 ⟨rfl, RW, g4⟩
        have G4 := grown_trans HG4.out g4
        have NW := KN.out w4 G4
        have GW : w.grownBy w4 (some g) := grown_trans HGA.out G4
        clear g4 G4 KN HG3 HG4 HGA CF HR3 c0 c1 cj
        have q0 : w4.cell? ⟨w.heap.size, 0, none⟩ = some (.int .i64 0) := cell_of_block NW 0
        have q1 : w4.cell? ⟨w.heap.size, 1, none⟩ = some (.bool false) := cell_of_block NW 1
        have q2 : w4.cell? ⟨w.heap.size, 2, none⟩ = some (.int .i64 0) := cell_of_block NW 2
        have q3 : w4.cell? ⟨w.heap.size, 3, none⟩ = some (.string ⟨#[]⟩) := cell_of_block NW 3
        have q4 : w4.cell? ⟨w.heap.size, 4, none⟩ = some (.slice none 0 0) := cell_of_block NW 4
        have q5 : w4.cell? ⟨w.heap.size, 5, none⟩ = some (.slice none 0 0) := cell_of_block NW 5
        have kf : ∀ ii, w4.frozen? ⟨w.heap.size, ii, none⟩ = false := frozen_of_block NW
        have sg := st6_grown w4 w.heap.size (.int .i64 2) (.bool false) (.int .i64 0) (.string ⟨#[]⟩) (.slice none 0 0) (.slice none 0 0)
        have HRF := hmk (RW.gr sg (by omega))
        have HGF := hmk (grown_far GW (Nat.le_refl _) sg)
        clear sg NW RW GW
        go_wp2_with fail
        (try simp only [Exit.inBlock, Exit.then])
        refine bodyPost_ret (v := .agg #[.int .i64 2, .bool false, .int .i64 0, .string ⟨#[]⟩, .slice none 0 0, .slice none 0 0]) ?_ rfl ⟨2, false, 0, m, 1, 33, 0, rfl, hm, HRF.out, HGF.out, .inr ⟨by rw [HV.out, HI.out]; rfl, by omega⟩⟩
        rw [results_cell1 rfl]
        go_simp
      · rw [hdi] at ci
        have HI := hmk hdi
        have cj : ∀ W, Calls Tryz.prog 146 #[.string (s.extract 0 m)] W fun e w' => e = .returned (.tuple #[.int .i64 i, .bool true]) ∧ w' = W := fun W => (ci W).mono (by
          rintro e w' ⟨rfl, (⟨i', hh, rfl⟩ | ⟨hh, _⟩)⟩
          · cases hh; exact ⟨rfl, rfl⟩
          · cases hh)
        clear hdi ci CI HTK
        go_wp2_with fail
        go_quiet ((go_at_call 146; exact Calls.quiet_of_same (cj _)))
        have RW := HR3.out.drewN nq
        have G4 := grown_drewN HG3.out nq
        generalize w3.drewN nq = w4 at *
        have NW := KN.out w4 G4
        have GW : w.grownBy w4 (some g) := grown_trans HGA.out G4
        clear G4 KN HG3 HGA HR3 c0 c1 cj
        have q0 : w4.cell? ⟨w.heap.size, 0, none⟩ = some (.int .i64 0) := cell_of_block NW 0
        have q1 : w4.cell? ⟨w.heap.size, 1, none⟩ = some (.bool false) := cell_of_block NW 1
        have q2 : w4.cell? ⟨w.heap.size, 2, none⟩ = some (.int .i64 0) := cell_of_block NW 2
        have q3 : w4.cell? ⟨w.heap.size, 3, none⟩ = some (.string ⟨#[]⟩) := cell_of_block NW 3
        have q4 : w4.cell? ⟨w.heap.size, 4, none⟩ = some (.slice none 0 0) := cell_of_block NW 4
        have q5 : w4.cell? ⟨w.heap.size, 5, none⟩ = some (.slice none 0 0) := cell_of_block NW 5
        have kf : ∀ ii, w4.frozen? ⟨w.heap.size, ii, none⟩ = false := frozen_of_block NW
        have sg := st6_grown w4 w.heap.size (.int .i64 2) (.bool false) (.int .i64 i) (.string ⟨#[]⟩) (.slice none 0 0) (.slice none 0 0)
        have HRF := hmk (RW.gr sg (by omega))
        have HGF := hmk (grown_far GW (Nat.le_refl _) sg)
        clear sg NW RW GW
        go_wp2_with fail
        (try simp only [Exit.inBlock, Exit.then])
        refine bodyPost_ret (v := .agg #[.int .i64 2, .bool false, .int .i64 i, .string ⟨#[]⟩, .slice none 0 0, .slice none 0 0]) ?_ rfl ⟨2, false, i, m, 1, 0, 0, rfl, hm, HRF.out, HGF.out, .inl ⟨by rw [HV.out, HI.out, HL.out]; rfl, rfl⟩⟩
        rw [results_cell1 rfl]
        go_simp
end Go.Proofs.YtihcggepeadklaaGreatDoor
