import Derived.Test.YtagjbphadakifaaDoorTrmR
/- the document's good. -/
set_option linter.unusedSimpArgs false
set_option linter.unusedVariables false
namespace Go.Proofs.YtagjbphadakifaaDoor
open Go.RowKit Go.Lib
set_option maxHeartbeats 8000000 in
set_option maxRecDepth 100000 in
theorem rgoodt_any (key : ByteArray) (op : Int) (l : List ByteArray) (S : Nat → Prop) (a : Option Addr) (c b o : Nat) (w : World) (hh : Headed a l.length c b o) (hl : liesS w S l b o) (hS : ∀ y, S y → y < w.heap.size) (hk : key.size ≤ 140737488355328) :
    Calls Tryd.prog 46 #[.agg #[.string key, .int .i64 op, .slice a l.length c]] w (BPost (goodB (key, op, l)) w) := by
  have HH := hmk hh
  have HL := hmk hl
  have hm : l.length ≤ 9223372036854775807 := Nat.le_trans hh.le hh.max
  have HG : Hid (goodB (key, op, l) = (decide (0 < key.size) && wordB key && opB op l)) := rfl
  obtain ⟨g, hg⟩ : ∃ g, goodB (key, op, l) = g := ⟨_, rfl⟩
  rw [hg] at HG ⊢
  have b0 : Below w.heap.size w (w.alloc (.cells #[.string key, .int .i64 op, .slice a l.length c] 50)) := (Below.refl _ _).alloc (Nat.le_refl _) _
  have hx0 := heap_alloc_new w (.cells #[.string key, .int .i64 op, .slice a l.length c] 50)
  have hw0 : (w.alloc (.cells #[.string key, .int .i64 op, .slice a l.length c] 50)).heap.size = w.heap.size + 1 := alloc_size _ _
  have HK := hmk (fun W => refValid_any key hk W)
  have X0 : Hid (∀ W : World, Below (w.alloc (.cells #[.string key, .int .i64 op, .slice a l.length c] 50)).heap.size (w.alloc (.cells #[.string key, .int .i64 op, .slice a l.length c] 50)) W → W.cell? ⟨w.heap.size, 0, none⟩ = some (.string key) ∧ W.cell? ⟨w.heap.size, 1, none⟩ = some (.int .i64 op) ∧ W.cell? ⟨w.heap.size, 2, none⟩ = some (.slice a l.length c)) := fun W hW => by
    have hx := (hW.block w.heap.size (by omega)).trans hx0
    exact ⟨by rw [cell_of_block hx]; rfl, by rw [cell_of_block hx]; rfl, by rw [cell_of_block hx]; rfl⟩
  have HB0 : Hid (∀ W : World, Below (w.alloc (.cells #[.string key, .int .i64 op, .slice a l.length c] 50)).heap.size (w.alloc (.cells #[.string key, .int .i64 op, .slice a l.length c] 50)) W → Below w.heap.size w W) := fun W hW => b0.trans (hW.mono (by omega))
  clear hg hh hl hx0 hk b0
  obtain ⟨x0, x1, x2⟩ := X0.out _ (Below.refl _ _)
  obtain ⟨t1, ht1⟩ : ∃ t1, utfB key = t1 := ⟨_, rfl⟩
  have HK1 : Hid (∀ W : World, Calls Tryd.prog 64 #[.string key] W (fun e w' => e = .returned (.bool t1) ∧ w' = W)) := fun W => by rw [← ht1]; exact HK.out W
  have hgk : (decide (0 < key.size) && wordB key) = (decide (0 < key.size) && (decide (key.size ≤ 64) && t1)) := by unfold wordB; rw [ht1]
  rw [hgk] at HG
  clear ht1 HK hgk
  cases t1 with
  | false =>
    have HB : Hid (g = false) := by show _ = _; rw [HG.out]; simp
    go_enter Tryd.func46, Tryd.ntmps46
    go_wp2_with (first | (go_at_call 64; refine (HK1.out _).mono ?_; rintro e w1 ⟨rfl, rfl⟩))
    go_ret
    exact ⟨congrArg (fun r => Ending.returned (.bool r)) HB.out.symm, HB0.out _ (Below.refl _ _)⟩
  | true =>
    by_cases hz : key.size = 0
    · have y1 : (key.size : Int) < 1 := by omega
      have HB : Hid (g = false) := by show _ = _; rw [HG.out, hz]; simp
      go_enter Tryd.func46, Tryd.ntmps46
      go_wp2_with (first | (go_at_call 64; refine (HK1.out _).mono ?_; rintro e w1 ⟨rfl, rfl⟩))
      go_ret
      exact ⟨congrArg (fun r => Ending.returned (.bool r)) HB.out.symm, HB0.out _ (Below.refl _ _)⟩
    by_cases hz6 : ¬ key.size ≤ 64
    · have y1 : ¬ (key.size : Int) < 1 := by omega
      have y2 : (64 : Int) < key.size := by omega
      have HB : Hid (g = false) := by show _ = _; rw [HG.out, decide_eq_false hz6]; simp
      go_enter Tryd.func46, Tryd.ntmps46
      go_wp2_with (first | (go_at_call 64; refine (HK1.out _).mono ?_; rintro e w1 ⟨rfl, rfl⟩))
      go_ret
      exact ⟨congrArg (fun r => Ending.returned (.bool r)) HB.out.symm, HB0.out _ (Below.refl _ _)⟩
    have y1 : ¬ (key.size : Int) < 1 := by omega
    have y2 : ¬ (64 : Int) < key.size := by omega
    have HG2 : Hid (g = opB op l) := by
      show _ = _
      rw [HG.out, decide_eq_true (by omega : 0 < key.size), decide_eq_true (by omega : key.size ≤ 64)]
      rfl
    have HGF : Hid (valsB l = false → g = false) := fun h => by
      rw [HG2.out]
      have h0 : l.length ≠ 0 := fun h0 => by
        have : valsB l = true := valsB_yes (fun k hk => by omega)
        rw [this] at h; cases h
      unfold opB
      rw [h]
      simp [h0]
      repeat' split
      all_goals simp
    clear hz hz6 HG
    go_enter Tryd.func46, Tryd.ntmps46
    go_wp2_with (first | (go_at_call 64; refine (HK1.out _).mono ?_; rintro e w1 ⟨rfl, rfl⟩))
    clear x0 x1 x2
    have HB0L := hmk (HB0.out _ (Below.refl _ _)).size
    have hBel : ∀ y, S y → y < (w.alloc (.cells #[.string key, .int .i64 op, .slice a l.length c] 50)).heap.size := fun y hy => Nat.lt_of_lt_of_le (hS y hy) HB0L.out
    go_loopw [4] (fun e4 wr => ∃ j : Nat, j ≤ l.length ∧ e4 = .int .i64 (j : Int) ∧ Below (w.alloc (.cells #[.string key, .int .i64 op, .slice a l.length c] 50)).heap.size (w.alloc (.cells #[.string key, .int .i64 op, .slice a l.length c] 50)) wr ∧ Hid (∀ k, k < j → k < l.length → valB l k = true)) (fun e4 _ => l.length - (RowKit.intOf e4).toNat)
    case atStart => exact ⟨0, by omega, rfl, Below.refl _ _, fun k h => by omega⟩
    case round =>
      obtain ⟨j, hj, rfl, Bj, HN⟩ := hrel
      have hzr := Bj.size
      obtain ⟨d0, d1, d2⟩ := X0.out wr Bj
      by_cases hjl : j < l.length
      · have y3 : (j : Int) < l.length := by omega
        obtain rfl : a = some ⟨b, o, none⟩ := HH.out.at_.resolve_left (by omega)
        obtain ⟨p1, hsz, q1⟩ := HL.out j hjl
        have q := ((HB0.out wr Bj).cell (p := ⟨b, o + j, none⟩) (hS _ p1)).trans q1
        have HNO : Hid (valB l j = false → valsB l = false) := fun h => valsB_no hjl h
        have HYE : Hid (valB l j = true → ∀ k, k < j + 1 → k < l.length → valB l k = true) := fun h k hk hk2 => by
          by_cases e : k = j
          · subst e; exact h
          · exact HN.out k (by omega) hk2
        have HV1 := hmk (fun W => refValid_any l[j] hsz W)
        have hbb : b < wr.heap.size := by have := hBel _ p1; omega
        clear HN q1 hsz
        cases j with
        | zero =>
          have HV := hmk (valB_zero hjl)
          rw [Nat.add_zero] at q
          generalize l[0] = s at *
          have HV1 : Hid (∀ W : World, Calls Tryd.prog 64 #[.string s] W (fun e w' => e = .returned (.bool (utfB s)) ∧ w' = W)) := HV1
          have s0 : ∀ x : Sub wr.heap.size wr, _ := sub_cell d2 (by show w.heap.size < _; omega)
          have s1 : ∀ x : Sub wr.heap.size wr, _ := sub_cell q hbb
          have s2 : True := trivial
          have s3 : True := trivial
          obtain ⟨u, hu⟩ : ∃ u, utfB s = u := ⟨_, rfl⟩
          rw [hu] at HV1
          cases u with
          | false =>
            have hwd : wordB s = false := by unfold wordB; rw [hu, Bool.and_false]
            rw [HV.out, hwd] at HNO HYE
            clear hwd hu HV
            have HA := hmk (HNO.out rfl)
            clear HNO HYE
            go_wp2_with (first | (go_at_call 64; refine (HV1.out wr).mono ?_; rintro e w1 ⟨rfl, h1⟩; rw [h1]; clear h1 w1))
            refine wp_region_sub wr.heap.size (by kernel_rfl) (by kernel_rfl) ?_
            repeat (go_big_quiet_step (fail))
            refine wpQuiet_nil ?_
            rintro wq ⟨⟨wq', bq⟩, hq⟩
            have hq' : wq = wq' := hq
            subst hq'
            clear hq s0 s1 s2 s3
            go_wp2_with fail
            go_ret
            exact ⟨congrArg (fun r => Ending.returned (.bool r)) (HGF.out HA.out).symm, HB0.out _ (Bj.trans (bq.mono hzr))⟩
          | true =>
            by_cases h64 : s.size ≤ 64
            · have y64 : decide ((64 : Int) < s.size) = false := decide_eq_false (by omega)
              have hwd : wordB s = true := by unfold wordB; rw [hu, decide_eq_true h64]; rfl
              rw [HV.out, hwd] at HNO HYE
              clear hwd hu HV h64
              have HY := hmk (HYE.out rfl)
              clear HNO HYE
              go_wp2_with (first | (go_at_call 64; refine (HV1.out wr).mono ?_; rintro e w1 ⟨rfl, h1⟩; rw [h1]; clear h1 w1))
              refine wp_region_sub wr.heap.size (by kernel_rfl) (by kernel_rfl) ?_
              repeat (go_big_quiet_step (fail))
              refine wpQuiet_nil ?_
              rintro wq ⟨⟨wq', bq⟩, hq⟩
              have hq' : wq = wq' := hq
              subst hq'
              clear hq s0 s1 s2 s3
              go_wp2_with fail
              go_roundw
              case rel => exact ⟨1, by omega, by go_num, Bj.trans (bq.mono hzr), HY.out⟩
              case measure => simp [RowKit.intOf]; omega
            · have y64 : decide ((64 : Int) < s.size) = true := decide_eq_true (by omega)
              have hwd : wordB s = false := by unfold wordB; rw [decide_eq_false h64, Bool.false_and]
              rw [HV.out, hwd] at HNO HYE
              clear hwd hu HV h64
              have HA := hmk (HNO.out rfl)
              clear HNO HYE
              go_wp2_with (first | (go_at_call 64; refine (HV1.out wr).mono ?_; rintro e w1 ⟨rfl, h1⟩; rw [h1]; clear h1 w1))
              refine wp_region_sub wr.heap.size (by kernel_rfl) (by kernel_rfl) ?_
              repeat (go_big_quiet_step (fail))
              refine wpQuiet_nil ?_
              rintro wq ⟨⟨wq', bq⟩, hq⟩
              have hq' : wq = wq' := hq
              subst hq'
              clear hq s0 s1 s2 s3
              go_wp2_with fail
              go_ret
              exact ⟨congrArg (fun r => Ending.returned (.bool r)) (HGF.out HA.out).symm, HB0.out _ (Bj.trans (bq.mono hzr))⟩
        | succ p =>
          have HV := hmk (valB_succ hjl)
          obtain ⟨p2, _, q2⟩ := HL.out p (by omega)
          have q0 := ((HB0.out wr Bj).cell (p := ⟨b, o + p, none⟩) (hS _ p2)).trans q2
          have y4 : IntKind.i64.wrap ((p : Int) + 1 - 1) = (p : Int) := by rw [IntKind.wrap_i64]; omega
          have y5 : decide ((0 : Int) < (p : Int) + 1) = true := decide_eq_true (by omega)
          have y6 : (p : Int) < l.length := by omega
          have hlt := leq_turn (l[p]'(by omega)) l[p + 1]
          obtain ⟨t, ht⟩ : ∃ t, ltB (l[p]'(by omega)) l[p + 1] = t := ⟨_, rfl⟩
          rw [ht] at HV hlt
          clear ht q2
          generalize l[p + 1] = s at *
          generalize l[p]'(by omega) = r0 at *
          have HV1 : Hid (∀ W : World, Calls Tryd.prog 64 #[.string s] W (fun e w' => e = .returned (.bool (utfB s)) ∧ w' = W)) := HV1
          have s0 : ∀ x : Sub wr.heap.size wr, _ := sub_cell d2 (by show w.heap.size < _; omega)
          have s1 : ∀ x : Sub wr.heap.size wr, _ := sub_cell q hbb
          have s2 : ∀ x : Sub wr.heap.size wr, _ := sub_cell q0 hbb
          have s3 : True := trivial
          obtain ⟨u, hu⟩ : ∃ u, utfB s = u := ⟨_, rfl⟩
          rw [hu] at HV1
          cases u with
          | false =>
            have hwd : wordB s = false := by unfold wordB; rw [hu, Bool.and_false]
            rw [HV.out, hwd] at HNO HYE
            clear hwd hu HV
            rw [Bool.false_and] at HNO HYE
            have HA := hmk (HNO.out rfl)
            clear HNO HYE
            go_wp2_with (first | (go_at_call 64; refine (HV1.out wr).mono ?_; rintro e w1 ⟨rfl, h1⟩; rw [h1]; clear h1 w1))
            refine wp_region_sub wr.heap.size (by kernel_rfl) (by kernel_rfl) ?_
            repeat (go_big_quiet_step (fail))
            refine wpQuiet_nil ?_
            rintro wq ⟨⟨wq', bq⟩, hq⟩
            have hq' : wq = wq' := hq
            subst hq'
            clear hq s0 s1 s2 s3
            go_wp2_with fail
            go_ret
            exact ⟨congrArg (fun r => Ending.returned (.bool r)) (HGF.out HA.out).symm, HB0.out _ (Bj.trans (bq.mono hzr))⟩
          | true =>
            by_cases h64 : s.size ≤ 64
            · have y64 : decide ((64 : Int) < s.size) = false := decide_eq_false (by omega)
              have hwd : wordB s = true := by unfold wordB; rw [hu, decide_eq_true h64]; rfl
              rw [HV.out, hwd] at HNO HYE
              clear hwd hu HV h64
              rw [Bool.true_and] at HNO HYE
              cases t with
              | false =>
                have HA := hmk (HNO.out rfl)
                clear HNO HYE
                go_wp2_with (first | (go_at_call 64; refine (HV1.out wr).mono ?_; rintro e w1 ⟨rfl, h1⟩; rw [h1]; clear h1 w1))
                refine wp_region_sub wr.heap.size (by kernel_rfl) (by kernel_rfl) ?_
                repeat (go_big_quiet_step (fail))
                refine wpQuiet_nil ?_
                rintro wq ⟨⟨wq', bq⟩, hq⟩
                have hq' : wq = wq' := hq
                subst hq'
                clear hq s0 s1 s2 s3
                go_wp2_with fail
                go_ret
                exact ⟨congrArg (fun r => Ending.returned (.bool r)) (HGF.out HA.out).symm, HB0.out _ (Bj.trans (bq.mono hzr))⟩
              | true =>
                have HY := hmk (HYE.out rfl)
                clear HNO HYE
                go_wp2_with (first | (go_at_call 64; refine (HV1.out wr).mono ?_; rintro e w1 ⟨rfl, h1⟩; rw [h1]; clear h1 w1))
                refine wp_region_sub wr.heap.size (by kernel_rfl) (by kernel_rfl) ?_
                repeat (go_big_quiet_step (fail))
                refine wpQuiet_nil ?_
                rintro wq ⟨⟨wq', bq⟩, hq⟩
                have hq' : wq = wq' := hq
                subst hq'
                clear hq s0 s1 s2 s3
                go_wp2_with fail
                go_roundw
                case rel => exact ⟨p + 1 + 1, by omega, by go_num, Bj.trans (bq.mono hzr), HY.out⟩
                case measure => simp [RowKit.intOf]; omega
            · have y64 : decide ((64 : Int) < s.size) = true := decide_eq_true (by omega)
              have hwd : wordB s = false := by unfold wordB; rw [decide_eq_false h64, Bool.false_and]
              rw [HV.out, hwd] at HNO HYE
              clear hwd hu HV h64
              rw [Bool.false_and] at HNO HYE
              have HA := hmk (HNO.out rfl)
              clear HNO HYE
              go_wp2_with (first | (go_at_call 64; refine (HV1.out wr).mono ?_; rintro e w1 ⟨rfl, h1⟩; rw [h1]; clear h1 w1))
              refine wp_region_sub wr.heap.size (by kernel_rfl) (by kernel_rfl) ?_
              repeat (go_big_quiet_step (fail))
              refine wpQuiet_nil ?_
              rintro wq ⟨⟨wq', bq⟩, hq⟩
              have hq' : wq = wq' := hq
              subst hq'
              clear hq s0 s1 s2 s3
              go_wp2_with fail
              go_ret
              exact ⟨congrArg (fun r => Ending.returned (.bool r)) (HGF.out HA.out).symm, HB0.out _ (Bj.trans (bq.mono hzr))⟩
      · obtain rfl : j = l.length := by omega
        have y3 : ¬ (l.length : Int) < l.length := by omega
        have HA := hmk (valsB_yes fun k hk => HN.out k hk hk)
        clear HN hjl
        have hop : op = 1 ∨ op = 2 ∨ op = 3 ∨ op = 4 ∨ (op ≠ 1 ∧ op ≠ 2 ∧ op ≠ 3 ∧ op ≠ 4) := by omega
        have HOP : Hid (g = if op = 1 ∨ op = 2 then decide (l.length = 0) else if op = 3 ∨ op = 4 then decide (0 < l.length) else false) := by
          show _ = _
          rw [HG2.out]
          unfold opB
          rw [HA.out, Bool.and_true]
        have HRET : Hid (Below w.heap.size w wr) := HB0.out _ Bj
        have hlen : ((l.length : Int) == 0) = decide (l.length = 0) := by rw [Bool.eq_iff_iff, beq_iff_eq, decide_eq_true_eq]; omega
        have hlen2 : decide ((0 : Int) < (l.length : Int)) = decide (0 < l.length) := by rw [Bool.eq_iff_iff, decide_eq_true_eq, decide_eq_true_eq]; omega
        have HL1 := hmk hlen
        have HL2 := hmk hlen2
        clear hlen hlen2 HG2
        rcases hop with rfl | rfl | rfl | rfl | ⟨e1, e2, e3, e4⟩
        · have HB : Hid (g = decide (l.length = 0)) := HOP.out
          go_wp2_with fail
          (try simp only [Exit.inBlock, Exit.then])
          go_ret
          exact ⟨congrArg (fun r => Ending.returned (.bool r)) (by first | (rw [HB.out]; done) | (rw [HB.out]; first | rfl | exact HL1.out | simp)), HRET.out⟩
        · have HB : Hid (g = decide (l.length = 0)) := HOP.out
          go_wp2_with fail
          (try simp only [Exit.inBlock, Exit.then])
          go_ret
          exact ⟨congrArg (fun r => Ending.returned (.bool r)) (by first | (rw [HB.out]; done) | (rw [HB.out]; first | rfl | exact HL1.out | simp)), HRET.out⟩
        · have HB : Hid (g = decide (0 < l.length)) := HOP.out
          go_wp2_with fail
          (try simp only [Exit.inBlock, Exit.then])
          go_ret
          exact ⟨congrArg (fun r => Ending.returned (.bool r)) (by first | (rw [HB.out]; done) | (rw [HB.out]; first | rfl | exact HL2.out | simp)), HRET.out⟩
        · have HB : Hid (g = decide (0 < l.length)) := HOP.out
          go_wp2_with fail
          (try simp only [Exit.inBlock, Exit.then])
          go_ret
          exact ⟨congrArg (fun r => Ending.returned (.bool r)) (by first | (rw [HB.out]; done) | (rw [HB.out]; first | rfl | exact HL2.out | simp)), HRET.out⟩
        · have HB : Hid (g = false) := by show _ = _; rw [HOP.out, if_neg (by omega), if_neg (by omega)]
          have f1 : (op == 1) = false := by rw [beq_eq_false_iff_ne]; exact e1
          have f2 : (op == 2) = false := by rw [beq_eq_false_iff_ne]; exact e2
          have f3 : (op == 3) = false := by rw [beq_eq_false_iff_ne]; exact e3
          have f4 : (op == 4) = false := by rw [beq_eq_false_iff_ne]; exact e4
          clear e1 e2 e3 e4
          go_wp2_with fail
          (try simp only [Exit.inBlock, Exit.then])
          go_ret
          exact ⟨congrArg (fun r => Ending.returned (.bool r)) HB.out.symm, HRET.out⟩
end Go.Proofs.YtagjbphadakifaaDoor
