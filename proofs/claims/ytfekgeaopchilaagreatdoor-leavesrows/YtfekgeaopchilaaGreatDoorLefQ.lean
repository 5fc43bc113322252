import Derived.Test.YtfekgeaopchilaaGreatDoorG37
/- The document's Put. -/
set_option linter.unusedSimpArgs false
set_option linter.unusedVariables false
namespace Go.Proofs.YtfekgeaopchilaaGreatDoor
open Go.RowKit Go.Lib
/-- one list of leaves put into another -/
def putF : List Lf → List Lf → List Lf
  | [], m => m
  | x :: l, [] => x :: l
  | x :: l, y :: m => if lexL oeE x.1 y.1 < 0 then x :: putF l (y :: m) else if lexL oeE x.1 y.1 = 0 then y :: putF l m else y :: putF (x :: l) m
termination_by l m => l.length + m.length
theorem putF_nil (m : List Lf) : putF [] m = m := by rw [putF]
theorem putF_nil2 (l : List Lf) : putF l [] = l := by cases l <;> rw [putF]
theorem drop_consF {α : Type} {l : List α} {i : Nat} (h : i < l.length) : l.drop i = l[i] :: l.drop (i + 1) := List.drop_eq_getElem_cons h
theorem putF_lt {l m : List Lf} {i k : Nat} (hi : i < l.length) (hk : k < m.length) (h : lexL oeE (l[i]).1 (m[k]).1 < 0) : putF (l.drop i) (m.drop k) = l[i] :: putF (l.drop (i + 1)) (m.drop k) := by
  rw [drop_consF hi, drop_consF hk, putF, if_pos h]
theorem putF_eq {l m : List Lf} {i k : Nat} (hi : i < l.length) (hk : k < m.length) (h : lexL oeE (l[i]).1 (m[k]).1 = 0) : putF (l.drop i) (m.drop k) = m[k] :: putF (l.drop (i + 1)) (m.drop (k + 1)) := by
  rw [drop_consF hi, drop_consF hk, putF, if_neg (by omega), if_pos h]
theorem putF_gt {l m : List Lf} {i k : Nat} (hi : i < l.length) (hk : k < m.length) (h : ¬ lexL oeE (l[i]).1 (m[k]).1 < 0) (h0 : ¬ lexL oeE (l[i]).1 (m[k]).1 = 0) : putF (l.drop i) (m.drop k) = m[k] :: putF (l.drop i) (m.drop (k + 1)) := by
  rw [drop_consF hi, drop_consF hk, putF, if_neg h, if_neg h0, ← drop_consF hi]
theorem putF_l {l m : List Lf} {i k : Nat} (hi : i < l.length) (hk : ¬ k < m.length) : putF (l.drop i) (m.drop k) = l[i] :: putF (l.drop (i + 1)) (m.drop k) := by
  rw [show m.drop k = [] from List.drop_eq_nil_of_le (by omega), putF_nil2, putF_nil2, drop_consF hi]
theorem putF_m {l m : List Lf} {i k : Nat} (hi : ¬ i < l.length) (hk : k < m.length) : putF (l.drop i) (m.drop k) = m[k] :: putF (l.drop i) (m.drop (k + 1)) := by
  rw [show l.drop i = [] from List.drop_eq_nil_of_le (by omega), putF_nil, putF_nil, drop_consF hk]
set_option maxHeartbeats 8000000 in
set_option maxRecDepth 100000 in
theorem rputF_any (l m : List Lf) (S : Nat → Prop) (al : Option Addr) (cl bl ol : Nat) (am : Option Addr) (cm bm om : Nat) (w : World) (hal : Headed al l.length cl bl ol) (hl : liesF w S l bl ol) (ham : Headed am m.length cm bm om) (hm : liesF w S m bm om) (hS : ∀ b, S b → b < w.heap.size) (hwl : wtF l ≤ 2147483647) (hwm : wtF m ≤ 2147483647) (rl : Rl l) (rm : Rl m) :
    Calls Tryz.prog 16 #[.slice al l.length cl, .slice am m.length cm] w (TfPost (putF l m) S w) := by
  have HL := hmk hl
  have HM := hmk hm
  have hlm := wtF_len l
  have hmm := wtF_len m
  have kb : Hid (∀ W, Below w.heap.size w W → (∀ b, S b → W.heap[b]? = w.heap[b]?) ∧ (∀ b, S b → b < W.heap.size)) := fun W hb => ⟨fun b h => hb.block b (hS b h), fun b h => Nat.lt_of_lt_of_le (hS b h) hb.size⟩
  have RL := hmk rl
  have RM := hmk rm
  clear hl hm rl rm
  go_enter Tryz.func16, Tryz.ntmps16
  go_wp2_with fail
  go_loopw [5, 6, 7] (fun e5 e6 e7 wr => ∃ (i k : Nat) (out : List Lf), i ≤ l.length ∧ k ≤ m.length ∧ out.length ≤ i + k ∧ e6 = .int .i64 (i : Int) ∧ e7 = .int .i64 (k : Int) ∧ OutF w S out e5 wr ∧ Hid (putF l m = out ++ putF (l.drop i) (m.drop k))) (fun _ e6 e7 _ => l.length + m.length - (RowKit.intOf e6).toNat - (RowKit.intOf e7).toNat)
  case atStart => exact ⟨0, 0, [], by omega, by omega, by simp, rfl, rfl, OutF.nil _ _, by show _ = _; simp⟩
  case round =>
    obtain ⟨i, k, out, hi, hk, hout, rfl, rfl, oj, HF⟩ := hrel
    have zw := oj.b.size
    by_cases xlt : i < l.length
    · have y1 : (i : Int) < l.length := by omega
      obtain ⟨xSb, xcs, xrow, xv, xis, rfl, ⟨xap, xcp, xbp, xop, rfl, xhh, xlp⟩, xhv⟩ := HL.out i xlt
      obtain rfl : al = some ⟨bl, ol, none⟩ := hal.at_.resolve_left (by omega)
      have xLF0 : Hid (Lf.lies w S l[i] (.slice xap (l[i]).1.length xcp :: xis)) := ⟨_, _, rfl, ⟨xap, xcp, xbp, xop, rfl, xhh, xlp⟩, xhv⟩
      obtain ⟨xvk, xvb, xvi, xvs, xval, xvnl, xvcl, xvam, xvnm, xvcm, rfl⟩ := V.ten xhv
      have xROW := hmk xrow
      have xLP := hmk xlp
      clear xrow xlp xhv
      obtain ⟨q, q0, q1, q2, q3, q4, q5⟩ := row7 (xROW.out.keep ((kb.out wr oj.b).1 _ xSb))
      by_cases ylt : k < m.length
      · have y2 : (k : Int) < m.length := by omega
        have y3 : ((k : Int) == (m.length : Int)) = false := by rw [beq_eq_false_iff_ne]; omega
        obtain ⟨ySb, ycs, yrow, yv, yis, rfl, ⟨yap, ycp, ybp, yop, rfl, yhh, ylp⟩, yhv⟩ := HM.out k ylt
        obtain rfl : am = some ⟨bm, om, none⟩ := ham.at_.resolve_left (by omega)
        have yLF0 : Hid (Lf.lies w S m[k] (.slice yap (m[k]).1.length ycp :: yis)) := ⟨_, _, rfl, ⟨yap, ycp, ybp, yop, rfl, yhh, ylp⟩, yhv⟩
        obtain ⟨yvk, yvb, yvi, yvs, yval, yvnl, yvcl, yvam, yvnm, yvcm, rfl⟩ := V.ten yhv
        have yROW := hmk yrow
        have yLP := hmk ylp
        clear yrow ylp yhv
        obtain ⟨r, r0, r1, r2, r3, r4, r5⟩ := row7 (yROW.out.keep ((kb.out wr oj.b).1 _ ySb))
        have hwx := (Lf.wt_path (List.getElem_mem xlt)).1
        have hwy := (Lf.wt_path (List.getElem_mem ylt)).1
        have CC : Hid (∀ W, Below w.heap.size w W → Calls Tryz.prog 28 #[.slice xap (l[i]).1.length xcp, .slice yap (m[k]).1.length ycp] W (JPost (lexL oeE (l[i]).1 (m[k]).1) W)) := fun W hb => by
          have h := rcmpP_any (l[i]).1 (m[k]).1 S S xap xcp xbp xop yap ycp ybp yop W xhh (liesP_keep (kb.out W hb).1 (fun _ h => h) xLP.out) yhh (liesP_keep (kb.out W hb).1 (fun _ h => h) yLP.out) (kb.out W hb).2 (kb.out W hb).2 (by omega) (by omega)
          rw [cmpP_oe (RL.out.ok i xlt) (RM.out.ok k ylt)] at h
          exact h
        have CS : Hid (∀ W, Below w.heap.size w W → ∀ x : Sub W.heap.size W, Calls Tryz.prog 28 #[.slice xap (l[i]).1.length xcp, .slice yap (m[k]).1.length ycp] x.w fun e w'' => e = .returned (.int .i64 (lexL oeE (l[i]).1 (m[k]).1)) ∧ ∃ y : Sub W.heap.size W, w'' = y.w) := fun W hW =>
          sub_call fun w' hb => (CC.out w' (hW.trans (hb.mono hW.size))).mono fun e w'' ⟨he, h2⟩ => ⟨he, hb.trans (h2.mono hb.size)⟩
        have CW := hmk (CS.out wr oj.b)
        have xq : ∀ x : Sub wr.heap.size wr, _ := sub_cell q ((kb.out wr oj.b).2 _ xSb)
        have xr : ∀ x : Sub wr.heap.size wr, _ := sub_cell r ((kb.out wr oj.b).2 _ ySb)
        have HOJ := hmk oj
        have HLT := hmk (putF_lt xlt ylt)
        have HEQ := hmk (putF_eq xlt ylt)
        have HGT := hmk (putF_gt xlt ylt)
        generalize lexL oeE (l[i]).1 (m[k]).1 = cc at *
        clear q q0 q1 q2 q3 q4 q5 r r0 r1 r2 r3 r4 r5 oj
        by_cases hlt : cc < 0
        · have HF2 : Hid (putF l m = (out ++ [l[i]]) ++ putF (l.drop (i + 1)) (m.drop k)) := by show _ = _; rw [HF.out, HLT.out hlt]; simp
          go_wp2_with fail
          refine wp_region_sub wr.heap.size (by kernel_rfl) (by kernel_rfl) ?_
          repeat (go_big_quiet_step (first | exact CW.out _))
          refine wpQuiet_nil ?_
          rintro w2 ⟨⟨wq', bq⟩, hq⟩
          have hq' : w2 = wq' := hq
          subst hq'
          clear hq
          have o2 := HOJ.out.below bq
          obtain ⟨q, q0, q1, q2, q3, q4, q5⟩ := row7 (xROW.out.keep ((kb.out w2 o2.b).1 _ xSb))
          have HLF : Hid (Lf.lies w2 S l[i] [.slice xap (l[i]).1.length xcp, .int .i64 xvk, .bool xvb, .int .i64 xvi, .string xvs, .slice xval xvnl xvcl, .slice xvam xvnm xvcm]) := Lf.keep (kb.out w2 o2.b).1 (fun _ h => h) xLF0.out
          clear CW xq xr bq HOJ
          go_wp2_with (at_builtin; go_loud (refine wpl_outF rfl (.tmp 42) (.tmp 47) rfl _ rfl o2 hS HLF.out (fun b h => .inl h) 1 rfl (by omega) ?_))
          intro g5 cap w5 o5
          clear o2 HLF q q0 q1 q2 q3 q4 q5
          go_wp2_with fail
          go_roundw
          case rel => exact ⟨i + 1, k, out ++ [l[i]], by omega, by omega, by simp; omega, by go_num, rfl, o5, HF2⟩
          case measure => simp [RowKit.intOf]; omega
        have CS2 := CS
        by_cases h0 : cc = 0
        · have y0 : (cc == 0) = true := by rw [beq_iff_eq]; exact h0
          have HF2 : Hid (putF l m = (out ++ [m[k]]) ++ putF (l.drop (i + 1)) (m.drop (k + 1))) := by show _ = _; rw [HF.out, HEQ.out h0]; simp
          clear h0
          go_wp2_with fail
          refine wp_region_sub wr.heap.size (by kernel_rfl) (by kernel_rfl) ?_
          repeat (go_big_quiet_step (first | exact CW.out _))
          refine wpQuiet_nil ?_
          rintro w2 ⟨⟨wq', bq⟩, hq⟩
          have hq' : w2 = wq' := hq
          subst hq'
          clear hq
          have o2 := HOJ.out.below bq
          clear CW xq xr bq HOJ
          obtain ⟨q, q0, q1, q2, q3, q4, q5⟩ := row7 (xROW.out.keep ((kb.out w2 o2.b).1 _ xSb))
          obtain ⟨r, r0, r1, r2, r3, r4, r5⟩ := row7 (yROW.out.keep ((kb.out w2 o2.b).1 _ ySb))
          have CW := hmk (CS2.out w2 o2.b)
          have xq : ∀ x : Sub w2.heap.size w2, _ := sub_cell q ((kb.out w2 o2.b).2 _ xSb)
          have xr : ∀ x : Sub w2.heap.size w2, _ := sub_cell r ((kb.out w2 o2.b).2 _ ySb)
          have HO2 := hmk o2
          clear q q0 q1 q2 q3 q4 q5 r r0 r1 r2 r3 r4 r5 o2
          go_wp2_with fail
          refine wp_region_sub w2.heap.size (by kernel_rfl) (by kernel_rfl) ?_
          repeat (go_big_quiet_step (first | exact CW.out _))
          refine wpQuiet_nil ?_
          rintro w3 ⟨⟨wq', bq⟩, hq⟩
          have hq' : w3 = wq' := hq
          subst hq'
          clear hq
          have o3 := HO2.out.below bq
          clear CW xq xr bq HO2
          obtain ⟨r, r0, r1, r2, r3, r4, r5⟩ := row7 (yROW.out.keep ((kb.out w3 o3.b).1 _ ySb))
          have HLF : Hid (Lf.lies w3 S m[k] [.slice yap (m[k]).1.length ycp, .int .i64 yvk, .bool yvb, .int .i64 yvi, .string yvs, .slice yval yvnl yvcl, .slice yvam yvnm yvcm]) := Lf.keep (kb.out w3 o3.b).1 (fun _ h => h) yLF0.out
          go_wp2_with (at_builtin; go_loud (refine wpl_outF rfl (.tmp 71) (.tmp 76) rfl _ rfl o3 hS HLF.out (fun b h => .inl h) 1 rfl (by omega) ?_))
          intro g5 cap w5 o5
          clear o3 HLF r r0 r1 r2 r3 r4 r5
          go_wp2_with fail
          go_roundw
          case rel => exact ⟨i + 1, k + 1, out ++ [m[k]], by omega, by omega, by simp; omega, by go_num, by go_num, o5, HF2⟩
          case measure => simp [RowKit.intOf]; omega
        · have y0 : (cc == 0) = false := by rw [beq_eq_false_iff_ne]; exact h0
          have HF2 : Hid (putF l m = (out ++ [m[k]]) ++ putF (l.drop i) (m.drop (k + 1))) := by show _ = _; rw [HF.out, HGT.out hlt h0]; simp
          clear h0
          go_wp2_with fail
          refine wp_region_sub wr.heap.size (by kernel_rfl) (by kernel_rfl) ?_
          repeat (go_big_quiet_step (first | exact CW.out _))
          refine wpQuiet_nil ?_
          rintro w2 ⟨⟨wq', bq⟩, hq⟩
          have hq' : w2 = wq' := hq
          subst hq'
          clear hq
          have o2 := HOJ.out.below bq
          clear CW xq xr bq HOJ
          obtain ⟨q, q0, q1, q2, q3, q4, q5⟩ := row7 (xROW.out.keep ((kb.out w2 o2.b).1 _ xSb))
          obtain ⟨r, r0, r1, r2, r3, r4, r5⟩ := row7 (yROW.out.keep ((kb.out w2 o2.b).1 _ ySb))
          have CW := hmk (CS2.out w2 o2.b)
          have xq : ∀ x : Sub w2.heap.size w2, _ := sub_cell q ((kb.out w2 o2.b).2 _ xSb)
          have xr : ∀ x : Sub w2.heap.size w2, _ := sub_cell r ((kb.out w2 o2.b).2 _ ySb)
          have HO2 := hmk o2
          clear q q0 q1 q2 q3 q4 q5 r r0 r1 r2 r3 r4 r5 o2
          go_wp2_with fail
          refine wp_region_sub w2.heap.size (by kernel_rfl) (by kernel_rfl) ?_
          repeat (go_big_quiet_step (first | exact CW.out _))
          refine wpQuiet_nil ?_
          rintro w3 ⟨⟨wq', bq⟩, hq⟩
          have hq' : w3 = wq' := hq
          subst hq'
          clear hq
          have o3 := HO2.out.below bq
          clear CW xq xr bq HO2
          obtain ⟨r, r0, r1, r2, r3, r4, r5⟩ := row7 (yROW.out.keep ((kb.out w3 o3.b).1 _ ySb))
          have HLF : Hid (Lf.lies w3 S m[k] [.slice yap (m[k]).1.length ycp, .int .i64 yvk, .bool yvb, .int .i64 yvi, .string yvs, .slice yval yvnl yvcl, .slice yvam yvnm yvcm]) := Lf.keep (kb.out w3 o3.b).1 (fun _ h => h) yLF0.out
          go_wp2_with (at_builtin; go_loud (refine wpl_outF rfl (.tmp 71) (.tmp 76) rfl _ rfl o3 hS HLF.out (fun b h => .inl h) 1 rfl (by omega) ?_))
          intro g5 cap w5 o5
          clear o3 HLF r r0 r1 r2 r3 r4 r5
          go_wp2_with fail
          go_roundw
          case rel => exact ⟨i, k + 1, out ++ [m[k]], by omega, by omega, by simp; omega, rfl, by go_num, o5, HF2⟩
          case measure => simp [RowKit.intOf]; omega
      · have y3 : ((k : Int) == (m.length : Int)) = true := by rw [beq_iff_eq]; omega
        have HF2 : Hid (putF l m = (out ++ [l[i]]) ++ putF (l.drop (i + 1)) (m.drop k)) := by show _ = _; rw [HF.out, putF_l xlt ylt]; simp
        have HOJ := hmk oj
        clear q q0 q1 q2 q3 q4 q5 oj
        go_wp2_with fail
        refine wp_region_sub wr.heap.size (by kernel_rfl) (by kernel_rfl) ?_
        repeat (go_big_quiet_step (first | fail))
        refine wpQuiet_nil ?_
        rintro w2 ⟨⟨wq', bq⟩, hq⟩
        have hq' : w2 = wq' := hq
        subst hq'
        clear hq
        have o2 := HOJ.out.below bq
        obtain ⟨q, q0, q1, q2, q3, q4, q5⟩ := row7 (xROW.out.keep ((kb.out w2 o2.b).1 _ xSb))
        have HLF : Hid (Lf.lies w2 S l[i] [.slice xap (l[i]).1.length xcp, .int .i64 xvk, .bool xvb, .int .i64 xvi, .string xvs, .slice xval xvnl xvcl, .slice xvam xvnm xvcm]) := Lf.keep (kb.out w2 o2.b).1 (fun _ h => h) xLF0.out
        clear bq HOJ
        go_wp2_with (at_builtin; go_loud (refine wpl_outF rfl (.tmp 42) (.tmp 47) rfl _ rfl o2 hS HLF.out (fun b h => .inl h) 1 rfl (by omega) ?_))
        intro g5 cap w5 o5
        clear o2 HLF q q0 q1 q2 q3 q4 q5
        go_wp2_with fail
        go_roundw
        case rel => exact ⟨i + 1, k, out ++ [l[i]], by omega, by omega, by simp; omega, by go_num, rfl, o5, HF2⟩
        case measure => simp [RowKit.intOf]; omega
    · have y1 : ¬ (i : Int) < l.length := by omega
      by_cases ylt : k < m.length
      · have y2 : (k : Int) < m.length := by omega
        have y3 : ((k : Int) == (m.length : Int)) = false := by rw [beq_eq_false_iff_ne]; omega
        obtain ⟨ySb, ycs, yrow, yv, yis, rfl, ⟨yap, ycp, ybp, yop, rfl, yhh, ylp⟩, yhv⟩ := HM.out k ylt
        obtain rfl : am = some ⟨bm, om, none⟩ := ham.at_.resolve_left (by omega)
        have yLF0 : Hid (Lf.lies w S m[k] (.slice yap (m[k]).1.length ycp :: yis)) := ⟨_, _, rfl, ⟨yap, ycp, ybp, yop, rfl, yhh, ylp⟩, yhv⟩
        obtain ⟨yvk, yvb, yvi, yvs, yval, yvnl, yvcl, yvam, yvnm, yvcm, rfl⟩ := V.ten yhv
        have yROW := hmk yrow
        have yLP := hmk ylp
        clear yrow ylp yhv
        have HF2 : Hid (putF l m = (out ++ [m[k]]) ++ putF (l.drop i) (m.drop (k + 1))) := by show _ = _; rw [HF.out, putF_m xlt ylt]; simp
        have HOJ := hmk oj
        clear oj
        go_wp2_with fail
        refine wp_region_sub wr.heap.size (by kernel_rfl) (by kernel_rfl) ?_
        repeat (go_big_quiet_step (first | fail))
        refine wpQuiet_nil ?_
        rintro w2 ⟨⟨wq', bq⟩, hq⟩
        have hq' : w2 = wq' := hq
        subst hq'
        clear hq
        have HO2 := hmk (HOJ.out.below bq)
        clear bq HOJ
        go_wp2_with fail
        refine wp_region_sub w2.heap.size (by kernel_rfl) (by kernel_rfl) ?_
        repeat (go_big_quiet_step (first | fail))
        refine wpQuiet_nil ?_
        rintro w3 ⟨⟨wq', bq⟩, hq⟩
        have hq' : w3 = wq' := hq
        subst hq'
        clear hq
        have o3 := HO2.out.below bq
        obtain ⟨r, r0, r1, r2, r3, r4, r5⟩ := row7 (yROW.out.keep ((kb.out w3 o3.b).1 _ ySb))
        have HLF : Hid (Lf.lies w3 S m[k] [.slice yap (m[k]).1.length ycp, .int .i64 yvk, .bool yvb, .int .i64 yvi, .string yvs, .slice yval yvnl yvcl, .slice yvam yvnm yvcm]) := Lf.keep (kb.out w3 o3.b).1 (fun _ h => h) yLF0.out
        clear bq HO2
        go_wp2_with (at_builtin; go_loud (refine wpl_outF rfl (.tmp 71) (.tmp 76) rfl _ rfl o3 hS HLF.out (fun b h => .inl h) 1 rfl (by omega) ?_))
        intro g5 cap w5 o5
        clear o3 HLF r r0 r1 r2 r3 r4 r5
        go_wp2_with fail
        go_roundw
        case rel => exact ⟨i, k + 1, out ++ [m[k]], by omega, by omega, by simp; omega, rfl, by go_num, o5, HF2⟩
        case measure => simp [RowKit.intOf]; omega
      · have y2 : ¬ (k : Int) < m.length := by omega
        have HF2 : Hid (putF l m = out) := by show _ = _; rw [HF.out, List.drop_eq_nil_of_le (by omega), List.drop_eq_nil_of_le (by omega), putF_nil]; simp
        obtain ⟨a, c, b, o, rfl, hd, hls⟩ := oj.list
        have HB := hmk oj.b
        have HLS := hmk hls
        clear oj hls
        go_wp2_with fail
        go_ret
        rw [HF2.out]
        exact ⟨a, c, b, o, rfl, hd, HLS.out, HB.out⟩
end Go.Proofs.YtfekgeaopchilaaGreatDoor
