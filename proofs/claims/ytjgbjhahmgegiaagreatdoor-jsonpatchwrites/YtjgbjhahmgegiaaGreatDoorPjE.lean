import Derived.Test.YtjgbjhahmgegiaaGreatDoorPjD
/- the program's check of a step. -/
set_option linter.unusedSimpArgs false
set_option linter.unusedVariables false
set_option maxRecDepth 100000
namespace Go.Proofs.YtjgbjhahmgegiaaGreatDoor
open Go.RowKit Go.Lib
set_option maxHeartbeats 8000000 in
theorem pcheck_any (b : Nat) (op pa fr : ByteArray) (v : V) (R : Bool) (S : Nat → Prop) (cs : List Value) (w : World) (hm : OpM w b) (hv : v.lies R w S cs) (hS : ∀ b, S b → b < w.heap.size) (hwt : v.wt ≤ 2147483648) (hop : op.size ≤ maxLen) (hpa : pa.size ≤ 2147483648) (hfr : fr.size ≤ 2147483648) (tp : Tp w) :
    Calls Tryz.prog 25 #[.map (some b), .agg (.string op :: .string pa :: .string fr :: cs).toArray] w (NPost (fltF op pa fr v) w) := by
  obtain ⟨vk, vb, vi, vs, val, vnl, vcl, vam, vnm, vcm, rfl⟩ := V.ten hv
  have HV := hmk hv
  have B0 : Below w.heap.size w (w.alloc (.cells #[.string op, .string pa, .string fr, .int .i64 vk, .bool vb, .int .i64 vi, .string vs, .slice val vnl vcl, .slice vam vnm vcm] 51)) := (Below.refl _ _).alloc (Nat.le_refl _) _
  have z0 := alloc_size w (.cells #[.string op, .string pa, .string fr, .int .i64 vk, .bool vb, .int .i64 vi, .string vs, .slice val vnl vcl, .slice vam vnm vcm] 51)
  have N0 := heap_alloc_new w (.cells #[.string op, .string pa, .string fr, .int .i64 vk, .bool vb, .int .i64 vi, .string vs, .slice val vnl vcl, .slice vam vnm vcm] 51)
  have HK : Hid (∀ W, Below (w.alloc (.cells #[.string op, .string pa, .string fr, .int .i64 vk, .bool vb, .int .i64 vi, .string vs, .slice val vnl vcl, .slice vam vnm vcm] 51)).heap.size (w.alloc (.cells #[.string op, .string pa, .string fr, .int .i64 vk, .bool vb, .int .i64 vi, .string vs, .slice val vnl vcl, .slice vam vnm vcm] 51)) W → W.heap[w.heap.size]? = some (.cells #[.string op, .string pa, .string fr, .int .i64 vk, .bool vb, .int .i64 vi, .string vs, .slice val vnl vcl, .slice vam vnm vcm] 51) ∧ v.lies R W S [.int .i64 vk, .bool vb, .int .i64 vi, .string vs, .slice val vnl vcl, .slice vam vnm vcm] ∧ Tp W ∧ Below w.heap.size w W) := fun W h => by
    have bW := B0.trans (h.mono (by omega))
    exact ⟨(h.block _ (by omega)).trans N0, V.lies_keep (fun h => h) (fun x hx => bW.block x (hS x hx)) (fun _ h => h) _ HV.out, tp.below bW tp.z, bW⟩
  have LK := look_any (hm.below B0) op hop
  have hsf := fun (W : World) (a : Addr) (n : Nat) (m : Mode) => run_store Tryz.prog W a (.func (.func n) #[] #[]) m rfl
  have hsn := fun (W : World) (a : Addr) (m : Mode) => run_store Tryz.prog W a .nilFunc m rfl
  clear hv HV N0 hm tp
  obtain ⟨W0, hW0⟩ : ∃ W0, W0 = w.alloc (.cells #[.string op, .string pa, .string fr, .int .i64 vk, .bool vb, .int .i64 vi, .string vs, .slice val vnl vcl, .slice vam vnm vcm] 51) := ⟨_, rfl⟩
  rw [← hW0] at B0 z0 HK LK
  obtain ⟨N0, _, _, _⟩ := HK.out W0 (Below.refl _ _)
  obtain ⟨bad, HBAD⟩ : ∃ b, Hid (shpB op fr v = b) := ⟨_, rfl⟩
  have a0 := cell_of_block N0 0
  have a1 := cell_of_block N0 1
  have a2 := cell_of_block N0 2
  have a3 := cell_of_block N0 3
  have a4 := cell_of_block N0 4
  have a5 := cell_of_block N0 5
  have a6 := cell_of_block N0 6
  have a7 := cell_of_block N0 7
  have a8 := cell_of_block N0 8
  simp only [List.getElem?_toArray, List.getElem?_cons_zero, List.getElem?_cons_succ] at a0 a1 a2 a3 a4 a5 a6 a7 a8
  clear N0
  cases ho : opOf op with
  | none =>
    have HF : Hid (fltF op pa fr v = 60) := by show _ = _; rw [fltF, if_pos (by rw [shpB, isF, ho]; rfl)]
    rw [ho] at LK
    dsimp only at LK
    have BF : Below w.heap.size w (W0.alloc (.cells #[.bool false, .bool false, .nilFunc] 63)) := B0.alloc (by omega) _
    clear ho
    rw [hW0] at LK a0 a1 a2 a3 a4 a5 a6 a7 a8 BF
    go_enter Tryz.func25, Tryz.ntmps25
    go_wp2_with fail
    go_ret
    exact ⟨by rw [HF.out]; rfl, BF⟩
  | some r =>
    obtain ⟨f, x, n⟩ := r
    have HI : Hid (isF op = true ∧ fromF op = f ∧ valF op = x) := ⟨by rw [isF, ho]; rfl, by rw [fromF, ho], by rw [valF, ho]⟩
    rw [ho] at LK
    dsimp only [opV] at LK
    have b1 : Below W0.heap.size W0 (W0.alloc (.cells #[.bool f, .bool x, .func (.func n) #[] #[]] 63)) := (Below.refl _ _).alloc (Nat.le_refl _) _
    have z1 := alloc_size W0 (.cells #[.bool f, .bool x, .func (.func n) #[] #[]] 63)
    have M1 := heap_alloc_new W0 (.cells #[.bool f, .bool x, .func (.func n) #[] #[]] 63)
    obtain ⟨w1, hw1⟩ : ∃ w1, w1 = W0.alloc (.cells #[.bool f, .bool x, .func (.func n) #[] #[]] 63) := ⟨_, rfl⟩
    rw [← hw1] at b1 z1 M1
    obtain ⟨N1, L1, T1, _⟩ := HK.out w1 b1
    have C4 := hmk (zero_any v R S _ w1 ⟨T1.u, T1.z⟩ L1 (fun x hx => by have := hS x hx; omega) hwt)
    have m0 := cell_of_block M1 0
    have m1 := cell_of_block M1 1
    simp only [List.getElem?_toArray, List.getElem?_cons_zero, List.getElem?_cons_succ] at m0 m1
    rw [z0] at m0 m1
    have d0 := cell_of_block N1 0
    have d1 := cell_of_block N1 1
    have d2 := cell_of_block N1 2
    have d3 := cell_of_block N1 3
    have d4 := cell_of_block N1 4
    have d5 := cell_of_block N1 5
    have d6 := cell_of_block N1 6
    have d7 := cell_of_block N1 7
    have d8 := cell_of_block N1 8
    simp only [List.getElem?_toArray, List.getElem?_cons_zero, List.getElem?_cons_succ] at d0 d1 d2 d3 d4 d5 d6 d7 d8
    clear ho M1 N1 L1 T1
    go_enter Tryz.func25, Tryz.ntmps25
    rw [hW0] at LK a0 a1 a2 a3 a4 a5 a6 a7 a8
    go_upto_region 2 with fail
    rw [← hW0]
    rw [← hw1]
    clear hW0 hw1
    clear LK a0 a1 a2 a3 a4 a5 a6 a7 a8 hsf hsn
    go_cut [40] (fun e40 wx => e40 = .bool bad ∧ Below w1.heap.size w1 wx)
    case first =>
      have HSH : Hid (bad = ((!f && decide (¬ fr.toList = [])) || (!x && !nulB v))) := by show _ = _; rw [← HBAD.out, shpB, HI.out.1, HI.out.2.1, HI.out.2.2]; simp
      by_cases hfe : f = false ∧ ¬ fr.toList = []
      · obtain ⟨rfl, he⟩ := hfe
        have ye : (fr.toList == []) = false := by rw [beq_eq_false_iff_ne]; exact he
        have ye2 : (fr.toList != []) = true := by simp [he]
        have HYE : Hid (bad = true) := by show _ = _; rw [HSH.out]; simp [he]
        clear HSH
        go_wp2_with fail
        go_meet
        exact ⟨congrArg Value.bool HYE.out.symm, Below.refl _ _⟩
      · have HSB : Hid (bad = (!x && !nulB v)) := by
          show _ = _
          rw [HSH.out]
          cases f with
          | true => simp
          | false => simp at hfe; simp [hfe]
        cases x with
        | true =>
          have HYE : Hid (bad = false) := by show _ = _; rw [HSB.out]; rfl
          cases f with
          | true =>
            clear hfe HSH HSB
            go_wp2_with fail
            go_meet
            exact ⟨congrArg Value.bool HYE.out.symm, Below.refl _ _⟩
          | false =>
            have he : fr.toList = [] := by simpa using hfe
            have ye : (fr.toList == []) = true := by rw [beq_iff_eq]; exact he
            have ye2 : (fr.toList != []) = false := by simp [he]
            clear hfe HSH HSB
            go_wp2_with fail
            go_meet
            exact ⟨congrArg Value.bool HYE.out.symm, Below.refl _ _⟩
        | false =>
          have HYE : Hid (bad = !nulB v) := by show _ = _; rw [HSB.out]; rfl
          cases f with
          | true =>
            clear hfe HSH HSB
            go_wp2_with fail
            refine C4.out.mono ?_
            rintro e w4 ⟨rfl, b4⟩
            go_wp2_with fail
            go_meet
            exact ⟨congrArg Value.bool HYE.out.symm, b4⟩
          | false =>
            have he : fr.toList = [] := by simpa using hfe
            have ye : (fr.toList == []) = true := by rw [beq_iff_eq]; exact he
            have ye2 : (fr.toList != []) = false := by simp [he]
            clear hfe HSH HSB
            go_wp2_with fail
            refine C4.out.mono ?_
            rintro e w4 ⟨rfl, b4⟩
            go_wp2_with fail
            go_meet
            exact ⟨congrArg Value.bool HYE.out.symm, b4⟩
    case rest =>
      rename World => w5
      obtain ⟨rfl, b5⟩ := hcut
      have z5 := b5.size
      have D5 := b1.trans (b5.mono (by omega))
      obtain ⟨N5, _, _, B5⟩ := HK.out w5 D5
      clear C4 m0 m1 d0 d1 d2 d3 d4 d5 d6 d7 d8 b5 b1
      cases bad with
      | true =>
        have HF : Hid (fltF op pa fr v = 60) := by show _ = _; rw [fltF, if_pos HBAD.out]
        clear N5
        go_wp2_with fail
        go_ret
        exact ⟨by rw [HF.out]; rfl, B5⟩
      | false =>
        have a0 := cell_of_block N5 0
        have a1 := cell_of_block N5 1
        have a2 := cell_of_block N5 2
        have a3 := cell_of_block N5 3
        have a4 := cell_of_block N5 4
        have a5 := cell_of_block N5 5
        have a6 := cell_of_block N5 6
        have a7 := cell_of_block N5 7
        have a8 := cell_of_block N5 8
        simp only [List.getElem?_toArray, List.getElem?_cons_zero, List.getElem?_cons_succ] at a0 a1 a2 a3 a4 a5 a6 a7 a8
        clear N5
        go_wp2_with fail
        go_loopw [46] (fun e46 wk => ∃ j : Nat, j ≤ 2 ∧ e46 = .int .i64 (j : Int) ∧ Hid ((0 < j → parE pa = 0) ∧ (1 < j → parE fr = 0)) ∧ Below w5.heap.size w5 wk) (fun e _ => 2 - (RowKit.intOf e).toNat)
        case atStart => exact ⟨0, by omega, rfl, ⟨fun h => by omega, fun h => by omega⟩, Below.refl _ _⟩
        case round =>
          obtain ⟨j, hj, rfl, HJ, bj⟩ := hrel
          have zj := bj.size
          have DJ := D5.trans (bj.mono (by omega))
          obtain ⟨NJ, LJ, TJ, BJ⟩ := HK.out wr DJ
          clear a0 a1 a2 a3 a4 a5 a6 a7 a8
          rcases (show j = 0 ∨ j = 1 ∨ j = 2 by omega) with rfl | rfl | rfl
          · have C6 := pparse_any pa wr hpa TJ
            unfold PaPost at C6
            have HPA : Hid ((if (parF pa.data.toList).isSome then 0 else 40 : Int) = ((parE pa : Nat) : Int)) := by show _ = _; rw [parE]; split <;> rfl
            rw [HPA.out] at C6
            have C6H := hmk C6
            obtain ⟨e1, HE1⟩ : ∃ e, Hid (parE pa = e) := ⟨_, rfl⟩
            rw [HE1.out] at C6H
            have hix : ∀ W, (Instr.index 74 (.agg #[.string pa, .string fr]) (.int .i64 0)).run Tryz.prog W = .ok (.string pa) W := fun W => by rfl
            clear C6 NJ LJ TJ
            go_wp2_with fail
            refine C6H.out.mono ?_
            rintro e w6 ⟨x6, l6, rfl, _, _, b6⟩
            have z6 := b6.size
            clear C6H
            by_cases h1 : e1 = 0
            · subst h1
              go_wp2_with fail
              go_roundw
              case rel => exact ⟨1, by omega, by go_num, ⟨fun _ => HE1.out, fun h => by omega⟩, bj.trans (b6.mono (by omega))⟩
              case measure => simp [RowKit.intOf]
            · have y1 : ((e1 : Int) != 0) = true := by rw [bne_iff_ne]; omega
              have HF : Hid (fltF op pa fr v = e1) := by show _ = _; rw [fltF, if_neg (by rw [HBAD.out]; simp), if_pos (by rw [HE1.out]; exact h1)]; exact HE1.out
              have BF := (HK.out w6 (DJ.trans (b6.mono (by omega)))).2.2.2
              go_wp2_with fail
              go_ret
              exact ⟨by rw [HF.out]; rfl, BF⟩
          · have C6 := pparse_any fr wr hfr TJ
            unfold PaPost at C6
            have HPA : Hid ((if (parF fr.data.toList).isSome then 0 else 40 : Int) = ((parE fr : Nat) : Int)) := by show _ = _; rw [parE]; split <;> rfl
            rw [HPA.out] at C6
            have C6H := hmk C6
            obtain ⟨e1, HE1⟩ : ∃ e, Hid (parE fr = e) := ⟨_, rfl⟩
            rw [HE1.out] at C6H
            have hix : ∀ W, (Instr.index 74 (.agg #[.string pa, .string fr]) (.int .i64 1)).run Tryz.prog W = .ok (.string fr) W := fun W => by rfl
            clear C6 NJ LJ TJ
            go_wp2_with fail
            refine C6H.out.mono ?_
            rintro e w6 ⟨x6, l6, rfl, _, _, b6⟩
            have z6 := b6.size
            clear C6H
            by_cases h1 : e1 = 0
            · subst h1
              go_wp2_with fail
              go_roundw
              case rel => exact ⟨2, by omega, by go_num, ⟨fun _ => HJ.out.1 (by omega), fun _ => HE1.out⟩, bj.trans (b6.mono (by omega))⟩
              case measure => simp [RowKit.intOf]
            · have y1 : ((e1 : Int) != 0) = true := by rw [bne_iff_ne]; omega
              have HF : Hid (fltF op pa fr v = e1) := by show _ = _; rw [fltF, if_neg (by rw [HBAD.out]; simp), if_neg (by rw [HJ.out.1 (by omega)]; simp), if_pos (by rw [HE1.out]; exact h1)]; exact HE1.out
              have BF := (HK.out w6 (DJ.trans (b6.mono (by omega)))).2.2.2
              go_wp2_with fail
              go_ret
              exact ⟨by rw [HF.out]; rfl, BF⟩
          · have HF : Hid (fltF op pa fr v = chkE v 32) := by show _ = _; rw [fltF, if_neg (by rw [HBAD.out]; simp), if_neg (by rw [HJ.out.1 (by omega)]; simp), if_neg (by rw [HJ.out.2 (by omega)]; simp)]
            have C8 := hmk (check_any R v 32 S _ wr ⟨TJ.u, TJ.z⟩ LJ (fun x hx => by have := hS x hx; omega) (by omega))
            have a0 := cell_of_block NJ 0
            have a1 := cell_of_block NJ 1
            have a2 := cell_of_block NJ 2
            have a3 := cell_of_block NJ 3
            have a4 := cell_of_block NJ 4
            have a5 := cell_of_block NJ 5
            have a6 := cell_of_block NJ 6
            have a7 := cell_of_block NJ 7
            have a8 := cell_of_block NJ 8
            simp only [List.getElem?_toArray, List.getElem?_cons_zero, List.getElem?_cons_succ] at a0 a1 a2 a3 a4 a5 a6 a7 a8
            clear NJ LJ TJ
            go_wp2_with fail
            refine C8.out.mono ?_
            rintro e w8 ⟨rfl, b8⟩
            have BF := (HK.out w8 (DJ.trans (b8.mono (by omega)))).2.2.2
            clear C8 a0 a1 a2 a3 a4 a5 a6 a7 a8
            go_wp2_with fail
            go_ret
            exact ⟨by rw [HF.out]; rfl, BF⟩
end Go.Proofs.YtjgbjhahmgegiaaGreatDoor
