import Derived.Test.YtolekldjbbjmjaaGreatDoorDocE
/- SelectorReads: the document's Parse. -/
set_option linter.unusedSimpArgs false
set_option linter.unusedVariables false
namespace Go.Proofs.YtolekldjbbjmjaaGreatDoor
open Go.RowKit Go.Lib
theorem OwnF_dp {w W : World} {base g : Nat} {S : Nat → Prop} {u : Value} {l : List Trm} (h : OwnF w base S u l) (gr : w.grownBy W (some g)) (hg : g < base) : OwnF W base S u l := OwnF_rd h gr hg
set_option maxHeartbeats 8000000 in
set_option maxRecDepth 100000 in
theorem rparse_any (s : ByteArray) (w : World) (hs : s.size ≤ 140737488355328) : Calls Tryz.prog 19 #[.string s] w (PaPost (parF s.data.toList) w) := by
  have hll : s.data.toList.length = s.size := by simp
  by_cases hbig : 1048576 < s.size
  · have HX : Hid (parF s.data.toList = (none, 1048576)) := by show _ = _; unfold parF; rw [hll, if_pos hbig]
    have y : (s.size : Int) > 1048576 := by omega
    generalize parF s.data.toList = RES at *
    clear hbig hll
    go_enter Tryz.func19, Tryz.ntmps19
    go_wp2_with fail
    go_ret3
    exact .inr ⟨by rw [HX.out], by rw [HX.out]; rfl, Below.refl _ _⟩
  · have HX : Hid (parF s.data.toList = tersF s.data.toList) := by show _ = _; unfold parF; rw [hll, if_neg hbig]
    have y : ¬ (s.size : Int) > 1048576 := by omega
    obtain ⟨w0, hw0⟩ : ∃ w0, w.alloc (.cells #[.string s, .int .i64 0, .int .i64 (-1)] 86) = w0 := ⟨_, rfl⟩
    have b1 : Below w.heap.size w w0 := by rw [← hw0]; exact (Below.refl _ _).alloc (Nat.le_refl _) _
    have D0 : DB w.heap.size s 0 (-1) w0 := by rw [← hw0]; exact heap_alloc_new w _
    have hsz : w0.heap.size = w.heap.size + 1 := by rw [← hw0, alloc_size]
    obtain ⟨g, hg⟩ : ∃ g, w.heap.size = g := ⟨_, rfl⟩
    have HKB : Hid (∀ W k bad, DP g s w0 W k bad → Below w.heap.size w W) := fun W k bad r =>
      b1.trans ((Below.refl w.heap.size _).grown r.gr (by omega) (fun y hy => by cases hy; exact Nat.le_of_eq hg))
    rw [hg] at D0
    have hlt : g < w0.heap.size := by omega
    have HBS0 : Hid (w.heap.size ≤ w0.heap.size) := by show _ ≤ _; omega
    have R0 := DP.refl D0 (Nat.zero_le _)
    have CB : Hid (∀ W k, DP g s w0 W k (-1) → Calls Tryz.prog 37 #[.pointer (some ⟨g, 0, none⟩)] W (fun e w' => e = .returned (.tuple #[]) ∧ DP g s W w' (skp s.data.toList k) (-1))) := fun W k r => blanks_any g s k W r.db r.le (by omega)
    have CM : Hid (∀ W k, DP g s w0 W k (-1) → Calls Tryz.prog 39 #[.pointer (some ⟨g, 0, none⟩), .string ⟨#[44]⟩] W (fun e w' => e = .returned (.bool (tkB s.data.toList k [44])) ∧ DP g s W w' k (-1))) := fun W k r => sees_any g s ⟨#[44]⟩ k W r.db r.le (by omega) (by decide) (by decide)
    have CT : Hid (∀ W k, DP g s w0 W k (-1) → Calls Tryz.prog 38 #[.pointer (some ⟨g, 0, none⟩)] W (DtPost (termF s.data.toList (skp s.data.toList k)) g s W)) := fun W k r => dterm_any g s k W r.db r.le (by omega)
    have hss := hmk (skp_skp s 0 (Nat.zero_le _))
    have HM : Hid (parF s.data.toList = if skp s.data.toList 0 = s.size then (some [], skp s.data.toList 0) else terF (s.size + 1) s.data.toList (skp s.data.toList 0) []) := by show _ = _; rw [HX.out]; unfold tersF; rw [hll]
    generalize parF s.data.toList = RES at *
    clear HX hbig b1 D0 hsz
    go_enter Tryz.func19, Tryz.ntmps19
    go_wp2_with fail
    refine (CB.out _ _ R0).mono ?_
    rintro e w1 ⟨rfl, r1⟩
    have r1 := R0.trans r1
    have hk0 := r1.le
    have c1 := r1.db.c1
    clear R0 hw0
    by_cases he : skp s.data.toList 0 = s.size
    · have HY : Hid (RES = (some [], skp s.data.toList 0)) := by show _ = _; rw [HM.out, if_pos he]
      have HB1 := hmk (HKB.out _ _ _ r1)
      rw [he] at c1
      clear HM he r1
      go_wp2_with fail
      go_ret3
      exact .inl ⟨[], _, fun _ => False, by rw [HY.out], rfl, OwnR.nil _ _, by simp, HB1.out⟩
    · have HY : Hid (RES = terF (s.size + 1) s.data.toList (skp s.data.toList (skp s.data.toList 0)) []) := by show _ = _; rw [HM.out, if_neg he, hss.out]
      have y0 : ((skp s.data.toList 0 : Nat) : Int) ≠ (s.size : Int) := by omega
      have y0b : (((skp s.data.toList 0 : Nat) : Int) == (s.size : Int)) = false := by rw [beq_eq_false_iff_ne]; exact y0
      clear HM hss
      generalize skp s.data.toList 0 = k0 at *
      go_wp2_with fail
      clear y0 y0b c1 he
      go_loopw [6] (fun e6 wr => ∃ (f p : Nat) (acc : List Trm) (S : Nat → Prop), s.size < f + p ∧ DP g s w0 wr p (-1) ∧ acc.length ≤ p ∧ Hid (RES = terF f s.data.toList (skp s.data.toList p) acc) ∧ Hid (OwnF wr w0.heap.size S e6 acc)) (fun _ wr => s.size - at_ g wr)
      case atStart => exact ⟨s.size + 1, k0, [], _, by omega, r1, by simp, HY.out, OwnR.nil _ _⟩
      case round =>
        obtain ⟨f, p, acc, S, hf, R, hac, HR, HO⟩ := hrel
        have hple := R.le
        obtain ⟨f, rfl⟩ : ∃ f', f = f' + 1 := ⟨f - 1, by omega⟩
        have hkat := hmk R.db.at_
        have hzr := R.gr.size
        have hskp := skp_ge s.data.toList p
        clear r1 HY
        go_wp2_with fail
        refine (CT.out _ _ R).mono ?_
        rintro e w3 (⟨key, op, vs, a, c, b, o, h1, rfl, h3, h4, h5, h6, h7, r3⟩ | ⟨h1, key, op, a, n, c, rfl, k2, r3⟩)
        case inr =>
          have HX2 : Hid (RES = (none, (termF s.data.toList (skp s.data.toList p)).2)) := by show _ = _; rw [HR.out, terF_no h1]
          have R3 := R.trans r3
          clear h1 r3
          generalize (termF s.data.toList (skp s.data.toList p)).2 = z at *
          obtain ⟨wb, hwb⟩ : ∃ wb, w3.alloc (.cells #[.string key, .int .i64 op, .slice a n c] 35) = wb := ⟨_, rfl⟩
          have RB := R3.below (w2 := wb) (by rw [← hwb]; exact (Below.refl _ _).alloc (Nat.le_refl _) _)
          have c2 := RB.db.c2
          have yz : (z : Int) ≥ 0 := by omega
          have HB2 := hmk (HKB.out _ _ _ RB)
          clear R3 RB
          go_wp2_with fail
          go_quiet (fail)
          go_wp2_with fail
          (try simp only [Exit.inBlock, Exit.then])
          go_ret3
          exact .inr ⟨by rw [HX2.out], by rw [HX2.out]; rfl, below_drewN HB2.out _⟩
        case inl =>
          have H1 := hmk h1
          have R3 := R.trans r3
          have hk1 := term_ge s.data.toList (skp s.data.toList p)
          have HO3 := hmk (OwnF_dp HO.out r3.gr hlt)
          have hult : ∀ r, u6.ownBlock = some r → w0.heap.size ≤ r ∧ r < wr.heap.size := fun r hr => HO.out.lt hr
          clear h1 r3 HO
          generalize hk1e : (termF s.data.toList (skp s.data.toList p)).2 = k1 at *
          have HK1 := hmk hk1e
          clear hk1e
          obtain ⟨wb, hwb⟩ : ∃ wb, w3.alloc (.cells #[.string key, .int .i64 op, .slice a vs.length c] 35) = wb := ⟨_, rfl⟩
          have bB : Below w3.heap.size w3 wb := by rw [← hwb]; exact (Below.refl _ _).alloc (Nat.le_refl _) _
          have hX0 : wb.heap[w3.heap.size]? = some (.cells #[.string key, .int .i64 op, .slice a vs.length c] 35 (0, 0)) := by rw [← hwb]; exact heap_alloc_new _ _
          have d0 : wb.cell? ⟨w3.heap.size, 0, none⟩ = some (.string key) := by rw [cell_of_block hX0]; rfl
          have d1 : wb.cell? ⟨w3.heap.size, 1, none⟩ = some (.int .i64 op) := by rw [cell_of_block hX0]; rfl
          have d2 : wb.cell? ⟨w3.heap.size, 2, none⟩ = some (.slice a vs.length c) := by rw [cell_of_block hX0]; rfl
          have RB := R3.below bB
          have c2 := RB.db.c2
          have HOB := hmk (HO3.out.below keepF bB)
          have HLB : Hid (liesS wb (New wr w3) vs b o) := h5.keep (fun y hy => bB.block y hy.2) (fun _ h => h)
          have HLT : Hid (∀ r, New wr w3 r → r < wb.heap.size) := fun r hr => Nat.lt_of_lt_of_le hr.2 bB.size
          have HSP : Hid (∀ r, New wr w3 r → w0.heap.size ≤ r ∧ some r ≠ u6.ownBlock) := fun r hr => ⟨Nat.le_trans hzr hr.1, fun e => by have := (hult r e.symm).2; have := hr.1; omega⟩
          have HD := hmk h4
          have HIN : Hid (In64 op) := by show In64 op; unfold In64; omega
          have HKS : Hid (key.size ≤ 140737488355328) := by show _ ≤ _; omega
          have HLN : Hid (acc.length ≤ 4294967296) := by show _ ≤ _; omega
          have HBS : Hid (w0.heap.size ≤ wb.heap.size) := Nat.le_trans R3.gr.size bB.size
          have HUL := hmk hult
          clear R3 HO3 h5 h4 bB hX0 hult
          go_wp2_with (at_builtin; go_loud (refine wpl_termL wb rfl (.tmp 34) (.tmp 36) rfl w0.heap.size rfl HOB.out key op HD.out HLB.out HLT.out HIN.out HKS.out HSP.out rfl HLN.out HBS.out ?_))
          intro g1 cap1 w4 o1 gr1 e1
          have R4 : DP g s w0 w4 k1 (-1) := RB.far gr1 (fun r hr => (HUL.out r hr).1) hlt
          have HO4 : Hid (OwnF w4 w0.heap.size (fun y => S y ∨ New wr w3 y) (.slice (some ⟨g1, 0, none⟩) (acc.length + 1) cap1) (acc ++ [(key, op, vs)])) := o1
          have hk1le := R4.le
          have c14 := R4.db.c1
          clear RB HOB HLB d0 d1 d2 hwb o1 gr1 e1 c2
          by_cases he : k1 = s.size
          · have HX2 : Hid (RES = (some (acc ++ [(key, op, vs)]), k1)) := by show _ = _; rw [HR.out, terF_end H1.out (by rw [HK1.out, hll]; exact he), HK1.out]
            have HF : Hid (PaPost RES w (.returned (.tuple #[.slice (some ⟨g1, 0, none⟩) (acc.length + 1) cap1, .int .i64 (-1), .int .i64 0])) w4) := .inl ⟨_, _, _, by rw [HX2.out], rfl, HO4.out.base HBS0.out, by rw [List.length_append]; simp only [List.length_singleton]; omega, HKB.out _ _ _ R4⟩
            rw [he] at c14
            clear HO4 R4
            go_wp2_with fail
            (try simp only [Exit.inBlock, Exit.then])
            go_ret3
            exact HF.out
          · have HNE : Hid ((termF s.data.toList (skp s.data.toList p)).2 ≠ s.data.toList.length) := by show _ ≠ _; rw [HK1.out, hll]; exact he
            have y1 : ((k1 : Int) == (s.size : Int)) = false := by rw [beq_eq_false_iff_ne]; omega
            clear he
            go_wp2_with fail
            refine (CM.out _ _ R4).mono ?_
            rintro e w6 ⟨rfl, r6⟩
            have R6 := R4.trans r6
            have HO6 := hmk (OwnF_dp HO4.out r6.gr hlt)
            have c16 := R6.db.c1
            have f16 := R6.db.fz 1
            clear r6 HO4 R4 c14
            cases hT : tkB s.data.toList k1 [44] with
            | true =>
              have hle1 := tkB_le hT (by decide)
              simp only [List.length_cons, List.length_nil] at hle1
              have HX2 : Hid (RES = terF f s.data.toList (skp s.data.toList (k1 + 1)) (acc ++ [(key, op, vs)])) := by
                show _ = _
                rw [HR.out, terF_next H1.out HNE.out (by rw [HK1.out]; exact hT), HK1.out]
              have R7 := R6.put1 (k1 + 1) ((k1 : Int) + 1) (by omega) (by omega)
              have HO7 := hmk (OwnF_dp HO6.out (grown_set1 w6 g 1 (.int .i64 ((k1 : Int) + 1))) hlt)
              have hat7 := hmk R7.db.at_
              clear hT HO6 R6
              go_wp2_with fail
              go_roundw
              case rel => exact ⟨f, k1 + 1, acc ++ [(key, op, vs)], _, by omega, R7, by rw [List.length_append]; simp only [List.length_singleton]; omega, HX2.out, HO7.out⟩
              case measure => rw [hat7.out, hkat.out]; omega
            | false =>
              have HX2 : Hid (RES = (none, k1)) := by show _ = _; rw [HR.out, terF_stop H1.out HNE.out (by rw [HK1.out]; exact hT), HK1.out]
              have HB2 := hmk (HKB.out _ _ _ R6)
              clear hT HO6 R6
              go_wp2_with fail
              go_quiet (fail)
              go_wp2_with fail
              (try simp only [Exit.inBlock, Exit.then])
              go_ret3
              exact .inr ⟨by rw [HX2.out], by rw [HX2.out]; rfl, below_drewN HB2.out _⟩
end Go.Proofs.YtolekldjbbjmjaaGreatDoor
