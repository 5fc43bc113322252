import Derived.Test.YtjgbjhahmgegiaaGreatDoorPjH
/- what a value says as a step: the document's read. -/
set_option linter.unusedSimpArgs false
set_option linter.unusedVariables false
set_option maxRecDepth 100000
namespace Go.Proofs.YtjgbjhahmgegiaaGreatDoor
open Go.RowKit Go.Lib
/-- nine cells of a box are set -/
abbrev set9 (w : World) (g : Nat) (c0 c1 c2 c3 c4 c5 c6 c7 c8 : Value) : World :=
  ((((((((w.setCell ⟨g, 0, none⟩ c0).setCell ⟨g, 1, none⟩ c1).setCell ⟨g, 2, none⟩ c2).setCell ⟨g, 3, none⟩ c3).setCell ⟨g, 4, none⟩ c4).setCell ⟨g, 5, none⟩ c5).setCell ⟨g, 6, none⟩ c6).setCell ⟨g, 7, none⟩ c7).setCell ⟨g, 8, none⟩ c8
theorem set9_below {B g : Nat} {a w : World} (h : Below B a w) (hg : B ≤ g) (c0 c1 c2 c3 c4 c5 c6 c7 c8 : Value) : Below B a (set9 w g c0 c1 c2 c3 c4 c5 c6 c7 c8) :=
  ((((((((h.setCell hg _).setCell hg _).setCell hg _).setCell hg _).setCell hg _).setCell hg _).setCell hg _).setCell hg _).setCell hg _
theorem set9_other (w : World) (g : Nat) (c0 c1 c2 c3 c4 c5 c6 c7 c8 : Value) (k : Nat) (h : k ≠ g) : (set9 w g c0 c1 c2 c3 c4 c5 c6 c7 c8).heap[k]? = w.heap[k]? := by
  iterate 9 rw [Below.heap_setCell _ _ _ _ h]
/-- the last six of nine cells are set -/
abbrev set6b (w : World) (g : Nat) (c3 c4 c5 c6 c7 c8 : Value) : World :=
  (((((w.setCell ⟨g, 3, none⟩ c3).setCell ⟨g, 4, none⟩ c4).setCell ⟨g, 5, none⟩ c5).setCell ⟨g, 6, none⟩ c6).setCell ⟨g, 7, none⟩ c7).setCell ⟨g, 8, none⟩ c8
theorem set6_below {B g : Nat} {a w : World} (h : Below B a w) (hg : B ≤ g) (c3 c4 c5 c6 c7 c8 : Value) : Below B a (set6b w g c3 c4 c5 c6 c7 c8) :=
  (((((h.setCell hg _).setCell hg _).setCell hg _).setCell hg _).setCell hg _).setCell hg _
theorem set6_other (w : World) (g : Nat) (c3 c4 c5 c6 c7 c8 : Value) (k : Nat) (h : k ≠ g) : (set6b w g c3 c4 c5 c6 c7 c8).heap[k]? = w.heap[k]? := by
  iterate 6 rw [Below.heap_setCell _ _ _ _ h]
theorem set6_box {w : World} {g : Nat} {d0 d1 d2 d3 d4 d5 d6 d7 d8 : Value} {t : TypeId} (h : w.heap[g]? = some (.cells #[d0, d1, d2, d3, d4, d5, d6, d7, d8] t (0, 0))) (c3 c4 c5 c6 c7 c8 : Value) :
    (set6b w g c3 c4 c5 c6 c7 c8).heap[g]? = some (.cells #[d0, d1, d2, c3, c4, c5, c6, c7, c8] t (0, 0)) := by
  have e3 : (w.setCell ⟨g, 3, none⟩ c3).heap[g]? = some (.cells #[d0, d1, d2, c3, d4, d5, d6, d7, d8] t (0, 0)) := heap_setCell_same w g 3 _ t c3 h
  have e4 : ((w.setCell ⟨g, 3, none⟩ c3).setCell ⟨g, 4, none⟩ c4).heap[g]? = some (.cells #[d0, d1, d2, c3, c4, d5, d6, d7, d8] t (0, 0)) := heap_setCell_same (w.setCell ⟨g, 3, none⟩ c3) g 4 _ t c4 e3
  have e5 : (((w.setCell ⟨g, 3, none⟩ c3).setCell ⟨g, 4, none⟩ c4).setCell ⟨g, 5, none⟩ c5).heap[g]? = some (.cells #[d0, d1, d2, c3, c4, c5, d6, d7, d8] t (0, 0)) := heap_setCell_same ((w.setCell ⟨g, 3, none⟩ c3).setCell ⟨g, 4, none⟩ c4) g 5 _ t c5 e4
  have e6 : ((((w.setCell ⟨g, 3, none⟩ c3).setCell ⟨g, 4, none⟩ c4).setCell ⟨g, 5, none⟩ c5).setCell ⟨g, 6, none⟩ c6).heap[g]? = some (.cells #[d0, d1, d2, c3, c4, c5, c6, d7, d8] t (0, 0)) := heap_setCell_same (((w.setCell ⟨g, 3, none⟩ c3).setCell ⟨g, 4, none⟩ c4).setCell ⟨g, 5, none⟩ c5) g 6 _ t c6 e5
  have e7 : (((((w.setCell ⟨g, 3, none⟩ c3).setCell ⟨g, 4, none⟩ c4).setCell ⟨g, 5, none⟩ c5).setCell ⟨g, 6, none⟩ c6).setCell ⟨g, 7, none⟩ c7).heap[g]? = some (.cells #[d0, d1, d2, c3, c4, c5, c6, c7, d8] t (0, 0)) := heap_setCell_same ((((w.setCell ⟨g, 3, none⟩ c3).setCell ⟨g, 4, none⟩ c4).setCell ⟨g, 5, none⟩ c5).setCell ⟨g, 6, none⟩ c6) g 7 _ t c7 e6
  have e8 : ((((((w.setCell ⟨g, 3, none⟩ c3).setCell ⟨g, 4, none⟩ c4).setCell ⟨g, 5, none⟩ c5).setCell ⟨g, 6, none⟩ c6).setCell ⟨g, 7, none⟩ c7).setCell ⟨g, 8, none⟩ c8).heap[g]? = some (.cells #[d0, d1, d2, c3, c4, c5, c6, c7, c8] t (0, 0)) := heap_setCell_same (((((w.setCell ⟨g, 3, none⟩ c3).setCell ⟨g, 4, none⟩ c4).setCell ⟨g, 5, none⟩ c5).setCell ⟨g, 6, none⟩ c6).setCell ⟨g, 7, none⟩ c7) g 8 _ t c8 e7
  exact e8
theorem null_wt : nullV.wt ≤ 2147483648 := by
  unfold nullV
  simp [V.wt, wtL, wtM]
  decide
/-- what reading a step answers -/
def RdP (p : Nat × Stp) (w : World) (e : Ending) (w' : World) : Prop := ∃ cs : List Value, e = .returned (.tuple #[.agg (.string p.2.1 :: .string p.2.2.1 :: .string p.2.2.2.1 :: cs).toArray, .int .i64 p.1]) ∧ p.2.2.2.2.lies false w' (New w w') cs ∧ Below w.heap.size w w'
set_option maxHeartbeats 8000000 in
theorem rread_any (v : V) (R : Bool) (S : Nat → Prop) (cs : List Value) (w : World) (hv : v.lies R w S cs) (hS : ∀ b, S b → b < w.heap.size) (hwt : v.wt ≤ 2147483648) (hgw : (getV v kVal).1.wt ≤ 2147483648) (hpa : (wrdF v kPath).1.size ≤ 2147483648) (hfr : (wrdF v kFrom).1.size ≤ 2147483648) :
    Calls Tryz.prog 23 #[.agg cs.toArray] w (RdP (rdF v) w) := by
  obtain ⟨vk, vb, vi, vs, val, vnl, vcl, vam, vnm, vcm, rfl⟩ := V.ten hv
  have HKV : Hid (kndOf v = vk) := (lies_fields hv).1
  have HV := hmk hv
  have z0 : ((w.alloc (.cells #[.int .i64 vk, .bool vb, .int .i64 vi, .string vs, .slice val vnl vcl, .slice vam vnm vcm] 25)).alloc (.cells #[.string ⟨#[]⟩, .string ⟨#[]⟩, .string ⟨#[]⟩, .int .i64 0, .bool false, .int .i64 0, .string ⟨#[]⟩, .slice none 0 0, .slice none 0 0] 51)).heap.size = w.heap.size + 2 := by rw [alloc_size, alloc_size]
  have B0 : Below w.heap.size w ((w.alloc (.cells #[.int .i64 vk, .bool vb, .int .i64 vi, .string vs, .slice val vnl vcl, .slice vam vnm vcm] 25)).alloc (.cells #[.string ⟨#[]⟩, .string ⟨#[]⟩, .string ⟨#[]⟩, .int .i64 0, .bool false, .int .i64 0, .string ⟨#[]⟩, .slice none 0 0, .slice none 0 0] 51)) := two_below w _ _
  have h0 := alloc2_keep1 w (.cells #[.int .i64 vk, .bool vb, .int .i64 vi, .string vs, .slice val vnl vcl, .slice vam vnm vcm] 25) (.cells #[.string ⟨#[]⟩, .string ⟨#[]⟩, .string ⟨#[]⟩, .int .i64 0, .bool false, .int .i64 0, .string ⟨#[]⟩, .slice none 0 0, .slice none 0 0] 51)
  have h1 := alloc2_new w (.cells #[.int .i64 vk, .bool vb, .int .i64 vi, .string vs, .slice val vnl vcl, .slice vam vnm vcm] 25) (.cells #[.string ⟨#[]⟩, .string ⟨#[]⟩, .string ⟨#[]⟩, .int .i64 0, .bool false, .int .i64 0, .string ⟨#[]⟩, .slice none 0 0, .slice none 0 0] 51)
  obtain ⟨W0, hW0⟩ : ∃ W0, W0 = (w.alloc (.cells #[.int .i64 vk, .bool vb, .int .i64 vi, .string vs, .slice val vnl vcl, .slice vam vnm vcm] 25)).alloc (.cells #[.string ⟨#[]⟩, .string ⟨#[]⟩, .string ⟨#[]⟩, .int .i64 0, .bool false, .int .i64 0, .string ⟨#[]⟩, .slice none 0 0, .slice none 0 0] 51) := ⟨_, rfl⟩
  rw [← hW0] at z0 B0 h0 h1
  have HK : Hid (∀ W, Below W0.heap.size W0 W → W.heap[w.heap.size]? = some (.cells #[.int .i64 vk, .bool vb, .int .i64 vi, .string vs, .slice val vnl vcl, .slice vam vnm vcm] 25) ∧ W.heap[w.heap.size + 1]? = some (.cells #[.string ⟨#[]⟩, .string ⟨#[]⟩, .string ⟨#[]⟩, .int .i64 0, .bool false, .int .i64 0, .string ⟨#[]⟩, .slice none 0 0, .slice none 0 0] 51) ∧ v.lies R W S [.int .i64 vk, .bool vb, .int .i64 vi, .string vs, .slice val vnl vcl, .slice vam vnm vcm] ∧ Below w.heap.size w W ∧ (∀ b, S b → b < W.heap.size)) := fun W h => by
    have bW := B0.trans (h.mono (by omega))
    exact ⟨(h.block _ (by omega)).trans h0, (h.block _ (by omega)).trans h1, V.lies_keep (fun h => h) (fun x hx => bW.block x (hS x hx)) (fun _ h => h) _ HV.out, bW, fun x hx => by have := hS x hx; have := bW.size; omega⟩
  have HT : Hid (∀ W, Below W0.heap.size W0 W → ∀ key, Calls Tryz.prog 42 #[.agg [.int .i64 vk, .bool vb, .int .i64 vi, .string vs, .slice val vnl vcl, .slice vam vnm vcm].toArray, .string key] W (WrP (wrdF v key) W)) := fun W h key => text_any v key R S _ W (HK.out W h).2.2.1 (HK.out W h).2.2.2.2 hwt
  have HG : Hid (∀ W, Below W0.heap.size W0 W → Calls Tryz.prog 46 #[.agg [.int .i64 vk, .bool vb, .int .i64 vi, .string vs, .slice val vnl vcl, .slice vam vnm vcm].toArray, .string kVal] W (GtPost (getV v kVal) W)) := fun W h => rget_any v kVal R S _ W (HK.out W h).2.2.1 (HK.out W h).2.2.2.2 (by omega)
  have C1 := hmk (HT.out W0 (Below.refl _ _) kOp)
  obtain ⟨N0, _, _, _⟩ := HK.out W0 (Below.refl _ _)
  have a0 := cell_of_block N0 0
  have a1 := cell_of_block N0 1
  have a2 := cell_of_block N0 2
  have a3 := cell_of_block N0 3
  have a4 := cell_of_block N0 4
  have a5 := cell_of_block N0 5
  simp only [List.getElem?_toArray, List.getElem?_cons_zero, List.getElem?_cons_succ] at a0 a1 a2 a3 a4 a5
  clear N0 h0 h1 hv HV
  obtain ⟨bad, HBAD⟩ : ∃ b, Hid (decide ((wrdF v kOp).2 = false ∨ isF (wrdF v kOp).1 = false) = b) := ⟨_, rfl⟩
  obtain ⟨wop, hwop⟩ : ∃ p, wrdF v kOp = p := ⟨_, rfl⟩
  have HWO : Hid (wrdF v kOp = wop) := hwop
  rw [hwop] at C1 HBAD
  obtain ⟨op, opOk⟩ := wop
  dsimp only at HBAD
  clear hwop
  go_enter Tryz.func23, Tryz.ntmps23
  go_wp2_with fail
  (try rw [← hW0])
  refine C1.out.mono ?_
  rintro e w1 ⟨rfl, b1⟩
  have z1 := b1.size
  obtain ⟨N1, M1, L1, BW1, hS1⟩ := HK.out w1 b1
  clear C1 a0 a1 a2 a3 a4 a5 L1 hS1 hW0
  have a0 := cell_of_block N1 0
  simp only [List.getElem?_toArray, List.getElem?_cons_zero, List.getElem?_cons_succ] at a0
  go_upto_region 2 with fail
  go_cut [26] (fun e26 wx => e26 = .bool bad ∧ Below W0.heap.size W0 wx)
  case first =>
    by_cases h5 : vk = 5
    · subst h5
      rcases Bool.eq_false_or_eq_true opOk with rfl | rfl
      · have C2 := hmk (is_any op w1)
        have HB2 : Hid (bad = !isF op) := by show _ = _; rw [← HBAD.out]; cases isF op <;> rfl
        clear N1 M1
        go_wp2_with fail
        refine C2.out.mono ?_
        rintro e w2 ⟨rfl, b2⟩
        have D2 := b1.trans (b2.mono (by omega))
        clear C2
        go_wp2_with fail
        go_meet
        exact ⟨congrArg Value.bool HB2.out.symm, D2⟩
      · have HYE : Hid (bad = true) := by show _ = _; rw [← HBAD.out]; rfl
        clear N1 M1
        go_wp2_with fail
        go_meet
        exact ⟨congrArg Value.bool HYE.out.symm, b1⟩
    · have y5 : (vk != 5) = true := by simp [h5]
      have y5' : (vk == 5) = false := by simp [h5]
      have HYE : Hid (bad = true) := by
        show _ = _
        rw [← HBAD.out]
        have := (rd_doc v).1 (.inl (by rw [HKV.out]; exact h5))
        rw [HWO.out] at this
        exact decide_eq_true this
      clear h5 N1 M1
      go_wp2_with fail
      go_meet
      exact ⟨congrArg Value.bool HYE.out.symm, b1⟩
  case rest =>
    rename World => w2
    obtain ⟨rfl, b2⟩ := hcut
    have z2 := b2.size
    obtain ⟨N2, M2, _, BW2, _⟩ := HK.out w2 b2
    clear a0 N1 M1 BW1 b1
    cases bad with
    | true =>
      have HF : Hid (rdF v = (60, zStp)) := by
        have hq := of_decide_eq_true HBAD.out
        show _ = _
        rw [rdF, HWO.out]
        dsimp only
        by_cases q : opOk = false
        · rw [if_pos q]
        · rw [if_neg q, if_pos (hq.resolve_left q)]
      clear N2
      have r0 : w2.cell? ⟨w.heap.size + 1, 0, none⟩ = some (.string ⟨#[]⟩) := by rw [cell_of_block M2]; rfl
      have r1 : w2.cell? ⟨w.heap.size + 1, 1, none⟩ = some (.string ⟨#[]⟩) := by rw [cell_of_block M2]; rfl
      have r2 : w2.cell? ⟨w.heap.size + 1, 2, none⟩ = some (.string ⟨#[]⟩) := by rw [cell_of_block M2]; rfl
      have r3 : w2.cell? ⟨w.heap.size + 1, 3, none⟩ = some (.int .i64 0) := by rw [cell_of_block M2]; rfl
      have r4 : w2.cell? ⟨w.heap.size + 1, 4, none⟩ = some (.bool false) := by rw [cell_of_block M2]; rfl
      have r5 : w2.cell? ⟨w.heap.size + 1, 5, none⟩ = some (.int .i64 0) := by rw [cell_of_block M2]; rfl
      have r6 : w2.cell? ⟨w.heap.size + 1, 6, none⟩ = some (.string ⟨#[]⟩) := by rw [cell_of_block M2]; rfl
      have r7 : w2.cell? ⟨w.heap.size + 1, 7, none⟩ = some (.slice none 0 0) := by rw [cell_of_block M2]; rfl
      have r8 : w2.cell? ⟨w.heap.size + 1, 8, none⟩ = some (.slice none 0 0) := by rw [cell_of_block M2]; rfl
      have rf : ∀ i, w2.frozen? ⟨w.heap.size + 1, i, none⟩ = false := frozen_of_block M2
      go_wp2_with fail
      (try simp only [Exit.inBlock, Exit.then])
      refine bodyPost_ret (v := .tuple #[.agg #[.string ⟨#[]⟩, .string ⟨#[]⟩, .string ⟨#[]⟩, .int .i64 0, .bool false, .int .i64 0, .string ⟨#[]⟩, .slice none 0 0, .slice none 0 0], .int .i64 60]) ?_ rfl (by rw [HF.out]; exact ⟨[.int .i64 0, .bool false, .int .i64 0, .string ⟨#[]⟩, .slice none 0 0, .slice none 0 0], rfl, null_lies _ _, set9_below BW2 (by omega) _ _ _ _ _ _ _ _ _⟩)
      rw [results_cell_tmp rfl]
      go_simp
    | false =>
      have HOK : Hid (opOk = true ∧ isF op = true) := by
        have hq := of_decide_eq_false HBAD.out
        exact ⟨by cases opOk <;> simp_all, by cases h : isF op <;> simp_all⟩
      have N_w3 := heap_alloc_new w2 (.cells #[.string op, .string ⟨#[]⟩, .string ⟨#[]⟩, .int .i64 0, .bool false, .int .i64 0, .string ⟨#[]⟩, .slice none 0 0, .slice none 0 0] 51)
      have D3 : Below W0.heap.size W0 (w2.alloc (.cells #[.string op, .string ⟨#[]⟩, .string ⟨#[]⟩, .int .i64 0, .bool false, .int .i64 0, .string ⟨#[]⟩, .slice none 0 0, .slice none 0 0] 51)) := b2.alloc (by omega) _
      have z3 := alloc_size w2 (.cells #[.string op, .string ⟨#[]⟩, .string ⟨#[]⟩, .int .i64 0, .bool false, .int .i64 0, .string ⟨#[]⟩, .slice none 0 0, .slice none 0 0] 51)
      obtain ⟨w3, hw3⟩ : ∃ w3, w3 = w2.alloc (.cells #[.string op, .string ⟨#[]⟩, .string ⟨#[]⟩, .int .i64 0, .bool false, .int .i64 0, .string ⟨#[]⟩, .slice none 0 0, .slice none 0 0] 51) := ⟨_, rfl⟩
      rw [← hw3] at N_w3 D3 z3
      obtain ⟨hopk, hisf⟩ := HOK.out
      subst hopk
      go_upto_region 5 with fail
      rw [← hw3]
      obtain ⟨g, hg⟩ : ∃ g, w2.heap.size = g := ⟨_, rfl⟩
      rw [hg] at N_w3 z3 z2 ⊢
      clear hw3 hg b2 N2 M2 BW2
      obtain ⟨⟨pa, paOk⟩, hwpa⟩ : ∃ p, wrdF v kPath = p := ⟨_, rfl⟩
      have HWP := hmk hwpa
      obtain ⟨⟨fr, frOk⟩, hwfr⟩ : ∃ p, wrdF v kFrom = p := ⟨_, rfl⟩
      have HWF := hmk hwfr
      rw [hwpa] at hpa
      rw [hwfr] at hfr
      dsimp only at hpa hfr
      obtain ⟨⟨x, xOk⟩, hgv⟩ : ∃ p, getV v kVal = p := ⟨_, rfl⟩
      have HGV := hmk hgv
      rw [hgv] at hgw
      dsimp only at hgw
      clear hwpa hwfr hgv
      have C4 := hmk (HT.out w3 D3 kPath)
      rw [HWP.out] at C4
      obtain ⟨NV, _, _, _, _⟩ := HK.out w3 D3
      have a0 : w3.cell? ⟨w.heap.size, 0, none⟩ = some (.int .i64 vk) := by rw [cell_of_block NV]; rfl
      have a1 : w3.cell? ⟨w.heap.size, 1, none⟩ = some (.bool vb) := by rw [cell_of_block NV]; rfl
      have a2 : w3.cell? ⟨w.heap.size, 2, none⟩ = some (.int .i64 vi) := by rw [cell_of_block NV]; rfl
      have a3 : w3.cell? ⟨w.heap.size, 3, none⟩ = some (.string vs) := by rw [cell_of_block NV]; rfl
      have a4 : w3.cell? ⟨w.heap.size, 4, none⟩ = some (.slice val vnl vcl) := by rw [cell_of_block NV]; rfl
      have a5 : w3.cell? ⟨w.heap.size, 5, none⟩ = some (.slice vam vnm vcm) := by rw [cell_of_block NV]; rfl
      clear NV
      go_wp2_with fail
      refine C4.out.mono ?_
      rintro e w4 ⟨rfl, b4⟩
      have zz4 := b4.size
      have D4 := D3.trans (b4.mono (by have := D3.size; omega))
      have N4 := (b4.block g (by omega)).trans N_w3
      clear C4 a0 a1 a2 a3 a4 a5
      have q0 : w4.cell? ⟨g, 0, none⟩ = some (.string op) := by rw [cell_of_block N4]; rfl
      have q1 : w4.cell? ⟨g, 1, none⟩ = some (.string ⟨#[]⟩) := by rw [cell_of_block N4]; rfl
      have q2 : w4.cell? ⟨g, 2, none⟩ = some (.string ⟨#[]⟩) := by rw [cell_of_block N4]; rfl
      have q3 : w4.cell? ⟨g, 3, none⟩ = some (.int .i64 0) := by rw [cell_of_block N4]; rfl
      have q4 : w4.cell? ⟨g, 4, none⟩ = some (.bool false) := by rw [cell_of_block N4]; rfl
      have q5 : w4.cell? ⟨g, 5, none⟩ = some (.int .i64 0) := by rw [cell_of_block N4]; rfl
      have q6 : w4.cell? ⟨g, 6, none⟩ = some (.string ⟨#[]⟩) := by rw [cell_of_block N4]; rfl
      have q7 : w4.cell? ⟨g, 7, none⟩ = some (.slice none 0 0) := by rw [cell_of_block N4]; rfl
      have q8 : w4.cell? ⟨g, 8, none⟩ = some (.slice none 0 0) := by rw [cell_of_block N4]; rfl
      have qf : ∀ i, w4.frozen? ⟨g, i, none⟩ = false := frozen_of_block N4
      go_upto_region 6 with fail
      have N_w5 : (w4.setCell ⟨g, 1, none⟩ (.string pa)).heap[g]? = some (.cells #[.string op, .string pa, .string ⟨#[]⟩, .int .i64 0, .bool false, .int .i64 0, .string ⟨#[]⟩, .slice none 0 0, .slice none 0 0] 51 (0, 0)) := heap_setCell_same w4 g 1 _ 51 _ N4
      have D_w5 := D4.setCell (p := ⟨g, 1, none⟩) (show W0.heap.size ≤ g by omega) (.string pa)
      have Z_w5 := ((Below.refl 0 w4).setCell (p := ⟨g, 1, none⟩) (Nat.zero_le _) (.string pa)).size
      generalize w4.setCell ⟨g, 1, none⟩ (.string pa) = w5 at *
      clear q0 q1 q2 q3 q4 q5 q6 q7 q8 qf N4 D4 b4
      rcases Bool.eq_false_or_eq_true paOk with rfl | rfl
      rotate_left
      · obtain ⟨_, MX, _, BX, _⟩ := HK.out w5 D_w5
        have HF : Hid (rdF v = (60, zStp)) := by show _ = _; rw [rdF, HWO.out]; dsimp only; rw [if_neg (by simp), if_neg (by rw [HOK.out.2]; simp), if_pos (by rw [HWP.out])]
        have r0 : w5.cell? ⟨w.heap.size + 1, 0, none⟩ = some (.string ⟨#[]⟩) := by rw [cell_of_block MX]; rfl
        have r1 : w5.cell? ⟨w.heap.size + 1, 1, none⟩ = some (.string ⟨#[]⟩) := by rw [cell_of_block MX]; rfl
        have r2 : w5.cell? ⟨w.heap.size + 1, 2, none⟩ = some (.string ⟨#[]⟩) := by rw [cell_of_block MX]; rfl
        have r3 : w5.cell? ⟨w.heap.size + 1, 3, none⟩ = some (.int .i64 0) := by rw [cell_of_block MX]; rfl
        have r4 : w5.cell? ⟨w.heap.size + 1, 4, none⟩ = some (.bool false) := by rw [cell_of_block MX]; rfl
        have r5 : w5.cell? ⟨w.heap.size + 1, 5, none⟩ = some (.int .i64 0) := by rw [cell_of_block MX]; rfl
        have r6 : w5.cell? ⟨w.heap.size + 1, 6, none⟩ = some (.string ⟨#[]⟩) := by rw [cell_of_block MX]; rfl
        have r7 : w5.cell? ⟨w.heap.size + 1, 7, none⟩ = some (.slice none 0 0) := by rw [cell_of_block MX]; rfl
        have r8 : w5.cell? ⟨w.heap.size + 1, 8, none⟩ = some (.slice none 0 0) := by rw [cell_of_block MX]; rfl
        have rf : ∀ i, w5.frozen? ⟨w.heap.size + 1, i, none⟩ = false := frozen_of_block MX
        go_wp2_with fail
        (try simp only [Exit.inBlock, Exit.then])
        refine bodyPost_ret (v := .tuple #[.agg #[.string ⟨#[]⟩, .string ⟨#[]⟩, .string ⟨#[]⟩, .int .i64 0, .bool false, .int .i64 0, .string ⟨#[]⟩, .slice none 0 0, .slice none 0 0], .int .i64 60]) ?_ rfl (by rw [HF.out]; exact ⟨[.int .i64 0, .bool false, .int .i64 0, .string ⟨#[]⟩, .slice none 0 0, .slice none 0 0], rfl, null_lies _ _, set9_below BX (by omega) _ _ _ _ _ _ _ _ _⟩)
        rw [results_cell_tmp rfl]
        go_simp
      have C6 := hmk (from_any op w5)
      go_wp2_with fail
      refine C6.out.mono ?_
      rintro e w6 ⟨rfl, b6⟩
      have zz6 := b6.size
      have D6 := D_w5.trans (b6.mono (by have := D_w5.size; omega))
      have N_w6 := (b6.block g (by omega)).trans N_w5
      clear C6
      cases hf : fromF op with
      | true =>
        have HFM : Hid (frmF v op = (fr, frOk)) := by show _ = _; rw [frmF, if_pos hf, HWF.out]
        clear hf
        have C7 := hmk (HT.out w6 D6 kFrom)
        rw [HWF.out] at C7
        obtain ⟨NV, _, _, _, _⟩ := HK.out w6 D6
        have a0 : w6.cell? ⟨w.heap.size, 0, none⟩ = some (.int .i64 vk) := by rw [cell_of_block NV]; rfl
        have a1 : w6.cell? ⟨w.heap.size, 1, none⟩ = some (.bool vb) := by rw [cell_of_block NV]; rfl
        have a2 : w6.cell? ⟨w.heap.size, 2, none⟩ = some (.int .i64 vi) := by rw [cell_of_block NV]; rfl
        have a3 : w6.cell? ⟨w.heap.size, 3, none⟩ = some (.string vs) := by rw [cell_of_block NV]; rfl
        have a4 : w6.cell? ⟨w.heap.size, 4, none⟩ = some (.slice val vnl vcl) := by rw [cell_of_block NV]; rfl
        have a5 : w6.cell? ⟨w.heap.size, 5, none⟩ = some (.slice vam vnm vcm) := by rw [cell_of_block NV]; rfl
        clear NV
        go_wp2_with fail
        refine C7.out.mono ?_
        rintro e w7 ⟨rfl, b7⟩
        have zz7 := b7.size
        have D7 := D6.trans (b7.mono (by have := D6.size; omega))
        have N7 := (b7.block g (by omega)).trans N_w6
        clear C7 a0 a1 a2 a3 a4 a5
        have q0 : w7.cell? ⟨g, 0, none⟩ = some (.string op) := by rw [cell_of_block N7]; rfl
        have q1 : w7.cell? ⟨g, 1, none⟩ = some (.string pa) := by rw [cell_of_block N7]; rfl
        have q2 : w7.cell? ⟨g, 2, none⟩ = some (.string ⟨#[]⟩) := by rw [cell_of_block N7]; rfl
        have q3 : w7.cell? ⟨g, 3, none⟩ = some (.int .i64 0) := by rw [cell_of_block N7]; rfl
        have q4 : w7.cell? ⟨g, 4, none⟩ = some (.bool false) := by rw [cell_of_block N7]; rfl
        have q5 : w7.cell? ⟨g, 5, none⟩ = some (.int .i64 0) := by rw [cell_of_block N7]; rfl
        have q6 : w7.cell? ⟨g, 6, none⟩ = some (.string ⟨#[]⟩) := by rw [cell_of_block N7]; rfl
        have q7 : w7.cell? ⟨g, 7, none⟩ = some (.slice none 0 0) := by rw [cell_of_block N7]; rfl
        have q8 : w7.cell? ⟨g, 8, none⟩ = some (.slice none 0 0) := by rw [cell_of_block N7]; rfl
        have qf : ∀ i, w7.frozen? ⟨g, i, none⟩ = false := frozen_of_block N7
        go_upto_region 10 with fail
        have N_w8 : (w7.setCell ⟨g, 2, none⟩ (.string fr)).heap[g]? = some (.cells #[.string op, .string pa, .string fr, .int .i64 0, .bool false, .int .i64 0, .string ⟨#[]⟩, .slice none 0 0, .slice none 0 0] 51 (0, 0)) := heap_setCell_same w7 g 2 _ 51 _ N7
        have D_w8 := D7.setCell (p := ⟨g, 2, none⟩) (show W0.heap.size ≤ g by omega) (.string fr)
        have Z_w8 := ((Below.refl 0 w7).setCell (p := ⟨g, 2, none⟩) (Nat.zero_le _) (.string fr)).size
        generalize w7.setCell ⟨g, 2, none⟩ (.string fr) = w8 at *
        clear q0 q1 q2 q3 q4 q5 q6 q7 q8 qf N7 D7 b7
        rcases Bool.eq_false_or_eq_true frOk with rfl | rfl
        rotate_left
        · obtain ⟨_, MX, _, BX, _⟩ := HK.out w8 D_w8
          have HF : Hid (rdF v = (60, zStp)) := by show _ = _; rw [rdF, HWO.out]; dsimp only; rw [if_neg (by simp), if_neg (by rw [HOK.out.2]; simp), if_neg (by rw [HWP.out]; simp), if_pos (by rw [HFM.out])]
          have r0 : w8.cell? ⟨w.heap.size + 1, 0, none⟩ = some (.string ⟨#[]⟩) := by rw [cell_of_block MX]; rfl
          have r1 : w8.cell? ⟨w.heap.size + 1, 1, none⟩ = some (.string ⟨#[]⟩) := by rw [cell_of_block MX]; rfl
          have r2 : w8.cell? ⟨w.heap.size + 1, 2, none⟩ = some (.string ⟨#[]⟩) := by rw [cell_of_block MX]; rfl
          have r3 : w8.cell? ⟨w.heap.size + 1, 3, none⟩ = some (.int .i64 0) := by rw [cell_of_block MX]; rfl
          have r4 : w8.cell? ⟨w.heap.size + 1, 4, none⟩ = some (.bool false) := by rw [cell_of_block MX]; rfl
          have r5 : w8.cell? ⟨w.heap.size + 1, 5, none⟩ = some (.int .i64 0) := by rw [cell_of_block MX]; rfl
          have r6 : w8.cell? ⟨w.heap.size + 1, 6, none⟩ = some (.string ⟨#[]⟩) := by rw [cell_of_block MX]; rfl
          have r7 : w8.cell? ⟨w.heap.size + 1, 7, none⟩ = some (.slice none 0 0) := by rw [cell_of_block MX]; rfl
          have r8 : w8.cell? ⟨w.heap.size + 1, 8, none⟩ = some (.slice none 0 0) := by rw [cell_of_block MX]; rfl
          have rf : ∀ i, w8.frozen? ⟨w.heap.size + 1, i, none⟩ = false := frozen_of_block MX
          go_wp2_with fail
          (try simp only [Exit.inBlock, Exit.then])
          refine bodyPost_ret (v := .tuple #[.agg #[.string ⟨#[]⟩, .string ⟨#[]⟩, .string ⟨#[]⟩, .int .i64 0, .bool false, .int .i64 0, .string ⟨#[]⟩, .slice none 0 0, .slice none 0 0], .int .i64 60]) ?_ rfl (by rw [HF.out]; exact ⟨[.int .i64 0, .bool false, .int .i64 0, .string ⟨#[]⟩, .slice none 0 0, .slice none 0 0], rfl, null_lies _ _, set9_below BX (by omega) _ _ _ _ _ _ _ _ _⟩)
          rw [results_cell_tmp rfl]
          go_simp
        have HFR : Hid (frmF v op = (fr, true)) := HFM
        have C9 := hmk (val_any op w8)
        go_wp2_with fail
        refine C9.out.mono ?_
        rintro e w9 ⟨rfl, b9⟩
        have zz9 := b9.size
        have D9 := D_w8.trans (b9.mono (by have := D_w8.size; omega))
        have N_w9 := (b9.block g (by omega)).trans N_w8
        clear C9
        cases hx : valF op with
        | true =>
          have HVM : Hid (vluF v op = (x, xOk)) := by show _ = _; rw [vluF, if_pos hx, HGV.out]
          clear hx
          have C10 := HG.out w9 D9
          unfold GtPost at C10
          rw [HGV.out] at C10
          have CH := hmk C10
          clear C10
          obtain ⟨NV, _, _, _, _⟩ := HK.out w9 D9
          have a0 : w9.cell? ⟨w.heap.size, 0, none⟩ = some (.int .i64 vk) := by rw [cell_of_block NV]; rfl
          have a1 : w9.cell? ⟨w.heap.size, 1, none⟩ = some (.bool vb) := by rw [cell_of_block NV]; rfl
          have a2 : w9.cell? ⟨w.heap.size, 2, none⟩ = some (.int .i64 vi) := by rw [cell_of_block NV]; rfl
          have a3 : w9.cell? ⟨w.heap.size, 3, none⟩ = some (.string vs) := by rw [cell_of_block NV]; rfl
          have a4 : w9.cell? ⟨w.heap.size, 4, none⟩ = some (.slice val vnl vcl) := by rw [cell_of_block NV]; rfl
          have a5 : w9.cell? ⟨w.heap.size, 5, none⟩ = some (.slice vam vnm vcm) := by rw [cell_of_block NV]; rfl
          clear NV
          go_wp2_with fail
          refine CH.out.mono ?_
          rintro e w10 ⟨csx, rfl, hlx, b10⟩
          obtain ⟨xk, xb, xi, xs, xal, xnl, xcl, xam, xnm, xcm, rfl⟩ := V.ten hlx
          have zz10 := b10.size
          have D10 := D9.trans (b10.mono (by have := D9.size; omega))
          have N_w10 := (b10.block g (by omega)).trans N_w9
          clear CH a0 a1 a2 a3 a4 a5
          have bX : Below w10.heap.size w10 (w10.alloc (.cells #[.int .i64 xk, .bool xb, .int .i64 xi, .string xs, .slice xal xnl xcl, .slice xam xnm xcm] 25)) := (Below.refl _ _).alloc (Nat.le_refl _) _
          have zX := alloc_size w10 (.cells #[.int .i64 xk, .bool xb, .int .i64 xi, .string xs, .slice xal xnl xcl, .slice xam xnm xcm] 25)
          have NX := heap_alloc_new w10 (.cells #[.int .i64 xk, .bool xb, .int .i64 xi, .string xs, .slice xal xnl xcl, .slice xam xnm xcm] 25)
          have D11 := D10.trans (bX.mono (by have := D10.size; omega))
          have N_w11 := (bX.block g (by omega)).trans N_w10
          have HLX : Hid (x.lies false (w10.alloc (.cells #[.int .i64 xk, .bool xb, .int .i64 xi, .string xs, .slice xal xnl xcl, .slice xam xnm xcm] 25)) (From (g + 1) (w10.alloc (.cells #[.int .i64 xk, .bool xb, .int .i64 xi, .string xs, .slice xal xnl xcl, .slice xam xnm xcm] 25))) [.int .i64 xk, .bool xb, .int .i64 xi, .string xs, .slice xal xnl xcl, .slice xam xnm xcm]) := V.lies_keep (fun h => h) (fun y hy => bX.block y hy.2) (fun y hy => ⟨by have := hy.1; omega, by have := hy.2; omega⟩) _ hlx
          clear hlx b10
          go_upto_region 14 with fail
          generalize (w10.alloc (.cells #[.int .i64 xk, .bool xb, .int .i64 xi, .string xs, .slice xal xnl xcl, .slice xam xnm xcm] 25)) = w11 at *
          obtain ⟨gx, hgx⟩ : ∃ g, w10.heap.size = g := ⟨_, rfl⟩
          have hgg : g < gx := by omega
          rw [hgx] at NX zX ⊢
          rcases Bool.eq_false_or_eq_true xOk with rfl | rfl
          rotate_left
          · obtain ⟨_, MX, _, BX, _⟩ := HK.out w11 D11
            have HF : Hid (rdF v = (60, zStp)) := by show _ = _; rw [rdF, HWO.out]; dsimp only; rw [if_neg (by simp), if_neg (by rw [HOK.out.2]; simp), if_neg (by rw [HWP.out]; simp), if_neg (by rw [HFR.out]; simp), if_pos (by rw [HVM.out])]
            have r0 : w11.cell? ⟨w.heap.size + 1, 0, none⟩ = some (.string ⟨#[]⟩) := by rw [cell_of_block MX]; rfl
            have r1 : w11.cell? ⟨w.heap.size + 1, 1, none⟩ = some (.string ⟨#[]⟩) := by rw [cell_of_block MX]; rfl
            have r2 : w11.cell? ⟨w.heap.size + 1, 2, none⟩ = some (.string ⟨#[]⟩) := by rw [cell_of_block MX]; rfl
            have r3 : w11.cell? ⟨w.heap.size + 1, 3, none⟩ = some (.int .i64 0) := by rw [cell_of_block MX]; rfl
            have r4 : w11.cell? ⟨w.heap.size + 1, 4, none⟩ = some (.bool false) := by rw [cell_of_block MX]; rfl
            have r5 : w11.cell? ⟨w.heap.size + 1, 5, none⟩ = some (.int .i64 0) := by rw [cell_of_block MX]; rfl
            have r6 : w11.cell? ⟨w.heap.size + 1, 6, none⟩ = some (.string ⟨#[]⟩) := by rw [cell_of_block MX]; rfl
            have r7 : w11.cell? ⟨w.heap.size + 1, 7, none⟩ = some (.slice none 0 0) := by rw [cell_of_block MX]; rfl
            have r8 : w11.cell? ⟨w.heap.size + 1, 8, none⟩ = some (.slice none 0 0) := by rw [cell_of_block MX]; rfl
            have rf : ∀ i, w11.frozen? ⟨w.heap.size + 1, i, none⟩ = false := frozen_of_block MX
            go_wp2_with fail
            (try simp only [Exit.inBlock, Exit.then])
            refine bodyPost_ret (v := .tuple #[.agg #[.string ⟨#[]⟩, .string ⟨#[]⟩, .string ⟨#[]⟩, .int .i64 0, .bool false, .int .i64 0, .string ⟨#[]⟩, .slice none 0 0, .slice none 0 0], .int .i64 60]) ?_ rfl (by rw [HF.out]; exact ⟨[.int .i64 0, .bool false, .int .i64 0, .string ⟨#[]⟩, .slice none 0 0, .slice none 0 0], rfl, null_lies _ _, set9_below BX (by omega) _ _ _ _ _ _ _ _ _⟩)
            rw [results_cell_tmp rfl]
            go_simp
          have x0 : w11.cell? ⟨gx, 0, none⟩ = some (.int .i64 xk) := by rw [cell_of_block NX]; rfl
          have x1 : w11.cell? ⟨gx, 1, none⟩ = some (.bool xb) := by rw [cell_of_block NX]; rfl
          have x2 : w11.cell? ⟨gx, 2, none⟩ = some (.int .i64 xi) := by rw [cell_of_block NX]; rfl
          have x3 : w11.cell? ⟨gx, 3, none⟩ = some (.string xs) := by rw [cell_of_block NX]; rfl
          have x4 : w11.cell? ⟨gx, 4, none⟩ = some (.slice xal xnl xcl) := by rw [cell_of_block NX]; rfl
          have x5 : w11.cell? ⟨gx, 5, none⟩ = some (.slice xam xnm xcm) := by rw [cell_of_block NX]; rfl
          have q0 : w11.cell? ⟨g, 0, none⟩ = some (.string op) := by rw [cell_of_block N_w11]; rfl
          have q1 : w11.cell? ⟨g, 1, none⟩ = some (.string pa) := by rw [cell_of_block N_w11]; rfl
          have q2 : w11.cell? ⟨g, 2, none⟩ = some (.string fr) := by rw [cell_of_block N_w11]; rfl
          have q3 : w11.cell? ⟨g, 3, none⟩ = some (.int .i64 0) := by rw [cell_of_block N_w11]; rfl
          have q4 : w11.cell? ⟨g, 4, none⟩ = some (.bool false) := by rw [cell_of_block N_w11]; rfl
          have q5 : w11.cell? ⟨g, 5, none⟩ = some (.int .i64 0) := by rw [cell_of_block N_w11]; rfl
          have q6 : w11.cell? ⟨g, 6, none⟩ = some (.string ⟨#[]⟩) := by rw [cell_of_block N_w11]; rfl
          have q7 : w11.cell? ⟨g, 7, none⟩ = some (.slice none 0 0) := by rw [cell_of_block N_w11]; rfl
          have q8 : w11.cell? ⟨g, 8, none⟩ = some (.slice none 0 0) := by rw [cell_of_block N_w11]; rfl
          have qf : ∀ i, w11.frozen? ⟨g, i, none⟩ = false := frozen_of_block N_w11
          have HVL : Hid (vluF v op = (x, true)) := HVM
          go_upto_region 17 with fail
          have N_w12 := set6_box N_w11 (.int .i64 xk) (.bool xb) (.int .i64 xi) (.string xs) (.slice xal xnl xcl) (.slice xam xnm xcm)
          have D12 := set6_below D11 (show W0.heap.size ≤ g by omega) (.int .i64 xk) (.bool xb) (.int .i64 xi) (.string xs) (.slice xal xnl xcl) (.slice xam xnm xcm)
          have zY := (set6_below (g := g) (Below.refl 0 w11) (Nat.zero_le _) (.int .i64 xk) (.bool xb) (.int .i64 xi) (.string xs) (.slice xal xnl xcl) (.slice xam xnm xcm)).size
          have HLY : Hid (x.lies false (set6b w11 g (.int .i64 xk) (.bool xb) (.int .i64 xi) (.string xs) (.slice xal xnl xcl) (.slice xam xnm xcm)) (From (g + 1) (set6b w11 g (.int .i64 xk) (.bool xb) (.int .i64 xi) (.string xs) (.slice xal xnl xcl) (.slice xam xnm xcm))) [.int .i64 xk, .bool xb, .int .i64 xi, .string xs, .slice xal xnl xcl, .slice xam xnm xcm]) := V.lies_keep (fun h => h) (fun y hy => set6_other _ _ _ _ _ _ _ _ y (by have := hy.1; omega)) (fun y hy => ⟨hy.1, by have := hy.2; omega⟩) _ HLX.out
          dsimp only [set6b] at N_w12 D12 zY HLY
          generalize ((((((w11.setCell ⟨g, 3, none⟩ (.int .i64 xk)).setCell ⟨g, 4, none⟩ (.bool xb)).setCell ⟨g, 5, none⟩ (.int .i64 xi)).setCell ⟨g, 6, none⟩ (.string xs)).setCell ⟨g, 7, none⟩ (.slice xal xnl xcl)).setCell ⟨g, 8, none⟩ (.slice xam xnm xcm)) = w12 at *
          clear x0 x1 x2 x3 x4 x5 q0 q1 q2 q3 q4 q5 q6 q7 q8 qf HLX NX N_w11
          have CF := fault_any op pa fr x false (From (g + 1) w12) [.int .i64 xk, .bool xb, .int .i64 xi, .string xs, .slice xal xnl xcl, .slice xam xnm xcm] w12 HLY.out (fun b h => h.2) hgw hpa hfr
          obtain ⟨n, hn⟩ : ∃ n, fltF op pa fr x = n := ⟨_, rfl⟩
          rw [hn] at CF
          have HN := hmk hn
          have CFH := hmk CF
          clear CF hn
          have q0 : w12.cell? ⟨g, 0, none⟩ = some (.string op) := by rw [cell_of_block N_w12]; rfl
          have q1 : w12.cell? ⟨g, 1, none⟩ = some (.string pa) := by rw [cell_of_block N_w12]; rfl
          have q2 : w12.cell? ⟨g, 2, none⟩ = some (.string fr) := by rw [cell_of_block N_w12]; rfl
          have q3 : w12.cell? ⟨g, 3, none⟩ = some (.int .i64 xk) := by rw [cell_of_block N_w12]; rfl
          have q4 : w12.cell? ⟨g, 4, none⟩ = some (.bool xb) := by rw [cell_of_block N_w12]; rfl
          have q5 : w12.cell? ⟨g, 5, none⟩ = some (.int .i64 xi) := by rw [cell_of_block N_w12]; rfl
          have q6 : w12.cell? ⟨g, 6, none⟩ = some (.string xs) := by rw [cell_of_block N_w12]; rfl
          have q7 : w12.cell? ⟨g, 7, none⟩ = some (.slice xal xnl xcl) := by rw [cell_of_block N_w12]; rfl
          have q8 : w12.cell? ⟨g, 8, none⟩ = some (.slice xam xnm xcm) := by rw [cell_of_block N_w12]; rfl
          have qf : ∀ i, w12.frozen? ⟨g, i, none⟩ = false := frozen_of_block N_w12
          go_wp2_with fail
          refine CFH.out.mono ?_
          rintro e w13 ⟨rfl, b13⟩
          have zz13 := b13.size
          have D13 := D12.trans (b13.mono (by have := D12.size; omega))
          have N_w13 := (b13.block g (by omega)).trans N_w12
          have HLF : Hid (x.lies false w13 (From (g + 1) w13) [.int .i64 xk, .bool xb, .int .i64 xi, .string xs, .slice xal xnl xcl, .slice xam xnm xcm]) := V.lies_keep (fun h => h) (fun y hy => b13.block y hy.2) (fun y hy => ⟨hy.1, by have := hy.2; omega⟩) _ HLY.out
          clear CFH q0 q1 q2 q3 q4 q5 q6 q7 q8 qf
          obtain ⟨_, MX, _, BX, _⟩ := HK.out w13 D13
          by_cases hn : n = 0
          · subst hn
            have HF : Hid (rdF v = (0, (op, pa, fr, x))) := by show _ = _; rw [rdF, HWO.out]; dsimp only; rw [if_neg (by simp), if_neg (by rw [HOK.out.2]; simp), if_neg (by rw [HWP.out]; simp), if_neg (by rw [HFR.out]; simp), if_neg (by rw [HVL.out]; simp), if_neg (by rw [HWP.out, HFR.out, HVL.out, HN.out]; simp), HWP.out, HFR.out, HVL.out]
            have q0 : w13.cell? ⟨g, 0, none⟩ = some (.string op) := by rw [cell_of_block N_w13]; rfl
            have q1 : w13.cell? ⟨g, 1, none⟩ = some (.string pa) := by rw [cell_of_block N_w13]; rfl
            have q2 : w13.cell? ⟨g, 2, none⟩ = some (.string fr) := by rw [cell_of_block N_w13]; rfl
            have q3 : w13.cell? ⟨g, 3, none⟩ = some (.int .i64 xk) := by rw [cell_of_block N_w13]; rfl
            have q4 : w13.cell? ⟨g, 4, none⟩ = some (.bool xb) := by rw [cell_of_block N_w13]; rfl
            have q5 : w13.cell? ⟨g, 5, none⟩ = some (.int .i64 xi) := by rw [cell_of_block N_w13]; rfl
            have q6 : w13.cell? ⟨g, 6, none⟩ = some (.string xs) := by rw [cell_of_block N_w13]; rfl
            have q7 : w13.cell? ⟨g, 7, none⟩ = some (.slice xal xnl xcl) := by rw [cell_of_block N_w13]; rfl
            have q8 : w13.cell? ⟨g, 8, none⟩ = some (.slice xam xnm xcm) := by rw [cell_of_block N_w13]; rfl
            have qf : ∀ i, w13.frozen? ⟨g, i, none⟩ = false := frozen_of_block N_w13
            have r0 : w13.cell? ⟨w.heap.size + 1, 0, none⟩ = some (.string ⟨#[]⟩) := by rw [cell_of_block MX]; rfl
            have r1 : w13.cell? ⟨w.heap.size + 1, 1, none⟩ = some (.string ⟨#[]⟩) := by rw [cell_of_block MX]; rfl
            have r2 : w13.cell? ⟨w.heap.size + 1, 2, none⟩ = some (.string ⟨#[]⟩) := by rw [cell_of_block MX]; rfl
            have r3 : w13.cell? ⟨w.heap.size + 1, 3, none⟩ = some (.int .i64 0) := by rw [cell_of_block MX]; rfl
            have r4 : w13.cell? ⟨w.heap.size + 1, 4, none⟩ = some (.bool false) := by rw [cell_of_block MX]; rfl
            have r5 : w13.cell? ⟨w.heap.size + 1, 5, none⟩ = some (.int .i64 0) := by rw [cell_of_block MX]; rfl
            have r6 : w13.cell? ⟨w.heap.size + 1, 6, none⟩ = some (.string ⟨#[]⟩) := by rw [cell_of_block MX]; rfl
            have r7 : w13.cell? ⟨w.heap.size + 1, 7, none⟩ = some (.slice none 0 0) := by rw [cell_of_block MX]; rfl
            have r8 : w13.cell? ⟨w.heap.size + 1, 8, none⟩ = some (.slice none 0 0) := by rw [cell_of_block MX]; rfl
            have rf : ∀ i, w13.frozen? ⟨w.heap.size + 1, i, none⟩ = false := frozen_of_block MX
            go_wp2_with fail
            (try simp only [Exit.inBlock, Exit.then])
            refine bodyPost_ret (v := .tuple #[.agg #[.string op, .string pa, .string fr, .int .i64 xk, .bool xb, .int .i64 xi, .string xs, .slice xal xnl xcl, .slice xam xnm xcm], .int .i64 0]) ?_ rfl (by rw [HF.out]; exact ⟨[.int .i64 xk, .bool xb, .int .i64 xi, .string xs, .slice xal xnl xcl, .slice xam xnm xcm], rfl, V.lies_keep (fun h => h) (fun y hy => set9_other _ _ _ _ _ _ _ _ _ _ _ y (by have := hy.1; omega)) (fun y hy => ⟨by have := hy.1; omega, Nat.lt_of_lt_of_le hy.2 (set9_below (Below.refl 0 w13) (Nat.zero_le _) _ _ _ _ _ _ _ _ _).size⟩) _ HLF.out, set9_below BX (by omega) _ _ _ _ _ _ _ _ _⟩)
            rw [results_cell_tmp rfl]
            go_simp
          · have hn0 : n ≠ 0 := hn
            have HF : Hid (rdF v = (n, zStp)) := by show _ = _; rw [rdF, HWO.out]; dsimp only; rw [if_neg (by simp), if_neg (by rw [HOK.out.2]; simp), if_neg (by rw [HWP.out]; simp), if_neg (by rw [HFR.out]; simp), if_neg (by rw [HVL.out]; simp), if_pos (by rw [HWP.out, HFR.out, HVL.out, HN.out]; exact hn0), HWP.out, HFR.out, HVL.out, HN.out]
            have yn : ((n : Int) != 0) = true := by simp; omega
            have yn' : ((n : Int) == 0) = false := by simp; omega
            have r0 : w13.cell? ⟨w.heap.size + 1, 0, none⟩ = some (.string ⟨#[]⟩) := by rw [cell_of_block MX]; rfl
            have r1 : w13.cell? ⟨w.heap.size + 1, 1, none⟩ = some (.string ⟨#[]⟩) := by rw [cell_of_block MX]; rfl
            have r2 : w13.cell? ⟨w.heap.size + 1, 2, none⟩ = some (.string ⟨#[]⟩) := by rw [cell_of_block MX]; rfl
            have r3 : w13.cell? ⟨w.heap.size + 1, 3, none⟩ = some (.int .i64 0) := by rw [cell_of_block MX]; rfl
            have r4 : w13.cell? ⟨w.heap.size + 1, 4, none⟩ = some (.bool false) := by rw [cell_of_block MX]; rfl
            have r5 : w13.cell? ⟨w.heap.size + 1, 5, none⟩ = some (.int .i64 0) := by rw [cell_of_block MX]; rfl
            have r6 : w13.cell? ⟨w.heap.size + 1, 6, none⟩ = some (.string ⟨#[]⟩) := by rw [cell_of_block MX]; rfl
            have r7 : w13.cell? ⟨w.heap.size + 1, 7, none⟩ = some (.slice none 0 0) := by rw [cell_of_block MX]; rfl
            have r8 : w13.cell? ⟨w.heap.size + 1, 8, none⟩ = some (.slice none 0 0) := by rw [cell_of_block MX]; rfl
            have rf : ∀ i, w13.frozen? ⟨w.heap.size + 1, i, none⟩ = false := frozen_of_block MX
            go_wp2_with fail
            (try simp only [Exit.inBlock, Exit.then])
            refine bodyPost_ret (v := .tuple #[.agg #[.string ⟨#[]⟩, .string ⟨#[]⟩, .string ⟨#[]⟩, .int .i64 0, .bool false, .int .i64 0, .string ⟨#[]⟩, .slice none 0 0, .slice none 0 0], .int .i64 n]) ?_ rfl (by rw [HF.out]; exact ⟨[.int .i64 0, .bool false, .int .i64 0, .string ⟨#[]⟩, .slice none 0 0, .slice none 0 0], rfl, null_lies _ _, set9_below BX (by omega) _ _ _ _ _ _ _ _ _⟩)
            rw [results_cell_tmp rfl]
            go_simp
        | false =>
          have HVL : Hid (vluF v op = (nullV, true)) := by show _ = _; rw [vluF, if_neg (by rw [hx]; simp)]
          clear hx
          have HLY : Hid (nullV.lies false w9 (From (g + 1) w9) [.int .i64 0, .bool false, .int .i64 0, .string ⟨#[]⟩, .slice none 0 0, .slice none 0 0]) := null_lies _ _
          have CF := fault_any op pa fr nullV false (From (g + 1) w9) [.int .i64 0, .bool false, .int .i64 0, .string ⟨#[]⟩, .slice none 0 0, .slice none 0 0] w9 HLY.out (fun b h => h.2) null_wt hpa hfr
          obtain ⟨n, hn⟩ : ∃ n, fltF op pa fr nullV = n := ⟨_, rfl⟩
          rw [hn] at CF
          have HN := hmk hn
          have CFH := hmk CF
          clear CF hn
          have q0 : w9.cell? ⟨g, 0, none⟩ = some (.string op) := by rw [cell_of_block N_w9]; rfl
          have q1 : w9.cell? ⟨g, 1, none⟩ = some (.string pa) := by rw [cell_of_block N_w9]; rfl
          have q2 : w9.cell? ⟨g, 2, none⟩ = some (.string fr) := by rw [cell_of_block N_w9]; rfl
          have q3 : w9.cell? ⟨g, 3, none⟩ = some (.int .i64 0) := by rw [cell_of_block N_w9]; rfl
          have q4 : w9.cell? ⟨g, 4, none⟩ = some (.bool false) := by rw [cell_of_block N_w9]; rfl
          have q5 : w9.cell? ⟨g, 5, none⟩ = some (.int .i64 0) := by rw [cell_of_block N_w9]; rfl
          have q6 : w9.cell? ⟨g, 6, none⟩ = some (.string ⟨#[]⟩) := by rw [cell_of_block N_w9]; rfl
          have q7 : w9.cell? ⟨g, 7, none⟩ = some (.slice none 0 0) := by rw [cell_of_block N_w9]; rfl
          have q8 : w9.cell? ⟨g, 8, none⟩ = some (.slice none 0 0) := by rw [cell_of_block N_w9]; rfl
          have qf : ∀ i, w9.frozen? ⟨g, i, none⟩ = false := frozen_of_block N_w9
          go_wp2_with fail
          refine CFH.out.mono ?_
          rintro e w13 ⟨rfl, b13⟩
          have zz13 := b13.size
          have D13 := D9.trans (b13.mono (by have := D9.size; omega))
          have N_w13 := (b13.block g (by omega)).trans N_w9
          have HLF : Hid (nullV.lies false w13 (From (g + 1) w13) [.int .i64 0, .bool false, .int .i64 0, .string ⟨#[]⟩, .slice none 0 0, .slice none 0 0]) := V.lies_keep (fun h => h) (fun y hy => b13.block y hy.2) (fun y hy => ⟨hy.1, by have := hy.2; omega⟩) _ HLY.out
          clear CFH q0 q1 q2 q3 q4 q5 q6 q7 q8 qf
          obtain ⟨_, MX, _, BX, _⟩ := HK.out w13 D13
          by_cases hn : n = 0
          · subst hn
            have HF : Hid (rdF v = (0, (op, pa, fr, nullV))) := by show _ = _; rw [rdF, HWO.out]; dsimp only; rw [if_neg (by simp), if_neg (by rw [HOK.out.2]; simp), if_neg (by rw [HWP.out]; simp), if_neg (by rw [HFR.out]; simp), if_neg (by rw [HVL.out]; simp), if_neg (by rw [HWP.out, HFR.out, HVL.out, HN.out]; simp), HWP.out, HFR.out, HVL.out]
            have q0 : w13.cell? ⟨g, 0, none⟩ = some (.string op) := by rw [cell_of_block N_w13]; rfl
            have q1 : w13.cell? ⟨g, 1, none⟩ = some (.string pa) := by rw [cell_of_block N_w13]; rfl
            have q2 : w13.cell? ⟨g, 2, none⟩ = some (.string fr) := by rw [cell_of_block N_w13]; rfl
            have q3 : w13.cell? ⟨g, 3, none⟩ = some (.int .i64 0) := by rw [cell_of_block N_w13]; rfl
            have q4 : w13.cell? ⟨g, 4, none⟩ = some (.bool false) := by rw [cell_of_block N_w13]; rfl
            have q5 : w13.cell? ⟨g, 5, none⟩ = some (.int .i64 0) := by rw [cell_of_block N_w13]; rfl
            have q6 : w13.cell? ⟨g, 6, none⟩ = some (.string ⟨#[]⟩) := by rw [cell_of_block N_w13]; rfl
            have q7 : w13.cell? ⟨g, 7, none⟩ = some (.slice none 0 0) := by rw [cell_of_block N_w13]; rfl
            have q8 : w13.cell? ⟨g, 8, none⟩ = some (.slice none 0 0) := by rw [cell_of_block N_w13]; rfl
            have qf : ∀ i, w13.frozen? ⟨g, i, none⟩ = false := frozen_of_block N_w13
            have r0 : w13.cell? ⟨w.heap.size + 1, 0, none⟩ = some (.string ⟨#[]⟩) := by rw [cell_of_block MX]; rfl
            have r1 : w13.cell? ⟨w.heap.size + 1, 1, none⟩ = some (.string ⟨#[]⟩) := by rw [cell_of_block MX]; rfl
            have r2 : w13.cell? ⟨w.heap.size + 1, 2, none⟩ = some (.string ⟨#[]⟩) := by rw [cell_of_block MX]; rfl
            have r3 : w13.cell? ⟨w.heap.size + 1, 3, none⟩ = some (.int .i64 0) := by rw [cell_of_block MX]; rfl
            have r4 : w13.cell? ⟨w.heap.size + 1, 4, none⟩ = some (.bool false) := by rw [cell_of_block MX]; rfl
            have r5 : w13.cell? ⟨w.heap.size + 1, 5, none⟩ = some (.int .i64 0) := by rw [cell_of_block MX]; rfl
            have r6 : w13.cell? ⟨w.heap.size + 1, 6, none⟩ = some (.string ⟨#[]⟩) := by rw [cell_of_block MX]; rfl
            have r7 : w13.cell? ⟨w.heap.size + 1, 7, none⟩ = some (.slice none 0 0) := by rw [cell_of_block MX]; rfl
            have r8 : w13.cell? ⟨w.heap.size + 1, 8, none⟩ = some (.slice none 0 0) := by rw [cell_of_block MX]; rfl
            have rf : ∀ i, w13.frozen? ⟨w.heap.size + 1, i, none⟩ = false := frozen_of_block MX
            go_wp2_with fail
            (try simp only [Exit.inBlock, Exit.then])
            refine bodyPost_ret (v := .tuple #[.agg #[.string op, .string pa, .string fr, .int .i64 0, .bool false, .int .i64 0, .string ⟨#[]⟩, .slice none 0 0, .slice none 0 0], .int .i64 0]) ?_ rfl (by rw [HF.out]; exact ⟨[.int .i64 0, .bool false, .int .i64 0, .string ⟨#[]⟩, .slice none 0 0, .slice none 0 0], rfl, V.lies_keep (fun h => h) (fun y hy => set9_other _ _ _ _ _ _ _ _ _ _ _ y (by have := hy.1; omega)) (fun y hy => ⟨by have := hy.1; omega, Nat.lt_of_lt_of_le hy.2 (set9_below (Below.refl 0 w13) (Nat.zero_le _) _ _ _ _ _ _ _ _ _).size⟩) _ HLF.out, set9_below BX (by omega) _ _ _ _ _ _ _ _ _⟩)
            rw [results_cell_tmp rfl]
            go_simp
          · have hn0 : n ≠ 0 := hn
            have HF : Hid (rdF v = (n, zStp)) := by show _ = _; rw [rdF, HWO.out]; dsimp only; rw [if_neg (by simp), if_neg (by rw [HOK.out.2]; simp), if_neg (by rw [HWP.out]; simp), if_neg (by rw [HFR.out]; simp), if_neg (by rw [HVL.out]; simp), if_pos (by rw [HWP.out, HFR.out, HVL.out, HN.out]; exact hn0), HWP.out, HFR.out, HVL.out, HN.out]
            have yn : ((n : Int) != 0) = true := by simp; omega
            have yn' : ((n : Int) == 0) = false := by simp; omega
            have r0 : w13.cell? ⟨w.heap.size + 1, 0, none⟩ = some (.string ⟨#[]⟩) := by rw [cell_of_block MX]; rfl
            have r1 : w13.cell? ⟨w.heap.size + 1, 1, none⟩ = some (.string ⟨#[]⟩) := by rw [cell_of_block MX]; rfl
            have r2 : w13.cell? ⟨w.heap.size + 1, 2, none⟩ = some (.string ⟨#[]⟩) := by rw [cell_of_block MX]; rfl
            have r3 : w13.cell? ⟨w.heap.size + 1, 3, none⟩ = some (.int .i64 0) := by rw [cell_of_block MX]; rfl
            have r4 : w13.cell? ⟨w.heap.size + 1, 4, none⟩ = some (.bool false) := by rw [cell_of_block MX]; rfl
            have r5 : w13.cell? ⟨w.heap.size + 1, 5, none⟩ = some (.int .i64 0) := by rw [cell_of_block MX]; rfl
            have r6 : w13.cell? ⟨w.heap.size + 1, 6, none⟩ = some (.string ⟨#[]⟩) := by rw [cell_of_block MX]; rfl
            have r7 : w13.cell? ⟨w.heap.size + 1, 7, none⟩ = some (.slice none 0 0) := by rw [cell_of_block MX]; rfl
            have r8 : w13.cell? ⟨w.heap.size + 1, 8, none⟩ = some (.slice none 0 0) := by rw [cell_of_block MX]; rfl
            have rf : ∀ i, w13.frozen? ⟨w.heap.size + 1, i, none⟩ = false := frozen_of_block MX
            go_wp2_with fail
            (try simp only [Exit.inBlock, Exit.then])
            refine bodyPost_ret (v := .tuple #[.agg #[.string ⟨#[]⟩, .string ⟨#[]⟩, .string ⟨#[]⟩, .int .i64 0, .bool false, .int .i64 0, .string ⟨#[]⟩, .slice none 0 0, .slice none 0 0], .int .i64 n]) ?_ rfl (by rw [HF.out]; exact ⟨[.int .i64 0, .bool false, .int .i64 0, .string ⟨#[]⟩, .slice none 0 0, .slice none 0 0], rfl, null_lies _ _, set9_below BX (by omega) _ _ _ _ _ _ _ _ _⟩)
            rw [results_cell_tmp rfl]
            go_simp
      | false =>
        have HFR : Hid (frmF v op = (noS, true)) := by show _ = _; rw [frmF, if_neg (by rw [hf]; simp)]
        clear hf
        have C9 := hmk (val_any op w6)
        go_wp2_with fail
        refine C9.out.mono ?_
        rintro e w9 ⟨rfl, b9⟩
        have zz9 := b9.size
        have D9 := D6.trans (b9.mono (by have := D6.size; omega))
        have N_w9 := (b9.block g (by omega)).trans N_w6
        clear C9
        cases hx : valF op with
        | true =>
          have HVM : Hid (vluF v op = (x, xOk)) := by show _ = _; rw [vluF, if_pos hx, HGV.out]
          clear hx
          have C10 := HG.out w9 D9
          unfold GtPost at C10
          rw [HGV.out] at C10
          have CH := hmk C10
          clear C10
          obtain ⟨NV, _, _, _, _⟩ := HK.out w9 D9
          have a0 : w9.cell? ⟨w.heap.size, 0, none⟩ = some (.int .i64 vk) := by rw [cell_of_block NV]; rfl
          have a1 : w9.cell? ⟨w.heap.size, 1, none⟩ = some (.bool vb) := by rw [cell_of_block NV]; rfl
          have a2 : w9.cell? ⟨w.heap.size, 2, none⟩ = some (.int .i64 vi) := by rw [cell_of_block NV]; rfl
          have a3 : w9.cell? ⟨w.heap.size, 3, none⟩ = some (.string vs) := by rw [cell_of_block NV]; rfl
          have a4 : w9.cell? ⟨w.heap.size, 4, none⟩ = some (.slice val vnl vcl) := by rw [cell_of_block NV]; rfl
          have a5 : w9.cell? ⟨w.heap.size, 5, none⟩ = some (.slice vam vnm vcm) := by rw [cell_of_block NV]; rfl
          clear NV
          go_wp2_with fail
          refine CH.out.mono ?_
          rintro e w10 ⟨csx, rfl, hlx, b10⟩
          obtain ⟨xk, xb, xi, xs, xal, xnl, xcl, xam, xnm, xcm, rfl⟩ := V.ten hlx
          have zz10 := b10.size
          have D10 := D9.trans (b10.mono (by have := D9.size; omega))
          have N_w10 := (b10.block g (by omega)).trans N_w9
          clear CH a0 a1 a2 a3 a4 a5
          have bX : Below w10.heap.size w10 (w10.alloc (.cells #[.int .i64 xk, .bool xb, .int .i64 xi, .string xs, .slice xal xnl xcl, .slice xam xnm xcm] 25)) := (Below.refl _ _).alloc (Nat.le_refl _) _
          have zX := alloc_size w10 (.cells #[.int .i64 xk, .bool xb, .int .i64 xi, .string xs, .slice xal xnl xcl, .slice xam xnm xcm] 25)
          have NX := heap_alloc_new w10 (.cells #[.int .i64 xk, .bool xb, .int .i64 xi, .string xs, .slice xal xnl xcl, .slice xam xnm xcm] 25)
          have D11 := D10.trans (bX.mono (by have := D10.size; omega))
          have N_w11 := (bX.block g (by omega)).trans N_w10
          have HLX : Hid (x.lies false (w10.alloc (.cells #[.int .i64 xk, .bool xb, .int .i64 xi, .string xs, .slice xal xnl xcl, .slice xam xnm xcm] 25)) (From (g + 1) (w10.alloc (.cells #[.int .i64 xk, .bool xb, .int .i64 xi, .string xs, .slice xal xnl xcl, .slice xam xnm xcm] 25))) [.int .i64 xk, .bool xb, .int .i64 xi, .string xs, .slice xal xnl xcl, .slice xam xnm xcm]) := V.lies_keep (fun h => h) (fun y hy => bX.block y hy.2) (fun y hy => ⟨by have := hy.1; omega, by have := hy.2; omega⟩) _ hlx
          clear hlx b10
          go_upto_region 14 with fail
          generalize (w10.alloc (.cells #[.int .i64 xk, .bool xb, .int .i64 xi, .string xs, .slice xal xnl xcl, .slice xam xnm xcm] 25)) = w11 at *
          obtain ⟨gx, hgx⟩ : ∃ g, w10.heap.size = g := ⟨_, rfl⟩
          have hgg : g < gx := by omega
          rw [hgx] at NX zX ⊢
          rcases Bool.eq_false_or_eq_true xOk with rfl | rfl
          rotate_left
          · obtain ⟨_, MX, _, BX, _⟩ := HK.out w11 D11
            have HF : Hid (rdF v = (60, zStp)) := by show _ = _; rw [rdF, HWO.out]; dsimp only; rw [if_neg (by simp), if_neg (by rw [HOK.out.2]; simp), if_neg (by rw [HWP.out]; simp), if_neg (by rw [HFR.out]; simp), if_pos (by rw [HVM.out])]
            have r0 : w11.cell? ⟨w.heap.size + 1, 0, none⟩ = some (.string ⟨#[]⟩) := by rw [cell_of_block MX]; rfl
            have r1 : w11.cell? ⟨w.heap.size + 1, 1, none⟩ = some (.string ⟨#[]⟩) := by rw [cell_of_block MX]; rfl
            have r2 : w11.cell? ⟨w.heap.size + 1, 2, none⟩ = some (.string ⟨#[]⟩) := by rw [cell_of_block MX]; rfl
            have r3 : w11.cell? ⟨w.heap.size + 1, 3, none⟩ = some (.int .i64 0) := by rw [cell_of_block MX]; rfl
            have r4 : w11.cell? ⟨w.heap.size + 1, 4, none⟩ = some (.bool false) := by rw [cell_of_block MX]; rfl
            have r5 : w11.cell? ⟨w.heap.size + 1, 5, none⟩ = some (.int .i64 0) := by rw [cell_of_block MX]; rfl
            have r6 : w11.cell? ⟨w.heap.size + 1, 6, none⟩ = some (.string ⟨#[]⟩) := by rw [cell_of_block MX]; rfl
            have r7 : w11.cell? ⟨w.heap.size + 1, 7, none⟩ = some (.slice none 0 0) := by rw [cell_of_block MX]; rfl
            have r8 : w11.cell? ⟨w.heap.size + 1, 8, none⟩ = some (.slice none 0 0) := by rw [cell_of_block MX]; rfl
            have rf : ∀ i, w11.frozen? ⟨w.heap.size + 1, i, none⟩ = false := frozen_of_block MX
            go_wp2_with fail
            (try simp only [Exit.inBlock, Exit.then])
            refine bodyPost_ret (v := .tuple #[.agg #[.string ⟨#[]⟩, .string ⟨#[]⟩, .string ⟨#[]⟩, .int .i64 0, .bool false, .int .i64 0, .string ⟨#[]⟩, .slice none 0 0, .slice none 0 0], .int .i64 60]) ?_ rfl (by rw [HF.out]; exact ⟨[.int .i64 0, .bool false, .int .i64 0, .string ⟨#[]⟩, .slice none 0 0, .slice none 0 0], rfl, null_lies _ _, set9_below BX (by omega) _ _ _ _ _ _ _ _ _⟩)
            rw [results_cell_tmp rfl]
            go_simp
          have x0 : w11.cell? ⟨gx, 0, none⟩ = some (.int .i64 xk) := by rw [cell_of_block NX]; rfl
          have x1 : w11.cell? ⟨gx, 1, none⟩ = some (.bool xb) := by rw [cell_of_block NX]; rfl
          have x2 : w11.cell? ⟨gx, 2, none⟩ = some (.int .i64 xi) := by rw [cell_of_block NX]; rfl
          have x3 : w11.cell? ⟨gx, 3, none⟩ = some (.string xs) := by rw [cell_of_block NX]; rfl
          have x4 : w11.cell? ⟨gx, 4, none⟩ = some (.slice xal xnl xcl) := by rw [cell_of_block NX]; rfl
          have x5 : w11.cell? ⟨gx, 5, none⟩ = some (.slice xam xnm xcm) := by rw [cell_of_block NX]; rfl
          have q0 : w11.cell? ⟨g, 0, none⟩ = some (.string op) := by rw [cell_of_block N_w11]; rfl
          have q1 : w11.cell? ⟨g, 1, none⟩ = some (.string pa) := by rw [cell_of_block N_w11]; rfl
          have q2 : w11.cell? ⟨g, 2, none⟩ = some (.string ⟨#[]⟩) := by rw [cell_of_block N_w11]; rfl
          have q3 : w11.cell? ⟨g, 3, none⟩ = some (.int .i64 0) := by rw [cell_of_block N_w11]; rfl
          have q4 : w11.cell? ⟨g, 4, none⟩ = some (.bool false) := by rw [cell_of_block N_w11]; rfl
          have q5 : w11.cell? ⟨g, 5, none⟩ = some (.int .i64 0) := by rw [cell_of_block N_w11]; rfl
          have q6 : w11.cell? ⟨g, 6, none⟩ = some (.string ⟨#[]⟩) := by rw [cell_of_block N_w11]; rfl
          have q7 : w11.cell? ⟨g, 7, none⟩ = some (.slice none 0 0) := by rw [cell_of_block N_w11]; rfl
          have q8 : w11.cell? ⟨g, 8, none⟩ = some (.slice none 0 0) := by rw [cell_of_block N_w11]; rfl
          have qf : ∀ i, w11.frozen? ⟨g, i, none⟩ = false := frozen_of_block N_w11
          have HVL : Hid (vluF v op = (x, true)) := HVM
          go_upto_region 17 with fail
          have N_w12 := set6_box N_w11 (.int .i64 xk) (.bool xb) (.int .i64 xi) (.string xs) (.slice xal xnl xcl) (.slice xam xnm xcm)
          have D12 := set6_below D11 (show W0.heap.size ≤ g by omega) (.int .i64 xk) (.bool xb) (.int .i64 xi) (.string xs) (.slice xal xnl xcl) (.slice xam xnm xcm)
          have zY := (set6_below (g := g) (Below.refl 0 w11) (Nat.zero_le _) (.int .i64 xk) (.bool xb) (.int .i64 xi) (.string xs) (.slice xal xnl xcl) (.slice xam xnm xcm)).size
          have HLY : Hid (x.lies false (set6b w11 g (.int .i64 xk) (.bool xb) (.int .i64 xi) (.string xs) (.slice xal xnl xcl) (.slice xam xnm xcm)) (From (g + 1) (set6b w11 g (.int .i64 xk) (.bool xb) (.int .i64 xi) (.string xs) (.slice xal xnl xcl) (.slice xam xnm xcm))) [.int .i64 xk, .bool xb, .int .i64 xi, .string xs, .slice xal xnl xcl, .slice xam xnm xcm]) := V.lies_keep (fun h => h) (fun y hy => set6_other _ _ _ _ _ _ _ _ y (by have := hy.1; omega)) (fun y hy => ⟨hy.1, by have := hy.2; omega⟩) _ HLX.out
          dsimp only [set6b] at N_w12 D12 zY HLY
          generalize ((((((w11.setCell ⟨g, 3, none⟩ (.int .i64 xk)).setCell ⟨g, 4, none⟩ (.bool xb)).setCell ⟨g, 5, none⟩ (.int .i64 xi)).setCell ⟨g, 6, none⟩ (.string xs)).setCell ⟨g, 7, none⟩ (.slice xal xnl xcl)).setCell ⟨g, 8, none⟩ (.slice xam xnm xcm)) = w12 at *
          clear x0 x1 x2 x3 x4 x5 q0 q1 q2 q3 q4 q5 q6 q7 q8 qf HLX NX N_w11
          have CF := fault_any op pa noS x false (From (g + 1) w12) [.int .i64 xk, .bool xb, .int .i64 xi, .string xs, .slice xal xnl xcl, .slice xam xnm xcm] w12 HLY.out (fun b h => h.2) hgw hpa (Nat.zero_le _)
          obtain ⟨n, hn⟩ : ∃ n, fltF op pa noS x = n := ⟨_, rfl⟩
          rw [hn] at CF
          have HN := hmk hn
          have CFH := hmk CF
          clear CF hn
          have q0 : w12.cell? ⟨g, 0, none⟩ = some (.string op) := by rw [cell_of_block N_w12]; rfl
          have q1 : w12.cell? ⟨g, 1, none⟩ = some (.string pa) := by rw [cell_of_block N_w12]; rfl
          have q2 : w12.cell? ⟨g, 2, none⟩ = some (.string ⟨#[]⟩) := by rw [cell_of_block N_w12]; rfl
          have q3 : w12.cell? ⟨g, 3, none⟩ = some (.int .i64 xk) := by rw [cell_of_block N_w12]; rfl
          have q4 : w12.cell? ⟨g, 4, none⟩ = some (.bool xb) := by rw [cell_of_block N_w12]; rfl
          have q5 : w12.cell? ⟨g, 5, none⟩ = some (.int .i64 xi) := by rw [cell_of_block N_w12]; rfl
          have q6 : w12.cell? ⟨g, 6, none⟩ = some (.string xs) := by rw [cell_of_block N_w12]; rfl
          have q7 : w12.cell? ⟨g, 7, none⟩ = some (.slice xal xnl xcl) := by rw [cell_of_block N_w12]; rfl
          have q8 : w12.cell? ⟨g, 8, none⟩ = some (.slice xam xnm xcm) := by rw [cell_of_block N_w12]; rfl
          have qf : ∀ i, w12.frozen? ⟨g, i, none⟩ = false := frozen_of_block N_w12
          go_wp2_with fail
          refine CFH.out.mono ?_
          rintro e w13 ⟨rfl, b13⟩
          have zz13 := b13.size
          have D13 := D12.trans (b13.mono (by have := D12.size; omega))
          have N_w13 := (b13.block g (by omega)).trans N_w12
          have HLF : Hid (x.lies false w13 (From (g + 1) w13) [.int .i64 xk, .bool xb, .int .i64 xi, .string xs, .slice xal xnl xcl, .slice xam xnm xcm]) := V.lies_keep (fun h => h) (fun y hy => b13.block y hy.2) (fun y hy => ⟨hy.1, by have := hy.2; omega⟩) _ HLY.out
          clear CFH q0 q1 q2 q3 q4 q5 q6 q7 q8 qf
          obtain ⟨_, MX, _, BX, _⟩ := HK.out w13 D13
          by_cases hn : n = 0
          · subst hn
            have HF : Hid (rdF v = (0, (op, pa, noS, x))) := by show _ = _; rw [rdF, HWO.out]; dsimp only; rw [if_neg (by simp), if_neg (by rw [HOK.out.2]; simp), if_neg (by rw [HWP.out]; simp), if_neg (by rw [HFR.out]; simp), if_neg (by rw [HVL.out]; simp), if_neg (by rw [HWP.out, HFR.out, HVL.out, HN.out]; simp), HWP.out, HFR.out, HVL.out]
            have q0 : w13.cell? ⟨g, 0, none⟩ = some (.string op) := by rw [cell_of_block N_w13]; rfl
            have q1 : w13.cell? ⟨g, 1, none⟩ = some (.string pa) := by rw [cell_of_block N_w13]; rfl
            have q2 : w13.cell? ⟨g, 2, none⟩ = some (.string ⟨#[]⟩) := by rw [cell_of_block N_w13]; rfl
            have q3 : w13.cell? ⟨g, 3, none⟩ = some (.int .i64 xk) := by rw [cell_of_block N_w13]; rfl
            have q4 : w13.cell? ⟨g, 4, none⟩ = some (.bool xb) := by rw [cell_of_block N_w13]; rfl
            have q5 : w13.cell? ⟨g, 5, none⟩ = some (.int .i64 xi) := by rw [cell_of_block N_w13]; rfl
            have q6 : w13.cell? ⟨g, 6, none⟩ = some (.string xs) := by rw [cell_of_block N_w13]; rfl
            have q7 : w13.cell? ⟨g, 7, none⟩ = some (.slice xal xnl xcl) := by rw [cell_of_block N_w13]; rfl
            have q8 : w13.cell? ⟨g, 8, none⟩ = some (.slice xam xnm xcm) := by rw [cell_of_block N_w13]; rfl
            have qf : ∀ i, w13.frozen? ⟨g, i, none⟩ = false := frozen_of_block N_w13
            have r0 : w13.cell? ⟨w.heap.size + 1, 0, none⟩ = some (.string ⟨#[]⟩) := by rw [cell_of_block MX]; rfl
            have r1 : w13.cell? ⟨w.heap.size + 1, 1, none⟩ = some (.string ⟨#[]⟩) := by rw [cell_of_block MX]; rfl
            have r2 : w13.cell? ⟨w.heap.size + 1, 2, none⟩ = some (.string ⟨#[]⟩) := by rw [cell_of_block MX]; rfl
            have r3 : w13.cell? ⟨w.heap.size + 1, 3, none⟩ = some (.int .i64 0) := by rw [cell_of_block MX]; rfl
            have r4 : w13.cell? ⟨w.heap.size + 1, 4, none⟩ = some (.bool false) := by rw [cell_of_block MX]; rfl
            have r5 : w13.cell? ⟨w.heap.size + 1, 5, none⟩ = some (.int .i64 0) := by rw [cell_of_block MX]; rfl
            have r6 : w13.cell? ⟨w.heap.size + 1, 6, none⟩ = some (.string ⟨#[]⟩) := by rw [cell_of_block MX]; rfl
            have r7 : w13.cell? ⟨w.heap.size + 1, 7, none⟩ = some (.slice none 0 0) := by rw [cell_of_block MX]; rfl
            have r8 : w13.cell? ⟨w.heap.size + 1, 8, none⟩ = some (.slice none 0 0) := by rw [cell_of_block MX]; rfl
            have rf : ∀ i, w13.frozen? ⟨w.heap.size + 1, i, none⟩ = false := frozen_of_block MX
            go_wp2_with fail
            (try simp only [Exit.inBlock, Exit.then])
            refine bodyPost_ret (v := .tuple #[.agg #[.string op, .string pa, .string ⟨#[]⟩, .int .i64 xk, .bool xb, .int .i64 xi, .string xs, .slice xal xnl xcl, .slice xam xnm xcm], .int .i64 0]) ?_ rfl (by rw [HF.out]; exact ⟨[.int .i64 xk, .bool xb, .int .i64 xi, .string xs, .slice xal xnl xcl, .slice xam xnm xcm], rfl, V.lies_keep (fun h => h) (fun y hy => set9_other _ _ _ _ _ _ _ _ _ _ _ y (by have := hy.1; omega)) (fun y hy => ⟨by have := hy.1; omega, Nat.lt_of_lt_of_le hy.2 (set9_below (Below.refl 0 w13) (Nat.zero_le _) _ _ _ _ _ _ _ _ _).size⟩) _ HLF.out, set9_below BX (by omega) _ _ _ _ _ _ _ _ _⟩)
            rw [results_cell_tmp rfl]
            go_simp
          · have hn0 : n ≠ 0 := hn
            have HF : Hid (rdF v = (n, zStp)) := by show _ = _; rw [rdF, HWO.out]; dsimp only; rw [if_neg (by simp), if_neg (by rw [HOK.out.2]; simp), if_neg (by rw [HWP.out]; simp), if_neg (by rw [HFR.out]; simp), if_neg (by rw [HVL.out]; simp), if_pos (by rw [HWP.out, HFR.out, HVL.out, HN.out]; exact hn0), HWP.out, HFR.out, HVL.out, HN.out]
            have yn : ((n : Int) != 0) = true := by simp; omega
            have yn' : ((n : Int) == 0) = false := by simp; omega
            have r0 : w13.cell? ⟨w.heap.size + 1, 0, none⟩ = some (.string ⟨#[]⟩) := by rw [cell_of_block MX]; rfl
            have r1 : w13.cell? ⟨w.heap.size + 1, 1, none⟩ = some (.string ⟨#[]⟩) := by rw [cell_of_block MX]; rfl
            have r2 : w13.cell? ⟨w.heap.size + 1, 2, none⟩ = some (.string ⟨#[]⟩) := by rw [cell_of_block MX]; rfl
            have r3 : w13.cell? ⟨w.heap.size + 1, 3, none⟩ = some (.int .i64 0) := by rw [cell_of_block MX]; rfl
            have r4 : w13.cell? ⟨w.heap.size + 1, 4, none⟩ = some (.bool false) := by rw [cell_of_block MX]; rfl
            have r5 : w13.cell? ⟨w.heap.size + 1, 5, none⟩ = some (.int .i64 0) := by rw [cell_of_block MX]; rfl
            have r6 : w13.cell? ⟨w.heap.size + 1, 6, none⟩ = some (.string ⟨#[]⟩) := by rw [cell_of_block MX]; rfl
            have r7 : w13.cell? ⟨w.heap.size + 1, 7, none⟩ = some (.slice none 0 0) := by rw [cell_of_block MX]; rfl
            have r8 : w13.cell? ⟨w.heap.size + 1, 8, none⟩ = some (.slice none 0 0) := by rw [cell_of_block MX]; rfl
            have rf : ∀ i, w13.frozen? ⟨w.heap.size + 1, i, none⟩ = false := frozen_of_block MX
            go_wp2_with fail
            (try simp only [Exit.inBlock, Exit.then])
            refine bodyPost_ret (v := .tuple #[.agg #[.string ⟨#[]⟩, .string ⟨#[]⟩, .string ⟨#[]⟩, .int .i64 0, .bool false, .int .i64 0, .string ⟨#[]⟩, .slice none 0 0, .slice none 0 0], .int .i64 n]) ?_ rfl (by rw [HF.out]; exact ⟨[.int .i64 0, .bool false, .int .i64 0, .string ⟨#[]⟩, .slice none 0 0, .slice none 0 0], rfl, null_lies _ _, set9_below BX (by omega) _ _ _ _ _ _ _ _ _⟩)
            rw [results_cell_tmp rfl]
            go_simp
        | false =>
          have HVL : Hid (vluF v op = (nullV, true)) := by show _ = _; rw [vluF, if_neg (by rw [hx]; simp)]
          clear hx
          have HLY : Hid (nullV.lies false w9 (From (g + 1) w9) [.int .i64 0, .bool false, .int .i64 0, .string ⟨#[]⟩, .slice none 0 0, .slice none 0 0]) := null_lies _ _
          have CF := fault_any op pa noS nullV false (From (g + 1) w9) [.int .i64 0, .bool false, .int .i64 0, .string ⟨#[]⟩, .slice none 0 0, .slice none 0 0] w9 HLY.out (fun b h => h.2) null_wt hpa (Nat.zero_le _)
          obtain ⟨n, hn⟩ : ∃ n, fltF op pa noS nullV = n := ⟨_, rfl⟩
          rw [hn] at CF
          have HN := hmk hn
          have CFH := hmk CF
          clear CF hn
          have q0 : w9.cell? ⟨g, 0, none⟩ = some (.string op) := by rw [cell_of_block N_w9]; rfl
          have q1 : w9.cell? ⟨g, 1, none⟩ = some (.string pa) := by rw [cell_of_block N_w9]; rfl
          have q2 : w9.cell? ⟨g, 2, none⟩ = some (.string ⟨#[]⟩) := by rw [cell_of_block N_w9]; rfl
          have q3 : w9.cell? ⟨g, 3, none⟩ = some (.int .i64 0) := by rw [cell_of_block N_w9]; rfl
          have q4 : w9.cell? ⟨g, 4, none⟩ = some (.bool false) := by rw [cell_of_block N_w9]; rfl
          have q5 : w9.cell? ⟨g, 5, none⟩ = some (.int .i64 0) := by rw [cell_of_block N_w9]; rfl
          have q6 : w9.cell? ⟨g, 6, none⟩ = some (.string ⟨#[]⟩) := by rw [cell_of_block N_w9]; rfl
          have q7 : w9.cell? ⟨g, 7, none⟩ = some (.slice none 0 0) := by rw [cell_of_block N_w9]; rfl
          have q8 : w9.cell? ⟨g, 8, none⟩ = some (.slice none 0 0) := by rw [cell_of_block N_w9]; rfl
          have qf : ∀ i, w9.frozen? ⟨g, i, none⟩ = false := frozen_of_block N_w9
          go_wp2_with fail
          refine CFH.out.mono ?_
          rintro e w13 ⟨rfl, b13⟩
          have zz13 := b13.size
          have D13 := D9.trans (b13.mono (by have := D9.size; omega))
          have N_w13 := (b13.block g (by omega)).trans N_w9
          have HLF : Hid (nullV.lies false w13 (From (g + 1) w13) [.int .i64 0, .bool false, .int .i64 0, .string ⟨#[]⟩, .slice none 0 0, .slice none 0 0]) := V.lies_keep (fun h => h) (fun y hy => b13.block y hy.2) (fun y hy => ⟨hy.1, by have := hy.2; omega⟩) _ HLY.out
          clear CFH q0 q1 q2 q3 q4 q5 q6 q7 q8 qf
          obtain ⟨_, MX, _, BX, _⟩ := HK.out w13 D13
          by_cases hn : n = 0
          · subst hn
            have HF : Hid (rdF v = (0, (op, pa, noS, nullV))) := by show _ = _; rw [rdF, HWO.out]; dsimp only; rw [if_neg (by simp), if_neg (by rw [HOK.out.2]; simp), if_neg (by rw [HWP.out]; simp), if_neg (by rw [HFR.out]; simp), if_neg (by rw [HVL.out]; simp), if_neg (by rw [HWP.out, HFR.out, HVL.out, HN.out]; simp), HWP.out, HFR.out, HVL.out]
            have q0 : w13.cell? ⟨g, 0, none⟩ = some (.string op) := by rw [cell_of_block N_w13]; rfl
            have q1 : w13.cell? ⟨g, 1, none⟩ = some (.string pa) := by rw [cell_of_block N_w13]; rfl
            have q2 : w13.cell? ⟨g, 2, none⟩ = some (.string ⟨#[]⟩) := by rw [cell_of_block N_w13]; rfl
            have q3 : w13.cell? ⟨g, 3, none⟩ = some (.int .i64 0) := by rw [cell_of_block N_w13]; rfl
            have q4 : w13.cell? ⟨g, 4, none⟩ = some (.bool false) := by rw [cell_of_block N_w13]; rfl
            have q5 : w13.cell? ⟨g, 5, none⟩ = some (.int .i64 0) := by rw [cell_of_block N_w13]; rfl
            have q6 : w13.cell? ⟨g, 6, none⟩ = some (.string ⟨#[]⟩) := by rw [cell_of_block N_w13]; rfl
            have q7 : w13.cell? ⟨g, 7, none⟩ = some (.slice none 0 0) := by rw [cell_of_block N_w13]; rfl
            have q8 : w13.cell? ⟨g, 8, none⟩ = some (.slice none 0 0) := by rw [cell_of_block N_w13]; rfl
            have qf : ∀ i, w13.frozen? ⟨g, i, none⟩ = false := frozen_of_block N_w13
            have r0 : w13.cell? ⟨w.heap.size + 1, 0, none⟩ = some (.string ⟨#[]⟩) := by rw [cell_of_block MX]; rfl
            have r1 : w13.cell? ⟨w.heap.size + 1, 1, none⟩ = some (.string ⟨#[]⟩) := by rw [cell_of_block MX]; rfl
            have r2 : w13.cell? ⟨w.heap.size + 1, 2, none⟩ = some (.string ⟨#[]⟩) := by rw [cell_of_block MX]; rfl
            have r3 : w13.cell? ⟨w.heap.size + 1, 3, none⟩ = some (.int .i64 0) := by rw [cell_of_block MX]; rfl
            have r4 : w13.cell? ⟨w.heap.size + 1, 4, none⟩ = some (.bool false) := by rw [cell_of_block MX]; rfl
            have r5 : w13.cell? ⟨w.heap.size + 1, 5, none⟩ = some (.int .i64 0) := by rw [cell_of_block MX]; rfl
            have r6 : w13.cell? ⟨w.heap.size + 1, 6, none⟩ = some (.string ⟨#[]⟩) := by rw [cell_of_block MX]; rfl
            have r7 : w13.cell? ⟨w.heap.size + 1, 7, none⟩ = some (.slice none 0 0) := by rw [cell_of_block MX]; rfl
            have r8 : w13.cell? ⟨w.heap.size + 1, 8, none⟩ = some (.slice none 0 0) := by rw [cell_of_block MX]; rfl
            have rf : ∀ i, w13.frozen? ⟨w.heap.size + 1, i, none⟩ = false := frozen_of_block MX
            go_wp2_with fail
            (try simp only [Exit.inBlock, Exit.then])
            refine bodyPost_ret (v := .tuple #[.agg #[.string op, .string pa, .string ⟨#[]⟩, .int .i64 0, .bool false, .int .i64 0, .string ⟨#[]⟩, .slice none 0 0, .slice none 0 0], .int .i64 0]) ?_ rfl (by rw [HF.out]; exact ⟨[.int .i64 0, .bool false, .int .i64 0, .string ⟨#[]⟩, .slice none 0 0, .slice none 0 0], rfl, V.lies_keep (fun h => h) (fun y hy => set9_other _ _ _ _ _ _ _ _ _ _ _ y (by have := hy.1; omega)) (fun y hy => ⟨by have := hy.1; omega, Nat.lt_of_lt_of_le hy.2 (set9_below (Below.refl 0 w13) (Nat.zero_le _) _ _ _ _ _ _ _ _ _).size⟩) _ HLF.out, set9_below BX (by omega) _ _ _ _ _ _ _ _ _⟩)
            rw [results_cell_tmp rfl]
            go_simp
          · have hn0 : n ≠ 0 := hn
            have HF : Hid (rdF v = (n, zStp)) := by show _ = _; rw [rdF, HWO.out]; dsimp only; rw [if_neg (by simp), if_neg (by rw [HOK.out.2]; simp), if_neg (by rw [HWP.out]; simp), if_neg (by rw [HFR.out]; simp), if_neg (by rw [HVL.out]; simp), if_pos (by rw [HWP.out, HFR.out, HVL.out, HN.out]; exact hn0), HWP.out, HFR.out, HVL.out, HN.out]
            have yn : ((n : Int) != 0) = true := by simp; omega
            have yn' : ((n : Int) == 0) = false := by simp; omega
            have r0 : w13.cell? ⟨w.heap.size + 1, 0, none⟩ = some (.string ⟨#[]⟩) := by rw [cell_of_block MX]; rfl
            have r1 : w13.cell? ⟨w.heap.size + 1, 1, none⟩ = some (.string ⟨#[]⟩) := by rw [cell_of_block MX]; rfl
            have r2 : w13.cell? ⟨w.heap.size + 1, 2, none⟩ = some (.string ⟨#[]⟩) := by rw [cell_of_block MX]; rfl
            have r3 : w13.cell? ⟨w.heap.size + 1, 3, none⟩ = some (.int .i64 0) := by rw [cell_of_block MX]; rfl
            have r4 : w13.cell? ⟨w.heap.size + 1, 4, none⟩ = some (.bool false) := by rw [cell_of_block MX]; rfl
            have r5 : w13.cell? ⟨w.heap.size + 1, 5, none⟩ = some (.int .i64 0) := by rw [cell_of_block MX]; rfl
            have r6 : w13.cell? ⟨w.heap.size + 1, 6, none⟩ = some (.string ⟨#[]⟩) := by rw [cell_of_block MX]; rfl
            have r7 : w13.cell? ⟨w.heap.size + 1, 7, none⟩ = some (.slice none 0 0) := by rw [cell_of_block MX]; rfl
            have r8 : w13.cell? ⟨w.heap.size + 1, 8, none⟩ = some (.slice none 0 0) := by rw [cell_of_block MX]; rfl
            have rf : ∀ i, w13.frozen? ⟨w.heap.size + 1, i, none⟩ = false := frozen_of_block MX
            go_wp2_with fail
            (try simp only [Exit.inBlock, Exit.then])
            refine bodyPost_ret (v := .tuple #[.agg #[.string ⟨#[]⟩, .string ⟨#[]⟩, .string ⟨#[]⟩, .int .i64 0, .bool false, .int .i64 0, .string ⟨#[]⟩, .slice none 0 0, .slice none 0 0], .int .i64 n]) ?_ rfl (by rw [HF.out]; exact ⟨[.int .i64 0, .bool false, .int .i64 0, .string ⟨#[]⟩, .slice none 0 0, .slice none 0 0], rfl, null_lies _ _, set9_below BX (by omega) _ _ _ _ _ _ _ _ _⟩)
            rw [results_cell_tmp rfl]
            go_simp
end Go.Proofs.YtjgbjhahmgegiaaGreatDoor
