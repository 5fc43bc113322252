import Derived.Test.YtjgbjhahmgegiaaGreatDoorPjI
/- what a value says as a step: the program's read. -/
set_option linter.unusedSimpArgs false
set_option linter.unusedVariables false
set_option maxRecDepth 100000
namespace Go.Proofs.YtjgbjhahmgegiaaGreatDoor
open Go.RowKit Go.Lib
set_option maxHeartbeats 8000000 in
theorem pread_any (b : Nat) (v : V) (R : Bool) (S : Nat → Prop) (cs : List Value) (w : World) (hm : OpM w b) (tp : Tp w) (hv : v.lies R w S cs) (hS : ∀ b, S b → b < w.heap.size) (hwt : v.wt ≤ 2147483648) (hgw : (getV v kVal).1.wt ≤ 2147483648) (hop : (wrdF v kOp).1.size ≤ 2147483648) (hpa : (wrdF v kPath).1.size ≤ 2147483648) (hfr : (wrdF v kFrom).1.size ≤ 2147483648) :
    Calls Tryz.prog 21 #[.map (some b), .agg cs.toArray] w (RdP (rdF v) w) := by
  obtain ⟨vk, vb, vi, vs, val, vnl, vcl, vam, vnm, vcm, rfl⟩ := V.ten hv
  have HV := hmk hv
  have z0 : ((w.alloc (.cells #[.int .i64 vk, .bool vb, .int .i64 vi, .string vs, .slice val vnl vcl, .slice vam vnm vcm] 25)).alloc (.cells #[.string ⟨#[]⟩, .string ⟨#[]⟩, .string ⟨#[]⟩, .int .i64 0, .bool false, .int .i64 0, .string ⟨#[]⟩, .slice none 0 0, .slice none 0 0] 51)).heap.size = w.heap.size + 2 := by rw [alloc_size, alloc_size]
  have B0 : Below w.heap.size w ((w.alloc (.cells #[.int .i64 vk, .bool vb, .int .i64 vi, .string vs, .slice val vnl vcl, .slice vam vnm vcm] 25)).alloc (.cells #[.string ⟨#[]⟩, .string ⟨#[]⟩, .string ⟨#[]⟩, .int .i64 0, .bool false, .int .i64 0, .string ⟨#[]⟩, .slice none 0 0, .slice none 0 0] 51)) := two_below w _ _
  have h0 := alloc2_keep1 w (.cells #[.int .i64 vk, .bool vb, .int .i64 vi, .string vs, .slice val vnl vcl, .slice vam vnm vcm] 25) (.cells #[.string ⟨#[]⟩, .string ⟨#[]⟩, .string ⟨#[]⟩, .int .i64 0, .bool false, .int .i64 0, .string ⟨#[]⟩, .slice none 0 0, .slice none 0 0] 51)
  have h1 := alloc2_new w (.cells #[.int .i64 vk, .bool vb, .int .i64 vi, .string vs, .slice val vnl vcl, .slice vam vnm vcm] 25) (.cells #[.string ⟨#[]⟩, .string ⟨#[]⟩, .string ⟨#[]⟩, .int .i64 0, .bool false, .int .i64 0, .string ⟨#[]⟩, .slice none 0 0, .slice none 0 0] 51)
  obtain ⟨W0, hW0⟩ : ∃ W0, W0 = (w.alloc (.cells #[.int .i64 vk, .bool vb, .int .i64 vi, .string vs, .slice val vnl vcl, .slice vam vnm vcm] 25)).alloc (.cells #[.string ⟨#[]⟩, .string ⟨#[]⟩, .string ⟨#[]⟩, .int .i64 0, .bool false, .int .i64 0, .string ⟨#[]⟩, .slice none 0 0, .slice none 0 0] 51) := ⟨_, rfl⟩
  rw [← hW0] at z0 B0 h0 h1
  have HK : Hid (∀ W, Below W0.heap.size W0 W → W.heap[w.heap.size]? = some (.cells #[.int .i64 vk, .bool vb, .int .i64 vi, .string vs, .slice val vnl vcl, .slice vam vnm vcm] 25) ∧ W.heap[w.heap.size + 1]? = some (.cells #[.string ⟨#[]⟩, .string ⟨#[]⟩, .string ⟨#[]⟩, .int .i64 0, .bool false, .int .i64 0, .string ⟨#[]⟩, .slice none 0 0, .slice none 0 0] 51) ∧ v.lies R W S [.int .i64 vk, .bool vb, .int .i64 vi, .string vs, .slice val vnl vcl, .slice vam vnm vcm] ∧ Below w.heap.size w W ∧ (∀ b, S b → b < W.heap.size) ∧ Tp W ∧ OpM W b) := fun W h => by
    have bW := B0.trans (h.mono (by omega))
    exact ⟨(h.block _ (by omega)).trans h0, (h.block _ (by omega)).trans h1, V.lies_keep (fun h => h) (fun x hx => bW.block x (hS x hx)) (fun _ h => h) _ HV.out, bW, fun x hx => by have := hS x hx; have := bW.size; omega, tp.below bW tp.z, hm.below bW⟩
  have HT : Hid (∀ W, Below W0.heap.size W0 W → ∀ key, Calls Tryz.prog 39 #[.agg [.int .i64 vk, .bool vb, .int .i64 vi, .string vs, .slice val vnl vcl, .slice vam vnm vcm].toArray, .string key] W (WrP (wrdF v key) W)) := fun W h key => word_any v key R S _ W ⟨(HK.out W h).2.2.2.2.2.1.u, (HK.out W h).2.2.2.2.2.1.z⟩ (HK.out W h).2.2.1 (HK.out W h).2.2.2.2.1 hwt
  have HG : Hid (∀ W, Below W0.heap.size W0 W → Calls Tryz.prog 40 #[.agg [.int .i64 vk, .bool vb, .int .i64 vi, .string vs, .slice val vnl vcl, .slice vam vnm vcm].toArray, .string kVal] W (GtPost (getV v kVal) W)) := fun W h => vget_any v kVal R S _ W ⟨(HK.out W h).2.2.2.2.2.1.u, (HK.out W h).2.2.2.2.2.1.z⟩ (HK.out W h).2.2.1 (HK.out W h).2.2.2.2.1 (by omega)
  clear h0 h1 hv HV hm tp
  obtain ⟨⟨op, opOk⟩, hwop⟩ : ∃ p, wrdF v kOp = p := ⟨_, rfl⟩
  have HWO := hmk hwop
  rw [hwop] at hop
  obtain ⟨⟨pa, paOk⟩, hwpa⟩ : ∃ p, wrdF v kPath = p := ⟨_, rfl⟩
  have HWP := hmk hwpa
  obtain ⟨⟨fr, frOk⟩, hwfr⟩ : ∃ p, wrdF v kFrom = p := ⟨_, rfl⟩
  have HWF := hmk hwfr
  rw [hwpa] at hpa
  rw [hwfr] at hfr
  dsimp only at hop hpa hfr
  obtain ⟨⟨y, yOk⟩, hgv⟩ : ∃ p, getV v kVal = p := ⟨_, rfl⟩
  have HGV := hmk hgv
  rw [hgv] at hgw
  dsimp only at hgw
  clear hwop hwpa hwfr hgv
  have N_w3 := heap_alloc_new W0 (.cells #[.string ⟨#[]⟩, .string ⟨#[]⟩, .string ⟨#[]⟩, .int .i64 0, .bool false, .int .i64 0, .string ⟨#[]⟩, .slice none 0 0, .slice none 0 0] 51)
  have D3 : Below W0.heap.size W0 (W0.alloc (.cells #[.string ⟨#[]⟩, .string ⟨#[]⟩, .string ⟨#[]⟩, .int .i64 0, .bool false, .int .i64 0, .string ⟨#[]⟩, .slice none 0 0, .slice none 0 0] 51)) := (Below.refl _ _).alloc (Nat.le_refl _) _
  have z3 := alloc_size W0 (.cells #[.string ⟨#[]⟩, .string ⟨#[]⟩, .string ⟨#[]⟩, .int .i64 0, .bool false, .int .i64 0, .string ⟨#[]⟩, .slice none 0 0, .slice none 0 0] 51)
  obtain ⟨w3, hw3⟩ : ∃ w3, w3 = W0.alloc (.cells #[.string ⟨#[]⟩, .string ⟨#[]⟩, .string ⟨#[]⟩, .int .i64 0, .bool false, .int .i64 0, .string ⟨#[]⟩, .slice none 0 0, .slice none 0 0] 51) := ⟨_, rfl⟩
  rw [← hw3] at N_w3 D3 z3
  go_enter Tryz.func21, Tryz.ntmps21
  go_upto_region 3 with fail
  rw [← hW0, ← hw3]
  obtain ⟨g, hg⟩ : ∃ g, w.heap.size + 1 + 1 = g := ⟨_, rfl⟩
  have hgw0 : W0.heap.size = g := by omega
  rw [hgw0] at N_w3 z3
  (try rw [hg])
  clear hW0 hw3
  have C4 := hmk (HT.out w3 D3 kOp)
  rw [HWO.out] at C4
  obtain ⟨NV, _, _, _, _, _, _⟩ := HK.out w3 D3
  have a0 : w3.cell? ⟨w.heap.size, 0, none⟩ = some (.int .i64 vk) := by rw [cell_of_block NV]; rfl
  have a1 : w3.cell? ⟨w.heap.size, 1, none⟩ = some (.bool vb) := by rw [cell_of_block NV]; rfl
  have a2 : w3.cell? ⟨w.heap.size, 2, none⟩ = some (.int .i64 vi) := by rw [cell_of_block NV]; rfl
  have a3 : w3.cell? ⟨w.heap.size, 3, none⟩ = some (.string vs) := by rw [cell_of_block NV]; rfl
  have a4 : w3.cell? ⟨w.heap.size, 4, none⟩ = some (.slice val vnl vcl) := by rw [cell_of_block NV]; rfl
  have a5 : w3.cell? ⟨w.heap.size, 5, none⟩ = some (.slice vam vnm vcm) := by rw [cell_of_block NV]; rfl
  clear NV
  go_wp2_with fail
  refine C4.out.mono ?_
  rintro e w4 ⟨rfl, b4⟩
  have zz4 := b4.size
  have D4 := D3.trans (b4.mono (by have := D3.size; omega))
  have N4 := (b4.block g (by omega)).trans N_w3
  clear C4 a0 a1 a2 a3 a4 a5
  have q0 : w4.cell? ⟨g, 0, none⟩ = some (.string ⟨#[]⟩) := by rw [cell_of_block N4]; rfl
  have q1 : w4.cell? ⟨g, 1, none⟩ = some (.string ⟨#[]⟩) := by rw [cell_of_block N4]; rfl
  have q2 : w4.cell? ⟨g, 2, none⟩ = some (.string ⟨#[]⟩) := by rw [cell_of_block N4]; rfl
  have q3 : w4.cell? ⟨g, 3, none⟩ = some (.int .i64 0) := by rw [cell_of_block N4]; rfl
  have q4 : w4.cell? ⟨g, 4, none⟩ = some (.bool false) := by rw [cell_of_block N4]; rfl
  have q5 : w4.cell? ⟨g, 5, none⟩ = some (.int .i64 0) := by rw [cell_of_block N4]; rfl
  have q6 : w4.cell? ⟨g, 6, none⟩ = some (.string ⟨#[]⟩) := by rw [cell_of_block N4]; rfl
  have q7 : w4.cell? ⟨g, 7, none⟩ = some (.slice none 0 0) := by rw [cell_of_block N4]; rfl
  have q8 : w4.cell? ⟨g, 8, none⟩ = some (.slice none 0 0) := by rw [cell_of_block N4]; rfl
  have qf : ∀ i, w4.frozen? ⟨g, i, none⟩ = false := frozen_of_block N4
  go_upto_region 4 with fail
  have N_w5 : (w4.setCell ⟨g, 0, none⟩ (.string op)).heap[g]? = some (.cells #[.string op, .string ⟨#[]⟩, .string ⟨#[]⟩, .int .i64 0, .bool false, .int .i64 0, .string ⟨#[]⟩, .slice none 0 0, .slice none 0 0] 51 (0, 0)) := heap_setCell_same w4 g 0 _ 51 _ N4
  have D_w5 := D4.setCell (p := ⟨g, 0, none⟩) (show W0.heap.size ≤ g by omega) (.string op)
  have Z_w5 := ((Below.refl 0 w4).setCell (p := ⟨g, 0, none⟩) (Nat.zero_le _) (.string op)).size
  generalize w4.setCell ⟨g, 0, none⟩ (.string op) = w5 at *
  clear q0 q1 q2 q3 q4 q5 q6 q7 q8 qf N4 D4 b4
  rcases Bool.eq_false_or_eq_true opOk with rfl | rfl
  rotate_left
  · obtain ⟨_, MX, _, BX, _, _, _⟩ := HK.out w5 D_w5
    have HF : Hid (rdF v = (60, zStp)) := by show _ = _; rw [rdF, HWO.out]; dsimp only; rw [if_pos rfl]
    have r0 : w5.cell? ⟨w.heap.size + 1, 0, none⟩ = some (.string ⟨#[]⟩) := by rw [cell_of_block MX]; rfl
    have r1 : w5.cell? ⟨w.heap.size + 1, 1, none⟩ = some (.string ⟨#[]⟩) := by rw [cell_of_block MX]; rfl
    have r2 : w5.cell? ⟨w.heap.size + 1, 2, none⟩ = some (.string ⟨#[]⟩) := by rw [cell_of_block MX]; rfl
    have r3 : w5.cell? ⟨w.heap.size + 1, 3, none⟩ = some (.int .i64 0) := by rw [cell_of_block MX]; rfl
    have r4 : w5.cell? ⟨w.heap.size + 1, 4, none⟩ = some (.bool false) := by rw [cell_of_block MX]; rfl
    have r5 : w5.cell? ⟨w.heap.size + 1, 5, none⟩ = some (.int .i64 0) := by rw [cell_of_block MX]; rfl
    have r6 : w5.cell? ⟨w.heap.size + 1, 6, none⟩ = some (.string ⟨#[]⟩) := by rw [cell_of_block MX]; rfl
    have r7 : w5.cell? ⟨w.heap.size + 1, 7, none⟩ = some (.slice none 0 0) := by rw [cell_of_block MX]; rfl
    have r8 : w5.cell? ⟨w.heap.size + 1, 8, none⟩ = some (.slice none 0 0) := by rw [cell_of_block MX]; rfl
    have rf : ∀ i, w5.frozen? ⟨w.heap.size + 1, i, none⟩ = false := frozen_of_block MX
    go_wp2_with fail
    (try simp only [Exit.inBlock, Exit.then])
    refine bodyPost_ret (v := .tuple #[.agg #[.string ⟨#[]⟩, .string ⟨#[]⟩, .string ⟨#[]⟩, .int .i64 0, .bool false, .int .i64 0, .string ⟨#[]⟩, .slice none 0 0, .slice none 0 0], .int .i64 60]) ?_ rfl (by rw [HF.out]; exact ⟨[.int .i64 0, .bool false, .int .i64 0, .string ⟨#[]⟩, .slice none 0 0, .slice none 0 0], rfl, null_lies _ _, set9_below BX (by omega) _ _ _ _ _ _ _ _ _⟩)
    rw [results_cell_tmp rfl]
    go_simp
  obtain ⟨_, MX, _, BX, _, _, OX⟩ := HK.out w5 D_w5
  have LK := look_any OX op (Nat.le_trans hop (by simp only [maxLen]; omega))
  have hsf := fun (W : World) (a : Addr) (n : Nat) (m : Mode) => run_store Tryz.prog W a (.func (.func n) #[] #[]) m rfl
  have hsn := fun (W : World) (a : Addr) (m : Mode) => run_store Tryz.prog W a .nilFunc m rfl
  have q0 : w5.cell? ⟨g, 0, none⟩ = some (.string op) := by rw [cell_of_block N_w5]; rfl
  have q1 : w5.cell? ⟨g, 1, none⟩ = some (.string ⟨#[]⟩) := by rw [cell_of_block N_w5]; rfl
  have q2 : w5.cell? ⟨g, 2, none⟩ = some (.string ⟨#[]⟩) := by rw [cell_of_block N_w5]; rfl
  have q3 : w5.cell? ⟨g, 3, none⟩ = some (.int .i64 0) := by rw [cell_of_block N_w5]; rfl
  have q4 : w5.cell? ⟨g, 4, none⟩ = some (.bool false) := by rw [cell_of_block N_w5]; rfl
  have q5 : w5.cell? ⟨g, 5, none⟩ = some (.int .i64 0) := by rw [cell_of_block N_w5]; rfl
  have q6 : w5.cell? ⟨g, 6, none⟩ = some (.string ⟨#[]⟩) := by rw [cell_of_block N_w5]; rfl
  have q7 : w5.cell? ⟨g, 7, none⟩ = some (.slice none 0 0) := by rw [cell_of_block N_w5]; rfl
  have q8 : w5.cell? ⟨g, 8, none⟩ = some (.slice none 0 0) := by rw [cell_of_block N_w5]; rfl
  have qf : ∀ i, w5.frozen? ⟨g, i, none⟩ = false := frozen_of_block N_w5
  cases ho : opOf op with
  | none =>
    have HF : Hid (rdF v = (60, zStp)) := by show _ = _; rw [rdF, HWO.out]; dsimp only; rw [if_neg (by simp), if_pos (by rw [isF, ho]; rfl)]
    rw [ho] at LK
    dsimp only at LK
    have DA : Below W0.heap.size W0 (w5.alloc (.cells #[.bool false, .bool false, .nilFunc] 63)) := D_w5.alloc (by have := D_w5.size; omega) _
    clear ho MX BX
    obtain ⟨_, MX, _, BX, _, _, _⟩ := HK.out _ DA
    go_upto_region 7 with fail
    clear LK
    generalize (w5.alloc (.cells #[.bool false, .bool false, .nilFunc] 63)) = wA at *
    have r0 : wA.cell? ⟨w.heap.size + 1, 0, none⟩ = some (.string ⟨#[]⟩) := by rw [cell_of_block MX]; rfl
    have r1 : wA.cell? ⟨w.heap.size + 1, 1, none⟩ = some (.string ⟨#[]⟩) := by rw [cell_of_block MX]; rfl
    have r2 : wA.cell? ⟨w.heap.size + 1, 2, none⟩ = some (.string ⟨#[]⟩) := by rw [cell_of_block MX]; rfl
    have r3 : wA.cell? ⟨w.heap.size + 1, 3, none⟩ = some (.int .i64 0) := by rw [cell_of_block MX]; rfl
    have r4 : wA.cell? ⟨w.heap.size + 1, 4, none⟩ = some (.bool false) := by rw [cell_of_block MX]; rfl
    have r5 : wA.cell? ⟨w.heap.size + 1, 5, none⟩ = some (.int .i64 0) := by rw [cell_of_block MX]; rfl
    have r6 : wA.cell? ⟨w.heap.size + 1, 6, none⟩ = some (.string ⟨#[]⟩) := by rw [cell_of_block MX]; rfl
    have r7 : wA.cell? ⟨w.heap.size + 1, 7, none⟩ = some (.slice none 0 0) := by rw [cell_of_block MX]; rfl
    have r8 : wA.cell? ⟨w.heap.size + 1, 8, none⟩ = some (.slice none 0 0) := by rw [cell_of_block MX]; rfl
    have rf : ∀ i, wA.frozen? ⟨w.heap.size + 1, i, none⟩ = false := frozen_of_block MX
    go_wp2_with fail
    (try simp only [Exit.inBlock, Exit.then])
    refine bodyPost_ret (v := .tuple #[.agg #[.string ⟨#[]⟩, .string ⟨#[]⟩, .string ⟨#[]⟩, .int .i64 0, .bool false, .int .i64 0, .string ⟨#[]⟩, .slice none 0 0, .slice none 0 0], .int .i64 60]) ?_ rfl (by rw [HF.out]; exact ⟨[.int .i64 0, .bool false, .int .i64 0, .string ⟨#[]⟩, .slice none 0 0, .slice none 0 0], rfl, null_lies _ _, set9_below BX (by omega) _ _ _ _ _ _ _ _ _⟩)
    rw [results_cell_tmp rfl]
    go_simp
  | some r =>
    obtain ⟨f, x, n⟩ := r
    have HI : Hid (isF op = true ∧ fromF op = f ∧ valF op = x) := ⟨by rw [isF, ho]; rfl, by rw [fromF, ho], by rw [valF, ho]⟩
    rw [ho] at LK
    dsimp only [opV] at LK
    have bA : Below w5.heap.size w5 (w5.alloc (.cells #[.bool f, .bool x, .func (.func n) #[] #[]] 63)) := (Below.refl _ _).alloc (Nat.le_refl _) _
    have zA := alloc_size w5 (.cells #[.bool f, .bool x, .func (.func n) #[] #[]] 63)
    have O_wO := heap_alloc_new w5 (.cells #[.bool f, .bool x, .func (.func n) #[] #[]] 63)
    have DO := D_w5.trans (bA.mono (by have := D_w5.size; omega))
    have N_wO := (bA.block g (by omega)).trans N_w5
    clear ho MX BX OX
    go_upto_region 9 with fail
    clear LK hsf hsn q0 q1 q2 q3 q4 q5 q6 q7 q8 qf
    generalize (w5.alloc (.cells #[.bool f, .bool x, .func (.func n) #[] #[]] 63)) = wO at *
    obtain ⟨go, hgo⟩ : ∃ g, w5.heap.size = g := ⟨_, rfl⟩
    have hggo : g < go := by omega
    rw [hgo] at O_wO zA bA ⊢
    clear bA N_w5
    have C10 := hmk (HT.out wO DO kPath)
    rw [HWP.out] at C10
    obtain ⟨NV, _, _, _, _, _, _⟩ := HK.out wO DO
    have a0 : wO.cell? ⟨w.heap.size, 0, none⟩ = some (.int .i64 vk) := by rw [cell_of_block NV]; rfl
    have a1 : wO.cell? ⟨w.heap.size, 1, none⟩ = some (.bool vb) := by rw [cell_of_block NV]; rfl
    have a2 : wO.cell? ⟨w.heap.size, 2, none⟩ = some (.int .i64 vi) := by rw [cell_of_block NV]; rfl
    have a3 : wO.cell? ⟨w.heap.size, 3, none⟩ = some (.string vs) := by rw [cell_of_block NV]; rfl
    have a4 : wO.cell? ⟨w.heap.size, 4, none⟩ = some (.slice val vnl vcl) := by rw [cell_of_block NV]; rfl
    have a5 : wO.cell? ⟨w.heap.size, 5, none⟩ = some (.slice vam vnm vcm) := by rw [cell_of_block NV]; rfl
    clear NV
    go_wp2_with fail
    refine C10.out.mono ?_
    rintro e w10 ⟨rfl, b10⟩
    have zz10 := b10.size
    have D10 := DO.trans (b10.mono (by have := DO.size; omega))
    have N10 := (b10.block g (by omega)).trans N_wO
    have O10 := (b10.block go (by omega)).trans O_wO
    clear C10 a0 a1 a2 a3 a4 a5
    have q0 : w10.cell? ⟨g, 0, none⟩ = some (.string op) := by rw [cell_of_block N10]; rfl
    have q1 : w10.cell? ⟨g, 1, none⟩ = some (.string ⟨#[]⟩) := by rw [cell_of_block N10]; rfl
    have q2 : w10.cell? ⟨g, 2, none⟩ = some (.string ⟨#[]⟩) := by rw [cell_of_block N10]; rfl
    have q3 : w10.cell? ⟨g, 3, none⟩ = some (.int .i64 0) := by rw [cell_of_block N10]; rfl
    have q4 : w10.cell? ⟨g, 4, none⟩ = some (.bool false) := by rw [cell_of_block N10]; rfl
    have q5 : w10.cell? ⟨g, 5, none⟩ = some (.int .i64 0) := by rw [cell_of_block N10]; rfl
    have q6 : w10.cell? ⟨g, 6, none⟩ = some (.string ⟨#[]⟩) := by rw [cell_of_block N10]; rfl
    have q7 : w10.cell? ⟨g, 7, none⟩ = some (.slice none 0 0) := by rw [cell_of_block N10]; rfl
    have q8 : w10.cell? ⟨g, 8, none⟩ = some (.slice none 0 0) := by rw [cell_of_block N10]; rfl
    have qf : ∀ i, w10.frozen? ⟨g, i, none⟩ = false := frozen_of_block N10
    go_upto_region 10 with fail
    have N_w11 : (w10.setCell ⟨g, 1, none⟩ (.string pa)).heap[g]? = some (.cells #[.string op, .string pa, .string ⟨#[]⟩, .int .i64 0, .bool false, .int .i64 0, .string ⟨#[]⟩, .slice none 0 0, .slice none 0 0] 51 (0, 0)) := heap_setCell_same w10 g 1 _ 51 _ N10
    have O_w11 : (w10.setCell ⟨g, 1, none⟩ (.string pa)).heap[go]? = some (.cells #[.bool f, .bool x, .func (.func n) #[] #[]] 63 (0, 0)) := by rw [Below.heap_setCell _ _ _ _ (show go ≠ g by omega)]; exact O10
    have D_w11 := D10.setCell (p := ⟨g, 1, none⟩) (show W0.heap.size ≤ g by omega) (.string pa)
    have Z_w11 := ((Below.refl 0 w10).setCell (p := ⟨g, 1, none⟩) (Nat.zero_le _) (.string pa)).size
    generalize w10.setCell ⟨g, 1, none⟩ (.string pa) = w11 at *
    clear q0 q1 q2 q3 q4 q5 q6 q7 q8 qf N10 D10 b10 O10
    rcases Bool.eq_false_or_eq_true paOk with rfl | rfl
    rotate_left
    · obtain ⟨_, MX, _, BX, _, _, _⟩ := HK.out w11 D_w11
      have HF : Hid (rdF v = (60, zStp)) := by show _ = _; rw [rdF, HWO.out]; dsimp only; rw [if_neg (by simp), if_neg (by rw [HI.out.1]; simp), if_pos (by rw [HWP.out])]
      have r0 : w11.cell? ⟨w.heap.size + 1, 0, none⟩ = some (.string ⟨#[]⟩) := by rw [cell_of_block MX]; rfl
      have r1 : w11.cell? ⟨w.heap.size + 1, 1, none⟩ = some (.string ⟨#[]⟩) := by rw [cell_of_block MX]; rfl
      have r2 : w11.cell? ⟨w.heap.size + 1, 2, none⟩ = some (.string ⟨#[]⟩) := by rw [cell_of_block MX]; rfl
      have r3 : w11.cell? ⟨w.heap.size + 1, 3, none⟩ = some (.int .i64 0) := by rw [cell_of_block MX]; rfl
      have r4 : w11.cell? ⟨w.heap.size + 1, 4, none⟩ = some (.bool false) := by rw [cell_of_block MX]; rfl
      have r5 : w11.cell? ⟨w.heap.size + 1, 5, none⟩ = some (.int .i64 0) := by rw [cell_of_block MX]; rfl
      have r6 : w11.cell? ⟨w.heap.size + 1, 6, none⟩ = some (.string ⟨#[]⟩) := by rw [cell_of_block MX]; rfl
      have r7 : w11.cell? ⟨w.heap.size + 1, 7, none⟩ = some (.slice none 0 0) := by rw [cell_of_block MX]; rfl
      have r8 : w11.cell? ⟨w.heap.size + 1, 8, none⟩ = some (.slice none 0 0) := by rw [cell_of_block MX]; rfl
      have rf : ∀ i, w11.frozen? ⟨w.heap.size + 1, i, none⟩ = false := frozen_of_block MX
      go_wp2_with fail
      (try simp only [Exit.inBlock, Exit.then])
      refine bodyPost_ret (v := .tuple #[.agg #[.string ⟨#[]⟩, .string ⟨#[]⟩, .string ⟨#[]⟩, .int .i64 0, .bool false, .int .i64 0, .string ⟨#[]⟩, .slice none 0 0, .slice none 0 0], .int .i64 60]) ?_ rfl (by rw [HF.out]; exact ⟨[.int .i64 0, .bool false, .int .i64 0, .string ⟨#[]⟩, .slice none 0 0, .slice none 0 0], rfl, null_lies _ _, set9_below BX (by omega) _ _ _ _ _ _ _ _ _⟩)
      rw [results_cell_tmp rfl]
      go_simp
    have o0 : w11.cell? ⟨go, 0, none⟩ = some (.bool f) := by rw [cell_of_block O_w11]; rfl
    have o1 : w11.cell? ⟨go, 1, none⟩ = some (.bool x) := by rw [cell_of_block O_w11]; rfl
    cases f with
    | true =>
      have HFM : Hid (frmF v op = (fr, frOk)) := by show _ = _; rw [frmF, if_pos HI.out.2.1, HWF.out]
      go_upto_region 13 with fail
      clear o0 o1
      have C20 := hmk (HT.out w11 D_w11 kFrom)
      rw [HWF.out] at C20
      obtain ⟨NV, _, _, _, _, _, _⟩ := HK.out w11 D_w11
      have a0 : w11.cell? ⟨w.heap.size, 0, none⟩ = some (.int .i64 vk) := by rw [cell_of_block NV]; rfl
      have a1 : w11.cell? ⟨w.heap.size, 1, none⟩ = some (.bool vb) := by rw [cell_of_block NV]; rfl
      have a2 : w11.cell? ⟨w.heap.size, 2, none⟩ = some (.int .i64 vi) := by rw [cell_of_block NV]; rfl
      have a3 : w11.cell? ⟨w.heap.size, 3, none⟩ = some (.string vs) := by rw [cell_of_block NV]; rfl
      have a4 : w11.cell? ⟨w.heap.size, 4, none⟩ = some (.slice val vnl vcl) := by rw [cell_of_block NV]; rfl
      have a5 : w11.cell? ⟨w.heap.size, 5, none⟩ = some (.slice vam vnm vcm) := by rw [cell_of_block NV]; rfl
      clear NV
      go_wp2_with fail
      refine C20.out.mono ?_
      rintro e w20 ⟨rfl, b20⟩
      have zz20 := b20.size
      have D20 := D_w11.trans (b20.mono (by have := D_w11.size; omega))
      have N20 := (b20.block g (by omega)).trans N_w11
      have O20 := (b20.block go (by omega)).trans O_w11
      clear C20 a0 a1 a2 a3 a4 a5
      have q0 : w20.cell? ⟨g, 0, none⟩ = some (.string op) := by rw [cell_of_block N20]; rfl
      have q1 : w20.cell? ⟨g, 1, none⟩ = some (.string pa) := by rw [cell_of_block N20]; rfl
      have q2 : w20.cell? ⟨g, 2, none⟩ = some (.string ⟨#[]⟩) := by rw [cell_of_block N20]; rfl
      have q3 : w20.cell? ⟨g, 3, none⟩ = some (.int .i64 0) := by rw [cell_of_block N20]; rfl
      have q4 : w20.cell? ⟨g, 4, none⟩ = some (.bool false) := by rw [cell_of_block N20]; rfl
      have q5 : w20.cell? ⟨g, 5, none⟩ = some (.int .i64 0) := by rw [cell_of_block N20]; rfl
      have q6 : w20.cell? ⟨g, 6, none⟩ = some (.string ⟨#[]⟩) := by rw [cell_of_block N20]; rfl
      have q7 : w20.cell? ⟨g, 7, none⟩ = some (.slice none 0 0) := by rw [cell_of_block N20]; rfl
      have q8 : w20.cell? ⟨g, 8, none⟩ = some (.slice none 0 0) := by rw [cell_of_block N20]; rfl
      have qf : ∀ i, w20.frozen? ⟨g, i, none⟩ = false := frozen_of_block N20
      go_upto_region 14 with fail
      have N_w21 : (w20.setCell ⟨g, 2, none⟩ (.string fr)).heap[g]? = some (.cells #[.string op, .string pa, .string fr, .int .i64 0, .bool false, .int .i64 0, .string ⟨#[]⟩, .slice none 0 0, .slice none 0 0] 51 (0, 0)) := heap_setCell_same w20 g 2 _ 51 _ N20
      have O_w21 : (w20.setCell ⟨g, 2, none⟩ (.string fr)).heap[go]? = some (.cells #[.bool true, .bool x, .func (.func n) #[] #[]] 63 (0, 0)) := by rw [Below.heap_setCell _ _ _ _ (show go ≠ g by omega)]; exact O20
      have D_w21 := D20.setCell (p := ⟨g, 2, none⟩) (show W0.heap.size ≤ g by omega) (.string fr)
      have Z_w21 := ((Below.refl 0 w20).setCell (p := ⟨g, 2, none⟩) (Nat.zero_le _) (.string fr)).size
      generalize w20.setCell ⟨g, 2, none⟩ (.string fr) = w21 at *
      clear q0 q1 q2 q3 q4 q5 q6 q7 q8 qf N20 D20 b20 O20
      rcases Bool.eq_false_or_eq_true frOk with rfl | rfl
      rotate_left
      · obtain ⟨_, MX, _, BX, _, _, _⟩ := HK.out w21 D_w21
        have HF : Hid (rdF v = (60, zStp)) := by show _ = _; rw [rdF, HWO.out]; dsimp only; rw [if_neg (by simp), if_neg (by rw [HI.out.1]; simp), if_neg (by rw [HWP.out]; simp), if_pos (by rw [HFM.out])]
        have r0 : w21.cell? ⟨w.heap.size + 1, 0, none⟩ = some (.string ⟨#[]⟩) := by rw [cell_of_block MX]; rfl
        have r1 : w21.cell? ⟨w.heap.size + 1, 1, none⟩ = some (.string ⟨#[]⟩) := by rw [cell_of_block MX]; rfl
        have r2 : w21.cell? ⟨w.heap.size + 1, 2, none⟩ = some (.string ⟨#[]⟩) := by rw [cell_of_block MX]; rfl
        have r3 : w21.cell? ⟨w.heap.size + 1, 3, none⟩ = some (.int .i64 0) := by rw [cell_of_block MX]; rfl
        have r4 : w21.cell? ⟨w.heap.size + 1, 4, none⟩ = some (.bool false) := by rw [cell_of_block MX]; rfl
        have r5 : w21.cell? ⟨w.heap.size + 1, 5, none⟩ = some (.int .i64 0) := by rw [cell_of_block MX]; rfl
        have r6 : w21.cell? ⟨w.heap.size + 1, 6, none⟩ = some (.string ⟨#[]⟩) := by rw [cell_of_block MX]; rfl
        have r7 : w21.cell? ⟨w.heap.size + 1, 7, none⟩ = some (.slice none 0 0) := by rw [cell_of_block MX]; rfl
        have r8 : w21.cell? ⟨w.heap.size + 1, 8, none⟩ = some (.slice none 0 0) := by rw [cell_of_block MX]; rfl
        have rf : ∀ i, w21.frozen? ⟨w.heap.size + 1, i, none⟩ = false := frozen_of_block MX
        go_wp2_with fail
        (try simp only [Exit.inBlock, Exit.then])
        refine bodyPost_ret (v := .tuple #[.agg #[.string ⟨#[]⟩, .string ⟨#[]⟩, .string ⟨#[]⟩, .int .i64 0, .bool false, .int .i64 0, .string ⟨#[]⟩, .slice none 0 0, .slice none 0 0], .int .i64 60]) ?_ rfl (by rw [HF.out]; exact ⟨[.int .i64 0, .bool false, .int .i64 0, .string ⟨#[]⟩, .slice none 0 0, .slice none 0 0], rfl, null_lies _ _, set9_below BX (by omega) _ _ _ _ _ _ _ _ _⟩)
        rw [results_cell_tmp rfl]
        go_simp
      have HFR : Hid (frmF v op = (fr, true)) := HFM
      have o1 : w21.cell? ⟨go, 1, none⟩ = some (.bool x) := by rw [cell_of_block O_w21]; rfl
      cases x with
      | true =>
        have HVM : Hid (vluF v op = (y, yOk)) := by show _ = _; rw [vluF, if_pos HI.out.2.2, HGV.out]
        have C30 := HG.out w21 D_w21
        unfold GtPost at C30
        rw [HGV.out] at C30
        have CH := hmk C30
        clear C30
        go_upto_region 17 with fail
        clear o1
        obtain ⟨NV, _, _, _, _, _, _⟩ := HK.out w21 D_w21
        have a0 : w21.cell? ⟨w.heap.size, 0, none⟩ = some (.int .i64 vk) := by rw [cell_of_block NV]; rfl
        have a1 : w21.cell? ⟨w.heap.size, 1, none⟩ = some (.bool vb) := by rw [cell_of_block NV]; rfl
        have a2 : w21.cell? ⟨w.heap.size, 2, none⟩ = some (.int .i64 vi) := by rw [cell_of_block NV]; rfl
        have a3 : w21.cell? ⟨w.heap.size, 3, none⟩ = some (.string vs) := by rw [cell_of_block NV]; rfl
        have a4 : w21.cell? ⟨w.heap.size, 4, none⟩ = some (.slice val vnl vcl) := by rw [cell_of_block NV]; rfl
        have a5 : w21.cell? ⟨w.heap.size, 5, none⟩ = some (.slice vam vnm vcm) := by rw [cell_of_block NV]; rfl
        clear NV
        go_wp2_with fail
        refine CH.out.mono ?_
        rintro e w30 ⟨csx, rfl, hlx, b30⟩
        obtain ⟨xk, xb, xi, xs, xal, xnl, xcl, xam, xnm, xcm, rfl⟩ := V.ten hlx
        have zz30 := b30.size
        have D30 := D_w21.trans (b30.mono (by have := D_w21.size; omega))
        have N_w30 := (b30.block g (by omega)).trans N_w21
        have HLX : Hid (y.lies false w30 (From (g + 1) w30) [.int .i64 xk, .bool xb, .int .i64 xi, .string xs, .slice xal xnl xcl, .slice xam xnm xcm]) := V.lies_keep (fun h => h) (fun _ _ => rfl) (fun y hy => ⟨by have := hy.1; omega, hy.2⟩) _ hlx
        clear CH a0 a1 a2 a3 a4 a5 hlx b30
        have q0 : w30.cell? ⟨g, 0, none⟩ = some (.string op) := by rw [cell_of_block N_w30]; rfl
        have q1 : w30.cell? ⟨g, 1, none⟩ = some (.string pa) := by rw [cell_of_block N_w30]; rfl
        have q2 : w30.cell? ⟨g, 2, none⟩ = some (.string fr) := by rw [cell_of_block N_w30]; rfl
        have q3 : w30.cell? ⟨g, 3, none⟩ = some (.int .i64 0) := by rw [cell_of_block N_w30]; rfl
        have q4 : w30.cell? ⟨g, 4, none⟩ = some (.bool false) := by rw [cell_of_block N_w30]; rfl
        have q5 : w30.cell? ⟨g, 5, none⟩ = some (.int .i64 0) := by rw [cell_of_block N_w30]; rfl
        have q6 : w30.cell? ⟨g, 6, none⟩ = some (.string ⟨#[]⟩) := by rw [cell_of_block N_w30]; rfl
        have q7 : w30.cell? ⟨g, 7, none⟩ = some (.slice none 0 0) := by rw [cell_of_block N_w30]; rfl
        have q8 : w30.cell? ⟨g, 8, none⟩ = some (.slice none 0 0) := by rw [cell_of_block N_w30]; rfl
        have qf : ∀ i, w30.frozen? ⟨g, i, none⟩ = false := frozen_of_block N_w30
        go_upto_region 18 with fail
        have N_w31 := set6_box N_w30 (.int .i64 xk) (.bool xb) (.int .i64 xi) (.string xs) (.slice xal xnl xcl) (.slice xam xnm xcm)
        have D31 := set6_below D30 (show W0.heap.size ≤ g by omega) (.int .i64 xk) (.bool xb) (.int .i64 xi) (.string xs) (.slice xal xnl xcl) (.slice xam xnm xcm)
        have zY := (set6_below (g := g) (Below.refl 0 w30) (Nat.zero_le _) (.int .i64 xk) (.bool xb) (.int .i64 xi) (.string xs) (.slice xal xnl xcl) (.slice xam xnm xcm)).size
        have HLY : Hid (y.lies false (set6b w30 g (.int .i64 xk) (.bool xb) (.int .i64 xi) (.string xs) (.slice xal xnl xcl) (.slice xam xnm xcm)) (From (g + 1) (set6b w30 g (.int .i64 xk) (.bool xb) (.int .i64 xi) (.string xs) (.slice xal xnl xcl) (.slice xam xnm xcm))) [.int .i64 xk, .bool xb, .int .i64 xi, .string xs, .slice xal xnl xcl, .slice xam xnm xcm]) := V.lies_keep (fun h => h) (fun y hy => set6_other _ _ _ _ _ _ _ _ y (by have := hy.1; omega)) (fun y hy => ⟨hy.1, by have := hy.2; omega⟩) _ HLX.out
        dsimp only [set6b] at N_w31 D31 zY HLY
        generalize ((((((w30.setCell ⟨g, 3, none⟩ (.int .i64 xk)).setCell ⟨g, 4, none⟩ (.bool xb)).setCell ⟨g, 5, none⟩ (.int .i64 xi)).setCell ⟨g, 6, none⟩ (.string xs)).setCell ⟨g, 7, none⟩ (.slice xal xnl xcl)).setCell ⟨g, 8, none⟩ (.slice xam xnm xcm)) = w31 at *
        clear q0 q1 q2 q3 q4 q5 q6 q7 q8 qf HLX N_w30
        rcases Bool.eq_false_or_eq_true yOk with rfl | rfl
        rotate_left
        · obtain ⟨_, MX, _, BX, _, _, _⟩ := HK.out w31 D31
          have HF : Hid (rdF v = (60, zStp)) := by show _ = _; rw [rdF, HWO.out]; dsimp only; rw [if_neg (by simp), if_neg (by rw [HI.out.1]; simp), if_neg (by rw [HWP.out]; simp), if_neg (by rw [HFR.out]; simp), if_pos (by rw [HVM.out])]
          have r0 : w31.cell? ⟨w.heap.size + 1, 0, none⟩ = some (.string ⟨#[]⟩) := by rw [cell_of_block MX]; rfl
          have r1 : w31.cell? ⟨w.heap.size + 1, 1, none⟩ = some (.string ⟨#[]⟩) := by rw [cell_of_block MX]; rfl
          have r2 : w31.cell? ⟨w.heap.size + 1, 2, none⟩ = some (.string ⟨#[]⟩) := by rw [cell_of_block MX]; rfl
          have r3 : w31.cell? ⟨w.heap.size + 1, 3, none⟩ = some (.int .i64 0) := by rw [cell_of_block MX]; rfl
          have r4 : w31.cell? ⟨w.heap.size + 1, 4, none⟩ = some (.bool false) := by rw [cell_of_block MX]; rfl
          have r5 : w31.cell? ⟨w.heap.size + 1, 5, none⟩ = some (.int .i64 0) := by rw [cell_of_block MX]; rfl
          have r6 : w31.cell? ⟨w.heap.size + 1, 6, none⟩ = some (.string ⟨#[]⟩) := by rw [cell_of_block MX]; rfl
          have r7 : w31.cell? ⟨w.heap.size + 1, 7, none⟩ = some (.slice none 0 0) := by rw [cell_of_block MX]; rfl
          have r8 : w31.cell? ⟨w.heap.size + 1, 8, none⟩ = some (.slice none 0 0) := by rw [cell_of_block MX]; rfl
          have rf : ∀ i, w31.frozen? ⟨w.heap.size + 1, i, none⟩ = false := frozen_of_block MX
          go_wp2_with fail
          (try simp only [Exit.inBlock, Exit.then])
          refine bodyPost_ret (v := .tuple #[.agg #[.string ⟨#[]⟩, .string ⟨#[]⟩, .string ⟨#[]⟩, .int .i64 0, .bool false, .int .i64 0, .string ⟨#[]⟩, .slice none 0 0, .slice none 0 0], .int .i64 60]) ?_ rfl (by rw [HF.out]; exact ⟨[.int .i64 0, .bool false, .int .i64 0, .string ⟨#[]⟩, .slice none 0 0, .slice none 0 0], rfl, null_lies _ _, set9_below BX (by omega) _ _ _ _ _ _ _ _ _⟩)
          rw [results_cell_tmp rfl]
          go_simp
        have HVL : Hid (vluF v op = (y, true)) := HVM
        go_upto_region 20 with fail
        obtain ⟨_, _, _, _, _, TX, OX⟩ := HK.out w31 D31
        have CF := pcheck_any b op pa fr y false (From (g + 1) w31) [.int .i64 xk, .bool xb, .int .i64 xi, .string xs, .slice xal xnl xcl, .slice xam xnm xcm] w31 OX HLY.out (fun b h => h.2) hgw (Nat.le_trans hop (by simp only [maxLen]; omega)) hpa hfr TX
        obtain ⟨n, hn⟩ : ∃ n, fltF op pa fr y = n := ⟨_, rfl⟩
        rw [hn] at CF
        have HN := hmk hn
        have CFH := hmk CF
        clear CF hn TX OX
        have q0 : w31.cell? ⟨g, 0, none⟩ = some (.string op) := by rw [cell_of_block N_w31]; rfl
        have q1 : w31.cell? ⟨g, 1, none⟩ = some (.string pa) := by rw [cell_of_block N_w31]; rfl
        have q2 : w31.cell? ⟨g, 2, none⟩ = some (.string fr) := by rw [cell_of_block N_w31]; rfl
        have q3 : w31.cell? ⟨g, 3, none⟩ = some (.int .i64 xk) := by rw [cell_of_block N_w31]; rfl
        have q4 : w31.cell? ⟨g, 4, none⟩ = some (.bool xb) := by rw [cell_of_block N_w31]; rfl
        have q5 : w31.cell? ⟨g, 5, none⟩ = some (.int .i64 xi) := by rw [cell_of_block N_w31]; rfl
        have q6 : w31.cell? ⟨g, 6, none⟩ = some (.string xs) := by rw [cell_of_block N_w31]; rfl
        have q7 : w31.cell? ⟨g, 7, none⟩ = some (.slice xal xnl xcl) := by rw [cell_of_block N_w31]; rfl
        have q8 : w31.cell? ⟨g, 8, none⟩ = some (.slice xam xnm xcm) := by rw [cell_of_block N_w31]; rfl
        have qf : ∀ i, w31.frozen? ⟨g, i, none⟩ = false := frozen_of_block N_w31
        go_wp2_with fail
        refine CFH.out.mono ?_
        rintro e w40 ⟨rfl, b40⟩
        have zz40 := b40.size
        have D40 := D31.trans (b40.mono (by have := D31.size; omega))
        have N_w40 := (b40.block g (by omega)).trans N_w31
        have HLF : Hid (y.lies false w40 (From (g + 1) w40) [.int .i64 xk, .bool xb, .int .i64 xi, .string xs, .slice xal xnl xcl, .slice xam xnm xcm]) := V.lies_keep (fun h => h) (fun y hy => b40.block y hy.2) (fun y hy => ⟨hy.1, by have := hy.2; omega⟩) _ HLY.out
        clear CFH q0 q1 q2 q3 q4 q5 q6 q7 q8 qf
        obtain ⟨_, MX, _, BX, _, _, _⟩ := HK.out w40 D40
        by_cases hn : n = 0
        · subst hn
          have HF : Hid (rdF v = (0, (op, pa, fr, y))) := by show _ = _; rw [rdF, HWO.out]; dsimp only; rw [if_neg (by simp), if_neg (by rw [HI.out.1]; simp), if_neg (by rw [HWP.out]; simp), if_neg (by rw [HFR.out]; simp), if_neg (by rw [HVL.out]; simp), if_neg (by rw [HWP.out, HFR.out, HVL.out, HN.out]; simp), HWP.out, HFR.out, HVL.out]
          have q0 : w40.cell? ⟨g, 0, none⟩ = some (.string op) := by rw [cell_of_block N_w40]; rfl
          have q1 : w40.cell? ⟨g, 1, none⟩ = some (.string pa) := by rw [cell_of_block N_w40]; rfl
          have q2 : w40.cell? ⟨g, 2, none⟩ = some (.string fr) := by rw [cell_of_block N_w40]; rfl
          have q3 : w40.cell? ⟨g, 3, none⟩ = some (.int .i64 xk) := by rw [cell_of_block N_w40]; rfl
          have q4 : w40.cell? ⟨g, 4, none⟩ = some (.bool xb) := by rw [cell_of_block N_w40]; rfl
          have q5 : w40.cell? ⟨g, 5, none⟩ = some (.int .i64 xi) := by rw [cell_of_block N_w40]; rfl
          have q6 : w40.cell? ⟨g, 6, none⟩ = some (.string xs) := by rw [cell_of_block N_w40]; rfl
          have q7 : w40.cell? ⟨g, 7, none⟩ = some (.slice xal xnl xcl) := by rw [cell_of_block N_w40]; rfl
          have q8 : w40.cell? ⟨g, 8, none⟩ = some (.slice xam xnm xcm) := by rw [cell_of_block N_w40]; rfl
          have qf : ∀ i, w40.frozen? ⟨g, i, none⟩ = false := frozen_of_block N_w40
          have r0 : w40.cell? ⟨w.heap.size + 1, 0, none⟩ = some (.string ⟨#[]⟩) := by rw [cell_of_block MX]; rfl
          have r1 : w40.cell? ⟨w.heap.size + 1, 1, none⟩ = some (.string ⟨#[]⟩) := by rw [cell_of_block MX]; rfl
          have r2 : w40.cell? ⟨w.heap.size + 1, 2, none⟩ = some (.string ⟨#[]⟩) := by rw [cell_of_block MX]; rfl
          have r3 : w40.cell? ⟨w.heap.size + 1, 3, none⟩ = some (.int .i64 0) := by rw [cell_of_block MX]; rfl
          have r4 : w40.cell? ⟨w.heap.size + 1, 4, none⟩ = some (.bool false) := by rw [cell_of_block MX]; rfl
          have r5 : w40.cell? ⟨w.heap.size + 1, 5, none⟩ = some (.int .i64 0) := by rw [cell_of_block MX]; rfl
          have r6 : w40.cell? ⟨w.heap.size + 1, 6, none⟩ = some (.string ⟨#[]⟩) := by rw [cell_of_block MX]; rfl
          have r7 : w40.cell? ⟨w.heap.size + 1, 7, none⟩ = some (.slice none 0 0) := by rw [cell_of_block MX]; rfl
          have r8 : w40.cell? ⟨w.heap.size + 1, 8, none⟩ = some (.slice none 0 0) := by rw [cell_of_block MX]; rfl
          have rf : ∀ i, w40.frozen? ⟨w.heap.size + 1, i, none⟩ = false := frozen_of_block MX
          go_wp2_with fail
          (try simp only [Exit.inBlock, Exit.then])
          refine bodyPost_ret (v := .tuple #[.agg #[.string op, .string pa, .string fr, .int .i64 xk, .bool xb, .int .i64 xi, .string xs, .slice xal xnl xcl, .slice xam xnm xcm], .int .i64 0]) ?_ rfl (by rw [HF.out]; exact ⟨[.int .i64 xk, .bool xb, .int .i64 xi, .string xs, .slice xal xnl xcl, .slice xam xnm xcm], rfl, V.lies_keep (fun h => h) (fun y hy => set9_other _ _ _ _ _ _ _ _ _ _ _ y (by have := hy.1; omega)) (fun y hy => ⟨by have := hy.1; omega, Nat.lt_of_lt_of_le hy.2 (set9_below (Below.refl 0 w40) (Nat.zero_le _) _ _ _ _ _ _ _ _ _).size⟩) _ HLF.out, set9_below BX (by omega) _ _ _ _ _ _ _ _ _⟩)
          rw [results_cell_tmp rfl]
          go_simp
        · have hn0 : n ≠ 0 := hn
          have HF : Hid (rdF v = (n, zStp)) := by show _ = _; rw [rdF, HWO.out]; dsimp only; rw [if_neg (by simp), if_neg (by rw [HI.out.1]; simp), if_neg (by rw [HWP.out]; simp), if_neg (by rw [HFR.out]; simp), if_neg (by rw [HVL.out]; simp), if_pos (by rw [HWP.out, HFR.out, HVL.out, HN.out]; exact hn0), HWP.out, HFR.out, HVL.out, HN.out]
          have yn : ((n : Int) != 0) = true := by simp; omega
          have yn' : ((n : Int) == 0) = false := by simp; omega
          have r0 : w40.cell? ⟨w.heap.size + 1, 0, none⟩ = some (.string ⟨#[]⟩) := by rw [cell_of_block MX]; rfl
          have r1 : w40.cell? ⟨w.heap.size + 1, 1, none⟩ = some (.string ⟨#[]⟩) := by rw [cell_of_block MX]; rfl
          have r2 : w40.cell? ⟨w.heap.size + 1, 2, none⟩ = some (.string ⟨#[]⟩) := by rw [cell_of_block MX]; rfl
          have r3 : w40.cell? ⟨w.heap.size + 1, 3, none⟩ = some (.int .i64 0) := by rw [cell_of_block MX]; rfl
          have r4 : w40.cell? ⟨w.heap.size + 1, 4, none⟩ = some (.bool false) := by rw [cell_of_block MX]; rfl
          have r5 : w40.cell? ⟨w.heap.size + 1, 5, none⟩ = some (.int .i64 0) := by rw [cell_of_block MX]; rfl
          have r6 : w40.cell? ⟨w.heap.size + 1, 6, none⟩ = some (.string ⟨#[]⟩) := by rw [cell_of_block MX]; rfl
          have r7 : w40.cell? ⟨w.heap.size + 1, 7, none⟩ = some (.slice none 0 0) := by rw [cell_of_block MX]; rfl
          have r8 : w40.cell? ⟨w.heap.size + 1, 8, none⟩ = some (.slice none 0 0) := by rw [cell_of_block MX]; rfl
          have rf : ∀ i, w40.frozen? ⟨w.heap.size + 1, i, none⟩ = false := frozen_of_block MX
          go_wp2_with fail
          (try simp only [Exit.inBlock, Exit.then])
          refine bodyPost_ret (v := .tuple #[.agg #[.string ⟨#[]⟩, .string ⟨#[]⟩, .string ⟨#[]⟩, .int .i64 0, .bool false, .int .i64 0, .string ⟨#[]⟩, .slice none 0 0, .slice none 0 0], .int .i64 n]) ?_ rfl (by rw [HF.out]; exact ⟨[.int .i64 0, .bool false, .int .i64 0, .string ⟨#[]⟩, .slice none 0 0, .slice none 0 0], rfl, null_lies _ _, set9_below BX (by omega) _ _ _ _ _ _ _ _ _⟩)
          rw [results_cell_tmp rfl]
          go_simp
      | false =>
        have HVL : Hid (vluF v op = (nullV, true)) := by show _ = _; rw [vluF, if_neg (by rw [HI.out.2.2]; simp)]
        have HLY : Hid (nullV.lies false w21 (From (g + 1) w21) [.int .i64 0, .bool false, .int .i64 0, .string ⟨#[]⟩, .slice none 0 0, .slice none 0 0]) := null_lies _ _
        go_upto_region 20 with fail
        clear o1
        obtain ⟨_, _, _, _, _, TX, OX⟩ := HK.out w21 D_w21
        have CF := pcheck_any b op pa fr nullV false (From (g + 1) w21) [.int .i64 0, .bool false, .int .i64 0, .string ⟨#[]⟩, .slice none 0 0, .slice none 0 0] w21 OX HLY.out (fun b h => h.2) null_wt (Nat.le_trans hop (by simp only [maxLen]; omega)) hpa hfr TX
        obtain ⟨n, hn⟩ : ∃ n, fltF op pa fr nullV = n := ⟨_, rfl⟩
        rw [hn] at CF
        have HN := hmk hn
        have CFH := hmk CF
        clear CF hn TX OX
        have q0 : w21.cell? ⟨g, 0, none⟩ = some (.string op) := by rw [cell_of_block N_w21]; rfl
        have q1 : w21.cell? ⟨g, 1, none⟩ = some (.string pa) := by rw [cell_of_block N_w21]; rfl
        have q2 : w21.cell? ⟨g, 2, none⟩ = some (.string fr) := by rw [cell_of_block N_w21]; rfl
        have q3 : w21.cell? ⟨g, 3, none⟩ = some (.int .i64 0) := by rw [cell_of_block N_w21]; rfl
        have q4 : w21.cell? ⟨g, 4, none⟩ = some (.bool false) := by rw [cell_of_block N_w21]; rfl
        have q5 : w21.cell? ⟨g, 5, none⟩ = some (.int .i64 0) := by rw [cell_of_block N_w21]; rfl
        have q6 : w21.cell? ⟨g, 6, none⟩ = some (.string ⟨#[]⟩) := by rw [cell_of_block N_w21]; rfl
        have q7 : w21.cell? ⟨g, 7, none⟩ = some (.slice none 0 0) := by rw [cell_of_block N_w21]; rfl
        have q8 : w21.cell? ⟨g, 8, none⟩ = some (.slice none 0 0) := by rw [cell_of_block N_w21]; rfl
        have qf : ∀ i, w21.frozen? ⟨g, i, none⟩ = false := frozen_of_block N_w21
        go_wp2_with fail
        refine CFH.out.mono ?_
        rintro e w40 ⟨rfl, b40⟩
        have zz40 := b40.size
        have D40 := D_w21.trans (b40.mono (by have := D_w21.size; omega))
        have N_w40 := (b40.block g (by omega)).trans N_w21
        have HLF : Hid (nullV.lies false w40 (From (g + 1) w40) [.int .i64 0, .bool false, .int .i64 0, .string ⟨#[]⟩, .slice none 0 0, .slice none 0 0]) := V.lies_keep (fun h => h) (fun y hy => b40.block y hy.2) (fun y hy => ⟨hy.1, by have := hy.2; omega⟩) _ HLY.out
        clear CFH q0 q1 q2 q3 q4 q5 q6 q7 q8 qf
        obtain ⟨_, MX, _, BX, _, _, _⟩ := HK.out w40 D40
        by_cases hn : n = 0
        · subst hn
          have HF : Hid (rdF v = (0, (op, pa, fr, nullV))) := by show _ = _; rw [rdF, HWO.out]; dsimp only; rw [if_neg (by simp), if_neg (by rw [HI.out.1]; simp), if_neg (by rw [HWP.out]; simp), if_neg (by rw [HFR.out]; simp), if_neg (by rw [HVL.out]; simp), if_neg (by rw [HWP.out, HFR.out, HVL.out, HN.out]; simp), HWP.out, HFR.out, HVL.out]
          have q0 : w40.cell? ⟨g, 0, none⟩ = some (.string op) := by rw [cell_of_block N_w40]; rfl
          have q1 : w40.cell? ⟨g, 1, none⟩ = some (.string pa) := by rw [cell_of_block N_w40]; rfl
          have q2 : w40.cell? ⟨g, 2, none⟩ = some (.string fr) := by rw [cell_of_block N_w40]; rfl
          have q3 : w40.cell? ⟨g, 3, none⟩ = some (.int .i64 0) := by rw [cell_of_block N_w40]; rfl
          have q4 : w40.cell? ⟨g, 4, none⟩ = some (.bool false) := by rw [cell_of_block N_w40]; rfl
          have q5 : w40.cell? ⟨g, 5, none⟩ = some (.int .i64 0) := by rw [cell_of_block N_w40]; rfl
          have q6 : w40.cell? ⟨g, 6, none⟩ = some (.string ⟨#[]⟩) := by rw [cell_of_block N_w40]; rfl
          have q7 : w40.cell? ⟨g, 7, none⟩ = some (.slice none 0 0) := by rw [cell_of_block N_w40]; rfl
          have q8 : w40.cell? ⟨g, 8, none⟩ = some (.slice none 0 0) := by rw [cell_of_block N_w40]; rfl
          have qf : ∀ i, w40.frozen? ⟨g, i, none⟩ = false := frozen_of_block N_w40
          have r0 : w40.cell? ⟨w.heap.size + 1, 0, none⟩ = some (.string ⟨#[]⟩) := by rw [cell_of_block MX]; rfl
          have r1 : w40.cell? ⟨w.heap.size + 1, 1, none⟩ = some (.string ⟨#[]⟩) := by rw [cell_of_block MX]; rfl
          have r2 : w40.cell? ⟨w.heap.size + 1, 2, none⟩ = some (.string ⟨#[]⟩) := by rw [cell_of_block MX]; rfl
          have r3 : w40.cell? ⟨w.heap.size + 1, 3, none⟩ = some (.int .i64 0) := by rw [cell_of_block MX]; rfl
          have r4 : w40.cell? ⟨w.heap.size + 1, 4, none⟩ = some (.bool false) := by rw [cell_of_block MX]; rfl
          have r5 : w40.cell? ⟨w.heap.size + 1, 5, none⟩ = some (.int .i64 0) := by rw [cell_of_block MX]; rfl
          have r6 : w40.cell? ⟨w.heap.size + 1, 6, none⟩ = some (.string ⟨#[]⟩) := by rw [cell_of_block MX]; rfl
          have r7 : w40.cell? ⟨w.heap.size + 1, 7, none⟩ = some (.slice none 0 0) := by rw [cell_of_block MX]; rfl
          have r8 : w40.cell? ⟨w.heap.size + 1, 8, none⟩ = some (.slice none 0 0) := by rw [cell_of_block MX]; rfl
          have rf : ∀ i, w40.frozen? ⟨w.heap.size + 1, i, none⟩ = false := frozen_of_block MX
          go_wp2_with fail
          (try simp only [Exit.inBlock, Exit.then])
          refine bodyPost_ret (v := .tuple #[.agg #[.string op, .string pa, .string fr, .int .i64 0, .bool false, .int .i64 0, .string ⟨#[]⟩, .slice none 0 0, .slice none 0 0], .int .i64 0]) ?_ rfl (by rw [HF.out]; exact ⟨[.int .i64 0, .bool false, .int .i64 0, .string ⟨#[]⟩, .slice none 0 0, .slice none 0 0], rfl, V.lies_keep (fun h => h) (fun y hy => set9_other _ _ _ _ _ _ _ _ _ _ _ y (by have := hy.1; omega)) (fun y hy => ⟨by have := hy.1; omega, Nat.lt_of_lt_of_le hy.2 (set9_below (Below.refl 0 w40) (Nat.zero_le _) _ _ _ _ _ _ _ _ _).size⟩) _ HLF.out, set9_below BX (by omega) _ _ _ _ _ _ _ _ _⟩)
          rw [results_cell_tmp rfl]
          go_simp
        · have hn0 : n ≠ 0 := hn
          have HF : Hid (rdF v = (n, zStp)) := by show _ = _; rw [rdF, HWO.out]; dsimp only; rw [if_neg (by simp), if_neg (by rw [HI.out.1]; simp), if_neg (by rw [HWP.out]; simp), if_neg (by rw [HFR.out]; simp), if_neg (by rw [HVL.out]; simp), if_pos (by rw [HWP.out, HFR.out, HVL.out, HN.out]; exact hn0), HWP.out, HFR.out, HVL.out, HN.out]
          have yn : ((n : Int) != 0) = true := by simp; omega
          have yn' : ((n : Int) == 0) = false := by simp; omega
          have r0 : w40.cell? ⟨w.heap.size + 1, 0, none⟩ = some (.string ⟨#[]⟩) := by rw [cell_of_block MX]; rfl
          have r1 : w40.cell? ⟨w.heap.size + 1, 1, none⟩ = some (.string ⟨#[]⟩) := by rw [cell_of_block MX]; rfl
          have r2 : w40.cell? ⟨w.heap.size + 1, 2, none⟩ = some (.string ⟨#[]⟩) := by rw [cell_of_block MX]; rfl
          have r3 : w40.cell? ⟨w.heap.size + 1, 3, none⟩ = some (.int .i64 0) := by rw [cell_of_block MX]; rfl
          have r4 : w40.cell? ⟨w.heap.size + 1, 4, none⟩ = some (.bool false) := by rw [cell_of_block MX]; rfl
          have r5 : w40.cell? ⟨w.heap.size + 1, 5, none⟩ = some (.int .i64 0) := by rw [cell_of_block MX]; rfl
          have r6 : w40.cell? ⟨w.heap.size + 1, 6, none⟩ = some (.string ⟨#[]⟩) := by rw [cell_of_block MX]; rfl
          have r7 : w40.cell? ⟨w.heap.size + 1, 7, none⟩ = some (.slice none 0 0) := by rw [cell_of_block MX]; rfl
          have r8 : w40.cell? ⟨w.heap.size + 1, 8, none⟩ = some (.slice none 0 0) := by rw [cell_of_block MX]; rfl
          have rf : ∀ i, w40.frozen? ⟨w.heap.size + 1, i, none⟩ = false := frozen_of_block MX
          go_wp2_with fail
          (try simp only [Exit.inBlock, Exit.then])
          refine bodyPost_ret (v := .tuple #[.agg #[.string ⟨#[]⟩, .string ⟨#[]⟩, .string ⟨#[]⟩, .int .i64 0, .bool false, .int .i64 0, .string ⟨#[]⟩, .slice none 0 0, .slice none 0 0], .int .i64 n]) ?_ rfl (by rw [HF.out]; exact ⟨[.int .i64 0, .bool false, .int .i64 0, .string ⟨#[]⟩, .slice none 0 0, .slice none 0 0], rfl, null_lies _ _, set9_below BX (by omega) _ _ _ _ _ _ _ _ _⟩)
          rw [results_cell_tmp rfl]
          go_simp
    | false =>
      have HFR : Hid (frmF v op = (noS, true)) := by show _ = _; rw [frmF, if_neg (by rw [HI.out.2.1]; simp)]
      go_upto_region 16 with fail
      clear o0 o1
      have o1 : w11.cell? ⟨go, 1, none⟩ = some (.bool x) := by rw [cell_of_block O_w11]; rfl
      cases x with
      | true =>
        have HVM : Hid (vluF v op = (y, yOk)) := by show _ = _; rw [vluF, if_pos HI.out.2.2, HGV.out]
        have C30 := HG.out w11 D_w11
        unfold GtPost at C30
        rw [HGV.out] at C30
        have CH := hmk C30
        clear C30
        go_upto_region 17 with fail
        clear o1
        obtain ⟨NV, _, _, _, _, _, _⟩ := HK.out w11 D_w11
        have a0 : w11.cell? ⟨w.heap.size, 0, none⟩ = some (.int .i64 vk) := by rw [cell_of_block NV]; rfl
        have a1 : w11.cell? ⟨w.heap.size, 1, none⟩ = some (.bool vb) := by rw [cell_of_block NV]; rfl
        have a2 : w11.cell? ⟨w.heap.size, 2, none⟩ = some (.int .i64 vi) := by rw [cell_of_block NV]; rfl
        have a3 : w11.cell? ⟨w.heap.size, 3, none⟩ = some (.string vs) := by rw [cell_of_block NV]; rfl
        have a4 : w11.cell? ⟨w.heap.size, 4, none⟩ = some (.slice val vnl vcl) := by rw [cell_of_block NV]; rfl
        have a5 : w11.cell? ⟨w.heap.size, 5, none⟩ = some (.slice vam vnm vcm) := by rw [cell_of_block NV]; rfl
        clear NV
        go_wp2_with fail
        refine CH.out.mono ?_
        rintro e w30 ⟨csx, rfl, hlx, b30⟩
        obtain ⟨xk, xb, xi, xs, xal, xnl, xcl, xam, xnm, xcm, rfl⟩ := V.ten hlx
        have zz30 := b30.size
        have D30 := D_w11.trans (b30.mono (by have := D_w11.size; omega))
        have N_w30 := (b30.block g (by omega)).trans N_w11
        have HLX : Hid (y.lies false w30 (From (g + 1) w30) [.int .i64 xk, .bool xb, .int .i64 xi, .string xs, .slice xal xnl xcl, .slice xam xnm xcm]) := V.lies_keep (fun h => h) (fun _ _ => rfl) (fun y hy => ⟨by have := hy.1; omega, hy.2⟩) _ hlx
        clear CH a0 a1 a2 a3 a4 a5 hlx b30
        have q0 : w30.cell? ⟨g, 0, none⟩ = some (.string op) := by rw [cell_of_block N_w30]; rfl
        have q1 : w30.cell? ⟨g, 1, none⟩ = some (.string pa) := by rw [cell_of_block N_w30]; rfl
        have q2 : w30.cell? ⟨g, 2, none⟩ = some (.string ⟨#[]⟩) := by rw [cell_of_block N_w30]; rfl
        have q3 : w30.cell? ⟨g, 3, none⟩ = some (.int .i64 0) := by rw [cell_of_block N_w30]; rfl
        have q4 : w30.cell? ⟨g, 4, none⟩ = some (.bool false) := by rw [cell_of_block N_w30]; rfl
        have q5 : w30.cell? ⟨g, 5, none⟩ = some (.int .i64 0) := by rw [cell_of_block N_w30]; rfl
        have q6 : w30.cell? ⟨g, 6, none⟩ = some (.string ⟨#[]⟩) := by rw [cell_of_block N_w30]; rfl
        have q7 : w30.cell? ⟨g, 7, none⟩ = some (.slice none 0 0) := by rw [cell_of_block N_w30]; rfl
        have q8 : w30.cell? ⟨g, 8, none⟩ = some (.slice none 0 0) := by rw [cell_of_block N_w30]; rfl
        have qf : ∀ i, w30.frozen? ⟨g, i, none⟩ = false := frozen_of_block N_w30
        go_upto_region 18 with fail
        have N_w31 := set6_box N_w30 (.int .i64 xk) (.bool xb) (.int .i64 xi) (.string xs) (.slice xal xnl xcl) (.slice xam xnm xcm)
        have D31 := set6_below D30 (show W0.heap.size ≤ g by omega) (.int .i64 xk) (.bool xb) (.int .i64 xi) (.string xs) (.slice xal xnl xcl) (.slice xam xnm xcm)
        have zY := (set6_below (g := g) (Below.refl 0 w30) (Nat.zero_le _) (.int .i64 xk) (.bool xb) (.int .i64 xi) (.string xs) (.slice xal xnl xcl) (.slice xam xnm xcm)).size
        have HLY : Hid (y.lies false (set6b w30 g (.int .i64 xk) (.bool xb) (.int .i64 xi) (.string xs) (.slice xal xnl xcl) (.slice xam xnm xcm)) (From (g + 1) (set6b w30 g (.int .i64 xk) (.bool xb) (.int .i64 xi) (.string xs) (.slice xal xnl xcl) (.slice xam xnm xcm))) [.int .i64 xk, .bool xb, .int .i64 xi, .string xs, .slice xal xnl xcl, .slice xam xnm xcm]) := V.lies_keep (fun h => h) (fun y hy => set6_other _ _ _ _ _ _ _ _ y (by have := hy.1; omega)) (fun y hy => ⟨hy.1, by have := hy.2; omega⟩) _ HLX.out
        dsimp only [set6b] at N_w31 D31 zY HLY
        generalize ((((((w30.setCell ⟨g, 3, none⟩ (.int .i64 xk)).setCell ⟨g, 4, none⟩ (.bool xb)).setCell ⟨g, 5, none⟩ (.int .i64 xi)).setCell ⟨g, 6, none⟩ (.string xs)).setCell ⟨g, 7, none⟩ (.slice xal xnl xcl)).setCell ⟨g, 8, none⟩ (.slice xam xnm xcm)) = w31 at *
        clear q0 q1 q2 q3 q4 q5 q6 q7 q8 qf HLX N_w30
        rcases Bool.eq_false_or_eq_true yOk with rfl | rfl
        rotate_left
        · obtain ⟨_, MX, _, BX, _, _, _⟩ := HK.out w31 D31
          have HF : Hid (rdF v = (60, zStp)) := by show _ = _; rw [rdF, HWO.out]; dsimp only; rw [if_neg (by simp), if_neg (by rw [HI.out.1]; simp), if_neg (by rw [HWP.out]; simp), if_neg (by rw [HFR.out]; simp), if_pos (by rw [HVM.out])]
          have r0 : w31.cell? ⟨w.heap.size + 1, 0, none⟩ = some (.string ⟨#[]⟩) := by rw [cell_of_block MX]; rfl
          have r1 : w31.cell? ⟨w.heap.size + 1, 1, none⟩ = some (.string ⟨#[]⟩) := by rw [cell_of_block MX]; rfl
          have r2 : w31.cell? ⟨w.heap.size + 1, 2, none⟩ = some (.string ⟨#[]⟩) := by rw [cell_of_block MX]; rfl
          have r3 : w31.cell? ⟨w.heap.size + 1, 3, none⟩ = some (.int .i64 0) := by rw [cell_of_block MX]; rfl
          have r4 : w31.cell? ⟨w.heap.size + 1, 4, none⟩ = some (.bool false) := by rw [cell_of_block MX]; rfl
          have r5 : w31.cell? ⟨w.heap.size + 1, 5, none⟩ = some (.int .i64 0) := by rw [cell_of_block MX]; rfl
          have r6 : w31.cell? ⟨w.heap.size + 1, 6, none⟩ = some (.string ⟨#[]⟩) := by rw [cell_of_block MX]; rfl
          have r7 : w31.cell? ⟨w.heap.size + 1, 7, none⟩ = some (.slice none 0 0) := by rw [cell_of_block MX]; rfl
          have r8 : w31.cell? ⟨w.heap.size + 1, 8, none⟩ = some (.slice none 0 0) := by rw [cell_of_block MX]; rfl
          have rf : ∀ i, w31.frozen? ⟨w.heap.size + 1, i, none⟩ = false := frozen_of_block MX
          go_wp2_with fail
          (try simp only [Exit.inBlock, Exit.then])
          refine bodyPost_ret (v := .tuple #[.agg #[.string ⟨#[]⟩, .string ⟨#[]⟩, .string ⟨#[]⟩, .int .i64 0, .bool false, .int .i64 0, .string ⟨#[]⟩, .slice none 0 0, .slice none 0 0], .int .i64 60]) ?_ rfl (by rw [HF.out]; exact ⟨[.int .i64 0, .bool false, .int .i64 0, .string ⟨#[]⟩, .slice none 0 0, .slice none 0 0], rfl, null_lies _ _, set9_below BX (by omega) _ _ _ _ _ _ _ _ _⟩)
          rw [results_cell_tmp rfl]
          go_simp
        have HVL : Hid (vluF v op = (y, true)) := HVM
        go_upto_region 20 with fail
        obtain ⟨_, _, _, _, _, TX, OX⟩ := HK.out w31 D31
        have CF := pcheck_any b op pa noS y false (From (g + 1) w31) [.int .i64 xk, .bool xb, .int .i64 xi, .string xs, .slice xal xnl xcl, .slice xam xnm xcm] w31 OX HLY.out (fun b h => h.2) hgw (Nat.le_trans hop (by simp only [maxLen]; omega)) hpa (Nat.zero_le _) TX
        obtain ⟨n, hn⟩ : ∃ n, fltF op pa noS y = n := ⟨_, rfl⟩
        rw [hn] at CF
        have HN := hmk hn
        have CFH := hmk CF
        clear CF hn TX OX
        have q0 : w31.cell? ⟨g, 0, none⟩ = some (.string op) := by rw [cell_of_block N_w31]; rfl
        have q1 : w31.cell? ⟨g, 1, none⟩ = some (.string pa) := by rw [cell_of_block N_w31]; rfl
        have q2 : w31.cell? ⟨g, 2, none⟩ = some (.string ⟨#[]⟩) := by rw [cell_of_block N_w31]; rfl
        have q3 : w31.cell? ⟨g, 3, none⟩ = some (.int .i64 xk) := by rw [cell_of_block N_w31]; rfl
        have q4 : w31.cell? ⟨g, 4, none⟩ = some (.bool xb) := by rw [cell_of_block N_w31]; rfl
        have q5 : w31.cell? ⟨g, 5, none⟩ = some (.int .i64 xi) := by rw [cell_of_block N_w31]; rfl
        have q6 : w31.cell? ⟨g, 6, none⟩ = some (.string xs) := by rw [cell_of_block N_w31]; rfl
        have q7 : w31.cell? ⟨g, 7, none⟩ = some (.slice xal xnl xcl) := by rw [cell_of_block N_w31]; rfl
        have q8 : w31.cell? ⟨g, 8, none⟩ = some (.slice xam xnm xcm) := by rw [cell_of_block N_w31]; rfl
        have qf : ∀ i, w31.frozen? ⟨g, i, none⟩ = false := frozen_of_block N_w31
        go_wp2_with fail
        refine CFH.out.mono ?_
        rintro e w40 ⟨rfl, b40⟩
        have zz40 := b40.size
        have D40 := D31.trans (b40.mono (by have := D31.size; omega))
        have N_w40 := (b40.block g (by omega)).trans N_w31
        have HLF : Hid (y.lies false w40 (From (g + 1) w40) [.int .i64 xk, .bool xb, .int .i64 xi, .string xs, .slice xal xnl xcl, .slice xam xnm xcm]) := V.lies_keep (fun h => h) (fun y hy => b40.block y hy.2) (fun y hy => ⟨hy.1, by have := hy.2; omega⟩) _ HLY.out
        clear CFH q0 q1 q2 q3 q4 q5 q6 q7 q8 qf
        obtain ⟨_, MX, _, BX, _, _, _⟩ := HK.out w40 D40
        by_cases hn : n = 0
        · subst hn
          have HF : Hid (rdF v = (0, (op, pa, noS, y))) := by show _ = _; rw [rdF, HWO.out]; dsimp only; rw [if_neg (by simp), if_neg (by rw [HI.out.1]; simp), if_neg (by rw [HWP.out]; simp), if_neg (by rw [HFR.out]; simp), if_neg (by rw [HVL.out]; simp), if_neg (by rw [HWP.out, HFR.out, HVL.out, HN.out]; simp), HWP.out, HFR.out, HVL.out]
          have q0 : w40.cell? ⟨g, 0, none⟩ = some (.string op) := by rw [cell_of_block N_w40]; rfl
          have q1 : w40.cell? ⟨g, 1, none⟩ = some (.string pa) := by rw [cell_of_block N_w40]; rfl
          have q2 : w40.cell? ⟨g, 2, none⟩ = some (.string ⟨#[]⟩) := by rw [cell_of_block N_w40]; rfl
          have q3 : w40.cell? ⟨g, 3, none⟩ = some (.int .i64 xk) := by rw [cell_of_block N_w40]; rfl
          have q4 : w40.cell? ⟨g, 4, none⟩ = some (.bool xb) := by rw [cell_of_block N_w40]; rfl
          have q5 : w40.cell? ⟨g, 5, none⟩ = some (.int .i64 xi) := by rw [cell_of_block N_w40]; rfl
          have q6 : w40.cell? ⟨g, 6, none⟩ = some (.string xs) := by rw [cell_of_block N_w40]; rfl
          have q7 : w40.cell? ⟨g, 7, none⟩ = some (.slice xal xnl xcl) := by rw [cell_of_block N_w40]; rfl
          have q8 : w40.cell? ⟨g, 8, none⟩ = some (.slice xam xnm xcm) := by rw [cell_of_block N_w40]; rfl
          have qf : ∀ i, w40.frozen? ⟨g, i, none⟩ = false := frozen_of_block N_w40
          have r0 : w40.cell? ⟨w.heap.size + 1, 0, none⟩ = some (.string ⟨#[]⟩) := by rw [cell_of_block MX]; rfl
          have r1 : w40.cell? ⟨w.heap.size + 1, 1, none⟩ = some (.string ⟨#[]⟩) := by rw [cell_of_block MX]; rfl
          have r2 : w40.cell? ⟨w.heap.size + 1, 2, none⟩ = some (.string ⟨#[]⟩) := by rw [cell_of_block MX]; rfl
          have r3 : w40.cell? ⟨w.heap.size + 1, 3, none⟩ = some (.int .i64 0) := by rw [cell_of_block MX]; rfl
          have r4 : w40.cell? ⟨w.heap.size + 1, 4, none⟩ = some (.bool false) := by rw [cell_of_block MX]; rfl
          have r5 : w40.cell? ⟨w.heap.size + 1, 5, none⟩ = some (.int .i64 0) := by rw [cell_of_block MX]; rfl
          have r6 : w40.cell? ⟨w.heap.size + 1, 6, none⟩ = some (.string ⟨#[]⟩) := by rw [cell_of_block MX]; rfl
          have r7 : w40.cell? ⟨w.heap.size + 1, 7, none⟩ = some (.slice none 0 0) := by rw [cell_of_block MX]; rfl
          have r8 : w40.cell? ⟨w.heap.size + 1, 8, none⟩ = some (.slice none 0 0) := by rw [cell_of_block MX]; rfl
          have rf : ∀ i, w40.frozen? ⟨w.heap.size + 1, i, none⟩ = false := frozen_of_block MX
          go_wp2_with fail
          (try simp only [Exit.inBlock, Exit.then])
          refine bodyPost_ret (v := .tuple #[.agg #[.string op, .string pa, .string ⟨#[]⟩, .int .i64 xk, .bool xb, .int .i64 xi, .string xs, .slice xal xnl xcl, .slice xam xnm xcm], .int .i64 0]) ?_ rfl (by rw [HF.out]; exact ⟨[.int .i64 xk, .bool xb, .int .i64 xi, .string xs, .slice xal xnl xcl, .slice xam xnm xcm], rfl, V.lies_keep (fun h => h) (fun y hy => set9_other _ _ _ _ _ _ _ _ _ _ _ y (by have := hy.1; omega)) (fun y hy => ⟨by have := hy.1; omega, Nat.lt_of_lt_of_le hy.2 (set9_below (Below.refl 0 w40) (Nat.zero_le _) _ _ _ _ _ _ _ _ _).size⟩) _ HLF.out, set9_below BX (by omega) _ _ _ _ _ _ _ _ _⟩)
          rw [results_cell_tmp rfl]
          go_simp
        · have hn0 : n ≠ 0 := hn
          have HF : Hid (rdF v = (n, zStp)) := by show _ = _; rw [rdF, HWO.out]; dsimp only; rw [if_neg (by simp), if_neg (by rw [HI.out.1]; simp), if_neg (by rw [HWP.out]; simp), if_neg (by rw [HFR.out]; simp), if_neg (by rw [HVL.out]; simp), if_pos (by rw [HWP.out, HFR.out, HVL.out, HN.out]; exact hn0), HWP.out, HFR.out, HVL.out, HN.out]
          have yn : ((n : Int) != 0) = true := by simp; omega
          have yn' : ((n : Int) == 0) = false := by simp; omega
          have r0 : w40.cell? ⟨w.heap.size + 1, 0, none⟩ = some (.string ⟨#[]⟩) := by rw [cell_of_block MX]; rfl
          have r1 : w40.cell? ⟨w.heap.size + 1, 1, none⟩ = some (.string ⟨#[]⟩) := by rw [cell_of_block MX]; rfl
          have r2 : w40.cell? ⟨w.heap.size + 1, 2, none⟩ = some (.string ⟨#[]⟩) := by rw [cell_of_block MX]; rfl
          have r3 : w40.cell? ⟨w.heap.size + 1, 3, none⟩ = some (.int .i64 0) := by rw [cell_of_block MX]; rfl
          have r4 : w40.cell? ⟨w.heap.size + 1, 4, none⟩ = some (.bool false) := by rw [cell_of_block MX]; rfl
          have r5 : w40.cell? ⟨w.heap.size + 1, 5, none⟩ = some (.int .i64 0) := by rw [cell_of_block MX]; rfl
          have r6 : w40.cell? ⟨w.heap.size + 1, 6, none⟩ = some (.string ⟨#[]⟩) := by rw [cell_of_block MX]; rfl
          have r7 : w40.cell? ⟨w.heap.size + 1, 7, none⟩ = some (.slice none 0 0) := by rw [cell_of_block MX]; rfl
          have r8 : w40.cell? ⟨w.heap.size + 1, 8, none⟩ = some (.slice none 0 0) := by rw [cell_of_block MX]; rfl
          have rf : ∀ i, w40.frozen? ⟨w.heap.size + 1, i, none⟩ = false := frozen_of_block MX
          go_wp2_with fail
          (try simp only [Exit.inBlock, Exit.then])
          refine bodyPost_ret (v := .tuple #[.agg #[.string ⟨#[]⟩, .string ⟨#[]⟩, .string ⟨#[]⟩, .int .i64 0, .bool false, .int .i64 0, .string ⟨#[]⟩, .slice none 0 0, .slice none 0 0], .int .i64 n]) ?_ rfl (by rw [HF.out]; exact ⟨[.int .i64 0, .bool false, .int .i64 0, .string ⟨#[]⟩, .slice none 0 0, .slice none 0 0], rfl, null_lies _ _, set9_below BX (by omega) _ _ _ _ _ _ _ _ _⟩)
          rw [results_cell_tmp rfl]
          go_simp
      | false =>
        have HVL : Hid (vluF v op = (nullV, true)) := by show _ = _; rw [vluF, if_neg (by rw [HI.out.2.2]; simp)]
        have HLY : Hid (nullV.lies false w11 (From (g + 1) w11) [.int .i64 0, .bool false, .int .i64 0, .string ⟨#[]⟩, .slice none 0 0, .slice none 0 0]) := null_lies _ _
        go_upto_region 20 with fail
        clear o1
        obtain ⟨_, _, _, _, _, TX, OX⟩ := HK.out w11 D_w11
        have CF := pcheck_any b op pa noS nullV false (From (g + 1) w11) [.int .i64 0, .bool false, .int .i64 0, .string ⟨#[]⟩, .slice none 0 0, .slice none 0 0] w11 OX HLY.out (fun b h => h.2) null_wt (Nat.le_trans hop (by simp only [maxLen]; omega)) hpa (Nat.zero_le _) TX
        obtain ⟨n, hn⟩ : ∃ n, fltF op pa noS nullV = n := ⟨_, rfl⟩
        rw [hn] at CF
        have HN := hmk hn
        have CFH := hmk CF
        clear CF hn TX OX
        have q0 : w11.cell? ⟨g, 0, none⟩ = some (.string op) := by rw [cell_of_block N_w11]; rfl
        have q1 : w11.cell? ⟨g, 1, none⟩ = some (.string pa) := by rw [cell_of_block N_w11]; rfl
        have q2 : w11.cell? ⟨g, 2, none⟩ = some (.string ⟨#[]⟩) := by rw [cell_of_block N_w11]; rfl
        have q3 : w11.cell? ⟨g, 3, none⟩ = some (.int .i64 0) := by rw [cell_of_block N_w11]; rfl
        have q4 : w11.cell? ⟨g, 4, none⟩ = some (.bool false) := by rw [cell_of_block N_w11]; rfl
        have q5 : w11.cell? ⟨g, 5, none⟩ = some (.int .i64 0) := by rw [cell_of_block N_w11]; rfl
        have q6 : w11.cell? ⟨g, 6, none⟩ = some (.string ⟨#[]⟩) := by rw [cell_of_block N_w11]; rfl
        have q7 : w11.cell? ⟨g, 7, none⟩ = some (.slice none 0 0) := by rw [cell_of_block N_w11]; rfl
        have q8 : w11.cell? ⟨g, 8, none⟩ = some (.slice none 0 0) := by rw [cell_of_block N_w11]; rfl
        have qf : ∀ i, w11.frozen? ⟨g, i, none⟩ = false := frozen_of_block N_w11
        go_wp2_with fail
        refine CFH.out.mono ?_
        rintro e w40 ⟨rfl, b40⟩
        have zz40 := b40.size
        have D40 := D_w11.trans (b40.mono (by have := D_w11.size; omega))
        have N_w40 := (b40.block g (by omega)).trans N_w11
        have HLF : Hid (nullV.lies false w40 (From (g + 1) w40) [.int .i64 0, .bool false, .int .i64 0, .string ⟨#[]⟩, .slice none 0 0, .slice none 0 0]) := V.lies_keep (fun h => h) (fun y hy => b40.block y hy.2) (fun y hy => ⟨hy.1, by have := hy.2; omega⟩) _ HLY.out
        clear CFH q0 q1 q2 q3 q4 q5 q6 q7 q8 qf
        obtain ⟨_, MX, _, BX, _, _, _⟩ := HK.out w40 D40
        by_cases hn : n = 0
        · subst hn
          have HF : Hid (rdF v = (0, (op, pa, noS, nullV))) := by show _ = _; rw [rdF, HWO.out]; dsimp only; rw [if_neg (by simp), if_neg (by rw [HI.out.1]; simp), if_neg (by rw [HWP.out]; simp), if_neg (by rw [HFR.out]; simp), if_neg (by rw [HVL.out]; simp), if_neg (by rw [HWP.out, HFR.out, HVL.out, HN.out]; simp), HWP.out, HFR.out, HVL.out]
          have q0 : w40.cell? ⟨g, 0, none⟩ = some (.string op) := by rw [cell_of_block N_w40]; rfl
          have q1 : w40.cell? ⟨g, 1, none⟩ = some (.string pa) := by rw [cell_of_block N_w40]; rfl
          have q2 : w40.cell? ⟨g, 2, none⟩ = some (.string ⟨#[]⟩) := by rw [cell_of_block N_w40]; rfl
          have q3 : w40.cell? ⟨g, 3, none⟩ = some (.int .i64 0) := by rw [cell_of_block N_w40]; rfl
          have q4 : w40.cell? ⟨g, 4, none⟩ = some (.bool false) := by rw [cell_of_block N_w40]; rfl
          have q5 : w40.cell? ⟨g, 5, none⟩ = some (.int .i64 0) := by rw [cell_of_block N_w40]; rfl
          have q6 : w40.cell? ⟨g, 6, none⟩ = some (.string ⟨#[]⟩) := by rw [cell_of_block N_w40]; rfl
          have q7 : w40.cell? ⟨g, 7, none⟩ = some (.slice none 0 0) := by rw [cell_of_block N_w40]; rfl
          have q8 : w40.cell? ⟨g, 8, none⟩ = some (.slice none 0 0) := by rw [cell_of_block N_w40]; rfl
          have qf : ∀ i, w40.frozen? ⟨g, i, none⟩ = false := frozen_of_block N_w40
          have r0 : w40.cell? ⟨w.heap.size + 1, 0, none⟩ = some (.string ⟨#[]⟩) := by rw [cell_of_block MX]; rfl
          have r1 : w40.cell? ⟨w.heap.size + 1, 1, none⟩ = some (.string ⟨#[]⟩) := by rw [cell_of_block MX]; rfl
          have r2 : w40.cell? ⟨w.heap.size + 1, 2, none⟩ = some (.string ⟨#[]⟩) := by rw [cell_of_block MX]; rfl
          have r3 : w40.cell? ⟨w.heap.size + 1, 3, none⟩ = some (.int .i64 0) := by rw [cell_of_block MX]; rfl
          have r4 : w40.cell? ⟨w.heap.size + 1, 4, none⟩ = some (.bool false) := by rw [cell_of_block MX]; rfl
          have r5 : w40.cell? ⟨w.heap.size + 1, 5, none⟩ = some (.int .i64 0) := by rw [cell_of_block MX]; rfl
          have r6 : w40.cell? ⟨w.heap.size + 1, 6, none⟩ = some (.string ⟨#[]⟩) := by rw [cell_of_block MX]; rfl
          have r7 : w40.cell? ⟨w.heap.size + 1, 7, none⟩ = some (.slice none 0 0) := by rw [cell_of_block MX]; rfl
          have r8 : w40.cell? ⟨w.heap.size + 1, 8, none⟩ = some (.slice none 0 0) := by rw [cell_of_block MX]; rfl
          have rf : ∀ i, w40.frozen? ⟨w.heap.size + 1, i, none⟩ = false := frozen_of_block MX
          go_wp2_with fail
          (try simp only [Exit.inBlock, Exit.then])
          refine bodyPost_ret (v := .tuple #[.agg #[.string op, .string pa, .string ⟨#[]⟩, .int .i64 0, .bool false, .int .i64 0, .string ⟨#[]⟩, .slice none 0 0, .slice none 0 0], .int .i64 0]) ?_ rfl (by rw [HF.out]; exact ⟨[.int .i64 0, .bool false, .int .i64 0, .string ⟨#[]⟩, .slice none 0 0, .slice none 0 0], rfl, V.lies_keep (fun h => h) (fun y hy => set9_other _ _ _ _ _ _ _ _ _ _ _ y (by have := hy.1; omega)) (fun y hy => ⟨by have := hy.1; omega, Nat.lt_of_lt_of_le hy.2 (set9_below (Below.refl 0 w40) (Nat.zero_le _) _ _ _ _ _ _ _ _ _).size⟩) _ HLF.out, set9_below BX (by omega) _ _ _ _ _ _ _ _ _⟩)
          rw [results_cell_tmp rfl]
          go_simp
        · have hn0 : n ≠ 0 := hn
          have HF : Hid (rdF v = (n, zStp)) := by show _ = _; rw [rdF, HWO.out]; dsimp only; rw [if_neg (by simp), if_neg (by rw [HI.out.1]; simp), if_neg (by rw [HWP.out]; simp), if_neg (by rw [HFR.out]; simp), if_neg (by rw [HVL.out]; simp), if_pos (by rw [HWP.out, HFR.out, HVL.out, HN.out]; exact hn0), HWP.out, HFR.out, HVL.out, HN.out]
          have yn : ((n : Int) != 0) = true := by simp; omega
          have yn' : ((n : Int) == 0) = false := by simp; omega
          have r0 : w40.cell? ⟨w.heap.size + 1, 0, none⟩ = some (.string ⟨#[]⟩) := by rw [cell_of_block MX]; rfl
          have r1 : w40.cell? ⟨w.heap.size + 1, 1, none⟩ = some (.string ⟨#[]⟩) := by rw [cell_of_block MX]; rfl
          have r2 : w40.cell? ⟨w.heap.size + 1, 2, none⟩ = some (.string ⟨#[]⟩) := by rw [cell_of_block MX]; rfl
          have r3 : w40.cell? ⟨w.heap.size + 1, 3, none⟩ = some (.int .i64 0) := by rw [cell_of_block MX]; rfl
          have r4 : w40.cell? ⟨w.heap.size + 1, 4, none⟩ = some (.bool false) := by rw [cell_of_block MX]; rfl
          have r5 : w40.cell? ⟨w.heap.size + 1, 5, none⟩ = some (.int .i64 0) := by rw [cell_of_block MX]; rfl
          have r6 : w40.cell? ⟨w.heap.size + 1, 6, none⟩ = some (.string ⟨#[]⟩) := by rw [cell_of_block MX]; rfl
          have r7 : w40.cell? ⟨w.heap.size + 1, 7, none⟩ = some (.slice none 0 0) := by rw [cell_of_block MX]; rfl
          have r8 : w40.cell? ⟨w.heap.size + 1, 8, none⟩ = some (.slice none 0 0) := by rw [cell_of_block MX]; rfl
          have rf : ∀ i, w40.frozen? ⟨w.heap.size + 1, i, none⟩ = false := frozen_of_block MX
          go_wp2_with fail
          (try simp only [Exit.inBlock, Exit.then])
          refine bodyPost_ret (v := .tuple #[.agg #[.string ⟨#[]⟩, .string ⟨#[]⟩, .string ⟨#[]⟩, .int .i64 0, .bool false, .int .i64 0, .string ⟨#[]⟩, .slice none 0 0, .slice none 0 0], .int .i64 n]) ?_ rfl (by rw [HF.out]; exact ⟨[.int .i64 0, .bool false, .int .i64 0, .string ⟨#[]⟩, .slice none 0 0, .slice none 0 0], rfl, null_lies _ _, set9_below BX (by omega) _ _ _ _ _ _ _ _ _⟩)
          rw [results_cell_tmp rfl]
          go_simp
end Go.Proofs.YtjgbjhahmgegiaaGreatDoor
