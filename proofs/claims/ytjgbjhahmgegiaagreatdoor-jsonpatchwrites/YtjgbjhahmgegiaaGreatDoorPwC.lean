import Derived.Test.YtjgbjhahmgegiaaGreatDoorPwB
/- a step as a value: the document's write. -/
set_option linter.unusedSimpArgs false
set_option linter.unusedVariables false
set_option maxRecDepth 100000
namespace Go.Proofs.YtjgbjhahmgegiaaGreatDoor
open Go.RowKit Go.Lib
def NoB (b : Nat) : Prop := False
/-- the boxes of a step that is written -/
theorem Wst.out {w W0 W : World} {gv : Nat} {S SM : Nat → Prop} {ms : List Mem} {smv : Value} (h : Wst W0 gv S SM ms smv W) (hw : w.heap.size ≤ W0.heap.size) (hgv : w.heap.size ≤ gv) :
    ∃ ta tc tb to_, smv = .slice ta ms.length tc ∧ Headed ta ms.length tc tb to_ ∧ liesM false W (fun b => S b ∨ (W0.heap.size ≤ b ∧ b < W.heap.size)) ms tb to_ :=
  own_listM0 h.ow (fun b hb => (h.sm b hb).imp id (fun q => ⟨q, (h.ow.off b hb).2.1⟩)) (fun g hg => .inr ⟨h.fl g hg, (h.ow.lt hg).2⟩)
set_option maxHeartbeats 8000000 in
theorem rwrite_any (op pa fr : ByteArray) (v : V) (S : Nat → Prop) (cs : List Value) (w : World) (hv : v.lies false w S cs) (hS : ∀ b, S b → b < w.heap.size) (h1 : op.size ≤ maxLen) (h2 : pa.size ≤ maxLen) (h3 : fr.size ≤ maxLen) :
    Calls Tryz.prog 29 #[.agg (.string op :: .string pa :: .string fr :: cs).toArray] w (TvPost (wrV (op, pa, fr, v)) S w) := by
  obtain ⟨vk, vb, vi, vs, val, vnl, vcl, vam, vnm, vcm, rfl⟩ := V.ten hv
  have HV := hmk hv
  obtain ⟨i1, hi1, hy0, hy1, hy2⟩ := info_parts info44
  have hJ : Hid (Tryz.prog.info? 45 = some i1 ∧ i1.zero = some (.agg #[.string ⟨#[]⟩, .int .i64 0, .bool false, .int .i64 0, .string ⟨#[]⟩, .slice none 0 0, .slice none 0 0]) ∧ i1.size = 7 ∧ i1.bytes = 104) := ⟨hi1, hy0, hy1, hy2⟩
  clear hi1 hy0 hy1 hy2 hv
  have z0 : (((w.alloc (.cells #[.string op, .string pa, .string fr, .int .i64 vk, .bool vb, .int .i64 vi, .string vs, .slice val vnl vcl, .slice vam vnm vcm] 51)).alloc (.cells #[.int .i64 0, .bool false, .int .i64 0, .string ⟨#[]⟩, .slice none 0 0, .slice none 0 0] 25)).alloc (.cells #[.int .i64 5, .bool false, .int .i64 0, .string ⟨#[]⟩, .slice none 0 0, .slice none 0 0] 25)).heap.size = w.heap.size + 3 := by rw [alloc_size, alloc_size, alloc_size]
  have B0 : Below w.heap.size w (((w.alloc (.cells #[.string op, .string pa, .string fr, .int .i64 vk, .bool vb, .int .i64 vi, .string vs, .slice val vnl vcl, .slice vam vnm vcm] 51)).alloc (.cells #[.int .i64 0, .bool false, .int .i64 0, .string ⟨#[]⟩, .slice none 0 0, .slice none 0 0] 25)).alloc (.cells #[.int .i64 5, .bool false, .int .i64 0, .string ⟨#[]⟩, .slice none 0 0, .slice none 0 0] 25)) := three_below w _ _ _
  obtain ⟨N0, N1, N2⟩ := three_allocs w (.cells #[.string op, .string pa, .string fr, .int .i64 vk, .bool vb, .int .i64 vi, .string vs, .slice val vnl vcl, .slice vam vnm vcm] 51) (.cells #[.int .i64 0, .bool false, .int .i64 0, .string ⟨#[]⟩, .slice none 0 0, .slice none 0 0] 25) (.cells #[.int .i64 5, .bool false, .int .i64 0, .string ⟨#[]⟩, .slice none 0 0, .slice none 0 0] 25)
  obtain ⟨W0, hW0⟩ : ∃ W0, W0 = ((w.alloc (.cells #[.string op, .string pa, .string fr, .int .i64 vk, .bool vb, .int .i64 vi, .string vs, .slice val vnl vcl, .slice vam vnm vcm] 51)).alloc (.cells #[.int .i64 0, .bool false, .int .i64 0, .string ⟨#[]⟩, .slice none 0 0, .slice none 0 0] 25)).alloc (.cells #[.int .i64 5, .bool false, .int .i64 0, .string ⟨#[]⟩, .slice none 0 0, .slice none 0 0] 25) := ⟨_, rfl⟩
  rw [← hW0] at z0 B0 N0 N1 N2
  have HS : Hid (∀ b, S b → b < W0.heap.size ∧ b ≠ w.heap.size + 2) := fun b hb => ⟨by have := hS b hb; omega, by have := hS b hb; omega⟩
  have HK : Hid (∀ W, W0.grownBy W (some (w.heap.size + 2)) → W.heap[w.heap.size]? = some (.cells #[.string op, .string pa, .string fr, .int .i64 vk, .bool vb, .int .i64 vi, .string vs, .slice val vnl vcl, .slice vam vnm vcm] 51) ∧ W.heap[w.heap.size + 1]? = some (.cells #[.int .i64 0, .bool false, .int .i64 0, .string ⟨#[]⟩, .slice none 0 0, .slice none 0 0] 25) ∧ v.lies false W S [.int .i64 vk, .bool vb, .int .i64 vi, .string vs, .slice val vnl vcl, .slice vam vnm vcm] ∧ Below w.heap.size w W) := fun W h => by
    have bW := B0.grown h (by omega) (fun r e => by have := Option.some.inj e; omega)
    exact ⟨(h.block _ (by omega) (fun e => by have := Option.some.inj e; omega)).trans N0, (h.block _ (by omega) (fun e => by have := Option.some.inj e; omega)).trans N1, V.lies_keep (fun h => h) (fun x hx => bW.block x (hS x hx)) (fun _ h => h) _ HV.out, bW⟩
  have X0 : Wst W0 (w.heap.size + 2) S NoB [] (.slice none 0 0) W0 := ⟨World.grownBy.refl _ _, N2, OwnR.nil _ _, fun r h => by simp [Value.ownBlock] at h, fun b (h : NoB b) => False.elim h⟩
  have a0 : W0.cell? ⟨w.heap.size, 0, none⟩ = some (.string op) := by rw [cell_of_block N0]; rfl
  have a1 : W0.cell? ⟨w.heap.size, 1, none⟩ = some (.string pa) := by rw [cell_of_block N0]; rfl
  have a2 : W0.cell? ⟨w.heap.size, 2, none⟩ = some (.string fr) := by rw [cell_of_block N0]; rfl
  have a3 : W0.cell? ⟨w.heap.size, 3, none⟩ = some (.int .i64 vk) := by rw [cell_of_block N0]; rfl
  have a4 : W0.cell? ⟨w.heap.size, 4, none⟩ = some (.bool vb) := by rw [cell_of_block N0]; rfl
  have a5 : W0.cell? ⟨w.heap.size, 5, none⟩ = some (.int .i64 vi) := by rw [cell_of_block N0]; rfl
  have a6 : W0.cell? ⟨w.heap.size, 6, none⟩ = some (.string vs) := by rw [cell_of_block N0]; rfl
  have a7 : W0.cell? ⟨w.heap.size, 7, none⟩ = some (.slice val vnl vcl) := by rw [cell_of_block N0]; rfl
  have a8 : W0.cell? ⟨w.heap.size, 8, none⟩ = some (.slice vam vnm vcm) := by rw [cell_of_block N0]; rfl
  clear HV N0 N1 N2
  have CF := hmk (from_any op W0)
  obtain ⟨f, hf⟩ : ∃ f, fromF op = f := ⟨_, rfl⟩
  have HF := hmk hf
  rw [hf] at CF
  obtain ⟨q, hq⟩ : ∃ q, valF op = q := ⟨_, rfl⟩
  have HQ := hmk hq
  clear hf hq
  go_enter Tryz.func29, Tryz.ntmps29
  go_wp2_with fail
  (try rw [← hW0])
  clear hW0
  refine CF.out.mono ?_
  rintro e w1 ⟨rfl, b1⟩
  have X1 := hmk (X0.below (by omega) b1)
  clear CF a0 a1 a2 a3 a4 a5 a6 a7 a8 X0 b1
  cases f with
  | true =>
    obtain ⟨SM10, M10, XX10, HM10⟩ : ∃ (SM : Nat → Prop) (M : List Mem), Hid (Wst W0 (w.heap.size + 2) S SM M (.slice none 0 0) w1) ∧ Hid (M = ([] : List Mem)) := ⟨_, _, X1, rfl⟩
    clear X1
    obtain ⟨NS, NR, LV, BW⟩ := HK.out w1 XX10.out.gr
    have a0 : w1.cell? ⟨w.heap.size, 0, none⟩ = some (.string op) := by rw [cell_of_block NS]; rfl
    have a1 : w1.cell? ⟨w.heap.size, 1, none⟩ = some (.string pa) := by rw [cell_of_block NS]; rfl
    have a2 : w1.cell? ⟨w.heap.size, 2, none⟩ = some (.string fr) := by rw [cell_of_block NS]; rfl
    have a3 : w1.cell? ⟨w.heap.size, 3, none⟩ = some (.int .i64 vk) := by rw [cell_of_block NS]; rfl
    have a4 : w1.cell? ⟨w.heap.size, 4, none⟩ = some (.bool vb) := by rw [cell_of_block NS]; rfl
    have a5 : w1.cell? ⟨w.heap.size, 5, none⟩ = some (.int .i64 vi) := by rw [cell_of_block NS]; rfl
    have a6 : w1.cell? ⟨w.heap.size, 6, none⟩ = some (.string vs) := by rw [cell_of_block NS]; rfl
    have a7 : w1.cell? ⟨w.heap.size, 7, none⟩ = some (.slice val vnl vcl) := by rw [cell_of_block NS]; rfl
    have a8 : w1.cell? ⟨w.heap.size, 8, none⟩ = some (.slice vam vnm vcm) := by rw [cell_of_block NS]; rfl
    have m5 : w1.cell? ⟨w.heap.size + 1 + 1, 5, none⟩ = some (.slice none 0 0) := by rw [cell_of_block (b := w.heap.size + 1 + 1) XX10.out.bx]; rfl
    clear NS NR
    have bA10 : Below w1.heap.size w1 (w1.alloc (.cells #[.string kFrom, .int .i64 3, .bool false, .int .i64 0, .string fr, .slice none 0 0, .slice none 0 0] 45)) := (Below.refl _ _).alloc (Nat.le_refl _) _
    have XA10 := hmk (XX10.out.below (show w.heap.size + 2 < W0.heap.size by omega) bA10)
    have HE10 : Hid (EM false (some (kFrom, strV fr)) (w1.alloc (.cells #[.string kFrom, .int .i64 3, .bool false, .int .i64 0, .string fr, .slice none 0 0, .slice none 0 0] 45)) NoB [.string kFrom, .int .i64 3, .bool false, .int .i64 0, .string fr, .slice none 0 0, .slice none 0 0]) := ⟨_, rfl, (show (kFrom : ByteArray).size ≤ maxLen by decide), str_lies fr h3 _ _⟩
    have HX10 : Hid (∀ b, NoB b → 0 ≤ b ∧ b < (w1.alloc (.cells #[.string kFrom, .int .i64 3, .bool false, .int .i64 0, .string fr, .slice none 0 0, .slice none 0 0] 45)).heap.size ∧ some b ≠ (.slice none 0 0 : Value).ownBlock) := fun b (h : NoB b) => False.elim h
    have hll : (M10.map some).length = M10.length := List.length_map ..
    obtain ⟨n10, hnn⟩ : ∃ n, M10.length + 1 = n := ⟨_, rfl⟩
    have hn10 : (M10.map some).length ≤ 4294967296 := by rw [hll, HM10.out]; simp []
    have HLL : Hid ((M10.map some).length + 1 = n10) := by show _ = _; rw [hll]; exact hnn
    clear LV hll hnn
    go_wp2_with (at_builtin; go_loud (refine wpl_push (keepM false) _ rfl (.tmp 9) (.tmp 14) 23 rfl 0 i1 _ 104 Tryz.underlying23 hJ.out.1 hJ.out.2.1 hJ.out.2.2.1 hJ.out.2.2.2 rfl (by decide) (by decide) (.slice none 0 0) (some (kFrom, strV fr)) rfl XA10.out.ow w1.heap.size 1 (0, 0) rfl (heap_alloc_new w1 _) rfl one7 HE10.out HX10.out hn10 (Nat.zero_le _) ?_; rw [HLL.out]))
    intro g10 cap10 w5 o5 g5 e5
    have X10 := hmk (XA10.out.store (SX := NoB) (ms' := M10 ++ [(kFrom, strV fr)]) (by omega) HS.out (by rw [List.map_append]; exact o5) g5 (by first | exact e5 | (rw [alloc_size]; exact e5)) (fun b (h : NoB b) => False.elim h))
    have f5 : w5.heap[w.heap.size + 1 + 1]? = _ := (g5.block (w.heap.size + 2) (Nat.lt_of_lt_of_le (show w.heap.size + 2 < W0.heap.size by omega) XA10.out.gr.size) (fun e => by have := XA10.out.fl _ e.symm; omega)).trans XA10.out.bx
    have e6 : w5.cell? ⟨w.heap.size + 1 + 1, 5, none⟩ = some (.slice none 0 0) := by rw [cell_of_block f5]; rfl
    have e7 : w5.frozen? ⟨w.heap.size + 1 + 1, 5, none⟩ = false := frozen_of_block f5 5
    clear f5 a0 a1 a2 a3 a4 a5 a6 a7 a8 m5 o5 g5 e5 HE10 HX10 hn10 XA10 bA10 XX10 HLL
    go_upto_region 4 with fail
    generalize w5.setCell ⟨w.heap.size + 1 + 1, 5, none⟩ (.slice (some ⟨g10, 0, none⟩) n10 cap10) = y10 at *
    clear e6 e7
    obtain ⟨SM20, M20, XX20, HM20⟩ : ∃ (SM : Nat → Prop) (M : List Mem), Hid (Wst W0 (w.heap.size + 2) S SM M (.slice (some ⟨g10, 0, none⟩) n10 cap10) y10) ∧ Hid (M = M10 ++ [(kFrom, strV fr)]) := ⟨_, _, X10, rfl⟩
    clear X10
    obtain ⟨NS, NR, LV, BW⟩ := HK.out y10 XX20.out.gr
    have a0 : y10.cell? ⟨w.heap.size, 0, none⟩ = some (.string op) := by rw [cell_of_block NS]; rfl
    have a1 : y10.cell? ⟨w.heap.size, 1, none⟩ = some (.string pa) := by rw [cell_of_block NS]; rfl
    have a2 : y10.cell? ⟨w.heap.size, 2, none⟩ = some (.string fr) := by rw [cell_of_block NS]; rfl
    have a3 : y10.cell? ⟨w.heap.size, 3, none⟩ = some (.int .i64 vk) := by rw [cell_of_block NS]; rfl
    have a4 : y10.cell? ⟨w.heap.size, 4, none⟩ = some (.bool vb) := by rw [cell_of_block NS]; rfl
    have a5 : y10.cell? ⟨w.heap.size, 5, none⟩ = some (.int .i64 vi) := by rw [cell_of_block NS]; rfl
    have a6 : y10.cell? ⟨w.heap.size, 6, none⟩ = some (.string vs) := by rw [cell_of_block NS]; rfl
    have a7 : y10.cell? ⟨w.heap.size, 7, none⟩ = some (.slice val vnl vcl) := by rw [cell_of_block NS]; rfl
    have a8 : y10.cell? ⟨w.heap.size, 8, none⟩ = some (.slice vam vnm vcm) := by rw [cell_of_block NS]; rfl
    have m5 : y10.cell? ⟨w.heap.size + 1 + 1, 5, none⟩ = some (.slice (some ⟨g10, 0, none⟩) n10 cap10) := by rw [cell_of_block (b := w.heap.size + 1 + 1) XX20.out.bx]; rfl
    clear NS NR
    have bA20 : Below y10.heap.size y10 (y10.alloc (.cells #[.string kOp, .int .i64 3, .bool false, .int .i64 0, .string op, .slice none 0 0, .slice none 0 0] 45)) := (Below.refl _ _).alloc (Nat.le_refl _) _
    have XA20 := hmk (XX20.out.below (show w.heap.size + 2 < W0.heap.size by omega) bA20)
    have HE20 : Hid (EM false (some (kOp, strV op)) (y10.alloc (.cells #[.string kOp, .int .i64 3, .bool false, .int .i64 0, .string op, .slice none 0 0, .slice none 0 0] 45)) NoB [.string kOp, .int .i64 3, .bool false, .int .i64 0, .string op, .slice none 0 0, .slice none 0 0]) := ⟨_, rfl, (show (kOp : ByteArray).size ≤ maxLen by decide), str_lies op h1 _ _⟩
    have HX20 : Hid (∀ b, NoB b → 0 ≤ b ∧ b < (y10.alloc (.cells #[.string kOp, .int .i64 3, .bool false, .int .i64 0, .string op, .slice none 0 0, .slice none 0 0] 45)).heap.size ∧ some b ≠ (.slice (some ⟨g10, 0, none⟩) n10 cap10 : Value).ownBlock) := fun b (h : NoB b) => False.elim h
    have hll : (M20.map some).length = M20.length := List.length_map ..
    obtain ⟨n20, hnn⟩ : ∃ n, M20.length + 1 = n := ⟨_, rfl⟩
    have hn20 : (M20.map some).length ≤ 4294967296 := by rw [hll, HM20.out]; simp [HM10.out]
    have HLL : Hid ((M20.map some).length + 1 = n20) := by show _ = _; rw [hll]; exact hnn
    clear LV hll hnn
    go_wp2_with (at_builtin; go_loud (refine wpl_push (keepM false) _ rfl (.tmp 18) (.tmp 23) 23 rfl 0 i1 _ 104 Tryz.underlying23 hJ.out.1 hJ.out.2.1 hJ.out.2.2.1 hJ.out.2.2.2 rfl (by decide) (by decide) (.slice (some ⟨g10, 0, none⟩) n10 cap10) (some (kOp, strV op)) rfl XA20.out.ow y10.heap.size 1 (0, 0) rfl (heap_alloc_new y10 _) rfl one7 HE20.out HX20.out hn20 (Nat.zero_le _) ?_; rw [HLL.out]))
    intro g20 cap20 w5 o5 g5 e5
    have X20 := hmk (XA20.out.store (SX := NoB) (ms' := M20 ++ [(kOp, strV op)]) (by omega) HS.out (by rw [List.map_append]; exact o5) g5 (by first | exact e5 | (rw [alloc_size]; exact e5)) (fun b (h : NoB b) => False.elim h))
    have f5 : w5.heap[w.heap.size + 1 + 1]? = _ := (g5.block (w.heap.size + 2) (Nat.lt_of_lt_of_le (show w.heap.size + 2 < W0.heap.size by omega) XA20.out.gr.size) (fun e => by have := XA20.out.fl _ e.symm; omega)).trans XA20.out.bx
    have e6 : w5.cell? ⟨w.heap.size + 1 + 1, 5, none⟩ = some (.slice (some ⟨g10, 0, none⟩) n10 cap10) := by rw [cell_of_block f5]; rfl
    have e7 : w5.frozen? ⟨w.heap.size + 1 + 1, 5, none⟩ = false := frozen_of_block f5 5
    clear f5 a0 a1 a2 a3 a4 a5 a6 a7 a8 m5 o5 g5 e5 HE20 HX20 hn20 XA20 bA20 XX20 HLL
    go_upto_region 5 with fail
    generalize w5.setCell ⟨w.heap.size + 1 + 1, 5, none⟩ (.slice (some ⟨g20, 0, none⟩) n20 cap20) = y20 at *
    clear e6 e7
    obtain ⟨SM21, M21, XX21, HM21⟩ : ∃ (SM : Nat → Prop) (M : List Mem), Hid (Wst W0 (w.heap.size + 2) S SM M (.slice (some ⟨g20, 0, none⟩) n20 cap20) y20) ∧ Hid (M = M20 ++ [(kOp, strV op)]) := ⟨_, _, X20, rfl⟩
    clear X20
    obtain ⟨NS, NR, LV, BW⟩ := HK.out y20 XX21.out.gr
    have a0 : y20.cell? ⟨w.heap.size, 0, none⟩ = some (.string op) := by rw [cell_of_block NS]; rfl
    have a1 : y20.cell? ⟨w.heap.size, 1, none⟩ = some (.string pa) := by rw [cell_of_block NS]; rfl
    have a2 : y20.cell? ⟨w.heap.size, 2, none⟩ = some (.string fr) := by rw [cell_of_block NS]; rfl
    have a3 : y20.cell? ⟨w.heap.size, 3, none⟩ = some (.int .i64 vk) := by rw [cell_of_block NS]; rfl
    have a4 : y20.cell? ⟨w.heap.size, 4, none⟩ = some (.bool vb) := by rw [cell_of_block NS]; rfl
    have a5 : y20.cell? ⟨w.heap.size, 5, none⟩ = some (.int .i64 vi) := by rw [cell_of_block NS]; rfl
    have a6 : y20.cell? ⟨w.heap.size, 6, none⟩ = some (.string vs) := by rw [cell_of_block NS]; rfl
    have a7 : y20.cell? ⟨w.heap.size, 7, none⟩ = some (.slice val vnl vcl) := by rw [cell_of_block NS]; rfl
    have a8 : y20.cell? ⟨w.heap.size, 8, none⟩ = some (.slice vam vnm vcm) := by rw [cell_of_block NS]; rfl
    have m5 : y20.cell? ⟨w.heap.size + 1 + 1, 5, none⟩ = some (.slice (some ⟨g20, 0, none⟩) n20 cap20) := by rw [cell_of_block (b := w.heap.size + 1 + 1) XX21.out.bx]; rfl
    clear NS NR
    have bA21 : Below y20.heap.size y20 (y20.alloc (.cells #[.string kPath, .int .i64 3, .bool false, .int .i64 0, .string pa, .slice none 0 0, .slice none 0 0] 45)) := (Below.refl _ _).alloc (Nat.le_refl _) _
    have XA21 := hmk (XX21.out.below (show w.heap.size + 2 < W0.heap.size by omega) bA21)
    have HE21 : Hid (EM false (some (kPath, strV pa)) (y20.alloc (.cells #[.string kPath, .int .i64 3, .bool false, .int .i64 0, .string pa, .slice none 0 0, .slice none 0 0] 45)) NoB [.string kPath, .int .i64 3, .bool false, .int .i64 0, .string pa, .slice none 0 0, .slice none 0 0]) := ⟨_, rfl, (show (kPath : ByteArray).size ≤ maxLen by decide), str_lies pa h2 _ _⟩
    have HX21 : Hid (∀ b, NoB b → 0 ≤ b ∧ b < (y20.alloc (.cells #[.string kPath, .int .i64 3, .bool false, .int .i64 0, .string pa, .slice none 0 0, .slice none 0 0] 45)).heap.size ∧ some b ≠ (.slice (some ⟨g20, 0, none⟩) n20 cap20 : Value).ownBlock) := fun b (h : NoB b) => False.elim h
    have hll : (M21.map some).length = M21.length := List.length_map ..
    obtain ⟨n21, hnn⟩ : ∃ n, M21.length + 1 = n := ⟨_, rfl⟩
    have hn21 : (M21.map some).length ≤ 4294967296 := by rw [hll, HM21.out]; simp [HM10.out, HM20.out]
    have HLL : Hid ((M21.map some).length + 1 = n21) := by show _ = _; rw [hll]; exact hnn
    clear LV hll hnn
    go_wp2_with (at_builtin; go_loud (refine wpl_push (keepM false) _ rfl (.tmp 27) (.tmp 32) 23 rfl 0 i1 _ 104 Tryz.underlying23 hJ.out.1 hJ.out.2.1 hJ.out.2.2.1 hJ.out.2.2.2 rfl (by decide) (by decide) (.slice (some ⟨g20, 0, none⟩) n20 cap20) (some (kPath, strV pa)) rfl XA21.out.ow y20.heap.size 1 (0, 0) rfl (heap_alloc_new y20 _) rfl one7 HE21.out HX21.out hn21 (Nat.zero_le _) ?_; rw [HLL.out]))
    intro g21 cap21 w5 o5 g5 e5
    have X21 := hmk (XA21.out.store (SX := NoB) (ms' := M21 ++ [(kPath, strV pa)]) (by omega) HS.out (by rw [List.map_append]; exact o5) g5 (by first | exact e5 | (rw [alloc_size]; exact e5)) (fun b (h : NoB b) => False.elim h))
    have f5 : w5.heap[w.heap.size + 1 + 1]? = _ := (g5.block (w.heap.size + 2) (Nat.lt_of_lt_of_le (show w.heap.size + 2 < W0.heap.size by omega) XA21.out.gr.size) (fun e => by have := XA21.out.fl _ e.symm; omega)).trans XA21.out.bx
    have e6 : w5.cell? ⟨w.heap.size + 1 + 1, 5, none⟩ = some (.slice (some ⟨g20, 0, none⟩) n20 cap20) := by rw [cell_of_block f5]; rfl
    have e7 : w5.frozen? ⟨w.heap.size + 1 + 1, 5, none⟩ = false := frozen_of_block f5 5
    clear f5 a0 a1 a2 a3 a4 a5 a6 a7 a8 m5 o5 g5 e5 HE21 HX21 hn21 XA21 bA21 XX21 HLL
    go_upto_region 6 with fail
    generalize w5.setCell ⟨w.heap.size + 1 + 1, 5, none⟩ (.slice (some ⟨g21, 0, none⟩) n21 cap21) = y21 at *
    clear e6 e7
    obtain ⟨NS, NR, LV, BW⟩ := HK.out y21 X21.out.gr
    have a0 : y21.cell? ⟨w.heap.size, 0, none⟩ = some (.string op) := by rw [cell_of_block NS]; rfl
    have a1 : y21.cell? ⟨w.heap.size, 1, none⟩ = some (.string pa) := by rw [cell_of_block NS]; rfl
    have a2 : y21.cell? ⟨w.heap.size, 2, none⟩ = some (.string fr) := by rw [cell_of_block NS]; rfl
    have a3 : y21.cell? ⟨w.heap.size, 3, none⟩ = some (.int .i64 vk) := by rw [cell_of_block NS]; rfl
    have a4 : y21.cell? ⟨w.heap.size, 4, none⟩ = some (.bool vb) := by rw [cell_of_block NS]; rfl
    have a5 : y21.cell? ⟨w.heap.size, 5, none⟩ = some (.int .i64 vi) := by rw [cell_of_block NS]; rfl
    have a6 : y21.cell? ⟨w.heap.size, 6, none⟩ = some (.string vs) := by rw [cell_of_block NS]; rfl
    have a7 : y21.cell? ⟨w.heap.size, 7, none⟩ = some (.slice val vnl vcl) := by rw [cell_of_block NS]; rfl
    have a8 : y21.cell? ⟨w.heap.size, 8, none⟩ = some (.slice vam vnm vcm) := by rw [cell_of_block NS]; rfl
    have m5 : y21.cell? ⟨w.heap.size + 1 + 1, 5, none⟩ = some (.slice (some ⟨g21, 0, none⟩) n21 cap21) := by rw [cell_of_block (b := w.heap.size + 1 + 1) X21.out.bx]; rfl
    clear NS NR
    have CV := hmk (val_any op y21)
    rw [HQ.out] at CV
    clear LV BW m5
    go_wp2_with fail
    refine CV.out.mono ?_
    rintro e w9 ⟨rfl, b9⟩
    have X9 := hmk (X21.out.below (by omega) b9)
    clear CV a0 a1 a2 a3 a4 a5 a6 a7 a8 b9 X21
    cases q with
    | true =>
      obtain ⟨SM30, M30, XX30, HM30⟩ : ∃ (SM : Nat → Prop) (M : List Mem), Hid (Wst W0 (w.heap.size + 2) S SM M (.slice (some ⟨g21, 0, none⟩) n21 cap21) w9) ∧ Hid (M = M21 ++ [(kPath, strV pa)]) := ⟨_, _, X9, rfl⟩
      clear X9
      obtain ⟨NS, NR, LV, BW⟩ := HK.out w9 XX30.out.gr
      have a0 : w9.cell? ⟨w.heap.size, 0, none⟩ = some (.string op) := by rw [cell_of_block NS]; rfl
      have a1 : w9.cell? ⟨w.heap.size, 1, none⟩ = some (.string pa) := by rw [cell_of_block NS]; rfl
      have a2 : w9.cell? ⟨w.heap.size, 2, none⟩ = some (.string fr) := by rw [cell_of_block NS]; rfl
      have a3 : w9.cell? ⟨w.heap.size, 3, none⟩ = some (.int .i64 vk) := by rw [cell_of_block NS]; rfl
      have a4 : w9.cell? ⟨w.heap.size, 4, none⟩ = some (.bool vb) := by rw [cell_of_block NS]; rfl
      have a5 : w9.cell? ⟨w.heap.size, 5, none⟩ = some (.int .i64 vi) := by rw [cell_of_block NS]; rfl
      have a6 : w9.cell? ⟨w.heap.size, 6, none⟩ = some (.string vs) := by rw [cell_of_block NS]; rfl
      have a7 : w9.cell? ⟨w.heap.size, 7, none⟩ = some (.slice val vnl vcl) := by rw [cell_of_block NS]; rfl
      have a8 : w9.cell? ⟨w.heap.size, 8, none⟩ = some (.slice vam vnm vcm) := by rw [cell_of_block NS]; rfl
      have m5 : w9.cell? ⟨w.heap.size + 1 + 1, 5, none⟩ = some (.slice (some ⟨g21, 0, none⟩) n21 cap21) := by rw [cell_of_block (b := w.heap.size + 1 + 1) XX30.out.bx]; rfl
      clear NS NR
      have bA30 : Below w9.heap.size w9 (w9.alloc (.cells #[.string kVal, .int .i64 vk, .bool vb, .int .i64 vi, .string vs, .slice val vnl vcl, .slice vam vnm vcm] 45)) := (Below.refl _ _).alloc (Nat.le_refl _) _
      have XA30 := hmk (XX30.out.below (show w.heap.size + 2 < W0.heap.size by omega) bA30)
      have HE30 : Hid (EM false (some (kVal, v)) (w9.alloc (.cells #[.string kVal, .int .i64 vk, .bool vb, .int .i64 vi, .string vs, .slice val vnl vcl, .slice vam vnm vcm] 45)) S [.string kVal, .int .i64 vk, .bool vb, .int .i64 vi, .string vs, .slice val vnl vcl, .slice vam vnm vcm]) := ⟨_, rfl, (show (kVal : ByteArray).size ≤ maxLen by decide), V.lies_keep (fun h => h) (fun x hx => bA30.block x (by have := hS x hx; have := BW.size; omega)) (fun _ h => h) _ LV⟩
      have HX30 : Hid (∀ b, S b → 0 ≤ b ∧ b < (w9.alloc (.cells #[.string kVal, .int .i64 vk, .bool vb, .int .i64 vi, .string vs, .slice val vnl vcl, .slice vam vnm vcm] 45)).heap.size ∧ some b ≠ (.slice (some ⟨g21, 0, none⟩) n21 cap21 : Value).ownBlock) := fun b hb => ⟨Nat.zero_le _, by have := bA30.size; have := hS b hb; have := BW.size; omega, fun e => by have := XX30.out.fl b e.symm; have := hS b hb; omega⟩
      have hll : (M30.map some).length = M30.length := List.length_map ..
      obtain ⟨n30, hnn⟩ : ∃ n, M30.length + 1 = n := ⟨_, rfl⟩
      have hn30 : (M30.map some).length ≤ 4294967296 := by rw [hll, HM30.out]; simp [HM10.out, HM20.out, HM21.out]
      have HLL : Hid ((M30.map some).length + 1 = n30) := by show _ = _; rw [hll]; exact hnn
      clear LV hll hnn
      go_wp2_with (at_builtin; go_loud (refine wpl_push (keepM false) _ rfl (.tmp 39) (.tmp 43) 23 rfl 0 i1 _ 104 Tryz.underlying23 hJ.out.1 hJ.out.2.1 hJ.out.2.2.1 hJ.out.2.2.2 rfl (by decide) (by decide) (.slice (some ⟨g21, 0, none⟩) n21 cap21) (some (kVal, v)) rfl XA30.out.ow w9.heap.size 1 (0, 0) rfl (heap_alloc_new w9 _) rfl one7 HE30.out HX30.out hn30 (Nat.zero_le _) ?_; rw [HLL.out]))
      intro g30 cap30 w5 o5 g5 e5
      have X30 := hmk (XA30.out.store (SX := S) (ms' := M30 ++ [(kVal, v)]) (by omega) HS.out (by rw [List.map_append]; exact o5) g5 (by first | exact e5 | (rw [alloc_size]; exact e5)) (fun b h => .inl h))
      have f5 : w5.heap[w.heap.size + 1 + 1]? = _ := (g5.block (w.heap.size + 2) (Nat.lt_of_lt_of_le (show w.heap.size + 2 < W0.heap.size by omega) XA30.out.gr.size) (fun e => by have := XA30.out.fl _ e.symm; omega)).trans XA30.out.bx
      have e6 : w5.cell? ⟨w.heap.size + 1 + 1, 5, none⟩ = some (.slice (some ⟨g21, 0, none⟩) n21 cap21) := by rw [cell_of_block f5]; rfl
      have e7 : w5.frozen? ⟨w.heap.size + 1 + 1, 5, none⟩ = false := frozen_of_block f5 5
      clear f5 a0 a1 a2 a3 a4 a5 a6 a7 a8 m5 o5 g5 e5 HE30 HX30 hn30 XA30 bA30 XX30 HLL
      go_upto_region 8 with fail
      generalize w5.setCell ⟨w.heap.size + 1 + 1, 5, none⟩ (.slice (some ⟨g30, 0, none⟩) n30 cap30) = y30 at *
      clear e6 e7
      have HM : Hid (wrV (op, pa, fr, v) = V.mk 5 false 0 noS [] (M30 ++ [(kVal, v)])) := by show _ = _; simp only [wrV, wrM, HF.out, HQ.out, HM10.out, HM20.out, HM21.out, HM30.out]; rfl
      obtain ⟨_, NR, _, BW⟩ := HK.out y30 X30.out.gr
      obtain ⟨ta, tc, tb, to_, hse, hdm, hMs⟩ := X30.out.out (w := w) (by omega) (by omega)
      have HMs := hmk hMs
      have bx := X30.out.bx
      have zz := X30.out.gr.size
      rw [hse] at bx
      obtain ⟨MSL, hmsl⟩ : ∃ l, l = M30 ++ [(kVal, v)] := ⟨_, rfl⟩
      rw [← hmsl] at HM HMs hdm bx
      have x0 : y30.cell? ⟨w.heap.size + 1 + 1, 0, none⟩ = some (.int .i64 5) := by rw [cell_of_block (b := w.heap.size + 1 + 1) bx]; rfl
      have x1 : y30.cell? ⟨w.heap.size + 1 + 1, 1, none⟩ = some (.bool false) := by rw [cell_of_block (b := w.heap.size + 1 + 1) bx]; rfl
      have x2 : y30.cell? ⟨w.heap.size + 1 + 1, 2, none⟩ = some (.int .i64 0) := by rw [cell_of_block (b := w.heap.size + 1 + 1) bx]; rfl
      have x3 : y30.cell? ⟨w.heap.size + 1 + 1, 3, none⟩ = some (.string ⟨#[]⟩) := by rw [cell_of_block (b := w.heap.size + 1 + 1) bx]; rfl
      have x4 : y30.cell? ⟨w.heap.size + 1 + 1, 4, none⟩ = some (.slice none 0 0) := by rw [cell_of_block (b := w.heap.size + 1 + 1) bx]; rfl
      have x5 : y30.cell? ⟨w.heap.size + 1 + 1, 5, none⟩ = some (.slice ta MSL.length tc) := by rw [cell_of_block (b := w.heap.size + 1 + 1) bx]; rfl
      have r0 : y30.cell? ⟨w.heap.size + 1, 0, none⟩ = some (.int .i64 0) := by rw [cell_of_block NR]; rfl
      have r1 : y30.cell? ⟨w.heap.size + 1, 1, none⟩ = some (.bool false) := by rw [cell_of_block NR]; rfl
      have r2 : y30.cell? ⟨w.heap.size + 1, 2, none⟩ = some (.int .i64 0) := by rw [cell_of_block NR]; rfl
      have r3 : y30.cell? ⟨w.heap.size + 1, 3, none⟩ = some (.string ⟨#[]⟩) := by rw [cell_of_block NR]; rfl
      have r4 : y30.cell? ⟨w.heap.size + 1, 4, none⟩ = some (.slice none 0 0) := by rw [cell_of_block NR]; rfl
      have r5 : y30.cell? ⟨w.heap.size + 1, 5, none⟩ = some (.slice none 0 0) := by rw [cell_of_block NR]; rfl
      have rf : ∀ i, y30.frozen? ⟨w.heap.size + 1, i, none⟩ = false := frozen_of_block NR
      clear hse hmsl hMs bx NR X30
      go_wp2_with fail
      (try simp only [Exit.inBlock, Exit.then])
      refine bodyPost_ret (v := .agg #[.int .i64 5, .bool false, .int .i64 0, .string ⟨#[]⟩, .slice none 0 0, .slice ta MSL.length tc]) (by rw [results_cell1 rfl]; go_simp) rfl ?_
      rw [HM.out]
      refine ⟨[.int .i64 5, .bool false, .int .i64 0, .string ⟨#[]⟩, .slice none 0 0, .slice ta MSL.length tc], rfl, V.lies_keep (fun h => h) (fun _ _ => rfl) (fun b hb => hb.imp id (fun q => ⟨by omega, by simp [size_set1]; exact q.2⟩)) _ (lies_set6T (T := fun b => S b ∨ (W0.heap.size ≤ b ∧ b < y30.heap.size)) (lies_S (by simp [In64]) (by simp [In64]) (by decide) ⟨Nat.le_refl _, by simp [maxLen], .inl rfl, fun _ => rfl⟩ hdm (bl := 0) (ol := 0) (by rw [liesL]; trivial) HMs.out) (fun h => by rcases h with h | h; (have := hS _ h; omega); omega) _ _ _ _ _ _ _ _ _ _ _ _), Below.set6 BW (by omega) _ _ _ _ _ _ _ _ _ _ _ _⟩
    | false =>
      go_upto_region 8 with fail
      have HM : Hid (wrV (op, pa, fr, v) = V.mk 5 false 0 noS [] (M21 ++ [(kPath, strV pa)])) := by show _ = _; simp only [wrV, wrM, HF.out, HQ.out, HM10.out, HM20.out, HM21.out]; rfl
      obtain ⟨_, NR, _, BW⟩ := HK.out w9 X9.out.gr
      obtain ⟨ta, tc, tb, to_, hse, hdm, hMs⟩ := X9.out.out (w := w) (by omega) (by omega)
      have HMs := hmk hMs
      have bx := X9.out.bx
      have zz := X9.out.gr.size
      rw [hse] at bx
      obtain ⟨MSL, hmsl⟩ : ∃ l, l = M21 ++ [(kPath, strV pa)] := ⟨_, rfl⟩
      rw [← hmsl] at HM HMs hdm bx
      have x0 : w9.cell? ⟨w.heap.size + 1 + 1, 0, none⟩ = some (.int .i64 5) := by rw [cell_of_block (b := w.heap.size + 1 + 1) bx]; rfl
      have x1 : w9.cell? ⟨w.heap.size + 1 + 1, 1, none⟩ = some (.bool false) := by rw [cell_of_block (b := w.heap.size + 1 + 1) bx]; rfl
      have x2 : w9.cell? ⟨w.heap.size + 1 + 1, 2, none⟩ = some (.int .i64 0) := by rw [cell_of_block (b := w.heap.size + 1 + 1) bx]; rfl
      have x3 : w9.cell? ⟨w.heap.size + 1 + 1, 3, none⟩ = some (.string ⟨#[]⟩) := by rw [cell_of_block (b := w.heap.size + 1 + 1) bx]; rfl
      have x4 : w9.cell? ⟨w.heap.size + 1 + 1, 4, none⟩ = some (.slice none 0 0) := by rw [cell_of_block (b := w.heap.size + 1 + 1) bx]; rfl
      have x5 : w9.cell? ⟨w.heap.size + 1 + 1, 5, none⟩ = some (.slice ta MSL.length tc) := by rw [cell_of_block (b := w.heap.size + 1 + 1) bx]; rfl
      have r0 : w9.cell? ⟨w.heap.size + 1, 0, none⟩ = some (.int .i64 0) := by rw [cell_of_block NR]; rfl
      have r1 : w9.cell? ⟨w.heap.size + 1, 1, none⟩ = some (.bool false) := by rw [cell_of_block NR]; rfl
      have r2 : w9.cell? ⟨w.heap.size + 1, 2, none⟩ = some (.int .i64 0) := by rw [cell_of_block NR]; rfl
      have r3 : w9.cell? ⟨w.heap.size + 1, 3, none⟩ = some (.string ⟨#[]⟩) := by rw [cell_of_block NR]; rfl
      have r4 : w9.cell? ⟨w.heap.size + 1, 4, none⟩ = some (.slice none 0 0) := by rw [cell_of_block NR]; rfl
      have r5 : w9.cell? ⟨w.heap.size + 1, 5, none⟩ = some (.slice none 0 0) := by rw [cell_of_block NR]; rfl
      have rf : ∀ i, w9.frozen? ⟨w.heap.size + 1, i, none⟩ = false := frozen_of_block NR
      clear hse hmsl hMs bx NR X9
      go_wp2_with fail
      (try simp only [Exit.inBlock, Exit.then])
      refine bodyPost_ret (v := .agg #[.int .i64 5, .bool false, .int .i64 0, .string ⟨#[]⟩, .slice none 0 0, .slice ta MSL.length tc]) (by rw [results_cell1 rfl]; go_simp) rfl ?_
      rw [HM.out]
      refine ⟨[.int .i64 5, .bool false, .int .i64 0, .string ⟨#[]⟩, .slice none 0 0, .slice ta MSL.length tc], rfl, V.lies_keep (fun h => h) (fun _ _ => rfl) (fun b hb => hb.imp id (fun q => ⟨by omega, by simp [size_set1]; exact q.2⟩)) _ (lies_set6T (T := fun b => S b ∨ (W0.heap.size ≤ b ∧ b < w9.heap.size)) (lies_S (by simp [In64]) (by simp [In64]) (by decide) ⟨Nat.le_refl _, by simp [maxLen], .inl rfl, fun _ => rfl⟩ hdm (bl := 0) (ol := 0) (by rw [liesL]; trivial) HMs.out) (fun h => by rcases h with h | h; (have := hS _ h; omega); omega) _ _ _ _ _ _ _ _ _ _ _ _), Below.set6 BW (by omega) _ _ _ _ _ _ _ _ _ _ _ _⟩
  | false =>
    go_upto_region 4 with fail
    obtain ⟨SM20, M20, XX20, HM20⟩ : ∃ (SM : Nat → Prop) (M : List Mem), Hid (Wst W0 (w.heap.size + 2) S SM M (.slice none 0 0) w1) ∧ Hid (M = ([] : List Mem)) := ⟨_, _, X1, rfl⟩
    clear X1
    obtain ⟨NS, NR, LV, BW⟩ := HK.out w1 XX20.out.gr
    have a0 : w1.cell? ⟨w.heap.size, 0, none⟩ = some (.string op) := by rw [cell_of_block NS]; rfl
    have a1 : w1.cell? ⟨w.heap.size, 1, none⟩ = some (.string pa) := by rw [cell_of_block NS]; rfl
    have a2 : w1.cell? ⟨w.heap.size, 2, none⟩ = some (.string fr) := by rw [cell_of_block NS]; rfl
    have a3 : w1.cell? ⟨w.heap.size, 3, none⟩ = some (.int .i64 vk) := by rw [cell_of_block NS]; rfl
    have a4 : w1.cell? ⟨w.heap.size, 4, none⟩ = some (.bool vb) := by rw [cell_of_block NS]; rfl
    have a5 : w1.cell? ⟨w.heap.size, 5, none⟩ = some (.int .i64 vi) := by rw [cell_of_block NS]; rfl
    have a6 : w1.cell? ⟨w.heap.size, 6, none⟩ = some (.string vs) := by rw [cell_of_block NS]; rfl
    have a7 : w1.cell? ⟨w.heap.size, 7, none⟩ = some (.slice val vnl vcl) := by rw [cell_of_block NS]; rfl
    have a8 : w1.cell? ⟨w.heap.size, 8, none⟩ = some (.slice vam vnm vcm) := by rw [cell_of_block NS]; rfl
    have m5 : w1.cell? ⟨w.heap.size + 1 + 1, 5, none⟩ = some (.slice none 0 0) := by rw [cell_of_block (b := w.heap.size + 1 + 1) XX20.out.bx]; rfl
    clear NS NR
    have bA20 : Below w1.heap.size w1 (w1.alloc (.cells #[.string kOp, .int .i64 3, .bool false, .int .i64 0, .string op, .slice none 0 0, .slice none 0 0] 45)) := (Below.refl _ _).alloc (Nat.le_refl _) _
    have XA20 := hmk (XX20.out.below (show w.heap.size + 2 < W0.heap.size by omega) bA20)
    have HE20 : Hid (EM false (some (kOp, strV op)) (w1.alloc (.cells #[.string kOp, .int .i64 3, .bool false, .int .i64 0, .string op, .slice none 0 0, .slice none 0 0] 45)) NoB [.string kOp, .int .i64 3, .bool false, .int .i64 0, .string op, .slice none 0 0, .slice none 0 0]) := ⟨_, rfl, (show (kOp : ByteArray).size ≤ maxLen by decide), str_lies op h1 _ _⟩
    have HX20 : Hid (∀ b, NoB b → 0 ≤ b ∧ b < (w1.alloc (.cells #[.string kOp, .int .i64 3, .bool false, .int .i64 0, .string op, .slice none 0 0, .slice none 0 0] 45)).heap.size ∧ some b ≠ (.slice none 0 0 : Value).ownBlock) := fun b (h : NoB b) => False.elim h
    have hll : (M20.map some).length = M20.length := List.length_map ..
    obtain ⟨n20, hnn⟩ : ∃ n, M20.length + 1 = n := ⟨_, rfl⟩
    have hn20 : (M20.map some).length ≤ 4294967296 := by rw [hll, HM20.out]; simp []
    have HLL : Hid ((M20.map some).length + 1 = n20) := by show _ = _; rw [hll]; exact hnn
    clear LV hll hnn
    go_wp2_with (at_builtin; go_loud (refine wpl_push (keepM false) _ rfl (.tmp 18) (.tmp 23) 23 rfl 0 i1 _ 104 Tryz.underlying23 hJ.out.1 hJ.out.2.1 hJ.out.2.2.1 hJ.out.2.2.2 rfl (by decide) (by decide) (.slice none 0 0) (some (kOp, strV op)) rfl XA20.out.ow w1.heap.size 1 (0, 0) rfl (heap_alloc_new w1 _) rfl one7 HE20.out HX20.out hn20 (Nat.zero_le _) ?_; rw [HLL.out]))
    intro g20 cap20 w5 o5 g5 e5
    have X20 := hmk (XA20.out.store (SX := NoB) (ms' := M20 ++ [(kOp, strV op)]) (by omega) HS.out (by rw [List.map_append]; exact o5) g5 (by first | exact e5 | (rw [alloc_size]; exact e5)) (fun b (h : NoB b) => False.elim h))
    have f5 : w5.heap[w.heap.size + 1 + 1]? = _ := (g5.block (w.heap.size + 2) (Nat.lt_of_lt_of_le (show w.heap.size + 2 < W0.heap.size by omega) XA20.out.gr.size) (fun e => by have := XA20.out.fl _ e.symm; omega)).trans XA20.out.bx
    have e6 : w5.cell? ⟨w.heap.size + 1 + 1, 5, none⟩ = some (.slice none 0 0) := by rw [cell_of_block f5]; rfl
    have e7 : w5.frozen? ⟨w.heap.size + 1 + 1, 5, none⟩ = false := frozen_of_block f5 5
    clear f5 a0 a1 a2 a3 a4 a5 a6 a7 a8 m5 o5 g5 e5 HE20 HX20 hn20 XA20 bA20 XX20 HLL
    go_upto_region 5 with fail
    generalize w5.setCell ⟨w.heap.size + 1 + 1, 5, none⟩ (.slice (some ⟨g20, 0, none⟩) n20 cap20) = y20 at *
    clear e6 e7
    obtain ⟨SM21, M21, XX21, HM21⟩ : ∃ (SM : Nat → Prop) (M : List Mem), Hid (Wst W0 (w.heap.size + 2) S SM M (.slice (some ⟨g20, 0, none⟩) n20 cap20) y20) ∧ Hid (M = M20 ++ [(kOp, strV op)]) := ⟨_, _, X20, rfl⟩
    clear X20
    obtain ⟨NS, NR, LV, BW⟩ := HK.out y20 XX21.out.gr
    have a0 : y20.cell? ⟨w.heap.size, 0, none⟩ = some (.string op) := by rw [cell_of_block NS]; rfl
    have a1 : y20.cell? ⟨w.heap.size, 1, none⟩ = some (.string pa) := by rw [cell_of_block NS]; rfl
    have a2 : y20.cell? ⟨w.heap.size, 2, none⟩ = some (.string fr) := by rw [cell_of_block NS]; rfl
    have a3 : y20.cell? ⟨w.heap.size, 3, none⟩ = some (.int .i64 vk) := by rw [cell_of_block NS]; rfl
    have a4 : y20.cell? ⟨w.heap.size, 4, none⟩ = some (.bool vb) := by rw [cell_of_block NS]; rfl
    have a5 : y20.cell? ⟨w.heap.size, 5, none⟩ = some (.int .i64 vi) := by rw [cell_of_block NS]; rfl
    have a6 : y20.cell? ⟨w.heap.size, 6, none⟩ = some (.string vs) := by rw [cell_of_block NS]; rfl
    have a7 : y20.cell? ⟨w.heap.size, 7, none⟩ = some (.slice val vnl vcl) := by rw [cell_of_block NS]; rfl
    have a8 : y20.cell? ⟨w.heap.size, 8, none⟩ = some (.slice vam vnm vcm) := by rw [cell_of_block NS]; rfl
    have m5 : y20.cell? ⟨w.heap.size + 1 + 1, 5, none⟩ = some (.slice (some ⟨g20, 0, none⟩) n20 cap20) := by rw [cell_of_block (b := w.heap.size + 1 + 1) XX21.out.bx]; rfl
    clear NS NR
    have bA21 : Below y20.heap.size y20 (y20.alloc (.cells #[.string kPath, .int .i64 3, .bool false, .int .i64 0, .string pa, .slice none 0 0, .slice none 0 0] 45)) := (Below.refl _ _).alloc (Nat.le_refl _) _
    have XA21 := hmk (XX21.out.below (show w.heap.size + 2 < W0.heap.size by omega) bA21)
    have HE21 : Hid (EM false (some (kPath, strV pa)) (y20.alloc (.cells #[.string kPath, .int .i64 3, .bool false, .int .i64 0, .string pa, .slice none 0 0, .slice none 0 0] 45)) NoB [.string kPath, .int .i64 3, .bool false, .int .i64 0, .string pa, .slice none 0 0, .slice none 0 0]) := ⟨_, rfl, (show (kPath : ByteArray).size ≤ maxLen by decide), str_lies pa h2 _ _⟩
    have HX21 : Hid (∀ b, NoB b → 0 ≤ b ∧ b < (y20.alloc (.cells #[.string kPath, .int .i64 3, .bool false, .int .i64 0, .string pa, .slice none 0 0, .slice none 0 0] 45)).heap.size ∧ some b ≠ (.slice (some ⟨g20, 0, none⟩) n20 cap20 : Value).ownBlock) := fun b (h : NoB b) => False.elim h
    have hll : (M21.map some).length = M21.length := List.length_map ..
    obtain ⟨n21, hnn⟩ : ∃ n, M21.length + 1 = n := ⟨_, rfl⟩
    have hn21 : (M21.map some).length ≤ 4294967296 := by rw [hll, HM21.out]; simp [HM20.out]
    have HLL : Hid ((M21.map some).length + 1 = n21) := by show _ = _; rw [hll]; exact hnn
    clear LV hll hnn
    go_wp2_with (at_builtin; go_loud (refine wpl_push (keepM false) _ rfl (.tmp 27) (.tmp 32) 23 rfl 0 i1 _ 104 Tryz.underlying23 hJ.out.1 hJ.out.2.1 hJ.out.2.2.1 hJ.out.2.2.2 rfl (by decide) (by decide) (.slice (some ⟨g20, 0, none⟩) n20 cap20) (some (kPath, strV pa)) rfl XA21.out.ow y20.heap.size 1 (0, 0) rfl (heap_alloc_new y20 _) rfl one7 HE21.out HX21.out hn21 (Nat.zero_le _) ?_; rw [HLL.out]))
    intro g21 cap21 w5 o5 g5 e5
    have X21 := hmk (XA21.out.store (SX := NoB) (ms' := M21 ++ [(kPath, strV pa)]) (by omega) HS.out (by rw [List.map_append]; exact o5) g5 (by first | exact e5 | (rw [alloc_size]; exact e5)) (fun b (h : NoB b) => False.elim h))
    have f5 : w5.heap[w.heap.size + 1 + 1]? = _ := (g5.block (w.heap.size + 2) (Nat.lt_of_lt_of_le (show w.heap.size + 2 < W0.heap.size by omega) XA21.out.gr.size) (fun e => by have := XA21.out.fl _ e.symm; omega)).trans XA21.out.bx
    have e6 : w5.cell? ⟨w.heap.size + 1 + 1, 5, none⟩ = some (.slice (some ⟨g20, 0, none⟩) n20 cap20) := by rw [cell_of_block f5]; rfl
    have e7 : w5.frozen? ⟨w.heap.size + 1 + 1, 5, none⟩ = false := frozen_of_block f5 5
    clear f5 a0 a1 a2 a3 a4 a5 a6 a7 a8 m5 o5 g5 e5 HE21 HX21 hn21 XA21 bA21 XX21 HLL
    go_upto_region 6 with fail
    generalize w5.setCell ⟨w.heap.size + 1 + 1, 5, none⟩ (.slice (some ⟨g21, 0, none⟩) n21 cap21) = y21 at *
    clear e6 e7
    obtain ⟨NS, NR, LV, BW⟩ := HK.out y21 X21.out.gr
    have a0 : y21.cell? ⟨w.heap.size, 0, none⟩ = some (.string op) := by rw [cell_of_block NS]; rfl
    have a1 : y21.cell? ⟨w.heap.size, 1, none⟩ = some (.string pa) := by rw [cell_of_block NS]; rfl
    have a2 : y21.cell? ⟨w.heap.size, 2, none⟩ = some (.string fr) := by rw [cell_of_block NS]; rfl
    have a3 : y21.cell? ⟨w.heap.size, 3, none⟩ = some (.int .i64 vk) := by rw [cell_of_block NS]; rfl
    have a4 : y21.cell? ⟨w.heap.size, 4, none⟩ = some (.bool vb) := by rw [cell_of_block NS]; rfl
    have a5 : y21.cell? ⟨w.heap.size, 5, none⟩ = some (.int .i64 vi) := by rw [cell_of_block NS]; rfl
    have a6 : y21.cell? ⟨w.heap.size, 6, none⟩ = some (.string vs) := by rw [cell_of_block NS]; rfl
    have a7 : y21.cell? ⟨w.heap.size, 7, none⟩ = some (.slice val vnl vcl) := by rw [cell_of_block NS]; rfl
    have a8 : y21.cell? ⟨w.heap.size, 8, none⟩ = some (.slice vam vnm vcm) := by rw [cell_of_block NS]; rfl
    have m5 : y21.cell? ⟨w.heap.size + 1 + 1, 5, none⟩ = some (.slice (some ⟨g21, 0, none⟩) n21 cap21) := by rw [cell_of_block (b := w.heap.size + 1 + 1) X21.out.bx]; rfl
    clear NS NR
    have CV := hmk (val_any op y21)
    rw [HQ.out] at CV
    clear LV BW m5
    go_wp2_with fail
    refine CV.out.mono ?_
    rintro e w9 ⟨rfl, b9⟩
    have X9 := hmk (X21.out.below (by omega) b9)
    clear CV a0 a1 a2 a3 a4 a5 a6 a7 a8 b9 X21
    cases q with
    | true =>
      obtain ⟨SM30, M30, XX30, HM30⟩ : ∃ (SM : Nat → Prop) (M : List Mem), Hid (Wst W0 (w.heap.size + 2) S SM M (.slice (some ⟨g21, 0, none⟩) n21 cap21) w9) ∧ Hid (M = M21 ++ [(kPath, strV pa)]) := ⟨_, _, X9, rfl⟩
      clear X9
      obtain ⟨NS, NR, LV, BW⟩ := HK.out w9 XX30.out.gr
      have a0 : w9.cell? ⟨w.heap.size, 0, none⟩ = some (.string op) := by rw [cell_of_block NS]; rfl
      have a1 : w9.cell? ⟨w.heap.size, 1, none⟩ = some (.string pa) := by rw [cell_of_block NS]; rfl
      have a2 : w9.cell? ⟨w.heap.size, 2, none⟩ = some (.string fr) := by rw [cell_of_block NS]; rfl
      have a3 : w9.cell? ⟨w.heap.size, 3, none⟩ = some (.int .i64 vk) := by rw [cell_of_block NS]; rfl
      have a4 : w9.cell? ⟨w.heap.size, 4, none⟩ = some (.bool vb) := by rw [cell_of_block NS]; rfl
      have a5 : w9.cell? ⟨w.heap.size, 5, none⟩ = some (.int .i64 vi) := by rw [cell_of_block NS]; rfl
      have a6 : w9.cell? ⟨w.heap.size, 6, none⟩ = some (.string vs) := by rw [cell_of_block NS]; rfl
      have a7 : w9.cell? ⟨w.heap.size, 7, none⟩ = some (.slice val vnl vcl) := by rw [cell_of_block NS]; rfl
      have a8 : w9.cell? ⟨w.heap.size, 8, none⟩ = some (.slice vam vnm vcm) := by rw [cell_of_block NS]; rfl
      have m5 : w9.cell? ⟨w.heap.size + 1 + 1, 5, none⟩ = some (.slice (some ⟨g21, 0, none⟩) n21 cap21) := by rw [cell_of_block (b := w.heap.size + 1 + 1) XX30.out.bx]; rfl
      clear NS NR
      have bA30 : Below w9.heap.size w9 (w9.alloc (.cells #[.string kVal, .int .i64 vk, .bool vb, .int .i64 vi, .string vs, .slice val vnl vcl, .slice vam vnm vcm] 45)) := (Below.refl _ _).alloc (Nat.le_refl _) _
      have XA30 := hmk (XX30.out.below (show w.heap.size + 2 < W0.heap.size by omega) bA30)
      have HE30 : Hid (EM false (some (kVal, v)) (w9.alloc (.cells #[.string kVal, .int .i64 vk, .bool vb, .int .i64 vi, .string vs, .slice val vnl vcl, .slice vam vnm vcm] 45)) S [.string kVal, .int .i64 vk, .bool vb, .int .i64 vi, .string vs, .slice val vnl vcl, .slice vam vnm vcm]) := ⟨_, rfl, (show (kVal : ByteArray).size ≤ maxLen by decide), V.lies_keep (fun h => h) (fun x hx => bA30.block x (by have := hS x hx; have := BW.size; omega)) (fun _ h => h) _ LV⟩
      have HX30 : Hid (∀ b, S b → 0 ≤ b ∧ b < (w9.alloc (.cells #[.string kVal, .int .i64 vk, .bool vb, .int .i64 vi, .string vs, .slice val vnl vcl, .slice vam vnm vcm] 45)).heap.size ∧ some b ≠ (.slice (some ⟨g21, 0, none⟩) n21 cap21 : Value).ownBlock) := fun b hb => ⟨Nat.zero_le _, by have := bA30.size; have := hS b hb; have := BW.size; omega, fun e => by have := XX30.out.fl b e.symm; have := hS b hb; omega⟩
      have hll : (M30.map some).length = M30.length := List.length_map ..
      obtain ⟨n30, hnn⟩ : ∃ n, M30.length + 1 = n := ⟨_, rfl⟩
      have hn30 : (M30.map some).length ≤ 4294967296 := by rw [hll, HM30.out]; simp [HM20.out, HM21.out]
      have HLL : Hid ((M30.map some).length + 1 = n30) := by show _ = _; rw [hll]; exact hnn
      clear LV hll hnn
      go_wp2_with (at_builtin; go_loud (refine wpl_push (keepM false) _ rfl (.tmp 39) (.tmp 43) 23 rfl 0 i1 _ 104 Tryz.underlying23 hJ.out.1 hJ.out.2.1 hJ.out.2.2.1 hJ.out.2.2.2 rfl (by decide) (by decide) (.slice (some ⟨g21, 0, none⟩) n21 cap21) (some (kVal, v)) rfl XA30.out.ow w9.heap.size 1 (0, 0) rfl (heap_alloc_new w9 _) rfl one7 HE30.out HX30.out hn30 (Nat.zero_le _) ?_; rw [HLL.out]))
      intro g30 cap30 w5 o5 g5 e5
      have X30 := hmk (XA30.out.store (SX := S) (ms' := M30 ++ [(kVal, v)]) (by omega) HS.out (by rw [List.map_append]; exact o5) g5 (by first | exact e5 | (rw [alloc_size]; exact e5)) (fun b h => .inl h))
      have f5 : w5.heap[w.heap.size + 1 + 1]? = _ := (g5.block (w.heap.size + 2) (Nat.lt_of_lt_of_le (show w.heap.size + 2 < W0.heap.size by omega) XA30.out.gr.size) (fun e => by have := XA30.out.fl _ e.symm; omega)).trans XA30.out.bx
      have e6 : w5.cell? ⟨w.heap.size + 1 + 1, 5, none⟩ = some (.slice (some ⟨g21, 0, none⟩) n21 cap21) := by rw [cell_of_block f5]; rfl
      have e7 : w5.frozen? ⟨w.heap.size + 1 + 1, 5, none⟩ = false := frozen_of_block f5 5
      clear f5 a0 a1 a2 a3 a4 a5 a6 a7 a8 m5 o5 g5 e5 HE30 HX30 hn30 XA30 bA30 XX30 HLL
      go_upto_region 8 with fail
      generalize w5.setCell ⟨w.heap.size + 1 + 1, 5, none⟩ (.slice (some ⟨g30, 0, none⟩) n30 cap30) = y30 at *
      clear e6 e7
      have HM : Hid (wrV (op, pa, fr, v) = V.mk 5 false 0 noS [] (M30 ++ [(kVal, v)])) := by show _ = _; simp only [wrV, wrM, HF.out, HQ.out, HM20.out, HM21.out, HM30.out]; rfl
      obtain ⟨_, NR, _, BW⟩ := HK.out y30 X30.out.gr
      obtain ⟨ta, tc, tb, to_, hse, hdm, hMs⟩ := X30.out.out (w := w) (by omega) (by omega)
      have HMs := hmk hMs
      have bx := X30.out.bx
      have zz := X30.out.gr.size
      rw [hse] at bx
      obtain ⟨MSL, hmsl⟩ : ∃ l, l = M30 ++ [(kVal, v)] := ⟨_, rfl⟩
      rw [← hmsl] at HM HMs hdm bx
      have x0 : y30.cell? ⟨w.heap.size + 1 + 1, 0, none⟩ = some (.int .i64 5) := by rw [cell_of_block (b := w.heap.size + 1 + 1) bx]; rfl
      have x1 : y30.cell? ⟨w.heap.size + 1 + 1, 1, none⟩ = some (.bool false) := by rw [cell_of_block (b := w.heap.size + 1 + 1) bx]; rfl
      have x2 : y30.cell? ⟨w.heap.size + 1 + 1, 2, none⟩ = some (.int .i64 0) := by rw [cell_of_block (b := w.heap.size + 1 + 1) bx]; rfl
      have x3 : y30.cell? ⟨w.heap.size + 1 + 1, 3, none⟩ = some (.string ⟨#[]⟩) := by rw [cell_of_block (b := w.heap.size + 1 + 1) bx]; rfl
      have x4 : y30.cell? ⟨w.heap.size + 1 + 1, 4, none⟩ = some (.slice none 0 0) := by rw [cell_of_block (b := w.heap.size + 1 + 1) bx]; rfl
      have x5 : y30.cell? ⟨w.heap.size + 1 + 1, 5, none⟩ = some (.slice ta MSL.length tc) := by rw [cell_of_block (b := w.heap.size + 1 + 1) bx]; rfl
      have r0 : y30.cell? ⟨w.heap.size + 1, 0, none⟩ = some (.int .i64 0) := by rw [cell_of_block NR]; rfl
      have r1 : y30.cell? ⟨w.heap.size + 1, 1, none⟩ = some (.bool false) := by rw [cell_of_block NR]; rfl
      have r2 : y30.cell? ⟨w.heap.size + 1, 2, none⟩ = some (.int .i64 0) := by rw [cell_of_block NR]; rfl
      have r3 : y30.cell? ⟨w.heap.size + 1, 3, none⟩ = some (.string ⟨#[]⟩) := by rw [cell_of_block NR]; rfl
      have r4 : y30.cell? ⟨w.heap.size + 1, 4, none⟩ = some (.slice none 0 0) := by rw [cell_of_block NR]; rfl
      have r5 : y30.cell? ⟨w.heap.size + 1, 5, none⟩ = some (.slice none 0 0) := by rw [cell_of_block NR]; rfl
      have rf : ∀ i, y30.frozen? ⟨w.heap.size + 1, i, none⟩ = false := frozen_of_block NR
      clear hse hmsl hMs bx NR X30
      go_wp2_with fail
      (try simp only [Exit.inBlock, Exit.then])
      refine bodyPost_ret (v := .agg #[.int .i64 5, .bool false, .int .i64 0, .string ⟨#[]⟩, .slice none 0 0, .slice ta MSL.length tc]) (by rw [results_cell1 rfl]; go_simp) rfl ?_
      rw [HM.out]
      refine ⟨[.int .i64 5, .bool false, .int .i64 0, .string ⟨#[]⟩, .slice none 0 0, .slice ta MSL.length tc], rfl, V.lies_keep (fun h => h) (fun _ _ => rfl) (fun b hb => hb.imp id (fun q => ⟨by omega, by simp [size_set1]; exact q.2⟩)) _ (lies_set6T (T := fun b => S b ∨ (W0.heap.size ≤ b ∧ b < y30.heap.size)) (lies_S (by simp [In64]) (by simp [In64]) (by decide) ⟨Nat.le_refl _, by simp [maxLen], .inl rfl, fun _ => rfl⟩ hdm (bl := 0) (ol := 0) (by rw [liesL]; trivial) HMs.out) (fun h => by rcases h with h | h; (have := hS _ h; omega); omega) _ _ _ _ _ _ _ _ _ _ _ _), Below.set6 BW (by omega) _ _ _ _ _ _ _ _ _ _ _ _⟩
    | false =>
      go_upto_region 8 with fail
      have HM : Hid (wrV (op, pa, fr, v) = V.mk 5 false 0 noS [] (M21 ++ [(kPath, strV pa)])) := by show _ = _; simp only [wrV, wrM, HF.out, HQ.out, HM20.out, HM21.out]; rfl
      obtain ⟨_, NR, _, BW⟩ := HK.out w9 X9.out.gr
      obtain ⟨ta, tc, tb, to_, hse, hdm, hMs⟩ := X9.out.out (w := w) (by omega) (by omega)
      have HMs := hmk hMs
      have bx := X9.out.bx
      have zz := X9.out.gr.size
      rw [hse] at bx
      obtain ⟨MSL, hmsl⟩ : ∃ l, l = M21 ++ [(kPath, strV pa)] := ⟨_, rfl⟩
      rw [← hmsl] at HM HMs hdm bx
      have x0 : w9.cell? ⟨w.heap.size + 1 + 1, 0, none⟩ = some (.int .i64 5) := by rw [cell_of_block (b := w.heap.size + 1 + 1) bx]; rfl
      have x1 : w9.cell? ⟨w.heap.size + 1 + 1, 1, none⟩ = some (.bool false) := by rw [cell_of_block (b := w.heap.size + 1 + 1) bx]; rfl
      have x2 : w9.cell? ⟨w.heap.size + 1 + 1, 2, none⟩ = some (.int .i64 0) := by rw [cell_of_block (b := w.heap.size + 1 + 1) bx]; rfl
      have x3 : w9.cell? ⟨w.heap.size + 1 + 1, 3, none⟩ = some (.string ⟨#[]⟩) := by rw [cell_of_block (b := w.heap.size + 1 + 1) bx]; rfl
      have x4 : w9.cell? ⟨w.heap.size + 1 + 1, 4, none⟩ = some (.slice none 0 0) := by rw [cell_of_block (b := w.heap.size + 1 + 1) bx]; rfl
      have x5 : w9.cell? ⟨w.heap.size + 1 + 1, 5, none⟩ = some (.slice ta MSL.length tc) := by rw [cell_of_block (b := w.heap.size + 1 + 1) bx]; rfl
      have r0 : w9.cell? ⟨w.heap.size + 1, 0, none⟩ = some (.int .i64 0) := by rw [cell_of_block NR]; rfl
      have r1 : w9.cell? ⟨w.heap.size + 1, 1, none⟩ = some (.bool false) := by rw [cell_of_block NR]; rfl
      have r2 : w9.cell? ⟨w.heap.size + 1, 2, none⟩ = some (.int .i64 0) := by rw [cell_of_block NR]; rfl
      have r3 : w9.cell? ⟨w.heap.size + 1, 3, none⟩ = some (.string ⟨#[]⟩) := by rw [cell_of_block NR]; rfl
      have r4 : w9.cell? ⟨w.heap.size + 1, 4, none⟩ = some (.slice none 0 0) := by rw [cell_of_block NR]; rfl
      have r5 : w9.cell? ⟨w.heap.size + 1, 5, none⟩ = some (.slice none 0 0) := by rw [cell_of_block NR]; rfl
      have rf : ∀ i, w9.frozen? ⟨w.heap.size + 1, i, none⟩ = false := frozen_of_block NR
      clear hse hmsl hMs bx NR X9
      go_wp2_with fail
      (try simp only [Exit.inBlock, Exit.then])
      refine bodyPost_ret (v := .agg #[.int .i64 5, .bool false, .int .i64 0, .string ⟨#[]⟩, .slice none 0 0, .slice ta MSL.length tc]) (by rw [results_cell1 rfl]; go_simp) rfl ?_
      rw [HM.out]
      refine ⟨[.int .i64 5, .bool false, .int .i64 0, .string ⟨#[]⟩, .slice none 0 0, .slice ta MSL.length tc], rfl, V.lies_keep (fun h => h) (fun _ _ => rfl) (fun b hb => hb.imp id (fun q => ⟨by omega, by simp [size_set1]; exact q.2⟩)) _ (lies_set6T (T := fun b => S b ∨ (W0.heap.size ≤ b ∧ b < w9.heap.size)) (lies_S (by simp [In64]) (by simp [In64]) (by decide) ⟨Nat.le_refl _, by simp [maxLen], .inl rfl, fun _ => rfl⟩ hdm (bl := 0) (ol := 0) (by rw [liesL]; trivial) HMs.out) (fun h => by rcases h with h | h; (have := hS _ h; omega); omega) _ _ _ _ _ _ _ _ _ _ _ _), Below.set6 BW (by omega) _ _ _ _ _ _ _ _ _ _ _ _⟩
end Go.Proofs.YtjgbjhahmgegiaaGreatDoor
