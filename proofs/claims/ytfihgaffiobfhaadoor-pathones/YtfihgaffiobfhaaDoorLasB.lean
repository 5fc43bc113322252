import Derived.Test.YtfihgaffiobfhaaDoorLasA
/- path.Last where there is none. -/
set_option linter.unusedSimpArgs false
set_option linter.unusedVariables false
namespace Go.Proofs.YtfihgaffiobfhaaDoor
open Go.RowKit Go.Lib
set_option maxHeartbeats 4000000 in
set_option maxRecDepth 100000 in
theorem plast_bad (p : List El) (S : Nat → Prop) (ap : Option Addr) (cp bp op : Nat) (w : World) (t : Td w) (hap : Headed ap p.length cp bp op) (hp : liesP w S p bp op) (hS : ∀ b, S b → b < w.heap.size) (hwt : wtP p ≤ 2147483647) (hb : pathB p = false ∨ p.length = 0) :
    Calls Tryd.prog 8 #[.slice ap p.length cp] w (LaPost p w) := by
  have bA : Below w.heap.size w (w.alloc z34) := (Below.refl _ _).alloc (Nat.le_refl _) _
  have CK := hmk (pcheck_any p S ap cp bp op (w.alloc z34) (t.below bA t.z bA.size).tb hap (liesP_keep (fun x hx => bA.block x (hS x hx)) (fun _ h => h) hp) (fun x hx => Nat.lt_of_lt_of_le (hS x hx) bA.size) hwt)
  have HF : Hid (∀ W, Below w.heap.size w W → LaPost p w (.returned (.tuple #[.slice none 0 0, .agg #[.int .i64 0, .string ⟨#[]⟩, .slice none 0 0, .int .i64 0, .bool false, .int .i64 0, .string ⟨#[]⟩, .slice none 0 0, .slice none 0 0], .bool false])) W) := fun W hW => by
    obtain ⟨h1, h2, h3⟩ := las_bad hb
    refine ⟨none, 0, 0, 0, _, fun _ => False, by rw [h1, h3]; rfl, by rw [h1]; exact ⟨Nat.le_refl _, Nat.zero_le _, .inl rfl, fun _ => rfl⟩, by rw [h1]; intro j hj; simp at hj, by rw [h2]; exact zeroE_lies _ _, fun y hy => hy.elim, hW⟩
  have hza := alloc_size w z34
  have nb := heap_alloc_new w z34
  have HX : Hid (∀ W, Below (w.heap.size + 1) (w.alloc z34) W → W.heap[w.heap.size]? = some z34) := fun W hb => (hb.block _ (by omega)).trans nb
  clear hp t
  by_cases h0 : p.length = 0
  · have y0 : ((p.length : Int) == 0) = true := by rw [h0]; rfl
    have nb1 : (w.alloc z34).heap[w.heap.size]? = some z34 := nb
    clear CK hb h0 nb
    go_enter Tryd.func8, Tryd.ntmps8
    have c0 : (w.alloc z34).cell? ⟨w.heap.size, 0, none⟩ = some (.int .i64 0) := by rw [cell_of_block nb1]; rfl
    have c1 : (w.alloc z34).cell? ⟨w.heap.size, 1, none⟩ = some (.string ⟨#[]⟩) := by rw [cell_of_block nb1]; rfl
    have c2 : (w.alloc z34).cell? ⟨w.heap.size, 2, none⟩ = some (.slice none 0 0) := by rw [cell_of_block nb1]; rfl
    have c3 : (w.alloc z34).cell? ⟨w.heap.size, 3, none⟩ = some (.int .i64 0) := by rw [cell_of_block nb1]; rfl
    have c4 : (w.alloc z34).cell? ⟨w.heap.size, 4, none⟩ = some (.bool false) := by rw [cell_of_block nb1]; rfl
    have c5 : (w.alloc z34).cell? ⟨w.heap.size, 5, none⟩ = some (.int .i64 0) := by rw [cell_of_block nb1]; rfl
    have c6 : (w.alloc z34).cell? ⟨w.heap.size, 6, none⟩ = some (.string ⟨#[]⟩) := by rw [cell_of_block nb1]; rfl
    have c7 : (w.alloc z34).cell? ⟨w.heap.size, 7, none⟩ = some (.slice none 0 0) := by rw [cell_of_block nb1]; rfl
    have c8 : (w.alloc z34).cell? ⟨w.heap.size, 8, none⟩ = some (.slice none 0 0) := by rw [cell_of_block nb1]; rfl
    have kf : ∀ ii, (w.alloc z34).frozen? ⟨w.heap.size, ii, none⟩ = false := frozen_of_block nb1
    go_wp2_with fail
    refine bodyPost_ret (v := .tuple #[.slice none 0 0, .agg #[.int .i64 0, .string ⟨#[]⟩, .slice none 0 0, .int .i64 0, .bool false, .int .i64 0, .string ⟨#[]⟩, .slice none 0 0, .slice none 0 0], .bool false]) ?_ rfl (HF.out _ bA)
    rw [results_tct rfl]
    go_simp
  · have y0 : ((p.length : Int) == 0) = false := by rw [beq_eq_false_iff_ne]; omega
    have hB : pathB p = false := hb.resolve_right h0
    have e1 : errP p = 90 := by rw [errP, hB]; rfl
    rw [e1] at CK
    clear hB e1 hb h0
    go_enter Tryd.func8, Tryd.ntmps8
    go_wp2_with fail
    refine CK.out.mono ?_
    rintro e w1 ⟨rfl, b1⟩
    have nb1 := HX.out w1 (b1.mono (by omega))
    have hs1 := b1.size
    have c0 : w1.cell? ⟨w.heap.size, 0, none⟩ = some (.int .i64 0) := by rw [cell_of_block nb1]; rfl
    have c1 : w1.cell? ⟨w.heap.size, 1, none⟩ = some (.string ⟨#[]⟩) := by rw [cell_of_block nb1]; rfl
    have c2 : w1.cell? ⟨w.heap.size, 2, none⟩ = some (.slice none 0 0) := by rw [cell_of_block nb1]; rfl
    have c3 : w1.cell? ⟨w.heap.size, 3, none⟩ = some (.int .i64 0) := by rw [cell_of_block nb1]; rfl
    have c4 : w1.cell? ⟨w.heap.size, 4, none⟩ = some (.bool false) := by rw [cell_of_block nb1]; rfl
    have c5 : w1.cell? ⟨w.heap.size, 5, none⟩ = some (.int .i64 0) := by rw [cell_of_block nb1]; rfl
    have c6 : w1.cell? ⟨w.heap.size, 6, none⟩ = some (.string ⟨#[]⟩) := by rw [cell_of_block nb1]; rfl
    have c7 : w1.cell? ⟨w.heap.size, 7, none⟩ = some (.slice none 0 0) := by rw [cell_of_block nb1]; rfl
    have c8 : w1.cell? ⟨w.heap.size, 8, none⟩ = some (.slice none 0 0) := by rw [cell_of_block nb1]; rfl
    have kf : ∀ ii, w1.frozen? ⟨w.heap.size, ii, none⟩ = false := frozen_of_block nb1
    have bS := st9_below (W := w1) (g := w.heap.size) (B := w.heap.size) (Nat.le_refl _) (by omega) (.int .i64 0) (.string ⟨#[]⟩) (.slice none 0 0) (.int .i64 0) (.bool false) (.int .i64 0) (.string ⟨#[]⟩) (.slice none 0 0) (.slice none 0 0)
    have nS := st9_block nb1 (.int .i64 0) (.string ⟨#[]⟩) (.slice none 0 0) (.int .i64 0) (.bool false) (.int .i64 0) (.string ⟨#[]⟩) (.slice none 0 0) (.slice none 0 0)
    go_wp2_with fail
    generalize (((((((((w1.setCell ⟨w.heap.size, 0, none⟩ (.int .i64 0)).setCell ⟨w.heap.size, 1, none⟩ (.string ⟨#[]⟩)).setCell ⟨w.heap.size, 2, none⟩ (.slice none 0 0)).setCell ⟨w.heap.size, 3, none⟩ (.int .i64 0)).setCell ⟨w.heap.size, 4, none⟩ (.bool false)).setCell ⟨w.heap.size, 5, none⟩ (.int .i64 0)).setCell ⟨w.heap.size, 6, none⟩ (.string ⟨#[]⟩)).setCell ⟨w.heap.size, 7, none⟩ (.slice none 0 0)).setCell ⟨w.heap.size, 8, none⟩ (.slice none 0 0)) = w2 at *
    have d0 : w2.cell? ⟨w.heap.size, 0, none⟩ = some (.int .i64 0) := by rw [cell_of_block nS]; rfl
    have d1 : w2.cell? ⟨w.heap.size, 1, none⟩ = some (.string ⟨#[]⟩) := by rw [cell_of_block nS]; rfl
    have d2 : w2.cell? ⟨w.heap.size, 2, none⟩ = some (.slice none 0 0) := by rw [cell_of_block nS]; rfl
    have d3 : w2.cell? ⟨w.heap.size, 3, none⟩ = some (.int .i64 0) := by rw [cell_of_block nS]; rfl
    have d4 : w2.cell? ⟨w.heap.size, 4, none⟩ = some (.bool false) := by rw [cell_of_block nS]; rfl
    have d5 : w2.cell? ⟨w.heap.size, 5, none⟩ = some (.int .i64 0) := by rw [cell_of_block nS]; rfl
    have d6 : w2.cell? ⟨w.heap.size, 6, none⟩ = some (.string ⟨#[]⟩) := by rw [cell_of_block nS]; rfl
    have d7 : w2.cell? ⟨w.heap.size, 7, none⟩ = some (.slice none 0 0) := by rw [cell_of_block nS]; rfl
    have d8 : w2.cell? ⟨w.heap.size, 8, none⟩ = some (.slice none 0 0) := by rw [cell_of_block nS]; rfl
    refine bodyPost_ret (v := .tuple #[.slice none 0 0, .agg #[.int .i64 0, .string ⟨#[]⟩, .slice none 0 0, .int .i64 0, .bool false, .int .i64 0, .string ⟨#[]⟩, .slice none 0 0, .slice none 0 0], .bool false]) ?_ rfl (HF.out _ (bA.trans ((b1.mono (by omega)).trans bS)))
    rw [results_tct rfl]
    go_simp
end Go.Proofs.YtfihgaffiobfhaaDoor
