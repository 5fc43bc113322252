import Derived.Test.YtfihgaffiobfhaaDoorLasA
/- The document's Last. -/
set_option linter.unusedSimpArgs false
set_option linter.unusedVariables false
namespace Go.Proofs.YtfihgaffiobfhaaDoor
open Go.RowKit Go.Lib
theorem drew_heap (W : World) : W.drew.heap = W.heap := rfl
set_option maxHeartbeats 8000000 in
set_option maxRecDepth 100000 in
theorem rlast_good (p : List El) (S : Nat → Prop) (ap : Option Addr) (cp bp op : Nat) (w : World) (hap : Headed ap p.length cp bp op) (hp : liesP w S p bp op) (hS : ∀ b, S b → b < w.heap.size) (hwt : wtP p ≤ 2147483647) (hB : pathB p = true) (n : Nat) (hn : p.length = n + 1) :
    Calls Tryd.prog 9 #[.slice ap p.length cp] w (LaPost p w) := by
  have bA : Below w.heap.size w (w.alloc z34) := (Below.refl _ _).alloc (Nat.le_refl _) _
  have CK := hmk (rpcheck_any p S ap cp bp op (w.alloc z34) hap (liesP_keep (fun x hx => bA.block x (hS x hx)) (fun _ h => h) hp) (fun x hx => Nat.lt_of_lt_of_le (hS x hx) bA.size) hwt)
  have hza := alloc_size w z34
  have nb := heap_alloc_new w z34
  have HX : Hid (∀ W, Below (w.heap.size + 1) (w.alloc z34) W → W.heap[w.heap.size]? = some z34) := fun W hb => (hb.block _ (by omega)).trans nb
  have e1 : errP p = 0 := by rw [errP, hB]; rfl
  rw [e1] at CK
  have hlm := wtP_len p
  obtain rfl : ap = some ⟨bp, op, none⟩ := hap.at_.resolve_left (by omega)
  obtain ⟨hSb, csj, hrow, hlj⟩ := hp n (by omega)
  have hle := hap.le
  have hmx := hap.max
  have hSb' := hS _ hSb
  obtain ⟨k, s, am, nm, cm, vk, vb, vi, vs, val, vnl, vcl, vam, vnm, vcm, rfl⟩ := El.nine hlj
  have HF : Hid (∀ W, Below w.heap.size w W → LaPost p w (.returned (.tuple #[.slice (some ⟨bp, op, none⟩) n cp, .agg #[.int .i64 k, .string s, .slice am nm cm, .int .i64 vk, .bool vb, .int .i64 vi, .string vs, .slice val vnl vcl, .slice vam vnm vcm], .bool true])) W) := fun W hW => by
    obtain ⟨h1, h2, h3⟩ := las_good hB (by omega)
    have hn1 : p.length - 1 = n := by omega
    have hq : (lasQ p).length = n := by rw [h1, List.length_take]; omega
    have hx : lasX p = p[n]'(by omega) := by rw [h2]; congr 1
    refine ⟨some ⟨bp, op, none⟩, cp, bp, op, _, S, by rw [hq, h3], by rw [hq]; exact ⟨by omega, hmx, .inr rfl, fun h => by cases h⟩, by rw [h1, hn1]; exact liesP_take (liesP_keep (fun x hx => hW.block x (hS x hx)) (fun _ h => h) hp) n, by rw [hx]; exact El.lies_keep (fun x hx => hW.block x (hS x hx)) (fun _ h => h) hlj, fun y hy => Nat.lt_of_lt_of_le (hS y hy) hW.size, hW⟩
  have HR := hmk hrow
  clear hp hrow hlj hB e1 nb hap
  rw [hn] at CK ⊢
  have y0 : (((n + 1 : Nat) : Int) == 0) = false := by rw [beq_eq_false_iff_ne]; omega
  go_enter Tryd.func9, Tryd.ntmps9
  go_wp2_with fail
  refine CK.out.mono ?_
  rintro e w1 ⟨rfl, b1⟩
  have bw : Below w.heap.size w w1 := bA.trans (b1.mono (by omega))
  have hs1 := b1.size
  have HB := hmk bw
  have HN := hmk (HX.out w1 (b1.mono (by omega)))
  clear bw b1 bA HX CK hza
  go_wp2_with fail
  have q9 := row9 (HR.out.keep (HB.out.block bp hSb'))
  obtain ⟨q0, q1, q2, q3, q4, q5, q6, q7, q8⟩ := q9
  have c0 : w1.cell? ⟨w.heap.size, 0, none⟩ = some (.int .i64 0) := by rw [cell_of_block HN.out]; rfl
  have c1 : w1.cell? ⟨w.heap.size, 1, none⟩ = some (.string ⟨#[]⟩) := by rw [cell_of_block HN.out]; rfl
  have c2 : w1.cell? ⟨w.heap.size, 2, none⟩ = some (.slice none 0 0) := by rw [cell_of_block HN.out]; rfl
  have c3 : w1.cell? ⟨w.heap.size, 3, none⟩ = some (.int .i64 0) := by rw [cell_of_block HN.out]; rfl
  have c4 : w1.cell? ⟨w.heap.size, 4, none⟩ = some (.bool false) := by rw [cell_of_block HN.out]; rfl
  have c5 : w1.cell? ⟨w.heap.size, 5, none⟩ = some (.int .i64 0) := by rw [cell_of_block HN.out]; rfl
  have c6 : w1.cell? ⟨w.heap.size, 6, none⟩ = some (.string ⟨#[]⟩) := by rw [cell_of_block HN.out]; rfl
  have c7 : w1.cell? ⟨w.heap.size, 7, none⟩ = some (.slice none 0 0) := by rw [cell_of_block HN.out]; rfl
  have c8 : w1.cell? ⟨w.heap.size, 8, none⟩ = some (.slice none 0 0) := by rw [cell_of_block HN.out]; rfl
  have kf : ∀ ii, w1.frozen? ⟨w.heap.size, ii, none⟩ = false := frozen_of_block HN.out
  go_region
  have bS : Below w.heap.size w1 (((((((((w1.setCell ⟨w.heap.size, 0, none⟩ (.int .i64 k)).setCell ⟨w.heap.size, 1, none⟩ (.string s)).setCell ⟨w.heap.size, 2, none⟩ (.slice am nm cm)).setCell ⟨w.heap.size, 3, none⟩ (.int .i64 vk)).setCell ⟨w.heap.size, 4, none⟩ (.bool vb)).setCell ⟨w.heap.size, 5, none⟩ (.int .i64 vi)).setCell ⟨w.heap.size, 6, none⟩ (.string vs)).setCell ⟨w.heap.size, 7, none⟩ (.slice val vnl vcl)).setCell ⟨w.heap.size, 8, none⟩ (.slice vam vnm vcm)).drew := (st9_below (W := w1) (g := w.heap.size) (B := w.heap.size) (Nat.le_refl _) HB.out.size (.int .i64 k) (.string s) (.slice am nm cm) (.int .i64 vk) (.bool vb) (.int .i64 vi) (.string vs) (.slice val vnl vcl) (.slice vam vnm vcm)).drew
  have nS : (((((((((w1.setCell ⟨w.heap.size, 0, none⟩ (.int .i64 k)).setCell ⟨w.heap.size, 1, none⟩ (.string s)).setCell ⟨w.heap.size, 2, none⟩ (.slice am nm cm)).setCell ⟨w.heap.size, 3, none⟩ (.int .i64 vk)).setCell ⟨w.heap.size, 4, none⟩ (.bool vb)).setCell ⟨w.heap.size, 5, none⟩ (.int .i64 vi)).setCell ⟨w.heap.size, 6, none⟩ (.string vs)).setCell ⟨w.heap.size, 7, none⟩ (.slice val vnl vcl)).setCell ⟨w.heap.size, 8, none⟩ (.slice vam vnm vcm)).drew.heap[w.heap.size]? = some (.cells #[.int .i64 k, .string s, .slice am nm cm, .int .i64 vk, .bool vb, .int .i64 vi, .string vs, .slice val vnl vcl, .slice vam vnm vcm] 34 (0, 0)) := by rw [drew_heap]; exact st9_block HN.out (.int .i64 k) (.string s) (.slice am nm cm) (.int .i64 vk) (.bool vb) (.int .i64 vi) (.string vs) (.slice val vnl vcl) (.slice vam vnm vcm)
  clear c0 c1 c2 c3 c4 c5 c6 c7 c8 q0 q1 q2 q3 q4 q5 q6 q7 q8 kf
  generalize (((((((((w1.setCell ⟨w.heap.size, 0, none⟩ (.int .i64 k)).setCell ⟨w.heap.size, 1, none⟩ (.string s)).setCell ⟨w.heap.size, 2, none⟩ (.slice am nm cm)).setCell ⟨w.heap.size, 3, none⟩ (.int .i64 vk)).setCell ⟨w.heap.size, 4, none⟩ (.bool vb)).setCell ⟨w.heap.size, 5, none⟩ (.int .i64 vi)).setCell ⟨w.heap.size, 6, none⟩ (.string vs)).setCell ⟨w.heap.size, 7, none⟩ (.slice val vnl vcl)).setCell ⟨w.heap.size, 8, none⟩ (.slice vam vnm vcm)).drew = w2 at *
  have d0 : w2.cell? ⟨w.heap.size, 0, none⟩ = some (.int .i64 k) := by rw [cell_of_block nS]; rfl
  have d1 : w2.cell? ⟨w.heap.size, 1, none⟩ = some (.string s) := by rw [cell_of_block nS]; rfl
  have d2 : w2.cell? ⟨w.heap.size, 2, none⟩ = some (.slice am nm cm) := by rw [cell_of_block nS]; rfl
  have d3 : w2.cell? ⟨w.heap.size, 3, none⟩ = some (.int .i64 vk) := by rw [cell_of_block nS]; rfl
  have d4 : w2.cell? ⟨w.heap.size, 4, none⟩ = some (.bool vb) := by rw [cell_of_block nS]; rfl
  have d5 : w2.cell? ⟨w.heap.size, 5, none⟩ = some (.int .i64 vi) := by rw [cell_of_block nS]; rfl
  have d6 : w2.cell? ⟨w.heap.size, 6, none⟩ = some (.string vs) := by rw [cell_of_block nS]; rfl
  have d7 : w2.cell? ⟨w.heap.size, 7, none⟩ = some (.slice val vnl vcl) := by rw [cell_of_block nS]; rfl
  have d8 : w2.cell? ⟨w.heap.size, 8, none⟩ = some (.slice vam vnm vcm) := by rw [cell_of_block nS]; rfl
  go_wp2_with fail
  refine bodyPost_ret (v := .tuple #[.slice (some ⟨bp, op, none⟩) n cp, .agg #[.int .i64 k, .string s, .slice am nm cm, .int .i64 vk, .bool vb, .int .i64 vi, .string vs, .slice val vnl vcl, .slice vam vnm vcm], .bool true]) ?_ rfl (HF.out _ (HB.out.trans bS))
  rw [results_tct rfl]
  go_simp
end Go.Proofs.YtfihgaffiobfhaaDoor
