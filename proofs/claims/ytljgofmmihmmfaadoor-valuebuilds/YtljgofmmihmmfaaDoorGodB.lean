/- good: some good value; a string. -/
import Derived.Test.YtljgofmmihmmfaaDoorGodA
set_option linter.unusedSimpArgs false
set_option linter.unusedVariables false
namespace Go.Proofs.YtljgofmmihmmfaaDoor
open Go.RowKit

theorem below_set12 {B N M : Nat} {a w : World} (h : Below B a w) (hN : B ≤ N) (hM : B ≤ M) (i1 i2 i3 i4 i5 i6 i7 i8 i9 i10 i11 i12 : Nat) (u1 u2 u3 u4 u5 u6 u7 u8 u9 u10 u11 u12 : Value) :
    Below B a (((((((((((((w).setCell ⟨N, i1, none⟩ u1).setCell ⟨N, i2, none⟩ u2).setCell ⟨N, i3, none⟩ u3).setCell ⟨N, i4, none⟩ u4).setCell ⟨N, i5, none⟩ u5).setCell ⟨N, i6, none⟩ u6).setCell ⟨M, i7, none⟩ u7).setCell ⟨M, i8, none⟩ u8).setCell ⟨M, i9, none⟩ u9).setCell ⟨M, i10, none⟩ u10).setCell ⟨M, i11, none⟩ u11).setCell ⟨M, i12, none⟩ u12) := by
  repeat (refine Below.setCell ?_ (by assumption) _)
  exact h

set_option maxHeartbeats 8000000 in
set_option maxRecDepth 100000 in
theorem good_str (v : V) (lv : Nat) (cs : List Value) (w : World) (hv : v.lies false w (Old w) cs) (hlv : lv ≤ 4) (hwt : v.wt ≤ 1099511627776) (r : Int) (hr : ∀ k b i s l m, v = V.mk k b i s l m → Int.tmod k 6 = r) (hc : r = 3 ∨ r = -3) : Calls Tryd.prog 14 #[.agg cs.toArray, .int .i64 (lv : Int)] w (GoodPost 21 w) := by
  obtain ⟨k, b, i, s, l, m⟩ := v
  have hr := hr k b i s l m rfl
  rw [V.lies] at hv
  obtain ⟨al, cl, bl, ol, am, cm, bm, om, rfl, hk, hi, hs, hal, ham, hl1, hm1, _⟩ := hv
  clear hl1 hm1
  rw [V.wt] at hwt
  have hP := fun W => lplain_any s W (by omega)
  have hP' : Hid (∀ W, Calls Tryd.prog 28 #[.string s] W (PlPost s W)) := hP
  clear hP
  have hwr : IntKind.i64.wrap (Int.tmod k 6) = r := by
    rw [hr]
    rcases hc with rfl | rfl <;> rfl
  have T0 : Hid (TwF w #[.int .i64 k, .bool b, .int .i64 i, .string s, .slice al l.length cl, .slice am m.length cm] #[.int .i64 0, .bool false, .int .i64 0, .string ⟨#[]⟩, .slice none 0 0, .slice none 0 0]
      (((w.alloc (.cells #[.int .i64 k, .bool b, .int .i64 i, .string s, .slice al l.length cl, .slice am m.length cm] 25)).alloc (.cells #[.int .i64 0, .bool false, .int .i64 0, .string ⟨#[]⟩, .slice none 0 0, .slice none 0 0] 25)).alloc (.cells #[.int .i64 0, .bool false, .int .i64 0, .string ⟨#[]⟩, .slice none 0 0, .slice none 0 0] 25))) := ⟨three_below w _ _ _, (three_allocs w _ _ _).1, (three_allocs w _ _ _).2.1, (three_allocs w _ _ _).2.2⟩
  rcases hc with rfl | rfl
  · go_enter Tryd.func14, Tryd.ntmps14
    go_wp2_with fail
    all_goals refine (hP'.out _).mono ?_
    all_goals rintro e w3 ⟨t, rfl, ht, _, b3⟩
    all_goals have t7 := T0.out.grown (grown_of_below b3) (fun r e => by cases e)
    all_goals have hz := t7.lt
    all_goals have x0 : w3.cell? ⟨w.heap.size + 1 + 1, 0, none⟩ = some (.int .i64 0) := by rw [cell_of_block t7.b2]; rfl
    all_goals have r0 : w3.cell? ⟨w.heap.size + 1, 0, none⟩ = some (.int .i64 0) := by rw [cell_of_block t7.b1]; rfl
    all_goals have x1 : w3.cell? ⟨w.heap.size + 1 + 1, 1, none⟩ = some (.bool false) := by rw [cell_of_block t7.b2]; rfl
    all_goals have r1 : w3.cell? ⟨w.heap.size + 1, 1, none⟩ = some (.bool false) := by rw [cell_of_block t7.b1]; rfl
    all_goals have x2 : w3.cell? ⟨w.heap.size + 1 + 1, 2, none⟩ = some (.int .i64 0) := by rw [cell_of_block t7.b2]; rfl
    all_goals have r2 : w3.cell? ⟨w.heap.size + 1, 2, none⟩ = some (.int .i64 0) := by rw [cell_of_block t7.b1]; rfl
    all_goals have x3 : w3.cell? ⟨w.heap.size + 1 + 1, 3, none⟩ = some (.string ⟨#[]⟩) := by rw [cell_of_block t7.b2]; rfl
    all_goals have r3 : w3.cell? ⟨w.heap.size + 1, 3, none⟩ = some (.string ⟨#[]⟩) := by rw [cell_of_block t7.b1]; rfl
    all_goals have x4 : w3.cell? ⟨w.heap.size + 1 + 1, 4, none⟩ = some (.slice none 0 0) := by rw [cell_of_block t7.b2]; rfl
    all_goals have r4 : w3.cell? ⟨w.heap.size + 1, 4, none⟩ = some (.slice none 0 0) := by rw [cell_of_block t7.b1]; rfl
    all_goals have x5 : w3.cell? ⟨w.heap.size + 1 + 1, 5, none⟩ = some (.slice none 0 0) := by rw [cell_of_block t7.b2]; rfl
    all_goals have r5 : w3.cell? ⟨w.heap.size + 1, 5, none⟩ = some (.slice none 0 0) := by rw [cell_of_block t7.b1]; rfl
    all_goals have xf : ∀ i, w3.frozen? ⟨w.heap.size + 1 + 1, i, none⟩ = false := frozen_of_block t7.b2
    all_goals have rf : ∀ i, w3.frozen? ⟨w.heap.size + 1, i, none⟩ = false := frozen_of_block t7.b1
    all_goals have hB7 := t7.below
    all_goals clear t7 b3
    all_goals go_wp2_with fail
    all_goals (try simp only [Exit.inBlock, Exit.then])
    all_goals refine bodyPost_ret (v := .agg #[.int .i64 3, .bool false, .int .i64 0, .string t, .slice none 0 0, .slice none 0 0]) (by rw [results_cell1 rfl]; go_simp) rfl ?_
    all_goals exact god_fin (u := V.mk 3 false 0 t [] []) (cs := [.int .i64 3, .bool false, .int .i64 0, .string t, .slice none 0 0, .slice none 0 0]) (below_set12 hB7 (by omega) (by omega) _ _ _ _ _ _ _ _ _ _ _ _ _ _ _ _ _ _ _ _ _ _ _ _) (fun B => lies_S (by constructor <;> omega) (by constructor <;> omega) (by simp only [maxLen]; omega) headed_nil headed_nil (by rw [liesL]; trivial) (by rw [liesM]; trivial)) (by simp only [V.wt, wtL, wtM]; omega)
  · go_enter Tryd.func14, Tryd.ntmps14
    go_wp2_with fail
    all_goals refine (hP'.out _).mono ?_
    all_goals rintro e w3 ⟨t, rfl, ht, _, b3⟩
    all_goals have t7 := T0.out.grown (grown_of_below b3) (fun r e => by cases e)
    all_goals have hz := t7.lt
    all_goals have x0 : w3.cell? ⟨w.heap.size + 1 + 1, 0, none⟩ = some (.int .i64 0) := by rw [cell_of_block t7.b2]; rfl
    all_goals have r0 : w3.cell? ⟨w.heap.size + 1, 0, none⟩ = some (.int .i64 0) := by rw [cell_of_block t7.b1]; rfl
    all_goals have x1 : w3.cell? ⟨w.heap.size + 1 + 1, 1, none⟩ = some (.bool false) := by rw [cell_of_block t7.b2]; rfl
    all_goals have r1 : w3.cell? ⟨w.heap.size + 1, 1, none⟩ = some (.bool false) := by rw [cell_of_block t7.b1]; rfl
    all_goals have x2 : w3.cell? ⟨w.heap.size + 1 + 1, 2, none⟩ = some (.int .i64 0) := by rw [cell_of_block t7.b2]; rfl
    all_goals have r2 : w3.cell? ⟨w.heap.size + 1, 2, none⟩ = some (.int .i64 0) := by rw [cell_of_block t7.b1]; rfl
    all_goals have x3 : w3.cell? ⟨w.heap.size + 1 + 1, 3, none⟩ = some (.string ⟨#[]⟩) := by rw [cell_of_block t7.b2]; rfl
    all_goals have r3 : w3.cell? ⟨w.heap.size + 1, 3, none⟩ = some (.string ⟨#[]⟩) := by rw [cell_of_block t7.b1]; rfl
    all_goals have x4 : w3.cell? ⟨w.heap.size + 1 + 1, 4, none⟩ = some (.slice none 0 0) := by rw [cell_of_block t7.b2]; rfl
    all_goals have r4 : w3.cell? ⟨w.heap.size + 1, 4, none⟩ = some (.slice none 0 0) := by rw [cell_of_block t7.b1]; rfl
    all_goals have x5 : w3.cell? ⟨w.heap.size + 1 + 1, 5, none⟩ = some (.slice none 0 0) := by rw [cell_of_block t7.b2]; rfl
    all_goals have r5 : w3.cell? ⟨w.heap.size + 1, 5, none⟩ = some (.slice none 0 0) := by rw [cell_of_block t7.b1]; rfl
    all_goals have xf : ∀ i, w3.frozen? ⟨w.heap.size + 1 + 1, i, none⟩ = false := frozen_of_block t7.b2
    all_goals have rf : ∀ i, w3.frozen? ⟨w.heap.size + 1, i, none⟩ = false := frozen_of_block t7.b1
    all_goals have hB7 := t7.below
    all_goals clear t7 b3
    all_goals go_wp2_with fail
    all_goals (try simp only [Exit.inBlock, Exit.then])
    all_goals refine bodyPost_ret (v := .agg #[.int .i64 3, .bool false, .int .i64 0, .string t, .slice none 0 0, .slice none 0 0]) (by rw [results_cell1 rfl]; go_simp) rfl ?_
    all_goals exact god_fin (u := V.mk 3 false 0 t [] []) (cs := [.int .i64 3, .bool false, .int .i64 0, .string t, .slice none 0 0, .slice none 0 0]) (below_set12 hB7 (by omega) (by omega) _ _ _ _ _ _ _ _ _ _ _ _ _ _ _ _ _ _ _ _ _ _ _ _) (fun B => lies_S (by constructor <;> omega) (by constructor <;> omega) (by simp only [maxLen]; omega) headed_nil headed_nil (by rw [liesL]; trivial) (by rw [liesM]; trivial)) (by simp only [V.wt, wtL, wtM]; omega)
end Go.Proofs.YtljgofmmihmmfaaDoor
