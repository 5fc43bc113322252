/- good: a good value; flat ones and strings. -/
import Derived.Test.YtljgofmmihmmfaaDoorPlnB
import Derived.Test.YtljgofmmihmmfaaDoorGodD
set_option linter.unusedSimpArgs false
set_option linter.unusedVariables false
namespace Go.Proofs.YtljgofmmihmmfaaDoor
open Go.RowKit Go.Lib

def GoodPostS (Pr : V → Prop) (w : World) (e : Ending) (w' : World) : Prop := ∃ (u : V) (cs : List Value), e = .returned (.agg cs.toArray) ∧ u.lies false w' (New w w') cs ∧ Pr u ∧ Below w.heap.size w w'
theorem god_finS {Pr : V → Prop} {w W : World} {u : V} {cs : List Value} (B : Below w.heap.size w W) (h : Below w.heap.size w W → u.lies false W (New w W) cs) (hw : Pr u) : GoodPostS Pr w (.returned (.agg cs.toArray)) W := ⟨u, cs, rfl, h B, hw, B⟩
theorem gd_leaf {n : Nat} {k : Int} {b : Bool} {i : Int} {s : ByteArray} (h : goodB k b i s 0 [] = true) (hs : s.size ≤ 20) : Gd n (V.mk k b i s [] []) := by
  cases n with
  | zero => rw [Gd]; exact ⟨h, hs, rfl, rfl⟩
  | succ n => rw [Gd]; exact ⟨h, hs, by simp, by simp, (fun x hx => by cases hx), (fun x hx => by cases hx)⟩
theorem rise_nil : riseB [] = true := rfl
theorem utf_nil : utfB ⟨#[]⟩ = true := validD_nil
theorem e_nil : (⟨#[]⟩ : ByteArray).toList = [] := by rw [toList_data]
theorem gd_null (n : Nat) : Gd n (V.mk 0 false 0 ⟨#[]⟩ [] []) := gd_leaf (by simp [goodB, plainB, utf_nil, rise_nil, e_nil]) (by decide)
theorem gd_bool (n : Nat) (b : Bool) : Gd n (V.mk 1 b 0 ⟨#[]⟩ [] []) := gd_leaf (by simp [goodB, plainB, utf_nil, rise_nil, e_nil]) (by decide)
theorem gd_int (n : Nat) (i : Int) : Gd n (V.mk 2 false i ⟨#[]⟩ [] []) := gd_leaf (by simp [goodB, plainB, utf_nil, rise_nil, e_nil]) (by decide)
theorem gd_str (n : Nat) {t : ByteArray} (h : Pl20 t) : Gd n (V.mk 3 false 0 t [] []) := gd_leaf (by simp [goodB, plainB, rise_nil, utfB, validD_asc _ h.2]) h.1

set_option maxHeartbeats 8000000 in
set_option maxRecDepth 100000 in
theorem good_flatS (n : Nat) (v : V) (lv : Nat) (cs : List Value) (w : World) (hv : v.lies false w (Old w) cs) (hlv : lv ≤ 4) (hwt : v.wt ≤ 1099511627776) (r : Int) (hr : ∀ k b i s l m, v = V.mk k b i s l m → Int.tmod k 6 = r) (hc : (r = 0 ∨ r = 1 ∨ r = -1 ∨ r = 2 ∨ r = -2) ∨ (lv = 4 ∧ (r = 4 ∨ r = -4 ∨ r = 5 ∨ r = -5))) : Calls Tryd.prog 14 #[.agg cs.toArray, .int .i64 (lv : Int)] w (GoodPostS (Gd n) w) := by
  obtain ⟨k, b, i, s, l, m⟩ := v
  have hr := hr k b i s l m rfl
  rw [V.lies] at hv
  obtain ⟨al, cl, bl, ol, am, cm, bm, om, rfl, hk, hi, hs, hal, ham, hl1, hm1, _⟩ := hv
  have y1 : lv ≤ 3 → ¬ (lv : Int) > 3 := by omega
  clear hl1 hm1
  have hwr : IntKind.i64.wrap (Int.tmod k 6) = r := by
    rw [hr]
    rcases hc with (rfl | rfl | rfl | rfl | rfl) | ⟨_, rfl | rfl | rfl | rfl⟩ <;> rfl
  have hle : lv = 4 ∨ lv ≤ 3 := by omega
  rcases hc with (rfl | rfl | rfl | rfl | rfl) | ⟨rfl, rfl | rfl | rfl | rfl⟩
  · go_enter Tryd.func14, Tryd.ntmps14
    go_wp2_with fail
    all_goals (try simp only [Exit.inBlock, Exit.then])
    all_goals refine bodyPost_ret (v := .agg #[.int .i64 0, .bool false, .int .i64 0, .string ⟨#[]⟩, .slice none 0 0, .slice none 0 0]) (by rw [results_cell1 rfl]; go_simp) rfl ?_
    all_goals exact god_finS (u := V.mk 0 false 0 ⟨#[]⟩ [] []) (cs := [.int .i64 0, .bool false, .int .i64 0, .string ⟨#[]⟩, .slice none 0 0, .slice none 0 0]) (three_below _ _ _ _) (fun B => lies_S (by constructor <;> omega) (by constructor <;> omega) (by decide) headed_nil headed_nil (by rw [liesL]; trivial) (by rw [liesM]; trivial)) (by first | exact gd_null n | exact gd_bool n _ | exact gd_int n _)
  · go_enter Tryd.func14, Tryd.ntmps14
    go_wp2_with fail
    all_goals (try simp only [Exit.inBlock, Exit.then])
    all_goals refine bodyPost_ret (v := .agg #[.int .i64 1, .bool b, .int .i64 0, .string ⟨#[]⟩, .slice none 0 0, .slice none 0 0]) (by rw [results_cell1 rfl]; go_simp) rfl ?_
    all_goals exact god_finS (u := V.mk 1 b 0 ⟨#[]⟩ [] []) (cs := [.int .i64 1, .bool b, .int .i64 0, .string ⟨#[]⟩, .slice none 0 0, .slice none 0 0]) (three_below _ _ _ _) (fun B => lies_S (by constructor <;> omega) (by constructor <;> omega) (by decide) headed_nil headed_nil (by rw [liesL]; trivial) (by rw [liesM]; trivial)) (by first | exact gd_null n | exact gd_bool n _ | exact gd_int n _)
  · go_enter Tryd.func14, Tryd.ntmps14
    go_wp2_with fail
    all_goals (try simp only [Exit.inBlock, Exit.then])
    all_goals refine bodyPost_ret (v := .agg #[.int .i64 1, .bool b, .int .i64 0, .string ⟨#[]⟩, .slice none 0 0, .slice none 0 0]) (by rw [results_cell1 rfl]; go_simp) rfl ?_
    all_goals exact god_finS (u := V.mk 1 b 0 ⟨#[]⟩ [] []) (cs := [.int .i64 1, .bool b, .int .i64 0, .string ⟨#[]⟩, .slice none 0 0, .slice none 0 0]) (three_below _ _ _ _) (fun B => lies_S (by constructor <;> omega) (by constructor <;> omega) (by decide) headed_nil headed_nil (by rw [liesL]; trivial) (by rw [liesM]; trivial)) (by first | exact gd_null n | exact gd_bool n _ | exact gd_int n _)
  · go_enter Tryd.func14, Tryd.ntmps14
    go_wp2_with fail
    all_goals (try simp only [Exit.inBlock, Exit.then])
    all_goals refine bodyPost_ret (v := .agg #[.int .i64 2, .bool false, .int .i64 i, .string ⟨#[]⟩, .slice none 0 0, .slice none 0 0]) (by rw [results_cell1 rfl]; go_simp) rfl ?_
    all_goals exact god_finS (u := V.mk 2 false i ⟨#[]⟩ [] []) (cs := [.int .i64 2, .bool false, .int .i64 i, .string ⟨#[]⟩, .slice none 0 0, .slice none 0 0]) (three_below _ _ _ _) (fun B => lies_S (by constructor <;> omega) hi (by decide) headed_nil headed_nil (by rw [liesL]; trivial) (by rw [liesM]; trivial)) (by first | exact gd_null n | exact gd_bool n _ | exact gd_int n _)
  · go_enter Tryd.func14, Tryd.ntmps14
    go_wp2_with fail
    all_goals (try simp only [Exit.inBlock, Exit.then])
    all_goals refine bodyPost_ret (v := .agg #[.int .i64 2, .bool false, .int .i64 i, .string ⟨#[]⟩, .slice none 0 0, .slice none 0 0]) (by rw [results_cell1 rfl]; go_simp) rfl ?_
    all_goals exact god_finS (u := V.mk 2 false i ⟨#[]⟩ [] []) (cs := [.int .i64 2, .bool false, .int .i64 i, .string ⟨#[]⟩, .slice none 0 0, .slice none 0 0]) (three_below _ _ _ _) (fun B => lies_S (by constructor <;> omega) hi (by decide) headed_nil headed_nil (by rw [liesL]; trivial) (by rw [liesM]; trivial)) (by first | exact gd_null n | exact gd_bool n _ | exact gd_int n _)
  · go_enter Tryd.func14, Tryd.ntmps14
    go_wp2_with fail
    all_goals (try simp only [Exit.inBlock, Exit.then])
    all_goals refine bodyPost_ret (v := .agg #[.int .i64 0, .bool false, .int .i64 0, .string ⟨#[]⟩, .slice none 0 0, .slice none 0 0]) (by rw [results_cell1 rfl]; go_simp) rfl ?_
    all_goals exact god_finS (u := V.mk 0 false 0 ⟨#[]⟩ [] []) (cs := [.int .i64 0, .bool false, .int .i64 0, .string ⟨#[]⟩, .slice none 0 0, .slice none 0 0]) (three_below _ _ _ _) (fun B => lies_S (by constructor <;> omega) (by constructor <;> omega) (by decide) headed_nil headed_nil (by rw [liesL]; trivial) (by rw [liesM]; trivial)) (by first | exact gd_null n | exact gd_bool n _ | exact gd_int n _)
  · go_enter Tryd.func14, Tryd.ntmps14
    go_wp2_with fail
    all_goals (try simp only [Exit.inBlock, Exit.then])
    all_goals refine bodyPost_ret (v := .agg #[.int .i64 0, .bool false, .int .i64 0, .string ⟨#[]⟩, .slice none 0 0, .slice none 0 0]) (by rw [results_cell1 rfl]; go_simp) rfl ?_
    all_goals exact god_finS (u := V.mk 0 false 0 ⟨#[]⟩ [] []) (cs := [.int .i64 0, .bool false, .int .i64 0, .string ⟨#[]⟩, .slice none 0 0, .slice none 0 0]) (three_below _ _ _ _) (fun B => lies_S (by constructor <;> omega) (by constructor <;> omega) (by decide) headed_nil headed_nil (by rw [liesL]; trivial) (by rw [liesM]; trivial)) (by first | exact gd_null n | exact gd_bool n _ | exact gd_int n _)
  · go_enter Tryd.func14, Tryd.ntmps14
    go_wp2_with fail
    all_goals (try simp only [Exit.inBlock, Exit.then])
    all_goals refine bodyPost_ret (v := .agg #[.int .i64 0, .bool false, .int .i64 0, .string ⟨#[]⟩, .slice none 0 0, .slice none 0 0]) (by rw [results_cell1 rfl]; go_simp) rfl ?_
    all_goals exact god_finS (u := V.mk 0 false 0 ⟨#[]⟩ [] []) (cs := [.int .i64 0, .bool false, .int .i64 0, .string ⟨#[]⟩, .slice none 0 0, .slice none 0 0]) (three_below _ _ _ _) (fun B => lies_S (by constructor <;> omega) (by constructor <;> omega) (by decide) headed_nil headed_nil (by rw [liesL]; trivial) (by rw [liesM]; trivial)) (by first | exact gd_null n | exact gd_bool n _ | exact gd_int n _)
  · go_enter Tryd.func14, Tryd.ntmps14
    go_wp2_with fail
    all_goals (try simp only [Exit.inBlock, Exit.then])
    all_goals refine bodyPost_ret (v := .agg #[.int .i64 0, .bool false, .int .i64 0, .string ⟨#[]⟩, .slice none 0 0, .slice none 0 0]) (by rw [results_cell1 rfl]; go_simp) rfl ?_
    all_goals exact god_finS (u := V.mk 0 false 0 ⟨#[]⟩ [] []) (cs := [.int .i64 0, .bool false, .int .i64 0, .string ⟨#[]⟩, .slice none 0 0, .slice none 0 0]) (three_below _ _ _ _) (fun B => lies_S (by constructor <;> omega) (by constructor <;> omega) (by decide) headed_nil headed_nil (by rw [liesL]; trivial) (by rw [liesM]; trivial)) (by first | exact gd_null n | exact gd_bool n _ | exact gd_int n _)
set_option maxHeartbeats 8000000 in
set_option maxRecDepth 100000 in
theorem good_strS (n : Nat) (v : V) (lv : Nat) (cs : List Value) (w : World) (hv : v.lies false w (Old w) cs) (hlv : lv ≤ 4) (hwt : v.wt ≤ 1099511627776) (r : Int) (hr : ∀ k b i s l m, v = V.mk k b i s l m → Int.tmod k 6 = r) (hc : r = 3 ∨ r = -3) : Calls Tryd.prog 14 #[.agg cs.toArray, .int .i64 (lv : Int)] w (GoodPostS (Gd n) w) := by
  obtain ⟨k, b, i, s, l, m⟩ := v
  have hr := hr k b i s l m rfl
  rw [V.lies] at hv
  obtain ⟨al, cl, bl, ol, am, cm, bm, om, rfl, hk, hi, hs, hal, ham, hl1, hm1, _⟩ := hv
  clear hl1 hm1
  rw [V.wt] at hwt
  have hP := fun W => lplain_asc s W (by omega)
  have hP' : Hid (∀ W, Calls Tryd.prog 28 #[.string s] W (PlPostS W)) := hP
  clear hP
  have hwr : IntKind.i64.wrap (Int.tmod k 6) = r := by
    rw [hr]
    rcases hc with rfl | rfl <;> rfl
  have T0 : Hid (TwF w #[.int .i64 k, .bool b, .int .i64 i, .string s, .slice al l.length cl, .slice am m.length cm] #[.int .i64 0, .bool false, .int .i64 0, .string ⟨#[]⟩, .slice none 0 0, .slice none 0 0]
      (((w.alloc (.cells #[.int .i64 k, .bool b, .int .i64 i, .string s, .slice al l.length cl, .slice am m.length cm] 25)).alloc (.cells #[.int .i64 0, .bool false, .int .i64 0, .string ⟨#[]⟩, .slice none 0 0, .slice none 0 0] 25)).alloc (.cells #[.int .i64 0, .bool false, .int .i64 0, .string ⟨#[]⟩, .slice none 0 0, .slice none 0 0] 25))) := ⟨three_below w _ _ _, (three_allocs w _ _ _).1, (three_allocs w _ _ _).2.1, (three_allocs w _ _ _).2.2⟩
  rcases hc with rfl | rfl
  · go_enter Tryd.func14, Tryd.ntmps14
    go_wp2_with fail
    all_goals refine (hP'.out _).mono ?_
    all_goals rintro e w3 ⟨t, rfl, hpl, b3⟩
    all_goals have ht := hpl.1
    all_goals have HP : Hid (Pl20 t) := hpl
    all_goals clear hpl
    all_goals have t7 := T0.out.grown (grown_of_below b3) (fun r e => by cases e)
    all_goals have hz := t7.lt
    all_goals have x0 : w3.cell? ⟨w.heap.size + 1 + 1, 0, none⟩ = some (.int .i64 0) := by rw [cell_of_block t7.b2]; rfl
    all_goals have r0 : w3.cell? ⟨w.heap.size + 1, 0, none⟩ = some (.int .i64 0) := by rw [cell_of_block t7.b1]; rfl
    all_goals have x1 : w3.cell? ⟨w.heap.size + 1 + 1, 1, none⟩ = some (.bool false) := by rw [cell_of_block t7.b2]; rfl
    all_goals have r1 : w3.cell? ⟨w.heap.size + 1, 1, none⟩ = some (.bool false) := by rw [cell_of_block t7.b1]; rfl
    all_goals have x2 : w3.cell? ⟨w.heap.size + 1 + 1, 2, none⟩ = some (.int .i64 0) := by rw [cell_of_block t7.b2]; rfl
    all_goals have r2 : w3.cell? ⟨w.heap.size + 1, 2, none⟩ = some (.int .i64 0) := by rw [cell_of_block t7.b1]; rfl
    all_goals have x3 : w3.cell? ⟨w.heap.size + 1 + 1, 3, none⟩ = some (.string ⟨#[]⟩) := by rw [cell_of_block t7.b2]; rfl
    all_goals have r3 : w3.cell? ⟨w.heap.size + 1, 3, none⟩ = some (.string ⟨#[]⟩) := by rw [cell_of_block t7.b1]; rfl
    all_goals have x4 : w3.cell? ⟨w.heap.size + 1 + 1, 4, none⟩ = some (.slice none 0 0) := by rw [cell_of_block t7.b2]; rfl
    all_goals have r4 : w3.cell? ⟨w.heap.size + 1, 4, none⟩ = some (.slice none 0 0) := by rw [cell_of_block t7.b1]; rfl
    all_goals have x5 : w3.cell? ⟨w.heap.size + 1 + 1, 5, none⟩ = some (.slice none 0 0) := by rw [cell_of_block t7.b2]; rfl
    all_goals have r5 : w3.cell? ⟨w.heap.size + 1, 5, none⟩ = some (.slice none 0 0) := by rw [cell_of_block t7.b1]; rfl
    all_goals have xf : ∀ i, w3.frozen? ⟨w.heap.size + 1 + 1, i, none⟩ = false := frozen_of_block t7.b2
    all_goals have rf : ∀ i, w3.frozen? ⟨w.heap.size + 1, i, none⟩ = false := frozen_of_block t7.b1
    all_goals have hB7 := t7.below
    all_goals clear t7 b3
    all_goals go_wp2_with fail
    all_goals (try simp only [Exit.inBlock, Exit.then])
    all_goals refine bodyPost_ret (v := .agg #[.int .i64 3, .bool false, .int .i64 0, .string t, .slice none 0 0, .slice none 0 0]) (by rw [results_cell1 rfl]; go_simp) rfl ?_
    all_goals exact god_finS (u := V.mk 3 false 0 t [] []) (cs := [.int .i64 3, .bool false, .int .i64 0, .string t, .slice none 0 0, .slice none 0 0]) (below_set12 hB7 (by omega) (by omega) _ _ _ _ _ _ _ _ _ _ _ _ _ _ _ _ _ _ _ _ _ _ _ _) (fun B => lies_S (by constructor <;> omega) (by constructor <;> omega) (by simp only [maxLen]; omega) headed_nil headed_nil (by rw [liesL]; trivial) (by rw [liesM]; trivial)) (gd_str n HP.out)
  · go_enter Tryd.func14, Tryd.ntmps14
    go_wp2_with fail
    all_goals refine (hP'.out _).mono ?_
    all_goals rintro e w3 ⟨t, rfl, hpl, b3⟩
    all_goals have ht := hpl.1
    all_goals have HP : Hid (Pl20 t) := hpl
    all_goals clear hpl
    all_goals have t7 := T0.out.grown (grown_of_below b3) (fun r e => by cases e)
    all_goals have hz := t7.lt
    all_goals have x0 : w3.cell? ⟨w.heap.size + 1 + 1, 0, none⟩ = some (.int .i64 0) := by rw [cell_of_block t7.b2]; rfl
    all_goals have r0 : w3.cell? ⟨w.heap.size + 1, 0, none⟩ = some (.int .i64 0) := by rw [cell_of_block t7.b1]; rfl
    all_goals have x1 : w3.cell? ⟨w.heap.size + 1 + 1, 1, none⟩ = some (.bool false) := by rw [cell_of_block t7.b2]; rfl
    all_goals have r1 : w3.cell? ⟨w.heap.size + 1, 1, none⟩ = some (.bool false) := by rw [cell_of_block t7.b1]; rfl
    all_goals have x2 : w3.cell? ⟨w.heap.size + 1 + 1, 2, none⟩ = some (.int .i64 0) := by rw [cell_of_block t7.b2]; rfl
    all_goals have r2 : w3.cell? ⟨w.heap.size + 1, 2, none⟩ = some (.int .i64 0) := by rw [cell_of_block t7.b1]; rfl
    all_goals have x3 : w3.cell? ⟨w.heap.size + 1 + 1, 3, none⟩ = some (.string ⟨#[]⟩) := by rw [cell_of_block t7.b2]; rfl
    all_goals have r3 : w3.cell? ⟨w.heap.size + 1, 3, none⟩ = some (.string ⟨#[]⟩) := by rw [cell_of_block t7.b1]; rfl
    all_goals have x4 : w3.cell? ⟨w.heap.size + 1 + 1, 4, none⟩ = some (.slice none 0 0) := by rw [cell_of_block t7.b2]; rfl
    all_goals have r4 : w3.cell? ⟨w.heap.size + 1, 4, none⟩ = some (.slice none 0 0) := by rw [cell_of_block t7.b1]; rfl
    all_goals have x5 : w3.cell? ⟨w.heap.size + 1 + 1, 5, none⟩ = some (.slice none 0 0) := by rw [cell_of_block t7.b2]; rfl
    all_goals have r5 : w3.cell? ⟨w.heap.size + 1, 5, none⟩ = some (.slice none 0 0) := by rw [cell_of_block t7.b1]; rfl
    all_goals have xf : ∀ i, w3.frozen? ⟨w.heap.size + 1 + 1, i, none⟩ = false := frozen_of_block t7.b2
    all_goals have rf : ∀ i, w3.frozen? ⟨w.heap.size + 1, i, none⟩ = false := frozen_of_block t7.b1
    all_goals have hB7 := t7.below
    all_goals clear t7 b3
    all_goals go_wp2_with fail
    all_goals (try simp only [Exit.inBlock, Exit.then])
    all_goals refine bodyPost_ret (v := .agg #[.int .i64 3, .bool false, .int .i64 0, .string t, .slice none 0 0, .slice none 0 0]) (by rw [results_cell1 rfl]; go_simp) rfl ?_
    all_goals exact god_finS (u := V.mk 3 false 0 t [] []) (cs := [.int .i64 3, .bool false, .int .i64 0, .string t, .slice none 0 0, .slice none 0 0]) (below_set12 hB7 (by omega) (by omega) _ _ _ _ _ _ _ _ _ _ _ _ _ _ _ _ _ _ _ _ _ _ _ _) (fun B => lies_S (by constructor <;> omega) (by constructor <;> omega) (by simp only [maxLen]; omega) headed_nil headed_nil (by rw [liesL]; trivial) (by rw [liesM]; trivial)) (gd_str n HP.out)
end Go.Proofs.YtljgofmmihmmfaaDoor
