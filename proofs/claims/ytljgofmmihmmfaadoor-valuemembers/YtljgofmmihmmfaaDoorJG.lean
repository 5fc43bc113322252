/- joined: GsA GsC GsD GsE -/
import Derived.Test.YtljgofmmihmmfaaDoorPlnB
import Derived.Test.YtljgofmmihmmfaaDoorJF
import Derived.Deep.RegionHeld3
/- good: a good value; flat ones and strings. -/
set_option linter.unusedSimpArgs false
set_option linter.unusedVariables false
namespace Go.Proofs.YtljgofmmihmmfaaDoor
open Go.RowKit Go.Lib

def GoodPostS (Pr : V → Prop) (w : World) (e : Ending) (w' : World) : Prop := ∃ (u : V) (cs : List Value), e = .returned (.agg cs.toArray) ∧ u.lies false w' (New w w') cs ∧ Pr u ∧ Below w.heap.size w w'
theorem god_finS {Pr : V → Prop} {w W : World} {u : V} {cs : List Value} (B : Below w.heap.size w W) (h : Below w.heap.size w W → u.lies false W (New w W) cs) (hw : Pr u) : GoodPostS Pr w (.returned (.agg cs.toArray)) W := ⟨u, cs, rfl, h B, hw, B⟩
theorem gd_leaf {n : Nat} {k : Int} {b : Bool} {i : Int} {s : ByteArray} (h : goodB k b i s 0 [] = true) (hs : s.size ≤ 20) : Gd n (V.mk k b i s [] []) := by
  cases n with
  | zero => rw [Gd]; exact ⟨h, hs, rfl, rfl⟩
  | succ n => rw [Gd]; exact ⟨h, hs, by simp, by simp, (fun x hx => by cases hx), (fun x hx => by cases hx)⟩
theorem rise_nil : riseB [] = true := rfl
theorem utf_nil : utfB ⟨#[]⟩ = true := validD_nil
theorem e_nil : (⟨#[]⟩ : ByteArray).toList = [] := by rw [toList_data]
theorem gd_null (n : Nat) : Gd n (V.mk 0 false 0 ⟨#[]⟩ [] []) := gd_leaf (by simp [goodB, plainB, utf_nil, rise_nil, e_nil]) (by decide)
theorem gd_bool (n : Nat) (b : Bool) : Gd n (V.mk 1 b 0 ⟨#[]⟩ [] []) := gd_leaf (by simp [goodB, plainB, utf_nil, rise_nil, e_nil]) (by decide)
theorem gd_int (n : Nat) (i : Int) : Gd n (V.mk 2 false i ⟨#[]⟩ [] []) := gd_leaf (by simp [goodB, plainB, utf_nil, rise_nil, e_nil]) (by decide)
theorem gd_str (n : Nat) {t : ByteArray} (h : Pl20 t) : Gd n (V.mk 3 false 0 t [] []) := gd_leaf (by simp [goodB, plainB, rise_nil, utfB, validD_asc _ h.2]) h.1

set_option maxHeartbeats 8000000 in
set_option maxRecDepth 100000 in
theorem good_flatS (n : Nat) (v : V) (lv : Nat) (cs : List Value) (w : World) (hv : v.lies false w (Old w) cs) (hlv : lv ≤ 4) (hwt : v.wt ≤ 1099511627776) (r : Int) (hr : ∀ k b i s l m, v = V.mk k b i s l m → Int.tmod k 6 = r) (hc : (r = 0 ∨ r = 1 ∨ r = -1 ∨ r = 2 ∨ r = -2) ∨ (lv = 4 ∧ (r = 4 ∨ r = -4 ∨ r = 5 ∨ r = -5))) : Calls Tryd.prog 14 #[.agg cs.toArray, .int .i64 (lv : Int)] w (GoodPostS (Gd n) w) := by
  obtain ⟨k, b, i, s, l, m⟩ := v
  have hr := hr k b i s l m rfl
  rw [V.lies] at hv
  obtain ⟨al, cl, bl, ol, am, cm, bm, om, rfl, hk, hi, hs, hal, ham, hl1, hm1, _⟩ := hv
  have y1 : lv ≤ 3 → ¬ (lv : Int) > 3 := by omega
  clear hl1 hm1
  have hwr : IntKind.i64.wrap (Int.tmod k 6) = r := by
    rw [hr]
    rcases hc with (rfl | rfl | rfl | rfl | rfl) | ⟨_, rfl | rfl | rfl | rfl⟩ <;> rfl
  have hle : lv = 4 ∨ lv ≤ 3 := by omega
  rcases hc with (rfl | rfl | rfl | rfl | rfl) | ⟨rfl, rfl | rfl | rfl | rfl⟩
  · go_enter Tryd.func14, Tryd.ntmps14
    go_wp2_with fail
    all_goals (try simp only [Exit.inBlock, Exit.then])
    all_goals refine bodyPost_ret (v := .agg #[.int .i64 0, .bool false, .int .i64 0, .string ⟨#[]⟩, .slice none 0 0, .slice none 0 0]) (by rw [results_cell1 rfl]; go_simp) rfl ?_
    all_goals exact god_finS (u := V.mk 0 false 0 ⟨#[]⟩ [] []) (cs := [.int .i64 0, .bool false, .int .i64 0, .string ⟨#[]⟩, .slice none 0 0, .slice none 0 0]) (three_below _ _ _ _) (fun B => lies_S (by constructor <;> omega) (by constructor <;> omega) (by decide) headed_nil headed_nil (by rw [liesL]; trivial) (by rw [liesM]; trivial)) (by first | exact gd_null n | exact gd_bool n _ | exact gd_int n _)
  · go_enter Tryd.func14, Tryd.ntmps14
    go_wp2_with fail
    all_goals (try simp only [Exit.inBlock, Exit.then])
    all_goals refine bodyPost_ret (v := .agg #[.int .i64 1, .bool b, .int .i64 0, .string ⟨#[]⟩, .slice none 0 0, .slice none 0 0]) (by rw [results_cell1 rfl]; go_simp) rfl ?_
    all_goals exact god_finS (u := V.mk 1 b 0 ⟨#[]⟩ [] []) (cs := [.int .i64 1, .bool b, .int .i64 0, .string ⟨#[]⟩, .slice none 0 0, .slice none 0 0]) (three_below _ _ _ _) (fun B => lies_S (by constructor <;> omega) (by constructor <;> omega) (by decide) headed_nil headed_nil (by rw [liesL]; trivial) (by rw [liesM]; trivial)) (by first | exact gd_null n | exact gd_bool n _ | exact gd_int n _)
  · go_enter Tryd.func14, Tryd.ntmps14
    go_wp2_with fail
    all_goals (try simp only [Exit.inBlock, Exit.then])
    all_goals refine bodyPost_ret (v := .agg #[.int .i64 1, .bool b, .int .i64 0, .string ⟨#[]⟩, .slice none 0 0, .slice none 0 0]) (by rw [results_cell1 rfl]; go_simp) rfl ?_
    all_goals exact god_finS (u := V.mk 1 b 0 ⟨#[]⟩ [] []) (cs := [.int .i64 1, .bool b, .int .i64 0, .string ⟨#[]⟩, .slice none 0 0, .slice none 0 0]) (three_below _ _ _ _) (fun B => lies_S (by constructor <;> omega) (by constructor <;> omega) (by decide) headed_nil headed_nil (by rw [liesL]; trivial) (by rw [liesM]; trivial)) (by first | exact gd_null n | exact gd_bool n _ | exact gd_int n _)
  · go_enter Tryd.func14, Tryd.ntmps14
    go_wp2_with fail
    all_goals (try simp only [Exit.inBlock, Exit.then])
    all_goals refine bodyPost_ret (v := .agg #[.int .i64 2, .bool false, .int .i64 i, .string ⟨#[]⟩, .slice none 0 0, .slice none 0 0]) (by rw [results_cell1 rfl]; go_simp) rfl ?_
    all_goals exact god_finS (u := V.mk 2 false i ⟨#[]⟩ [] []) (cs := [.int .i64 2, .bool false, .int .i64 i, .string ⟨#[]⟩, .slice none 0 0, .slice none 0 0]) (three_below _ _ _ _) (fun B => lies_S (by constructor <;> omega) hi (by decide) headed_nil headed_nil (by rw [liesL]; trivial) (by rw [liesM]; trivial)) (by first | exact gd_null n | exact gd_bool n _ | exact gd_int n _)
  · go_enter Tryd.func14, Tryd.ntmps14
    go_wp2_with fail
    all_goals (try simp only [Exit.inBlock, Exit.then])
    all_goals refine bodyPost_ret (v := .agg #[.int .i64 2, .bool false, .int .i64 i, .string ⟨#[]⟩, .slice none 0 0, .slice none 0 0]) (by rw [results_cell1 rfl]; go_simp) rfl ?_
    all_goals exact god_finS (u := V.mk 2 false i ⟨#[]⟩ [] []) (cs := [.int .i64 2, .bool false, .int .i64 i, .string ⟨#[]⟩, .slice none 0 0, .slice none 0 0]) (three_below _ _ _ _) (fun B => lies_S (by constructor <;> omega) hi (by decide) headed_nil headed_nil (by rw [liesL]; trivial) (by rw [liesM]; trivial)) (by first | exact gd_null n | exact gd_bool n _ | exact gd_int n _)
  · go_enter Tryd.func14, Tryd.ntmps14
    go_wp2_with fail
    all_goals (try simp only [Exit.inBlock, Exit.then])
    all_goals refine bodyPost_ret (v := .agg #[.int .i64 0, .bool false, .int .i64 0, .string ⟨#[]⟩, .slice none 0 0, .slice none 0 0]) (by rw [results_cell1 rfl]; go_simp) rfl ?_
    all_goals exact god_finS (u := V.mk 0 false 0 ⟨#[]⟩ [] []) (cs := [.int .i64 0, .bool false, .int .i64 0, .string ⟨#[]⟩, .slice none 0 0, .slice none 0 0]) (three_below _ _ _ _) (fun B => lies_S (by constructor <;> omega) (by constructor <;> omega) (by decide) headed_nil headed_nil (by rw [liesL]; trivial) (by rw [liesM]; trivial)) (by first | exact gd_null n | exact gd_bool n _ | exact gd_int n _)
  · go_enter Tryd.func14, Tryd.ntmps14
    go_wp2_with fail
    all_goals (try simp only [Exit.inBlock, Exit.then])
    all_goals refine bodyPost_ret (v := .agg #[.int .i64 0, .bool false, .int .i64 0, .string ⟨#[]⟩, .slice none 0 0, .slice none 0 0]) (by rw [results_cell1 rfl]; go_simp) rfl ?_
    all_goals exact god_finS (u := V.mk 0 false 0 ⟨#[]⟩ [] []) (cs := [.int .i64 0, .bool false, .int .i64 0, .string ⟨#[]⟩, .slice none 0 0, .slice none 0 0]) (three_below _ _ _ _) (fun B => lies_S (by constructor <;> omega) (by constructor <;> omega) (by decide) headed_nil headed_nil (by rw [liesL]; trivial) (by rw [liesM]; trivial)) (by first | exact gd_null n | exact gd_bool n _ | exact gd_int n _)
  · go_enter Tryd.func14, Tryd.ntmps14
    go_wp2_with fail
    all_goals (try simp only [Exit.inBlock, Exit.then])
    all_goals refine bodyPost_ret (v := .agg #[.int .i64 0, .bool false, .int .i64 0, .string ⟨#[]⟩, .slice none 0 0, .slice none 0 0]) (by rw [results_cell1 rfl]; go_simp) rfl ?_
    all_goals exact god_finS (u := V.mk 0 false 0 ⟨#[]⟩ [] []) (cs := [.int .i64 0, .bool false, .int .i64 0, .string ⟨#[]⟩, .slice none 0 0, .slice none 0 0]) (three_below _ _ _ _) (fun B => lies_S (by constructor <;> omega) (by constructor <;> omega) (by decide) headed_nil headed_nil (by rw [liesL]; trivial) (by rw [liesM]; trivial)) (by first | exact gd_null n | exact gd_bool n _ | exact gd_int n _)
  · go_enter Tryd.func14, Tryd.ntmps14
    go_wp2_with fail
    all_goals (try simp only [Exit.inBlock, Exit.then])
    all_goals refine bodyPost_ret (v := .agg #[.int .i64 0, .bool false, .int .i64 0, .string ⟨#[]⟩, .slice none 0 0, .slice none 0 0]) (by rw [results_cell1 rfl]; go_simp) rfl ?_
    all_goals exact god_finS (u := V.mk 0 false 0 ⟨#[]⟩ [] []) (cs := [.int .i64 0, .bool false, .int .i64 0, .string ⟨#[]⟩, .slice none 0 0, .slice none 0 0]) (three_below _ _ _ _) (fun B => lies_S (by constructor <;> omega) (by constructor <;> omega) (by decide) headed_nil headed_nil (by rw [liesL]; trivial) (by rw [liesM]; trivial)) (by first | exact gd_null n | exact gd_bool n _ | exact gd_int n _)
set_option maxHeartbeats 8000000 in
set_option maxRecDepth 100000 in
theorem good_strS (n : Nat) (v : V) (lv : Nat) (cs : List Value) (w : World) (hv : v.lies false w (Old w) cs) (hlv : lv ≤ 4) (hwt : v.wt ≤ 1099511627776) (r : Int) (hr : ∀ k b i s l m, v = V.mk k b i s l m → Int.tmod k 6 = r) (hc : r = 3 ∨ r = -3) : Calls Tryd.prog 14 #[.agg cs.toArray, .int .i64 (lv : Int)] w (GoodPostS (Gd n) w) := by
  obtain ⟨k, b, i, s, l, m⟩ := v
  have hr := hr k b i s l m rfl
  rw [V.lies] at hv
  obtain ⟨al, cl, bl, ol, am, cm, bm, om, rfl, hk, hi, hs, hal, ham, hl1, hm1, _⟩ := hv
  clear hl1 hm1
  rw [V.wt] at hwt
  have hP := fun W => lplain_asc s W (by omega)
  have hP' : Hid (∀ W, Calls Tryd.prog 28 #[.string s] W (PlPostS W)) := hP
  clear hP
  have hwr : IntKind.i64.wrap (Int.tmod k 6) = r := by
    rw [hr]
    rcases hc with rfl | rfl <;> rfl
  have T0 : Hid (TwF w #[.int .i64 k, .bool b, .int .i64 i, .string s, .slice al l.length cl, .slice am m.length cm] #[.int .i64 0, .bool false, .int .i64 0, .string ⟨#[]⟩, .slice none 0 0, .slice none 0 0]
      (((w.alloc (.cells #[.int .i64 k, .bool b, .int .i64 i, .string s, .slice al l.length cl, .slice am m.length cm] 25)).alloc (.cells #[.int .i64 0, .bool false, .int .i64 0, .string ⟨#[]⟩, .slice none 0 0, .slice none 0 0] 25)).alloc (.cells #[.int .i64 0, .bool false, .int .i64 0, .string ⟨#[]⟩, .slice none 0 0, .slice none 0 0] 25))) := ⟨three_below w _ _ _, (three_allocs w _ _ _).1, (three_allocs w _ _ _).2.1, (three_allocs w _ _ _).2.2⟩
  rcases hc with rfl | rfl
  · go_enter Tryd.func14, Tryd.ntmps14
    go_wp2_with fail
    all_goals refine (hP'.out _).mono ?_
    all_goals rintro e w3 ⟨t, rfl, hpl, b3⟩
    all_goals have ht := hpl.1
    all_goals have HP : Hid (Pl20 t) := hpl
    all_goals clear hpl
    all_goals have t7 := T0.out.grown (grown_of_below b3) (fun r e => by cases e)
    all_goals have hz := t7.lt
    all_goals have x0 : w3.cell? ⟨w.heap.size + 1 + 1, 0, none⟩ = some (.int .i64 0) := by rw [cell_of_block t7.b2]; rfl
    all_goals have r0 : w3.cell? ⟨w.heap.size + 1, 0, none⟩ = some (.int .i64 0) := by rw [cell_of_block t7.b1]; rfl
    all_goals have x1 : w3.cell? ⟨w.heap.size + 1 + 1, 1, none⟩ = some (.bool false) := by rw [cell_of_block t7.b2]; rfl
    all_goals have r1 : w3.cell? ⟨w.heap.size + 1, 1, none⟩ = some (.bool false) := by rw [cell_of_block t7.b1]; rfl
    all_goals have x2 : w3.cell? ⟨w.heap.size + 1 + 1, 2, none⟩ = some (.int .i64 0) := by rw [cell_of_block t7.b2]; rfl
    all_goals have r2 : w3.cell? ⟨w.heap.size + 1, 2, none⟩ = some (.int .i64 0) := by rw [cell_of_block t7.b1]; rfl
    all_goals have x3 : w3.cell? ⟨w.heap.size + 1 + 1, 3, none⟩ = some (.string ⟨#[]⟩) := by rw [cell_of_block t7.b2]; rfl
    all_goals have r3 : w3.cell? ⟨w.heap.size + 1, 3, none⟩ = some (.string ⟨#[]⟩) := by rw [cell_of_block t7.b1]; rfl
    all_goals have x4 : w3.cell? ⟨w.heap.size + 1 + 1, 4, none⟩ = some (.slice none 0 0) := by rw [cell_of_block t7.b2]; rfl
    all_goals have r4 : w3.cell? ⟨w.heap.size + 1, 4, none⟩ = some (.slice none 0 0) := by rw [cell_of_block t7.b1]; rfl
    all_goals have x5 : w3.cell? ⟨w.heap.size + 1 + 1, 5, none⟩ = some (.slice none 0 0) := by rw [cell_of_block t7.b2]; rfl
    all_goals have r5 : w3.cell? ⟨w.heap.size + 1, 5, none⟩ = some (.slice none 0 0) := by rw [cell_of_block t7.b1]; rfl
    all_goals have xf : ∀ i, w3.frozen? ⟨w.heap.size + 1 + 1, i, none⟩ = false := frozen_of_block t7.b2
    all_goals have rf : ∀ i, w3.frozen? ⟨w.heap.size + 1, i, none⟩ = false := frozen_of_block t7.b1
    all_goals have hB7 := t7.below
    all_goals clear t7 b3
    all_goals go_wp2_with fail
    all_goals (try simp only [Exit.inBlock, Exit.then])
    all_goals refine bodyPost_ret (v := .agg #[.int .i64 3, .bool false, .int .i64 0, .string t, .slice none 0 0, .slice none 0 0]) (by rw [results_cell1 rfl]; go_simp) rfl ?_
    all_goals exact god_finS (u := V.mk 3 false 0 t [] []) (cs := [.int .i64 3, .bool false, .int .i64 0, .string t, .slice none 0 0, .slice none 0 0]) (below_set12 hB7 (by omega) (by omega) _ _ _ _ _ _ _ _ _ _ _ _ _ _ _ _ _ _ _ _ _ _ _ _) (fun B => lies_S (by constructor <;> omega) (by constructor <;> omega) (by simp only [maxLen]; omega) headed_nil headed_nil (by rw [liesL]; trivial) (by rw [liesM]; trivial)) (gd_str n HP.out)
  · go_enter Tryd.func14, Tryd.ntmps14
    go_wp2_with fail
    all_goals refine (hP'.out _).mono ?_
    all_goals rintro e w3 ⟨t, rfl, hpl, b3⟩
    all_goals have ht := hpl.1
    all_goals have HP : Hid (Pl20 t) := hpl
    all_goals clear hpl
    all_goals have t7 := T0.out.grown (grown_of_below b3) (fun r e => by cases e)
    all_goals have hz := t7.lt
    all_goals have x0 : w3.cell? ⟨w.heap.size + 1 + 1, 0, none⟩ = some (.int .i64 0) := by rw [cell_of_block t7.b2]; rfl
    all_goals have r0 : w3.cell? ⟨w.heap.size + 1, 0, none⟩ = some (.int .i64 0) := by rw [cell_of_block t7.b1]; rfl
    all_goals have x1 : w3.cell? ⟨w.heap.size + 1 + 1, 1, none⟩ = some (.bool false) := by rw [cell_of_block t7.b2]; rfl
    all_goals have r1 : w3.cell? ⟨w.heap.size + 1, 1, none⟩ = some (.bool false) := by rw [cell_of_block t7.b1]; rfl
    all_goals have x2 : w3.cell? ⟨w.heap.size + 1 + 1, 2, none⟩ = some (.int .i64 0) := by rw [cell_of_block t7.b2]; rfl
    all_goals have r2 : w3.cell? ⟨w.heap.size + 1, 2, none⟩ = some (.int .i64 0) := by rw [cell_of_block t7.b1]; rfl
    all_goals have x3 : w3.cell? ⟨w.heap.size + 1 + 1, 3, none⟩ = some (.string ⟨#[]⟩) := by rw [cell_of_block t7.b2]; rfl
    all_goals have r3 : w3.cell? ⟨w.heap.size + 1, 3, none⟩ = some (.string ⟨#[]⟩) := by rw [cell_of_block t7.b1]; rfl
    all_goals have x4 : w3.cell? ⟨w.heap.size + 1 + 1, 4, none⟩ = some (.slice none 0 0) := by rw [cell_of_block t7.b2]; rfl
    all_goals have r4 : w3.cell? ⟨w.heap.size + 1, 4, none⟩ = some (.slice none 0 0) := by rw [cell_of_block t7.b1]; rfl
    all_goals have x5 : w3.cell? ⟨w.heap.size + 1 + 1, 5, none⟩ = some (.slice none 0 0) := by rw [cell_of_block t7.b2]; rfl
    all_goals have r5 : w3.cell? ⟨w.heap.size + 1, 5, none⟩ = some (.slice none 0 0) := by rw [cell_of_block t7.b1]; rfl
    all_goals have xf : ∀ i, w3.frozen? ⟨w.heap.size + 1 + 1, i, none⟩ = false := frozen_of_block t7.b2
    all_goals have rf : ∀ i, w3.frozen? ⟨w.heap.size + 1, i, none⟩ = false := frozen_of_block t7.b1
    all_goals have hB7 := t7.below
    all_goals clear t7 b3
    all_goals go_wp2_with fail
    all_goals (try simp only [Exit.inBlock, Exit.then])
    all_goals refine bodyPost_ret (v := .agg #[.int .i64 3, .bool false, .int .i64 0, .string t, .slice none 0 0, .slice none 0 0]) (by rw [results_cell1 rfl]; go_simp) rfl ?_
    all_goals exact god_finS (u := V.mk 3 false 0 t [] []) (cs := [.int .i64 3, .bool false, .int .i64 0, .string t, .slice none 0 0, .slice none 0 0]) (below_set12 hB7 (by omega) (by omega) _ _ _ _ _ _ _ _ _ _ _ _ _ _ _ _ _ _ _ _ _ _ _ _) (fun B => lies_S (by constructor <;> omega) (by constructor <;> omega) (by simp only [maxLen]; omega) headed_nil headed_nil (by rw [liesL]; trivial) (by rw [liesM]; trivial)) (gd_str n HP.out)
end Go.Proofs.YtljgofmmihmmfaaDoor

/- good: a good value; a list. -/
set_option linter.unusedSimpArgs false
set_option linter.unusedVariables false
namespace Go.Proofs.YtljgofmmihmmfaaDoor
open Go.RowKit Go.Lib

theorem list_finS {w W : World} {B N : Nat} {S : Nat → Prop} {ao : Option Addr} {cap : Nat} {us : List V} (hB : Below w.heap.size w W) (hb : w.heap.size ≤ B) (h : OwnL false W B S (.slice ao us.length cap) (us.map some)) (hs : (Value.slice ao us.length cap = .slice none 0 0 ∧ us = []) ∨ ∃ g c, Value.slice ao us.length cap = .slice (some ⟨g, 0, none⟩) us.length c) (h4 : us.length ≤ 4) (hw : ∀ u ∈ us, Gd N u) :
    GoodPostS (Gd (N + 1)) w (.returned (.agg #[.int .i64 4, .bool false, .int .i64 0, .string ⟨#[]⟩, .slice ao us.length cap, .slice none 0 0])) W := by
  obtain ⟨ao', cap', b, o, e, hh, hl⟩ := OwnL.outN hb h hs
  cases e
  refine god_finS (u := V.mk 4 false 0 ⟨#[]⟩ us []) (cs := [.int .i64 4, .bool false, .int .i64 0, .string ⟨#[]⟩, .slice ao us.length cap, .slice none 0 0]) hB (fun _ => lies_S (by constructor <;> omega) (by constructor <;> omega) (by decide) hh headed_nil hl (by rw [liesM]; trivial)) ?_
  rw [Gd]
  exact ⟨by simp [goodB, plainB, utf_nil, rise_nil, e_nil], by decide, h4, by simp, hw, (fun x hx => by cases hx)⟩

set_option maxHeartbeats 8000000 in
set_option maxRecDepth 100000 in
theorem good_listS (v : V) (lv N : Nat) (cs : List Value) (w : World) (hv : v.lies false w (Old w) cs) (hlv : lv ≤ 3) (hwt : v.wt ≤ 1099511627776) (r : Int) (hr : ∀ k b i s l m, v = V.mk k b i s l m → Int.tmod k 6 = r) (hc : r = 4 ∨ r = -4)
    (ih : ∀ (x : V) (cs : List Value) (W : World), x.lies false W (Old W) cs → x.wt ≤ 1099511627776 → Calls Tryd.prog 14 #[.agg cs.toArray, .int .i64 ((lv : Int) + 1)] W (GoodPostS (Gd N) W)) : Calls Tryd.prog 14 #[.agg cs.toArray, .int .i64 (lv : Int)] w (GoodPostS (Gd (N + 1)) w) := by
  obtain ⟨k, b, i, s, l, m⟩ := v
  have hr := hr k b i s l m rfl
  rw [V.lies] at hv
  obtain ⟨al, cl, bl, ol, am, cm, bm, om, rfl, hk, hi, hs, hal, ham, hl1, hm1, _⟩ := hv
  have HL : Hid (liesL false w (Old w) l bl ol) := hl1
  clear hl1 hm1
  rw [V.wt] at hwt
  have hlm := wtL_len l
  have IH : Hid (∀ (x : V) (cs : List Value) (W : World), x.lies false W (Old W) cs → x.wt ≤ 1099511627776 → Calls Tryd.prog 14 #[.agg cs.toArray, .int .i64 ((lv : Int) + 1)] W (GoodPostS (Gd N) W)) := ih
  clear ih
  obtain ⟨i0, hi0, hz0, hz1, hz2⟩ := info_parts info25
  have hI : Hid (Tryd.prog.info? 25 = some i0 ∧ i0.zero = some (.agg #[.int .i64 0, .bool false, .int .i64 0, .string ⟨#[]⟩, .slice none 0 0, .slice none 0 0]) ∧ i0.size = 6 ∧ i0.bytes = 88) := ⟨hi0, hz0, hz1, hz2⟩
  clear hi0 hz0 hz1 hz2
  have hwr : IntKind.i64.wrap (Int.tmod k 6) = r := by
    rw [hr]
    rcases hc with rfl | rfl <;> rfl
  have hl3 : ¬ (lv : Int) > 3 := by omega
  have T0 : Hid (TwF w #[.int .i64 k, .bool b, .int .i64 i, .string s, .slice al l.length cl, .slice am m.length cm] #[.int .i64 4, .bool false, .int .i64 0, .string ⟨#[]⟩, .slice none 0 0, .slice none 0 0] (((w.alloc (.cells #[.int .i64 k, .bool b, .int .i64 i, .string s, .slice al l.length cl, .slice am m.length cm] 25)).alloc (.cells #[.int .i64 0, .bool false, .int .i64 0, .string ⟨#[]⟩, .slice none 0 0, .slice none 0 0] 25)).alloc (.cells #[.int .i64 4, .bool false, .int .i64 0, .string ⟨#[]⟩, .slice none 0 0, .slice none 0 0] 25))) := ⟨three_below w _ _ _, (three_allocs w _ _ _).1, (three_allocs w _ _ _).2.1, (three_allocs w _ _ _).2.2⟩
  rcases hc with rfl | rfl
  · go_enter Tryd.func14, Tryd.ntmps14
    go_wp2_with fail
    go_loopw [7] (fun e wr => ∃ (j : Nat) (us : List V) (slv : Value) (SL : Nat → Prop), us.length = j ∧ j ≤ 4 ∧ j ≤ l.length ∧ e = .int .i64 (j : Int) ∧ Hid (∀ u ∈ us, Gd N u) ∧ Hid ((slv = .slice none 0 0 ∧ us = []) ∨ ∃ g c, slv = .slice (some ⟨g, 0, none⟩) us.length c) ∧ TwF w #[.int .i64 k, .bool b, .int .i64 i, .string s, .slice al l.length cl, .slice am m.length cm] #[.int .i64 4, .bool false, .int .i64 0, .string ⟨#[]⟩, slv, .slice none 0 0] wr ∧ OwnL false wr (w.heap.size + 3) SL slv (us.map some)) (fun e _ => 4 - (RowKit.intOf e).toNat)
    case atStart => exact ⟨0, [], .slice none 0 0, _, rfl, by omega, by omega, rfl, fun u hu => (by cases hu), Or.inl ⟨rfl, rfl⟩, T0.out, by simpa using OwnR.nil _ _⟩
    case round =>
      clear T0
      obtain ⟨j, us, slv, SL, hus, hj4, hj, rfl, hwu, hsh, tj, oj⟩ := hrel
      have d4 : wr.cell? ⟨w.heap.size, 4, none⟩ = some (.slice al l.length cl) := by rw [cell_of_block tj.b0]; rfl
      by_cases hjl : j < l.length
      · have y1 : (j : Int) < l.length := by omega
        by_cases h4 : j < 4
        · have y2 : (j : Int) < 4 := by omega
          obtain ⟨hSb, csj, hrow, hlj⟩ := liesL_get HL.out j hjl
          obtain rfl : al = some ⟨bl, ol, none⟩ := hal.at_.resolve_left (by omega)
          have hkw : ∀ b, Old w b → wr.heap[b]? = w.heap[b]? := fun b hb => tj.below.block b hb
          have hrow' := hrow.keep (hkw _ hSb)
          have hlj' := V.lies_keep (R' := false) (S' := Old wr) (fun h => h) hkw (fun x h => Nat.lt_of_lt_of_le h tj.below.size) _ hlj
          have hc1 := IH.out l[j] csj wr hlj' (by have := wtL_mem (List.getElem_mem hjl); omega)
          obtain ⟨ek, eb, ei, es, eal, enl, ecl, eam, enm, ecm, rfl⟩ := V.ten hlj
          obtain ⟨q0, q1, q2, q3, q4, q5⟩ := row6 hrow'
          clear hlj hlj' hrow hrow'
          go_wp2_with fail
          refine hc1.mono ?_
          rintro e w3 ⟨u, csu, rfl, hlu, hwu1, b3⟩
          obtain ⟨uk, ub, ui, us', ual, unl, ucl, uam, unm, ucm, rfl⟩ := V.ten hlu
          have t3 := tj.grown (grown_of_below b3) (fun r e => by cases e)
          have o3 := oj.below (keepL false) b3
          have e4 : ∀ o, (w3.alloc o).cell? ⟨w.heap.size + 1 + 1, 4, none⟩ = some slv := fun o => by rw [cell_of_block (t3.grown (World.grownBy_alloc w3 o none) (fun r e => by cases e)).b2]; rfl
          have hw3 : w.heap.size + 3 ≤ w3.heap.size := t3.lt
          have hown : ∀ r, slv.ownBlock = some r → w.heap.size + 3 ≤ r ∧ r < wr.heap.size := fun r hr => oj.lt hr
          have HK : Hid (∀ b, New wr w3 b → w.heap.size + 3 ≤ b ∧ b < w3.heap.size ∧ some b ≠ slv.ownBlock) := fun b hb => ⟨by have := tj.lt; have := hb.1; omega, hb.2, fun e => by have := (hown b e.symm).2; have := hb.1; omega⟩
          have hll : (us.map some).length = us.length := by simp
          go_wp2_with (at_builtin; go_loud (refine wpl_push (keepL false) _ rfl (.tmp 65) (.tmp 67) 22 rfl (w.heap.size + 3) i0 _ 88 Tryd.underlying22 hI.out.1 hI.out.2.1 hI.out.2.2.1 hI.out.2.2.2 rfl (by decide) (by decide) slv (some u) rfl ((o3.alloc (keepL false) _).alloc (keepL false) _) (w3.heap.size + 1) 1 (0, 0) rfl (alloc2_new w3 _ _) rfl one6 (keepL false _ _ _ _ _ _ (fun b hb => alloc2_keep w3 _ _ hb.2) (fun _ h => h) hlu) (fun b hb => alloc2_off (HK.out b hb)) (by rw [hll]; omega) (by rw [alloc_size, alloc_size]; omega) ?_))
          intro g cap' w5 o5 g5 e5

          have t5 := ((t3.grown (World.grownBy_alloc w3 _ none) (fun r e => by cases e)).grown (World.grownBy_alloc _ _ none) (fun r e => by cases e)).grown g5 (fun r e => (hown r e).1)
          have e6 : w5.cell? ⟨w.heap.size + 1 + 1, 4, none⟩ = some slv := by rw [cell_of_block t5.b2]; rfl
          have e7 : w5.frozen? ⟨w.heap.size + 1 + 1, 4, none⟩ = false := frozen_of_block t5.b2 4
          go_wp2_with fail
          go_roundw
          case rel => exact ⟨j + 1, us ++ [u], .slice (some ⟨g, 0, none⟩) (j + 1) cap', _, by simp [hus], by omega, by omega, by go_num, fun x hx => (List.mem_append.1 hx).elim (hwu.out x) (fun h => by rw [List.mem_singleton.1 h]; exact hwu1), Or.inr ⟨g, cap', by simp [hus]⟩, t5.set 4 _ rfl, by rw [List.map_append]; exact o5.set (keepL false) (show w.heap.size + 1 + 1 < w.heap.size + 3 by omega) _ _⟩
          case measure => simp [RowKit.intOf]; omega
        · obtain rfl : j = 4 := by omega
          have y2 : ¬ ((4 : Nat) : Int) < 4 := by omega
          obtain ⟨ao, cap, rfl⟩ : ∃ ao cap, slv = .slice ao us.length cap := by
            rcases hsh.out with ⟨rfl, rfl⟩ | ⟨g, c, rfl⟩
            · exact ⟨_, _, rfl⟩
            · exact ⟨_, _, rfl⟩
          have x0 : wr.cell? ⟨w.heap.size + 1 + 1, 0, none⟩ = some (.int .i64 4) := by rw [cell_of_block tj.b2]; rfl
          have r0 : wr.cell? ⟨w.heap.size + 1, 0, none⟩ = some (.int .i64 0) := by rw [cell_of_block tj.b1]; rfl
          have x1 : wr.cell? ⟨w.heap.size + 1 + 1, 1, none⟩ = some (.bool false) := by rw [cell_of_block tj.b2]; rfl
          have r1 : wr.cell? ⟨w.heap.size + 1, 1, none⟩ = some (.bool false) := by rw [cell_of_block tj.b1]; rfl
          have x2 : wr.cell? ⟨w.heap.size + 1 + 1, 2, none⟩ = some (.int .i64 0) := by rw [cell_of_block tj.b2]; rfl
          have r2 : wr.cell? ⟨w.heap.size + 1, 2, none⟩ = some (.int .i64 0) := by rw [cell_of_block tj.b1]; rfl
          have x3 : wr.cell? ⟨w.heap.size + 1 + 1, 3, none⟩ = some (.string ⟨#[]⟩) := by rw [cell_of_block tj.b2]; rfl
          have r3 : wr.cell? ⟨w.heap.size + 1, 3, none⟩ = some (.string ⟨#[]⟩) := by rw [cell_of_block tj.b1]; rfl
          have x4 : wr.cell? ⟨w.heap.size + 1 + 1, 4, none⟩ = some (.slice ao us.length cap) := by rw [cell_of_block tj.b2]; rfl
          have r4 : wr.cell? ⟨w.heap.size + 1, 4, none⟩ = some (.slice none 0 0) := by rw [cell_of_block tj.b1]; rfl
          have x5 : wr.cell? ⟨w.heap.size + 1 + 1, 5, none⟩ = some (.slice none 0 0) := by rw [cell_of_block tj.b2]; rfl
          have r5 : wr.cell? ⟨w.heap.size + 1, 5, none⟩ = some (.slice none 0 0) := by rw [cell_of_block tj.b1]; rfl
          have rf : ∀ i, wr.frozen? ⟨w.heap.size + 1, i, none⟩ = false := frozen_of_block tj.b1
          have hB7 := tj.below
          have hlt := tj.lt
          have HO : Hid (OwnL false wr (w.heap.size + 3) SL (.slice ao us.length cap) (us.map some)) := oj
          clear oj tj
          go_wp2_with fail
          (try simp only [Exit.inBlock, Exit.then])
          refine bodyPost_ret (v := .agg #[.int .i64 4, .bool false, .int .i64 0, .string ⟨#[]⟩, .slice ao us.length cap, .slice none 0 0]) (by rw [results_cell1 rfl]; go_simp) rfl ?_
          exact list_finS (Below.set6 hB7 (by omega) _ _ _ _ _ _ _ _ _ _ _ _) (by omega) (OwnL.set6 HO.out (by omega) _ _ _ _ _ _ _ _ _ _ _ _) hsh.out (by omega) hwu.out
      · obtain rfl : j = l.length := by omega
        have y1 : ¬ (l.length : Int) < l.length := by omega
        obtain ⟨ao, cap, rfl⟩ : ∃ ao cap, slv = .slice ao us.length cap := by
          rcases hsh.out with ⟨rfl, rfl⟩ | ⟨g, c, rfl⟩
          · exact ⟨_, _, rfl⟩
          · exact ⟨_, _, rfl⟩
        have x0 : wr.cell? ⟨w.heap.size + 1 + 1, 0, none⟩ = some (.int .i64 4) := by rw [cell_of_block tj.b2]; rfl
        have r0 : wr.cell? ⟨w.heap.size + 1, 0, none⟩ = some (.int .i64 0) := by rw [cell_of_block tj.b1]; rfl
        have x1 : wr.cell? ⟨w.heap.size + 1 + 1, 1, none⟩ = some (.bool false) := by rw [cell_of_block tj.b2]; rfl
        have r1 : wr.cell? ⟨w.heap.size + 1, 1, none⟩ = some (.bool false) := by rw [cell_of_block tj.b1]; rfl
        have x2 : wr.cell? ⟨w.heap.size + 1 + 1, 2, none⟩ = some (.int .i64 0) := by rw [cell_of_block tj.b2]; rfl
        have r2 : wr.cell? ⟨w.heap.size + 1, 2, none⟩ = some (.int .i64 0) := by rw [cell_of_block tj.b1]; rfl
        have x3 : wr.cell? ⟨w.heap.size + 1 + 1, 3, none⟩ = some (.string ⟨#[]⟩) := by rw [cell_of_block tj.b2]; rfl
        have r3 : wr.cell? ⟨w.heap.size + 1, 3, none⟩ = some (.string ⟨#[]⟩) := by rw [cell_of_block tj.b1]; rfl
        have x4 : wr.cell? ⟨w.heap.size + 1 + 1, 4, none⟩ = some (.slice ao us.length cap) := by rw [cell_of_block tj.b2]; rfl
        have r4 : wr.cell? ⟨w.heap.size + 1, 4, none⟩ = some (.slice none 0 0) := by rw [cell_of_block tj.b1]; rfl
        have x5 : wr.cell? ⟨w.heap.size + 1 + 1, 5, none⟩ = some (.slice none 0 0) := by rw [cell_of_block tj.b2]; rfl
        have r5 : wr.cell? ⟨w.heap.size + 1, 5, none⟩ = some (.slice none 0 0) := by rw [cell_of_block tj.b1]; rfl
        have rf : ∀ i, wr.frozen? ⟨w.heap.size + 1, i, none⟩ = false := frozen_of_block tj.b1
        have hB7 := tj.below
        have hlt := tj.lt
        have HO : Hid (OwnL false wr (w.heap.size + 3) SL (.slice ao us.length cap) (us.map some)) := oj
        clear oj tj
        go_wp2_with fail
        (try simp only [Exit.inBlock, Exit.then])
        refine bodyPost_ret (v := .agg #[.int .i64 4, .bool false, .int .i64 0, .string ⟨#[]⟩, .slice ao us.length cap, .slice none 0 0]) (by rw [results_cell1 rfl]; go_simp) rfl ?_
        exact list_finS (Below.set6 hB7 (by omega) _ _ _ _ _ _ _ _ _ _ _ _) (by omega) (OwnL.set6 HO.out (by omega) _ _ _ _ _ _ _ _ _ _ _ _) hsh.out (by omega) hwu.out
  · go_enter Tryd.func14, Tryd.ntmps14
    go_wp2_with fail
    go_loopw [7] (fun e wr => ∃ (j : Nat) (us : List V) (slv : Value) (SL : Nat → Prop), us.length = j ∧ j ≤ 4 ∧ j ≤ l.length ∧ e = .int .i64 (j : Int) ∧ Hid (∀ u ∈ us, Gd N u) ∧ Hid ((slv = .slice none 0 0 ∧ us = []) ∨ ∃ g c, slv = .slice (some ⟨g, 0, none⟩) us.length c) ∧ TwF w #[.int .i64 k, .bool b, .int .i64 i, .string s, .slice al l.length cl, .slice am m.length cm] #[.int .i64 4, .bool false, .int .i64 0, .string ⟨#[]⟩, slv, .slice none 0 0] wr ∧ OwnL false wr (w.heap.size + 3) SL slv (us.map some)) (fun e _ => 4 - (RowKit.intOf e).toNat)
    case atStart => exact ⟨0, [], .slice none 0 0, _, rfl, by omega, by omega, rfl, fun u hu => (by cases hu), Or.inl ⟨rfl, rfl⟩, T0.out, by simpa using OwnR.nil _ _⟩
    case round =>
      clear T0
      obtain ⟨j, us, slv, SL, hus, hj4, hj, rfl, hwu, hsh, tj, oj⟩ := hrel
      have d4 : wr.cell? ⟨w.heap.size, 4, none⟩ = some (.slice al l.length cl) := by rw [cell_of_block tj.b0]; rfl
      by_cases hjl : j < l.length
      · have y1 : (j : Int) < l.length := by omega
        by_cases h4 : j < 4
        · have y2 : (j : Int) < 4 := by omega
          obtain ⟨hSb, csj, hrow, hlj⟩ := liesL_get HL.out j hjl
          obtain rfl : al = some ⟨bl, ol, none⟩ := hal.at_.resolve_left (by omega)
          have hkw : ∀ b, Old w b → wr.heap[b]? = w.heap[b]? := fun b hb => tj.below.block b hb
          have hrow' := hrow.keep (hkw _ hSb)
          have hlj' := V.lies_keep (R' := false) (S' := Old wr) (fun h => h) hkw (fun x h => Nat.lt_of_lt_of_le h tj.below.size) _ hlj
          have hc1 := IH.out l[j] csj wr hlj' (by have := wtL_mem (List.getElem_mem hjl); omega)
          obtain ⟨ek, eb, ei, es, eal, enl, ecl, eam, enm, ecm, rfl⟩ := V.ten hlj
          obtain ⟨q0, q1, q2, q3, q4, q5⟩ := row6 hrow'
          clear hlj hlj' hrow hrow'
          go_wp2_with fail
          refine hc1.mono ?_
          rintro e w3 ⟨u, csu, rfl, hlu, hwu1, b3⟩
          obtain ⟨uk, ub, ui, us', ual, unl, ucl, uam, unm, ucm, rfl⟩ := V.ten hlu
          have t3 := tj.grown (grown_of_below b3) (fun r e => by cases e)
          have o3 := oj.below (keepL false) b3
          have e4 : ∀ o, (w3.alloc o).cell? ⟨w.heap.size + 1 + 1, 4, none⟩ = some slv := fun o => by rw [cell_of_block (t3.grown (World.grownBy_alloc w3 o none) (fun r e => by cases e)).b2]; rfl
          have hw3 : w.heap.size + 3 ≤ w3.heap.size := t3.lt
          have hown : ∀ r, slv.ownBlock = some r → w.heap.size + 3 ≤ r ∧ r < wr.heap.size := fun r hr => oj.lt hr
          have HK : Hid (∀ b, New wr w3 b → w.heap.size + 3 ≤ b ∧ b < w3.heap.size ∧ some b ≠ slv.ownBlock) := fun b hb => ⟨by have := tj.lt; have := hb.1; omega, hb.2, fun e => by have := (hown b e.symm).2; have := hb.1; omega⟩
          have hll : (us.map some).length = us.length := by simp
          go_wp2_with (at_builtin; go_loud (refine wpl_push (keepL false) _ rfl (.tmp 65) (.tmp 67) 22 rfl (w.heap.size + 3) i0 _ 88 Tryd.underlying22 hI.out.1 hI.out.2.1 hI.out.2.2.1 hI.out.2.2.2 rfl (by decide) (by decide) slv (some u) rfl ((o3.alloc (keepL false) _).alloc (keepL false) _) (w3.heap.size + 1) 1 (0, 0) rfl (alloc2_new w3 _ _) rfl one6 (keepL false _ _ _ _ _ _ (fun b hb => alloc2_keep w3 _ _ hb.2) (fun _ h => h) hlu) (fun b hb => alloc2_off (HK.out b hb)) (by rw [hll]; omega) (by rw [alloc_size, alloc_size]; omega) ?_))
          intro g cap' w5 o5 g5 e5

          have t5 := ((t3.grown (World.grownBy_alloc w3 _ none) (fun r e => by cases e)).grown (World.grownBy_alloc _ _ none) (fun r e => by cases e)).grown g5 (fun r e => (hown r e).1)
          have e6 : w5.cell? ⟨w.heap.size + 1 + 1, 4, none⟩ = some slv := by rw [cell_of_block t5.b2]; rfl
          have e7 : w5.frozen? ⟨w.heap.size + 1 + 1, 4, none⟩ = false := frozen_of_block t5.b2 4
          go_wp2_with fail
          go_roundw
          case rel => exact ⟨j + 1, us ++ [u], .slice (some ⟨g, 0, none⟩) (j + 1) cap', _, by simp [hus], by omega, by omega, by go_num, fun x hx => (List.mem_append.1 hx).elim (hwu.out x) (fun h => by rw [List.mem_singleton.1 h]; exact hwu1), Or.inr ⟨g, cap', by simp [hus]⟩, t5.set 4 _ rfl, by rw [List.map_append]; exact o5.set (keepL false) (show w.heap.size + 1 + 1 < w.heap.size + 3 by omega) _ _⟩
          case measure => simp [RowKit.intOf]; omega
        · obtain rfl : j = 4 := by omega
          have y2 : ¬ ((4 : Nat) : Int) < 4 := by omega
          obtain ⟨ao, cap, rfl⟩ : ∃ ao cap, slv = .slice ao us.length cap := by
            rcases hsh.out with ⟨rfl, rfl⟩ | ⟨g, c, rfl⟩
            · exact ⟨_, _, rfl⟩
            · exact ⟨_, _, rfl⟩
          have x0 : wr.cell? ⟨w.heap.size + 1 + 1, 0, none⟩ = some (.int .i64 4) := by rw [cell_of_block tj.b2]; rfl
          have r0 : wr.cell? ⟨w.heap.size + 1, 0, none⟩ = some (.int .i64 0) := by rw [cell_of_block tj.b1]; rfl
          have x1 : wr.cell? ⟨w.heap.size + 1 + 1, 1, none⟩ = some (.bool false) := by rw [cell_of_block tj.b2]; rfl
          have r1 : wr.cell? ⟨w.heap.size + 1, 1, none⟩ = some (.bool false) := by rw [cell_of_block tj.b1]; rfl
          have x2 : wr.cell? ⟨w.heap.size + 1 + 1, 2, none⟩ = some (.int .i64 0) := by rw [cell_of_block tj.b2]; rfl
          have r2 : wr.cell? ⟨w.heap.size + 1, 2, none⟩ = some (.int .i64 0) := by rw [cell_of_block tj.b1]; rfl
          have x3 : wr.cell? ⟨w.heap.size + 1 + 1, 3, none⟩ = some (.string ⟨#[]⟩) := by rw [cell_of_block tj.b2]; rfl
          have r3 : wr.cell? ⟨w.heap.size + 1, 3, none⟩ = some (.string ⟨#[]⟩) := by rw [cell_of_block tj.b1]; rfl
          have x4 : wr.cell? ⟨w.heap.size + 1 + 1, 4, none⟩ = some (.slice ao us.length cap) := by rw [cell_of_block tj.b2]; rfl
          have r4 : wr.cell? ⟨w.heap.size + 1, 4, none⟩ = some (.slice none 0 0) := by rw [cell_of_block tj.b1]; rfl
          have x5 : wr.cell? ⟨w.heap.size + 1 + 1, 5, none⟩ = some (.slice none 0 0) := by rw [cell_of_block tj.b2]; rfl
          have r5 : wr.cell? ⟨w.heap.size + 1, 5, none⟩ = some (.slice none 0 0) := by rw [cell_of_block tj.b1]; rfl
          have rf : ∀ i, wr.frozen? ⟨w.heap.size + 1, i, none⟩ = false := frozen_of_block tj.b1
          have hB7 := tj.below
          have hlt := tj.lt
          have HO : Hid (OwnL false wr (w.heap.size + 3) SL (.slice ao us.length cap) (us.map some)) := oj
          clear oj tj
          go_wp2_with fail
          (try simp only [Exit.inBlock, Exit.then])
          refine bodyPost_ret (v := .agg #[.int .i64 4, .bool false, .int .i64 0, .string ⟨#[]⟩, .slice ao us.length cap, .slice none 0 0]) (by rw [results_cell1 rfl]; go_simp) rfl ?_
          exact list_finS (Below.set6 hB7 (by omega) _ _ _ _ _ _ _ _ _ _ _ _) (by omega) (OwnL.set6 HO.out (by omega) _ _ _ _ _ _ _ _ _ _ _ _) hsh.out (by omega) hwu.out
      · obtain rfl : j = l.length := by omega
        have y1 : ¬ (l.length : Int) < l.length := by omega
        obtain ⟨ao, cap, rfl⟩ : ∃ ao cap, slv = .slice ao us.length cap := by
          rcases hsh.out with ⟨rfl, rfl⟩ | ⟨g, c, rfl⟩
          · exact ⟨_, _, rfl⟩
          · exact ⟨_, _, rfl⟩
        have x0 : wr.cell? ⟨w.heap.size + 1 + 1, 0, none⟩ = some (.int .i64 4) := by rw [cell_of_block tj.b2]; rfl
        have r0 : wr.cell? ⟨w.heap.size + 1, 0, none⟩ = some (.int .i64 0) := by rw [cell_of_block tj.b1]; rfl
        have x1 : wr.cell? ⟨w.heap.size + 1 + 1, 1, none⟩ = some (.bool false) := by rw [cell_of_block tj.b2]; rfl
        have r1 : wr.cell? ⟨w.heap.size + 1, 1, none⟩ = some (.bool false) := by rw [cell_of_block tj.b1]; rfl
        have x2 : wr.cell? ⟨w.heap.size + 1 + 1, 2, none⟩ = some (.int .i64 0) := by rw [cell_of_block tj.b2]; rfl
        have r2 : wr.cell? ⟨w.heap.size + 1, 2, none⟩ = some (.int .i64 0) := by rw [cell_of_block tj.b1]; rfl
        have x3 : wr.cell? ⟨w.heap.size + 1 + 1, 3, none⟩ = some (.string ⟨#[]⟩) := by rw [cell_of_block tj.b2]; rfl
        have r3 : wr.cell? ⟨w.heap.size + 1, 3, none⟩ = some (.string ⟨#[]⟩) := by rw [cell_of_block tj.b1]; rfl
        have x4 : wr.cell? ⟨w.heap.size + 1 + 1, 4, none⟩ = some (.slice ao us.length cap) := by rw [cell_of_block tj.b2]; rfl
        have r4 : wr.cell? ⟨w.heap.size + 1, 4, none⟩ = some (.slice none 0 0) := by rw [cell_of_block tj.b1]; rfl
        have x5 : wr.cell? ⟨w.heap.size + 1 + 1, 5, none⟩ = some (.slice none 0 0) := by rw [cell_of_block tj.b2]; rfl
        have r5 : wr.cell? ⟨w.heap.size + 1, 5, none⟩ = some (.slice none 0 0) := by rw [cell_of_block tj.b1]; rfl
        have rf : ∀ i, wr.frozen? ⟨w.heap.size + 1, i, none⟩ = false := frozen_of_block tj.b1
        have hB7 := tj.below
        have hlt := tj.lt
        have HO : Hid (OwnL false wr (w.heap.size + 3) SL (.slice ao us.length cap) (us.map some)) := oj
        clear oj tj
        go_wp2_with fail
        (try simp only [Exit.inBlock, Exit.then])
        refine bodyPost_ret (v := .agg #[.int .i64 4, .bool false, .int .i64 0, .string ⟨#[]⟩, .slice ao us.length cap, .slice none 0 0]) (by rw [results_cell1 rfl]; go_simp) rfl ?_
        exact list_finS (Below.set6 hB7 (by omega) _ _ _ _ _ _ _ _ _ _ _ _) (by omega) (OwnL.set6 HO.out (by omega) _ _ _ _ _ _ _ _ _ _ _ _) hsh.out (by omega) hwu.out
end Go.Proofs.YtljgofmmihmmfaaDoor

/- good: a good value; a map. -/
set_option linter.unusedSimpArgs false
set_option linter.unusedVariables false
namespace Go.Proofs.YtljgofmmihmmfaaDoor
open Go.RowKit Go.Lib

theorem map_finS {w W : World} {B N : Nat} {ao : Option Addr} {cap b o : Nat} {ms : List Mem} (hB : Below w.heap.size w W) (hb : w.heap.size ≤ B) (hh : Headed ao ms.length cap b o) (hl : liesM false W (From B W) ms b o) (h4 : ms.length ≤ 4) (hs : Srt ms) (hw : ∀ y ∈ ms, Pl20 y.1 ∧ Gd N y.2) :
    GoodPostS (Gd (N + 1)) w (.returned (.agg #[.int .i64 5, .bool false, .int .i64 0, .string ⟨#[]⟩, .slice none 0 0, .slice ao ms.length cap])) W := by
  refine god_finS (u := V.mk 5 false 0 ⟨#[]⟩ [] ms) (cs := [.int .i64 5, .bool false, .int .i64 0, .string ⟨#[]⟩, .slice none 0 0, .slice ao ms.length cap]) hB (fun _ => lies_S (by constructor <;> omega) (by constructor <;> omega) (by decide) headed_nil hh (by rw [liesL]; trivial) (liesM_keep (fun h => h) (fun _ _ => rfl) (fun x hx => ⟨Nat.le_trans hb hx.1, hx.2⟩) _ hl)) ?_
  rw [Gd]
  exact ⟨by simp [goodB, plainB, utf_nil, rise_srt hs (fun y hy => (hw y hy).1), e_nil], by decide, by simp, h4, (fun x hx => by cases hx), fun y hy => ⟨(hw y hy).1.1, (hw y hy).2⟩⟩
theorem map_okS {ms ms' : List Mem} {x : Mem} {j : Nat} (h : Srt ms ∧ ms.length ≤ j) (he : putF ms x = ms') : Srt ms' ∧ ms'.length ≤ j + 1 := by
  subst he
  have := putF_srt (x := x) h.1
  exact ⟨this.1, by omega⟩
theorem map_wtsS {ms ms' : List Mem} {x : Mem} {N : Nat} (h : ∀ y ∈ ms, Pl20 y.1 ∧ Gd N y.2) (hx : Pl20 x.1 ∧ Gd N x.2) (he : putF ms x = ms') : ∀ y ∈ ms', Pl20 y.1 ∧ Gd N y.2 := fun y hy => by
  subst he
  rcases putF_mem y hy with h1 | rfl
  · exact h y h1
  · exact hx

set_option maxHeartbeats 8000000 in
set_option maxRecDepth 100000 in
theorem good_mapS (v : V) (lv N : Nat) (cs : List Value) (w : World) (hv : v.lies false w (Old w) cs) (hlv : lv ≤ 3) (hwt : v.wt ≤ 1099511627776) (r : Int) (hr : ∀ k b i s l m, v = V.mk k b i s l m → Int.tmod k 6 = r) (hc : r = 5 ∨ r = -5)
    (ih : ∀ (x : V) (cs : List Value) (W : World), x.lies false W (Old W) cs → x.wt ≤ 1099511627776 → Calls Tryd.prog 14 #[.agg cs.toArray, .int .i64 ((lv : Int) + 1)] W (GoodPostS (Gd N) W)) : Calls Tryd.prog 14 #[.agg cs.toArray, .int .i64 (lv : Int)] w (GoodPostS (Gd (N + 1)) w) := by
  obtain ⟨k, b, i, s, l, m⟩ := v
  have hr := hr k b i s l m rfl
  rw [V.lies] at hv
  obtain ⟨al, cl, bl, ol, am, cm, bm, om, rfl, hk, hi, hs, hal, ham, hl1, hm1, _⟩ := hv
  have HM : Hid (liesM false w (Old w) m bm om) := hm1
  clear hl1 hm1
  rw [V.wt] at hwt
  have hlm := wtM_len m
  have IH : Hid (∀ (x : V) (cs : List Value) (W : World), x.lies false W (Old W) cs → x.wt ≤ 1099511627776 → Calls Tryd.prog 14 #[.agg cs.toArray, .int .i64 ((lv : Int) + 1)] W (GoodPostS (Gd N) W)) := ih
  clear ih
  have hwr : IntKind.i64.wrap (Int.tmod k 6) = r := by
    rw [hr]
    rcases hc with rfl | rfl <;> rfl
  have hl3 : ¬ (lv : Int) > 3 := by omega
  have T0 : Hid (TwF w #[.int .i64 k, .bool b, .int .i64 i, .string s, .slice al l.length cl, .slice am m.length cm] #[.int .i64 5, .bool false, .int .i64 0, .string ⟨#[]⟩, .slice none 0 0, .slice none 0 0] (((w.alloc (.cells #[.int .i64 k, .bool b, .int .i64 i, .string s, .slice al l.length cl, .slice am m.length cm] 25)).alloc (.cells #[.int .i64 0, .bool false, .int .i64 0, .string ⟨#[]⟩, .slice none 0 0, .slice none 0 0] 25)).alloc (.cells #[.int .i64 5, .bool false, .int .i64 0, .string ⟨#[]⟩, .slice none 0 0, .slice none 0 0] 25))) := ⟨three_below w _ _ _, (three_allocs w _ _ _).1, (three_allocs w _ _ _).2.1, (three_allocs w _ _ _).2.2⟩
  rcases hc with rfl | rfl
  · go_enter Tryd.func14, Tryd.ntmps14
    go_wp2_with fail
    go_loopw [9] (fun e wr => ∃ (j : Nat) (ms : List Mem) (slv : Value), Hid (Srt ms ∧ ms.length ≤ j) ∧ j ≤ 4 ∧ j ≤ m.length ∧ e = .int .i64 (j : Int) ∧ Hid (∀ y ∈ ms, Pl20 y.1 ∧ Gd N y.2) ∧ Hid (∃ ao cap bo oo, slv = .slice ao ms.length cap ∧ Headed ao ms.length cap bo oo ∧ liesM false wr (From (w.heap.size + 3) wr) ms bo oo) ∧ TwF w #[.int .i64 k, .bool b, .int .i64 i, .string s, .slice al l.length cl, .slice am m.length cm] #[.int .i64 5, .bool false, .int .i64 0, .string ⟨#[]⟩, .slice none 0 0, slv] wr) (fun e _ => 4 - (RowKit.intOf e).toNat)
    case atStart => exact ⟨0, [], .slice none 0 0, ⟨List.Pairwise.nil, by simp⟩, by omega, by omega, rfl, fun u hu => (by cases hu), ⟨none, 0, 0, 0, rfl, headed_nil, by rw [liesM]; trivial⟩, T0.out⟩
    case round =>
      clear T0
      obtain ⟨j, ms, slv, hml0, hj4, hj, rfl, hwu, hsh, tj⟩ := hrel
      have hml : Hid (ms.length ≤ 4) := by
        show _ ≤ _
        have h1 := hml0.out.2
        omega
      have d5 : wr.cell? ⟨w.heap.size, 5, none⟩ = some (.slice am m.length cm) := by rw [cell_of_block tj.b0]; rfl
      by_cases hjl : j < m.length
      · have y1 : (j : Int) < m.length := by omega
        by_cases h4 : j < 4
        · have y2 : (j : Int) < 4 := by omega
          obtain ⟨hSb, hkz, csj, hrow, hlj⟩ := liesM_get HM.out j hjl
          have hwm := wtM_mem (List.getElem_mem hjl)
          generalize m[j] = mj at *
          obtain ⟨key, xv⟩ := mj
          simp only at hkz hrow hlj hwm
          obtain rfl : am = some ⟨bm, om, none⟩ := ham.at_.resolve_left (by omega)
          have hkw : ∀ b, Old w b → wr.heap[b]? = w.heap[b]? := fun b hb => tj.below.block b hb
          have hrow' := hrow.keep (hkw _ hSb)
          have hlj' := V.lies_keep (R' := false) (S' := Old wr) (fun h => h) hkw (fun x h => Nat.lt_of_lt_of_le h tj.below.size) _ hlj
          have hc1 := IH.out xv csj wr hlj' (by omega)
          obtain ⟨ek, eb, ei, es, eal, enl, ecl, eam, enm, ecm, rfl⟩ := V.ten hlj
          obtain ⟨q, q0, q1, q2, q3, q4, q5⟩ := row7 hrow'
          clear hlj hlj' hrow hrow'
          go_wp2_with fail
          refine hc1.mono ?_
          rintro e w3 ⟨u, csu, rfl, hlu, hwu1, b3⟩
          obtain ⟨uk, ub, ui, us, ual, unl, ucl, uam, unm, ucm, rfl⟩ := V.ten hlu
          go_wp2_with fail
          have hlt := tj.lt
          have hzb := b3.size
          have hz := alloc_size w3 (.cells #[.int .i64 uk, .bool ub, .int .i64 ui, .string us, .slice ual unl ucl, .slice uam unm ucm] 25)
          have BW : Below wr.heap.size wr (w3.alloc (.cells #[.int .i64 uk, .bool ub, .int .i64 ui, .string us, .slice ual unl ucl, .slice uam unm ucm] 25)) := b3.alloc hzb _
          have T4 := (tj.grown (grown_of_below b3) (fun r e => by cases e)).grown (World.grownBy_alloc w3 (.cells #[.int .i64 uk, .bool ub, .int .i64 ui, .string us, .slice ual unl ucl, .slice uam unm ucm] 25) none) (fun r e => by cases e)
          have x0 : (w3.alloc (.cells #[.int .i64 uk, .bool ub, .int .i64 ui, .string us, .slice ual unl ucl, .slice uam unm ucm] 25)).cell? ⟨w3.heap.size, 0, none⟩ = some (.int .i64 uk) := by rw [cell_of_block (heap_alloc_new w3 _)]; rfl
          have x1 : (w3.alloc (.cells #[.int .i64 uk, .bool ub, .int .i64 ui, .string us, .slice ual unl ucl, .slice uam unm ucm] 25)).cell? ⟨w3.heap.size, 1, none⟩ = some (.bool ub) := by rw [cell_of_block (heap_alloc_new w3 _)]; rfl
          have x2 : (w3.alloc (.cells #[.int .i64 uk, .bool ub, .int .i64 ui, .string us, .slice ual unl ucl, .slice uam unm ucm] 25)).cell? ⟨w3.heap.size, 2, none⟩ = some (.int .i64 ui) := by rw [cell_of_block (heap_alloc_new w3 _)]; rfl
          have x3 : (w3.alloc (.cells #[.int .i64 uk, .bool ub, .int .i64 ui, .string us, .slice ual unl ucl, .slice uam unm ucm] 25)).cell? ⟨w3.heap.size, 3, none⟩ = some (.string us) := by rw [cell_of_block (heap_alloc_new w3 _)]; rfl
          have x4 : (w3.alloc (.cells #[.int .i64 uk, .bool ub, .int .i64 ui, .string us, .slice ual unl ucl, .slice uam unm ucm] 25)).cell? ⟨w3.heap.size, 4, none⟩ = some (.slice ual unl ucl) := by rw [cell_of_block (heap_alloc_new w3 _)]; rfl
          have x5 : (w3.alloc (.cells #[.int .i64 uk, .bool ub, .int .i64 ui, .string us, .slice ual unl ucl, .slice uam unm ucm] 25)).cell? ⟨w3.heap.size, 5, none⟩ = some (.slice uam unm ucm) := by rw [cell_of_block (heap_alloc_new w3 _)]; rfl
          have hlu' : u.lies false (w3.alloc (.cells #[.int .i64 uk, .bool ub, .int .i64 ui, .string us, .slice ual unl ucl, .slice uam unm ucm] 25)) (From (w.heap.size + 3) (w3.alloc (.cells #[.int .i64 uk, .bool ub, .int .i64 ui, .string us, .slice ual unl ucl, .slice uam unm ucm] 25))) [.int .i64 uk, .bool ub, .int .i64 ui, .string us, .slice ual unl ucl, .slice uam unm ucm] := V.lies_keep (fun h => h) (fun x hx => alloc_keep w3 _ hx.2) (fun x hx => ⟨by have := hx.1; omega, by have := hx.2; omega⟩) _ hlu
          have hbm : bm < w.heap.size := hSb
          have qk : (w3.alloc (.cells #[.int .i64 uk, .bool ub, .int .i64 ui, .string us, .slice ual unl ucl, .slice uam unm ucm] 25)).cell? ⟨bm, om + j * 7, none⟩ = some (.string key) := (BW.cell (p := ⟨bm, om + j * 7, none⟩) (by show bm < _; omega)).trans q
          replace d5 : (w3.alloc (.cells #[.int .i64 uk, .bool ub, .int .i64 ui, .string us, .slice ual unl ucl, .slice uam unm ucm] 25)).cell? ⟨w.heap.size, 5, none⟩ = some (.slice (some ⟨bm, om, none⟩) m.length cm) := by rw [cell_of_block T4.b0]; rfl
          have e5 : (w3.alloc (.cells #[.int .i64 uk, .bool ub, .int .i64 ui, .string us, .slice ual unl ucl, .slice uam unm ucm] 25)).cell? ⟨w.heap.size + 1 + 1, 5, none⟩ = some slv := by rw [cell_of_block T4.b2]; rfl
          obtain ⟨ao, cap, bo, oo, hsl, hh, hl⟩ := hsh.out
          have hl4 : liesM false (w3.alloc (.cells #[.int .i64 uk, .bool ub, .int .i64 ui, .string us, .slice ual unl ucl, .slice uam unm ucm] 25)) (From (w.heap.size + 3) (w3.alloc (.cells #[.int .i64 uk, .bool ub, .int .i64 ui, .string us, .slice ual unl ucl, .slice uam unm ucm] 25))) ms bo oo := liesM_keep (fun h => h) (fun x hx => BW.block x hx.2) (fun x hx => ⟨hx.1, by have := hx.2; omega⟩) _ hl
          clear hl q q0 q1 q2 q3 q4 q5 hsh hlu hkw hc1
          generalize (w3.alloc (.cells #[.int .i64 uk, .bool ub, .int .i64 ui, .string us, .slice ual unl ucl, .slice uam unm ucm] 25)) = wa at *
          have hz1 : w.heap.size < wa.heap.size := by omega
          have hz2 : bm < wa.heap.size := by omega
          have hz3 : w3.heap.size < wa.heap.size := by omega
          have hn1 : w.heap.size ≠ w.heap.size + 1 + 1 := by omega
          have hn2 : bm ≠ w.heap.size + 1 + 1 := by omega
          have hn3 : w3.heap.size ≠ w.heap.size + 1 + 1 := by omega
          have BD : Hid (Below wa.heap.size wa wa.drew) := (Below.refl _ _).drew
          have KP : Hid (∀ W', Below wa.heap.size wa W' → W'.cell? ⟨w.heap.size, 5, none⟩ = some (.slice (some ⟨bm, om, none⟩) m.length cm) ∧ W'.cell? ⟨bm, om + j * 7, none⟩ = some (.string key) ∧ W'.cell? ⟨w3.heap.size, 0, none⟩ = some (.int .i64 uk) ∧ W'.cell? ⟨w3.heap.size, 1, none⟩ = some (.bool ub) ∧ W'.cell? ⟨w3.heap.size, 2, none⟩ = some (.int .i64 ui) ∧ W'.cell? ⟨w3.heap.size, 3, none⟩ = some (.string us) ∧ W'.cell? ⟨w3.heap.size, 4, none⟩ = some (.slice ual unl ucl) ∧ W'.cell? ⟨w3.heap.size, 5, none⟩ = some (.slice uam unm ucm)) := fun W' hb => ⟨(hb.cell (p := ⟨w.heap.size, 5, none⟩) hz1).trans d5, (hb.cell (p := ⟨bm, om + j * 7, none⟩) hz2).trans qk, (hb.cell (p := ⟨w3.heap.size, 0, none⟩) hz3).trans x0, (hb.cell (p := ⟨w3.heap.size, 1, none⟩) hz3).trans x1, (hb.cell (p := ⟨w3.heap.size, 2, none⟩) hz3).trans x2, (hb.cell (p := ⟨w3.heap.size, 3, none⟩) hz3).trans x3, (hb.cell (p := ⟨w3.heap.size, 4, none⟩) hz3).trans x4, (hb.cell (p := ⟨w3.heap.size, 5, none⟩) hz3).trans x5⟩
          have KS : Hid (∀ W0 v, Below wa.heap.size wa W0 → (W0.setCell ⟨w.heap.size + 1 + 1, 5, none⟩ v).cell? ⟨w.heap.size, 5, none⟩ = some (.slice (some ⟨bm, om, none⟩) m.length cm) ∧ (W0.setCell ⟨w.heap.size + 1 + 1, 5, none⟩ v).cell? ⟨bm, om + j * 7, none⟩ = some (.string key) ∧ (W0.setCell ⟨w.heap.size + 1 + 1, 5, none⟩ v).cell? ⟨w3.heap.size, 0, none⟩ = some (.int .i64 uk) ∧ (W0.setCell ⟨w.heap.size + 1 + 1, 5, none⟩ v).cell? ⟨w3.heap.size, 1, none⟩ = some (.bool ub) ∧ (W0.setCell ⟨w.heap.size + 1 + 1, 5, none⟩ v).cell? ⟨w3.heap.size, 2, none⟩ = some (.int .i64 ui) ∧ (W0.setCell ⟨w.heap.size + 1 + 1, 5, none⟩ v).cell? ⟨w3.heap.size, 3, none⟩ = some (.string us) ∧ (W0.setCell ⟨w.heap.size + 1 + 1, 5, none⟩ v).cell? ⟨w3.heap.size, 4, none⟩ = some (.slice ual unl ucl) ∧ (W0.setCell ⟨w.heap.size + 1 + 1, 5, none⟩ v).cell? ⟨w3.heap.size, 5, none⟩ = some (.slice uam unm ucm)) := fun W0 v hb => ⟨(cell_set_ne hn1 _).trans ((hb.cell (p := ⟨w.heap.size, 5, none⟩) hz1).trans d5), (cell_set_ne hn2 _).trans ((hb.cell (p := ⟨bm, om + j * 7, none⟩) hz2).trans qk), (cell_set_ne hn3 _).trans ((hb.cell (p := ⟨w3.heap.size, 0, none⟩) hz3).trans x0), (cell_set_ne hn3 _).trans ((hb.cell (p := ⟨w3.heap.size, 1, none⟩) hz3).trans x1), (cell_set_ne hn3 _).trans ((hb.cell (p := ⟨w3.heap.size, 2, none⟩) hz3).trans x2), (cell_set_ne hn3 _).trans ((hb.cell (p := ⟨w3.heap.size, 3, none⟩) hz3).trans x3), (cell_set_ne hn3 _).trans ((hb.cell (p := ⟨w3.heap.size, 4, none⟩) hz3).trans x4), (cell_set_ne hn3 _).trans ((hb.cell (p := ⟨w3.heap.size, 5, none⟩) hz3).trans x5)⟩
          have PC : Hid (∀ W', Below wa.heap.size wa W' → ∀ t : ByteArray, Pl20 t → Calls Tryd.prog 48 #[slv, .agg #[.string t, .int .i64 uk, .bool ub, .int .i64 ui, .string us, .slice ual unl ucl, .slice uam unm ucm]] W' (PutPostS (From (w.heap.size + 3) wa) ms (t, u) W')) := fun W' hb t ht => by
            have hbs := hb.size
            rw [hsl]
            exact put_srt ms ao cap bo oo t u [.int .i64 uk, .bool ub, .int .i64 ui, .string us, .slice ual unl ucl, .slice uam unm ucm] W' _ (fun x hx => by have := hx.2; omega) hh (liesM_keep (fun h => h) (fun x hx => hb.block x hx.2) (fun _ h => h) _ hl4) (V.lies_keep (fun h => h) (fun x hx => hb.block x hx.2) (fun _ h => h) _ hlu') (Nat.le_trans ht.1 (by decide)) (by have := hml.out; omega)
          have LC : Hid (Calls Tryd.prog 28 #[.string key] wa.drew (PlPostS wa.drew)) := lplain_asc key wa.drew (by omega)
          have HT : Hid (∀ W', Below wa.heap.size wa W' → TwF w #[.int .i64 k, .bool b, .int .i64 i, .string s, .slice al l.length cl, .slice (some ⟨bm, om, none⟩) m.length cm] #[.int .i64 5, .bool false, .int .i64 0, .string ⟨#[]⟩, .slice none 0 0, slv] W') := fun W' hb => T4.grown (grown_of_below hb) (fun r e => by cases e)
          have hB3 : w.heap.size + 3 ≤ wa.heap.size := by omega
          clear x0 x1 x2 x3 x4 x5 qk d5 hl4 hlu' hh hsl T4 tj BW b3
          refine wp_region_held_drew (S := fun W' => W'.cell? ⟨w.heap.size, 5, none⟩ = some (.slice (some ⟨bm, om, none⟩) m.length cm) ∧ W'.cell? ⟨bm, om + j * 7, none⟩ = some (.string key) ∧ W'.cell? ⟨w3.heap.size, 0, none⟩ = some (.int .i64 uk) ∧ W'.cell? ⟨w3.heap.size, 1, none⟩ = some (.bool ub) ∧ W'.cell? ⟨w3.heap.size, 2, none⟩ = some (.int .i64 ui) ∧ W'.cell? ⟨w3.heap.size, 3, none⟩ = some (.string us) ∧ W'.cell? ⟨w3.heap.size, 4, none⟩ = some (.slice ual unl ucl) ∧ W'.cell? ⟨w3.heap.size, 5, none⟩ = some (.slice uam unm ucm)) (by kernel_rfl) (KP.out _ BD.out) (fun hHeld => ?_)
          (refine wpAnyH_take (i := 0) (v := ?_) rfl (by kernel_rfl) (by kernel_rfl) (by kernel_rfl) (fun _ _ _ h => h) (Or.inl ⟨by rfl, ?_⟩) (by assumption) ?_; rotate_left 1; (intro W0 hSw; (try dsimp only at hSw); go_simp; (try with_reducible rfl)); (try simp only [Act.put, List.setIfInBounds_toArray, List.set_cons_zero, List.set_cons_succ]))
          (refine wpAnyH_take (i := 2) (v := ?_) rfl (by kernel_rfl) (by kernel_rfl) (by kernel_rfl) (fun _ _ _ h => h) (Or.inl ⟨by rfl, ?_⟩) (by assumption) ?_; rotate_left 1; (intro W0 hSw; (try dsimp only at hSw); go_simp; (try with_reducible rfl)); (try simp only [Act.put, List.setIfInBounds_toArray, List.set_cons_zero, List.set_cons_succ]))
          (refine wpAnyH_take (i := 3) (v := ?_) rfl (by kernel_rfl) (by kernel_rfl) (by kernel_rfl) (fun _ _ _ h => h) (Or.inl ⟨by rfl, ?_⟩) (by assumption) ?_; rotate_left 1; (intro W0 hSw; (try dsimp only at hSw); go_simp; (try with_reducible rfl)); (try simp only [Act.put, List.setIfInBounds_toArray, List.set_cons_zero, List.set_cons_succ]))
          (refine wpAnyH_take (i := 4) (v := ?_) rfl (by kernel_rfl) (by kernel_rfl) (by kernel_rfl) (fun _ _ _ h => h) (Or.inl ⟨by rfl, ?_⟩) (by assumption) ?_; rotate_left 1; (intro W0 hSw; (try dsimp only at hSw); go_simp; (try with_reducible rfl)); (try simp only [Act.put, List.setIfInBounds_toArray, List.set_cons_zero, List.set_cons_succ]))
          (refine wpAnyH_take (i := 5) (v := ?_) rfl (by kernel_rfl) (by kernel_rfl) (by kernel_rfl) (fun _ _ _ h => h) (Or.inl ⟨by rfl, ?_⟩) (by assumption) ?_; rotate_left 1; (intro W0 hSw; (try dsimp only at hSw); go_simp; (try with_reducible rfl)); (try simp only [Act.put, List.setIfInBounds_toArray, List.set_cons_zero, List.set_cons_succ]))
          (refine wpAnyH_take (i := 6) (v := ?_) rfl (by kernel_rfl) (by kernel_rfl) (by kernel_rfl) (fun _ _ _ h => h) (Or.inl ⟨by rfl, ?_⟩) (by assumption) ?_; rotate_left 1; (intro W0 hSw; (try dsimp only at hSw); go_simp; (try with_reducible rfl)); (try simp only [Act.put, List.setIfInBounds_toArray, List.set_cons_zero, List.set_cons_succ]))
          (refine wpAnyH_take (i := 7) (v := ?_) rfl (by kernel_rfl) (by kernel_rfl) (by kernel_rfl) (fun _ _ _ h => h) (Or.inl ⟨by rfl, ?_⟩) (by assumption) ?_; rotate_left 1; (intro W0 hSw; (try dsimp only at hSw); go_simp; (try with_reducible rfl)); (try simp only [Act.put, List.setIfInBounds_toArray, List.set_cons_zero, List.set_cons_succ]))
          (refine wpAnyH_take (i := 9) (v := ?_) rfl (by kernel_rfl) (by kernel_rfl) (by kernel_rfl) (fun _ _ _ h => h) (Or.inl ⟨by rfl, ?_⟩) (by assumption) ?_; rotate_left 1; (intro W0 hSw; (try dsimp only at hSw); go_simp; (try with_reducible rfl)); (try simp only [Act.put, List.setIfInBounds_toArray, List.set_cons_zero, List.set_cons_succ]))
          refine wpAnyH_ready (rs := [1, 8]) (by kernel_rfl) (by simp) ?_
          refine AllReadyH.cons rfl (fun K hK => ?_) ?_
          · go_simp
            refine hK.out _ _ (KP.out _ BD.out) (fun hHeld => ?_)
            clear hK K
            (try simp only [Act.put, List.setIfInBounds_toArray, List.set_cons_zero, List.set_cons_succ])
            refine wpAnyH_ready (rs := [8]) (by kernel_rfl) (by simp) ?_
            refine AllReadyH.cons rfl (fun K hK => ?_) AllReadyH.nil
            go_simp
            refine LC.out.mono ?_
            rintro e w5 ⟨t, rfl, ht20, b5⟩
            have HT2 : Hid (Pl20 t) := ht20
            clear ht20
            have bw5 : Hid (Below wa.heap.size wa w5) := BD.out.trans b5
            have e6 : w5.cell? ⟨w.heap.size + 1 + 1, 5, none⟩ = some slv := (by rw [cell_of_block (HT.out w5 bw5.out).b2]; rfl)
            clear b5
            go_wp2_with fail
            refine hK.out _ _ (KP.out _ bw5.out) (fun hHeld => ?_)
            clear hK K
            (try simp only [Act.put, List.setIfInBounds_toArray, List.set_cons_zero, List.set_cons_succ])
            (refine wpAnyH_take (i := 10) (v := ?_) rfl (by kernel_rfl) (by kernel_rfl) (by kernel_rfl) (fun _ _ _ h => h) (Or.inl ⟨by rfl, ?_⟩) (by assumption) ?_; rotate_left 1; (intro W0 hSw; (try dsimp only at hSw); go_simp; (try with_reducible rfl)); (try simp only [Act.put, List.setIfInBounds_toArray, List.set_cons_zero, List.set_cons_succ]))
            refine wpAnyH_ready (rs := [11]) (by kernel_rfl) (by simp) ?_
            refine AllReadyH.cons rfl (fun K hK => ?_) AllReadyH.nil
            go_simp
            refine (PC.out w5 bw5.out t HT2.out).mono ?_
            rintro e w6 ⟨ao', cap', b', o', rfl, hh', hl', b6⟩
            have bw6 : Hid (Below wa.heap.size wa w6) := bw5.out.trans (b6.mono bw5.out.size)
            have f6 : w6.cell? ⟨w.heap.size + 1 + 1, 5, none⟩ = some slv := (by rw [cell_of_block (HT.out w6 bw6.out).b2]; rfl)
            have g6 : w6.frozen? ⟨w.heap.size + 1 + 1, 5, none⟩ = false := frozen_of_block (HT.out w6 bw6.out).b2 5
            have s6 : Hid (w5.heap.size ≤ w6.heap.size) := b6.size
            generalize hms' : putF ms (t, u) = ms' at *
            have hE : Hid (putF ms (t, u) = ms') := hms'
            have hL : Hid _ := hl'
            have hH : Hid _ := hh'
            clear b6 hl' hh' hms'
            go_wp2_with fail
            refine hK.out _ _ (KP.out _ bw6.out) (fun hHeld => ?_)
            clear hK K
            (try simp only [Act.put, List.setIfInBounds_toArray, List.set_cons_zero, List.set_cons_succ])
            (refine wpAnyH_take (i := 12) (v := ?_) rfl (by kernel_rfl) (by kernel_rfl) (by kernel_rfl) (fun _ _ _ h => h) (Or.inl ⟨by rfl, ?_⟩) (by assumption) ?_; rotate_left 1; (intro W0 hSw; (try dsimp only at hSw); go_simp; (try with_reducible rfl)); (try simp only [Act.put, List.setIfInBounds_toArray, List.set_cons_zero, List.set_cons_succ]))
            refine wpAnyH_ready (rs := [13]) (by kernel_rfl) (by simp) ?_
            refine AllReadyH.cons rfl (fun K hK => ?_) AllReadyH.nil
            go_simp
            refine hK.out _ _ (KS.out _ _ bw6.out) (fun hHeld => ?_)
            clear hK K
            (try simp only [Act.put, List.setIfInBounds_toArray, List.set_cons_zero, List.set_cons_succ])
            refine wpAnyH_done (by kernel_rfl) ?_ _
            go_wp2_with fail
            go_roundw
            case rel => exact ⟨j + 1, ms', .slice ao' ms'.length cap', (map_okS hml0.out hE.out), by omega, by omega, by go_num, map_wtsS hwu.out ⟨HT2.out, hwu1⟩ hE.out, ⟨ao', cap', b', o', rfl, hH.out, map_rel hL.out bw5.out.size s6.out hB3 (by omega) _ _⟩, (HT.out w6 bw6.out).set 5 _ rfl⟩
            case measure => simp [RowKit.intOf]; omega
          refine AllReadyH.cons rfl (fun K hK => ?_) AllReadyH.nil
          · go_simp
            refine LC.out.mono ?_
            rintro e w5 ⟨t, rfl, ht20, b5⟩
            have HT2 : Hid (Pl20 t) := ht20
            clear ht20
            have bw5 : Hid (Below wa.heap.size wa w5) := BD.out.trans b5
            have e6 : w5.cell? ⟨w.heap.size + 1 + 1, 5, none⟩ = some slv := (by rw [cell_of_block (HT.out w5 bw5.out).b2]; rfl)
            clear b5
            go_wp2_with fail
            refine hK.out _ _ (KP.out _ bw5.out) (fun hHeld => ?_)
            clear hK K
            (try simp only [Act.put, List.setIfInBounds_toArray, List.set_cons_zero, List.set_cons_succ])
            (refine wpAnyH_take (i := 10) (v := ?_) rfl (by kernel_rfl) (by kernel_rfl) (by kernel_rfl) (fun _ _ _ h => h) (Or.inl ⟨by rfl, ?_⟩) (by assumption) ?_; rotate_left 1; (intro W0 hSw; (try dsimp only at hSw); go_simp; (try with_reducible rfl)); (try simp only [Act.put, List.setIfInBounds_toArray, List.set_cons_zero, List.set_cons_succ]))
            refine wpAnyH_ready (rs := [1]) (by kernel_rfl) (by simp) ?_
            refine AllReadyH.cons rfl (fun K hK => ?_) AllReadyH.nil
            go_simp
            refine hK.out _ _ (KP.out _ bw5.out) (fun hHeld => ?_)
            clear hK K
            (try simp only [Act.put, List.setIfInBounds_toArray, List.set_cons_zero, List.set_cons_succ])
            refine wpAnyH_ready (rs := [11]) (by kernel_rfl) (by simp) ?_
            refine AllReadyH.cons rfl (fun K hK => ?_) AllReadyH.nil
            go_simp
            refine (PC.out w5 bw5.out t HT2.out).mono ?_
            rintro e w6 ⟨ao', cap', b', o', rfl, hh', hl', b6⟩
            have bw6 : Hid (Below wa.heap.size wa w6) := bw5.out.trans (b6.mono bw5.out.size)
            have f6 : w6.cell? ⟨w.heap.size + 1 + 1, 5, none⟩ = some slv := (by rw [cell_of_block (HT.out w6 bw6.out).b2]; rfl)
            have g6 : w6.frozen? ⟨w.heap.size + 1 + 1, 5, none⟩ = false := frozen_of_block (HT.out w6 bw6.out).b2 5
            have s6 : Hid (w5.heap.size ≤ w6.heap.size) := b6.size
            generalize hms' : putF ms (t, u) = ms' at *
            have hE : Hid (putF ms (t, u) = ms') := hms'
            have hL : Hid _ := hl'
            have hH : Hid _ := hh'
            clear b6 hl' hh' hms'
            go_wp2_with fail
            refine hK.out _ _ (KP.out _ bw6.out) (fun hHeld => ?_)
            clear hK K
            (try simp only [Act.put, List.setIfInBounds_toArray, List.set_cons_zero, List.set_cons_succ])
            (refine wpAnyH_take (i := 12) (v := ?_) rfl (by kernel_rfl) (by kernel_rfl) (by kernel_rfl) (fun _ _ _ h => h) (Or.inl ⟨by rfl, ?_⟩) (by assumption) ?_; rotate_left 1; (intro W0 hSw; (try dsimp only at hSw); go_simp; (try with_reducible rfl)); (try simp only [Act.put, List.setIfInBounds_toArray, List.set_cons_zero, List.set_cons_succ]))
            refine wpAnyH_ready (rs := [13]) (by kernel_rfl) (by simp) ?_
            refine AllReadyH.cons rfl (fun K hK => ?_) AllReadyH.nil
            go_simp
            refine hK.out _ _ (KS.out _ _ bw6.out) (fun hHeld => ?_)
            clear hK K
            (try simp only [Act.put, List.setIfInBounds_toArray, List.set_cons_zero, List.set_cons_succ])
            refine wpAnyH_done (by kernel_rfl) ?_ _
            go_wp2_with fail
            go_roundw
            case rel => exact ⟨j + 1, ms', .slice ao' ms'.length cap', (map_okS hml0.out hE.out), by omega, by omega, by go_num, map_wtsS hwu.out ⟨HT2.out, hwu1⟩ hE.out, ⟨ao', cap', b', o', rfl, hH.out, map_rel hL.out bw5.out.size s6.out hB3 (by omega) _ _⟩, (HT.out w6 bw6.out).set 5 _ rfl⟩
            case measure => simp [RowKit.intOf]; omega
        · obtain rfl : j = 4 := by omega
          have y2 : ¬ ((4 : Nat) : Int) < 4 := by omega
          obtain ⟨ao, cap, bo, oo, rfl, hh, hl⟩ := hsh.out
          have x0 : wr.cell? ⟨w.heap.size + 1 + 1, 0, none⟩ = some (.int .i64 5) := by rw [cell_of_block tj.b2]; rfl
          have r0 : wr.cell? ⟨w.heap.size + 1, 0, none⟩ = some (.int .i64 0) := by rw [cell_of_block tj.b1]; rfl
          have x1 : wr.cell? ⟨w.heap.size + 1 + 1, 1, none⟩ = some (.bool false) := by rw [cell_of_block tj.b2]; rfl
          have r1 : wr.cell? ⟨w.heap.size + 1, 1, none⟩ = some (.bool false) := by rw [cell_of_block tj.b1]; rfl
          have x2 : wr.cell? ⟨w.heap.size + 1 + 1, 2, none⟩ = some (.int .i64 0) := by rw [cell_of_block tj.b2]; rfl
          have r2 : wr.cell? ⟨w.heap.size + 1, 2, none⟩ = some (.int .i64 0) := by rw [cell_of_block tj.b1]; rfl
          have x3 : wr.cell? ⟨w.heap.size + 1 + 1, 3, none⟩ = some (.string ⟨#[]⟩) := by rw [cell_of_block tj.b2]; rfl
          have r3 : wr.cell? ⟨w.heap.size + 1, 3, none⟩ = some (.string ⟨#[]⟩) := by rw [cell_of_block tj.b1]; rfl
          have x4 : wr.cell? ⟨w.heap.size + 1 + 1, 4, none⟩ = some (.slice none 0 0) := by rw [cell_of_block tj.b2]; rfl
          have r4 : wr.cell? ⟨w.heap.size + 1, 4, none⟩ = some (.slice none 0 0) := by rw [cell_of_block tj.b1]; rfl
          have x5 : wr.cell? ⟨w.heap.size + 1 + 1, 5, none⟩ = some (.slice ao ms.length cap) := by rw [cell_of_block tj.b2]; rfl
          have r5 : wr.cell? ⟨w.heap.size + 1, 5, none⟩ = some (.slice none 0 0) := by rw [cell_of_block tj.b1]; rfl
          have rf : ∀ i, wr.frozen? ⟨w.heap.size + 1, i, none⟩ = false := frozen_of_block tj.b1
          have hB7 := tj.below
          have hlt := tj.lt
          have HO : Hid (liesM false wr (From (w.heap.size + 3) wr) ms bo oo) := hl
          have HH : Hid (Headed ao ms.length cap bo oo) := hh
          clear hl hh tj hsh
          go_wp2_with fail
          (try simp only [Exit.inBlock, Exit.then])
          refine bodyPost_ret (v := .agg #[.int .i64 5, .bool false, .int .i64 0, .string ⟨#[]⟩, .slice none 0 0, .slice ao ms.length cap]) (by rw [results_cell1 rfl]; go_simp) rfl ?_
          exact map_finS (B := w.heap.size + 3) (Below.set6 hB7 (by omega) _ _ _ _ _ _ _ _ _ _ _ _) (by omega) HH.out (liesM_set6 HO.out (by omega) _ _ _ _ _ _ _ _ _ _ _ _) hml.out hml0.out.1 hwu.out
      · obtain rfl : j = m.length := by omega
        have y1 : ¬ (m.length : Int) < m.length := by omega
        obtain ⟨ao, cap, bo, oo, rfl, hh, hl⟩ := hsh.out
        have x0 : wr.cell? ⟨w.heap.size + 1 + 1, 0, none⟩ = some (.int .i64 5) := by rw [cell_of_block tj.b2]; rfl
        have r0 : wr.cell? ⟨w.heap.size + 1, 0, none⟩ = some (.int .i64 0) := by rw [cell_of_block tj.b1]; rfl
        have x1 : wr.cell? ⟨w.heap.size + 1 + 1, 1, none⟩ = some (.bool false) := by rw [cell_of_block tj.b2]; rfl
        have r1 : wr.cell? ⟨w.heap.size + 1, 1, none⟩ = some (.bool false) := by rw [cell_of_block tj.b1]; rfl
        have x2 : wr.cell? ⟨w.heap.size + 1 + 1, 2, none⟩ = some (.int .i64 0) := by rw [cell_of_block tj.b2]; rfl
        have r2 : wr.cell? ⟨w.heap.size + 1, 2, none⟩ = some (.int .i64 0) := by rw [cell_of_block tj.b1]; rfl
        have x3 : wr.cell? ⟨w.heap.size + 1 + 1, 3, none⟩ = some (.string ⟨#[]⟩) := by rw [cell_of_block tj.b2]; rfl
        have r3 : wr.cell? ⟨w.heap.size + 1, 3, none⟩ = some (.string ⟨#[]⟩) := by rw [cell_of_block tj.b1]; rfl
        have x4 : wr.cell? ⟨w.heap.size + 1 + 1, 4, none⟩ = some (.slice none 0 0) := by rw [cell_of_block tj.b2]; rfl
        have r4 : wr.cell? ⟨w.heap.size + 1, 4, none⟩ = some (.slice none 0 0) := by rw [cell_of_block tj.b1]; rfl
        have x5 : wr.cell? ⟨w.heap.size + 1 + 1, 5, none⟩ = some (.slice ao ms.length cap) := by rw [cell_of_block tj.b2]; rfl
        have r5 : wr.cell? ⟨w.heap.size + 1, 5, none⟩ = some (.slice none 0 0) := by rw [cell_of_block tj.b1]; rfl
        have rf : ∀ i, wr.frozen? ⟨w.heap.size + 1, i, none⟩ = false := frozen_of_block tj.b1
        have hB7 := tj.below
        have hlt := tj.lt
        have HO : Hid (liesM false wr (From (w.heap.size + 3) wr) ms bo oo) := hl
        have HH : Hid (Headed ao ms.length cap bo oo) := hh
        clear hl hh tj hsh
        go_wp2_with fail
        (try simp only [Exit.inBlock, Exit.then])
        refine bodyPost_ret (v := .agg #[.int .i64 5, .bool false, .int .i64 0, .string ⟨#[]⟩, .slice none 0 0, .slice ao ms.length cap]) (by rw [results_cell1 rfl]; go_simp) rfl ?_
        exact map_finS (B := w.heap.size + 3) (Below.set6 hB7 (by omega) _ _ _ _ _ _ _ _ _ _ _ _) (by omega) HH.out (liesM_set6 HO.out (by omega) _ _ _ _ _ _ _ _ _ _ _ _) hml.out hml0.out.1 hwu.out
  · go_enter Tryd.func14, Tryd.ntmps14
    go_wp2_with fail
    go_loopw [9] (fun e wr => ∃ (j : Nat) (ms : List Mem) (slv : Value), Hid (Srt ms ∧ ms.length ≤ j) ∧ j ≤ 4 ∧ j ≤ m.length ∧ e = .int .i64 (j : Int) ∧ Hid (∀ y ∈ ms, Pl20 y.1 ∧ Gd N y.2) ∧ Hid (∃ ao cap bo oo, slv = .slice ao ms.length cap ∧ Headed ao ms.length cap bo oo ∧ liesM false wr (From (w.heap.size + 3) wr) ms bo oo) ∧ TwF w #[.int .i64 k, .bool b, .int .i64 i, .string s, .slice al l.length cl, .slice am m.length cm] #[.int .i64 5, .bool false, .int .i64 0, .string ⟨#[]⟩, .slice none 0 0, slv] wr) (fun e _ => 4 - (RowKit.intOf e).toNat)
    case atStart => exact ⟨0, [], .slice none 0 0, ⟨List.Pairwise.nil, by simp⟩, by omega, by omega, rfl, fun u hu => (by cases hu), ⟨none, 0, 0, 0, rfl, headed_nil, by rw [liesM]; trivial⟩, T0.out⟩
    case round =>
      clear T0
      obtain ⟨j, ms, slv, hml0, hj4, hj, rfl, hwu, hsh, tj⟩ := hrel
      have hml : Hid (ms.length ≤ 4) := by
        show _ ≤ _
        have h1 := hml0.out.2
        omega
      have d5 : wr.cell? ⟨w.heap.size, 5, none⟩ = some (.slice am m.length cm) := by rw [cell_of_block tj.b0]; rfl
      by_cases hjl : j < m.length
      · have y1 : (j : Int) < m.length := by omega
        by_cases h4 : j < 4
        · have y2 : (j : Int) < 4 := by omega
          obtain ⟨hSb, hkz, csj, hrow, hlj⟩ := liesM_get HM.out j hjl
          have hwm := wtM_mem (List.getElem_mem hjl)
          generalize m[j] = mj at *
          obtain ⟨key, xv⟩ := mj
          simp only at hkz hrow hlj hwm
          obtain rfl : am = some ⟨bm, om, none⟩ := ham.at_.resolve_left (by omega)
          have hkw : ∀ b, Old w b → wr.heap[b]? = w.heap[b]? := fun b hb => tj.below.block b hb
          have hrow' := hrow.keep (hkw _ hSb)
          have hlj' := V.lies_keep (R' := false) (S' := Old wr) (fun h => h) hkw (fun x h => Nat.lt_of_lt_of_le h tj.below.size) _ hlj
          have hc1 := IH.out xv csj wr hlj' (by omega)
          obtain ⟨ek, eb, ei, es, eal, enl, ecl, eam, enm, ecm, rfl⟩ := V.ten hlj
          obtain ⟨q, q0, q1, q2, q3, q4, q5⟩ := row7 hrow'
          clear hlj hlj' hrow hrow'
          go_wp2_with fail
          refine hc1.mono ?_
          rintro e w3 ⟨u, csu, rfl, hlu, hwu1, b3⟩
          obtain ⟨uk, ub, ui, us, ual, unl, ucl, uam, unm, ucm, rfl⟩ := V.ten hlu
          go_wp2_with fail
          have hlt := tj.lt
          have hzb := b3.size
          have hz := alloc_size w3 (.cells #[.int .i64 uk, .bool ub, .int .i64 ui, .string us, .slice ual unl ucl, .slice uam unm ucm] 25)
          have BW : Below wr.heap.size wr (w3.alloc (.cells #[.int .i64 uk, .bool ub, .int .i64 ui, .string us, .slice ual unl ucl, .slice uam unm ucm] 25)) := b3.alloc hzb _
          have T4 := (tj.grown (grown_of_below b3) (fun r e => by cases e)).grown (World.grownBy_alloc w3 (.cells #[.int .i64 uk, .bool ub, .int .i64 ui, .string us, .slice ual unl ucl, .slice uam unm ucm] 25) none) (fun r e => by cases e)
          have x0 : (w3.alloc (.cells #[.int .i64 uk, .bool ub, .int .i64 ui, .string us, .slice ual unl ucl, .slice uam unm ucm] 25)).cell? ⟨w3.heap.size, 0, none⟩ = some (.int .i64 uk) := by rw [cell_of_block (heap_alloc_new w3 _)]; rfl
          have x1 : (w3.alloc (.cells #[.int .i64 uk, .bool ub, .int .i64 ui, .string us, .slice ual unl ucl, .slice uam unm ucm] 25)).cell? ⟨w3.heap.size, 1, none⟩ = some (.bool ub) := by rw [cell_of_block (heap_alloc_new w3 _)]; rfl
          have x2 : (w3.alloc (.cells #[.int .i64 uk, .bool ub, .int .i64 ui, .string us, .slice ual unl ucl, .slice uam unm ucm] 25)).cell? ⟨w3.heap.size, 2, none⟩ = some (.int .i64 ui) := by rw [cell_of_block (heap_alloc_new w3 _)]; rfl
          have x3 : (w3.alloc (.cells #[.int .i64 uk, .bool ub, .int .i64 ui, .string us, .slice ual unl ucl, .slice uam unm ucm] 25)).cell? ⟨w3.heap.size, 3, none⟩ = some (.string us) := by rw [cell_of_block (heap_alloc_new w3 _)]; rfl
          have x4 : (w3.alloc (.cells #[.int .i64 uk, .bool ub, .int .i64 ui, .string us, .slice ual unl ucl, .slice uam unm ucm] 25)).cell? ⟨w3.heap.size, 4, none⟩ = some (.slice ual unl ucl) := by rw [cell_of_block (heap_alloc_new w3 _)]; rfl
          have x5 : (w3.alloc (.cells #[.int .i64 uk, .bool ub, .int .i64 ui, .string us, .slice ual unl ucl, .slice uam unm ucm] 25)).cell? ⟨w3.heap.size, 5, none⟩ = some (.slice uam unm ucm) := by rw [cell_of_block (heap_alloc_new w3 _)]; rfl
          have hlu' : u.lies false (w3.alloc (.cells #[.int .i64 uk, .bool ub, .int .i64 ui, .string us, .slice ual unl ucl, .slice uam unm ucm] 25)) (From (w.heap.size + 3) (w3.alloc (.cells #[.int .i64 uk, .bool ub, .int .i64 ui, .string us, .slice ual unl ucl, .slice uam unm ucm] 25))) [.int .i64 uk, .bool ub, .int .i64 ui, .string us, .slice ual unl ucl, .slice uam unm ucm] := V.lies_keep (fun h => h) (fun x hx => alloc_keep w3 _ hx.2) (fun x hx => ⟨by have := hx.1; omega, by have := hx.2; omega⟩) _ hlu
          have hbm : bm < w.heap.size := hSb
          have qk : (w3.alloc (.cells #[.int .i64 uk, .bool ub, .int .i64 ui, .string us, .slice ual unl ucl, .slice uam unm ucm] 25)).cell? ⟨bm, om + j * 7, none⟩ = some (.string key) := (BW.cell (p := ⟨bm, om + j * 7, none⟩) (by show bm < _; omega)).trans q
          replace d5 : (w3.alloc (.cells #[.int .i64 uk, .bool ub, .int .i64 ui, .string us, .slice ual unl ucl, .slice uam unm ucm] 25)).cell? ⟨w.heap.size, 5, none⟩ = some (.slice (some ⟨bm, om, none⟩) m.length cm) := by rw [cell_of_block T4.b0]; rfl
          have e5 : (w3.alloc (.cells #[.int .i64 uk, .bool ub, .int .i64 ui, .string us, .slice ual unl ucl, .slice uam unm ucm] 25)).cell? ⟨w.heap.size + 1 + 1, 5, none⟩ = some slv := by rw [cell_of_block T4.b2]; rfl
          obtain ⟨ao, cap, bo, oo, hsl, hh, hl⟩ := hsh.out
          have hl4 : liesM false (w3.alloc (.cells #[.int .i64 uk, .bool ub, .int .i64 ui, .string us, .slice ual unl ucl, .slice uam unm ucm] 25)) (From (w.heap.size + 3) (w3.alloc (.cells #[.int .i64 uk, .bool ub, .int .i64 ui, .string us, .slice ual unl ucl, .slice uam unm ucm] 25))) ms bo oo := liesM_keep (fun h => h) (fun x hx => BW.block x hx.2) (fun x hx => ⟨hx.1, by have := hx.2; omega⟩) _ hl
          clear hl q q0 q1 q2 q3 q4 q5 hsh hlu hkw hc1
          generalize (w3.alloc (.cells #[.int .i64 uk, .bool ub, .int .i64 ui, .string us, .slice ual unl ucl, .slice uam unm ucm] 25)) = wa at *
          have hz1 : w.heap.size < wa.heap.size := by omega
          have hz2 : bm < wa.heap.size := by omega
          have hz3 : w3.heap.size < wa.heap.size := by omega
          have hn1 : w.heap.size ≠ w.heap.size + 1 + 1 := by omega
          have hn2 : bm ≠ w.heap.size + 1 + 1 := by omega
          have hn3 : w3.heap.size ≠ w.heap.size + 1 + 1 := by omega
          have BD : Hid (Below wa.heap.size wa wa.drew) := (Below.refl _ _).drew
          have KP : Hid (∀ W', Below wa.heap.size wa W' → W'.cell? ⟨w.heap.size, 5, none⟩ = some (.slice (some ⟨bm, om, none⟩) m.length cm) ∧ W'.cell? ⟨bm, om + j * 7, none⟩ = some (.string key) ∧ W'.cell? ⟨w3.heap.size, 0, none⟩ = some (.int .i64 uk) ∧ W'.cell? ⟨w3.heap.size, 1, none⟩ = some (.bool ub) ∧ W'.cell? ⟨w3.heap.size, 2, none⟩ = some (.int .i64 ui) ∧ W'.cell? ⟨w3.heap.size, 3, none⟩ = some (.string us) ∧ W'.cell? ⟨w3.heap.size, 4, none⟩ = some (.slice ual unl ucl) ∧ W'.cell? ⟨w3.heap.size, 5, none⟩ = some (.slice uam unm ucm)) := fun W' hb => ⟨(hb.cell (p := ⟨w.heap.size, 5, none⟩) hz1).trans d5, (hb.cell (p := ⟨bm, om + j * 7, none⟩) hz2).trans qk, (hb.cell (p := ⟨w3.heap.size, 0, none⟩) hz3).trans x0, (hb.cell (p := ⟨w3.heap.size, 1, none⟩) hz3).trans x1, (hb.cell (p := ⟨w3.heap.size, 2, none⟩) hz3).trans x2, (hb.cell (p := ⟨w3.heap.size, 3, none⟩) hz3).trans x3, (hb.cell (p := ⟨w3.heap.size, 4, none⟩) hz3).trans x4, (hb.cell (p := ⟨w3.heap.size, 5, none⟩) hz3).trans x5⟩
          have KS : Hid (∀ W0 v, Below wa.heap.size wa W0 → (W0.setCell ⟨w.heap.size + 1 + 1, 5, none⟩ v).cell? ⟨w.heap.size, 5, none⟩ = some (.slice (some ⟨bm, om, none⟩) m.length cm) ∧ (W0.setCell ⟨w.heap.size + 1 + 1, 5, none⟩ v).cell? ⟨bm, om + j * 7, none⟩ = some (.string key) ∧ (W0.setCell ⟨w.heap.size + 1 + 1, 5, none⟩ v).cell? ⟨w3.heap.size, 0, none⟩ = some (.int .i64 uk) ∧ (W0.setCell ⟨w.heap.size + 1 + 1, 5, none⟩ v).cell? ⟨w3.heap.size, 1, none⟩ = some (.bool ub) ∧ (W0.setCell ⟨w.heap.size + 1 + 1, 5, none⟩ v).cell? ⟨w3.heap.size, 2, none⟩ = some (.int .i64 ui) ∧ (W0.setCell ⟨w.heap.size + 1 + 1, 5, none⟩ v).cell? ⟨w3.heap.size, 3, none⟩ = some (.string us) ∧ (W0.setCell ⟨w.heap.size + 1 + 1, 5, none⟩ v).cell? ⟨w3.heap.size, 4, none⟩ = some (.slice ual unl ucl) ∧ (W0.setCell ⟨w.heap.size + 1 + 1, 5, none⟩ v).cell? ⟨w3.heap.size, 5, none⟩ = some (.slice uam unm ucm)) := fun W0 v hb => ⟨(cell_set_ne hn1 _).trans ((hb.cell (p := ⟨w.heap.size, 5, none⟩) hz1).trans d5), (cell_set_ne hn2 _).trans ((hb.cell (p := ⟨bm, om + j * 7, none⟩) hz2).trans qk), (cell_set_ne hn3 _).trans ((hb.cell (p := ⟨w3.heap.size, 0, none⟩) hz3).trans x0), (cell_set_ne hn3 _).trans ((hb.cell (p := ⟨w3.heap.size, 1, none⟩) hz3).trans x1), (cell_set_ne hn3 _).trans ((hb.cell (p := ⟨w3.heap.size, 2, none⟩) hz3).trans x2), (cell_set_ne hn3 _).trans ((hb.cell (p := ⟨w3.heap.size, 3, none⟩) hz3).trans x3), (cell_set_ne hn3 _).trans ((hb.cell (p := ⟨w3.heap.size, 4, none⟩) hz3).trans x4), (cell_set_ne hn3 _).trans ((hb.cell (p := ⟨w3.heap.size, 5, none⟩) hz3).trans x5)⟩
          have PC : Hid (∀ W', Below wa.heap.size wa W' → ∀ t : ByteArray, Pl20 t → Calls Tryd.prog 48 #[slv, .agg #[.string t, .int .i64 uk, .bool ub, .int .i64 ui, .string us, .slice ual unl ucl, .slice uam unm ucm]] W' (PutPostS (From (w.heap.size + 3) wa) ms (t, u) W')) := fun W' hb t ht => by
            have hbs := hb.size
            rw [hsl]
            exact put_srt ms ao cap bo oo t u [.int .i64 uk, .bool ub, .int .i64 ui, .string us, .slice ual unl ucl, .slice uam unm ucm] W' _ (fun x hx => by have := hx.2; omega) hh (liesM_keep (fun h => h) (fun x hx => hb.block x hx.2) (fun _ h => h) _ hl4) (V.lies_keep (fun h => h) (fun x hx => hb.block x hx.2) (fun _ h => h) _ hlu') (Nat.le_trans ht.1 (by decide)) (by have := hml.out; omega)
          have LC : Hid (Calls Tryd.prog 28 #[.string key] wa.drew (PlPostS wa.drew)) := lplain_asc key wa.drew (by omega)
          have HT : Hid (∀ W', Below wa.heap.size wa W' → TwF w #[.int .i64 k, .bool b, .int .i64 i, .string s, .slice al l.length cl, .slice (some ⟨bm, om, none⟩) m.length cm] #[.int .i64 5, .bool false, .int .i64 0, .string ⟨#[]⟩, .slice none 0 0, slv] W') := fun W' hb => T4.grown (grown_of_below hb) (fun r e => by cases e)
          have hB3 : w.heap.size + 3 ≤ wa.heap.size := by omega
          clear x0 x1 x2 x3 x4 x5 qk d5 hl4 hlu' hh hsl T4 tj BW b3
          refine wp_region_held_drew (S := fun W' => W'.cell? ⟨w.heap.size, 5, none⟩ = some (.slice (some ⟨bm, om, none⟩) m.length cm) ∧ W'.cell? ⟨bm, om + j * 7, none⟩ = some (.string key) ∧ W'.cell? ⟨w3.heap.size, 0, none⟩ = some (.int .i64 uk) ∧ W'.cell? ⟨w3.heap.size, 1, none⟩ = some (.bool ub) ∧ W'.cell? ⟨w3.heap.size, 2, none⟩ = some (.int .i64 ui) ∧ W'.cell? ⟨w3.heap.size, 3, none⟩ = some (.string us) ∧ W'.cell? ⟨w3.heap.size, 4, none⟩ = some (.slice ual unl ucl) ∧ W'.cell? ⟨w3.heap.size, 5, none⟩ = some (.slice uam unm ucm)) (by kernel_rfl) (KP.out _ BD.out) (fun hHeld => ?_)
          (refine wpAnyH_take (i := 0) (v := ?_) rfl (by kernel_rfl) (by kernel_rfl) (by kernel_rfl) (fun _ _ _ h => h) (Or.inl ⟨by rfl, ?_⟩) (by assumption) ?_; rotate_left 1; (intro W0 hSw; (try dsimp only at hSw); go_simp; (try with_reducible rfl)); (try simp only [Act.put, List.setIfInBounds_toArray, List.set_cons_zero, List.set_cons_succ]))
          (refine wpAnyH_take (i := 2) (v := ?_) rfl (by kernel_rfl) (by kernel_rfl) (by kernel_rfl) (fun _ _ _ h => h) (Or.inl ⟨by rfl, ?_⟩) (by assumption) ?_; rotate_left 1; (intro W0 hSw; (try dsimp only at hSw); go_simp; (try with_reducible rfl)); (try simp only [Act.put, List.setIfInBounds_toArray, List.set_cons_zero, List.set_cons_succ]))
          (refine wpAnyH_take (i := 3) (v := ?_) rfl (by kernel_rfl) (by kernel_rfl) (by kernel_rfl) (fun _ _ _ h => h) (Or.inl ⟨by rfl, ?_⟩) (by assumption) ?_; rotate_left 1; (intro W0 hSw; (try dsimp only at hSw); go_simp; (try with_reducible rfl)); (try simp only [Act.put, List.setIfInBounds_toArray, List.set_cons_zero, List.set_cons_succ]))
          (refine wpAnyH_take (i := 4) (v := ?_) rfl (by kernel_rfl) (by kernel_rfl) (by kernel_rfl) (fun _ _ _ h => h) (Or.inl ⟨by rfl, ?_⟩) (by assumption) ?_; rotate_left 1; (intro W0 hSw; (try dsimp only at hSw); go_simp; (try with_reducible rfl)); (try simp only [Act.put, List.setIfInBounds_toArray, List.set_cons_zero, List.set_cons_succ]))
          (refine wpAnyH_take (i := 5) (v := ?_) rfl (by kernel_rfl) (by kernel_rfl) (by kernel_rfl) (fun _ _ _ h => h) (Or.inl ⟨by rfl, ?_⟩) (by assumption) ?_; rotate_left 1; (intro W0 hSw; (try dsimp only at hSw); go_simp; (try with_reducible rfl)); (try simp only [Act.put, List.setIfInBounds_toArray, List.set_cons_zero, List.set_cons_succ]))
          (refine wpAnyH_take (i := 6) (v := ?_) rfl (by kernel_rfl) (by kernel_rfl) (by kernel_rfl) (fun _ _ _ h => h) (Or.inl ⟨by rfl, ?_⟩) (by assumption) ?_; rotate_left 1; (intro W0 hSw; (try dsimp only at hSw); go_simp; (try with_reducible rfl)); (try simp only [Act.put, List.setIfInBounds_toArray, List.set_cons_zero, List.set_cons_succ]))
          (refine wpAnyH_take (i := 7) (v := ?_) rfl (by kernel_rfl) (by kernel_rfl) (by kernel_rfl) (fun _ _ _ h => h) (Or.inl ⟨by rfl, ?_⟩) (by assumption) ?_; rotate_left 1; (intro W0 hSw; (try dsimp only at hSw); go_simp; (try with_reducible rfl)); (try simp only [Act.put, List.setIfInBounds_toArray, List.set_cons_zero, List.set_cons_succ]))
          (refine wpAnyH_take (i := 9) (v := ?_) rfl (by kernel_rfl) (by kernel_rfl) (by kernel_rfl) (fun _ _ _ h => h) (Or.inl ⟨by rfl, ?_⟩) (by assumption) ?_; rotate_left 1; (intro W0 hSw; (try dsimp only at hSw); go_simp; (try with_reducible rfl)); (try simp only [Act.put, List.setIfInBounds_toArray, List.set_cons_zero, List.set_cons_succ]))
          refine wpAnyH_ready (rs := [1, 8]) (by kernel_rfl) (by simp) ?_
          refine AllReadyH.cons rfl (fun K hK => ?_) ?_
          · go_simp
            refine hK.out _ _ (KP.out _ BD.out) (fun hHeld => ?_)
            clear hK K
            (try simp only [Act.put, List.setIfInBounds_toArray, List.set_cons_zero, List.set_cons_succ])
            refine wpAnyH_ready (rs := [8]) (by kernel_rfl) (by simp) ?_
            refine AllReadyH.cons rfl (fun K hK => ?_) AllReadyH.nil
            go_simp
            refine LC.out.mono ?_
            rintro e w5 ⟨t, rfl, ht20, b5⟩
            have HT2 : Hid (Pl20 t) := ht20
            clear ht20
            have bw5 : Hid (Below wa.heap.size wa w5) := BD.out.trans b5
            have e6 : w5.cell? ⟨w.heap.size + 1 + 1, 5, none⟩ = some slv := (by rw [cell_of_block (HT.out w5 bw5.out).b2]; rfl)
            clear b5
            go_wp2_with fail
            refine hK.out _ _ (KP.out _ bw5.out) (fun hHeld => ?_)
            clear hK K
            (try simp only [Act.put, List.setIfInBounds_toArray, List.set_cons_zero, List.set_cons_succ])
            (refine wpAnyH_take (i := 10) (v := ?_) rfl (by kernel_rfl) (by kernel_rfl) (by kernel_rfl) (fun _ _ _ h => h) (Or.inl ⟨by rfl, ?_⟩) (by assumption) ?_; rotate_left 1; (intro W0 hSw; (try dsimp only at hSw); go_simp; (try with_reducible rfl)); (try simp only [Act.put, List.setIfInBounds_toArray, List.set_cons_zero, List.set_cons_succ]))
            refine wpAnyH_ready (rs := [11]) (by kernel_rfl) (by simp) ?_
            refine AllReadyH.cons rfl (fun K hK => ?_) AllReadyH.nil
            go_simp
            refine (PC.out w5 bw5.out t HT2.out).mono ?_
            rintro e w6 ⟨ao', cap', b', o', rfl, hh', hl', b6⟩
            have bw6 : Hid (Below wa.heap.size wa w6) := bw5.out.trans (b6.mono bw5.out.size)
            have f6 : w6.cell? ⟨w.heap.size + 1 + 1, 5, none⟩ = some slv := (by rw [cell_of_block (HT.out w6 bw6.out).b2]; rfl)
            have g6 : w6.frozen? ⟨w.heap.size + 1 + 1, 5, none⟩ = false := frozen_of_block (HT.out w6 bw6.out).b2 5
            have s6 : Hid (w5.heap.size ≤ w6.heap.size) := b6.size
            generalize hms' : putF ms (t, u) = ms' at *
            have hE : Hid (putF ms (t, u) = ms') := hms'
            have hL : Hid _ := hl'
            have hH : Hid _ := hh'
            clear b6 hl' hh' hms'
            go_wp2_with fail
            refine hK.out _ _ (KP.out _ bw6.out) (fun hHeld => ?_)
            clear hK K
            (try simp only [Act.put, List.setIfInBounds_toArray, List.set_cons_zero, List.set_cons_succ])
            (refine wpAnyH_take (i := 12) (v := ?_) rfl (by kernel_rfl) (by kernel_rfl) (by kernel_rfl) (fun _ _ _ h => h) (Or.inl ⟨by rfl, ?_⟩) (by assumption) ?_; rotate_left 1; (intro W0 hSw; (try dsimp only at hSw); go_simp; (try with_reducible rfl)); (try simp only [Act.put, List.setIfInBounds_toArray, List.set_cons_zero, List.set_cons_succ]))
            refine wpAnyH_ready (rs := [13]) (by kernel_rfl) (by simp) ?_
            refine AllReadyH.cons rfl (fun K hK => ?_) AllReadyH.nil
            go_simp
            refine hK.out _ _ (KS.out _ _ bw6.out) (fun hHeld => ?_)
            clear hK K
            (try simp only [Act.put, List.setIfInBounds_toArray, List.set_cons_zero, List.set_cons_succ])
            refine wpAnyH_done (by kernel_rfl) ?_ _
            go_wp2_with fail
            go_roundw
            case rel => exact ⟨j + 1, ms', .slice ao' ms'.length cap', (map_okS hml0.out hE.out), by omega, by omega, by go_num, map_wtsS hwu.out ⟨HT2.out, hwu1⟩ hE.out, ⟨ao', cap', b', o', rfl, hH.out, map_rel hL.out bw5.out.size s6.out hB3 (by omega) _ _⟩, (HT.out w6 bw6.out).set 5 _ rfl⟩
            case measure => simp [RowKit.intOf]; omega
          refine AllReadyH.cons rfl (fun K hK => ?_) AllReadyH.nil
          · go_simp
            refine LC.out.mono ?_
            rintro e w5 ⟨t, rfl, ht20, b5⟩
            have HT2 : Hid (Pl20 t) := ht20
            clear ht20
            have bw5 : Hid (Below wa.heap.size wa w5) := BD.out.trans b5
            have e6 : w5.cell? ⟨w.heap.size + 1 + 1, 5, none⟩ = some slv := (by rw [cell_of_block (HT.out w5 bw5.out).b2]; rfl)
            clear b5
            go_wp2_with fail
            refine hK.out _ _ (KP.out _ bw5.out) (fun hHeld => ?_)
            clear hK K
            (try simp only [Act.put, List.setIfInBounds_toArray, List.set_cons_zero, List.set_cons_succ])
            (refine wpAnyH_take (i := 10) (v := ?_) rfl (by kernel_rfl) (by kernel_rfl) (by kernel_rfl) (fun _ _ _ h => h) (Or.inl ⟨by rfl, ?_⟩) (by assumption) ?_; rotate_left 1; (intro W0 hSw; (try dsimp only at hSw); go_simp; (try with_reducible rfl)); (try simp only [Act.put, List.setIfInBounds_toArray, List.set_cons_zero, List.set_cons_succ]))
            refine wpAnyH_ready (rs := [1]) (by kernel_rfl) (by simp) ?_
            refine AllReadyH.cons rfl (fun K hK => ?_) AllReadyH.nil
            go_simp
            refine hK.out _ _ (KP.out _ bw5.out) (fun hHeld => ?_)
            clear hK K
            (try simp only [Act.put, List.setIfInBounds_toArray, List.set_cons_zero, List.set_cons_succ])
            refine wpAnyH_ready (rs := [11]) (by kernel_rfl) (by simp) ?_
            refine AllReadyH.cons rfl (fun K hK => ?_) AllReadyH.nil
            go_simp
            refine (PC.out w5 bw5.out t HT2.out).mono ?_
            rintro e w6 ⟨ao', cap', b', o', rfl, hh', hl', b6⟩
            have bw6 : Hid (Below wa.heap.size wa w6) := bw5.out.trans (b6.mono bw5.out.size)
            have f6 : w6.cell? ⟨w.heap.size + 1 + 1, 5, none⟩ = some slv := (by rw [cell_of_block (HT.out w6 bw6.out).b2]; rfl)
            have g6 : w6.frozen? ⟨w.heap.size + 1 + 1, 5, none⟩ = false := frozen_of_block (HT.out w6 bw6.out).b2 5
            have s6 : Hid (w5.heap.size ≤ w6.heap.size) := b6.size
            generalize hms' : putF ms (t, u) = ms' at *
            have hE : Hid (putF ms (t, u) = ms') := hms'
            have hL : Hid _ := hl'
            have hH : Hid _ := hh'
            clear b6 hl' hh' hms'
            go_wp2_with fail
            refine hK.out _ _ (KP.out _ bw6.out) (fun hHeld => ?_)
            clear hK K
            (try simp only [Act.put, List.setIfInBounds_toArray, List.set_cons_zero, List.set_cons_succ])
            (refine wpAnyH_take (i := 12) (v := ?_) rfl (by kernel_rfl) (by kernel_rfl) (by kernel_rfl) (fun _ _ _ h => h) (Or.inl ⟨by rfl, ?_⟩) (by assumption) ?_; rotate_left 1; (intro W0 hSw; (try dsimp only at hSw); go_simp; (try with_reducible rfl)); (try simp only [Act.put, List.setIfInBounds_toArray, List.set_cons_zero, List.set_cons_succ]))
            refine wpAnyH_ready (rs := [13]) (by kernel_rfl) (by simp) ?_
            refine AllReadyH.cons rfl (fun K hK => ?_) AllReadyH.nil
            go_simp
            refine hK.out _ _ (KS.out _ _ bw6.out) (fun hHeld => ?_)
            clear hK K
            (try simp only [Act.put, List.setIfInBounds_toArray, List.set_cons_zero, List.set_cons_succ])
            refine wpAnyH_done (by kernel_rfl) ?_ _
            go_wp2_with fail
            go_roundw
            case rel => exact ⟨j + 1, ms', .slice ao' ms'.length cap', (map_okS hml0.out hE.out), by omega, by omega, by go_num, map_wtsS hwu.out ⟨HT2.out, hwu1⟩ hE.out, ⟨ao', cap', b', o', rfl, hH.out, map_rel hL.out bw5.out.size s6.out hB3 (by omega) _ _⟩, (HT.out w6 bw6.out).set 5 _ rfl⟩
            case measure => simp [RowKit.intOf]; omega
        · obtain rfl : j = 4 := by omega
          have y2 : ¬ ((4 : Nat) : Int) < 4 := by omega
          obtain ⟨ao, cap, bo, oo, rfl, hh, hl⟩ := hsh.out
          have x0 : wr.cell? ⟨w.heap.size + 1 + 1, 0, none⟩ = some (.int .i64 5) := by rw [cell_of_block tj.b2]; rfl
          have r0 : wr.cell? ⟨w.heap.size + 1, 0, none⟩ = some (.int .i64 0) := by rw [cell_of_block tj.b1]; rfl
          have x1 : wr.cell? ⟨w.heap.size + 1 + 1, 1, none⟩ = some (.bool false) := by rw [cell_of_block tj.b2]; rfl
          have r1 : wr.cell? ⟨w.heap.size + 1, 1, none⟩ = some (.bool false) := by rw [cell_of_block tj.b1]; rfl
          have x2 : wr.cell? ⟨w.heap.size + 1 + 1, 2, none⟩ = some (.int .i64 0) := by rw [cell_of_block tj.b2]; rfl
          have r2 : wr.cell? ⟨w.heap.size + 1, 2, none⟩ = some (.int .i64 0) := by rw [cell_of_block tj.b1]; rfl
          have x3 : wr.cell? ⟨w.heap.size + 1 + 1, 3, none⟩ = some (.string ⟨#[]⟩) := by rw [cell_of_block tj.b2]; rfl
          have r3 : wr.cell? ⟨w.heap.size + 1, 3, none⟩ = some (.string ⟨#[]⟩) := by rw [cell_of_block tj.b1]; rfl
          have x4 : wr.cell? ⟨w.heap.size + 1 + 1, 4, none⟩ = some (.slice none 0 0) := by rw [cell_of_block tj.b2]; rfl
          have r4 : wr.cell? ⟨w.heap.size + 1, 4, none⟩ = some (.slice none 0 0) := by rw [cell_of_block tj.b1]; rfl
          have x5 : wr.cell? ⟨w.heap.size + 1 + 1, 5, none⟩ = some (.slice ao ms.length cap) := by rw [cell_of_block tj.b2]; rfl
          have r5 : wr.cell? ⟨w.heap.size + 1, 5, none⟩ = some (.slice none 0 0) := by rw [cell_of_block tj.b1]; rfl
          have rf : ∀ i, wr.frozen? ⟨w.heap.size + 1, i, none⟩ = false := frozen_of_block tj.b1
          have hB7 := tj.below
          have hlt := tj.lt
          have HO : Hid (liesM false wr (From (w.heap.size + 3) wr) ms bo oo) := hl
          have HH : Hid (Headed ao ms.length cap bo oo) := hh
          clear hl hh tj hsh
          go_wp2_with fail
          (try simp only [Exit.inBlock, Exit.then])
          refine bodyPost_ret (v := .agg #[.int .i64 5, .bool false, .int .i64 0, .string ⟨#[]⟩, .slice none 0 0, .slice ao ms.length cap]) (by rw [results_cell1 rfl]; go_simp) rfl ?_
          exact map_finS (B := w.heap.size + 3) (Below.set6 hB7 (by omega) _ _ _ _ _ _ _ _ _ _ _ _) (by omega) HH.out (liesM_set6 HO.out (by omega) _ _ _ _ _ _ _ _ _ _ _ _) hml.out hml0.out.1 hwu.out
      · obtain rfl : j = m.length := by omega
        have y1 : ¬ (m.length : Int) < m.length := by omega
        obtain ⟨ao, cap, bo, oo, rfl, hh, hl⟩ := hsh.out
        have x0 : wr.cell? ⟨w.heap.size + 1 + 1, 0, none⟩ = some (.int .i64 5) := by rw [cell_of_block tj.b2]; rfl
        have r0 : wr.cell? ⟨w.heap.size + 1, 0, none⟩ = some (.int .i64 0) := by rw [cell_of_block tj.b1]; rfl
        have x1 : wr.cell? ⟨w.heap.size + 1 + 1, 1, none⟩ = some (.bool false) := by rw [cell_of_block tj.b2]; rfl
        have r1 : wr.cell? ⟨w.heap.size + 1, 1, none⟩ = some (.bool false) := by rw [cell_of_block tj.b1]; rfl
        have x2 : wr.cell? ⟨w.heap.size + 1 + 1, 2, none⟩ = some (.int .i64 0) := by rw [cell_of_block tj.b2]; rfl
        have r2 : wr.cell? ⟨w.heap.size + 1, 2, none⟩ = some (.int .i64 0) := by rw [cell_of_block tj.b1]; rfl
        have x3 : wr.cell? ⟨w.heap.size + 1 + 1, 3, none⟩ = some (.string ⟨#[]⟩) := by rw [cell_of_block tj.b2]; rfl
        have r3 : wr.cell? ⟨w.heap.size + 1, 3, none⟩ = some (.string ⟨#[]⟩) := by rw [cell_of_block tj.b1]; rfl
        have x4 : wr.cell? ⟨w.heap.size + 1 + 1, 4, none⟩ = some (.slice none 0 0) := by rw [cell_of_block tj.b2]; rfl
        have r4 : wr.cell? ⟨w.heap.size + 1, 4, none⟩ = some (.slice none 0 0) := by rw [cell_of_block tj.b1]; rfl
        have x5 : wr.cell? ⟨w.heap.size + 1 + 1, 5, none⟩ = some (.slice ao ms.length cap) := by rw [cell_of_block tj.b2]; rfl
        have r5 : wr.cell? ⟨w.heap.size + 1, 5, none⟩ = some (.slice none 0 0) := by rw [cell_of_block tj.b1]; rfl
        have rf : ∀ i, wr.frozen? ⟨w.heap.size + 1, i, none⟩ = false := frozen_of_block tj.b1
        have hB7 := tj.below
        have hlt := tj.lt
        have HO : Hid (liesM false wr (From (w.heap.size + 3) wr) ms bo oo) := hl
        have HH : Hid (Headed ao ms.length cap bo oo) := hh
        clear hl hh tj hsh
        go_wp2_with fail
        (try simp only [Exit.inBlock, Exit.then])
        refine bodyPost_ret (v := .agg #[.int .i64 5, .bool false, .int .i64 0, .string ⟨#[]⟩, .slice none 0 0, .slice ao ms.length cap]) (by rw [results_cell1 rfl]; go_simp) rfl ?_
        exact map_finS (B := w.heap.size + 3) (Below.set6 hB7 (by omega) _ _ _ _ _ _ _ _ _ _ _ _) (by omega) HH.out (liesM_set6 HO.out (by omega) _ _ _ _ _ _ _ _ _ _ _ _) hml.out hml0.out.1 hwu.out
end Go.Proofs.YtljgofmmihmmfaaDoor

/- good: a good value. -/
set_option linter.unusedSimpArgs false
set_option linter.unusedVariables false
namespace Go.Proofs.YtljgofmmihmmfaaDoor
open Go.RowKit Go.Lib

theorem good_anyS : ∀ (n lv : Nat), lv + n = 4 → ∀ (v : V) (cs : List Value) (w : World), v.lies false w (Old w) cs → v.wt ≤ 1099511627776 → Calls Tryd.prog 14 #[.agg cs.toArray, .int .i64 (lv : Int)] w (GoodPostS (Gd n) w)
  | 0, lv, hn, v, cs, w, hv, hwt => by
    obtain ⟨k, b, i, s, l, m⟩ := v
    have hr : ∀ k' b' i' s' l' m', V.mk k b i s l m = V.mk k' b' i' s' l' m' → Int.tmod k' 6 = Int.tmod k 6 := fun _ _ _ _ _ _ e => by cases e; rfl
    have h6 := tmod6 k
    by_cases h3 : Int.tmod k 6 = 3 ∨ Int.tmod k 6 = -3
    · exact good_strS 0 _ lv cs w hv (by omega) hwt _ hr h3
    · exact good_flatS 0 _ lv cs w hv (by omega) hwt _ hr (by omega)
  | n + 1, lv, hn, v, cs, w, hv, hwt => by
    obtain ⟨k, b, i, s, l, m⟩ := v
    have hr : ∀ k' b' i' s' l' m', V.mk k b i s l m = V.mk k' b' i' s' l' m' → Int.tmod k' 6 = Int.tmod k 6 := fun _ _ _ _ _ _ e => by cases e; rfl
    have h6 := tmod6 k
    have ih : ∀ (x : V) (cs : List Value) (W : World), x.lies false W (Old W) cs → x.wt ≤ 1099511627776 → Calls Tryd.prog 14 #[.agg cs.toArray, .int .i64 ((lv : Int) + 1)] W (GoodPostS (Gd n) W) := fun x cs W h1 h2 => by
      have := good_anyS n (lv + 1) (by omega) x cs W h1 h2
      rwa [show ((lv + 1 : Nat) : Int) = (lv : Int) + 1 by omega] at this
    by_cases h3 : Int.tmod k 6 = 3 ∨ Int.tmod k 6 = -3
    · exact good_strS (n + 1) _ lv cs w hv (by omega) hwt _ hr h3
    by_cases h4 : Int.tmod k 6 = 4 ∨ Int.tmod k 6 = -4
    · exact good_listS _ lv n cs w hv (by omega) hwt _ hr h4 ih
    by_cases h5 : Int.tmod k 6 = 5 ∨ Int.tmod k 6 = -5
    · exact good_mapS _ lv n cs w hv (by omega) hwt _ hr h5 ih
    · exact good_flatS (n + 1) _ lv cs w hv (by omega) hwt _ hr (by omega)
end Go.Proofs.YtljgofmmihmmfaaDoor
