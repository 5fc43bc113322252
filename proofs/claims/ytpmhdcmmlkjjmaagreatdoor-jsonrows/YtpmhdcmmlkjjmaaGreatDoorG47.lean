/- joined: JmB JmC -/
import Derived.Test.YtpmhdcmmlkjjmaaGreatDoorG46
/- rows of texts are split into these: plain. -/
set_option linter.unusedSimpArgs false
set_option linter.unusedVariables false
set_option maxRecDepth 100000
namespace Go.Proofs.YtpmhdcmmlkjjmaaGreatDoor
open Go.RowKit Go.Lib
/-- a line that stands by itself and is read -/
def okLn (t : List UInt8) : Prop := t ≠ [] ∧ (10 : UInt8) ∉ t ∧ (parJ t 32).2.2 = 0
theorem ln_split : ∀ (a : List (List UInt8)) (x : List UInt8) (b : List (List UInt8)), lnJ (a ++ x :: b) = (a.map (fun y => y ++ [10])).flatten ++ lnJ (x :: b)
  | [], x, b => by simp
  | [y], x, b => by rw [List.cons_append, List.nil_append, lnJ_cons2]; simp
  | y :: z :: a, x, b => by
    have := ln_split (z :: a) x b
    rw [List.cons_append] at this
    rw [List.cons_append, List.cons_append, lnJ_cons2, this]
    simp
theorem ln_len : ∀ (ts : List (List UInt8)), (∀ t ∈ ts, t ≠ []) → ts.length ≤ (lnJ ts).length
  | [], _ => by simp
  | [x], h => by rw [lnJ_one]; exact List.length_pos_iff.2 (h x (by simp))
  | x :: y :: t, h => by
    rw [lnJ_cons2]
    have := ln_len (y :: t) (fun z hz => h z (by simp [hz]))
    simp only [List.length_append, List.length_cons] at this ⊢
    omega
theorem spl_rows (ts : List (List UInt8)) (f : Nat) (h : ∀ t ∈ ts, okLn t) (hf : ts.length < f) : splJ f (lnJ ts) [] = (ts.map fun t => (parJ t 32).1, -1, 0) := by
  rcases List.eq_nil_or_concat ts with rfl | ⟨a, x, rfl⟩
  · obtain ⟨g, rfl⟩ : ∃ g, f = g + 1 := ⟨f - 1, by simp at hf; omega⟩
    rw [lnJ, splJ_end]; rfl
  · rw [List.concat_eq_append] at *
    simp only [List.length_append, List.length_cons, List.length_nil] at hf
    obtain ⟨g, rfl⟩ : ∃ g, f = (g + 2) + a.length := ⟨f - a.length - 2, by omega⟩
    rw [ln_split, lnJ_one, spl_go a (g + 2) x [] (fun t ht => h t (by simp [ht])), spl_last (h x (by simp)).1 (h x (by simp)).2.1 (h x (by simp)).2.2]
    simp
theorem spl_rows_nl (ts : List (List UInt8)) (f : Nat) (h : ∀ t ∈ ts, okLn t) (h0 : ts ≠ []) (hf : ts.length < f) : splJ f (lnJ ts ++ [10]) [] = (ts.map fun t => (parJ t 32).1, -1, 0) := by
  rcases List.eq_nil_or_concat ts with rfl | ⟨a, x, rfl⟩
  · exact absurd rfl h0
  · rw [List.concat_eq_append] at *
    have e : lnJ (a ++ [x]) ++ [10] = ((a ++ [x]).map (fun y => y ++ [10])).flatten ++ [] := by rw [ln_split, lnJ_one]; simp
    obtain ⟨g, rfl⟩ : ∃ g, f = (g + 1) + (a ++ [x]).length := ⟨f - (a ++ [x]).length - 1, by omega⟩
    rw [e, spl_go (a ++ [x]) (g + 1) [] [] h, splJ_end]
    simp
theorem spl_spoilt (a b : List (List UInt8)) (x : List UInt8) (f : Nat) (h : ∀ t ∈ a, okLn t) (hx0 : x ≠ []) (hx : (10 : UInt8) ∉ x) (hp : ¬ (parJ x 32).2.2 = 0) (hf : a.length < f) : splJ f (lnJ (a ++ x :: b)) [] = ([], (a.length : Int), (parJ x 32).2.2) := by
  obtain ⟨g, rfl⟩ : ∃ g, f = (g + 1) + a.length := ⟨f - a.length - 1, by omega⟩
  rw [ln_split, spl_go a (g + 1) (lnJ (x :: b)) [] h]
  have e1 : lineJ (lnJ (x :: b)) = x := by
    cases b with
    | nil => rw [lnJ_one]; exact (line_only x hx).1
    | cons y b => rw [lnJ_cons2]; exact (line_app x _ hx).1
  rw [splJ_bad (lnJ_ne hx0) (by rw [e1]; exact hp), e1]
  simp
/-- what Print writes is such a line -/
theorem txt_okLn {v : V} (h : parJ (txtV v) 32 = (v, -1, 0)) : okLn (txtV v) := ⟨txt_ne v, no10V v, by rw [h]⟩
theorem sp_rows (ts : List (List UInt8)) (h : ∀ t ∈ ts, okLn t) (hl : (lnJ ts).length ≤ 1048576) : spJ (lnJ ts) = (ts.map fun t => (parJ t 32).1, -1, 0) := by
  have := ln_len ts (fun t ht => (h t ht).1)
  rw [spJ, if_neg (by omega), spl_rows ts _ h (by omega)]
theorem sp_rows_nl (ts : List (List UInt8)) (h : ∀ t ∈ ts, okLn t) (h0 : ts ≠ []) (hl : (lnJ ts).length < 1048576) : spJ (lnJ ts ++ [10]) = (ts.map fun t => (parJ t 32).1, -1, 0) := by
  have := ln_len ts (fun t ht => (h t ht).1)
  have e : (lnJ ts ++ [10]).length = (lnJ ts).length + 1 := by simp
  rw [spJ, if_neg (by omega), spl_rows_nl ts _ h h0 (by omega)]
theorem sp_spoilt (a b : List (List UInt8)) (x : List UInt8) (h : ∀ t ∈ a, okLn t) (hb : ∀ t ∈ b, t ≠ []) (hx0 : x ≠ []) (hx : (10 : UInt8) ∉ x) (hp : ¬ (parJ x 32).2.2 = 0) (hl : (lnJ (a ++ x :: b)).length ≤ 1048576) : spJ (lnJ (a ++ x :: b)) = ([], (a.length : Int), (parJ x 32).2.2) := by
  have := ln_len (a ++ x :: b) (fun t ht => by
    rcases List.mem_append.1 ht with h1 | h1
    · exact (h t h1).1
    · rcases List.mem_cons.1 h1 with rfl | h2
      · exact hx0
      · exact hb t h2)
  simp only [List.length_append, List.length_cons] at this
  rw [spJ, if_neg (by omega), spl_spoilt a b x _ h hx0 hx hp (by omega)]
end Go.Proofs.YtpmhdcmmlkjjmaaGreatDoor
/- freeholdref00's bound: a value, a list of values. -/
set_option maxRecDepth 100000
namespace Go.Proofs.YtpmhdcmmlkjjmaaGreatDoor
open Go.RowKit Go.Lib
/-- whether a value is beyond the bound; if not, how heavy it is -/
def BeyPost (x : Nat) (w : World) (e : Ending) (w' : World) : Prop := ∃ r, e = .returned (.bool r) ∧ (r = false → x ≤ 2147483647) ∧ Below w.heap.size w w'
set_option maxHeartbeats 4000000 in
theorem cvals_any (xs : List V) (B n : Nat) (S : Nat → Prop) (al : Option Addr) (cl bl ol : Nat) (w : World) (hd : Headed al xs.length cl bl ol) (hl : liesL false w S xs bl ol) (hS : ∀ b, S b → b ≠ B ∧ b < w.heap.size) (hc : Cnt B n w) (hn : n ≤ 2147483647) :
    Calls Tryz.prog 31 #[.pointer (some ⟨B, 0, none⟩), .slice al xs.length cl] w (CntPost B n (wtL xs) w) := by
  have HL := hmk hl
  have hll : xs.length ≤ 9223372036854775807 := Nat.le_trans hd.le hd.max
  have hkeep : ∀ wr : World, w.grownBy wr (some B) → ∀ b, S b → wr.heap[b]? = w.heap[b]? := fun wr g b hb => g.block b (hS b hb).2 (fun e => (hS b hb).1 (Option.some.inj e))
  clear hl
  go_enter Tryz.func31, Tryz.ntmps31
  go_wp2_with fail
  go_loopw [5] (fun e wr => ∃ j : Nat, j ≤ xs.length ∧ e = .int .i64 (j : Int) ∧ n + wtL (xs.take j) ≤ 2147483647 ∧ Cnt B (n + wtL (xs.take j)) wr ∧ w.grownBy wr (some B)) (fun e _ => xs.length - (RowKit.intOf e).toNat)
  case atStart => exact ⟨0, by omega, rfl, by simpa [wtL] using hn, by simpa [wtL] using hc, World.grownBy.refl _ _⟩
  case round =>
    obtain ⟨j, hj, rfl, hnj, hcj, gj⟩ := hrel
    by_cases hjl : j < xs.length
    · have y1 : (j : Int) < xs.length := by omega
      obtain ⟨hSb, csj, hrow, hlj⟩ := liesL_get HL.out j hjl
      obtain rfl : al = some ⟨bl, ol, none⟩ := hd.at_.resolve_left (by omega)
      have hrow' := hrow.keep (hkeep wr gj _ hSb)
      have hlj' := V.lies_keep (R' := false) (S' := S) (fun h => h) (hkeep wr gj) (fun _ h => h) _ hlj
      have ih := cval_any xs[j] B (n + wtL (xs.take j)) 65520 S csj wr hlj' (fun b hb => ⟨(hS b hb).1, by have := (hS b hb).2; have := gj.size; omega⟩) hcj hnj (by omega)
      have HT : Hid (wtL (xs.take (j + 1)) = wtL (xs.take j) + (xs[j]).wt) := take_succ_wtL hjl
      obtain ⟨ek, eb, ei, es, esl, esm, rfl⟩ := V.six hlj
      obtain ⟨q0, q1, q2, q3, q4, q5⟩ := row6 hrow'
      have e5 : ((65520 : Nat) : Int) = 65520 := rfl
      rw [e5] at ih
      clear hlj hlj' hrow hrow' e5
      go_wp2_with fail
      refine ih.mono ?_
      rintro e w3 ⟨r, rfl, g3, h3⟩
      cases r
      · obtain ⟨hn3, hc3⟩ := h3 rfl
        go_wp2_with fail
        go_roundw
        case rel => exact ⟨j + 1, by omega, by go_num, by rw [HT.out]; omega, by rw [HT.out, ← Nat.add_assoc]; exact hc3, grown_trans gj g3⟩
        case measure => simp [RowKit.intOf]; omega
      · go_wp2_with fail
        go_ret
        exact ⟨true, rfl, grown_trans gj g3, fun h => by cases h⟩
    · obtain rfl : j = xs.length := by omega
      rw [List.take_length] at hnj hcj
      have y1 : ¬ (xs.length : Int) < xs.length := by omega
      go_wp2_with fail
      go_ret
      exact ⟨false, rfl, gj, fun _ => ⟨hnj, hcj⟩⟩
set_option maxHeartbeats 4000000 in
theorem beyonds_any (xs : List V) (S : Nat → Prop) (al : Option Addr) (cl bl ol : Nat) (w : World) (hd : Headed al xs.length cl bl ol) (hl : liesL false w S xs bl ol) (hS : ∀ b, S b → b < w.heap.size) :
    Calls Tryz.prog 19 #[.slice al xs.length cl] w (BeyPost (wtL xs) w) := by
  have ga : w.grownBy (w.alloc (.cells #[.int .i64 0] 53)) none := World.grownBy_alloc _ _ _
  have hn := heap_alloc_new w (.cells #[.int .i64 0] 53)
  have hC : Cnt w.heap.size 0 (w.alloc (.cells #[.int .i64 0] 53)) := ⟨by rw [cell_of_block hn]; rfl, frozen_of_block hn 0⟩
  have c := hmk (cvals_any xs w.heap.size 0 S al cl bl ol _ hd (liesL_keep (fun h => h) (fun x hx => ga.block x (hS x hx) (by simp)) (fun _ h => h) _ hl) (fun x hx => ⟨by have := hS x hx; omega, Nat.lt_of_lt_of_le (hS x hx) ga.size⟩) hC (by omega))
  go_enter Tryz.func19, Tryz.ntmps19
  go_wp2_with fail
  refine c.out.mono ?_
  rintro e w1 ⟨r, rfl, g1, h1⟩
  go_wp2_with fail
  go_ret
  exact ⟨r, rfl, fun h => by have := (h1 h).1; omega, (below_of_grown ga).grown g1 ga.size (fun q e => by cases e; omega)⟩
end Go.Proofs.YtpmhdcmmlkjjmaaGreatDoor
