/- joined: RgxA WotX -/
import Derived.Test.YtjfldbmopjojdabDoorAccM
import Derived.Test.YtjfldbmopjojdabDoorG16
set_option linter.unusedSimpArgs false
set_option linter.unusedVariables false
namespace Go.Proofs.YtjfldbmopjojdabDoor
open Go.RowKit Go.Lib
theorem wo_fin {S : Nat → Prop} {w w3 : World} {x : V} {M : Nat} {c0 c1 c2 c3 c4 c5 : Value} (hM : w.heap.size ≤ M) (hS : ∀ b, S b → b < w.heap.size) (B3 : Below w.heap.size w w3) (hx : x.lies false w3 (fun y => S y ∨ (w.heap.size ≤ y ∧ y ≠ M ∧ y < w3.heap.size)) [c0, c1, c2, c3, c4, c5]) :
 x.lies false ((((((w3.setCell ⟨M, 0, none⟩ (c0)).setCell ⟨M, 1, none⟩ (c1)).setCell ⟨M, 2, none⟩ (c2)).setCell ⟨M, 3, none⟩ (c3)).setCell ⟨M, 4, none⟩ (c4)).setCell ⟨M, 5, none⟩ (c5)) (OrNew S w ((((((w3.setCell ⟨M, 0, none⟩ (c0)).setCell ⟨M, 1, none⟩ (c1)).setCell ⟨M, 2, none⟩ (c2)).setCell ⟨M, 3, none⟩ (c3)).setCell ⟨M, 4, none⟩ (c4)).setCell ⟨M, 5, none⟩ (c5))) [c0, c1, c2, c3, c4, c5] ∧ Below w.heap.size w ((((((w3.setCell ⟨M, 0, none⟩ (c0)).setCell ⟨M, 1, none⟩ (c1)).setCell ⟨M, 2, none⟩ (c2)).setCell ⟨M, 3, none⟩ (c3)).setCell ⟨M, 4, none⟩ (c4)).setCell ⟨M, 5, none⟩ (c5)) := by
 have hot : ∀ y, y ≠ M → ((((((w3.setCell ⟨M, 0, none⟩ (c0)).setCell ⟨M, 1, none⟩ (c1)).setCell ⟨M, 2, none⟩ (c2)).setCell ⟨M, 3, none⟩ (c3)).setCell ⟨M, 4, none⟩ (c4)).setCell ⟨M, 5, none⟩ (c5)).heap[y]? = w3.heap[y]? := fun y hy => by
  repeat (rw [set_other hy])
 have g2 : w3.grownBy ((((((w3.setCell ⟨M, 0, none⟩ (c0)).setCell ⟨M, 1, none⟩ (c1)).setCell ⟨M, 2, none⟩ (c2)).setCell ⟨M, 3, none⟩ (c3)).setCell ⟨M, 4, none⟩ (c4)).setCell ⟨M, 5, none⟩ (c5)) (some M) := grown_set (grown_set (grown_set (grown_set (grown_set (grown_set (World.grownBy.refl w3 _) 0 c0) 1 c1) 2 c2) 3 c3) 4 c4) 5 c5
 have s2 : ((((((w3.setCell ⟨M, 0, none⟩ (c0)).setCell ⟨M, 1, none⟩ (c1)).setCell ⟨M, 2, none⟩ (c2)).setCell ⟨M, 3, none⟩ (c3)).setCell ⟨M, 4, none⟩ (c4)).setCell ⟨M, 5, none⟩ (c5)).heap.size = w3.heap.size := by simp only [size_set1]
 generalize ((((((w3.setCell ⟨M, 0, none⟩ (c0)).setCell ⟨M, 1, none⟩ (c1)).setCell ⟨M, 2, none⟩ (c2)).setCell ⟨M, 3, none⟩ (c3)).setCell ⟨M, 4, none⟩ (c4)).setCell ⟨M, 5, none⟩ (c5)) = wf at *
 refine ⟨V.lies_keep (fun h => h) (fun y hy => ?_) (fun y hy => ?_) _ hx, ⟨g2.os.trans B3.os, g2.tape.trans B3.tape, g2.output.trans B3.output, by have := B3.size; omega, fun q hq => (hot q (by omega)).trans (B3.block q hq)⟩⟩
 ·rcases hy with hy | hy
  ·have := hS y hy; exact hot y (by omega)
  ·exact hot y hy.2.1
 ·rcases hy with hy | hy
  ·exact .inl hy
  ·exact .inr ⟨by omega, by omega⟩
theorem getR_skip {m : List Mem} {key : ByteArray} : ∀ {j : Nat}, (∀ q (h : q < m.length), q < j → ¬ (m[q]).1.toList = key.toList) → getR m key = getR (m.drop j) key := by
 induction m with
 | nil => intro j _; simp
 | cons y t ih =>
  intro j h
  cases j with
  | zero => rfl
  | succ j =>
   have h0 : ¬ y.1.toList = key.toList := h 0 (by simp) (by omega)
   rw [getR, if_neg h0, List.drop_succ_cons]
   exact ih fun q hq hj => h (q + 1) (by simp; omega) (by omega)
theorem getR_hit {m : List Mem} {key : ByteArray} {j : Nat} (hj : j < m.length) (h : ∀ q (h : q < m.length), q < j → ¬ (m[q]).1.toList = key.toList) (he : (m[j]).1.toList = key.toList) : getR m key = (m[j]).2 := by
 rw [getR_skip h, List.drop_eq_getElem_cons hj, getR, if_pos he]
theorem getR_miss {m : List Mem} {key : ByteArray} (h : ∀ q (h : q < m.length), q < m.length → ¬ (m[q]).1.toList = key.toList) : getR m key = nullV := by
 rw [getR_skip h, List.drop_length]; rfl
set_option maxHeartbeats 8000000 in
set_option maxRecDepth 100000 in
theorem rget05_any (k : Int) (b : Bool) (i : Int) (s : ByteArray) (l : List V) (m : List Mem) (key : ByteArray) (S : Nat → Prop) (cs : List Value) (w : World) (hv : (V.mk k b i s l m).lies false w S cs) (hS : ∀ b, S b → b < w.heap.size) (hwt : (V.mk k b i s l m).wt ≤ 2147483648) :
 Calls Tryd.prog 30 #[.agg cs.toArray, .string key] w (RpPost (getR m key) S w) := by
 rw [V.lies] at hv
 obtain ⟨al, cl, bl, ol, am, cm, bm, om, rfl, ik, ii, is, hal, ham, hl, hm, _⟩ := hv
 have hml : m.length ≤ 2147483648 := by have := wtM_len m; simp only [V.wt] at hwt; omega
 have B2 : Below w.heap.size w ((w.alloc (.cells #[.int .i64 k, .bool b, .int .i64 i, .string s, .slice al l.length cl, .slice am m.length cm] 25)).alloc (.cells #[.int .i64 0, .bool false, .int .i64 0, .string ⟨#[]⟩, .slice none 0 0, .slice none 0 0] 25)) := two_below w _ _
 have hz2 : ((w.alloc (.cells #[.int .i64 k, .bool b, .int .i64 i, .string s, .slice al l.length cl, .slice am m.length cm] 25)).alloc (.cells #[.int .i64 0, .bool false, .int .i64 0, .string ⟨#[]⟩, .slice none 0 0, .slice none 0 0] 25)).heap.size = w.heap.size + 2 := by rw [alloc_size, alloc_size]
 have h0 := alloc2_keep1 w (.cells #[.int .i64 k, .bool b, .int .i64 i, .string s, .slice al l.length cl, .slice am m.length cm] 25) (.cells #[.int .i64 0, .bool false, .int .i64 0, .string ⟨#[]⟩, .slice none 0 0, .slice none 0 0] 25)
 have h1 := alloc2_new w (.cells #[.int .i64 k, .bool b, .int .i64 i, .string s, .slice al l.length cl, .slice am m.length cm] 25) (.cells #[.int .i64 0, .bool false, .int .i64 0, .string ⟨#[]⟩, .slice none 0 0, .slice none 0 0] 25)
 have HM : Hid (∀ W, Below w.heap.size w W → liesM false W S m bm om) := fun W hb => liesM_keep (fun h => h) (fun x hx => hb.block x (hS x hx)) (fun _ h => h) _ hm
 clear hl hm hwt
 go_enter Tryd.func30, Tryd.ntmps30
 go_wp2_with fail
 generalize ((w.alloc (.cells #[.int .i64 k, .bool b, .int .i64 i, .string s, .slice al l.length cl, .slice am m.length cm] 25)).alloc (.cells #[.int .i64 0, .bool false, .int .i64 0, .string ⟨#[]⟩, .slice none 0 0, .slice none 0 0] 25)) = w2 at *
 go_loopw [5] (fun e wr => ∃ j : Nat, j ≤ m.length ∧ e = .int .i64 (j : Int) ∧ wr = w2 ∧ Hid (∀ q (h : q < m.length), q < j → ¬ (m[q]).1.toList = key.toList)) (fun e _ => m.length - (RowKit.intOf e).toNat)
 case atStart => exact ⟨0, by omega, rfl, rfl, fun q _ h => by omega⟩
 case round =>
  obtain ⟨j, hj, rfl, rfl, HN⟩ := hrel
  have d5 : wr.cell? ⟨w.heap.size, 5, none⟩ = some (.slice am m.length cm) := by rw [cell_of_block h0]; rfl
  have z0 : wr.cell? ⟨w.heap.size + 1, 0, none⟩ = some (.int .i64 0) := by rw [cell_of_block h1]; rfl
  have z1 : wr.cell? ⟨w.heap.size + 1, 1, none⟩ = some (.bool false) := by rw [cell_of_block h1]; rfl
  have z2 : wr.cell? ⟨w.heap.size + 1, 2, none⟩ = some (.int .i64 0) := by rw [cell_of_block h1]; rfl
  have z3 : wr.cell? ⟨w.heap.size + 1, 3, none⟩ = some (.string ⟨#[]⟩) := by rw [cell_of_block h1]; rfl
  have z4 : wr.cell? ⟨w.heap.size + 1, 4, none⟩ = some (.slice none 0 0) := by rw [cell_of_block h1]; rfl
  have z5 : wr.cell? ⟨w.heap.size + 1, 5, none⟩ = some (.slice none 0 0) := by rw [cell_of_block h1]; rfl
  have fz := frozen_of_block h1
  by_cases hjl : j < m.length
  ·have y1 : (j : Int) < m.length := by omega
   obtain rfl : am = some ⟨bm, om, none⟩ := ham.at_.resolve_left (by omega)
   obtain ⟨hSb, hks, csj, hrow, hlj⟩ := liesM_get (HM.out wr B2) j hjl
   have HJ : Hid ((m[j]).2.lies false wr S csj) := hlj
   have HH : Hid ((m[j]).1.toList = key.toList → getR m key = (m[j]).2) := fun h => getR_hit hjl HN.out h
   have HX : Hid (¬ (m[j]).1.toList = key.toList → ∀ q (h : q < m.length), q < j + 1 → ¬ (m[q]).1.toList = key.toList) := fun h q hq hj2 => by
    rcases Nat.lt_or_ge q j with h2 | h2
    ·exact HN.out q hq h2
    ·obtain rfl : q = j := by omega
     exact h
   obtain ⟨ek, eb, ei, es, eal, enl, ecl, eam, enm, ecm, rfl⟩ := V.ten hlj
   rcases hxj : m[j] with ⟨ekey, xv⟩
   rw [hxj] at hks hrow HH HX HJ
   simp only at hks hrow HH HX HJ
   obtain ⟨q, q0, q1, q2, q3, q4, q5⟩ := row7 hrow
   clear hlj hxj HN
   by_cases he : ekey.toList = key.toList
   ·have ye : (ekey.toList == key.toList) = true := by rw [beq_iff_eq]; exact he
    have HG : Hid (getR m key = xv) := HH.out he
    have HE := hmk (wo_fin (x := xv) (M := w.heap.size + 1) (by omega) hS B2 (V.lies_keep (fun h => h) (fun _ _ => rfl) (fun y hy => .inl hy) _ HJ.out))
    clear HH HX HJ he hrow
    go_wp2_with fail
    (try simp only [Exit.inBlock, Exit.then])
    refine bodyPost_ret (v := .agg #[.int .i64 ek, .bool eb, .int .i64 ei, .string es, .slice eal enl ecl, .slice eam enm ecm]) ?_ rfl ?_
    rotate_left
    ·rw [HG.out]
     exact ⟨[.int .i64 ek, .bool eb, .int .i64 ei, .string es, .slice eal enl ecl, .slice eam enm ecm], rfl, HE.out.1, HE.out.2⟩
    ·rw [results_cell1 rfl]
     go_simp
   ·have ye : (ekey.toList == key.toList) = false := by rw [beq_eq_false_iff_ne]; exact he
    have HX := hmk (HX.out he)
    clear HH HJ he hrow q0 q1 q2 q3 q4 q5
    go_wp2_with fail
    go_roundw
    case rel => exact ⟨j + 1, by omega, by go_num, by first | rfl | trivial, HX⟩
    case measure => simp [RowKit.intOf]; omega
  ·obtain rfl : j = m.length := by omega
   have y1 : ¬ (m.length : Int) < m.length := by omega
   have HG : Hid (getR m key = nullV) := getR_miss HN.out
   have HE := hmk (wo_fin (x := nullV) (M := w.heap.size + 1) (by omega) hS B2 (null_lies wr _))
   clear HN
   go_wp2_with fail
   (try simp only [Exit.inBlock, Exit.then])
   refine bodyPost_ret (v := .agg #[.int .i64 0, .bool false, .int .i64 0, .string ⟨#[]⟩, .slice none 0 0, .slice none 0 0]) ?_ rfl ?_
   rotate_left
   ·rw [HG.out]
    exact ⟨[.int .i64 0, .bool false, .int .i64 0, .string ⟨#[]⟩, .slice none 0 0, .slice none 0 0], rfl, HE.out.1, HE.out.2⟩
   ·rw [results_cell1 rfl]
    go_simp
def flt (c : Mem → Bool) (qs : List (Mem × List Value)) (q : Nat) : List (Mem × List Value) := (qs.take q).filter (fun z => c z.1)
theorem flt_zero (c : Mem → Bool) (qs : List (Mem × List Value)) : flt c qs 0 = [] := by simp [flt]
theorem flt_yes {c : Mem → Bool} {qs : List (Mem × List Value)} {q : Nat} (h : q < qs.length) (hc : c (qs[q]).1 = true) : flt c qs (q + 1) = flt c qs q ++ [qs[q]] := by
 rw [flt, flt, List.take_succ_eq_append_getElem h, List.filter_append]
 simp [hc]
theorem flt_no {c : Mem → Bool} {qs : List (Mem × List Value)} {q : Nat} (h : q < qs.length) (hc : c (qs[q]).1 = false) : flt c qs (q + 1) = flt c qs q := by
 rw [flt, flt, List.take_succ_eq_append_getElem h, List.filter_append]
 simp [hc]
theorem flt_len (c : Mem → Bool) (qs : List (Mem × List Value)) (q : Nat) : (flt c qs q).length ≤ qs.length := by
 have h1 := List.length_filter_le (fun z : Mem × List Value => c z.1) (qs.take q)
 have h2 := List.length_take_le q qs
 have h3 : (qs.take q).length ≤ qs.length := by rw [List.length_take]; omega
 rw [flt]
 omega
theorem flt_all (c : Mem → Bool) (qs : List (Mem × List Value)) : (flt c qs qs.length).map (fun z => z.1) = (qs.map (fun z => z.1)).filter c := by
 rw [flt, List.take_length, List.filter_map]
 rfl
theorem flt_mem {c : Mem → Bool} {qs : List (Mem × List Value)} {q : Nat} {z : Mem × List Value} (h : z ∈ flt c qs q) : z ∈ qs := List.mem_of_mem_take (List.mem_filter.1 h).1
end Go.Proofs.YtjfldbmopjojdabDoor
