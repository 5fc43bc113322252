import Derived.Test.YtmmlejbebfkojaaDoorChkB
/- value.walk.enter. -/
set_option linter.unusedSimpArgs false
set_option linter.unusedVariables false
namespace Go.Proofs.YtmmlejbebfkojaaDoor
open Go.RowKit Go.Lib
structure Wk (B D n y d : Nat) (w : World) : Prop where
  b : w.heap[B]? = some (.cells #[.int .i64 (D : Int), .int .i64 (n : Int), .int .i64 (y : Int), .int .i64 (d : Int)] 42 (0, 0))
theorem Wk.lt {B D n y d : Nat} {w : World} (h : Wk B D n y d w) : B < w.heap.size := (Array.getElem?_eq_some_iff.1 h.b).1
theorem Wk.keep {B D n y d : Nat} {w w' : World} (h : Wk B D n y d w) (hb : w'.heap[B]? = w.heap[B]?) : Wk B D n y d w' := ⟨hb.trans h.b⟩
def keyB : List Mem → Nat
  | [] => 0
  | x :: t => x.1.size + keyB t
theorem keyB_le : ∀ m : List Mem, keyB m ≤ wtM m
  | [] => by simp [keyB, wtM]
  | (k, x) :: t => by have := keyB_le t; simp only [keyB, wtM]; omega
theorem keyB_app : ∀ a b : List Mem, keyB (a ++ b) = keyB a + keyB b
  | [], b => by simp [keyB]
  | x :: t, b => by have := keyB_app t b; simp only [keyB, List.cons_append]; omega
theorem keyB_take {m : List Mem} {j : Nat} (h : j < m.length) : keyB (m.take (j + 1)) = keyB (m.take j) + (m[j]).1.size := by
  rw [List.take_succ_eq_append_getElem h, keyB_app]; simp [keyB]
theorem keyB_take_le (m : List Mem) (j : Nat) : keyB (m.take j) ≤ keyB m := by
  have := keyB_app (m.take j) (m.drop j)
  rw [List.take_append_drop] at this
  omega
def goodB (k : Int) (b : Bool) (i : Int) (s : ByteArray) (nl : Nat) (m : List Mem) : Bool := plainB k b i s nl m.length && utfB s && riseB m
/-- what 'enter' answers and counts -/
def entF (D n y d lv : Nat) (g : Bool) (z : Nat) : Nat × Nat × Nat × Nat :=
  if 65536 ≤ n then (22, n, y, d) else if D < lv then (21, n, y, d) else if g = false then (20, n, y, d) else if 1048576 < y + z then (23, n + 1, y + z, max d lv) else (0, n + 1, y + z, max d lv)
def EntPost (B D : Nat) (r : Nat × Nat × Nat × Nat) (w : World) (e : Ending) (w' : World) : Prop := e = .returned (.int .i64 (r.1 : Int)) ∧ Wk B D r.2.1 r.2.2.1 r.2.2.2 w' ∧ w.grownBy w' (some B)
set_option maxHeartbeats 4000000 in
set_option maxRecDepth 100000 in
theorem enter_any (R : Bool) (k : Int) (b : Bool) (i : Int) (s : ByteArray) (l : List V) (m : List Mem) (B D n y d lv : Nat) (S : Nat → Prop) (cs : List Value) (w : World) (t : Tb w)
    (hl : (V.mk k b i s l m).lies R w S cs) (hS : ∀ b, S b → b ≠ B ∧ b < w.heap.size) (hW : Wk B D n y d w) (hB : 1 < B)
    (hwt : (V.mk k b i s l m).wt ≤ 281474976710656) (hn : n ≤ 281474976710656) (hy : y ≤ 281474976710656) (hd : d ≤ 281474976710656) (hlv : lv ≤ 281474976710656) (hD : D ≤ 281474976710656) :
    Calls Tryd.prog 23 #[.pointer (some ⟨B, 0, none⟩), .agg cs.toArray, .int .i64 (lv : Int)] w (EntPost B D (entF D n y d lv (goodB k b i s l.length m) (s.size + keyB m)) w) := by
  rw [V.lies] at hl
  obtain ⟨al, cl, bl, ol, am, cm, bm, om, rfl, hk, hi, hs, hal, ham, hl1, hm1, _⟩ := hl
  have HM : Hid (liesM R w S m bm om) := hm1
  clear hl1 hm1
  rw [V.wt] at hwt
  have hmm := wtM_len m
  have hkb := keyB_le m
  have hBl := hW.lt
  have g0 : w.grownBy (w.alloc (.cells #[.int .i64 k, .bool b, .int .i64 i, .string s, .slice al l.length cl, .slice am m.length cm] 25)) (some B) := World.grownBy_alloc _ _ _
  have W0 : Wk B D n y d (w.alloc (.cells #[.int .i64 k, .bool b, .int .i64 i, .string s, .slice al l.length cl, .slice am m.length cm] 25)) := hW.keep (Below.heap_alloc w _ B hBl)
  have t0 : Tb (w.alloc (.cells #[.int .i64 k, .bool b, .int .i64 i, .string s, .slice al l.length cl, .slice am m.length cm] 25)) := t.grown g0 (fun r e => by cases e; exact hB)
  have c0 : (w.alloc (.cells #[.int .i64 k, .bool b, .int .i64 i, .string s, .slice al l.length cl, .slice am m.length cm] 25)).cell? ⟨B, 0, none⟩ = some (.int .i64 (D : Int)) := by rw [cell_of_block W0.b]; rfl
  have c1 : (w.alloc (.cells #[.int .i64 k, .bool b, .int .i64 i, .string s, .slice al l.length cl, .slice am m.length cm] 25)).cell? ⟨B, 1, none⟩ = some (.int .i64 (n : Int)) := by rw [cell_of_block W0.b]; rfl
  by_cases h1 : 65536 ≤ n
  · have y1 : (65536 : Int) ≤ n := by omega
    have HF : Hid (entF D n y d lv (goodB k b i s l.length m) (s.size + keyB m) = (22, n, y, d)) := by show _ = _; simp [entF, h1]
    go_enter Tryd.func23, Tryd.ntmps23
    go_wp2_with fail
    go_ret
    rw [HF.out]
    exact ⟨rfl, W0, g0⟩
  have y1 : ¬ (65536 : Int) ≤ n := by omega
  by_cases h2 : D < lv
  · have y2 : (D : Int) < lv := by omega
    have HF : Hid (entF D n y d lv (goodB k b i s l.length m) (s.size + keyB m) = (21, n, y, d)) := by show _ = _; simp [entF, h1, h2]
    go_enter Tryd.func23, Tryd.ntmps23
    go_wp2_with fail
    go_ret
    rw [HF.out]
    exact ⟨rfl, W0, g0⟩
  have y2 : ¬ (D : Int) < lv := by omega
  have cp := plain_any k b i s l.length m.length al am cl cm (w.alloc (.cells #[.int .i64 k, .bool b, .int .i64 i, .string s, .slice al l.length cl, .slice am m.length cm] 25))
  cases hP : plainB k b i s l.length m.length
  · have HF : Hid (entF D n y d lv (goodB k b i s l.length m) (s.size + keyB m) = (20, n, y, d)) := by show _ = _; simp [entF, h1, h2, goodB, hP]
    rw [hP] at cp
    go_enter Tryd.func23, Tryd.ntmps23
    go_wp2_with fail
    refine cp.mono ?_
    rintro e w1 ⟨rfl, b1⟩
    go_wp2_with fail
    go_ret
    rw [HF.out]
    exact ⟨rfl, W0.keep (b1.block _ W0.lt), grown_trans g0 ⟨b1.os, b1.tape, b1.output, b1.size, fun q hq _ => b1.block q hq⟩⟩
  rw [hP] at cp
  have hsz : s.size ≤ 281474976710656 := by omega
  have hbx : rowAt (w.alloc (.cells #[.int .i64 k, .bool b, .int .i64 i, .string s, .slice al l.length cl, .slice am m.length cm] 25)) w.heap.size 0 [.int .i64 k, .bool b, .int .i64 i, .string s, .slice al l.length cl, .slice am m.length cm] := box_row w _ 25
  have hbw : w.heap.size < (w.alloc (.cells #[.int .i64 k, .bool b, .int .i64 i, .string s, .slice al l.length cl, .slice am m.length cm] 25)).heap.size := box_lt w _
  go_enter Tryd.func23, Tryd.ntmps23
  go_wp2_with fail
  refine cp.mono ?_
  rintro e w1 ⟨rfl, b1⟩
  have W1 : Wk B D n y d w1 := W0.keep (b1.block _ W0.lt)
  have t1 : Tb w1 := t0.below b1 (by have := t0.z; omega)
  have hb1 := hbx.keep (b1.block _ hbw)
  have g1 : w.grownBy w1 (some B) := grown_trans g0 ⟨b1.os, b1.tape, b1.output, b1.size, fun q hq _ => b1.block q hq⟩
  obtain ⟨d0, d1, d2, d3, d4, d5⟩ := row6z hb1
  have cv := validString_any s w1 hsz t1.u
  cases hV : validD s.data.toList
  · have HF : Hid (entF D n y d lv (goodB k b i s l.length m) (s.size + keyB m) = (20, n, y, d)) := by show _ = _; simp [entF, h1, h2, goodB, utfB, hV]
    rw [hV] at cv
    go_wp2_with fail
    refine cv.mono ?_
    rintro e w2 ⟨rfl, b2⟩
    go_wp2_with fail
    go_ret
    rw [HF.out]
    exact ⟨rfl, W1.keep (b2.block _ W1.lt), grown_trans g1 ⟨b2.os, b2.tape, b2.output, b2.size, fun q hq _ => b2.block q hq⟩⟩
  rw [hV] at cv
  go_wp2_with fail
  refine cv.mono ?_
  rintro e w2 ⟨rfl, b2⟩
  have W2 : Wk B D n y d w2 := W1.keep (b2.block _ W1.lt)
  have t2 : Tb w2 := t1.below b2 (by have := t1.z; omega)
  have hb2 := hb1.keep (b2.block _ (by have := b1.size; omega))
  have g2 : w.grownBy w2 (some B) := grown_trans g1 ⟨b2.os, b2.tape, b2.output, b2.size, fun q hq _ => b2.block q hq⟩
  clear d0 d1 d2 d3 d4 d5
  obtain ⟨d0, d1, d2, d3, d4, d5⟩ := row6z hb2
  have hkeep : ∀ b, S b → w2.heap[b]? = w.heap[b]? := fun b hb => g2.block b (hS b hb).2 (fun e => (hS b hb).1 (Option.some.inj e))
  have hm2 : liesM false w2 S m bm om := liesM_keep (fun h => by cases h) hkeep (fun _ h => h) m HM.out
  have cr := rising_any false m am cm bm om S w2 t2 ham hm2 (fun b hb => Nat.lt_of_lt_of_le (hS b hb).2 g2.size) (by omega)
  clear hm2
  cases hR : riseB m
  · have HF : Hid (entF D n y d lv (goodB k b i s l.length m) (s.size + keyB m) = (20, n, y, d)) := by show _ = _; simp [entF, h1, h2, goodB, hR]
    rw [hR] at cr
    go_wp2_with fail
    refine cr.mono ?_
    rintro e w3 ⟨rfl, b3⟩
    go_wp2_with fail
    go_ret
    rw [HF.out]
    exact ⟨rfl, W2.keep (b3.block _ W2.lt), grown_trans g2 ⟨b3.os, b3.tape, b3.output, b3.size, fun q hq _ => b3.block q hq⟩⟩
  rw [hR] at cr
  go_wp2_with fail
  refine cr.mono ?_
  rintro e w3 ⟨rfl, b3⟩
  have W3 : Wk B D n y d w3 := W2.keep (b3.block _ W2.lt)
  have hb3 := hb2.keep (b3.block _ (by have := b1.size; have := b2.size; omega))
  have g3 : w.grownBy w3 (some B) := grown_trans g2 ⟨b3.os, b3.tape, b3.output, b3.size, fun q hq _ => b3.block q hq⟩
  have hg : goodB k b i s l.length m = true := by simp [goodB, hP, utfB, hV, hR]
  have HG : Hid (entF D n y d lv (goodB k b i s l.length m) (s.size + keyB m) = if 1048576 < y + (s.size + keyB m) then (23, n + 1, y + (s.size + keyB m), max d lv) else (0, n + 1, y + (s.size + keyB m), max d lv)) := by show _ = _; rw [hg]; simp [entF, h1, h2]
  clear d0 d1 d2 d3 d4 d5 hg hP hV hR cp cv cr
  obtain ⟨d0, d1, d2, d3, d4, d5⟩ := row6z hb3
  have e0 : w3.cell? ⟨B, 0, none⟩ = some (.int .i64 (D : Int)) := by rw [cell_of_block W3.b]; rfl
  have e1 : w3.cell? ⟨B, 1, none⟩ = some (.int .i64 (n : Int)) := by rw [cell_of_block W3.b]; rfl
  have e2 : w3.cell? ⟨B, 2, none⟩ = some (.int .i64 (y : Int)) := by rw [cell_of_block W3.b]; rfl
  have e3 : w3.cell? ⟨B, 3, none⟩ = some (.int .i64 (d : Int)) := by rw [cell_of_block W3.b]; rfl
  have ef : ∀ i, w3.frozen? ⟨B, i, none⟩ = false := frozen_of_block W3.b
  have hneB : B ≠ w.heap.size := by omega
  clear c0 c1
  go_wp2_with fail
  go_region
  go_wp2_with fail
  go_loopw [67] (fun e wr => ∃ j : Nat, j ≤ m.length ∧ e = .int .i64 (j : Int) ∧ Wk B D (n + 1) (y + s.size + keyB (m.take j)) (max d lv) wr ∧ w.grownBy wr (some B)) (fun e _ => m.length - (RowKit.intOf e).toNat)
  case atStart =>
    refine ⟨0, by omega, rfl, ⟨?_⟩, ?_⟩
    · have h := set_block (set_block (set_block W3.b 1 (.int .i64 ((n : Int) + 1))) 3 (.int .i64 (max (d : Int) (lv : Int)))) 2 (.int .i64 ((y : Int) + s.size))
      refine Eq.trans h ?_
      have q1 : (((n + 1 : Nat) : Int)) = (n : Int) + 1 := by omega
      have q2 : ((max d lv : Nat) : Int) = max (d : Int) (lv : Int) := by omega
      have q3 : ((y + s.size + keyB (m.take 0) : Nat) : Int) = (y : Int) + s.size := by simp [keyB]
      rw [q1, q2, q3]
      rfl
    · exact grown_trans (grown_set (grown_set (grown_set g3 1 _) 3 _) 2 _) (grown_drew _ _)
  case round =>
    clear W3 e0 e1 e2 e3 ef d0 d1 d2 d3 d4 d5 hb1 hb2 hb3 W1 W2 t1 t2 b1 b2 b3
    obtain ⟨j, hj, rfl, Wj, gj⟩ := hrel
    by_cases hjl : j < m.length
    · have y3 : (j : Int) < m.length := by omega
      obtain ⟨hSb, hks, csj, hrow, hlj⟩ := liesM_get HM.out j hjl
      obtain rfl : am = some ⟨bm, om, none⟩ := ham.at_.resolve_left (by omega)
      have hrow' := hrow.keep (gj.block _ (hS _ hSb).2 (fun e => (hS _ hSb).1 (Option.some.inj e)))
      obtain ⟨ek, eb, ei, es, eal, enl, ecl, eam, enm, ecm, rfl⟩ := V.ten hlj
      obtain ⟨q, q0, q1, q2, q3, q4, q5⟩ := row7 hrow'
      clear hlj hrow hrow'
      have hkz : (m[j]).1.size + (m[j]).2.wt ≤ wtM m := wtM_mem (List.getElem_mem hjl)
      have HT : Hid (keyB (m.take (j + 1)) = keyB (m.take j) + (m[j]).1.size) := keyB_take hjl
      have hkt := keyB_take_le m j
      generalize (m[j]).1 = key at *
      have Wa : ∀ o, Wk B D (n + 1) (y + s.size + keyB (m.take j)) (max d lv) (wr.alloc o) := fun o => Wj.keep (Below.heap_alloc wr o B Wj.lt)
      have e2 : ∀ o, (wr.alloc o).cell? ⟨B, 2, none⟩ = some (.int .i64 ((y + s.size + keyB (m.take j) : Nat) : Int)) := fun o => by rw [cell_of_block (Wa o).b]; rfl
      have ef : ∀ o i, (wr.alloc o).frozen? ⟨B, i, none⟩ = false := fun o => frozen_of_block (Wa o).b
      have hne : B ≠ wr.heap.size := by have := Wj.lt; omega
      generalize hY : y + s.size + keyB (m.take j) = Y at *
      have hYb : Y ≤ 844424930131968 := by omega
      have HY : Hid (y + s.size + keyB (m.take (j + 1)) = Y + key.size) := by show _ = _; rw [HT.out]; omega
      clear hY hkt
      go_wp2_with fail
      go_region
      go_wp2_with fail
      go_roundw
      case rel =>
        refine ⟨j + 1, by omega, by go_num, ⟨?_⟩, ?_⟩
        · rw [HY.out]
          refine Eq.trans (set_block (Wa _).b 2 (.int .i64 ((Y : Int) + key.size))) ?_
          have q1 : ((Y + key.size : Nat) : Int) = (Y : Int) + key.size := by omega
          rw [q1]
          rfl
        · exact grown_trans (grown_set (grown_alloc gj _) 2 _) (grown_drew _ _)
      case measure => simp [RowKit.intOf]; omega
    · obtain rfl : j = m.length := by omega
      rw [List.take_length] at Wj
      have y3 : ¬ (m.length : Int) < m.length := by omega
      have e2 : wr.cell? ⟨B, 2, none⟩ = some (.int .i64 ((y + s.size + keyB m : Nat) : Int)) := by rw [cell_of_block Wj.b]; rfl
      have HA : Hid (y + (s.size + keyB m) = y + s.size + keyB m) := by show _ = _; omega
      by_cases hb : 1048576 < y + s.size + keyB m
      · have y4 : (1048576 : Int) < ((y + s.size + keyB m : Nat) : Int) := by omega
        generalize y + s.size + keyB m = Y at *
        go_wp2_with fail
        go_ret
        rw [HG.out, HA.out, if_pos hb]
        exact ⟨rfl, Wj, gj⟩
      · have y4 : ¬ (1048576 : Int) < ((y + s.size + keyB m : Nat) : Int) := by omega
        generalize y + s.size + keyB m = Y at *
        go_wp2_with fail
        go_ret
        rw [HG.out, HA.out, if_neg hb]
        exact ⟨rfl, Wj, gj⟩
end Go.Proofs.YtmmlejbebfkojaaDoor
