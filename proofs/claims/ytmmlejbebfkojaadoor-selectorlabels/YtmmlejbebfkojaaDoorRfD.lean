import Derived.Test.YtmmlejbebfkojaaDoorRfC
import Derived.Test.YtmmlejbebfkojaaDoorChkD
import Derived.Laws.ResultCell
import Derived.Deep.RegionHeld3
/- freeholdref02: walk. -/
set_option linter.unusedSimpArgs false
set_option linter.unusedVariables false
namespace Go.Proofs.YtmmlejbebfkojaaDoor
open Go.RowKit Go.Lib
def RwPost (r : Nat × St) (w : World) (e : Ending) (w' : World) : Prop :=
  ∃ a c : Nat, e = .returned (.tuple #[.agg #[.int .i64 (a : Int), .int .i64 (c : Int)], .int .i64 (r.1 : Int)]) ∧ (r.1 = 0 → a = r.2.1 ∧ c = r.2.2.1) ∧ Below w.heap.size w w'
structure RwF (w : World) (box : Array Value) (n y : Nat) (wr : World) : Prop where
  below : Below w.heap.size w wr
  b0 : wr.heap[w.heap.size]? = some (.cells box 25 (0, 0))
  b1 : wr.heap[w.heap.size + 1]? = some (.cells #[.int .i64 (n : Int), .int .i64 (y : Int)] 46 (0, 0))
  b2 : wr.heap[w.heap.size + 1 + 1]? = some (.cells #[.int .i64 0, .int .i64 0] 46 (0, 0))
theorem RwF.lt {w : World} {box : Array Value} {n y : Nat} {wr : World} (h : RwF w box n y wr) : w.heap.size + 3 ≤ wr.heap.size := (Array.getElem?_eq_some_iff.1 h.b2).1
theorem RwF.grown {w : World} {box : Array Value} {n y : Nat} {wr wr' : World} (h : RwF w box n y wr) (g : wr.grownBy wr' none) : RwF w box n y wr' := by
  have hs := h.lt
  exact ⟨h.below.grown g (by omega) (fun r e => by cases e), (g.block _ (by omega) (by simp)).trans h.b0, (g.block _ (by omega) (by simp)).trans h.b1, (g.block _ (by omega) (by simp)).trans h.b2⟩
theorem RwF.set {w : World} {box : Array Value} {n y n' y' : Nat} {wr : World} (h : RwF w box n y wr) (i : Nat) (u : Value) (e : (#[.int .i64 (n : Int), .int .i64 (y : Int)] : Array Value).setIfInBounds i u = #[.int .i64 (n' : Int), .int .i64 (y' : Int)]) : RwF w box n' y' (wr.setCell ⟨w.heap.size + 1, i, none⟩ u) := by
  have hs := h.lt
  have g := grown_set1 wr (w.heap.size + 1) i u
  have hn : ∀ q, q ≠ w.heap.size + 1 → some q ≠ some (w.heap.size + 1) := fun q hq e => hq (Option.some.inj e)
  refine ⟨h.below.grown g (by omega) (fun r e => by cases e; omega), (g.block _ (by omega) (hn _ (by omega))).trans h.b0, ?_, (g.block _ (by omega) (hn _ (by omega))).trans h.b2⟩
  rw [set_block h.b1, e]
theorem RwF.setOther {w : World} {box : Array Value} {n y : Nat} {wr : World} (h : RwF w box n y wr) {B : Nat} (hB : w.heap.size + 3 ≤ B) (i : Nat) (u : Value) : RwF w box n y (wr.setCell ⟨B, i, none⟩ u) := by
  have hs := h.lt
  have g := grown_set1 wr B i u
  have hn : ∀ q, q < w.heap.size + 3 → some q ≠ some B := fun q hq e => by have := Option.some.inj e; omega
  exact ⟨h.below.grown g (by omega) (fun r e => by cases e; omega), (g.block _ (by omega) (hn _ (by omega))).trans h.b0, (g.block _ (by omega) (hn _ (by omega))).trans h.b1, (g.block _ (by omega) (hn _ (by omega))).trans h.b2⟩
theorem below_set2 {B M : Nat} {a w : World} (h : Below B a w) (hM : B ≤ M) (i1 i2 : Nat) (u1 u2 : Value) : Below B a ((w.setCell ⟨M, i1, none⟩ u1).setCell ⟨M, i2, none⟩ u2) :=
  (h.setCell (p := ⟨M, i1, none⟩) hM u1).setCell (p := ⟨M, i2, none⟩) hM u2
set_option maxHeartbeats 8000000 in
set_option maxRecDepth 100000 in
theorem rwalk_wide (v : V) : ∀ (R : Bool) (D lv n y d : Nat) (S : Nat → Prop) (cs : List Value) (w : World), v.lies R w S cs → (∀ b, S b → b < w.heap.size) → v.wt ≤ 281474976710656 → Bnd D (n, y, d) → D ≤ 40 → lv ≤ 41 →
    Calls Tryd.prog 20 #[.agg cs.toArray, .int .i64 (lv : Int), .int .i64 (D : Int), .agg #[.int .i64 (n : Int), .int .i64 (y : Int)]] w (RwPost (chkV D v lv (n, y, d)) w) := by
  induction v using V.ind_v with
  | h k b i s l m ihl ihm =>
  intro R D lv n y d S cs w hl hS hwt hb hD hlv
  have cg := rgood_any R k b i s l m S cs
  have hl0 := hl
  rw [V.lies] at hl
  obtain ⟨al, cl, bl, ol, am, cm, bm, om, rfl, hk, hi, hs, hal, ham, hl1, hm1, _⟩ := hl
  have HL : Hid (liesL R w S l bl ol) := hl1
  have HM : Hid (liesM R w S m bm om) := hm1
  clear hl1 hm1
  have hwt' := hwt
  rw [V.wt] at hwt
  have hlm := wtL_len l
  have hmm := wtM_len m
  have hkb := keyB_le m
  have hn := hb.n
  have hy := hb.y
  have hd := hb.d
  simp only at hn hy hd
  have F0 : RwF w #[.int .i64 k, .bool b, .int .i64 i, .string s, .slice al l.length cl, .slice am m.length cm] n y (((w.alloc (.cells #[.int .i64 k, .bool b, .int .i64 i, .string s, .slice al l.length cl, .slice am m.length cm] 25)).alloc (.cells #[.int .i64 (n : Int), .int .i64 (y : Int)] 46)).alloc (.cells #[.int .i64 0, .int .i64 0] 46)) :=
    ⟨three_below w _ _ _, (three_allocs w _ _ _).1, (three_allocs w _ _ _).2.1, (three_allocs w _ _ _).2.2⟩
  have HC : Hid (chkV D (.mk k b i s l m) lv (n, y, d) = if (entF D n y d lv (goodB k b i s l.length m) (s.size + keyB m)).1 = 0 then (if (chkL D l (lv + 1) (entF D n y d lv (goodB k b i s l.length m) (s.size + keyB m)).2).1 = 0 then chkM D m (lv + 1) (chkL D l (lv + 1) (entF D n y d lv (goodB k b i s l.length m) (s.size + keyB m)).2).2 else chkL D l (lv + 1) (entF D n y d lv (goodB k b i s l.length m) (s.size + keyB m)).2) else entF D n y d lv (goodB k b i s l.length m) (s.size + keyB m)) := by show _ = _; rw [chkV]
  generalize chkV D (.mk k b i s l m) lv (n, y, d) = RR at *
  go_enter Tryd.func20, Tryd.ntmps20
  go_upto_region 1 with fail
  generalize (((w.alloc (.cells #[.int .i64 k, .bool b, .int .i64 i, .string s, .slice al l.length cl, .slice am m.length cm] 25)).alloc (.cells #[.int .i64 (n : Int), .int .i64 (y : Int)] 46)).alloc (.cells #[.int .i64 0, .int .i64 0] 46)) = w0 at *
  have hz0 := F0.lt
  have s0 : w0.cell? ⟨w.heap.size + 1, 0, none⟩ = some (.int .i64 (n : Int)) := by rw [cell_of_block F0.b1]; rfl
  have s1 : w0.cell? ⟨w.heap.size + 1, 1, none⟩ = some (.int .i64 (y : Int)) := by rw [cell_of_block F0.b1]; rfl
  have t0 : w0.cell? ⟨w.heap.size + 1 + 1, 0, none⟩ = some (.int .i64 0) := by rw [cell_of_block F0.b2]; rfl
  have t1 : w0.cell? ⟨w.heap.size + 1 + 1, 1, none⟩ = some (.int .i64 0) := by rw [cell_of_block F0.b2]; rfl
  have tf : ∀ i, w0.frozen? ⟨w.heap.size + 1 + 1, i, none⟩ = false := frozen_of_block F0.b2
  have sf : ∀ i, w0.frozen? ⟨w.heap.size + 1, i, none⟩ = false := frozen_of_block F0.b1
  by_cases h1 : 65536 ≤ n
  · have y1 : (65536 : Int) ≤ n := by omega
    have HF : Hid (RR.1 = 22) := by show _ = _; rw [HC.out]; simp [entF, h1]
    go_wp2_with fail
    (try simp only [Exit.inBlock, Exit.then])
    refine bodyPost_ret (v := .tuple #[.agg #[.int .i64 (n : Int), .int .i64 (y : Int)], .int .i64 22]) ?_ rfl ⟨n, y, by rw [HF.out]; rfl, fun h => by rw [HF.out] at h; omega, below_set2 F0.below (by omega) _ _ _ _⟩
    rw [results_cell_tmp rfl]
    go_simp
  have y1 : ¬ (65536 : Int) ≤ n := by omega
  by_cases h2 : D < lv
  · have y2 : (D : Int) < lv := by omega
    have HF : Hid (RR.1 = 21) := by show _ = _; rw [HC.out]; simp [entF, h1, h2]
    go_wp2_with fail
    (try simp only [Exit.inBlock, Exit.then])
    refine bodyPost_ret (v := .tuple #[.agg #[.int .i64 (n : Int), .int .i64 (y : Int)], .int .i64 21]) ?_ rfl ⟨n, y, by rw [HF.out]; rfl, fun h => by rw [HF.out] at h; omega, below_set2 F0.below (by omega) _ _ _ _⟩
    rw [results_cell_tmp rfl]
    go_simp
  have y2 : ¬ (D : Int) < lv := by omega
  have hlv0 : lv ≤ D := by omega
  have cg0 := cg w0 (V.lies_keep (fun h => h) (fun x hx => F0.below.block x (hS x hx)) (fun _ h => h) _ hl0) (fun x hx => by have := hS x hx; omega) hwt'
  have d0 : w0.cell? ⟨w.heap.size, 0, none⟩ = some (.int .i64 k) := by rw [cell_of_block F0.b0]; rfl
  have d1 : w0.cell? ⟨w.heap.size, 1, none⟩ = some (.bool b) := by rw [cell_of_block F0.b0]; rfl
  have d2 : w0.cell? ⟨w.heap.size, 2, none⟩ = some (.int .i64 i) := by rw [cell_of_block F0.b0]; rfl
  have d3 : w0.cell? ⟨w.heap.size, 3, none⟩ = some (.string s) := by rw [cell_of_block F0.b0]; rfl
  have d4 : w0.cell? ⟨w.heap.size, 4, none⟩ = some (.slice al l.length cl) := by rw [cell_of_block F0.b0]; rfl
  have d5 : w0.cell? ⟨w.heap.size, 5, none⟩ = some (.slice am m.length cm) := by rw [cell_of_block F0.b0]; rfl
  clear hl0 cg
  have HC2 : Hid (goodB k b i s l.length m = true → RR = if 1048576 < y + (s.size + keyB m) then (23, n + 1, y + (s.size + keyB m), max d lv) else (if (chkL D l (lv + 1) (n + 1, y + (s.size + keyB m), max d lv)).1 = 0 then chkM D m (lv + 1) (chkL D l (lv + 1) (n + 1, y + (s.size + keyB m), max d lv)).2 else chkL D l (lv + 1) (n + 1, y + (s.size + keyB m), max d lv))) := fun hg => by
    rw [HC.out, hg]
    have e : entF D n y d lv true (s.size + keyB m) = if 1048576 < y + (s.size + keyB m) then (23, n + 1, y + (s.size + keyB m), max d lv) else (0, n + 1, y + (s.size + keyB m), max d lv) := by unfold entF; rw [if_neg h1, if_neg h2]; rfl
    rw [e]
    by_cases hx : 1048576 < y + (s.size + keyB m)
    · rw [if_pos hx, if_pos hx]; rfl
    · rw [if_neg hx, if_neg hx]; rfl
  cases hG : goodB k b i s l.length m
  · have HF : Hid (RR.1 = 20) := by show _ = _; rw [HC.out, hG]; simp [entF, h1, h2]
    rw [hG] at cg0
    clear HC HC2 hG
    go_wp2_with fail
    refine cg0.mono ?_
    rintro e w1 ⟨rfl, b1⟩
    have F1 := F0.grown (grown_of_below b1)
    have s0' : w1.cell? ⟨w.heap.size + 1, 0, none⟩ = some (.int .i64 (n : Int)) := by rw [cell_of_block F1.b1]; rfl
    have s1' : w1.cell? ⟨w.heap.size + 1, 1, none⟩ = some (.int .i64 (y : Int)) := by rw [cell_of_block F1.b1]; rfl
    have t0' : w1.cell? ⟨w.heap.size + 1 + 1, 0, none⟩ = some (.int .i64 0) := by rw [cell_of_block F1.b2]; rfl
    have t1' : w1.cell? ⟨w.heap.size + 1 + 1, 1, none⟩ = some (.int .i64 0) := by rw [cell_of_block F1.b2]; rfl
    have tf' : ∀ i, w1.frozen? ⟨w.heap.size + 1 + 1, i, none⟩ = false := frozen_of_block F1.b2
    go_wp2_with fail
    (try simp only [Exit.inBlock, Exit.then])
    refine bodyPost_ret (v := .tuple #[.agg #[.int .i64 (n : Int), .int .i64 (y : Int)], .int .i64 20]) ?_ rfl ⟨n, y, by rw [HF.out]; rfl, fun h => by rw [HF.out] at h; omega, below_set2 F1.below (by omega) _ _ _ _⟩
    rw [results_cell_tmp rfl]
    go_simp
  rw [hG] at cg0
  have HC3 : Hid _ := HC2.out hG
  clear HC HC2 hG
  go_wp2_with fail
  refine cg0.mono ?_
  rintro e w1 ⟨rfl, b1⟩
  have F1 := F0.grown (grown_of_below b1)
  have s0' : w1.cell? ⟨w.heap.size + 1, 0, none⟩ = some (.int .i64 (n : Int)) := by rw [cell_of_block F1.b1]; rfl
  have s1' : w1.cell? ⟨w.heap.size + 1, 1, none⟩ = some (.int .i64 (y : Int)) := by rw [cell_of_block F1.b1]; rfl
  have sf' : ∀ i, w1.frozen? ⟨w.heap.size + 1, i, none⟩ = false := frozen_of_block F1.b1
  have d3' : w1.cell? ⟨w.heap.size, 3, none⟩ = some (.string s) := by rw [cell_of_block F1.b0]; rfl
  clear s0 s1 t0 t1 tf sf d0 d1 d2 d3 d4 d5 cg0
  have F2 := (F1.set (n' := n + 1) (y' := y) 0 (.int .i64 ((n : Int) + 1)) (by rw [show (((n + 1 : Nat) : Int)) = (n : Int) + 1 by omega]; rfl)).set (n' := n + 1) (y' := y + s.size) 1 (.int .i64 ((y : Int) + s.size)) (by rw [show (((y + s.size : Nat) : Int)) = (y : Int) + s.size by omega]; rfl)
  have hzz : w.heap.size + 3 ≤ w1.heap.size := F1.lt
  go_wp2_with fail
  go_loopw [11] (fun e wr => ∃ j : Nat, j ≤ m.length ∧ e = .int .i64 (j : Int) ∧ RwF w #[.int .i64 k, .bool b, .int .i64 i, .string s, .slice al l.length cl, .slice am m.length cm] (n + 1) (y + s.size + keyB (m.take j)) wr) (fun e _ => m.length - (RowKit.intOf e).toNat)
  case atStart => exact ⟨0, by omega, rfl, by simpa [keyB] using F2⟩
  case round =>
    clear F0 F1 F2 s0' s1' sf' d3'
    obtain ⟨j, hj, rfl, Fj⟩ := hrel
    have d5 : wr.cell? ⟨w.heap.size, 5, none⟩ = some (.slice am m.length cm) := by rw [cell_of_block Fj.b0]; rfl
    have d4 : wr.cell? ⟨w.heap.size, 4, none⟩ = some (.slice al l.length cl) := by rw [cell_of_block Fj.b0]; rfl
    have sf : ∀ i, wr.frozen? ⟨w.heap.size + 1, i, none⟩ = false := frozen_of_block Fj.b1
    by_cases hjl : j < m.length
    · have y3 : (j : Int) < m.length := by omega
      obtain ⟨hSb, hks, csj, hrow, hlj⟩ := liesM_get HM.out j hjl
      obtain rfl : am = some ⟨bm, om, none⟩ := ham.at_.resolve_left (by omega)
      have q0 : wr.cell? ⟨bm, om + j * 7, none⟩ = some (.string (m[j]).1) := hrow.keep (Fj.below.block _ (hS _ hSb)) 0 _ rfl
      have hkz : (m[j]).1.size + (m[j]).2.wt ≤ wtM m := wtM_mem (List.getElem_mem hjl)
      have hkt := keyB_take_le m j
      have HY : Hid (y + s.size + keyB (m.take (j + 1)) = y + s.size + keyB (m.take j) + (m[j]).1.size) := by show _ = _; rw [keyB_take hjl]; omega
      generalize (m[j]).1 = key at *
      have hYb : y + s.size + keyB (m.take j) ≤ 844424930131968 := by omega
      generalize y + s.size + keyB (m.take j) = Y at *
      have s1 : wr.cell? ⟨w.heap.size + 1, 1, none⟩ = some (.int .i64 (Y : Int)) := by rw [cell_of_block Fj.b1]; rfl
      have hne : bm ≠ w.heap.size + 1 := by have := hS _ hSb; omega
      have F3 := (Fj.grown (grown_drew wr none)).set (n' := n + 1) (y' := Y + key.size) 1 (.int .i64 ((Y : Int) + key.size)) (by rw [show (((Y + key.size : Nat) : Int)) = (Y : Int) + key.size by omega]; rfl)
      clear hrow hlj hkt
      go_wp2_with fail
      go_region
      all_goals go_wp2_with fail
      all_goals go_roundw
      all_goals first
        | exact ⟨j + 1, by omega, by go_num, by rw [HY.out]; exact F3⟩
        | (simp [RowKit.intOf]; omega)
    · obtain rfl : j = m.length := by omega
      rw [List.take_length] at Fj
      have y3 : ¬ (m.length : Int) < m.length := by omega
      have HA : Hid (y + (s.size + keyB m) = y + s.size + keyB m) := by show _ = _; omega
      have hYb : y + s.size + keyB m ≤ 844424930131968 := by omega
      generalize y + s.size + keyB m = Y at *
      have s0 : wr.cell? ⟨w.heap.size + 1, 0, none⟩ = some (.int .i64 ((n + 1 : Nat) : Int)) := by rw [cell_of_block Fj.b1]; rfl
      have s1 : wr.cell? ⟨w.heap.size + 1, 1, none⟩ = some (.int .i64 (Y : Int)) := by rw [cell_of_block Fj.b1]; rfl
      have t0 : wr.cell? ⟨w.heap.size + 1 + 1, 0, none⟩ = some (.int .i64 0) := by rw [cell_of_block Fj.b2]; rfl
      have t1 : wr.cell? ⟨w.heap.size + 1 + 1, 1, none⟩ = some (.int .i64 0) := by rw [cell_of_block Fj.b2]; rfl
      have tf : ∀ i, wr.frozen? ⟨w.heap.size + 1 + 1, i, none⟩ = false := frozen_of_block Fj.b2
      by_cases hb : 1048576 < Y
      · have y4 : (1048576 : Int) < (Y : Int) := by omega
        have HF : Hid (RR.1 = 23) := by show _ = _; rw [HC3.out, HA.out, if_pos hb]
        go_wp2_with fail
        (try simp only [Exit.inBlock, Exit.then])
        refine bodyPost_ret (v := .tuple #[.agg #[.int .i64 ((n + 1 : Nat) : Int), .int .i64 (Y : Int)], .int .i64 23]) ?_ rfl ⟨n + 1, Y, by rw [HF.out]; rfl, fun h => by rw [HF.out] at h; omega, below_set2 Fj.below (by omega) _ _ _ _⟩
        rw [results_cell_tmp rfl]
        go_simp
      · have y4 : ¬ (1048576 : Int) < (Y : Int) := by omega
        have HC4 : Hid (RR = if (chkL D l (lv + 1) (n + 1, Y, max d lv)).1 = 0 then chkM D m (lv + 1) (chkL D l (lv + 1) (n + 1, Y, max d lv)).2 else chkL D l (lv + 1) (n + 1, Y, max d lv)) := by show _ = _; rw [HC3.out, HA.out, if_neg hb]
        clear HC3 HA
        have hb0 : Bnd D (n + 1, Y, max d lv) := ⟨by show n + 1 ≤ 65536; omega, by show Y ≤ 1048576; omega, by show max d lv ≤ D; omega⟩
        go_wp2_with fail
        rename World => wA
        clear s0 s1 t0 t1 tf sf d5
        go_loopw [12] (fun e wr => ∃ (j : Nat) (q : St), j ≤ l.length ∧ e = .int .i64 (j : Int) ∧ Hid (chkL D l (lv + 1) (n + 1, Y, max d lv) = chkL D (l.drop j) (lv + 1) q) ∧ Bnd D q ∧ RwF w #[.int .i64 k, .bool b, .int .i64 i, .string s, .slice al l.length cl, .slice am m.length cm] q.1 q.2.1 wr) (fun e _ => l.length - (RowKit.intOf e).toNat)
        case atStart => exact ⟨0, _, by omega, rfl, rfl, hb0, Fj⟩
        case round =>
          clear Fj d4
          obtain ⟨j, q, hj, rfl, HQ, qb, Fj⟩ := hrel
          have hlt := Fj.lt
          have d4 : wr.cell? ⟨w.heap.size, 4, none⟩ = some (.slice al l.length cl) := by rw [cell_of_block Fj.b0]; rfl
          have d5 : wr.cell? ⟨w.heap.size, 5, none⟩ = some (.slice am m.length cm) := by rw [cell_of_block Fj.b0]; rfl
          have s0 : wr.cell? ⟨w.heap.size + 1, 0, none⟩ = some (.int .i64 (q.1 : Int)) := by rw [cell_of_block Fj.b1]; rfl
          have s1 : wr.cell? ⟨w.heap.size + 1, 1, none⟩ = some (.int .i64 (q.2.1 : Int)) := by rw [cell_of_block Fj.b1]; rfl
          by_cases hjl : j < l.length
          · have y5 : (j : Int) < l.length := by omega
            obtain ⟨hSb, csj, hrow, hlj⟩ := liesL_get HL.out j hjl
            obtain rfl : al = some ⟨bl, ol, none⟩ := hal.at_.resolve_left (by omega)
            have hkw : ∀ x, S x → wr.heap[x]? = w.heap[x]? := fun x hx => Fj.below.block x (hS x hx)
            obtain ⟨ek, eb, ei, es, eal, enl, ecl, eam, enm, ecm, rfl⟩ := V.ten hlj
            obtain ⟨q0, q1, q2, q3, q4, q5⟩ := row6 (hrow.keep (hkw _ hSb))
            have hbl : bl < wr.heap.size := World.block_lt_of_cell? wr _ q0
            have hc1 : ((lv + 1 : Nat) : Int) = (lv : Int) + 1 := by omega
            have IC : Hid (∀ w', Below wr.heap.size wr w' → Calls Tryd.prog 20 #[.agg #[.int .i64 ek, .bool eb, .int .i64 ei, .string es, .slice eal enl ecl, .slice eam enm ecm], .int .i64 ((lv : Int) + 1), .int .i64 (D : Int), .agg #[.int .i64 (q.1 : Int), .int .i64 (q.2.1 : Int)]] w' (RwPost (chkV D l[j] (lv + 1) q) w')) := fun w' hb => by
              have := ihl l[j] (List.getElem_mem hjl) R D (lv + 1) q.1 q.2.1 q.2.2 S _ w' (V.lies_keep (fun h => h) (fun x hx => (hb.block x (by have := hS x hx; omega)).trans (hkw x hx)) (fun _ h => h) _ hlj) (fun x hx => by have := hS x hx; have := hb.size; omega) (by have := wtL_mem (List.getElem_mem hjl); omega) qb hD (by omega)
              rw [hc1] at this
              exact this
            have HD : Hid (chkL D (l.drop j) (lv + 1) q = if (chkV D l[j] (lv + 1) q).1 = 0 then chkL D (l.drop (j + 1)) (lv + 1) (chkV D l[j] (lv + 1) q).2 else chkV D l[j] (lv + 1) q) := chkL_drop hjl _ _
            have HB := chkV_bnd D l[j] (lv + 1) q qb
            generalize chkV D l[j] (lv + 1) q = z at *
            clear hlj hrow hc1 hkw
            go_wp2_with fail
            have KP : Hid (∀ w', Below wr.heap.size wr w' → w'.cell? ⟨w.heap.size, 4, none⟩ = some (.slice (some ⟨bl, ol, none⟩) l.length cl) ∧ w'.cell? ⟨w.heap.size + 1, 0, none⟩ = some (.int .i64 (q.1 : Int)) ∧ w'.cell? ⟨w.heap.size + 1, 1, none⟩ = some (.int .i64 (q.2.1 : Int)) ∧ w'.cell? ⟨bl, ol + j * 6, none⟩ = some (.int .i64 ek) ∧ w'.cell? ⟨bl, ol + j * 6 + 1, none⟩ = some (.bool eb) ∧ w'.cell? ⟨bl, ol + j * 6 + 2, none⟩ = some (.int .i64 ei) ∧ w'.cell? ⟨bl, ol + j * 6 + 3, none⟩ = some (.string es) ∧ w'.cell? ⟨bl, ol + j * 6 + 4, none⟩ = some (.slice eal enl ecl) ∧ w'.cell? ⟨bl, ol + j * 6 + 5, none⟩ = some (.slice eam enm ecm)) := fun w' hb =>
              ⟨(hb.cell (p := ⟨w.heap.size, 4, none⟩) (by show w.heap.size < _; omega)).trans d4, (hb.cell (p := ⟨w.heap.size + 1, 0, none⟩) (by show w.heap.size + 1 < _; omega)).trans s0, (hb.cell (p := ⟨w.heap.size + 1, 1, none⟩) (by show w.heap.size + 1 < _; omega)).trans s1, (hb.cell (p := ⟨bl, ol + j * 6, none⟩) hbl).trans q0, (hb.cell (p := ⟨bl, ol + j * 6 + 1, none⟩) hbl).trans q1, (hb.cell (p := ⟨bl, ol + j * 6 + 2, none⟩) hbl).trans q2, (hb.cell (p := ⟨bl, ol + j * 6 + 3, none⟩) hbl).trans q3, (hb.cell (p := ⟨bl, ol + j * 6 + 4, none⟩) hbl).trans q4, (hb.cell (p := ⟨bl, ol + j * 6 + 5, none⟩) hbl).trans q5⟩
            have BD : Hid (Below wr.heap.size wr wr.drew) := (Below.refl _ _).drew
            clear q0 q1 q2 q3 q4 q5 s0 s1 d5 d4
            have hwr : IntKind.i64.wrap ((lv : Int) + 1) = (lv : Int) + 1 := by rw [IntKind.wrap_i64]; omega
            have BA : Hid (Below wr.heap.size wr (wr.alloc (.cells #[.int .i64 0, .int .i64 0] 46)).drew) := ((Below.refl _ _).alloc (Nat.le_refl _) _).drew
            have hzA : (wr.alloc (.cells #[.int .i64 0, .int .i64 0] 46)).drew.heap.size = wr.heap.size + 1 := alloc_size wr _
            have hA : (wr.alloc (.cells #[.int .i64 0, .int .i64 0] 46)).drew.heap[wr.heap.size]? = some (.cells #[.int .i64 0, .int .i64 0] 46 (0, 0)) := heap_alloc_new wr _
            have HA : Hid (∀ w3 : World, Below (wr.alloc (.cells #[.int .i64 0, .int .i64 0] 46)).drew.heap.size (wr.alloc (.cells #[.int .i64 0, .int .i64 0] 46)).drew w3 → w3.heap[wr.heap.size]? = some (.cells #[.int .i64 0, .int .i64 0] 46 (0, 0)) ∧ Below wr.heap.size wr w3 ∧ wr.heap.size ≤ w3.heap.size) := fun w3 h =>
              ⟨(h.block _ (by rw [hzA]; omega)).trans hA, BA.out.trans (h.mono (by rw [hzA]; omega)), by have := h.size; rw [hzA] at this; omega⟩
            clear hA hzA
            go_region_held3 (fun w' => w'.cell? ⟨w.heap.size, 4, none⟩ = some (.slice (some ⟨bl, ol, none⟩) l.length cl) ∧ w'.cell? ⟨w.heap.size + 1, 0, none⟩ = some (.int .i64 (q.1 : Int)) ∧ w'.cell? ⟨w.heap.size + 1, 1, none⟩ = some (.int .i64 (q.2.1 : Int)) ∧ w'.cell? ⟨bl, ol + j * 6, none⟩ = some (.int .i64 ek) ∧ w'.cell? ⟨bl, ol + j * 6 + 1, none⟩ = some (.bool eb) ∧ w'.cell? ⟨bl, ol + j * 6 + 2, none⟩ = some (.int .i64 ei) ∧ w'.cell? ⟨bl, ol + j * 6 + 3, none⟩ = some (.string es) ∧ w'.cell? ⟨bl, ol + j * 6 + 4, none⟩ = some (.slice eal enl ecl) ∧ w'.cell? ⟨bl, ol + j * 6 + 5, none⟩ = some (.slice eam enm ecm)) (first | exact KP.out _ BD.out | exact KP.out _ BA.out | exact KP.out _ bw3.out | exact KP.out _ (bw3.out.alloc hs3.out _) | exact KP.out _ ((bw3.out.alloc hs3.out _).setCell (p := ⟨w3.heap.size, _, none⟩) hs3.out _) | exact KP.out _ (((bw3.out.alloc hs3.out _).setCell (p := ⟨w3.heap.size, _, none⟩) hs3.out _).setCell (p := ⟨w3.heap.size, _, none⟩) hs3.out _) | exact KP.out _ (bw3.out.setCell (p := ⟨wr.heap.size, _, none⟩) (Nat.le_refl _) _) | exact KP.out _ ((bw3.out.setCell (p := ⟨wr.heap.size, _, none⟩) (Nat.le_refl _) _).setCell (p := ⟨wr.heap.size, _, none⟩) (Nat.le_refl _) _)) ((go_at_call 20; first | (refine (IC.out _ BA.out).mono ?_; rintro e w3 ⟨a, c, rfl, hac, b3⟩; have z0 : w3.cell? ⟨wr.heap.size, 0, none⟩ = some (.int .i64 0) := (by rw [cell_of_block (HA.out w3 b3).1]; rfl); have z1 : w3.cell? ⟨wr.heap.size, 1, none⟩ = some (.int .i64 0) := (by rw [cell_of_block (HA.out w3 b3).1]; rfl); have zf : ∀ i, w3.frozen? ⟨wr.heap.size, i, none⟩ = false := frozen_of_block (HA.out w3 b3).1; have bw3 : Hid (Below wr.heap.size wr w3) := (HA.out w3 b3).2.1; have hs3 : Hid (wr.heap.size ≤ w3.heap.size) := (HA.out w3 b3).2.2; have HAC : Hid _ := hac; clear hac b3) | (refine (IC.out wr.drew BD.out).mono ?_; rintro e w3 ⟨a, c, rfl, hac, b3⟩; have bw3 : Hid (Below wr.heap.size wr w3) := BD.out.trans b3; have hs3 : Hid (wr.heap.size ≤ w3.heap.size) := b3.size; have HAC : Hid _ := hac; clear hac b3)))
            · have hs3' := hs3.out
              have F3 := Fj.grown (grown_of_below bw3.out)
              have F4 := F3.grown (World.grownBy_alloc w3 (.cells #[.int .i64 (a : Int), .int .i64 (c : Int)] 46) none)
              have u0 : (w3.alloc (.cells #[.int .i64 (a : Int), .int .i64 (c : Int)] 46)).cell? ⟨w.heap.size + 1, 0, none⟩ = some (.int .i64 (q.1 : Int)) := by rw [cell_of_block F4.b1]; rfl
              have u1 : (w3.alloc (.cells #[.int .i64 (a : Int), .int .i64 (c : Int)] 46)).cell? ⟨w.heap.size + 1, 1, none⟩ = some (.int .i64 (q.2.1 : Int)) := by rw [cell_of_block F4.b1]; rfl
              have uf : ∀ i, (w3.alloc (.cells #[.int .i64 (a : Int), .int .i64 (c : Int)] 46)).frozen? ⟨w.heap.size + 1, i, none⟩ = false := frozen_of_block F4.b1
              have v0 : (w3.alloc (.cells #[.int .i64 (a : Int), .int .i64 (c : Int)] 46)).cell? ⟨w.heap.size + 1 + 1, 0, none⟩ = some (.int .i64 0) := by rw [cell_of_block F4.b2]; rfl
              have v1 : (w3.alloc (.cells #[.int .i64 (a : Int), .int .i64 (c : Int)] 46)).cell? ⟨w.heap.size + 1 + 1, 1, none⟩ = some (.int .i64 0) := by rw [cell_of_block F4.b2]; rfl
              have vf : ∀ i, (w3.alloc (.cells #[.int .i64 (a : Int), .int .i64 (c : Int)] 46)).frozen? ⟨w.heap.size + 1 + 1, i, none⟩ = false := frozen_of_block F4.b2
              have g0 : (w3.alloc (.cells #[.int .i64 (a : Int), .int .i64 (c : Int)] 46)).cell? ⟨w3.heap.size, 0, none⟩ = some (.int .i64 (a : Int)) := by rw [cell_of_block (heap_alloc_new w3 _)]; rfl
              have g1 : (w3.alloc (.cells #[.int .i64 (a : Int), .int .i64 (c : Int)] 46)).cell? ⟨w3.heap.size, 1, none⟩ = some (.int .i64 (c : Int)) := by rw [cell_of_block (heap_alloc_new w3 _)]; rfl
              have hneq : w3.heap.size ≠ w.heap.size + 1 := by omega
              have hneq2 : w3.heap.size ≠ w.heap.size + 1 + 1 := by omega
              generalize (w3.alloc (.cells #[.int .i64 (a : Int), .int .i64 (c : Int)] 46)) = w4 at *
              clear F3 bw3 hs3 hs3'
              by_cases hz : z.1 = 0
              · have zb := HB hz
                have hz' : (z.1 : Int) = 0 := by omega
                have HZ : Hid (chkL D l (lv + 1) (n + 1, Y, max d lv) = chkL D (l.drop (j + 1)) (lv + 1) z.2) := by show _ = _; rw [HQ.out, HD.out, if_pos hz]
                obtain ⟨rfl, rfl⟩ := HAC.out hz
                have F5 := (F4.set (n' := z.2.1) (y' := q.2.1) 0 (.int .i64 (z.2.1 : Int)) rfl).set (n' := z.2.1) (y' := z.2.2.1) 1 (.int .i64 (z.2.2.1 : Int)) rfl
                clear HB HD HQ HAC
                rw [hz']
                go_wp2_with fail
                go_roundw
                case rel => exact ⟨j + 1, z.2, by omega, by go_num, HZ, zb, F5⟩
                case measure => simp [RowKit.intOf]; omega
              · have hz' : ((z.1 : Int) != 0) = true := by rw [bne_iff_ne]; omega
                have HF : Hid (RR = z) := by show _ = _; rw [HC4.out, HQ.out, HD.out, if_neg hz, if_neg hz]
                clear HB HD HQ HAC
                go_wp2_with fail
                (try simp only [Exit.inBlock, Exit.then])
                refine bodyPost_ret (v := .tuple #[.agg #[.int .i64 (a : Int), .int .i64 (c : Int)], .int .i64 (z.1 : Int)]) ?_ rfl ⟨a, c, by rw [HF.out], fun h => by rw [HF.out] at h; exact absurd h hz, below_set2 F4.below (by omega) _ _ _ _⟩
                rw [results_cell_tmp rfl]
                go_simp
            · have hs3' := hs3.out
              have F3 := Fj.grown (grown_of_below bw3.out)
              have F4 := (F3.setOther (by omega) 0 (.int .i64 (a : Int))).setOther (by omega) 1 (.int .i64 (c : Int))
              have u0 : ((w3.setCell ⟨wr.heap.size, 0, none⟩ (.int .i64 (a : Int))).setCell ⟨wr.heap.size, 1, none⟩ (.int .i64 (c : Int))).cell? ⟨w.heap.size + 1, 0, none⟩ = some (.int .i64 (q.1 : Int)) := by rw [cell_of_block F4.b1]; rfl
              have u1 : ((w3.setCell ⟨wr.heap.size, 0, none⟩ (.int .i64 (a : Int))).setCell ⟨wr.heap.size, 1, none⟩ (.int .i64 (c : Int))).cell? ⟨w.heap.size + 1, 1, none⟩ = some (.int .i64 (q.2.1 : Int)) := by rw [cell_of_block F4.b1]; rfl
              have uf : ∀ i, ((w3.setCell ⟨wr.heap.size, 0, none⟩ (.int .i64 (a : Int))).setCell ⟨wr.heap.size, 1, none⟩ (.int .i64 (c : Int))).frozen? ⟨w.heap.size + 1, i, none⟩ = false := frozen_of_block F4.b1
              have v0 : ((w3.setCell ⟨wr.heap.size, 0, none⟩ (.int .i64 (a : Int))).setCell ⟨wr.heap.size, 1, none⟩ (.int .i64 (c : Int))).cell? ⟨w.heap.size + 1 + 1, 0, none⟩ = some (.int .i64 0) := by rw [cell_of_block F4.b2]; rfl
              have v1 : ((w3.setCell ⟨wr.heap.size, 0, none⟩ (.int .i64 (a : Int))).setCell ⟨wr.heap.size, 1, none⟩ (.int .i64 (c : Int))).cell? ⟨w.heap.size + 1 + 1, 1, none⟩ = some (.int .i64 0) := by rw [cell_of_block F4.b2]; rfl
              have vf : ∀ i, ((w3.setCell ⟨wr.heap.size, 0, none⟩ (.int .i64 (a : Int))).setCell ⟨wr.heap.size, 1, none⟩ (.int .i64 (c : Int))).frozen? ⟨w.heap.size + 1 + 1, i, none⟩ = false := frozen_of_block F4.b2
              have hneq : wr.heap.size ≠ w.heap.size + 1 := by omega
              have hneq2 : wr.heap.size ≠ w.heap.size + 1 + 1 := by omega
              have g0 : ((w3.setCell ⟨wr.heap.size, 0, none⟩ (.int .i64 (a : Int))).setCell ⟨wr.heap.size, 1, none⟩ (.int .i64 (c : Int))).cell? ⟨wr.heap.size, 0, none⟩ = some (.int .i64 (a : Int)) := by rw [World.cell?_setCell_other _ _ _ _ (by simp), World.cell?_setCell_same _ _ _ z0]
              have g1 : ((w3.setCell ⟨wr.heap.size, 0, none⟩ (.int .i64 (a : Int))).setCell ⟨wr.heap.size, 1, none⟩ (.int .i64 (c : Int))).cell? ⟨wr.heap.size, 1, none⟩ = some (.int .i64 (c : Int)) := World.cell?_setCell_same _ _ _ (by rw [World.cell?_setCell_other _ _ _ _ (by simp)]; exact z1)
              clear z0 z1 zf
              generalize ((w3.setCell ⟨wr.heap.size, 0, none⟩ (.int .i64 (a : Int))).setCell ⟨wr.heap.size, 1, none⟩ (.int .i64 (c : Int))) = w4 at *
              clear F3 bw3 hs3 hs3'
              by_cases hz : z.1 = 0
              · have zb := HB hz
                have hz' : (z.1 : Int) = 0 := by omega
                have HZ : Hid (chkL D l (lv + 1) (n + 1, Y, max d lv) = chkL D (l.drop (j + 1)) (lv + 1) z.2) := by show _ = _; rw [HQ.out, HD.out, if_pos hz]
                obtain ⟨rfl, rfl⟩ := HAC.out hz
                have F5 := (F4.set (n' := z.2.1) (y' := q.2.1) 0 (.int .i64 (z.2.1 : Int)) rfl).set (n' := z.2.1) (y' := z.2.2.1) 1 (.int .i64 (z.2.2.1 : Int)) rfl
                clear HB HD HQ HAC
                rw [hz']
                go_wp2_with fail
                go_roundw
                case rel => exact ⟨j + 1, z.2, by omega, by go_num, HZ, zb, F5⟩
                case measure => simp [RowKit.intOf]; omega
              · have hz' : ((z.1 : Int) != 0) = true := by rw [bne_iff_ne]; omega
                have HF : Hid (RR = z) := by show _ = _; rw [HC4.out, HQ.out, HD.out, if_neg hz, if_neg hz]
                clear HB HD HQ HAC
                go_wp2_with fail
                (try simp only [Exit.inBlock, Exit.then])
                refine bodyPost_ret (v := .tuple #[.agg #[.int .i64 (a : Int), .int .i64 (c : Int)], .int .i64 (z.1 : Int)]) ?_ rfl ⟨a, c, by rw [HF.out], fun h => by rw [HF.out] at h; exact absurd h hz, below_set2 F4.below (by omega) _ _ _ _⟩
                rw [results_cell_tmp rfl]
                go_simp
          · obtain rfl : j = l.length := by omega
            have y5 : ¬ (l.length : Int) < l.length := by omega
            obtain ⟨p, rfl⟩ : ∃ p, p = q := ⟨q, rfl⟩
            have HC5 : Hid (RR = chkM D m (lv + 1) p) := by
              show _ = _
              rw [HC4.out, HQ.out, List.drop_length, chkL]
              rfl
            clear HQ HC4
            go_wp2_with fail
            rename World => wB
            clear s0 s1 d4 d5
            go_loopw [15] (fun e wr => ∃ (j : Nat) (q : St), j ≤ m.length ∧ e = .int .i64 (j : Int) ∧ Hid (chkM D m (lv + 1) p = chkM D (m.drop j) (lv + 1) q) ∧ Bnd D q ∧ RwF w #[.int .i64 k, .bool b, .int .i64 i, .string s, .slice al l.length cl, .slice am m.length cm] q.1 q.2.1 wr) (fun e _ => m.length - (RowKit.intOf e).toNat)
            case atStart => exact ⟨0, _, by omega, rfl, rfl, qb, Fj⟩
            case round =>
              clear Fj qb hlt
              obtain ⟨j, q, hj, rfl, HQ, qb, Fj⟩ := hrel
              have hlt := Fj.lt
              have d5 : wr.cell? ⟨w.heap.size, 5, none⟩ = some (.slice am m.length cm) := by rw [cell_of_block Fj.b0]; rfl
              have s0 : wr.cell? ⟨w.heap.size + 1, 0, none⟩ = some (.int .i64 (q.1 : Int)) := by rw [cell_of_block Fj.b1]; rfl
              have s1 : wr.cell? ⟨w.heap.size + 1, 1, none⟩ = some (.int .i64 (q.2.1 : Int)) := by rw [cell_of_block Fj.b1]; rfl
              by_cases hjl : j < m.length
              · have y5 : (j : Int) < m.length := by omega
                obtain ⟨hSb, hks, csj, hrow, hlj⟩ := liesM_get HM.out j hjl
                obtain rfl : am = some ⟨bm, om, none⟩ := ham.at_.resolve_left (by omega)
                have hkw : ∀ x, S x → wr.heap[x]? = w.heap[x]? := fun x hx => Fj.below.block x (hS x hx)
                obtain ⟨ek, eb, ei, es, eal, enl, ecl, eam, enm, ecm, rfl⟩ := V.ten hlj
                obtain ⟨qk, q0, q1, q2, q3, q4, q5⟩ := row7 (hrow.keep (hkw _ hSb))
                have hbl : bm < wr.heap.size := World.block_lt_of_cell? wr _ q0
                have hc1 : ((lv + 1 : Nat) : Int) = (lv : Int) + 1 := by omega
                have IC : Hid (∀ w', Below wr.heap.size wr w' → Calls Tryd.prog 20 #[.agg #[.int .i64 ek, .bool eb, .int .i64 ei, .string es, .slice eal enl ecl, .slice eam enm ecm], .int .i64 ((lv : Int) + 1), .int .i64 (D : Int), .agg #[.int .i64 (q.1 : Int), .int .i64 (q.2.1 : Int)]] w' (RwPost (chkV D (m[j]).2 (lv + 1) q) w')) := fun w' hb => by
                  have := ihm m[j] (List.getElem_mem hjl) R D (lv + 1) q.1 q.2.1 q.2.2 S _ w' (V.lies_keep (fun h => h) (fun x hx => (hb.block x (by have := hS x hx; omega)).trans (hkw x hx)) (fun _ h => h) _ hlj) (fun x hx => by have := hS x hx; have := hb.size; omega) (by have := wtM_mem (List.getElem_mem hjl); omega) qb hD (by omega)
                  rw [hc1] at this
                  exact this
                have HD : Hid (chkM D (m.drop j) (lv + 1) q = if (chkV D (m[j]).2 (lv + 1) q).1 = 0 then chkM D (m.drop (j + 1)) (lv + 1) (chkV D (m[j]).2 (lv + 1) q).2 else chkV D (m[j]).2 (lv + 1) q) := chkM_drop hjl _ _
                have HB := chkV_bnd D (m[j]).2 (lv + 1) q qb
                generalize chkV D (m[j]).2 (lv + 1) q = z at *
                clear hlj hrow hc1 hkw
                go_wp2_with fail
                have KP : Hid (∀ w', Below wr.heap.size wr w' → w'.cell? ⟨w.heap.size, 5, none⟩ = some (.slice (some ⟨bm, om, none⟩) m.length cm) ∧ w'.cell? ⟨w.heap.size + 1, 0, none⟩ = some (.int .i64 (q.1 : Int)) ∧ w'.cell? ⟨w.heap.size + 1, 1, none⟩ = some (.int .i64 (q.2.1 : Int)) ∧ w'.cell? ⟨bm, om + j * 7 + 1, none⟩ = some (.int .i64 ek) ∧ w'.cell? ⟨bm, om + j * 7 + 2, none⟩ = some (.bool eb) ∧ w'.cell? ⟨bm, om + j * 7 + 3, none⟩ = some (.int .i64 ei) ∧ w'.cell? ⟨bm, om + j * 7 + 4, none⟩ = some (.string es) ∧ w'.cell? ⟨bm, om + j * 7 + 5, none⟩ = some (.slice eal enl ecl) ∧ w'.cell? ⟨bm, om + j * 7 + 6, none⟩ = some (.slice eam enm ecm)) := fun w' hb =>
                  ⟨(hb.cell (p := ⟨w.heap.size, 5, none⟩) (by show w.heap.size < _; omega)).trans d5, (hb.cell (p := ⟨w.heap.size + 1, 0, none⟩) (by show w.heap.size + 1 < _; omega)).trans s0, (hb.cell (p := ⟨w.heap.size + 1, 1, none⟩) (by show w.heap.size + 1 < _; omega)).trans s1, (hb.cell (p := ⟨bm, om + j * 7 + 1, none⟩) hbl).trans q0, (hb.cell (p := ⟨bm, om + j * 7 + 2, none⟩) hbl).trans q1, (hb.cell (p := ⟨bm, om + j * 7 + 3, none⟩) hbl).trans q2, (hb.cell (p := ⟨bm, om + j * 7 + 4, none⟩) hbl).trans q3, (hb.cell (p := ⟨bm, om + j * 7 + 5, none⟩) hbl).trans q4, (hb.cell (p := ⟨bm, om + j * 7 + 6, none⟩) hbl).trans q5⟩
                have BD : Hid (Below wr.heap.size wr wr.drew) := (Below.refl _ _).drew
                clear qk q0 q1 q2 q3 q4 q5 s0 s1 d5
                have hwr : IntKind.i64.wrap ((lv : Int) + 1) = (lv : Int) + 1 := by rw [IntKind.wrap_i64]; omega
                have BA : Hid (Below wr.heap.size wr (wr.alloc (.cells #[.int .i64 0, .int .i64 0] 46)).drew) := ((Below.refl _ _).alloc (Nat.le_refl _) _).drew
                have hzA : (wr.alloc (.cells #[.int .i64 0, .int .i64 0] 46)).drew.heap.size = wr.heap.size + 1 := alloc_size wr _
                have hA : (wr.alloc (.cells #[.int .i64 0, .int .i64 0] 46)).drew.heap[wr.heap.size]? = some (.cells #[.int .i64 0, .int .i64 0] 46 (0, 0)) := heap_alloc_new wr _
                have HA : Hid (∀ w3 : World, Below (wr.alloc (.cells #[.int .i64 0, .int .i64 0] 46)).drew.heap.size (wr.alloc (.cells #[.int .i64 0, .int .i64 0] 46)).drew w3 → w3.heap[wr.heap.size]? = some (.cells #[.int .i64 0, .int .i64 0] 46 (0, 0)) ∧ Below wr.heap.size wr w3 ∧ wr.heap.size ≤ w3.heap.size) := fun w3 h =>
                  ⟨(h.block _ (by rw [hzA]; omega)).trans hA, BA.out.trans (h.mono (by rw [hzA]; omega)), by have := h.size; rw [hzA] at this; omega⟩
                clear hA hzA
                go_region_held3 (fun w' => w'.cell? ⟨w.heap.size, 5, none⟩ = some (.slice (some ⟨bm, om, none⟩) m.length cm) ∧ w'.cell? ⟨w.heap.size + 1, 0, none⟩ = some (.int .i64 (q.1 : Int)) ∧ w'.cell? ⟨w.heap.size + 1, 1, none⟩ = some (.int .i64 (q.2.1 : Int)) ∧ w'.cell? ⟨bm, om + j * 7 + 1, none⟩ = some (.int .i64 ek) ∧ w'.cell? ⟨bm, om + j * 7 + 2, none⟩ = some (.bool eb) ∧ w'.cell? ⟨bm, om + j * 7 + 3, none⟩ = some (.int .i64 ei) ∧ w'.cell? ⟨bm, om + j * 7 + 4, none⟩ = some (.string es) ∧ w'.cell? ⟨bm, om + j * 7 + 5, none⟩ = some (.slice eal enl ecl) ∧ w'.cell? ⟨bm, om + j * 7 + 6, none⟩ = some (.slice eam enm ecm)) (first | exact KP.out _ BD.out | exact KP.out _ BA.out | exact KP.out _ bw3.out | exact KP.out _ (bw3.out.alloc hs3.out _) | exact KP.out _ ((bw3.out.alloc hs3.out _).setCell (p := ⟨w3.heap.size, _, none⟩) hs3.out _) | exact KP.out _ (((bw3.out.alloc hs3.out _).setCell (p := ⟨w3.heap.size, _, none⟩) hs3.out _).setCell (p := ⟨w3.heap.size, _, none⟩) hs3.out _) | exact KP.out _ (bw3.out.setCell (p := ⟨wr.heap.size, _, none⟩) (Nat.le_refl _) _) | exact KP.out _ ((bw3.out.setCell (p := ⟨wr.heap.size, _, none⟩) (Nat.le_refl _) _).setCell (p := ⟨wr.heap.size, _, none⟩) (Nat.le_refl _) _)) ((go_at_call 20; first | (refine (IC.out _ BA.out).mono ?_; rintro e w3 ⟨a, c, rfl, hac, b3⟩; have z0 : w3.cell? ⟨wr.heap.size, 0, none⟩ = some (.int .i64 0) := (by rw [cell_of_block (HA.out w3 b3).1]; rfl); have z1 : w3.cell? ⟨wr.heap.size, 1, none⟩ = some (.int .i64 0) := (by rw [cell_of_block (HA.out w3 b3).1]; rfl); have zf : ∀ i, w3.frozen? ⟨wr.heap.size, i, none⟩ = false := frozen_of_block (HA.out w3 b3).1; have bw3 : Hid (Below wr.heap.size wr w3) := (HA.out w3 b3).2.1; have hs3 : Hid (wr.heap.size ≤ w3.heap.size) := (HA.out w3 b3).2.2; have HAC : Hid _ := hac; clear hac b3) | (refine (IC.out wr.drew BD.out).mono ?_; rintro e w3 ⟨a, c, rfl, hac, b3⟩; have bw3 : Hid (Below wr.heap.size wr w3) := BD.out.trans b3; have hs3 : Hid (wr.heap.size ≤ w3.heap.size) := b3.size; have HAC : Hid _ := hac; clear hac b3)))
                · have hs3' := hs3.out
                  have F3 := Fj.grown (grown_of_below bw3.out)
                  have F4 := F3.grown (World.grownBy_alloc w3 (.cells #[.int .i64 (a : Int), .int .i64 (c : Int)] 46) none)
                  have u0 : (w3.alloc (.cells #[.int .i64 (a : Int), .int .i64 (c : Int)] 46)).cell? ⟨w.heap.size + 1, 0, none⟩ = some (.int .i64 (q.1 : Int)) := by rw [cell_of_block F4.b1]; rfl
                  have u1 : (w3.alloc (.cells #[.int .i64 (a : Int), .int .i64 (c : Int)] 46)).cell? ⟨w.heap.size + 1, 1, none⟩ = some (.int .i64 (q.2.1 : Int)) := by rw [cell_of_block F4.b1]; rfl
                  have uf : ∀ i, (w3.alloc (.cells #[.int .i64 (a : Int), .int .i64 (c : Int)] 46)).frozen? ⟨w.heap.size + 1, i, none⟩ = false := frozen_of_block F4.b1
                  have v0 : (w3.alloc (.cells #[.int .i64 (a : Int), .int .i64 (c : Int)] 46)).cell? ⟨w.heap.size + 1 + 1, 0, none⟩ = some (.int .i64 0) := by rw [cell_of_block F4.b2]; rfl
                  have v1 : (w3.alloc (.cells #[.int .i64 (a : Int), .int .i64 (c : Int)] 46)).cell? ⟨w.heap.size + 1 + 1, 1, none⟩ = some (.int .i64 0) := by rw [cell_of_block F4.b2]; rfl
                  have vf : ∀ i, (w3.alloc (.cells #[.int .i64 (a : Int), .int .i64 (c : Int)] 46)).frozen? ⟨w.heap.size + 1 + 1, i, none⟩ = false := frozen_of_block F4.b2
                  have g0 : (w3.alloc (.cells #[.int .i64 (a : Int), .int .i64 (c : Int)] 46)).cell? ⟨w3.heap.size, 0, none⟩ = some (.int .i64 (a : Int)) := by rw [cell_of_block (heap_alloc_new w3 _)]; rfl
                  have g1 : (w3.alloc (.cells #[.int .i64 (a : Int), .int .i64 (c : Int)] 46)).cell? ⟨w3.heap.size, 1, none⟩ = some (.int .i64 (c : Int)) := by rw [cell_of_block (heap_alloc_new w3 _)]; rfl
                  have hneq : w3.heap.size ≠ w.heap.size + 1 := by omega
                  have hneq2 : w3.heap.size ≠ w.heap.size + 1 + 1 := by omega
                  generalize (w3.alloc (.cells #[.int .i64 (a : Int), .int .i64 (c : Int)] 46)) = w4 at *
                  clear F3 bw3 hs3 hs3'
                  by_cases hz : z.1 = 0
                  · have zb := HB hz
                    have hz' : (z.1 : Int) = 0 := by omega
                    have HZ : Hid (chkM D m (lv + 1) p = chkM D (m.drop (j + 1)) (lv + 1) z.2) := by show _ = _; rw [HQ.out, HD.out, if_pos hz]
                    obtain ⟨rfl, rfl⟩ := HAC.out hz
                    have F5 := (F4.set (n' := z.2.1) (y' := q.2.1) 0 (.int .i64 (z.2.1 : Int)) rfl).set (n' := z.2.1) (y' := z.2.2.1) 1 (.int .i64 (z.2.2.1 : Int)) rfl
                    clear HB HD HQ HAC
                    rw [hz']
                    go_wp2_with fail
                    go_roundw
                    case rel => exact ⟨j + 1, z.2, by omega, by go_num, HZ, zb, F5⟩
                    case measure => simp [RowKit.intOf]; omega
                  · have hz' : ((z.1 : Int) != 0) = true := by rw [bne_iff_ne]; omega
                    have HF : Hid (RR = z) := by show _ = _; rw [HC5.out, HQ.out, HD.out, if_neg hz]
                    clear HB HD HQ HAC
                    go_wp2_with fail
                    (try simp only [Exit.inBlock, Exit.then])
                    refine bodyPost_ret (v := .tuple #[.agg #[.int .i64 (a : Int), .int .i64 (c : Int)], .int .i64 (z.1 : Int)]) ?_ rfl ⟨a, c, by rw [HF.out], fun h => by rw [HF.out] at h; exact absurd h hz, below_set2 F4.below (by omega) _ _ _ _⟩
                    rw [results_cell_tmp rfl]
                    go_simp
                · have hs3' := hs3.out
                  have F3 := Fj.grown (grown_of_below bw3.out)
                  have F4 := (F3.setOther (by omega) 0 (.int .i64 (a : Int))).setOther (by omega) 1 (.int .i64 (c : Int))
                  have u0 : ((w3.setCell ⟨wr.heap.size, 0, none⟩ (.int .i64 (a : Int))).setCell ⟨wr.heap.size, 1, none⟩ (.int .i64 (c : Int))).cell? ⟨w.heap.size + 1, 0, none⟩ = some (.int .i64 (q.1 : Int)) := by rw [cell_of_block F4.b1]; rfl
                  have u1 : ((w3.setCell ⟨wr.heap.size, 0, none⟩ (.int .i64 (a : Int))).setCell ⟨wr.heap.size, 1, none⟩ (.int .i64 (c : Int))).cell? ⟨w.heap.size + 1, 1, none⟩ = some (.int .i64 (q.2.1 : Int)) := by rw [cell_of_block F4.b1]; rfl
                  have uf : ∀ i, ((w3.setCell ⟨wr.heap.size, 0, none⟩ (.int .i64 (a : Int))).setCell ⟨wr.heap.size, 1, none⟩ (.int .i64 (c : Int))).frozen? ⟨w.heap.size + 1, i, none⟩ = false := frozen_of_block F4.b1
                  have v0 : ((w3.setCell ⟨wr.heap.size, 0, none⟩ (.int .i64 (a : Int))).setCell ⟨wr.heap.size, 1, none⟩ (.int .i64 (c : Int))).cell? ⟨w.heap.size + 1 + 1, 0, none⟩ = some (.int .i64 0) := by rw [cell_of_block F4.b2]; rfl
                  have v1 : ((w3.setCell ⟨wr.heap.size, 0, none⟩ (.int .i64 (a : Int))).setCell ⟨wr.heap.size, 1, none⟩ (.int .i64 (c : Int))).cell? ⟨w.heap.size + 1 + 1, 1, none⟩ = some (.int .i64 0) := by rw [cell_of_block F4.b2]; rfl
                  have vf : ∀ i, ((w3.setCell ⟨wr.heap.size, 0, none⟩ (.int .i64 (a : Int))).setCell ⟨wr.heap.size, 1, none⟩ (.int .i64 (c : Int))).frozen? ⟨w.heap.size + 1 + 1, i, none⟩ = false := frozen_of_block F4.b2
                  have hneq : wr.heap.size ≠ w.heap.size + 1 := by omega
                  have hneq2 : wr.heap.size ≠ w.heap.size + 1 + 1 := by omega
                  have g0 : ((w3.setCell ⟨wr.heap.size, 0, none⟩ (.int .i64 (a : Int))).setCell ⟨wr.heap.size, 1, none⟩ (.int .i64 (c : Int))).cell? ⟨wr.heap.size, 0, none⟩ = some (.int .i64 (a : Int)) := by rw [World.cell?_setCell_other _ _ _ _ (by simp), World.cell?_setCell_same _ _ _ z0]
                  have g1 : ((w3.setCell ⟨wr.heap.size, 0, none⟩ (.int .i64 (a : Int))).setCell ⟨wr.heap.size, 1, none⟩ (.int .i64 (c : Int))).cell? ⟨wr.heap.size, 1, none⟩ = some (.int .i64 (c : Int)) := World.cell?_setCell_same _ _ _ (by rw [World.cell?_setCell_other _ _ _ _ (by simp)]; exact z1)
                  clear z0 z1 zf
                  generalize ((w3.setCell ⟨wr.heap.size, 0, none⟩ (.int .i64 (a : Int))).setCell ⟨wr.heap.size, 1, none⟩ (.int .i64 (c : Int))) = w4 at *
                  clear F3 bw3 hs3 hs3'
                  by_cases hz : z.1 = 0
                  · have zb := HB hz
                    have hz' : (z.1 : Int) = 0 := by omega
                    have HZ : Hid (chkM D m (lv + 1) p = chkM D (m.drop (j + 1)) (lv + 1) z.2) := by show _ = _; rw [HQ.out, HD.out, if_pos hz]
                    obtain ⟨rfl, rfl⟩ := HAC.out hz
                    have F5 := (F4.set (n' := z.2.1) (y' := q.2.1) 0 (.int .i64 (z.2.1 : Int)) rfl).set (n' := z.2.1) (y' := z.2.2.1) 1 (.int .i64 (z.2.2.1 : Int)) rfl
                    clear HB HD HQ HAC
                    rw [hz']
                    go_wp2_with fail
                    go_roundw
                    case rel => exact ⟨j + 1, z.2, by omega, by go_num, HZ, zb, F5⟩
                    case measure => simp [RowKit.intOf]; omega
                  · have hz' : ((z.1 : Int) != 0) = true := by rw [bne_iff_ne]; omega
                    have HF : Hid (RR = z) := by show _ = _; rw [HC5.out, HQ.out, HD.out, if_neg hz]
                    clear HB HD HQ HAC
                    go_wp2_with fail
                    (try simp only [Exit.inBlock, Exit.then])
                    refine bodyPost_ret (v := .tuple #[.agg #[.int .i64 (a : Int), .int .i64 (c : Int)], .int .i64 (z.1 : Int)]) ?_ rfl ⟨a, c, by rw [HF.out], fun h => by rw [HF.out] at h; exact absurd h hz, below_set2 F4.below (by omega) _ _ _ _⟩
                    rw [results_cell_tmp rfl]
                    go_simp
              · obtain rfl : j = m.length := by omega
                have y5 : ¬ (m.length : Int) < m.length := by omega
                have HF : Hid (RR = (0, q)) := by show _ = _; rw [HC5.out, HQ.out, List.drop_length, chkM]
                have v0 : wr.cell? ⟨w.heap.size + 1 + 1, 0, none⟩ = some (.int .i64 0) := by rw [cell_of_block Fj.b2]; rfl
                have v1 : wr.cell? ⟨w.heap.size + 1 + 1, 1, none⟩ = some (.int .i64 0) := by rw [cell_of_block Fj.b2]; rfl
                have vf : ∀ i, wr.frozen? ⟨w.heap.size + 1 + 1, i, none⟩ = false := frozen_of_block Fj.b2
                clear HQ HC5
                go_wp2_with fail
                (try simp only [Exit.inBlock, Exit.then])
                refine bodyPost_ret (v := .tuple #[.agg #[.int .i64 (q.1 : Int), .int .i64 (q.2.1 : Int)], .int .i64 0]) ?_ rfl ⟨q.1, q.2.1, by rw [HF.out]; rfl, fun h => by rw [HF.out]; exact ⟨rfl, rfl⟩, below_set2 Fj.below (by omega) _ _ _ _⟩
                rw [results_cell_tmp rfl]
                go_simp
end Go.Proofs.YtmmlejbebfkojaaDoor
