/- joined: RfE SizA AllG AllH SamA -/
import Derived.Test.YtihcggepeadklaaGreatDoorRfD
import Derived.Shelf.Small.Strs
import Derived.Lib.Bytealg
/- freeholdref02.Check, freeholdref00.Value. -/
set_option linter.unusedSimpArgs false
set_option linter.unusedVariables false
namespace Go.Proofs.YtihcggepeadklaaGreatDoor
open Go.RowKit Go.Lib
set_option maxHeartbeats 4000000 in
set_option maxRecDepth 100000 in
theorem rcheck_wide (R : Bool) (v : V) (depth : Int) (S : Nat → Prop) (cs : List Value) (w : World) (hl : v.lies R w S cs) (hS : ∀ b, S b → b < w.heap.size) (hwt : v.wt ≤ 281474976710656) :
    Calls Tryz.prog 125 #[.agg cs.toArray, .int .i64 depth] w (NPost (chkE v depth) w) := by
  obtain ⟨k, b, i, s, al, nl, cl, am, nm, cm, rfl⟩ := V.ten hl
  by_cases h1 : depth < 0
  · have HF : Hid (chkE v depth = 2) := by show _ = _; simp [chkE, h1]
    go_enter Tryz.func125, Tryz.ntmps125
    go_wp2_with fail
    go_ret
    rw [HF.out]
    exact ⟨rfl, (Below.refl _ _).alloc (Nat.le_refl _) _⟩
  by_cases h2 : 40 < depth
  · have HF : Hid (chkE v depth = 2) := by show _ = _; simp [chkE, h2]
    go_enter Tryz.func125, Tryz.ntmps125
    go_wp2_with fail
    go_ret
    rw [HF.out]
    exact ⟨rfl, (Below.refl _ _).alloc (Nat.le_refl _) _⟩
  obtain ⟨D, rfl⟩ : ∃ D : Nat, depth = (D : Int) := ⟨depth.toNat, by omega⟩
  have hD : D ≤ 40 := by omega
  have HF : Hid (chkE v (D : Int) = (chkV D v 0 (0, 0, 0)).1) := by show _ = _; rw [chkE, if_neg (by omega)]; rfl
  have ga : w.grownBy (w.alloc (.cells #[.int .i64 k, .bool b, .int .i64 i, .string s, .slice al nl cl, .slice am nm cm] 46)) none := World.grownBy_alloc _ _ _
  have c := rwalk_wide v R D 0 0 0 0 S _ _ (V.lies_keep (fun h => h) (fun x hx => ga.block x (hS x hx) (by simp)) (fun _ h => h) _ hl) (fun x hx => Nat.lt_of_lt_of_le (hS x hx) ga.size) hwt ⟨by simp, by simp, by simp⟩ hD (by omega)
  go_enter Tryz.func125, Tryz.ntmps125
  go_wp2_with fail
  refine c.mono ?_
  rintro e w1 ⟨a, d, rfl, _, b1⟩
  go_wp2_with fail
  go_ret
  rw [HF.out]
  exact ⟨rfl, (below_of_grown ga).trans ((b1.mono ga.size).alloc (by have := b1.size; have := ga.size; omega) _)⟩
theorem rcheck_any (R : Bool) (v : V) (depth : Int) (S : Nat → Prop) (cs : List Value) (w : World) (hl : v.lies R w S cs) (hS : ∀ b, S b → b < w.heap.size) (hwt : v.wt ≤ 1099511627776) :
    Calls Tryz.prog 125 #[.agg cs.toArray, .int .i64 depth] w (NPost (chkE v depth) w) := rcheck_wide R v depth S cs w hl hS (by omega)
end Go.Proofs.YtihcggepeadklaaGreatDoor
/- Depth, Nodes, Scalar and the document's: contracts. -/
namespace Go.Proofs.YtihcggepeadklaaGreatDoor
open Go.RowKit Go.Lib
def okV (v : V) : Bool := decide ((chkV 40 v 0 (0, 0, 0)).1 = 0)
def kindOf : V → Int
  | .mk k _ _ _ _ _ => k
def sizS (v : V) : Bool := okV v && (decide (1 ≤ kindOf v) && decide (kindOf v ≤ 3))
theorem chkE40 (v : V) : chkE v 40 = (chkV 40 v 0 (0, 0, 0)).1 := by rw [chkE, if_neg (by omega)]; rfl
theorem okV_true {v : V} (h : okV v = true) : (chkV 40 v 0 (0, 0, 0)).1 = 0 := of_decide_eq_true h
set_option maxHeartbeats 4000000 in
set_option maxRecDepth 100000 in
theorem taken_any (R : Bool) (v : V) (S : Nat → Prop) (cs : List Value) (w : World) (t : Tb w) (hl : v.lies R w S cs) (hS : ∀ b, S b → b < w.heap.size) (hwt : v.wt ≤ 1099511627776) :
    Calls Tryz.prog 67 #[.agg cs.toArray] w (BPost (okV v) w) := by
  obtain ⟨k, b, i, s, al, nl, cl, am, nm, cm, rfl⟩ := V.ten hl
  have ga : w.grownBy (w.alloc (.cells #[.int .i64 k, .bool b, .int .i64 i, .string s, .slice al nl cl, .slice am nm cm] 46)) none := World.grownBy_alloc _ _ _
  have c := check_any R v 40 S _ _ (t.grown ga (fun r e => by cases e)) (V.lies_keep (fun h => h) (fun x hx => ga.block x (hS x hx) (by simp)) (fun _ h => h) _ hl) (fun x hx => Nat.lt_of_lt_of_le (hS x hx) ga.size) hwt
  rw [chkE40] at c
  have HF : Hid (okV v = ((((chkV 40 v 0 (0, 0, 0)).1 : Nat) : Int) == 0)) := by
    show _ = _
    rw [okV, Bool.eq_iff_iff, decide_eq_true_iff, beq_iff_eq]
    omega
  generalize (chkV 40 v 0 (0, 0, 0)).1 = z at *
  go_enter Tryz.func67, Tryz.ntmps67
  go_wp2_with fail
  refine c.mono ?_
  rintro e w1 ⟨rfl, b1⟩
  go_wp2_with fail
  go_ret
  refine ⟨?_, (below_of_grown ga).trans (b1.mono ga.size)⟩
  rw [HF.out]
  rfl
set_option maxHeartbeats 4000000 in
set_option maxRecDepth 100000 in
theorem rtaken_any (R : Bool) (v : V) (S : Nat → Prop) (cs : List Value) (w : World) (hl : v.lies R w S cs) (hS : ∀ b, S b → b < w.heap.size) (hwt : v.wt ≤ 1099511627776) :
    Calls Tryz.prog 95 #[.agg cs.toArray] w (BPost (okV v) w) := by
  obtain ⟨k, b, i, s, al, nl, cl, am, nm, cm, rfl⟩ := V.ten hl
  have ga : w.grownBy (w.alloc (.cells #[.int .i64 k, .bool b, .int .i64 i, .string s, .slice al nl cl, .slice am nm cm] 46)) none := World.grownBy_alloc _ _ _
  have c := rcheck_any R v 40 S _ _ (V.lies_keep (fun h => h) (fun x hx => ga.block x (hS x hx) (by simp)) (fun _ h => h) _ hl) (fun x hx => Nat.lt_of_lt_of_le (hS x hx) ga.size) hwt
  rw [chkE40] at c
  have HF : Hid (okV v = ((((chkV 40 v 0 (0, 0, 0)).1 : Nat) : Int) == 0)) := by
    show _ = _
    rw [okV, Bool.eq_iff_iff, decide_eq_true_iff, beq_iff_eq]
    omega
  generalize (chkV 40 v 0 (0, 0, 0)).1 = z at *
  go_enter Tryz.func95, Tryz.ntmps95
  go_wp2_with fail
  refine c.mono ?_
  rintro e w1 ⟨rfl, b1⟩
  go_wp2_with fail
  go_ret
  refine ⟨?_, (below_of_grown ga).trans (b1.mono ga.size)⟩
  rw [HF.out]
  rfl
set_option maxHeartbeats 4000000 in
set_option maxRecDepth 100000 in
theorem scalar_any (R : Bool) (v : V) (S : Nat → Prop) (cs : List Value) (w : World) (t : Tb w) (hl : v.lies R w S cs) (hS : ∀ b, S b → b < w.heap.size) (hwt : v.wt ≤ 1099511627776) :
    Calls Tryz.prog 44 #[.agg cs.toArray] w (BPost (sizS v) w) := by
  have hl0 := hl
  obtain ⟨k, b, i, s, l, m⟩ := v
  rw [V.lies] at hl
  obtain ⟨al, cl, bl, ol, am, cm, bm, om, rfl, hk, hi, hs, hal, ham, _⟩ := hl
  have ga : w.grownBy (w.alloc (.cells #[.int .i64 k, .bool b, .int .i64 i, .string s, .slice al l.length cl, .slice am m.length cm] 46)) none := World.grownBy_alloc _ _ _
  have c := taken_any R _ S _ _ (t.grown ga (fun r e => by cases e)) (V.lies_keep (fun h => h) (fun x hx => ga.block x (hS x hx) (by simp)) (fun _ h => h) _ hl0) (fun x hx => Nat.lt_of_lt_of_le (hS x hx) ga.size) hwt
  clear hl0 hwt
  by_cases h3 : k = 1 ∨ k = 2 ∨ k = 3
  · have HF : Hid (sizS (V.mk k b i s l m) = okV (V.mk k b i s l m)) := by
      show _ = _
      rw [sizS, kindOf, decide_eq_true (show 1 ≤ k by omega), decide_eq_true (show k ≤ 3 by omega)]; simp
    generalize okV (V.mk k b i s l m) = z at *
    rcases h3 with rfl | rfl | rfl
    all_goals
      go_enter Tryz.func44, Tryz.ntmps44
      go_wp2_with fail
      refine c.mono ?_
      rintro e w1 ⟨rfl, b1⟩
      go_wp2_with fail
      go_ret
      rw [HF.out]
      exact ⟨rfl, (below_of_grown ga).trans (b1.mono ga.size)⟩
  · have HF : Hid (sizS (V.mk k b i s l m) = false) := by
      show _ = _
      rw [sizS, kindOf]
      by_cases h1 : 1 ≤ k
      · rw [decide_eq_false (show ¬ k ≤ 3 by omega)]; simp
      · rw [decide_eq_false h1]; simp
    have y1 : ¬ k = 1 := by omega
    have y2 : ¬ k = 2 := by omega
    have y3 : ¬ k = 3 := by omega
    clear c
    go_enter Tryz.func44, Tryz.ntmps44
    go_wp2_with fail
    go_ret
    rw [HF.out]
    exact ⟨rfl, below_of_grown ga⟩
set_option maxHeartbeats 4000000 in
set_option maxRecDepth 100000 in
theorem rscal_any (R : Bool) (v : V) (S : Nat → Prop) (cs : List Value) (w : World) (hl : v.lies R w S cs) (hS : ∀ b, S b → b < w.heap.size) (hwt : v.wt ≤ 1099511627776) :
    Calls Tryz.prog 58 #[.agg cs.toArray] w (BPost (sizS v) w) := by
  have hl0 := hl
  obtain ⟨k, b, i, s, l, m⟩ := v
  rw [V.lies] at hl
  obtain ⟨al, cl, bl, ol, am, cm, bm, om, rfl, hk, hi, hs, hal, ham, _⟩ := hl
  have hb0 := box_row w [.int .i64 k, .bool b, .int .i64 i, .string s, .slice al l.length cl, .slice am m.length cm] 46
  have hz0 := alloc_size w (.cells #[.int .i64 k, .bool b, .int .i64 i, .string s, .slice al l.length cl, .slice am m.length cm] 46)
  have ga : w.grownBy (w.alloc (.cells #[.int .i64 k, .bool b, .int .i64 i, .string s, .slice al l.length cl, .slice am m.length cm] 46)) none := World.grownBy_alloc _ _ _
  have c := rtaken_any R _ S _ _ (V.lies_keep (fun h => h) (fun x hx => ga.block x (hS x hx) (by simp)) (fun _ h => h) _ hl0) (fun x hx => Nat.lt_of_lt_of_le (hS x hx) ga.size) hwt
  have HF : Hid (sizS (V.mk k b i s l m) = (okV (V.mk k b i s l m) && (decide (1 ≤ k) && decide (k ≤ 3)))) := rfl
  have BA := below_of_grown ga
  clear hl0 ga hwt
  generalize okV (V.mk k b i s l m) = z at *
  go_enter Tryz.func58, Tryz.ntmps58
  go_wp2_with fail
  generalize (w.alloc (.cells #[.int .i64 k, .bool b, .int .i64 i, .string s, .slice al l.length cl, .slice am m.length cm] 46)) = w0 at *
  refine c.mono ?_
  rintro e w1 ⟨rfl, b1⟩
  have hz1 := b1.size
  obtain ⟨d0, d1, d2, d3, d4, d5⟩ := row6z (hb0.keep (b1.block _ (by omega)))
  cases z with
  | false =>
    go_wp2_with fail
    go_ret
    rw [HF.out]
    exact ⟨by simp, BA.trans (b1.mono (by omega))⟩
  | true =>
    by_cases h1 : 1 ≤ k
    · have y1 : k ≥ 1 := h1
      by_cases h2 : k ≤ 3
      · go_wp2_with fail
        go_ret
        rw [HF.out]
        exact ⟨by simp [h1, h2], BA.trans (b1.mono (by omega))⟩
      · go_wp2_with fail
        go_ret
        rw [HF.out]
        exact ⟨by simp [h1, h2], BA.trans (b1.mono (by omega))⟩
    · have y1 : ¬ k ≥ 1 := h1
      go_wp2_with fail
      go_ret
      rw [HF.out]
      exact ⟨by simp; omega, BA.trans (b1.mono (by omega))⟩
end Go.Proofs.YtihcggepeadklaaGreatDoor
/- What a value that is taken is, all the way down; there the two orders are one. -/
namespace Go.Proofs.YtihcggepeadklaaGreatDoor
open Go.RowKit Go.Lib
mutual
def allG : V → Prop
  | .mk k b i s l m => goodB k b i s l.length m = true ∧ allGL l ∧ allGM m
def allGL : List V → Prop
  | [] => True
  | x :: t => allG x ∧ allGL t
def allGM : List Mem → Prop
  | [] => True
  | (_, x) :: t => allG x ∧ allGM t
end
theorem entF_good {D n y d lv : Nat} {g : Bool} {z : Nat} (h : (entF D n y d lv g z).1 = 0) : g = true := by
  unfold entF at h
  split at h
  · simp at h
  split at h
  · simp at h
  split at h
  · simp at h
  · rename_i h3; cases g <;> simp_all
mutual
theorem chkV_allG (D : Nat) : ∀ (v : V) (lv : Nat) (st : St), (chkV D v lv st).1 = 0 → allG v
  | .mk k b i s l m, lv, st, h => by
    rw [chkV] at h
    rw [allG]
    by_cases h1 : (entF D st.1 st.2.1 st.2.2 lv (goodB k b i s l.length m) (s.size + keyB m)).1 = 0
    · simp only [h1, if_true] at h
      by_cases h2 : (chkL D l (lv + 1) (entF D st.1 st.2.1 st.2.2 lv (goodB k b i s l.length m) (s.size + keyB m)).2).1 = 0
      · simp only [h2, if_true] at h
        exact ⟨entF_good h1, chkL_allG D l (lv + 1) _ h2, chkM_allG D m (lv + 1) _ h⟩
      · simp only [h2, if_false] at h
    · simp only [h1, if_false] at h
theorem chkL_allG (D : Nat) : ∀ (l : List V) (lv : Nat) (st : St), (chkL D l lv st).1 = 0 → allGL l
  | [], lv, st, h => by rw [allGL]; trivial
  | x :: t, lv, st, h => by
    rw [chkL] at h
    rw [allGL]
    by_cases h1 : (chkV D x lv st).1 = 0
    · rw [if_pos h1] at h
      exact ⟨chkV_allG D x lv st h1, chkL_allG D t lv _ h⟩
    · rw [if_neg h1] at h
      exact absurd h h1
theorem chkM_allG (D : Nat) : ∀ (l : List Mem) (lv : Nat) (st : St), (chkM D l lv st).1 = 0 → allGM l
  | [], lv, st, h => by rw [allGM]; trivial
  | (_, x) :: t, lv, st, h => by
    rw [chkM] at h
    rw [allGM]
    by_cases h1 : (chkV D x lv st).1 = 0
    · rw [if_pos h1] at h
      exact ⟨chkV_allG D x lv st h1, chkM_allG D t lv _ h⟩
    · rw [if_neg h1] at h
      exact absurd h h1
end
theorem toList_data (a : ByteArray) : a.toList = a.data.toList := ByteArray.toList_eq a
theorem goodB_plain {k : Int} {b : Bool} {i : Int} {s : ByteArray} {nl : Nat} {m : List Mem} (h : goodB k b i s nl m = true) : 0 ≤ k ∧ k ≤ 5 ∧ (k = 1 ∨ b = false) ∧ (k = 2 ∨ i = 0) ∧ (k = 3 ∨ s.toList.isEmpty = true) ∧ (k = 4 ∨ nl = 0) ∧ (k = 5 ∨ m.length = 0) := by
  simp only [goodB, Bool.and_eq_true, plainB, decide_eq_true_eq] at h
  exact h.1.1
end Go.Proofs.YtihcggepeadklaaGreatDoor
/- What a scalar that is taken is. -/
namespace Go.Proofs.YtihcggepeadklaaGreatDoor
open Go.RowKit Go.Lib
theorem sizS_good {k : Int} {b : Bool} {i : Int} {s : ByteArray} {l : List V} {m : List Mem} (h : sizS (.mk k b i s l m) = true) : (k = 1 ∨ k = 2 ∨ k = 3) ∧ validD s.data.toList = true ∧ l = [] ∧ m = [] := by
  simp only [sizS, Bool.and_eq_true, decide_eq_true_eq] at h
  have gv := chkV_allG 40 _ 0 _ (okV_true h.1)
  rw [allG] at gv
  have p := goodB_plain gv.1
  have hk := h.2
  simp only [kindOf] at hk
  have l0 : l = [] := List.length_eq_zero_iff.1 (p.2.2.2.2.2.1.resolve_left (by omega))
  have m0 : m = [] := List.length_eq_zero_iff.1 (p.2.2.2.2.2.2.resolve_left (by omega))
  refine ⟨by omega, ?_, l0, m0⟩
  have g := gv.1
  simp [goodB] at g
  simp_all [utfB]
end Go.Proofs.YtihcggepeadklaaGreatDoor
/- same. -/
namespace Go.Proofs.YtihcggepeadklaaGreatDoor
open Go.RowKit
theorem two_below (w : World) (o o' : Obj) : Below w.heap.size w ((w.alloc o).alloc o') := ((Below.refl w.heap.size w).alloc (Nat.le_refl _) _).alloc (by rw [alloc_size]; omega) _
theorem bytes_eq {a b : ByteArray} (h : a.toList = b.toList) : a = b := by
  rw [ByteArray.toList_eq, ByteArray.toList_eq] at h
  exact Go.WideShapes.bytes_inj h
end Go.Proofs.YtihcggepeadklaaGreatDoor
