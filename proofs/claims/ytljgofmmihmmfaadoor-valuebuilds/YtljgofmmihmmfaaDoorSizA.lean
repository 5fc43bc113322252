/- Depth, Nodes, Scalar and the document's: contracts. -/
import Derived.Test.YtljgofmmihmmfaaDoorDptA
import Derived.Test.YtljgofmmihmmfaaDoorRfE
set_option linter.unusedSimpArgs false
set_option linter.unusedVariables false
namespace Go.Proofs.YtljgofmmihmmfaaDoor
open Go.RowKit Go.Lib

def okV (v : V) : Bool := decide ((chkV 40 v 0 (0, 0, 0)).1 = 0)
def sizD (v : V) : Int := if okV v = true then (dptV v : Int) else -1
def sizN (v : V) : Int := if okV v = true then ((chkV 40 v 0 (0, 0, 0)).2.1 : Int) else -1
def kindOf : V → Int
  | .mk k _ _ _ _ _ => k
def sizS (v : V) : Bool := okV v && (decide (1 ≤ kindOf v) && decide (kindOf v ≤ 3))
def IPost (r : Int) (w : World) (e : Ending) (w' : World) : Prop := e = .returned (.int .i64 r) ∧ Below w.heap.size w w'

theorem chkE40 (v : V) : chkE v 40 = (chkV 40 v 0 (0, 0, 0)).1 := by rw [chkE, if_neg (by omega)]; rfl
theorem okV_true {v : V} (h : okV v = true) : (chkV 40 v 0 (0, 0, 0)).1 = 0 := of_decide_eq_true h
theorem okV_false {v : V} (h : okV v = false) : (chkV 40 v 0 (0, 0, 0)).1 ≠ 0 := of_decide_eq_false h
theorem dpt_of {v : V} (h : okV v = true) : (chkV 40 v 0 (0, 0, 0)).2.2.2 = dptV v := by
  rw [chkV_dpt 40 v 0 _ (okV_true h)]; simp

set_option maxHeartbeats 4000000 in
set_option maxRecDepth 100000 in
theorem depth_any (R : Bool) (v : V) (S : Nat → Prop) (cs : List Value) (w : World) (t : Tb w) (hl : v.lies R w S cs) (hS : ∀ b, S b → b < w.heap.size) (hwt : v.wt ≤ 1099511627776) :
    Calls Tryd.prog 16 #[.agg cs.toArray] w (IPost (sizD v) w) := by
  obtain ⟨k, b, i, s, al, nl, cl, am, nm, cm, rfl⟩ := V.ten hl
  have ga : w.grownBy ((w.alloc (.cells #[.int .i64 k, .bool b, .int .i64 i, .string s, .slice al nl cl, .slice am nm cm] 25)).alloc (.cells #[.int .i64 40, .int .i64 0, .int .i64 0, .int .i64 0] 52)) none := grown_alloc (World.grownBy_alloc _ _ _) _
  have hk : ∀ x, S x → ((w.alloc (.cells #[.int .i64 k, .bool b, .int .i64 i, .string s, .slice al nl cl, .slice am nm cm] 25)).alloc (.cells #[.int .i64 40, .int .i64 0, .int .i64 0, .int .i64 0] 52)).heap[x]? = w.heap[x]? := fun x hx => ga.block x (hS x hx) (by simp)
  have c := visit_any v R (w.heap.size + 1) 40 0 (0, 0, 0) S _ _ (t.grown ga (fun r e => by cases e)) (V.lies_keep (fun h => h) hk (fun _ h => h) _ hl) (fun x hx => ⟨by have := hS x hx; omega, Nat.lt_of_lt_of_le (hS x hx) ga.size⟩) ⟨alloc2_new w _ _⟩ (by have := t.z; omega) hwt ⟨by simp, by simp, by simp⟩ (by omega) (by omega)
  cases ho : okV v with
  | true =>
    have HF : Hid (sizD v = (dptV v : Int)) := by show _ = _; rw [sizD, if_pos ho]
    have h0 := okV_true ho
    have hd := dpt_of ho
    clear ho
    generalize chkV 40 v 0 (0, 0, 0) = z at *
    generalize dptV v = d at *
    go_enter Tryd.func16, Tryd.ntmps16
    go_wp2_with fail
    refine c.mono ?_
    rintro e w1 ⟨rfl, h1, g1⟩
    have h2 := h1.b
    rw [hd] at h2
    have d3 : w1.cell? ⟨w.heap.size + 1, 3, none⟩ = some (.int .i64 (d : Int)) := by rw [cell_of_block h2]; rfl
    have y1 : ((z.1 : Nat) : Int) = 0 := by omega
    clear h1 h2 hd
    go_wp2_with fail
    go_ret
    rw [HF.out]
    exact ⟨rfl, (below_of_grown ga).grown g1 ga.size (fun r e => by cases e; omega)⟩
  | false =>
    have HF : Hid (sizD v = -1) := by show _ = _; rw [sizD, if_neg (by simp [ho])]
    have h0 := okV_false ho
    clear ho
    generalize chkV 40 v 0 (0, 0, 0) = z at *
    go_enter Tryd.func16, Tryd.ntmps16
    go_wp2_with fail
    refine c.mono ?_
    rintro e w1 ⟨rfl, h1, g1⟩
    have y1 : ¬ ((z.1 : Nat) : Int) = 0 := by omega
    clear h1
    go_wp2_with fail
    go_ret
    rw [HF.out]
    exact ⟨rfl, (below_of_grown ga).grown g1 ga.size (fun r e => by cases e; omega)⟩

set_option maxHeartbeats 4000000 in
set_option maxRecDepth 100000 in
theorem nodes_any (R : Bool) (v : V) (S : Nat → Prop) (cs : List Value) (w : World) (t : Tb w) (hl : v.lies R w S cs) (hS : ∀ b, S b → b < w.heap.size) (hwt : v.wt ≤ 1099511627776) :
    Calls Tryd.prog 17 #[.agg cs.toArray] w (IPost (sizN v) w) := by
  obtain ⟨k, b, i, s, al, nl, cl, am, nm, cm, rfl⟩ := V.ten hl
  have ga : w.grownBy ((w.alloc (.cells #[.int .i64 k, .bool b, .int .i64 i, .string s, .slice al nl cl, .slice am nm cm] 25)).alloc (.cells #[.int .i64 40, .int .i64 0, .int .i64 0, .int .i64 0] 52)) none := grown_alloc (World.grownBy_alloc _ _ _) _
  have hk : ∀ x, S x → ((w.alloc (.cells #[.int .i64 k, .bool b, .int .i64 i, .string s, .slice al nl cl, .slice am nm cm] 25)).alloc (.cells #[.int .i64 40, .int .i64 0, .int .i64 0, .int .i64 0] 52)).heap[x]? = w.heap[x]? := fun x hx => ga.block x (hS x hx) (by simp)
  have c := visit_any v R (w.heap.size + 1) 40 0 (0, 0, 0) S _ _ (t.grown ga (fun r e => by cases e)) (V.lies_keep (fun h => h) hk (fun _ h => h) _ hl) (fun x hx => ⟨by have := hS x hx; omega, Nat.lt_of_lt_of_le (hS x hx) ga.size⟩) ⟨alloc2_new w _ _⟩ (by have := t.z; omega) hwt ⟨by simp, by simp, by simp⟩ (by omega) (by omega)
  cases ho : okV v with
  | true =>
    have HF : Hid (sizN v = ((chkV 40 v 0 (0, 0, 0)).2.1 : Int)) := by show _ = _; rw [sizN, if_pos ho]
    have h0 := okV_true ho
    clear ho
    generalize chkV 40 v 0 (0, 0, 0) = z at *
    obtain ⟨z1, z2, z3, z4⟩ := z
    simp only at HF h0 c
    go_enter Tryd.func17, Tryd.ntmps17
    go_wp2_with fail
    refine c.mono ?_
    rintro e w1 ⟨rfl, h1, g1⟩
    have h2 := h1.b
    have d1 : w1.cell? ⟨w.heap.size + 1, 1, none⟩ = some (.int .i64 (z2 : Int)) := by rw [cell_of_block h2]; rfl
    have y1 : ((z1 : Nat) : Int) = 0 := by omega
    clear h1 h2
    go_wp2_with fail
    go_ret
    rw [HF.out]
    exact ⟨rfl, (below_of_grown ga).grown g1 ga.size (fun r e => by cases e; omega)⟩
  | false =>
    have HF : Hid (sizN v = -1) := by show _ = _; rw [sizN, if_neg (by simp [ho])]
    have h0 := okV_false ho
    clear ho
    generalize chkV 40 v 0 (0, 0, 0) = z at *
    go_enter Tryd.func17, Tryd.ntmps17
    go_wp2_with fail
    refine c.mono ?_
    rintro e w1 ⟨rfl, h1, g1⟩
    have y1 : ¬ ((z.1 : Nat) : Int) = 0 := by omega
    clear h1
    go_wp2_with fail
    go_ret
    rw [HF.out]
    exact ⟨rfl, (below_of_grown ga).grown g1 ga.size (fun r e => by cases e; omega)⟩

set_option maxHeartbeats 4000000 in
set_option maxRecDepth 100000 in
theorem taken_any (R : Bool) (v : V) (S : Nat → Prop) (cs : List Value) (w : World) (t : Tb w) (hl : v.lies R w S cs) (hS : ∀ b, S b → b < w.heap.size) (hwt : v.wt ≤ 1099511627776) :
    Calls Tryd.prog 49 #[.agg cs.toArray] w (BPost (okV v) w) := by
  obtain ⟨k, b, i, s, al, nl, cl, am, nm, cm, rfl⟩ := V.ten hl
  have ga : w.grownBy (w.alloc (.cells #[.int .i64 k, .bool b, .int .i64 i, .string s, .slice al nl cl, .slice am nm cm] 25)) none := World.grownBy_alloc _ _ _
  have c := check_any R v 40 S _ _ (t.grown ga (fun r e => by cases e)) (V.lies_keep (fun h => h) (fun x hx => ga.block x (hS x hx) (by simp)) (fun _ h => h) _ hl) (fun x hx => Nat.lt_of_lt_of_le (hS x hx) ga.size) hwt
  rw [chkE40] at c
  have HF : Hid (okV v = ((((chkV 40 v 0 (0, 0, 0)).1 : Nat) : Int) == 0)) := by
    show _ = _
    rw [okV, Bool.eq_iff_iff, decide_eq_true_iff, beq_iff_eq]
    omega
  generalize (chkV 40 v 0 (0, 0, 0)).1 = z at *
  go_enter Tryd.func49, Tryd.ntmps49
  go_wp2_with fail
  refine c.mono ?_
  rintro e w1 ⟨rfl, b1⟩
  go_wp2_with fail
  go_ret
  refine ⟨?_, (below_of_grown ga).trans (b1.mono ga.size)⟩
  rw [HF.out]
  rfl

set_option maxHeartbeats 4000000 in
set_option maxRecDepth 100000 in
theorem rtaken_any (R : Bool) (v : V) (S : Nat → Prop) (cs : List Value) (w : World) (hl : v.lies R w S cs) (hS : ∀ b, S b → b < w.heap.size) (hwt : v.wt ≤ 1099511627776) :
    Calls Tryd.prog 50 #[.agg cs.toArray] w (BPost (okV v) w) := by
  obtain ⟨k, b, i, s, al, nl, cl, am, nm, cm, rfl⟩ := V.ten hl
  have ga : w.grownBy (w.alloc (.cells #[.int .i64 k, .bool b, .int .i64 i, .string s, .slice al nl cl, .slice am nm cm] 25)) none := World.grownBy_alloc _ _ _
  have c := rcheck_any R v 40 S _ _ (V.lies_keep (fun h => h) (fun x hx => ga.block x (hS x hx) (by simp)) (fun _ h => h) _ hl) (fun x hx => Nat.lt_of_lt_of_le (hS x hx) ga.size) hwt
  rw [chkE40] at c
  have HF : Hid (okV v = ((((chkV 40 v 0 (0, 0, 0)).1 : Nat) : Int) == 0)) := by
    show _ = _
    rw [okV, Bool.eq_iff_iff, decide_eq_true_iff, beq_iff_eq]
    omega
  generalize (chkV 40 v 0 (0, 0, 0)).1 = z at *
  go_enter Tryd.func50, Tryd.ntmps50
  go_wp2_with fail
  refine c.mono ?_
  rintro e w1 ⟨rfl, b1⟩
  go_wp2_with fail
  go_ret
  refine ⟨?_, (below_of_grown ga).trans (b1.mono ga.size)⟩
  rw [HF.out]
  rfl

set_option maxHeartbeats 4000000 in
set_option maxRecDepth 100000 in
theorem scalar_any (R : Bool) (v : V) (S : Nat → Prop) (cs : List Value) (w : World) (t : Tb w) (hl : v.lies R w S cs) (hS : ∀ b, S b → b < w.heap.size) (hwt : v.wt ≤ 1099511627776) :
    Calls Tryd.prog 18 #[.agg cs.toArray] w (BPost (sizS v) w) := by
  have hl0 := hl
  obtain ⟨k, b, i, s, l, m⟩ := v
  rw [V.lies] at hl
  obtain ⟨al, cl, bl, ol, am, cm, bm, om, rfl, hk, hi, hs, hal, ham, _⟩ := hl
  have ga : w.grownBy (w.alloc (.cells #[.int .i64 k, .bool b, .int .i64 i, .string s, .slice al l.length cl, .slice am m.length cm] 25)) none := World.grownBy_alloc _ _ _
  have c := taken_any R _ S _ _ (t.grown ga (fun r e => by cases e)) (V.lies_keep (fun h => h) (fun x hx => ga.block x (hS x hx) (by simp)) (fun _ h => h) _ hl0) (fun x hx => Nat.lt_of_lt_of_le (hS x hx) ga.size) hwt
  clear hl0 hwt
  by_cases h3 : k = 1 ∨ k = 2 ∨ k = 3
  · have HF : Hid (sizS (V.mk k b i s l m) = okV (V.mk k b i s l m)) := by
      show _ = _
      rw [sizS, kindOf, decide_eq_true (show 1 ≤ k by omega), decide_eq_true (show k ≤ 3 by omega)]; simp
    generalize okV (V.mk k b i s l m) = z at *
    rcases h3 with rfl | rfl | rfl
    all_goals
      go_enter Tryd.func18, Tryd.ntmps18
      go_wp2_with fail
      refine c.mono ?_
      rintro e w1 ⟨rfl, b1⟩
      go_wp2_with fail
      go_ret
      rw [HF.out]
      exact ⟨rfl, (below_of_grown ga).trans (b1.mono ga.size)⟩
  · have HF : Hid (sizS (V.mk k b i s l m) = false) := by
      show _ = _
      rw [sizS, kindOf]
      by_cases h1 : 1 ≤ k
      · rw [decide_eq_false (show ¬ k ≤ 3 by omega)]; simp
      · rw [decide_eq_false h1]; simp
    have y1 : ¬ k = 1 := by omega
    have y2 : ¬ k = 2 := by omega
    have y3 : ¬ k = 3 := by omega
    clear c
    go_enter Tryd.func18, Tryd.ntmps18
    go_wp2_with fail
    go_ret
    rw [HF.out]
    exact ⟨rfl, below_of_grown ga⟩

set_option maxHeartbeats 4000000 in
set_option maxRecDepth 100000 in
theorem rdep_any (R : Bool) (v : V) (S : Nat → Prop) (cs : List Value) (w : World) (hl : v.lies R w S cs) (hS : ∀ b, S b → b < w.heap.size) (hwt : v.wt ≤ 1099511627776) :
    Calls Tryd.prog 19 #[.agg cs.toArray] w (IPost (sizD v) w) := by
  obtain ⟨k, b, i, s, al, nl, cl, am, nm, cm, rfl⟩ := V.ten hl
  have hb0 := box_row w [.int .i64 k, .bool b, .int .i64 i, .string s, .slice al nl cl, .slice am nm cm] 25
  have hz0 := alloc_size w (.cells #[.int .i64 k, .bool b, .int .i64 i, .string s, .slice al nl cl, .slice am nm cm] 25)
  have ga : w.grownBy (w.alloc (.cells #[.int .i64 k, .bool b, .int .i64 i, .string s, .slice al nl cl, .slice am nm cm] 25)) none := World.grownBy_alloc _ _ _
  have hl1 := V.lies_keep (R' := R) (S' := S) (fun h => h) (fun x hx => ga.block x (hS x hx) (by simp)) (fun _ h => h) _ hl
  have c := rtaken_any R v S _ _ hl1 (fun x hx => Nat.lt_of_lt_of_le (hS x hx) ga.size) hwt
  have HD : Hid (∀ W, Below (w.heap.size + 1) (w.alloc (.cells #[.int .i64 k, .bool b, .int .i64 i, .string s, .slice al nl cl, .slice am nm cm] 25)) W → Calls Tryd.prog 51 #[.agg #[.int .i64 k, .bool b, .int .i64 i, .string s, .slice al nl cl, .slice am nm cm]] W (NPost (dptV v) W)) := fun W hb =>
    rdepth_any v R S _ W (V.lies_keep (fun h => h) (fun x hx => hb.block x (by have := hS x hx; omega)) (fun _ h => h) _ hl1) (fun x hx => by have := hS x hx; have := hb.size; omega) hwt
  have BA := below_of_grown ga
  clear hl1 ga
  cases ho : okV v with
  | true =>
    have HF : Hid (sizD v = (dptV v : Int)) := by show _ = _; rw [sizD, if_pos ho]
    rw [ho] at c
    generalize dptV v = d at *
    go_enter Tryd.func19, Tryd.ntmps19
    go_wp2_with fail
    generalize (w.alloc (.cells #[.int .i64 k, .bool b, .int .i64 i, .string s, .slice al nl cl, .slice am nm cm] 25)) = w0 at *
    refine c.mono ?_
    rintro e w1 ⟨rfl, b1⟩
    have hz1 := b1.size
    obtain ⟨d0, d1, d2, d3, d4, d5⟩ := row6z (hb0.keep (b1.block _ (by omega)))
    go_wp2_with fail
    refine (HD.out w1 (b1.mono (by omega))).mono ?_
    rintro e w2 ⟨rfl, b2⟩
    go_wp2_with fail
    go_ret
    rw [HF.out]
    exact ⟨rfl, (BA.trans (b1.mono (by omega))).trans (b2.mono (by omega))⟩
  | false =>
    have HF : Hid (sizD v = -1) := by show _ = _; rw [sizD, if_neg (by simp [ho])]
    rw [ho] at c
    go_enter Tryd.func19, Tryd.ntmps19
    go_wp2_with fail
    refine c.mono ?_
    rintro e w1 ⟨rfl, b1⟩
    go_wp2_with fail
    go_ret
    rw [HF.out]
    exact ⟨rfl, BA.trans (b1.mono (by omega))⟩

set_option maxHeartbeats 4000000 in
set_option maxRecDepth 100000 in
theorem rnodes_any (R : Bool) (v : V) (S : Nat → Prop) (cs : List Value) (w : World) (hl : v.lies R w S cs) (hS : ∀ b, S b → b < w.heap.size) (hwt : v.wt ≤ 1099511627776) :
    Calls Tryd.prog 20 #[.agg cs.toArray] w (IPost (sizN v) w) := by
  obtain ⟨k, b, i, s, al, nl, cl, am, nm, cm, rfl⟩ := V.ten hl
  have ga : w.grownBy (w.alloc (.cells #[.int .i64 k, .bool b, .int .i64 i, .string s, .slice al nl cl, .slice am nm cm] 25)) none := World.grownBy_alloc _ _ _
  have c := rwalk_any v R 40 0 0 0 0 S _ _ (V.lies_keep (fun h => h) (fun x hx => ga.block x (hS x hx) (by simp)) (fun _ h => h) _ hl) (fun x hx => Nat.lt_of_lt_of_le (hS x hx) ga.size) hwt ⟨by simp, by simp, by simp⟩ (by omega) (by omega)
  cases ho : okV v with
  | true =>
    have HF : Hid (sizN v = ((chkV 40 v 0 (0, 0, 0)).2.1 : Int)) := by show _ = _; rw [sizN, if_pos ho]
    have h0 := okV_true ho
    clear ho
    generalize chkV 40 v 0 (0, 0, 0) = z at *
    obtain ⟨z1, z2, z3, z4⟩ := z
    simp only at HF h0 c
    subst h0
    go_enter Tryd.func20, Tryd.ntmps20
    go_wp2_with fail
    refine c.mono ?_
    rintro e w1 ⟨a, d, rfl, h1, b1⟩
    obtain ⟨rfl, rfl⟩ := h1 rfl
    have hz1 := b1.size
    have hz2 := ga.size
    go_wp2_with fail
    go_ret
    rw [HF.out]
    exact ⟨rfl, (below_of_grown ga).trans ((b1.mono ga.size).alloc (by omega) _)⟩
  | false =>
    have HF : Hid (sizN v = -1) := by show _ = _; rw [sizN, if_neg (by simp [ho])]
    have h0 := okV_false ho
    clear ho
    generalize chkV 40 v 0 (0, 0, 0) = z at *
    go_enter Tryd.func20, Tryd.ntmps20
    go_wp2_with fail
    refine c.mono ?_
    rintro e w1 ⟨a, d, rfl, h1, b1⟩
    have y1 : ¬ ((z.1 : Nat) : Int) = 0 := by omega
    have hz1 := b1.size
    have hz2 := ga.size
    clear h1
    go_wp2_with fail
    go_ret
    rw [HF.out]
    exact ⟨rfl, (below_of_grown ga).trans ((b1.mono ga.size).alloc (by omega) _)⟩

set_option maxHeartbeats 4000000 in
set_option maxRecDepth 100000 in
theorem rscal_any (R : Bool) (v : V) (S : Nat → Prop) (cs : List Value) (w : World) (hl : v.lies R w S cs) (hS : ∀ b, S b → b < w.heap.size) (hwt : v.wt ≤ 1099511627776) :
    Calls Tryd.prog 21 #[.agg cs.toArray] w (BPost (sizS v) w) := by
  have hl0 := hl
  obtain ⟨k, b, i, s, l, m⟩ := v
  rw [V.lies] at hl
  obtain ⟨al, cl, bl, ol, am, cm, bm, om, rfl, hk, hi, hs, hal, ham, _⟩ := hl
  have hb0 := box_row w [.int .i64 k, .bool b, .int .i64 i, .string s, .slice al l.length cl, .slice am m.length cm] 25
  have hz0 := alloc_size w (.cells #[.int .i64 k, .bool b, .int .i64 i, .string s, .slice al l.length cl, .slice am m.length cm] 25)
  have ga : w.grownBy (w.alloc (.cells #[.int .i64 k, .bool b, .int .i64 i, .string s, .slice al l.length cl, .slice am m.length cm] 25)) none := World.grownBy_alloc _ _ _
  have c := rtaken_any R _ S _ _ (V.lies_keep (fun h => h) (fun x hx => ga.block x (hS x hx) (by simp)) (fun _ h => h) _ hl0) (fun x hx => Nat.lt_of_lt_of_le (hS x hx) ga.size) hwt
  have HF : Hid (sizS (V.mk k b i s l m) = (okV (V.mk k b i s l m) && (decide (1 ≤ k) && decide (k ≤ 3)))) := rfl
  have BA := below_of_grown ga
  clear hl0 ga hwt
  generalize okV (V.mk k b i s l m) = z at *
  go_enter Tryd.func21, Tryd.ntmps21
  go_wp2_with fail
  generalize (w.alloc (.cells #[.int .i64 k, .bool b, .int .i64 i, .string s, .slice al l.length cl, .slice am m.length cm] 25)) = w0 at *
  refine c.mono ?_
  rintro e w1 ⟨rfl, b1⟩
  have hz1 := b1.size
  obtain ⟨d0, d1, d2, d3, d4, d5⟩ := row6z (hb0.keep (b1.block _ (by omega)))
  cases z with
  | false =>
    go_wp2_with fail
    go_ret
    rw [HF.out]
    exact ⟨by simp, BA.trans (b1.mono (by omega))⟩
  | true =>
    by_cases h1 : 1 ≤ k
    · have y1 : k ≥ 1 := h1
      by_cases h2 : k ≤ 3
      · go_wp2_with fail
        go_ret
        rw [HF.out]
        exact ⟨by simp [h1, h2], BA.trans (b1.mono (by omega))⟩
      · go_wp2_with fail
        go_ret
        rw [HF.out]
        exact ⟨by simp [h1, h2], BA.trans (b1.mono (by omega))⟩
    · have y1 : ¬ k ≥ 1 := h1
      go_wp2_with fail
      go_ret
      rw [HF.out]
      exact ⟨by simp; omega, BA.trans (b1.mono (by omega))⟩
end Go.Proofs.YtljgofmmihmmfaaDoor
