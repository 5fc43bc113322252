import Derived.Test.YtljgofmmihmmfabDoorDptA
import Derived.Test.YtljgofmmihmmfabDoorRfE
/- Depth, Nodes, Scalar and the document's: contracts. -/
set_option linter.unusedSimpArgs false
set_option linter.unusedVariables false
namespace Go.Proofs.YtljgofmmihmmfabDoor
open Go.RowKit Go.Lib

def okV (v : V) : Bool := decide ((chkV 40 v 0 (0, 0, 0)).1 = 0)
def sizD (v : V) : Int := if okV v = true then (dptV v : Int) else -1
def sizN (v : V) : Int := if okV v = true then ((chkV 40 v 0 (0, 0, 0)).2.1 : Int) else -1
def kindOf : V → Int
  | .mk k _ _ _ _ _ => k
def IPost (r : Int) (w : World) (e : Ending) (w' : World) : Prop := e = .returned (.int .i64 r) ∧ Below w.heap.size w w'

theorem chkE40 (v : V) : chkE v 40 = (chkV 40 v 0 (0, 0, 0)).1 := by rw [chkE, if_neg (by omega)]; rfl
theorem okV_true {v : V} (h : okV v = true) : (chkV 40 v 0 (0, 0, 0)).1 = 0 := of_decide_eq_true h
theorem okV_false {v : V} (h : okV v = false) : (chkV 40 v 0 (0, 0, 0)).1 ≠ 0 := of_decide_eq_false h
theorem dpt_of {v : V} (h : okV v = true) : (chkV 40 v 0 (0, 0, 0)).2.2.2 = dptV v := by
  rw [chkV_dpt 40 v 0 _ (okV_true h)]; simp

set_option maxHeartbeats 4000000 in
set_option maxRecDepth 100000 in
theorem depth_any (R : Bool) (v : V) (S : Nat → Prop) (cs : List Value) (w : World) (t : Tb w) (hl : v.lies R w S cs) (hS : ∀ b, S b → b < w.heap.size) (hwt : v.wt ≤ 1099511627776) :
    Calls Tryd.prog 27 #[.agg cs.toArray] w (IPost (sizD v) w) := by
  obtain ⟨k, b, i, s, al, nl, cl, am, nm, cm, rfl⟩ := V.ten hl
  have ga : w.grownBy ((w.alloc (.cells #[.int .i64 k, .bool b, .int .i64 i, .string s, .slice al nl cl, .slice am nm cm] 25)).alloc (.cells #[.int .i64 40, .int .i64 0, .int .i64 0, .int .i64 0] 70)) none := grown_alloc (World.grownBy_alloc _ _ _) _
  have hk : ∀ x, S x → ((w.alloc (.cells #[.int .i64 k, .bool b, .int .i64 i, .string s, .slice al nl cl, .slice am nm cm] 25)).alloc (.cells #[.int .i64 40, .int .i64 0, .int .i64 0, .int .i64 0] 70)).heap[x]? = w.heap[x]? := fun x hx => ga.block x (hS x hx) (by simp)
  have c := visit_any v R (w.heap.size + 1) 40 0 (0, 0, 0) S _ _ (t.grown ga (fun r e => by cases e)) (V.lies_keep (fun h => h) hk (fun _ h => h) _ hl) (fun x hx => ⟨by have := hS x hx; omega, Nat.lt_of_lt_of_le (hS x hx) ga.size⟩) ⟨alloc2_new w _ _⟩ (by have := t.z; omega) hwt ⟨by simp, by simp, by simp⟩ (by omega) (by omega)
  cases ho : okV v with
  | true =>
    have HF : Hid (sizD v = (dptV v : Int)) := by show _ = _; rw [sizD, if_pos ho]
    have h0 := okV_true ho
    have hd := dpt_of ho
    clear ho
    generalize chkV 40 v 0 (0, 0, 0) = z at *
    generalize dptV v = d at *
    go_enter Tryd.func27, Tryd.ntmps27
    go_wp2_with fail
    refine c.mono ?_
    rintro e w1 ⟨rfl, h1, g1⟩
    have h2 := h1.b
    rw [hd] at h2
    have d3 : w1.cell? ⟨w.heap.size + 1, 3, none⟩ = some (.int .i64 (d : Int)) := by rw [cell_of_block h2]; rfl
    have y1 : ((z.1 : Nat) : Int) = 0 := by omega
    clear h1 h2 hd
    go_wp2_with fail
    go_ret
    rw [HF.out]
    exact ⟨rfl, (below_of_grown ga).grown g1 ga.size (fun r e => by cases e; omega)⟩
  | false =>
    have HF : Hid (sizD v = -1) := by show _ = _; rw [sizD, if_neg (by simp [ho])]
    have h0 := okV_false ho
    clear ho
    generalize chkV 40 v 0 (0, 0, 0) = z at *
    go_enter Tryd.func27, Tryd.ntmps27
    go_wp2_with fail
    refine c.mono ?_
    rintro e w1 ⟨rfl, h1, g1⟩
    have y1 : ¬ ((z.1 : Nat) : Int) = 0 := by omega
    clear h1
    go_wp2_with fail
    go_ret
    rw [HF.out]
    exact ⟨rfl, (below_of_grown ga).grown g1 ga.size (fun r e => by cases e; omega)⟩

set_option maxHeartbeats 4000000 in
set_option maxRecDepth 100000 in
theorem nodes_any (R : Bool) (v : V) (S : Nat → Prop) (cs : List Value) (w : World) (t : Tb w) (hl : v.lies R w S cs) (hS : ∀ b, S b → b < w.heap.size) (hwt : v.wt ≤ 1099511627776) :
    Calls Tryd.prog 26 #[.agg cs.toArray] w (IPost (sizN v) w) := by
  obtain ⟨k, b, i, s, al, nl, cl, am, nm, cm, rfl⟩ := V.ten hl
  have ga : w.grownBy ((w.alloc (.cells #[.int .i64 k, .bool b, .int .i64 i, .string s, .slice al nl cl, .slice am nm cm] 25)).alloc (.cells #[.int .i64 40, .int .i64 0, .int .i64 0, .int .i64 0] 70)) none := grown_alloc (World.grownBy_alloc _ _ _) _
  have hk : ∀ x, S x → ((w.alloc (.cells #[.int .i64 k, .bool b, .int .i64 i, .string s, .slice al nl cl, .slice am nm cm] 25)).alloc (.cells #[.int .i64 40, .int .i64 0, .int .i64 0, .int .i64 0] 70)).heap[x]? = w.heap[x]? := fun x hx => ga.block x (hS x hx) (by simp)
  have c := visit_any v R (w.heap.size + 1) 40 0 (0, 0, 0) S _ _ (t.grown ga (fun r e => by cases e)) (V.lies_keep (fun h => h) hk (fun _ h => h) _ hl) (fun x hx => ⟨by have := hS x hx; omega, Nat.lt_of_lt_of_le (hS x hx) ga.size⟩) ⟨alloc2_new w _ _⟩ (by have := t.z; omega) hwt ⟨by simp, by simp, by simp⟩ (by omega) (by omega)
  cases ho : okV v with
  | true =>
    have HF : Hid (sizN v = ((chkV 40 v 0 (0, 0, 0)).2.1 : Int)) := by show _ = _; rw [sizN, if_pos ho]
    have h0 := okV_true ho
    clear ho
    generalize chkV 40 v 0 (0, 0, 0) = z at *
    obtain ⟨z1, z2, z3, z4⟩ := z
    simp only at HF h0 c
    go_enter Tryd.func26, Tryd.ntmps26
    go_wp2_with fail
    refine c.mono ?_
    rintro e w1 ⟨rfl, h1, g1⟩
    have h2 := h1.b
    have d1 : w1.cell? ⟨w.heap.size + 1, 1, none⟩ = some (.int .i64 (z2 : Int)) := by rw [cell_of_block h2]; rfl
    have y1 : ((z1 : Nat) : Int) = 0 := by omega
    clear h1 h2
    go_wp2_with fail
    go_ret
    rw [HF.out]
    exact ⟨rfl, (below_of_grown ga).grown g1 ga.size (fun r e => by cases e; omega)⟩
  | false =>
    have HF : Hid (sizN v = -1) := by show _ = _; rw [sizN, if_neg (by simp [ho])]
    have h0 := okV_false ho
    clear ho
    generalize chkV 40 v 0 (0, 0, 0) = z at *
    go_enter Tryd.func26, Tryd.ntmps26
    go_wp2_with fail
    refine c.mono ?_
    rintro e w1 ⟨rfl, h1, g1⟩
    have y1 : ¬ ((z.1 : Nat) : Int) = 0 := by omega
    clear h1
    go_wp2_with fail
    go_ret
    rw [HF.out]
    exact ⟨rfl, (below_of_grown ga).grown g1 ga.size (fun r e => by cases e; omega)⟩

set_option maxHeartbeats 4000000 in
set_option maxRecDepth 100000 in
theorem taken_any (R : Bool) (v : V) (S : Nat → Prop) (cs : List Value) (w : World) (t : Tb w) (hl : v.lies R w S cs) (hS : ∀ b, S b → b < w.heap.size) (hwt : v.wt ≤ 1099511627776) :
    Calls Tryd.prog 30 #[.agg cs.toArray] w (BPost (okV v) w) := by
  obtain ⟨k, b, i, s, al, nl, cl, am, nm, cm, rfl⟩ := V.ten hl
  have ga : w.grownBy (w.alloc (.cells #[.int .i64 k, .bool b, .int .i64 i, .string s, .slice al nl cl, .slice am nm cm] 25)) none := World.grownBy_alloc _ _ _
  have c := check_any R v 40 S _ _ (t.grown ga (fun r e => by cases e)) (V.lies_keep (fun h => h) (fun x hx => ga.block x (hS x hx) (by simp)) (fun _ h => h) _ hl) (fun x hx => Nat.lt_of_lt_of_le (hS x hx) ga.size) hwt
  rw [chkE40] at c
  have HF : Hid (okV v = ((((chkV 40 v 0 (0, 0, 0)).1 : Nat) : Int) == 0)) := by
    show _ = _
    rw [okV, Bool.eq_iff_iff, decide_eq_true_iff, beq_iff_eq]
    omega
  generalize (chkV 40 v 0 (0, 0, 0)).1 = z at *
  go_enter Tryd.func30, Tryd.ntmps30
  go_wp2_with fail
  refine c.mono ?_
  rintro e w1 ⟨rfl, b1⟩
  go_wp2_with fail
  go_ret
  refine ⟨?_, (below_of_grown ga).trans (b1.mono ga.size)⟩
  rw [HF.out]
  rfl

end Go.Proofs.YtljgofmmihmmfabDoor
