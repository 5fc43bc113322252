import Derived.Test.YtejcfkkkbnnmcaaGreatDoorChkE
import Derived.Test.YtejcfkkkbnnmcaaGreatDoorRfE
/- Depth, Nodes, Scalar and the document's: contracts. -/
set_option linter.unusedSimpArgs false
set_option linter.unusedVariables false
namespace Go.Proofs.YtejcfkkkbnnmcaaGreatDoor
open Go.RowKit Go.Lib

def okV (v : V) : Bool := decide ((chkV 40 v 0 (0, 0, 0)).1 = 0)
theorem chkE40 (v : V) : chkE v 40 = (chkV 40 v 0 (0, 0, 0)).1 := by rw [chkE, if_neg (by omega)]; rfl
set_option maxHeartbeats 4000000 in
set_option maxRecDepth 100000 in
theorem taken_any (R : Bool) (v : V) (S : Nat → Prop) (cs : List Value) (w : World) (t : Tb w) (hl : v.lies R w S cs) (hS : ∀ b, S b → b < w.heap.size) (hwt : v.wt ≤ 1099511627776) :
    Calls Tryz.prog 42 #[.agg cs.toArray] w (BPost (okV v) w) := by
  obtain ⟨k, b, i, s, al, nl, cl, am, nm, cm, rfl⟩ := V.ten hl
  have ga : w.grownBy (w.alloc (.cells #[.int .i64 k, .bool b, .int .i64 i, .string s, .slice al nl cl, .slice am nm cm] 25)) none := World.grownBy_alloc _ _ _
  have c := check_any R v 40 S _ _ (t.grown ga (fun r e => by cases e)) (V.lies_keep (fun h => h) (fun x hx => ga.block x (hS x hx) (by simp)) (fun _ h => h) _ hl) (fun x hx => Nat.lt_of_lt_of_le (hS x hx) ga.size) hwt
  rw [chkE40] at c
  have HF : Hid (okV v = ((((chkV 40 v 0 (0, 0, 0)).1 : Nat) : Int) == 0)) := by
    show _ = _
    rw [okV, Bool.eq_iff_iff, decide_eq_true_iff, beq_iff_eq]
    omega
  generalize (chkV 40 v 0 (0, 0, 0)).1 = z at *
  go_enter Tryz.func42, Tryz.ntmps42
  go_wp2_with fail
  refine c.mono ?_
  rintro e w1 ⟨rfl, b1⟩
  go_wp2_with fail
  go_ret
  refine ⟨?_, (below_of_grown ga).trans (b1.mono ga.size)⟩
  rw [HF.out]
  rfl

end Go.Proofs.YtejcfkkkbnnmcaaGreatDoor
