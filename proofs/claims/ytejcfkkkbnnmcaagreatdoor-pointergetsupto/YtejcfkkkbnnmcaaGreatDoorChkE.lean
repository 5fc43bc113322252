import Derived.Test.YtejcfkkkbnnmcaaGreatDoorChkD
/- value.Check. -/
set_option linter.unusedSimpArgs false
set_option linter.unusedVariables false
namespace Go.Proofs.YtejcfkkkbnnmcaaGreatDoor
open Go.RowKit Go.Lib

/-- what Check answers -/
def chkE (v : V) (depth : Int) : Nat := if depth < 0 ∨ 40 < depth then 2 else (chkV depth.toNat v 0 (0, 0, 0)).1

def NPost (r : Nat) (w : World) (e : Ending) (w' : World) : Prop := e = .returned (.int .i64 (r : Int)) ∧ Below w.heap.size w w'

set_option maxHeartbeats 4000000 in
set_option maxRecDepth 100000 in
theorem check_wide (R : Bool) (v : V) (depth : Int) (S : Nat → Prop) (cs : List Value) (w : World) (t : Tb w) (hl : v.lies R w S cs) (hS : ∀ b, S b → b < w.heap.size) (hwt : v.wt ≤ 281474976710656) :
    Calls Tryz.prog 23 #[.agg cs.toArray, .int .i64 depth] w (NPost (chkE v depth) w) := by
  obtain ⟨k, b, i, s, al, nl, cl, am, nm, cm, rfl⟩ := V.ten hl
  by_cases h1 : depth < 0
  · have HF : Hid (chkE v depth = 2) := by show _ = _; simp [chkE, h1]
    go_enter Tryz.func23, Tryz.ntmps23
    go_wp2_with fail
    go_ret
    rw [HF.out]
    exact ⟨rfl, (Below.refl _ _).alloc (Nat.le_refl _) _⟩
  by_cases h2 : 40 < depth
  · have HF : Hid (chkE v depth = 2) := by show _ = _; simp [chkE, h2]
    go_enter Tryz.func23, Tryz.ntmps23
    go_wp2_with fail
    go_ret
    rw [HF.out]
    exact ⟨rfl, (Below.refl _ _).alloc (Nat.le_refl _) _⟩
  obtain ⟨D, rfl⟩ : ∃ D : Nat, depth = (D : Int) := ⟨depth.toNat, by omega⟩
  have hD : D ≤ 40 := by omega
  have HF : Hid (chkE v (D : Int) = (chkV D v 0 (0, 0, 0)).1) := by show _ = _; rw [chkE, if_neg (by omega)]; rfl
  have ga : w.grownBy ((w.alloc (.cells #[.int .i64 k, .bool b, .int .i64 i, .string s, .slice al nl cl, .slice am nm cm] 25)).alloc (.cells #[.int .i64 (D : Int), .int .i64 0, .int .i64 0, .int .i64 0] 63)) none := grown_alloc (World.grownBy_alloc _ _ _) _
  have hk : ∀ x, S x → ((w.alloc (.cells #[.int .i64 k, .bool b, .int .i64 i, .string s, .slice al nl cl, .slice am nm cm] 25)).alloc (.cells #[.int .i64 (D : Int), .int .i64 0, .int .i64 0, .int .i64 0] 63)).heap[x]? = w.heap[x]? := fun x hx => ga.block x (hS x hx) (by simp)
  have c := visit_wide v R (w.heap.size + 1) D 0 (0, 0, 0) S _ _ (t.grown ga (fun r e => by cases e)) (V.lies_keep (fun h => h) hk (fun _ h => h) _ hl) (fun x hx => ⟨by have := hS x hx; omega, Nat.lt_of_lt_of_le (hS x hx) ga.size⟩) ⟨alloc2_new w _ _⟩ (by have := t.z; omega) hwt ⟨by simp, by simp, by simp⟩ hD (by omega)
  go_enter Tryz.func23, Tryz.ntmps23
  go_wp2_with fail
  refine c.mono ?_
  rintro e w1 ⟨rfl, _, g1⟩
  go_wp2_with fail
  go_ret
  rw [HF.out]
  exact ⟨rfl, (below_of_grown ga).grown g1 ga.size (fun r e => by cases e; omega)⟩

theorem check_any (R : Bool) (v : V) (depth : Int) (S : Nat → Prop) (cs : List Value) (w : World) (t : Tb w) (hl : v.lies R w S cs) (hS : ∀ b, S b → b < w.heap.size) (hwt : v.wt ≤ 1099511627776) :
    Calls Tryz.prog 23 #[.agg cs.toArray, .int .i64 depth] w (NPost (chkE v depth) w) := check_wide R v depth S cs w t hl hS (by omega)
end Go.Proofs.YtejcfkkkbnnmcaaGreatDoor
