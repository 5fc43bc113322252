import Derived.Test.YthlhkhcbkgbhfaaGreatDoorG6
/- anewScalar: a scalar without its lists. -/
set_option linter.unusedSimpArgs false
set_option linter.unusedVariables false
namespace Go.Proofs.YthlhkhcbkgbhfaaGreatDoor
open Go.RowKit Go.Lib
def AsPost (k : Int) (b : Bool) (i : Int) (s : ByteArray) (w : World) (e : Ending) (w' : World) : Prop := e = .returned (.agg #[.int .i64 k, .bool b, .int .i64 i, .string s, .slice none 0 0, .slice none 0 0]) ∧ Below w.heap.size w w'
set_option maxHeartbeats 1600000 in
set_option maxRecDepth 100000 in
theorem anscal_any (k : Int) (b : Bool) (i : Int) (s : ByteArray) (al : Option Addr) (nl cl : Nat) (am : Option Addr) (nm cm : Nat) (w : World) :
    Calls Tryz.prog 83 #[.agg #[.int .i64 k, .bool b, .int .i64 i, .string s, .slice al nl cl, .slice am nm cm]] w (AsPost k b i s w) := by
  have B0 : Below w.heap.size w ((w.alloc (.cells #[.int .i64 k, .bool b, .int .i64 i, .string s, .slice al nl cl, .slice am nm cm] 64)).alloc (.cells #[.int .i64 0, .bool false, .int .i64 0, .string ⟨#[]⟩, .slice none 0 0, .slice none 0 0] 64)) := ((Below.refl w.heap.size w).alloc (Nat.le_refl _) _).alloc (by rw [alloc_size]; omega) _
  have HB := hmk B0
  clear B0
  go_enter Tryz.func83, Tryz.ntmps83
  go_wp2_with fail
  (try simp only [Exit.inBlock, Exit.then])
  refine bodyPost_ret (v := .agg #[.int .i64 k, .bool b, .int .i64 i, .string s, .slice none 0 0, .slice none 0 0]) ?_ rfl ?_
  · rw [results_cell1 rfl]
    go_simp
  · refine ⟨rfl, ?_⟩
    first
      | exact HB.out
      | exact ((Below.refl w.heap.size w).alloc (Nat.le_refl _) _).alloc (by rw [alloc_size]; omega) _
      | (repeat (refine Below.setCell ?_ (by simp) _)
         exact HB.out)
end Go.Proofs.YthlhkhcbkgbhfaaGreatDoor
