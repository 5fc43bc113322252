/- joined: PlsR AnsR -/
import Derived.Test.YtfihgaffiobfhaaDoorSmpB
/- Lists of paths: how they lie, how they are counted, that a list and its twin are the same. -/
set_option linter.unusedSimpArgs false
set_option linter.unusedVariables false
namespace Go.Proofs.YtfihgaffiobfhaaDoor
open Go.RowKit Go.Lib
/-- a path's one cell -/
def Pl.lies (w : World) (S : Nat → Prop) (p : List El) (v : Value) : Prop := ∃ ap cp bp op, v = .slice ap p.length cp ∧ Headed ap p.length cp bp op ∧ liesP w S p bp op
theorem Pl.keep {w w' : World} {S S' : Nat → Prop} (hw : ∀ b, S b → w'.heap[b]? = w.heap[b]?) (hS : ∀ b, S b → S' b) {p : List El} {v : Value} (h : Pl.lies w S p v) : Pl.lies w' S' p v := by
  obtain ⟨ap, cp, bp, op, e, h1, h2⟩ := h
  exact ⟨ap, cp, bp, op, e, h1, liesP_keep hw hS h2⟩
end Go.Proofs.YtfihgaffiobfhaaDoor
/- anewScalar: a scalar without its lists. -/
namespace Go.Proofs.YtfihgaffiobfhaaDoor
open Go.RowKit Go.Lib
def AsPost (k : Int) (b : Bool) (i : Int) (s : ByteArray) (w : World) (e : Ending) (w' : World) : Prop := e = .returned (.agg #[.int .i64 k, .bool b, .int .i64 i, .string s, .slice none 0 0, .slice none 0 0]) ∧ Below w.heap.size w w'
set_option maxHeartbeats 1600000 in
set_option maxRecDepth 100000 in
theorem anscal_any (k : Int) (b : Bool) (i : Int) (s : ByteArray) (al : Option Addr) (nl cl : Nat) (am : Option Addr) (nm cm : Nat) (w : World) :
    Calls Tryd.prog 32 #[.agg #[.int .i64 k, .bool b, .int .i64 i, .string s, .slice al nl cl, .slice am nm cm]] w (AsPost k b i s w) := by
  have B0 : Below w.heap.size w ((w.alloc (.cells #[.int .i64 k, .bool b, .int .i64 i, .string s, .slice al nl cl, .slice am nm cm] 32)).alloc (.cells #[.int .i64 0, .bool false, .int .i64 0, .string ⟨#[]⟩, .slice none 0 0, .slice none 0 0] 32)) := ((Below.refl w.heap.size w).alloc (Nat.le_refl _) _).alloc (by rw [alloc_size]; omega) _
  have HB := hmk B0
  clear B0
  go_enter Tryd.func32, Tryd.ntmps32
  go_wp2_with fail
  (try simp only [Exit.inBlock, Exit.then])
  refine bodyPost_ret (v := .agg #[.int .i64 k, .bool b, .int .i64 i, .string s, .slice none 0 0, .slice none 0 0]) ?_ rfl ?_
  · rw [results_cell1 rfl]
    go_simp
  · refine ⟨rfl, ?_⟩
    first
      | exact HB.out
      | exact ((Below.refl w.heap.size w).alloc (Nat.le_refl _) _).alloc (by rw [alloc_size]; omega) _
      | (repeat (refine Below.setCell ?_ (by simp) _)
         exact HB.out)
end Go.Proofs.YtfihgaffiobfhaaDoor
