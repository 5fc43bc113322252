import Derived.Test.YtejcfkkkbnnmcaaGreatDoorTwinB
import Derived.Test.YtejcfkkkbnnmcaaGreatDoorShlV
import Derived.Deep.RegionWith
/- value.plain, value.rising. -/
set_option linter.unusedSimpArgs false
set_option linter.unusedVariables false
namespace Go.Proofs.YtejcfkkkbnnmcaaGreatDoor
open Go.RowKit Go.Lib

theorem utab_grown {w w' : World} {row : Option Nat} (h : Utf8Tabs 0 1 w) (hb : w.grownBy w' row) (h2 : 2 < w.heap.size) (hr : ∀ r, row = some r → 2 < r) : Utf8Tabs 0 1 w' := by
  have hn : ∀ q, q ≤ 2 → some q ≠ row := fun q hq e => by have := hr q e.symm; omega
  have k1 := hb.block 0 (by omega) (hn 0 (by omega))
  have k2 := hb.block 1 (by omega) (hn 1 (by omega))
  exact ⟨fun c hc => (World.cell?_of_block (w := w) (a := ⟨0, c, none⟩) k1).trans (h.1 c hc), fun i hi => ⟨(World.cell?_of_block (w := w) (a := ⟨1, 2 * i, none⟩) k2).trans (h.2 i hi).1, (World.cell?_of_block (w := w) (a := ⟨1, 2 * i + 1, none⟩) k2).trans (h.2 i hi).2⟩⟩

/-- what the calls read beside their arguments -/
structure Tb (w : World) : Prop where
  u : Utf8Tabs 0 1 w
  z : 2 < w.heap.size
theorem Tb.grown {w w' : World} {row : Option Nat} (h : Tb w) (hb : w.grownBy w' row) (hr : ∀ r, row = some r → 2 < r) : Tb w' := ⟨utab_grown h.u hb h.z hr, Nat.lt_of_lt_of_le h.z hb.size⟩
theorem Tb.below {w w' : World} {B : Nat} (h : Tb w) (hb : Below B w w') (hB : 2 < B) : Tb w' := by
  refine ⟨?_, Nat.lt_of_lt_of_le h.z hb.size⟩
  exact ⟨fun c hc => (hb.cell (p := ⟨0, c, none⟩) (by show 0 < B; omega)).trans (h.u.1 c hc), fun i hi => ⟨(hb.cell (p := ⟨1, 2 * i, none⟩) (by show 1 < B; omega)).trans (h.u.2 i hi).1, (hb.cell (p := ⟨1, 2 * i + 1, none⟩) (by show 1 < B; omega)).trans (h.u.2 i hi).2⟩⟩

def plainB (k : Int) (b : Bool) (i : Int) (s : ByteArray) (nl nm : Nat) : Bool :=
  decide (0 ≤ k ∧ k ≤ 5 ∧ (k = 1 ∨ b = false) ∧ (k = 2 ∨ i = 0) ∧ (k = 3 ∨ s.toList.isEmpty = true) ∧ (k = 4 ∨ nl = 0) ∧ (k = 5 ∨ nm = 0))

def BPost (r : Bool) (w : World) (e : Ending) (w' : World) : Prop := e = .returned (.bool r) ∧ Below w.heap.size w w'

set_option maxHeartbeats 4000000 in
set_option maxRecDepth 100000 in
theorem plain_any (k : Int) (b : Bool) (i : Int) (s : ByteArray) (nl nm : Nat) (al am : Option Addr) (cl cm : Nat) (w : World) :
    Calls Tryz.prog 64 #[.agg #[.int .i64 k, .bool b, .int .i64 i, .string s, .slice al nl cl, .slice am nm cm]] w (BPost (plainB k b i s nl nm) w) := by
  go_enter Tryz.func64, Tryz.ntmps64
  go_wp2
  all_goals go_ret
  all_goals refine ⟨?_, (Below.refl _ _).alloc (Nat.le_refl _) _⟩
  all_goals show Ending.returned (Value.bool _) = Ending.returned (Value.bool _)
  all_goals refine congrArg (fun r => Ending.returned (Value.bool r)) ?_
  all_goals rw [Bool.eq_iff_iff]
  all_goals simp only [plainB, decide_eq_true_eq, beq_iff_eq, Bool.not_eq_true', Bool.false_eq_true, false_iff, true_iff]
  all_goals simp_all
  all_goals omega
end Go.Proofs.YtejcfkkkbnnmcaaGreatDoor
