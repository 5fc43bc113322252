import Derived.Shelf.Small.Strs
import Derived.Test.YtljgofmmihmmfabDoorOrdP
/- strings.Compare by its contract, laid at this program; cmp.Compare of integers, the order of bools. -/
set_option linter.unusedSimpArgs false
set_option linter.unusedVariables false
namespace Go.Proofs
open Go.Shelf Go.RowKit
def Tryd.lays106_ren : Go.Shelf.Ren := ⟨fun | 106 => 34 | 213 => 49 | 265 => 71 | n => n, fun | 3 => 3 | 9 => 9 | n => n, fun | n => n⟩
theorem Tryd.lays106 : Go.Proofs.Lays.n106 Tryd.prog Tryd.lays106_ren := {
  mixed := by kernel_rfl
  f106 := Tryd.func34.trans (congrArg some (by kernel_rfl))
  f213 := Tryd.func49.trans (congrArg some (by kernel_rfl))
  f265 := Tryd.func71.trans (congrArg some (by kernel_rfl))
  t3 := Tryd.underlying3
  a3 := Tryd.isAgg3
  z3 := Tryd.sizeOf3
  v3 := Tryd.zeroValue3
  t9 := Tryd.underlying9
  a9 := Tryd.isAgg9
  z9 := Tryd.sizeOf9
  v9 := Tryd.zeroValue9 }
namespace YtljgofmmihmmfabDoor
open Go.Lib
theorem scompare_any (a b : ByteArray) (w : World) : Calls Tryd.prog 34 #[.string a, .string b] w (JPost (cmpS a b) w) :=
  (Any.strings_Compare Tryd.lays106 a b w).mono fun e w' h => ⟨h.1, by rw [h.2]; exact Below.refl _ _⟩

theorem isnan_any (a : Int) (w : World) : Calls Tryd.prog 75 #[.int .i64 a] w (BPost false w) := by
  go_enter Tryd.func75, Tryd.ntmps75
  go_wp2_with fail
  go_ret
  exact ⟨by simp, Below.refl _ _⟩

theorem icompare_any (a b : Int) (w : World) : Calls Tryd.prog 56 #[.int .i64 a, .int .i64 b] w (JPost (cmpI a b) w) := by
  go_enter Tryd.func56, Tryd.ntmps56
  go_wp2_with fail
  refine (isnan_any a w).mono ?_
  rintro e w1 ⟨rfl, b1⟩
  go_wp2_with fail
  refine (isnan_any b w1).mono ?_
  rintro e w2 ⟨rfl, b2⟩
  have B2 := b1.trans (b2.mono b1.size)
  by_cases h1 : a < b
  · have HF : Hid (cmpI a b = -1) := by show _ = _; simp [cmpI, h1]
    go_wp2_with fail
    go_ret
    rw [HF.out]
    exact ⟨rfl, B2⟩
  · by_cases h2 : b < a
    · have HF : Hid (cmpI a b = 1) := by show _ = _; simp [cmpI, h1, h2]
      have y2 : a > b := h2
      go_wp2_with fail
      go_ret
      rw [HF.out]
      exact ⟨rfl, B2⟩
    · have HF : Hid (cmpI a b = 0) := by show _ = _; simp [cmpI, h1, h2]
      have y2 : ¬ a > b := h2
      go_wp2_with fail
      go_ret
      rw [HF.out]
      exact ⟨rfl, B2⟩

theorem bcompare_any (a b : Bool) (w : World) : Calls Tryd.prog 57 #[.bool a, .bool b] w (JPost (cmpB a b) w) := by
  cases a <;> cases b
  all_goals
    go_enter Tryd.func57, Tryd.ntmps57
    go_wp2_with fail
    go_ret
    exact ⟨rfl, Below.refl _ _⟩
end YtljgofmmihmmfabDoor
end Go.Proofs
