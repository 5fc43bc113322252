import Derived.Test.YtejcfkkkbnnmcaaGreatDoorGodA
/- good: some good value; a list. -/
set_option linter.unusedSimpArgs false
set_option linter.unusedVariables false
namespace Go.Proofs.YtejcfkkkbnnmcaaGreatDoor
open Go.RowKit

theorem OwnL.set6 {w : World} {base M : Nat} {S : Nat → Prop} {v : Value} {l : List (Option V)} (h : OwnL false w base S v l) (hM : M < base) (i1 i2 i3 i4 i5 i6 : Nat) (u1 u2 u3 u4 u5 u6 : Value) :
    OwnL false ((((((w.setCell ⟨M, i1, none⟩ u1).setCell ⟨M, i2, none⟩ u2).setCell ⟨M, i3, none⟩ u3).setCell ⟨M, i4, none⟩ u4).setCell ⟨M, i5, none⟩ u5).setCell ⟨M, i6, none⟩ u6) base S v l :=
  (((((h.set (keepL false) hM i1 u1).set (keepL false) hM i2 u2).set (keepL false) hM i3 u3).set (keepL false) hM i4 u4).set (keepL false) hM i5 u5).set (keepL false) hM i6 u6
theorem Below.set6 {B M : Nat} {a w : World} (h : Below B a w) (hM : B ≤ M) (i1 i2 i3 i4 i5 i6 : Nat) (u1 u2 u3 u4 u5 u6 : Value) :
    Below B a ((((((w.setCell ⟨M, i1, none⟩ u1).setCell ⟨M, i2, none⟩ u2).setCell ⟨M, i3, none⟩ u3).setCell ⟨M, i4, none⟩ u4).setCell ⟨M, i5, none⟩ u5).setCell ⟨M, i6, none⟩ u6) := by
  repeat (refine Below.setCell ?_ (by assumption) _)
  exact h
end Go.Proofs.YtejcfkkkbnnmcaaGreatDoor
