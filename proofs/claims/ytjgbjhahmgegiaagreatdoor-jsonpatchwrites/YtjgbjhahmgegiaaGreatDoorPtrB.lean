import Derived.Test.YtjgbjhahmgegiaaGreatDoorPtrA
/- pointer.escape, Print, Parse; sameStrings. -/
set_option linter.unusedSimpArgs false
set_option linter.unusedVariables false
namespace Go.Proofs.YtjgbjhahmgegiaaGreatDoor
open Go.RowKit Go.Lib
/-- a list of strings that lies in memory -/
def LiesS (w : World) (v : Value) (l : List ByteArray) : Prop :=
  (∃ a c, v = .slice a l.length c) ∧ (0 < l.length → ∃ g o c, v = .slice (some ⟨g, o, none⟩) l.length c ∧ l.length ≤ c ∧ g < w.heap.size ∧ ∀ j (h : j < l.length), w.cell? ⟨g, o + j, none⟩ = some (.string l[j]))
theorem LiesS.below {w w' : World} {v : Value} {l : List ByteArray} (h : LiesS w v l) (hb : Below w.heap.size w w') : LiesS w' v l :=
  ⟨h.1, fun h0 => by
    obtain ⟨g, o, c, e, hle, hg, hc⟩ := h.2 h0
    exact ⟨g, o, c, e, hle, Nat.lt_of_lt_of_le hg hb.size, fun j hj => (hb.cell (p := ⟨g, o + j, none⟩) hg).trans (hc j hj)⟩⟩
theorem liesS_nil (w : World) : LiesS w (.slice none 0 0) [] := ⟨⟨none, 0, rfl⟩, fun h => by simp at h⟩
end Go.Proofs.YtjgbjhahmgegiaaGreatDoor
