import Derived.Test.YtgnofbigggmilaaGreatDoorPtrA
/- pointer.escape, Print, Parse; sameStrings. -/
set_option linter.unusedSimpArgs false
set_option linter.unusedVariables false
namespace Go.Proofs.YtgnofbigggmilaaGreatDoor
open Go.RowKit Go.Lib
theorem repl_len (c : UInt8) (new : List UInt8) (hn : new.length ≤ 2) : ∀ s : List UInt8, (repl c new s).length ≤ 2 * s.length
  | [] => by simp [repl]
  | x :: t => by
    have ih := repl_len c new hn t
    have e : repl c new (x :: t) = (if x = c then new else [x]) ++ repl c new t := by simp only [repl, List.flatMap_cons]
    rw [e, List.length_append, List.length_cons]
    split
    · omega
    · simp only [List.length_cons, List.length_nil]; omega
/-- a list of strings that lies in memory -/
def LiesS (w : World) (v : Value) (l : List ByteArray) : Prop :=
  (∃ a c, v = .slice a l.length c) ∧ (0 < l.length → ∃ g o c, v = .slice (some ⟨g, o, none⟩) l.length c ∧ l.length ≤ c ∧ g < w.heap.size ∧ ∀ j (h : j < l.length), w.cell? ⟨g, o + j, none⟩ = some (.string l[j]))
theorem LiesS.below {w w' : World} {v : Value} {l : List ByteArray} (h : LiesS w v l) (hb : Below w.heap.size w w') : LiesS w' v l :=
  ⟨h.1, fun h0 => by
    obtain ⟨g, o, c, e, hle, hg, hc⟩ := h.2 h0
    exact ⟨g, o, c, e, hle, Nat.lt_of_lt_of_le hg hb.size, fun j hj => (hb.cell (p := ⟨g, o + j, none⟩) hg).trans (hc j hj)⟩⟩
theorem liesS_nil (w : World) : LiesS w (.slice none 0 0) [] := ⟨⟨none, 0, rfl⟩, fun h => by simp at h⟩
theorem below_drewN (B : Nat) (w : World) (n : Nat) : Below B w (w.drewN n) := ⟨rfl, rfl, rfl, Nat.le_refl _, fun _ _ => rfl⟩
end Go.Proofs.YtgnofbigggmilaaGreatDoor
