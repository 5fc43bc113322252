import Derived.Test.YtolekldjbbjmjaaGreatDoorRdH
/- What is unquoted is no longer than the text. -/
namespace Go.Proofs.YtolekldjbbjmjaaGreatDoor
open Go.RowKit Go.Lib
theorem Q.borne_of (s : ByteArray) (z : Int) (hs : s.size ≤ 140737488355000) : Q.Borne (Q.unqAll s.data.toList z) := by
  have h := Q.unqAll_inv s.data.toList z
  have hl : s.data.toList.length = s.size := by simp
  rw [hl] at h
  refine ⟨fun c => ?_, fun _ => by omega⟩
  have := (h.2 c).2.2.2.2
  omega
theorem Q.unq_place (s : ByteArray) (z : Int) : (Q.unqAll s.data.toList z).2.1 ≤ s.size ∧ ((Q.unqAll s.data.toList z).2.2 = 0 → (Q.unqAll s.data.toList z).1.length ≤ s.size) := by
  have h := Q.unqAll_inv s.data.toList z
  have hl : s.data.toList.length = s.size := by simp
  rw [hl] at h
  refine ⟨by omega, fun c => ?_⟩
  have := (h.2 c).2.2.2.2
  omega
end Go.Proofs.YtolekldjbbjmjaaGreatDoor
