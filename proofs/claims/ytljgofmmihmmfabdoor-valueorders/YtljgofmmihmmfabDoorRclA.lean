import Derived.Test.YtljgofmmihmmfabDoorTwinB
import Derived.Test.YtljgofmmihmmfabDoorJC
/- the document's clone. -/
set_option linter.unusedSimpArgs false
set_option linter.unusedVariables false
namespace Go.Proofs.YtljgofmmihmmfabDoor
open Go.RowKit

theorem own_listM {w : World} {N : Nat} {S : Nat → Prop} {v : Value} {l : List Mem} (h : OwnM false w N S v (l.map some)) : ∃ a c b o, v = .slice a l.length c ∧ Headed a l.length c b o ∧ liesM false w (From N w) l b o := by
  have h' := h
  obtain ⟨⟨xs, h1, h2⟩, h3⟩ := h'
  rcases h1.2 with ⟨rfl, e⟩ | ⟨g, cap, cur, rfl, _⟩
  · have e0 : l.length = 0 := by simpa using e
    have : l = [] := List.length_eq_zero_iff.1 e0
    subst this
    exact ⟨none, 0, 0, 0, rfl, headed_nil, by rw [liesM]; trivial⟩
  · have hle := h.le
    have hlt := h.lt (g := g) rfl
    simp only [List.length_map] at hle ⊢
    refine ⟨_, cap, g, 0, rfl, ⟨hle.1, hle.2, .inr rfl, fun h => by cases h⟩, liesM_mk fun j hj => ?_⟩
    obtain ⟨cs, k1, k2⟩ := h.at (by simp) j (by simpa using hj)
    rw [List.getElem_map] at k2
    obtain ⟨cs', rfl, hks, k3⟩ := k2
    exact ⟨hlt, hks, cs', k1, V.lies_keep (fun h => h) (fun _ _ => rfl) (fun b hb => ⟨(h.off b hb).1, (h.off b hb).2.1⟩) _ k3⟩

end Go.Proofs.YtljgofmmihmmfabDoor
