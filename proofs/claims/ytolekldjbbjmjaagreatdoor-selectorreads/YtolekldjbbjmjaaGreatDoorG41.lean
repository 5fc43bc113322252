/- joined: BakB CanB -/
import Derived.Test.YtolekldjbbjmjaaGreatDoorG40
/- a selector's text is read as that selector: terms. -/
set_option linter.unusedSimpArgs false
set_option linter.unusedVariables false
namespace Go.Proofs.YtolekldjbbjmjaaGreatDoor
open Go.RowKit Go.Lib
/-- behind a term: nothing, or a comma -/
def EndT (u : List UInt8) : Prop := u = [] ∨ ∃ v, u = 44 :: v
theorem EndT.noP {u : List UInt8} (h : EndT u) : NoP u := by
  rcases h with rfl | ⟨v, rfl⟩
  · exact noP_nil
  · exact noP_cons (by decide)
theorem word_nob (x : ByteArray) (u : List UInt8) : (wordL x ++ u).head? ≠ some 32 := by
  obtain ⟨c, t, hc, hh⟩ := wordL_head x
  rw [hc]
  intro q
  exact head_ne hh 32 (by decide) (by decide) (Option.some.inj q)
theorem cond_end {l u : List UInt8} {k : Nat} (h : At l k u) (hu : EndT u) : condF l k = (some (1, []), k) := by
  have h1 : tkB l k [61, 61] = false := by rw [tk_at h]; rcases hu with rfl | ⟨v, rfl⟩ <;> rfl
  have h2 : tkB l k [61] = false := by rw [tk_at h]; rcases hu with rfl | ⟨v, rfl⟩ <;> rfl
  have h3 : tkB l k [33, 61] = false := by rw [tk_at h]; rcases hu with rfl | ⟨v, rfl⟩ <;> rfl
  have h4 : opS l k = ⟨#[]⟩ := by
    unfold opS
    rw [h1, h2, h3, pln_at h, tw_noP hu.noP]
    rfl
  unfold condF
  rw [h4, if_neg (by decide), if_neg (by decide), if_neg (by decide), if_neg (by decide), if_neg (by decide)]
end Go.Proofs.YtolekldjbbjmjaaGreatDoor
/- what is read may be, and weighs no more than so; a fault's place lies in the text: plain. -/
namespace Go.Proofs.YtolekldjbbjmjaaGreatDoor
open Go.RowKit Go.Lib
theorem op_tk {l p : List UInt8} {k : Nat} (h : opS l k = ⟨p.toArray⟩) : tkB l k p = true := by
  have inj : ∀ q : List UInt8, (⟨q.toArray⟩ : ByteArray) = ⟨p.toArray⟩ → q = p := fun q e => by
    have := congrArg (fun b : ByteArray => b.data.toList) e
    simpa using this
  unfold opS at h
  split at h
  · rename_i c; rw [← inj [61, 61] h]; exact c
  · split at h
    · rename_i c; rw [← inj [61] h]; exact c
    · split at h
      · rename_i c; rw [← inj [33, 61] h]; exact c
      · rw [← inj _ h]
        unfold tkB hasPrefix plnT
        exact List.isPrefixOf_iff_prefix.2 (List.takeWhile_prefix _)
end Go.Proofs.YtolekldjbbjmjaaGreatDoor
