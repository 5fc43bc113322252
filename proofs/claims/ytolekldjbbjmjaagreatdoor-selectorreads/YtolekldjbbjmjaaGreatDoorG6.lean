/- joined: TrmO TrmV TrmY -/
import Derived.Test.YtolekldjbbjmjaaGreatDoorG5
import Derived.Test.YtolekldjbbjmjaaGreatDoorRows
import Derived.Lib.LaidIn
import Derived.Lib.LaidU8T
import Derived.WideKeyArgs
import Derived.OpenShut
import Derived.Deep.DeepHandedRow
/- shaped. -/
set_option linter.unusedSimpArgs false
set_option linter.unusedVariables false
namespace Go.Proofs.YtolekldjbbjmjaaGreatDoor
open Go.RowKit Go.Lib
/-- a term in memory, with no marks asked -/
def EF (x : Trm) (w : World) (S : Nat → Prop) (cs : List Value) : Prop := Trm.lies false w S x cs
theorem keepF : KeepE EF := by
  intro x w w' S S' cs hw hS h
  exact Trm.lies_keep (fun h => h) h hw hS
abbrev OwnF := OwnR EF 35 3
theorem head_nilS : Headed none 0 0 0 0 := ⟨Nat.le_refl _, by decide, .inl rfl, fun _ => rfl⟩
theorem own_terms {w w' : World} {SM : Nat → Prop} {v : Value} {l : List Trm} (h : OwnF w' w.heap.size SM v l) : ∃ a c b o, v = .slice a l.length c ∧ Headed a l.length c b o ∧ liesT false w' (New w w') l b o := by
  obtain ⟨a, c, rfl⟩ := own_slice h
  cases l with
  | nil =>
    have h' := h
    obtain ⟨⟨xs, h1, _⟩, _⟩ := h'
    rcases h1.2 with ⟨e, e2⟩ | ⟨g, cap, cur, e, _⟩
    · simp only [Value.slice.injEq] at e
      obtain ⟨rfl, _, rfl⟩ := e
      exact ⟨none, 0, 0, 0, rfl, head_nilS, fun j hj => by simp at hj⟩
    · simp only [Value.slice.injEq] at e
      obtain ⟨rfl, _, rfl⟩ := e
      have h2 := h.le
      exact ⟨_, _, g, 0, rfl, ⟨h2.1, h2.2, .inr rfl, fun h => by cases h⟩, fun j hj => by simp at hj⟩
  | cons x t =>
    obtain ⟨g, cap, hv, hc1, hc2, hg1, hg2⟩ := own_some h (by simp)
    simp only [Value.slice.injEq] at hv
    obtain ⟨rfl, _, rfl⟩ := hv
    refine ⟨_, _, g, 0, rfl, ⟨hc1, hc2, .inr rfl, fun h => by cases h⟩, fun j hj => ⟨⟨hg1, hg2⟩, ?_⟩⟩
    obtain ⟨cs, h1, h2⟩ := h.at rfl j hj
    have h3 : Trm.lies false w' SM _ cs := h2
    exact ⟨cs, h1, Trm.lies_keep (fun h => h) h3 (fun _ _ => rfl) (fun b hb => ⟨(h.off b hb).1, (h.off b hb).2.1⟩)⟩
/-- a row of texts that was made: as an argument -/
theorem own_read {w : World} {base : Nat} {S : Nat → Prop} {v : Value} {l : List ByteArray} (h : OwnSt w base S v l) (hs : ∀ s ∈ l, s.size ≤ 140737488355328) : ∃ a c b o, v = .slice a l.length c ∧ Headed a l.length c b o ∧ liesS w (fun y => base ≤ y ∧ y < w.heap.size) l b o := by
  obtain ⟨a, c, rfl⟩ := own_slice h
  cases l with
  | nil =>
    have h' := h
    obtain ⟨⟨xs, h1, _⟩, _⟩ := h'
    rcases h1.2 with ⟨e, e2⟩ | ⟨g, cap, cur, e, _⟩
    · simp only [Value.slice.injEq] at e
      obtain ⟨rfl, _, rfl⟩ := e
      exact ⟨none, 0, 0, 0, rfl, head_nilS, fun j hj => by simp at hj⟩
    · simp only [Value.slice.injEq] at e
      obtain ⟨rfl, _, rfl⟩ := e
      have h2 := h.le
      exact ⟨_, _, g, 0, rfl, ⟨h2.1, h2.2, .inr rfl, fun h => by cases h⟩, fun j hj => by simp at hj⟩
  | cons x t =>
    obtain ⟨g, cap, hv, hc1, hc2, hg1, hg2⟩ := own_some h (by simp)
    simp only [Value.slice.injEq] at hv
    obtain ⟨rfl, _, rfl⟩ := hv
    refine ⟨_, _, g, 0, rfl, ⟨hc1, hc2, .inr rfl, fun h => by cases h⟩, fun j hj => ⟨⟨hg1, hg2⟩, hs _ (List.getElem_mem hj), ?_⟩⟩
    have := own_str h rfl j hj
    exact this
end Go.Proofs.YtolekldjbbjmjaaGreatDoor
/- the document's Good and Match; labels, tagged, members. -/
namespace Go.Proofs.YtolekldjbbjmjaaGreatDoor
open Go.RowKit Go.Lib
abbrev Lab := ByteArray × ByteArray × Int
def Lab.ok (x : Lab) : Prop := x.1.size ≤ 140737488355328 ∧ x.2.1.size ≤ 140737488355328 ∧ In64 x.2.2
def liesB (w : World) (S : Nat → Prop) (l : List Lab) (b o : Nat) : Prop := ∀ j (h : j < l.length), S b ∧ rowAt w b (o + j * 3) [.string (l[j]).1, .string (l[j]).2.1, .int .i64 (l[j]).2.2] ∧ (l[j]).ok
theorem liesB.keep {w w' : World} {S S' : Nat → Prop} {l : List Lab} {b o : Nat} (h : liesB w S l b o) (hw : ∀ b, S b → w'.heap[b]? = w.heap[b]?) (hS : ∀ b, S b → S' b) : liesB w' S' l b o := fun j hj => by
  obtain ⟨h1, h2, h3⟩ := h j hj
  exact ⟨hS _ h1, h2.keep (hw _ h1), h3⟩
end Go.Proofs.YtolekldjbbjmjaaGreatDoor
/- What the rows need: the tables, the arguments opened and given back, a world for the witness. -/
namespace Go.Proofs.YtolekldjbbjmjaaGreatDoor
open Go.Shelf Go.Lib Go.ChangeShapes Go.RowKit Go.WideShapes Go.Deep
theorem accept_eq : Rows.laid_unicode_utf8_acceptRanges = Lib.acceptData := by kernel_rfl
theorem first_eq : Rows.laid_unicode_utf8_first = Lib.firstData := by kernel_rfl
theorem utabs_of {W : World} (h3 : VarReads Tryz.prog W "unicode/utf8.first" Rows.laid_unicode_utf8_first) (h4 : VarReads Tryz.prog W "unicode/utf8.acceptRanges" Rows.laid_unicode_utf8_acceptRanges) : Utf8Tabs 0 1 W := by
  rw [first_eq] at h3
  rw [accept_eq] at h4
  exact utf8Tabs_of_readsT (U8Types.of196 Tryz.lays196) ⟨by kernel_rfl, by kernel_rfl, by kernel_rfl, by kernel_rfl, by kernel_rfl, by kernel_rfl, by kernel_rfl⟩ h3 h4
theorem own : ownKnob Tryz.prog.godebug = none := by kernel_rfl
def putCells (cs : Array Value) : Obj → Obj
  | .cells _ t frozen => .cells cs t frozen
  | o => o
variable {H : Type} {enc : TypeId × Value → H}
section
variable {w : World} {spare : Nat → Bool} {held : Bool}
end
theorem block_lt {W : World} {b o : Nat} {v : Value} (h : W.cell? ⟨b, o, none⟩ = some v) : b < W.heap.size := World.block_lt_of_cell? W ⟨b, o, none⟩ h
theorem utab_lt {W : World} (h : Utf8Tabs 0 1 W) : 1 < W.heap.size := block_lt (h.2 0 (by omega)).1
end Go.Proofs.YtolekldjbbjmjaaGreatDoor
