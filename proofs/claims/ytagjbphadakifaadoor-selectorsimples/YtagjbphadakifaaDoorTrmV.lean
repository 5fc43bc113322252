import Derived.Test.YtagjbphadakifaaDoorTrmU
import Derived.Test.YtagjbphadakifaaDoorTrmO
/- the document's Good and Match; labels, tagged, members. -/
set_option linter.unusedSimpArgs false
set_option linter.unusedVariables false
namespace Go.Proofs.YtagjbphadakifaaDoor
open Go.RowKit Go.Lib
theorem rgood_any (l : List Trm) (R : Bool) (S : Nat → Prop) (al : Option Addr) (cl bl ol : Nat) (w : World)
    (hh : Headed al l.length cl bl ol) (hl : liesT R w S l bl ol) (hS : ∀ y, S y → y < w.heap.size) :
    Calls Tryd.prog 27 #[.slice al l.length cl] w (BPost (l.all goodB) w) :=
  rgood_of goodB l R S al cl bl ol w hh hl hS (fun W hW t a c b o ht h1 h2 => by
    obtain ⟨j, hj, rfl⟩ := List.mem_iff_getElem.1 ht
    obtain ⟨_, cs, _, t1⟩ := hl j hj
    obtain ⟨_, _, _, _, _, _, hks, _⟩ := t1
    exact rgoodt_any _ _ _ S a c b o W h1 h2 (fun y hy => Nat.lt_of_lt_of_le (hS y hy) hW.size) hks)
abbrev Lab := ByteArray × ByteArray × Int
def Lab.ok (x : Lab) : Prop := x.1.size ≤ 140737488355328 ∧ x.2.1.size ≤ 140737488355328 ∧ In64 x.2.2
def liesB (w : World) (S : Nat → Prop) (l : List Lab) (b o : Nat) : Prop := ∀ j (h : j < l.length), S b ∧ rowAt w b (o + j * 3) [.string (l[j]).1, .string (l[j]).2.1, .int .i64 (l[j]).2.2] ∧ (l[j]).ok
theorem liesB.keep {w w' : World} {S S' : Nat → Prop} {l : List Lab} {b o : Nat} (h : liesB w S l b o) (hw : ∀ b, S b → w'.heap[b]? = w.heap[b]?) (hS : ∀ b, S b → S' b) : liesB w' S' l b o := fun j hj => by
  obtain ⟨h1, h2, h3⟩ := h j hj
  exact ⟨hS _ h1, h2.keep (hw _ h1), h3⟩
end Go.Proofs.YtagjbphadakifaaDoor
