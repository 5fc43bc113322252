import Derived.Test.YtagjbphadakifaaDoorTwinB
/- Terms: how they lie in memory. -/
set_option linter.unusedSimpArgs false
set_option linter.unusedVariables false
namespace Go.Proofs.YtagjbphadakifaaDoor
open Go.RowKit
theorem hmk {p : Prop} (h : p) : Hid p := h
abbrev Trm := ByteArray × Int × List ByteArray
abbrev roomS : ByteArray := ⟨#[114, 111, 111, 109]⟩
/-- strings lie in a row -/
def liesS (w : World) (S : Nat → Prop) (l : List ByteArray) (b o : Nat) : Prop := ∀ j (h : j < l.length), S b ∧ (l[j]).size ≤ 140737488355328 ∧ w.cell? ⟨b, o + j, none⟩ = some (.string l[j])
theorem liesS.keep {w w' : World} {S S' : Nat → Prop} {l : List ByteArray} {b o : Nat} (h : liesS w S l b o) (hw : ∀ b, S b → w'.heap[b]? = w.heap[b]?) (hS : ∀ b, S b → S' b) : liesS w' S' l b o := fun j hj => by
  obtain ⟨h1, h2, h3⟩ := h j hj
  exact ⟨hS _ h1, h2, (World.cell?_of_block (w := w) (a := ⟨b, o + j, none⟩) (hw _ h1)).trans h3⟩
/-- the term lies in these three cells; R: seventy marks behind its values -/
def Trm.lies (R : Bool) (w : World) (S : Nat → Prop) (t : Trm) (cs : List Value) : Prop := ∃ a c b o, cs = [.string t.1, .int .i64 t.2.1, .slice a t.2.2.length c] ∧ In64 t.2.1 ∧ t.1.size ≤ 140737488355328 ∧ Headed a t.2.2.length c b o ∧ liesS w S t.2.2 b o ∧
  (R = true → a = some ⟨b, o, none⟩ ∧ t.2.2.length + 70 ≤ c ∧ S b ∧ ∀ k, k < 70 → w.cell? ⟨b, o + (t.2.2.length + k), none⟩ = some (.string roomS))
theorem Trm.lies_keep {R R' : Bool} (hR : R' = true → R = true) {w w' : World} {S S' : Nat → Prop} {t : Trm} {cs : List Value} (h : Trm.lies R w S t cs) (hw : ∀ b, S b → w'.heap[b]? = w.heap[b]?) (hS : ∀ b, S b → S' b) : Trm.lies R' w' S' t cs := by
  obtain ⟨a, c, b, o, e, h1, h2, h3, h4, h5⟩ := h
  refine ⟨a, c, b, o, e, h1, h2, h3, h4.keep hw hS, fun hr => ?_⟩
  obtain ⟨q1, q2, q3, q4⟩ := h5 (hR hr)
  exact ⟨q1, q2, hS _ q3, fun k hk => (World.cell?_of_block (w := w) (a := ⟨b, o + (t.2.2.length + k), none⟩) (hw _ q3)).trans (q4 k hk)⟩
def liesT (R : Bool) (w : World) (S : Nat → Prop) (l : List Trm) (b o : Nat) : Prop := ∀ j (h : j < l.length), S b ∧ ∃ cs, rowAt w b (o + j * 3) cs ∧ Trm.lies R w S l[j] cs
theorem liesT.keep {R R' : Bool} (hR : R' = true → R = true) {w w' : World} {S S' : Nat → Prop} {l : List Trm} {b o : Nat} (h : liesT R w S l b o) (hw : ∀ b, S b → w'.heap[b]? = w.heap[b]?) (hS : ∀ b, S b → S' b) : liesT R' w' S' l b o := fun j hj => by
  obtain ⟨h1, cs, h2, h3⟩ := h j hj
  exact ⟨hS _ h1, cs, h2.keep (hw _ h1), Trm.lies_keep hR h3 hw hS⟩
theorem row3 {w : World} {b o : Nat} {c c0 c1 : Value} (h : rowAt w b o [c, c0, c1]) : w.cell? ⟨b, o, none⟩ = some c ∧ w.cell? ⟨b, o + 1, none⟩ = some c0 ∧ w.cell? ⟨b, o + 2, none⟩ = some c1 := ⟨h 0 _ rfl, h 1 _ rfl, h 2 _ rfl⟩
def wtS : List ByteArray → Nat
  | [] => 0
  | s :: t => 1 + s.size + wtS t
def wtT : List Trm → Nat
  | [] => 0
  | x :: t => 1 + x.1.size + wtS x.2.2 + wtT t
theorem wtS_len : ∀ l : List ByteArray, l.length ≤ wtS l
  | [] => Nat.le_refl _
  | s :: t => by have := wtS_len t; simp only [List.length_cons, wtS]; omega
theorem wtT_len : ∀ l : List Trm, l.length ≤ wtT l
  | [] => Nat.le_refl _
  | x :: t => by have := wtT_len t; simp only [List.length_cons, wtT]; omega
theorem wtT_mem : ∀ {l : List Trm} {x : Trm}, x ∈ l → 1 + x.1.size + wtS x.2.2 ≤ wtT l
  | y :: t, x, h => by
    rcases List.mem_cons.1 h with rfl | h
    · simp only [wtT]; omega
    · have := wtT_mem h; simp only [wtT]; omega
theorem wtS_take {l : List ByteArray} {j : Nat} (h : j < l.length) : wtS (l.take (j + 1)) = wtS (l.take j) + (1 + (l[j]).size) := by
  induction l generalizing j with
  | nil => simp at h
  | cons x t ih =>
    cases j with
    | zero => simp [wtS]
    | succ j =>
      simp only [List.take_succ_cons, wtS, List.getElem_cons_succ]
      rw [ih (by simpa using h)]
      omega
theorem wtT_take {l : List Trm} {j : Nat} (h : j < l.length) : wtT (l.take (j + 1)) = wtT (l.take j) + (1 + (l[j]).1.size + wtS (l[j]).2.2) := by
  induction l generalizing j with
  | nil => simp at h
  | cons x t ih =>
    cases j with
    | zero => simp [wtT]
    | succ j =>
      simp only [List.take_succ_cons, wtT, List.getElem_cons_succ]
      rw [ih (by simpa using h)]
      omega
end Go.Proofs.YtagjbphadakifaaDoor
