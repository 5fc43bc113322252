/- The book's block, cell by cell. -/
import Derived.Test.YtpbejbpimcidjaaSwX
import Derived.Deep.CutBlock
set_option linter.unusedSimpArgs false
set_option linter.unusedVariables false
namespace Go.Proofs.Ytpbejbpimcidjaa
open Go Go.Lib Go.RowKit Go.Maps Go.Sort

def bbx (at_ : Int) (row : List Value) (sv evv : Value) : Array Value := #[.int .i64 at_] ++ row.toArray ++ #[sv, evv]
theorem bbx_list (at_ : Int) (row : List Value) (sv evv : Value) : bbx at_ row sv evv = (Value.int .i64 at_ :: (row ++ [sv, evv])).toArray := by
  unfold bbx
  apply Array.ext'
  simp
theorem bbx_set0 (at_ b : Int) (row : List Value) (sv evv : Value) : (bbx at_ row sv evv).setIfInBounds 0 (.int .i64 b) = bbx b row sv evv := by
  rw [bbx_list, bbx_list]
  simp
theorem bbx_setr (at_ : Int) (row : List Value) (sv evv v : Value) (j : Nat) (hj : j < row.length) : (bbx at_ row sv evv).setIfInBounds (1 + j) v = bbx at_ (row.set j v) sv evv := by
  rw [bbx_list, bbx_list, List.setIfInBounds_toArray, Nat.add_comm 1 j, List.set_cons_succ, List.set_append_left _ _ hj]
theorem bbx_set16 (at_ : Int) (row : List Value) (sv evv v : Value) (hl : row.length = 15) : (bbx at_ row sv evv).setIfInBounds 16 v = bbx at_ row v evv := by
  rw [bbx_list, bbx_list, List.setIfInBounds_toArray, show (16 : Nat) = 15 + 1 from rfl, List.set_cons_succ, List.set_append_right _ _ (by omega), hl]
  rfl
theorem bbx_set17 (at_ : Int) (row : List Value) (sv evv v : Value) (hl : row.length = 15) : (bbx at_ row sv evv).setIfInBounds 17 v = bbx at_ row sv v := by
  rw [bbx_list, bbx_list, List.setIfInBounds_toArray, show (17 : Nat) = 16 + 1 from rfl, List.set_cons_succ, List.set_append_right _ _ (by omega), hl]
  rfl
theorem bbx_c0 (at_ : Int) (row : List Value) (sv evv : Value) : (bbx at_ row sv evv)[0]? = some (.int .i64 at_) := by rw [bbx_list]; simp
theorem bbx_cr (at_ : Int) (row : List Value) (sv evv v : Value) {j : Nat} (h : row[j]? = some v) : (bbx at_ row sv evv)[1 + j]? = some v := by
  have hj := (List.getElem?_eq_some_iff.1 h).1
  rw [bbx_list, List.getElem?_toArray, Nat.add_comm 1 j, List.getElem?_cons_succ, List.getElem?_append_left hj]
  exact h
theorem bbx_c16 (at_ : Int) (row : List Value) (sv evv : Value) (hl : row.length = 15) : (bbx at_ row sv evv)[16]? = some sv := by
  rw [bbx_list, List.getElem?_toArray, show (16 : Nat) = 15 + 1 from rfl, List.getElem?_cons_succ, List.getElem?_append_right (by omega), hl]
  rfl
theorem bbx_c17 (at_ : Int) (row : List Value) (sv evv : Value) (hl : row.length = 15) : (bbx at_ row sv evv)[17]? = some evv := by
  rw [bbx_list, List.getElem?_toArray, show (17 : Nat) = 16 + 1 from rfl, List.getElem?_cons_succ, List.getElem?_append_right (by omega), hl]
  rfl
/-- three cells of a row turned -/
def set3 (row : List Value) (k : Nat) (a b c : Value) : List Value := ((row.set (k * 3) a).set (k * 3 + 1) b).set (k * 3 + 2) c
theorem set3_len (row : List Value) (k : Nat) (a b c : Value) : (set3 row k a b c).length = row.length := by simp [set3]
theorem set3_bbx (at_ : Int) (row : List Value) (sv evv a b c : Value) (k : Nat) (hk : k < 5) (hl : row.length = 15) : (((bbx at_ row sv evv).setIfInBounds (1 + k * 3) a).setIfInBounds (1 + k * 3 + 1) b).setIfInBounds (1 + k * 3 + 2) c = bbx at_ (set3 row k a b c) sv evv := by
  rw [bbx_setr _ _ _ _ _ _ (by omega), Nat.add_assoc 1, bbx_setr _ _ _ _ _ _ (by simp; omega), Nat.add_assoc 1, bbx_setr _ _ _ _ _ _ (by simp; omega)]
  rfl
theorem set3_row {w : World} {A : An} {row : List Value} (h : Row15 w A row) (k : Nat) (hk : k < 5) (s : Sn) (a b c : Value) (hs : SnC w s a b c) : Row15 w (fun j => if j = k then s else A j) (set3 row k a b c) := by
  refine ⟨by rw [set3_len]; exact h.1, fun j hj => ?_⟩
  have hl := h.1
  by_cases hjk : j = k
  · subst hjk
    refine ⟨a, b, c, ?_, ?_, ?_, by simpa using hs⟩
    · simp [set3, List.getElem?_set]; omega
    · simp [set3, List.getElem?_set]; omega
    · simp [set3, List.getElem?_set]; omega
  · obtain ⟨a', b', c', h1, h2, h3, h4⟩ := h.2 j hj
    refine ⟨a', b', c', ?_, ?_, ?_, by simpa [hjk] using h4⟩
    · rw [← h1]; simp only [set3]; rw [List.getElem?_set_ne (by omega), List.getElem?_set_ne (by omega), List.getElem?_set_ne (by omega)]
    · rw [← h2]; simp only [set3]; rw [List.getElem?_set_ne (by omega), List.getElem?_set_ne (by omega), List.getElem?_set_ne (by omega)]
    · rw [← h3]; simp only [set3]; rw [List.getElem?_set_ne (by omega), List.getElem?_set_ne (by omega), List.getElem?_set_ne (by omega)]
theorem set3_twice (row : List Value) (k : Nat) (a b c a' b' c' : Value) (hk : k < 5) (hl : row.length = 15) : set3 (set3 row k a b c) k a' b' c' = set3 row k a' b' c' := by
  apply List.ext_getElem?
  intro i
  simp only [set3, List.getElem?_set, List.length_set, hl]
  repeat' split
  all_goals first | rfl | omega
theorem Ks.of_block {w w' : World} {B : Nat} (h : ∀ y, y ≠ B → w'.heap[y]? = w.heap[y]?) {c : Array Value} {t : TypeId} {fr : Nat × Nat} (hb : w.heap[B]? = some (.cells c t fr)) (ht : t = 37 ∨ t = 33 ∨ t = 70 ∨ t = 32) : Ks w w' := fun y o e hne => by
  refine h y (fun q => ?_)
  subst q
  rw [hb] at e
  obtain rfl := Option.some.inj e
  have := hne c t fr rfl
  rcases ht with rfl | rfl | rfl | rfl <;> simp at this
theorem Ks.trans {a b c : World} (h : Ks a b) (k : Ks b c) : Ks a c := fun y o e hne => (k y o ((h y o e hne).trans e) hne).trans (h y o e hne)
theorem Ks.of_below {w w' : World} (b : Below w.heap.size w w') : Ks w w' := fun y o e _ => b.block y (lt_of_block e)
/-- all cells but the book's own block -/
def Kn (w w' : World) : Prop := ∀ (y : Nat) (c : Array Value) (t : TypeId) (fr : Nat × Nat), w.heap[y]? = some (Obj.cells c t fr) → t ≠ 37 → w'.heap[y]? = w.heap[y]?
theorem Kn.trans {a b c : World} (h : Kn a b) (k : Kn b c) : Kn a c := fun y cs t fr e ht => (k y cs t fr ((h y cs t fr e ht).trans e) ht).trans (h y cs t fr e ht)
theorem Kn.of_below {w w' : World} (b : Below w.heap.size w w') : Kn w w' := fun y c t fr e _ => b.block y (lt_of_block e)
theorem Kn.of_block {w w' : World} {B : Nat} (h : ∀ y, y ≠ B → w'.heap[y]? = w.heap[y]?) {c : Array Value} {fr : Nat × Nat} (hb : w.heap[B]? = some (.cells c 37 fr)) : Kn w w' := fun y cs t fr' e ht => by
  refine h y (fun q => ht ?_)
  subst q
  rw [hb] at e
  simp only [Option.some.injEq, Obj.cells.injEq] at e
  exact e.2.1.symm
theorem Kn.b5 {w w' : World} (h : Kn w w') : ∀ (y : Nat) (c : Array Value) (fr : Nat × Nat), w.heap[y]? = some (Obj.cells c 5 fr) → w'.heap[y]? = w.heap[y]? := fun y c fr e => h y c 5 fr e (by decide)
end Go.Proofs.Ytpbejbpimcidjaa
