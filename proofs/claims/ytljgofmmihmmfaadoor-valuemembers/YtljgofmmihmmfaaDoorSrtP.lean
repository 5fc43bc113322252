import Derived.Shelf.SlSortCmp.KitK
import Derived.Test.YtljgofmmihmmfaaDoorGdP
import Derived.Test.YtljgofmmihmmfaaDoorJC
/- Members with their cells; their order. -/
set_option linter.unusedSimpArgs false
set_option linter.unusedVariables false
namespace Go.Proofs.YtljgofmmihmmfaaDoor
open Go.RowKit Go.Lib Go.Sort

/-- a member, with the cells that hold it -/
structure MC where
  key : ByteArray
  val : V
  ek : Int
  eb : Bool
  ei : Int
  es : ByteArray
  eal : Option Addr
  enl : Nat
  ecl : Nat
  eam : Option Addr
  enm : Nat
  ecm : Nat
instance : Inhabited MC := ⟨⟨⟨#[]⟩, nullV, 0, false, 0, ⟨#[]⟩, none, 0, 0, none, 0, 0⟩⟩
def MC.cs (x : MC) : List Value := [.int .i64 x.ek, .bool x.eb, .int .i64 x.ei, .string x.es, .slice x.eal x.enl x.ecl, .slice x.eam x.enm x.ecm]
def MC.enc (x : MC) : List Value := .string x.key :: x.cs
def MC.mem (x : MC) : Mem := (x.key, x.val)
theorem MC.len (x : MC) : x.enc.length = 7 := rfl
theorem MC.one (x : MC) : ∀ v ∈ x.enc, v.oneCell' = true := by
  intro v hv
  simp only [MC.enc, MC.cs, List.mem_cons, List.not_mem_nil, or_false] at hv
  rcases hv with rfl | rfl | rfl | rfl | rfl | rfl | rfl <;> rfl

theorem mc_of {R : Bool} {w : World} {S : Nat → Prop} : ∀ {l : List Mem} {b o : Nat}, liesM R w S l b o → ∃ d : List MC, d.map MC.mem = l ∧ (∀ x ∈ d, x.key.size ≤ maxLen ∧ x.val.lies R w S x.cs) ∧ (∀ (j : Nat) (h : j < d.length), rowAt w b (o + j * 7) (d[j]).enc)
  | [], b, o, _ => ⟨[], rfl, by simp, by intro j h; simp at h⟩
  | (k, x) :: t, b, o, hl => by
    rw [liesM] at hl
    obtain ⟨hS, ⟨hk, cs, hr, hx⟩, ht⟩ := hl
    obtain ⟨d, h1, h2, h3⟩ := mc_of ht
    obtain ⟨ek, eb, ei, es, eal, enl, ecl, eam, enm, ecm, rfl⟩ := V.ten hx
    refine ⟨⟨k, x, ek, eb, ei, es, eal, enl, ecl, eam, enm, ecm⟩ :: d, by rw [List.map_cons, h1]; rfl, ?_, ?_⟩
    · intro y hy
      rcases List.mem_cons.1 hy with rfl | hy
      · exact ⟨hk, hx⟩
      · exact h2 y hy
    · intro j h
      cases j with
      | zero => rw [Nat.zero_mul, Nat.add_zero]; exact hr
      | succ j =>
        have := h3 j (by simpa using h)
        rw [show o + 7 + j * 7 = o + (j + 1) * 7 by omega] at this
        exact this

theorem get_arr {d : List MC} {i : Nat} (h : i < d.length) : d.toArray[i]! = d[i] := by simp [h]
/-- the flat row of rows -/
theorem flat_row {d : List MC} {w : World} {b o : Nat} (h3 : ∀ (j : Nat) (h : j < d.length), rowAt w b (o + j * 7) (d[j]).enc) (j : Nat) (u : Value) (hu : (flatK MC.enc 7 d.toArray).toList[j]? = some u) : w.cell? ⟨b, o + j, none⟩ = some u := by
  have hj : j < d.length * 7 := by
    have := (List.getElem?_eq_some_iff.1 hu).1
    simpa using this
  have h7 : j / 7 < d.length := by omega
  have hm : j % 7 < 7 := Nat.mod_lt _ (by omega)
  have e0 : (flatK MC.enc 7 d.toArray)[j]! = u := by
    rw [Array.getElem?_toList] at hu
    rw [Array.getElem!_eq_getD, Array.getD_eq_getD_getElem?, hu]
    rfl
  rw [get_flatK _ _ _ _ (by simpa using hj), get_arr h7] at e0
  have := h3 (j / 7) h7 (j % 7) u (by rw [← e0, List.getElem?_eq_getElem (by rw [MC.len]; exact hm), getElem!_pos _ _ (by rw [MC.len]; exact hm)])
  rw [show o + j / 7 * 7 + j % 7 = o + j by omega] at this
  exact this
theorem flat_one {d : List MC} : ∀ u ∈ (flatK MC.enc 7 d.toArray).toList, u.oneCell' = true := by
  intro u hu
  obtain ⟨j, hj, rfl⟩ := List.getElem_of_mem hu
  have hj' : j < d.length * 7 := by simpa using hj
  have h7 : j / 7 < d.length := by omega
  have hm : j % 7 < 7 := Nat.mod_lt _ (by omega)
  have e0 : (flatK MC.enc 7 d.toArray)[j]! = (flatK MC.enc 7 d.toArray).toList[j] := by
    rw [getElem!_pos _ _ (by simpa using hj)]; rfl
  rw [← e0, get_flatK _ _ _ _ (by simpa using hj'), get_arr h7, getElem!_pos _ _ (by rw [MC.len]; exact hm)]
  exact MC.one _ _ (List.getElem_mem _)
end Go.Proofs.YtljgofmmihmmfaaDoor
