import Derived.Test.YtjgbjhahmgegiaaGreatDoorG43
/- what a value says as a step: plain. -/
set_option linter.unusedSimpArgs false
set_option linter.unusedVariables false
set_option maxRecDepth 100000
namespace Go.Proofs.YtjgbjhahmgegiaaGreatDoor
open Go.RowKit Go.Lib
abbrev kOp : ByteArray := ⟨#[111, 112]⟩
abbrev kPath : ByteArray := ⟨#[112, 97, 116, 104]⟩
abbrev kFrom : ByteArray := ⟨#[102, 114, 111, 109]⟩
abbrev kVal : ByteArray := ⟨#[118, 97, 108, 117, 101]⟩
abbrev noS : ByteArray := ⟨#[]⟩
/-- the step that is none -/
def zStp : Stp := (noS, noS, noS, nullV)
/-- the From that a step is to have, and whether it has it -/
def frmF (v : V) (op : ByteArray) : ByteArray × Bool := if fromF op = true then wrdF v kFrom else (noS, true)
/-- its Value -/
def vluF (v : V) (op : ByteArray) : V × Bool := if valF op = true then getV v kVal else (nullV, true)
/-- a step of a value: the error's number, the step -/
def rdF (v : V) : Nat × Stp :=
  if (wrdF v kOp).2 = false then (60, zStp)
  else if isF (wrdF v kOp).1 = false then (60, zStp)
  else if (wrdF v kPath).2 = false then (60, zStp)
  else if (frmF v (wrdF v kOp).1).2 = false then (60, zStp)
  else if (vluF v (wrdF v kOp).1).2 = false then (60, zStp)
  else if fltF (wrdF v kOp).1 (wrdF v kPath).1 (frmF v (wrdF v kOp).1).1 (vluF v (wrdF v kOp).1).1 ≠ 0 then (fltF (wrdF v kOp).1 (wrdF v kPath).1 (frmF v (wrdF v kOp).1).1 (vluF v (wrdF v kOp).1).1, zStp)
  else (0, ((wrdF v kOp).1, (wrdF v kPath).1, (frmF v (wrdF v kOp).1).1, (vluF v (wrdF v kOp).1).1))
/-- what is no map has no words -/
theorem no_map (v : V) (key : ByteArray) (h : kndOf v ≠ 5) : getV v key = (nullV, false) := by
  obtain ⟨k, b, i, s, l, m⟩ := v
  rw [getV]
  split
  · rename_i hok
    have hc := of_decide_eq_true hok
    rw [chkV] at hc
    dsimp only at hc
    split at hc
    · rename_i he
      obtain ⟨_, _, hg, _, _⟩ := entF_inv he
      rw [goodB, Bool.and_eq_true, Bool.and_eq_true] at hg
      obtain ⟨⟨hp, hu⟩, hr⟩ := hg
      rw [plainB, decide_eq_true_iff] at hp
      obtain ⟨_, _, p1, p2, p3, p4, p5⟩ := hp
      obtain rfl : m = [] := List.length_eq_zero_iff.1 (p5.resolve_left h)
      rfl
    · rename_i he; exact absurd hc he
  · rfl
theorem word_map {v : V} {key : ByteArray} (h : (wrdF v key).2 = true) : kndOf v = 5 := by
  rcases Decidable.em (kndOf v = 5) with q | q
  · exact q
  · rw [wrdF, no_map v key q] at h
    cases h
/-- the document asks first whether it is a map -/
theorem rd_doc (v : V) : (kndOf v ≠ 5 ∨ (wrdF v kOp).2 = false ∨ isF (wrdF v kOp).1 = false) ↔ ((wrdF v kOp).2 = false ∨ isF (wrdF v kOp).1 = false) := by
  constructor
  · rintro (h | h)
    · left
      cases hw : (wrdF v kOp).2 with
      | false => rfl
      | true => exact absurd (word_map hw) h
    · exact h
  · exact .inr
end Go.Proofs.YtjgbjhahmgegiaaGreatDoor
