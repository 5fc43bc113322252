import Derived.Test.YtagjbphadakifaaDoorTrmS
import Derived.Maps.OwnSet
import Derived.Maps.Own
import Derived.StringKeys
import Derived.Lib.SmallJoins
/- byKey: the first text of each key, in a map. -/
set_option linter.unusedSimpArgs false
set_option linter.unusedVariables false
namespace Go.Proofs.YtagjbphadakifaaDoor
open Go.RowKit Go.Lib Go.Maps
theorem law9 : Maps.Keyed Tryd.prog 9 := Maps.string_keyed Tryd.underlying9
abbrev kL (k : ByteArray) : Lit := .string k.data.toList
theorem key_of (k : ByteArray) (h : k.size ≤ maxLen) : keyOf Tryd.prog 9 (.string k) = some (kL k) := by
  simp only [keyOf, Tryd.underlying9, mapKey]
  simp [h]
theorem kl_inj {a b : ByteArray} (h : kL a = kL b) : a = b := by
  have h1 : a.data.toList = b.data.toList := Lit.string.inj h
  have h2 : a.data = b.data := Array.toList_inj.1 h1
  cases a; cases b; cases h2; rfl
theorem kl_key (k : ByteArray) : WideAt.IsKeyLit (kL k) := trivial
end Go.Proofs.YtagjbphadakifaaDoor
