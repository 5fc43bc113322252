/- The law QuoteFaults, whole. -/
import Derived.Test.YtcoamnmgkhlahaaDoorFaB
import Derived.Test.YtcoamnmgkhlahaaDoorFaC
set_option linter.unusedVariables false
namespace Go.Proofs.YtcoamnmgkhlahaaDoor
open Go.RowKit Go.Lib

theorem faults_walk (text behind : ByteArray) (z : Int) (w : World) (t0 : Tb w) (hz1 : -9223372036854775808 ≤ z) (hz2 : z ≤ 9223372036854775807) (ht : text.size ≤ 140737488351232) (hb : behind.size ≤ 140737488351232) :
    Calls Tryd.prog 5 #[.string text, .int .i64 z, .string behind] w fun e w' => e = .returned (.bool true) ∧ Below w.heap.size w w' := by
  obtain ⟨r, p, er, hR⟩ : ∃ r p er, Q.unqAll text.data.toList z = (r, p, er) := ⟨_, _, _, rfl⟩
  have hle := (Q.unqAll_inv text.data.toList z).1
  rw [hR] at hle
  have hlt : text.data.toList.length = text.size := by simp
  rw [hlt] at hle
  have hle' : p ≤ text.size := hle
  by_cases h1 : er = 10
  · subst h1
    by_cases hp : p < text.size
    · exact f10l text behind z w t0 hz1 hz2 ht hb r p hR hp
    · exact f10e text behind z w t0 hz1 hz2 ht hb r p hR (by omega)
  by_cases h2 : er = 11
  · subst h2
    by_cases hp : p < text.size
    · exact f11l text behind z w t0 hz1 hz2 ht hb r p hR hp
    · exact f11e text behind z w t0 hz1 hz2 ht hb r p hR (by omega)
  by_cases h3 : er = 12
  · subst h3
    by_cases hp : p < text.size
    · exact f12l text behind z w t0 hz1 hz2 ht hb r p hR hp
    · exact f12e text behind z w t0 hz1 hz2 ht hb r p hR (by omega)
  exact faults_none text behind z w t0 hz1 hz2 ht r p er hR h1 h2 h3
end Go.Proofs.YtcoamnmgkhlahaaDoor
