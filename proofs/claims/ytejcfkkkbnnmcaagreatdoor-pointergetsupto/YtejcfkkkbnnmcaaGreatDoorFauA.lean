import Derived.Test.YtejcfkkkbnnmcaaGreatDoorRfE
import Derived.Test.YtejcfkkkbnnmcaaGreatDoorTwinB
/- faulty: some value. -/
set_option linter.unusedSimpArgs false
set_option linter.unusedVariables false
namespace Go.Proofs.YtejcfkkkbnnmcaaGreatDoor
open Go.RowKit

theorem headed_nil : Headed none ([] : List V).length 0 0 0 := ⟨Nat.le_refl _, by simp [maxLen], .inl rfl, fun _ => rfl⟩
end Go.Proofs.YtejcfkkkbnnmcaaGreatDoor
