import Derived.Test.YtagjbphadakifaaDoorTwinB
/- Regions that draw their order, whose operations only read and whose callees only make memory: one walk. -/
set_option linter.unusedSimpArgs false
set_option linter.unusedVariables false
namespace Go.Proofs.YtagjbphadakifaaDoor
open Go.RowKit
/-- a world in which all that lay below N lies as it did -/
structure Sub (N : Nat) (w0 : World) where
  w : World
  b : Below N w0 w
instance subThere (N : Nat) (w0 : World) : Inhabited (Sub N w0) := ⟨⟨w0, Below.refl N w0⟩⟩
theorem wp_region_sub {P : Program} (N : Nat) {id : Nat} {Q : Exit → Act → World → Prop} {a : Act} {w : World} {l : List Oper} (hm : P.follows .mixedOrders = true) (hB : Region.lexB .any l.toArray = true)
    (h : wpQuiet P l.toArray (fun w' => ∃ x : Sub N w, w' = x.w) (fun a' => ∀ w', (∃ x : Sub N w, w' = x.w) → Q .normal a' w') l a) : (Code.region id l.toArray true).wp P Q a w :=
  wp_region_quiet (C := fun w' => ∃ x : Sub N w, w' = x.w) hm hB ⟨⟨w.drew, (Below.refl N w).drew⟩, rfl⟩ (by simpa using h)
theorem sub_call {P : Program} {f : FuncId} {args : Array Value} {N : Nat} {w0 : World} {v : Value} (h : ∀ w', Below N w0 w' → Calls P f args w' fun e w'' => e = .returned v ∧ Below N w0 w'') (x : Sub N w0) :
    Calls P f args x.w fun e w'' => e = .returned v ∧ ∃ y : Sub N w0, w'' = y.w :=
  (h x.w x.b).mono fun e w'' ⟨he, hb⟩ => ⟨he, ⟨w'', hb⟩, rfl⟩
theorem sub_cell {N : Nat} {w0 : World} {b o : Nat} {v : Value} (h : w0.cell? ⟨b, o, none⟩ = some v) (hb : b < N) (x : Sub N w0) : x.w.cell? ⟨b, o, none⟩ = some v :=
  (x.b.cell (p := ⟨b, o, none⟩) hb).trans h
end Go.Proofs.YtagjbphadakifaaDoor
