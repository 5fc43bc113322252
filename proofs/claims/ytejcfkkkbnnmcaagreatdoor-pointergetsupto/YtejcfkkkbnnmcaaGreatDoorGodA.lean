import Derived.Test.YtejcfkkkbnnmcaaGreatDoorFauA
import Derived.Test.YtejcfkkkbnnmcaaGreatDoorPutB
/- good: some good value; the kinds without members. -/
set_option linter.unusedSimpArgs false
set_option linter.unusedVariables false
namespace Go.Proofs.YtejcfkkkbnnmcaaGreatDoor
open Go.RowKit

def New (w w' : World) (x : Nat) : Prop := w.heap.size ≤ x ∧ x < w'.heap.size
theorem lies_S {W : World} {S : Nat → Prop} {k i : Int} {b : Bool} {s : ByteArray} {l : List V} {m : List Mem} {al am : Option Addr} {cl bl ol cm bm om nl nm : Nat} (hk : In64 k) (hi : In64 i) (hs : s.size ≤ maxLen) (hal : Headed al nl cl bl ol) (ham : Headed am nm cm bm om) (hl : liesL false W S l bl ol) (hm : liesM false W S m bm om) (e1 : nl = l.length := by rfl) (e2 : nm = m.length := by rfl) :
    (V.mk k b i s l m).lies false W S [.int .i64 k, .bool b, .int .i64 i, .string s, .slice al nl cl, .slice am nm cm] := by
  subst e1 e2
  rw [V.lies]
  exact ⟨al, cl, bl, ol, am, cm, bm, om, rfl, hk, hi, hs, hal, ham, hl, hm, fun h => by cases h⟩
end Go.Proofs.YtejcfkkkbnnmcaaGreatDoor
