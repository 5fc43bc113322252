import Derived.Test.YtnffadboflmecaaDoorWalksB
import Derived.Test.YtnffadboflmecaaDoorShelfB
/- Contracts: writeByte, Size, Quote. -/
set_option linter.unusedSimpArgs false
set_option linter.unusedVariables false
namespace Go.Proofs.YtnffadboflmecaaDoor
open Go.RowKit Go.Lib

theorem LetTab.below {B : Nat} {w w' : World} (h : LetTab w) (hb : Below B w w') (hB : 3 < B) : LetTab w' :=
  fun c hc => (hb.cell (p := ⟨3, c, none⟩) hB).trans (h c hc)

theorem byteCells_snoc (l : List UInt8) (c : UInt8) : byteCells l ++ [Value.int .u8 c.toNat] = byteCells (l ++ [c]) := by simp [byteCells]
theorem cell_ofNat (n : Nat) (h : n < 256) : Value.int .u8 (n : Int) = Value.int .u8 ((UInt8.ofNat n).toNat : Int) := by
  congr 1
  simp
  omega

theorem Q.letN_lt (c : Nat) : Q.letN c < 256 := by
  unfold Q.letN
  repeat' split
  all_goals omega

theorem Q.esc_let (c : UInt8) (h : Q.letN c.toNat ≠ 0) : Q.esc c = [92, UInt8.ofNat (Q.letN c.toNat)] := by
  simp [Q.esc, Q.escN, h]
theorem Q.esc_low (c : UInt8) (h : Q.letN c.toNat = 0) (h2 : c.toNat < 32) : Q.esc c = [92, 117, 48, 48, UInt8.ofNat (Q.hexN (c.toNat / 16)), UInt8.ofNat (Q.hexN (c.toNat % 16))] := by
  simp [Q.esc, Q.escN, h, h2]
theorem Q.esc_same (c : UInt8) (h : Q.letN c.toNat = 0) (h2 : ¬ c.toNat < 32) : Q.esc c = [c] := by
  simp [Q.esc, Q.escN, h, h2]

theorem hexAt (d : Nat) (h : d < 16) (h' : d < (⟨#[48, 49, 50, 51, 52, 53, 54, 55, 56, 57, 97, 98, 99, 100, 101, 102]⟩ : ByteArray).size) :
    (⟨#[48, 49, 50, 51, 52, 53, 54, 55, 56, 57, 97, 98, 99, 100, 101, 102]⟩ : ByteArray)[d] = UInt8.ofNat (Q.hexN d) := by
  have key : ∀ d : Fin 16, (⟨#[48, 49, 50, 51, 52, 53, 54, 55, 56, 57, 97, 98, 99, 100, 101, 102]⟩ : ByteArray)[d.val]'(d.isLt) = UInt8.ofNat (Q.hexN d.val) := by decide
  exact key ⟨d, h⟩

end Go.Proofs.YtnffadboflmecaaDoor
