import Derived.Test.YtjocgajbcdmaiaaDoorWalksB
import Derived.Test.YtjocgajbcdmaiaaDoorShelfB
/- Contracts: writeByte, Size, Quote. -/
set_option linter.unusedSimpArgs false
set_option linter.unusedVariables false
namespace Go.Proofs.YtjocgajbcdmaiaaDoor
open Go.RowKit Go.Lib

theorem LetTab.below {B : Nat} {w w' : World} (h : LetTab w) (hb : Below B w w') (hB : 3 < B) : LetTab w' :=
  fun c hc => (hb.cell (p := ⟨3, c, none⟩) hB).trans (h c hc)

theorem byteCells_snoc (l : List UInt8) (c : UInt8) : byteCells l ++ [Value.int .u8 c.toNat] = byteCells (l ++ [c]) := by simp [byteCells]
theorem cell_ofNat (n : Nat) (h : n < 256) : Value.int .u8 (n : Int) = Value.int .u8 ((UInt8.ofNat n).toNat : Int) := by
  congr 1
  simp
  omega

theorem Q.letN_lt (c : Nat) : Q.letN c < 256 := by
  unfold Q.letN
  repeat' split
  all_goals omega

theorem Q.esc_let (c : UInt8) (h : Q.letN c.toNat ≠ 0) : Q.esc c = [92, UInt8.ofNat (Q.letN c.toNat)] := by
  simp [Q.esc, Q.escN, h]
theorem Q.esc_low (c : UInt8) (h : Q.letN c.toNat = 0) (h2 : c.toNat < 32) : Q.esc c = [92, 117, 48, 48, UInt8.ofNat (Q.hexN (c.toNat / 16)), UInt8.ofNat (Q.hexN (c.toNat % 16))] := by
  simp [Q.esc, Q.escN, h, h2]
theorem Q.esc_same (c : UInt8) (h : Q.letN c.toNat = 0) (h2 : ¬ c.toNat < 32) : Q.esc c = [c] := by
  simp [Q.esc, Q.escN, h, h2]

theorem hexAt (d : Nat) (h : d < 16) (h' : d < (⟨#[48, 49, 50, 51, 52, 53, 54, 55, 56, 57, 97, 98, 99, 100, 101, 102]⟩ : ByteArray).size) :
    (⟨#[48, 49, 50, 51, 52, 53, 54, 55, 56, 57, 97, 98, 99, 100, 101, 102]⟩ : ByteArray)[d] = UInt8.ofNat (Q.hexN d) := by
  have key : ∀ d : Fin 16, (⟨#[48, 49, 50, 51, 52, 53, 54, 55, 56, 57, 97, 98, 99, 100, 101, 102]⟩ : ByteArray)[d.val]'(d.isLt) = UInt8.ofNat (Q.hexN d.val) := by decide
  exact key ⟨d, h⟩

set_option maxRecDepth 100000 in
set_option maxHeartbeats 1000000 in
theorem writeByte_any (B b : Nat) (l : List UInt8) (c : UInt8) (w : World) (h : IsBuilderF 68 5 B b (byteCells l) w) (hlen : l.length + 6 ≤ 140737488355328) (hBw : B ≤ w.heap.size) (hB2 : 3 < B) (hT : LetTab w) :
    Calls Tryd.prog 39 #[.pointer (some ⟨b, 0, none⟩), .int .u8 c.toNat] w fun e w' => e = .returned (.tuple #[]) ∧ IsBuilderF 68 5 B b (byteCells (l ++ Q.esc c)) w' ∧ Below B w w' := by
  have cl := letter_any c.toNat c.toNat_lt w hT
  by_cases h0 : Q.letN c.toNat = 0
  · rw [h0] at cl
    by_cases h2 : c.toNat < 32
    · rw [Q.esc_low c h0 h2]
      have hz : (c.toNat : Int) < 32 := by omega
      clear h0
      go_enter Tryd.func39, Tryd.ntmps39
      go_wp2_with (go_at_call 52; refine cl.mono ?_; rintro e w' ⟨rfl, rfl⟩)
      refine (Tryd.WriteString_k B b (byteCells l) _ _ h (by rw [byteCells_length]; show l.length + 4 ≤ _; omega) hBw).mono ?_
      rintro e w1 ⟨rfl, h1, b1, k1⟩
      have s1 := b1.size
      go_wp2_with fail
      refine (Tryd.WriteByte_k B b _ _ _ (.inr h1) (by simp [byteCells_length, strCells]; omega) (by omega)).mono ?_
      rintro e w2 ⟨rfl, h3, b2, k2⟩
      have s2 := b2.size
      go_wp2_with fail
      refine (Tryd.WriteByte_k B b _ _ _ (.inr h3) (by simp [byteCells_length, strCells]; omega) (by omega)).mono ?_
      rintro e w3 ⟨rfl, h4, b3, k3⟩
      go_wp2
      go_end0
      refine ⟨rfl, .inr ?_, (b1.trans b2).trans b3⟩
      rw [hexAt _ (by omega), hexAt _ (by omega)] at h4
      generalize UInt8.ofNat (Q.hexN (c.toNat / 16)) = x at *
      generalize UInt8.ofNat (Q.hexN (c.toNat % 16)) = y at *
      have e : byteCells l ++ strCells ⟨#[92, 117, 48, 48]⟩ ++ [Value.int .u8 x.toNat] ++ [Value.int .u8 y.toNat] = byteCells (l ++ [92, 117, 48, 48, x, y]) := by simp [byteCells, strCells]
      rw [e] at h4
      exact h4
    · rw [Q.esc_same c h0 h2]
      have hz : ¬ (c.toNat : Int) < 32 := by omega
      clear h0
      go_enter Tryd.func39, Tryd.ntmps39
      go_wp2_with (go_at_call 52; refine cl.mono ?_; rintro e w' ⟨rfl, rfl⟩)
      refine (Tryd.WriteByte_k B b (byteCells l) _ _ h (by rw [byteCells_length]; omega) hBw).mono ?_
      rintro e w1 ⟨rfl, h1, b1, k1⟩
      go_wp2
      go_end0
      rw [byteCells_snoc] at h1
      exact ⟨rfl, .inr h1, b1⟩
  · rw [Q.esc_let c h0]
    have hb2 : ((Q.letN c.toNat : Int) != 0) = true := by rw [bne_iff_ne]; omega
    have hl := Q.letN_lt c.toNat
    have hcell := cell_ofNat (Q.letN c.toNat) hl
    generalize Q.letN c.toNat = L at *
    have HC : Hid (Value.int .u8 (L : Int) = Value.int .u8 ((UInt8.ofNat L).toNat : Int)) := hcell
    clear hcell
    go_enter Tryd.func39, Tryd.ntmps39
    go_wp2_with (go_at_call 52; refine cl.mono ?_; rintro e w' ⟨rfl, rfl⟩)
    refine (Tryd.WriteByte_k B b (byteCells l) _ _ h (by rw [byteCells_length]; omega) hBw).mono ?_
    rintro e w1 ⟨rfl, h1, b1, k1⟩
    have s1 := b1.size
    go_wp2_with fail
    refine (Tryd.WriteByte_k B b _ _ _ (.inr h1) (by simp [byteCells_length]; omega) (by omega)).mono ?_
    rintro e w2 ⟨rfl, h2, b2, k2⟩
    go_wp2
    go_end0
    refine ⟨rfl, .inr ?_, b1.trans b2⟩
    rw [HC.out] at h2
    have e92 : byteCells l ++ [Value.int .u8 92] = byteCells (l ++ [92]) := byteCells_snoc l 92
    rw [e92, byteCells_snoc] at h2
    simpa using h2
end Go.Proofs.YtjocgajbcdmaiaaDoor
