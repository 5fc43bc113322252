/- joined: ShelfB WalksC WalksD -/
import Derived.Shelf.Strings.BuilderRune
import Derived.Shelf.Strings.Builder2
import Derived.Shelf.Unicode.DecodeAny
import Derived.Test.YtagjbphadakifaaDoorPq
import Derived.Test.YtagjbphadakifaaDoorShlV
/- The library's contracts, laid at this program: strings.Builder's writers. -/
namespace Go.Proofs
open Go.Shelf Go.RowKit
def Tryd.lays167_ren : Go.Shelf.Ren := ⟨fun | 167 => 29 | 240 => 49 | 276 => 65 | n => n, fun | 0 => 0 | 4 => 4 | 5 => 5 | 9 => 9 | 20 => 20 | 37 => 60 | 70 => 59 | 72 => 62 | 75 => 64 | 80 => 67 | 164 => 100 | n => n, fun | n => n⟩
theorem Tryd.lays167 : Go.Proofs.Lays.n167 Tryd.prog Tryd.lays167_ren := {
  mixed := by kernel_rfl
  f167 := Tryd.func29.trans (congrArg some (by kernel_rfl))
  f240 := Tryd.func49.trans (congrArg some (by kernel_rfl))
  f276 := Tryd.func65.trans (congrArg some (by kernel_rfl))
  t0 := Tryd.underlying0
  a0 := Tryd.isAgg0
  z0 := Tryd.sizeOf0
  v0 := Tryd.zeroValue0
  t4 := Tryd.underlying4
  a4 := Tryd.isAgg4
  z4 := Tryd.sizeOf4
  v4 := Tryd.zeroValue4
  t5 := Tryd.underlying5
  a5 := Tryd.isAgg5
  z5 := Tryd.sizeOf5
  v5 := Tryd.zeroValue5
  t9 := Tryd.underlying9
  a9 := Tryd.isAgg9
  z9 := Tryd.sizeOf9
  v9 := Tryd.zeroValue9
  t20 := Tryd.underlying20
  a20 := Tryd.isAgg20
  z20 := Tryd.sizeOf20
  v20 := Tryd.zeroValue20
  t37 := Tryd.underlying60
  a37 := Tryd.isAgg60
  z37 := Tryd.sizeOf60
  v37 := Tryd.zeroValue60
  t70 := Tryd.underlying59
  a70 := Tryd.isAgg59
  z70 := Tryd.sizeOf59
  v70 := Tryd.zeroValue59
  t72 := Tryd.underlying62
  a72 := Tryd.isAgg62
  z72 := Tryd.sizeOf62
  v72 := Tryd.zeroValue62
  t75 := Tryd.underlying64
  a75 := Tryd.isAgg64
  z75 := Tryd.sizeOf64
  v75 := Tryd.zeroValue64
  t164 := Tryd.underlying100
  a164 := Tryd.isAgg100
  z164 := Tryd.sizeOf100
  v164 := Tryd.zeroValue100 }
theorem Tryd.lays167X : Builder.Extra Tryd.prog Tryd.lays167_ren := {
  sizeBuilder := by kernel_rfl
  liesBuilder := by kernel_rfl
  t5 := Tryd.underlying5
  a5 := Tryd.isAgg5
  z5 := Tryd.sizeOf5
  v5 := Tryd.zeroValue5
  infoByte := by kernel_rfl
  cellsByte := by kernel_rfl
  sizeByte := by kernel_rfl
  neB5 := by decide }
def Tryd.lays166_ren : Go.Shelf.Ren := ⟨fun | 166 => 50 | 240 => 49 | 276 => 65 | n => n, fun | 0 => 0 | 3 => 3 | 4 => 4 | 5 => 5 | 9 => 9 | 20 => 20 | 37 => 60 | 70 => 59 | 72 => 62 | 75 => 64 | 80 => 67 | 164 => 100 | n => n, fun | n => n⟩
theorem Tryd.lays166 : Go.Proofs.Lays.n166 Tryd.prog Tryd.lays166_ren := {
  mixed := by kernel_rfl
  f166 := Tryd.func50.trans (congrArg some (by kernel_rfl))
  f240 := Tryd.func49.trans (congrArg some (by kernel_rfl))
  f276 := Tryd.func65.trans (congrArg some (by kernel_rfl))
  t0 := Tryd.underlying0
  a0 := Tryd.isAgg0
  z0 := Tryd.sizeOf0
  v0 := Tryd.zeroValue0
  t3 := Tryd.underlying3
  a3 := Tryd.isAgg3
  z3 := Tryd.sizeOf3
  v3 := Tryd.zeroValue3
  t4 := Tryd.underlying4
  a4 := Tryd.isAgg4
  z4 := Tryd.sizeOf4
  v4 := Tryd.zeroValue4
  t9 := Tryd.underlying9
  a9 := Tryd.isAgg9
  z9 := Tryd.sizeOf9
  v9 := Tryd.zeroValue9
  t20 := Tryd.underlying20
  a20 := Tryd.isAgg20
  z20 := Tryd.sizeOf20
  v20 := Tryd.zeroValue20
  t37 := Tryd.underlying60
  a37 := Tryd.isAgg60
  z37 := Tryd.sizeOf60
  v37 := Tryd.zeroValue60
  t70 := Tryd.underlying59
  a70 := Tryd.isAgg59
  z70 := Tryd.sizeOf59
  v70 := Tryd.zeroValue59
  t72 := Tryd.underlying62
  a72 := Tryd.isAgg62
  z72 := Tryd.sizeOf62
  v72 := Tryd.zeroValue62
  t75 := Tryd.underlying64
  a75 := Tryd.isAgg64
  z75 := Tryd.sizeOf64
  v75 := Tryd.zeroValue64
  t164 := Tryd.underlying100
  a164 := Tryd.isAgg100
  z164 := Tryd.sizeOf100
  v164 := Tryd.zeroValue100 }
theorem Tryd.lays166X : Builder.Extra Tryd.prog Tryd.lays166_ren := {
  sizeBuilder := by kernel_rfl
  liesBuilder := by kernel_rfl
  t5 := Tryd.underlying5
  a5 := Tryd.isAgg5
  z5 := Tryd.sizeOf5
  v5 := Tryd.zeroValue5
  infoByte := by kernel_rfl
  cellsByte := by kernel_rfl
  sizeByte := by kernel_rfl
  neB5 := by decide }
def Tryd.lays168_ren : Go.Shelf.Ren := ⟨fun | 168 => 9999 | 240 => 49 | 242 => 9999 | 276 => 65 | 278 => 9999 | n => n, fun | 0 => 0 | 3 => 3 | 4 => 4 | 5 => 5 | 9 => 9 | 20 => 20 | 21 => 21 | 37 => 60 | 46 => 106 | 51 => 122 | 70 => 59 | 72 => 62 | 75 => 64 | 80 => 67 | 164 => 100 | n => n, fun | n => n⟩
theorem Tryd.lays168X : Builder.Extra Tryd.prog Tryd.lays168_ren := {
  sizeBuilder := by kernel_rfl
  liesBuilder := by kernel_rfl
  t5 := Tryd.underlying5
  a5 := Tryd.isAgg5
  z5 := Tryd.sizeOf5
  v5 := Tryd.zeroValue5
  infoByte := by kernel_rfl
  cellsByte := by kernel_rfl
  sizeByte := by kernel_rfl
  neB5 := by decide }
def Tryd.lays169_ren : Go.Shelf.Ren := ⟨fun | 169 => 31 | n => n, fun | 0 => 0 | 3 => 3 | 5 => 5 | 9 => 9 | 37 => 60 | 70 => 59 | 72 => 62 | 127 => 92 | n => n, fun | n => n⟩
theorem Tryd.lays169 : Go.Proofs.Lays.n169 Tryd.prog Tryd.lays169_ren := {
  mixed := by kernel_rfl
  f169 := Tryd.func31.trans (congrArg some (by kernel_rfl))
  t0 := Tryd.underlying0
  a0 := Tryd.isAgg0
  z0 := Tryd.sizeOf0
  v0 := Tryd.zeroValue0
  t3 := Tryd.underlying3
  a3 := Tryd.isAgg3
  z3 := Tryd.sizeOf3
  v3 := Tryd.zeroValue3
  t9 := Tryd.underlying9
  a9 := Tryd.isAgg9
  z9 := Tryd.sizeOf9
  v9 := Tryd.zeroValue9
  t37 := Tryd.underlying60
  a37 := Tryd.isAgg60
  z37 := Tryd.sizeOf60
  v37 := Tryd.zeroValue60
  t70 := Tryd.underlying59
  a70 := Tryd.isAgg59
  z70 := Tryd.sizeOf59
  v70 := Tryd.zeroValue59
  t72 := Tryd.underlying62
  a72 := Tryd.isAgg62
  z72 := Tryd.sizeOf62
  v72 := Tryd.zeroValue62
  t127 := Tryd.underlying92
  a127 := Tryd.isAgg92
  z127 := Tryd.sizeOf92
  v127 := Tryd.zeroValue92 }
theorem Tryd.lays169X : Builder.Extra Tryd.prog Tryd.lays169_ren := {
  sizeBuilder := by kernel_rfl
  liesBuilder := by kernel_rfl
  t5 := Tryd.underlying5
  a5 := Tryd.isAgg5
  z5 := Tryd.sizeOf5
  v5 := Tryd.zeroValue5
  infoByte := by kernel_rfl
  cellsByte := by kernel_rfl
  sizeByte := by kernel_rfl
  neB5 := by decide }
def Tryd.lays165_ren : Go.Shelf.Ren := ⟨fun | 165 => 81 | 240 => 49 | 241 => 98 | 276 => 65 | 277 => 106 | n => n, fun | 0 => 0 | 3 => 3 | 4 => 4 | 5 => 5 | 9 => 9 | 20 => 20 | 37 => 60 | 70 => 59 | 72 => 62 | 164 => 100 | n => n, fun | n => n⟩
theorem Tryd.lays165 : Go.Proofs.Lays.n165 Tryd.prog Tryd.lays165_ren := {
  mixed := by kernel_rfl
  f165 := Tryd.func81.trans (congrArg some (by kernel_rfl))
  f240 := Tryd.func49.trans (congrArg some (by kernel_rfl))
  f241 := Tryd.func98.trans (congrArg some (by kernel_rfl))
  f276 := Tryd.func65.trans (congrArg some (by kernel_rfl))
  f277 := Tryd.func106.trans (congrArg some (by kernel_rfl))
  t0 := Tryd.underlying0
  a0 := Tryd.isAgg0
  z0 := Tryd.sizeOf0
  v0 := Tryd.zeroValue0
  t3 := Tryd.underlying3
  a3 := Tryd.isAgg3
  z3 := Tryd.sizeOf3
  v3 := Tryd.zeroValue3
  t4 := Tryd.underlying4
  a4 := Tryd.isAgg4
  z4 := Tryd.sizeOf4
  v4 := Tryd.zeroValue4
  t9 := Tryd.underlying9
  a9 := Tryd.isAgg9
  z9 := Tryd.sizeOf9
  v9 := Tryd.zeroValue9
  t20 := Tryd.underlying20
  a20 := Tryd.isAgg20
  z20 := Tryd.sizeOf20
  v20 := Tryd.zeroValue20
  t37 := Tryd.underlying60
  a37 := Tryd.isAgg60
  z37 := Tryd.sizeOf60
  v37 := Tryd.zeroValue60
  t70 := Tryd.underlying59
  a70 := Tryd.isAgg59
  z70 := Tryd.sizeOf59
  v70 := Tryd.zeroValue59
  t72 := Tryd.underlying62
  a72 := Tryd.isAgg62
  z72 := Tryd.sizeOf62
  v72 := Tryd.zeroValue62
  t164 := Tryd.underlying100
  a164 := Tryd.isAgg100
  z164 := Tryd.sizeOf100
  v164 := Tryd.zeroValue100 }
theorem Tryd.lays165X : Builder.Extra Tryd.prog Tryd.lays165_ren := {
  sizeBuilder := by kernel_rfl
  liesBuilder := by kernel_rfl
  t5 := Tryd.underlying5
  a5 := Tryd.isAgg5
  z5 := Tryd.sizeOf5
  v5 := Tryd.zeroValue5
  infoByte := by kernel_rfl
  cellsByte := by kernel_rfl
  sizeByte := by kernel_rfl
  neB5 := by decide }
theorem Tryd.WriteByte_k (B b : Nat) (bs : List Value) (c : Int) (w : World) (h : Lib.IsBuilderF 62 5 B b bs w) (hlen : bs.length + 1 ≤ 140737488355328) (hBw : B ≤ w.heap.size) :
    Calls Tryd.prog 29 #[.pointer (some ⟨b, 0, none⟩), .int .u8 c] w fun e w' => e = .returned .nilIface ∧ (Lib.BuilderAtF 62 5 B b (.pointer (some ⟨b, 0, none⟩)) (bs ++ [.int .u8 c]) w' ∧ Below B w w' ∧ Lib.OthersKept 5 (some b) w w') :=
  Any.Builder_WriteByte_k Tryd.lays167 Tryd.lays167X B b bs c w h hlen hBw
theorem Tryd.WriteString_k (B b : Nat) (bs : List Value) (s : ByteArray) (w : World) (h : Lib.IsBuilderF 62 5 B b bs w) (hlen : bs.length + s.size ≤ 140737488355328) (hBw : B ≤ w.heap.size) :
    Calls Tryd.prog 50 #[.pointer (some ⟨b, 0, none⟩), .string s] w fun e w' => e = .returned (.tuple #[.int .i64 s.size, .nilIface]) ∧ (Lib.BuilderAtF 62 5 B b (.pointer (some ⟨b, 0, none⟩)) (bs ++ Lib.strCells s) w' ∧ Below B w w' ∧ Lib.OthersKept 5 (some b) w w') :=
  Any.Builder_WriteString_k Tryd.lays166 Tryd.lays166X B b bs s w h hlen hBw
theorem Tryd.String_any_k (B b : Nat) (l : List UInt8) (w : World) (h : Lib.IsBuilderF 62 5 B b (Lib.byteCells l) w) (hBw : B ≤ w.heap.size) :
    Calls Tryd.prog 31 #[.pointer (some ⟨b, 0, none⟩)] w fun e w' => e = .returned (.string ⟨l.toArray⟩) ∧ (Lib.IsBuilderF 62 5 B b (Lib.byteCells l) w' ∧ Below B w w' ∧ Lib.OthersKept 5 (some b) w w') :=
  Any.Builder_String_any_k Tryd.lays169 Tryd.lays169X B b l w h hBw
theorem Tryd.Grow_fresh (B b n : Nat) (w : World) (hB : B ≤ b) (hbk : w.heap[b]? = some (.cells #[.pointer none, .slice none 0 0] 62 (0, 0))) (hBw : B ≤ w.heap.size) (hn : n ≤ 281474976710656) :
    Calls Tryd.prog 81 #[.pointer (some ⟨b, 0, none⟩), .int .i64 n] w fun e w' => e = .returned (.tuple #[]) ∧ (Lib.BuilderAt 62 5 B b (.pointer (some ⟨b, 0, none⟩)) [] w' ∧ Below B w w') :=
  Any.Builder_Grow_fresh Tryd.lays165 Tryd.lays165X B b n w hB hbk hBw hn
end Go.Proofs
/- Contracts: writeByte, Size, Quote. -/
set_option linter.unusedSimpArgs false
set_option linter.unusedVariables false
namespace Go.Proofs.YtagjbphadakifaaDoor
open Go.RowKit Go.Lib
theorem LetTab.below {B : Nat} {w w' : World} (h : LetTab w) (hb : Below B w w') (hB : 2 < B) : LetTab w' :=
  fun c hc => (hb.cell (p := ⟨2, c, none⟩) hB).trans (h c hc)
theorem byteCells_snoc (l : List UInt8) (c : UInt8) : byteCells l ++ [Value.int .u8 c.toNat] = byteCells (l ++ [c]) := by simp [byteCells]
theorem cell_ofNat (n : Nat) (h : n < 256) : Value.int .u8 (n : Int) = Value.int .u8 ((UInt8.ofNat n).toNat : Int) := by
  congr 1
  simp
  omega
theorem Q.letN_lt (c : Nat) : Q.letN c < 256 := by
  unfold Q.letN
  repeat' split
  all_goals omega
theorem Q.esc_let (c : UInt8) (h : Q.letN c.toNat ≠ 0) : Q.esc c = [92, UInt8.ofNat (Q.letN c.toNat)] := by
  simp [Q.esc, Q.escN, h]
theorem Q.esc_low (c : UInt8) (h : Q.letN c.toNat = 0) (h2 : c.toNat < 32) : Q.esc c = [92, 117, 48, 48, UInt8.ofNat (Q.hexN (c.toNat / 16)), UInt8.ofNat (Q.hexN (c.toNat % 16))] := by
  simp [Q.esc, Q.escN, h, h2]
theorem Q.esc_same (c : UInt8) (h : Q.letN c.toNat = 0) (h2 : ¬ c.toNat < 32) : Q.esc c = [c] := by
  simp [Q.esc, Q.escN, h, h2]
theorem hexAt (d : Nat) (h : d < 16) (h' : d < (⟨#[48, 49, 50, 51, 52, 53, 54, 55, 56, 57, 97, 98, 99, 100, 101, 102]⟩ : ByteArray).size) :
    (⟨#[48, 49, 50, 51, 52, 53, 54, 55, 56, 57, 97, 98, 99, 100, 101, 102]⟩ : ByteArray)[d] = UInt8.ofNat (Q.hexN d) := by
  have key : ∀ d : Fin 16, (⟨#[48, 49, 50, 51, 52, 53, 54, 55, 56, 57, 97, 98, 99, 100, 101, 102]⟩ : ByteArray)[d.val]'(d.isLt) = UInt8.ofNat (Q.hexN d.val) := by decide
  exact key ⟨d, h⟩
set_option maxRecDepth 100000 in
set_option maxHeartbeats 1000000 in
theorem writeByte_any (B b : Nat) (l : List UInt8) (c : UInt8) (w : World) (h : IsBuilderF 62 5 B b (byteCells l) w) (hlen : l.length + 6 ≤ 140737488355328) (hBw : B ≤ w.heap.size) (hB2 : 2 < B) (hT : LetTab w) :
    Calls Tryd.prog 82 #[.pointer (some ⟨b, 0, none⟩), .int .u8 c.toNat] w fun e w' => e = .returned (.tuple #[]) ∧ IsBuilderF 62 5 B b (byteCells (l ++ Q.esc c)) w' ∧ Below B w w' := by
  have cl := letter_any c.toNat c.toNat_lt w hT
  by_cases h0 : Q.letN c.toNat = 0
  · rw [h0] at cl
    by_cases h2 : c.toNat < 32
    · rw [Q.esc_low c h0 h2]
      have hz : (c.toNat : Int) < 32 := by omega
      clear h0
      go_enter Tryd.func82, Tryd.ntmps82
      go_wp2_with (go_at_call 99; refine cl.mono ?_; rintro e w' ⟨rfl, rfl⟩)
      refine (Tryd.WriteString_k B b (byteCells l) _ _ h (by rw [byteCells_length]; show l.length + 4 ≤ _; omega) hBw).mono ?_
      rintro e w1 ⟨rfl, h1, b1, k1⟩
      have s1 := b1.size
      go_wp2_with fail
      refine (Tryd.WriteByte_k B b _ _ _ (.inr h1) (by simp [byteCells_length, strCells]; omega) (by omega)).mono ?_
      rintro e w2 ⟨rfl, h3, b2, k2⟩
      have s2 := b2.size
      go_wp2_with fail
      refine (Tryd.WriteByte_k B b _ _ _ (.inr h3) (by simp [byteCells_length, strCells]; omega) (by omega)).mono ?_
      rintro e w3 ⟨rfl, h4, b3, k3⟩
      go_wp2
      go_end0
      refine ⟨rfl, .inr ?_, (b1.trans b2).trans b3⟩
      rw [hexAt _ (by omega), hexAt _ (by omega)] at h4
      generalize UInt8.ofNat (Q.hexN (c.toNat / 16)) = x at *
      generalize UInt8.ofNat (Q.hexN (c.toNat % 16)) = y at *
      have e : byteCells l ++ strCells ⟨#[92, 117, 48, 48]⟩ ++ [Value.int .u8 x.toNat] ++ [Value.int .u8 y.toNat] = byteCells (l ++ [92, 117, 48, 48, x, y]) := by simp [byteCells, strCells]
      rw [e] at h4
      exact h4
    · rw [Q.esc_same c h0 h2]
      have hz : ¬ (c.toNat : Int) < 32 := by omega
      clear h0
      go_enter Tryd.func82, Tryd.ntmps82
      go_wp2_with (go_at_call 99; refine cl.mono ?_; rintro e w' ⟨rfl, rfl⟩)
      refine (Tryd.WriteByte_k B b (byteCells l) _ _ h (by rw [byteCells_length]; omega) hBw).mono ?_
      rintro e w1 ⟨rfl, h1, b1, k1⟩
      go_wp2
      go_end0
      rw [byteCells_snoc] at h1
      exact ⟨rfl, .inr h1, b1⟩
  · rw [Q.esc_let c h0]
    have hb2 : ((Q.letN c.toNat : Int) != 0) = true := by rw [bne_iff_ne]; omega
    have hl := Q.letN_lt c.toNat
    have hcell := cell_ofNat (Q.letN c.toNat) hl
    generalize Q.letN c.toNat = L at *
    have HC : Hid (Value.int .u8 (L : Int) = Value.int .u8 ((UInt8.ofNat L).toNat : Int)) := hcell
    clear hcell
    go_enter Tryd.func82, Tryd.ntmps82
    go_wp2_with (go_at_call 99; refine cl.mono ?_; rintro e w' ⟨rfl, rfl⟩)
    refine (Tryd.WriteByte_k B b (byteCells l) _ _ h (by rw [byteCells_length]; omega) hBw).mono ?_
    rintro e w1 ⟨rfl, h1, b1, k1⟩
    have s1 := b1.size
    go_wp2_with fail
    refine (Tryd.WriteByte_k B b _ _ _ (.inr h1) (by simp [byteCells_length]; omega) (by omega)).mono ?_
    rintro e w2 ⟨rfl, h2, b2, k2⟩
    go_wp2
    go_end0
    refine ⟨rfl, .inr ?_, b1.trans b2⟩
    rw [HC.out] at h2
    have e92 : byteCells l ++ [Value.int .u8 92] = byteCells (l ++ [92]) := byteCells_snoc l 92
    rw [e92, byteCells_snoc] at h2
    simpa using h2
end Go.Proofs.YtagjbphadakifaaDoor
/- Contracts: Valid, Size, Quote. -/
namespace Go.Proofs.YtagjbphadakifaaDoor
open Go.RowKit Go.Lib
theorem utab_below {B : Nat} {w w' : World} (h : Utf8Tabs 0 1 w) (hb : Below B w w') (hB : 1 < B) : Utf8Tabs 0 1 w' :=
  ⟨fun c hc => (hb.cell (p := ⟨0, c, none⟩) (by show 0 < B; omega)).trans (h.1 c hc), fun i hi => ⟨(hb.cell (p := ⟨1, 2 * i, none⟩) hB).trans (h.2 i hi).1, (hb.cell (p := ⟨1, 2 * i + 1, none⟩) hB).trans (h.2 i hi).2⟩⟩
set_option maxHeartbeats 400000 in
theorem valid_any (s : ByteArray) (w : World) (hs : s.size ≤ 140737488351232) (hU : Utf8Tabs 0 1 w) :
    Calls Tryd.prog 75 #[.string s] w fun e w' => e = .returned (.bool (validD s.data.toList)) ∧ Below w.heap.size w w' := by
  have c := validString_any s w (by omega) hU
  generalize validD s.data.toList = V at *
  clear hU
  go_enter Tryd.func75, Tryd.ntmps75
  go_wp2_with (go_at_call 94; refine c.mono ?_; rintro e w' ⟨rfl, hb⟩)
  go_ret
  exact ⟨rfl, hb⟩
theorem take_snoc (s : ByteArray) (k : Nat) (h : k < s.size) : s.data.toList.take (k + 1) = s.data.toList.take k ++ [s[k]] := by
  rw [List.take_succ_eq_append_getElem (by simpa using h)]; rfl
theorem take_all (s : ByteArray) (k : Nat) (h : s.size ≤ k) : s.data.toList.take k = s.data.toList := List.take_of_length_le (by simpa using h)
theorem alloc_last (w : World) (o : Obj) : (w.alloc o).heap[w.heap.size]? = some o := by
  show (w.heap.push o)[w.heap.size]? = some o
  simp
theorem ret_ii {a b c d : Int} (h : a = b) (h2 : c = d) : Ending.returned (.tuple #[.int .i64 a, .int .i64 c]) = .returned (.tuple #[.int .i64 b, .int .i64 d]) := by rw [h, h2]
set_option maxRecDepth 100000 in
set_option maxHeartbeats 1000000 in
theorem size_bad (s : ByteArray) (w : World) (hs : s.size ≤ 1048576) (hU : Utf8Tabs 0 1 w) (hV : validD s.data.toList = false) :
    Calls Tryd.prog 80 #[.string s] w fun e w' => e = .returned (.tuple #[.int .i64 0, .int .i64 11]) ∧ Below w.heap.size w w' := by
  have c := valid_any s w (by omega) hU
  rw [hV] at c
  clear hU hV
  go_enter Tryd.func80, Tryd.ntmps80
  go_wp2_with (go_at_call 75; refine c.mono ?_; rintro e w' ⟨rfl, hb⟩)
  go_ret2
  exact ⟨rfl, hb⟩
set_option maxRecDepth 100000 in
set_option maxHeartbeats 1000000 in
theorem size_good (s : ByteArray) (w : World) (hs : s.size ≤ 1048576) (hU : Utf8Tabs 0 1 w) (hL : LetTab w) (hz : 2 < w.heap.size) (hV : validD s.data.toList = true) :
    Calls Tryd.prog 80 #[.string s] w fun e w' => e = .returned (.tuple #[.int .i64 (2 + Q.sz s.data.toList : Nat), .int .i64 0]) ∧ Below w.heap.size w w' := by
  have c := valid_any s w (by omega) hU
  rw [hV] at c
  clear hU hV
  go_enter Tryd.func80, Tryd.ntmps80
  go_wp2_with (go_at_call 75; refine c.mono ?_; rintro e w1 ⟨rfl, hb⟩)
  have hL1 : LetTab w1 := hL.below hb (by omega)
  clear c hL
  go_loop [4, 11] (fun z i => ∃ k : Nat, k ≤ s.size ∧ i = .int .i64 k ∧ z = .int .i64 (2 + Q.sz (s.data.toList.take k) : Nat)) (fun _ i => s.size - (RowKit.intOf i).toNat)
  case atStart => exact ⟨0, Nat.zero_le _, rfl, rfl⟩
  case round =>
    obtain ⟨k, hk, rfl, rfl⟩ := hrel
    have hle := Q.sz_le (s.data.toList.take k)
    have hlt : (s.data.toList.take k).length ≤ k := List.length_take_le _ _
    by_cases hlt2 : k < s.size
    · have y1 : (k : Int) < s.size := by omega
      have cw := width_any s[k].toNat s[k].toNat_lt w1 hL1
      have hw := Q.widN_le s[k].toNat
      have HS : Hid (Q.sz (s.data.toList.take (k + 1)) = Q.sz (s.data.toList.take k) + Q.widN s[k].toNat) := by
        show _ = _
        rw [take_snoc s k hlt2, Q.sz_snoc]; rfl
      generalize Q.widN s[k].toNat = W at *
      go_wp2_with (go_at_call 97; refine cw.mono ?_; rintro e w' ⟨rfl, rfl⟩)
      go_round
      case rel => exact ⟨k + 1, by omega, by go_num, by rw [HS.out]; go_num⟩
      case measure => simp [RowKit.intOf]; omega
    · have y1 : ¬ (k : Int) < s.size := by omega
      rw [take_all s k (by omega)] at *
      go_wp2
      go_ret2
      exact ⟨rfl, hb⟩
set_option maxRecDepth 100000 in
set_option maxHeartbeats 1000000 in
theorem quote_bad (s : ByteArray) (w : World) (hs : s.size ≤ 1048576) (hU : Utf8Tabs 0 1 w) (hV : validD s.data.toList = false) :
    Calls Tryd.prog 67 #[.string s] w fun e w' => e = .returned (.tuple #[.string ⟨#[]⟩, .int .i64 11]) ∧ Below w.heap.size w w' := by
  have c := size_bad s w hs hU hV
  clear hU hV
  go_enter Tryd.func67, Tryd.ntmps67
  go_wp2_with (go_at_call 80; refine c.mono ?_; rintro e w' ⟨rfl, hb⟩)
  go_ret2
  exact ⟨rfl, hb⟩
set_option maxRecDepth 100000 in
set_option maxHeartbeats 2000000 in
theorem quote_good (s : ByteArray) (w : World) (hs : s.size ≤ 1048576) (hU : Utf8Tabs 0 1 w) (hL : LetTab w) (hz : 2 < w.heap.size) (hV : validD s.data.toList = true) :
    Calls Tryd.prog 67 #[.string s] w fun e w' => e = .returned (.tuple #[.string ⟨(Q.qt s.data.toList).toArray⟩, .int .i64 0]) ∧ Below w.heap.size w w' := by
  have c := size_good s w hs hU hL hz hV
  have hle := Q.sz_le s.data.toList
  have hlen : s.data.toList.length = s.size := by simp
  rw [hlen] at hle
  have hZ : 2 + Q.sz s.data.toList ≤ 281474976710656 := by omega
  clear hU hV hlen
  generalize 2 + Q.sz s.data.toList = Z at *
  go_enter Tryd.func67, Tryd.ntmps67
  go_wp2_with (go_at_call 80; refine c.mono ?_; rintro e w1 ⟨rfl, hb⟩)
  have hL1 : LetTab w1 := hL.below hb (by omega)
  have hs1 := hb.size
  clear c hL
  refine (Tryd.Grow_fresh w1.heap.size w1.heap.size Z _ (Nat.le_refl _) (by exact alloc_last _ _) (by simp) hZ).mono ?_
  rintro e w2 ⟨rfl, g2, b2⟩
  have b2' : Below w1.heap.size w1 w2 := ((Below.refl _ w1).alloc (Nat.le_refl _) _).trans b2
  have hs2 := b2'.size
  have hL2 : LetTab w2 := hL1.below b2' (by omega)
  clear b2
  go_wp2_with fail
  refine (Tryd.WriteByte_k w1.heap.size w1.heap.size [] 34 w2 (.inr (BuilderAtF.of g2)) (by simp) hs2).mono ?_
  rintro e w3 ⟨rfl, g3, b3, -⟩
  have b3' : Below w1.heap.size w1 w3 := b2'.trans b3
  have hs3 := b3'.size
  have hL3 : LetTab w3 := hL1.below b3' (by omega)
  clear b3 b2' g2 hL2
  go_wp2_with fail
  go_loopw [21] (fun i wr => ∃ k : Nat, k ≤ s.size ∧ i = .int .i64 k ∧ IsBuilderF 62 5 w1.heap.size w1.heap.size (byteCells (34 :: Q.body (s.data.toList.take k))) wr ∧ Below w1.heap.size w1 wr) (fun i _ => s.size - (RowKit.intOf i).toNat)
  case atStart => exact ⟨0, Nat.zero_le _, rfl, .inr g3, b3'⟩
  case round =>
    obtain ⟨k, hk, rfl, gk, bk⟩ := hrel
    have hl0 := Q.sz_le (s.data.toList.take k)
    have hl1 : (s.data.toList.take k).length ≤ k := List.length_take_le _ _
    have hbl : (Q.body (s.data.toList.take k)).length ≤ 6291456 := by unfold Q.sz at hl0; omega
    have hsk := bk.size
    clear g3 hl0
    by_cases hlt : k < s.size
    · have y1 : (k : Int) < s.size := by omega
      have HS : Hid (34 :: Q.body (s.data.toList.take (k + 1)) = (34 :: Q.body (s.data.toList.take k)) ++ Q.esc s[k]) := by
        show _ = _
        rw [take_snoc s k hlt, Q.body_snoc]; rfl
      have hLk : LetTab wr := hL1.below bk (by omega)
      go_wp2_with (go_at_call 82; refine (writeByte_any w1.heap.size w1.heap.size _ s[k] _ gk (by simp; omega) hsk (by omega) hLk).mono ?_; rintro e wn ⟨rfl, gn, bn⟩)
      go_roundw
      case rel => exact ⟨k + 1, by omega, by go_num, by rw [HS.out]; exact gn, bk.trans bn⟩
      case measure => simp [RowKit.intOf]; omega
    · have y1 : ¬ (k : Int) < s.size := by omega
      rw [take_all s k (by omega)] at gk hbl
      go_wp2_with fail
      refine (Tryd.WriteByte_k w1.heap.size w1.heap.size _ 34 _ gk (by simp [byteCells_length]; omega) hsk).mono ?_
      rintro e w4 ⟨rfl, g4, b4, -⟩
      have hs4 := b4.size
      have e4 : byteCells (34 :: Q.body s.data.toList) ++ [Value.int .u8 34] = byteCells (Q.qt s.data.toList) := by
        have := byteCells_snoc (34 :: Q.body s.data.toList) 34
        exact this
      rw [e4] at g4
      go_wp2_with fail
      refine (Tryd.String_any_k w1.heap.size w1.heap.size (Q.qt s.data.toList) _ (.inr g4) (by omega)).mono ?_
      rintro e w5 ⟨rfl, -, b5, -⟩
      go_wp2
      go_ret2
      exact ⟨rfl, hb.trans (((bk.trans b4).trans b5).mono hs1)⟩
end Go.Proofs.YtagjbphadakifaaDoor
