/- joined: WalksA ShelfB WalksC -/
import Derived.Test.YtpmhdcmmlkjjmaaGreatDoorG0
import Derived.WalkKit
import Derived.WalkMore
import Derived.Below
import Derived.Shelf.Strings.BuilderRune
import Derived.Shelf.Strings.Builder2
import Derived.Shelf.Unicode.DecodeAny
/- Contracts: letter, width, bounds, Next, the document's Valid. -/
set_option linter.unusedSimpArgs false
set_option linter.unusedVariables false
namespace Go.Proofs.YtpmhdcmmlkjjmaaGreatDoor
open Go.RowKit Go.Lib
/-- the letters' table, cell by cell -/
def LetTab (w : World) : Prop := ∀ c : Nat, c < 128 → w.cell? ⟨4, c, none⟩ = some (.int .u8 (Q.letN c))
theorem Q.letN_hi (n : Nat) (h : 128 ≤ n) : Q.letN n = 0 := by
  unfold Q.letN
  repeat' split
  all_goals first | omega | rfl
set_option maxRecDepth 100000 in
set_option maxHeartbeats 400000 in
theorem letter_any (n : Nat) (hn : n < 256) (w : World) (hT : LetTab w) :
    Calls Tryz.prog 107 #[.int .u8 n] w fun e w' => e = .returned (.int .u8 (Q.letN n)) ∧ w' = w := by
  by_cases h : n < 128
  · have hc := hT n h
    have hz : (n : Int) < 128 := by omega
    generalize Q.letN n = L at *
    clear hT
    go_enter Tryz.func107, Tryz.ntmps107
    go_wp2
    go_ret
    exact ⟨rfl, rfl⟩
  · have hz : (128 : Int) ≤ n := by omega
    rw [Q.letN_hi n (by omega)]
    clear hT
    go_enter Tryz.func107, Tryz.ntmps107
    go_wp2
    go_ret
    exact ⟨rfl, rfl⟩
set_option maxHeartbeats 400000 in
theorem width_any (n : Nat) (hn : n < 256) (w : World) (hT : LetTab w) :
    Calls Tryz.prog 104 #[.int .u8 n] w fun e w' => e = .returned (.int .i64 (Q.widN n)) ∧ w' = w := by
  have c := letter_any n hn w hT
  clear hT
  by_cases h : Q.letN n = 0
  · rw [h] at c
    by_cases h2 : n < 32
    · have e : Q.widN n = 6 := by simp [Q.widN, h, h2]
      rw [e]
      have hz : (n : Int) < 32 := by omega
      clear e h
      go_enter Tryz.func104, Tryz.ntmps104
      go_wp2_with (go_at_call 107; refine c.mono ?_; rintro e w' ⟨rfl, rfl⟩)
      go_ret
      exact ⟨rfl, rfl⟩
    · have e : Q.widN n = 1 := by simp [Q.widN, h, h2]
      rw [e]
      have hz : ¬ (n : Int) < 32 := by omega
      clear e h
      go_enter Tryz.func104, Tryz.ntmps104
      go_wp2_with (go_at_call 107; refine c.mono ?_; rintro e w' ⟨rfl, rfl⟩)
      go_ret
      exact ⟨rfl, rfl⟩
  · have e : Q.widN n = 2 := by simp [Q.widN, h]
    rw [e]
    have hb : ((Q.letN n : Int) == 0) = false := by rw [beq_eq_false_iff_ne]; omega
    have hb2 : ((Q.letN n : Int) != 0) = true := by rw [bne_iff_ne]; omega
    clear e
    generalize Q.letN n = L at *
    go_enter Tryz.func104, Tryz.ntmps104
    go_wp2_with (go_at_call 107; refine c.mono ?_; rintro e w' ⟨rfl, rfl⟩)
    go_ret
    exact ⟨rfl, rfl⟩
theorem drop_consW (s : ByteArray) (k : Nat) (h : k < s.size) : s.data.toList.drop k = s[k] :: s.data.toList.drop (k + 1) := by
  rw [List.drop_eq_getElem_cons (by simpa using h)]
  rfl
theorem drop_endW (s : ByteArray) (k : Nat) (h : s.size ≤ k) : s.data.toList.drop k = [] := by
  rw [List.drop_eq_nil_iff]
  simpa using h
end Go.Proofs.YtpmhdcmmlkjjmaaGreatDoor
/- The library's contracts, laid at this program: strings.Builder's writers. -/
namespace Go.Proofs
open Go.Shelf Go.RowKit
def Tryz.lays167_ren : Go.Shelf.Ren := ⟨fun | 167 => 79 | 240 => 105 | 276 => 128 | n => n, fun | 0 => 0 | 4 => 4 | 5 => 5 | 9 => 9 | 20 => 20 | 37 => 28 | 70 => 109 | 72 => 111 | 75 => 114 | 80 => 85 | 164 => 158 | n => n, fun | n => n⟩
theorem Tryz.lays167 : Go.Proofs.Lays.n167 Tryz.prog Tryz.lays167_ren := {
  mixed := by kernel_rfl
  f167 := Tryz.func79.trans (congrArg some (by kernel_rfl))
  f240 := Tryz.func105.trans (congrArg some (by kernel_rfl))
  f276 := Tryz.func128.trans (congrArg some (by kernel_rfl))
  t0 := Tryz.underlying0
  a0 := Tryz.isAgg0
  z0 := Tryz.sizeOf0
  v0 := Tryz.zeroValue0
  t4 := Tryz.underlying4
  a4 := Tryz.isAgg4
  z4 := Tryz.sizeOf4
  v4 := Tryz.zeroValue4
  t5 := Tryz.underlying5
  a5 := Tryz.isAgg5
  z5 := Tryz.sizeOf5
  v5 := Tryz.zeroValue5
  t9 := Tryz.underlying9
  a9 := Tryz.isAgg9
  z9 := Tryz.sizeOf9
  v9 := Tryz.zeroValue9
  t20 := Tryz.underlying20
  a20 := Tryz.isAgg20
  z20 := Tryz.sizeOf20
  v20 := Tryz.zeroValue20
  t37 := Tryz.underlying28
  a37 := Tryz.isAgg28
  z37 := Tryz.sizeOf28
  v37 := Tryz.zeroValue28
  t70 := Tryz.underlying109
  a70 := Tryz.isAgg109
  z70 := Tryz.sizeOf109
  v70 := Tryz.zeroValue109
  t72 := Tryz.underlying111
  a72 := Tryz.isAgg111
  z72 := Tryz.sizeOf111
  v72 := Tryz.zeroValue111
  t75 := Tryz.underlying114
  a75 := Tryz.isAgg114
  z75 := Tryz.sizeOf114
  v75 := Tryz.zeroValue114
  t164 := Tryz.underlying158
  a164 := Tryz.isAgg158
  z164 := Tryz.sizeOf158
  v164 := Tryz.zeroValue158 }
theorem Tryz.lays167X : Builder.Extra Tryz.prog Tryz.lays167_ren := {
  sizeBuilder := by kernel_rfl
  liesBuilder := by kernel_rfl
  t5 := Tryz.underlying5
  a5 := Tryz.isAgg5
  z5 := Tryz.sizeOf5
  v5 := Tryz.zeroValue5
  infoByte := by kernel_rfl
  cellsByte := by kernel_rfl
  sizeByte := by kernel_rfl
  neB5 := by decide }
def Tryz.lays166_ren : Go.Shelf.Ren := ⟨fun | 166 => 108 | 240 => 105 | 276 => 128 | n => n, fun | 0 => 0 | 3 => 3 | 4 => 4 | 5 => 5 | 9 => 9 | 20 => 20 | 37 => 28 | 70 => 109 | 72 => 111 | 75 => 114 | 80 => 85 | 164 => 158 | n => n, fun | n => n⟩
theorem Tryz.lays166 : Go.Proofs.Lays.n166 Tryz.prog Tryz.lays166_ren := {
  mixed := by kernel_rfl
  f166 := Tryz.func108.trans (congrArg some (by kernel_rfl))
  f240 := Tryz.func105.trans (congrArg some (by kernel_rfl))
  f276 := Tryz.func128.trans (congrArg some (by kernel_rfl))
  t0 := Tryz.underlying0
  a0 := Tryz.isAgg0
  z0 := Tryz.sizeOf0
  v0 := Tryz.zeroValue0
  t3 := Tryz.underlying3
  a3 := Tryz.isAgg3
  z3 := Tryz.sizeOf3
  v3 := Tryz.zeroValue3
  t4 := Tryz.underlying4
  a4 := Tryz.isAgg4
  z4 := Tryz.sizeOf4
  v4 := Tryz.zeroValue4
  t9 := Tryz.underlying9
  a9 := Tryz.isAgg9
  z9 := Tryz.sizeOf9
  v9 := Tryz.zeroValue9
  t20 := Tryz.underlying20
  a20 := Tryz.isAgg20
  z20 := Tryz.sizeOf20
  v20 := Tryz.zeroValue20
  t37 := Tryz.underlying28
  a37 := Tryz.isAgg28
  z37 := Tryz.sizeOf28
  v37 := Tryz.zeroValue28
  t70 := Tryz.underlying109
  a70 := Tryz.isAgg109
  z70 := Tryz.sizeOf109
  v70 := Tryz.zeroValue109
  t72 := Tryz.underlying111
  a72 := Tryz.isAgg111
  z72 := Tryz.sizeOf111
  v72 := Tryz.zeroValue111
  t75 := Tryz.underlying114
  a75 := Tryz.isAgg114
  z75 := Tryz.sizeOf114
  v75 := Tryz.zeroValue114
  t164 := Tryz.underlying158
  a164 := Tryz.isAgg158
  z164 := Tryz.sizeOf158
  v164 := Tryz.zeroValue158 }
theorem Tryz.lays166X : Builder.Extra Tryz.prog Tryz.lays166_ren := {
  sizeBuilder := by kernel_rfl
  liesBuilder := by kernel_rfl
  t5 := Tryz.underlying5
  a5 := Tryz.isAgg5
  z5 := Tryz.sizeOf5
  v5 := Tryz.zeroValue5
  infoByte := by kernel_rfl
  cellsByte := by kernel_rfl
  sizeByte := by kernel_rfl
  neB5 := by decide }
def Tryz.lays168_ren : Go.Shelf.Ren := ⟨fun | 168 => 176 | 240 => 105 | 242 => 186 | 276 => 128 | 278 => 190 | n => n, fun | 0 => 0 | 3 => 3 | 4 => 4 | 5 => 5 | 9 => 9 | 20 => 20 | 21 => 21 | 37 => 28 | 46 => 95 | 51 => 127 | 70 => 109 | 72 => 111 | 75 => 114 | 80 => 85 | 164 => 158 | n => n, fun | n => n⟩
theorem Tryz.lays168 : Go.Proofs.Lays.n168 Tryz.prog Tryz.lays168_ren := {
  mixed := by kernel_rfl
  f168 := Tryz.func176.trans (congrArg some (by kernel_rfl))
  f240 := Tryz.func105.trans (congrArg some (by kernel_rfl))
  f242 := Tryz.func186.trans (congrArg some (by kernel_rfl))
  f276 := Tryz.func128.trans (congrArg some (by kernel_rfl))
  f278 := Tryz.func190.trans (congrArg some (by kernel_rfl))
  t0 := Tryz.underlying0
  a0 := Tryz.isAgg0
  z0 := Tryz.sizeOf0
  v0 := Tryz.zeroValue0
  t3 := Tryz.underlying3
  a3 := Tryz.isAgg3
  z3 := Tryz.sizeOf3
  v3 := Tryz.zeroValue3
  t4 := Tryz.underlying4
  a4 := Tryz.isAgg4
  z4 := Tryz.sizeOf4
  v4 := Tryz.zeroValue4
  t5 := Tryz.underlying5
  a5 := Tryz.isAgg5
  z5 := Tryz.sizeOf5
  v5 := Tryz.zeroValue5
  t9 := Tryz.underlying9
  a9 := Tryz.isAgg9
  z9 := Tryz.sizeOf9
  v9 := Tryz.zeroValue9
  t20 := Tryz.underlying20
  a20 := Tryz.isAgg20
  z20 := Tryz.sizeOf20
  v20 := Tryz.zeroValue20
  t21 := Tryz.underlying21
  a21 := Tryz.isAgg21
  z21 := Tryz.sizeOf21
  v21 := Tryz.zeroValue21
  t37 := Tryz.underlying28
  a37 := Tryz.isAgg28
  z37 := Tryz.sizeOf28
  v37 := Tryz.zeroValue28
  t46 := Tryz.underlying95
  a46 := Tryz.isAgg95
  z46 := Tryz.sizeOf95
  v46 := Tryz.zeroValue95
  t51 := Tryz.underlying127
  a51 := Tryz.isAgg127
  z51 := Tryz.sizeOf127
  v51 := Tryz.zeroValue127
  t70 := Tryz.underlying109
  a70 := Tryz.isAgg109
  z70 := Tryz.sizeOf109
  v70 := Tryz.zeroValue109
  t72 := Tryz.underlying111
  a72 := Tryz.isAgg111
  z72 := Tryz.sizeOf111
  v72 := Tryz.zeroValue111
  t75 := Tryz.underlying114
  a75 := Tryz.isAgg114
  z75 := Tryz.sizeOf114
  v75 := Tryz.zeroValue114
  t164 := Tryz.underlying158
  a164 := Tryz.isAgg158
  z164 := Tryz.sizeOf158
  v164 := Tryz.zeroValue158 }
theorem Tryz.lays168X : Builder.Extra Tryz.prog Tryz.lays168_ren := {
  sizeBuilder := by kernel_rfl
  liesBuilder := by kernel_rfl
  t5 := Tryz.underlying5
  a5 := Tryz.isAgg5
  z5 := Tryz.sizeOf5
  v5 := Tryz.zeroValue5
  infoByte := by kernel_rfl
  cellsByte := by kernel_rfl
  sizeByte := by kernel_rfl
  neB5 := by decide }
def Tryz.lays169_ren : Go.Shelf.Ren := ⟨fun | 169 => 81 | n => n, fun | 0 => 0 | 3 => 3 | 5 => 5 | 9 => 9 | 37 => 28 | 70 => 109 | 72 => 111 | 127 => 144 | n => n, fun | n => n⟩
theorem Tryz.lays169 : Go.Proofs.Lays.n169 Tryz.prog Tryz.lays169_ren := {
  mixed := by kernel_rfl
  f169 := Tryz.func81.trans (congrArg some (by kernel_rfl))
  t0 := Tryz.underlying0
  a0 := Tryz.isAgg0
  z0 := Tryz.sizeOf0
  v0 := Tryz.zeroValue0
  t3 := Tryz.underlying3
  a3 := Tryz.isAgg3
  z3 := Tryz.sizeOf3
  v3 := Tryz.zeroValue3
  t9 := Tryz.underlying9
  a9 := Tryz.isAgg9
  z9 := Tryz.sizeOf9
  v9 := Tryz.zeroValue9
  t37 := Tryz.underlying28
  a37 := Tryz.isAgg28
  z37 := Tryz.sizeOf28
  v37 := Tryz.zeroValue28
  t70 := Tryz.underlying109
  a70 := Tryz.isAgg109
  z70 := Tryz.sizeOf109
  v70 := Tryz.zeroValue109
  t72 := Tryz.underlying111
  a72 := Tryz.isAgg111
  z72 := Tryz.sizeOf111
  v72 := Tryz.zeroValue111
  t127 := Tryz.underlying144
  a127 := Tryz.isAgg144
  z127 := Tryz.sizeOf144
  v127 := Tryz.zeroValue144 }
theorem Tryz.lays169X : Builder.Extra Tryz.prog Tryz.lays169_ren := {
  sizeBuilder := by kernel_rfl
  liesBuilder := by kernel_rfl
  t5 := Tryz.underlying5
  a5 := Tryz.isAgg5
  z5 := Tryz.sizeOf5
  v5 := Tryz.zeroValue5
  infoByte := by kernel_rfl
  cellsByte := by kernel_rfl
  sizeByte := by kernel_rfl
  neB5 := by decide }
def Tryz.lays165_ren : Go.Shelf.Ren := ⟨fun | 165 => 78 | 240 => 105 | 241 => 106 | 276 => 128 | 277 => 129 | n => n, fun | 0 => 0 | 3 => 3 | 4 => 4 | 5 => 5 | 9 => 9 | 20 => 20 | 37 => 28 | 70 => 109 | 72 => 111 | 164 => 158 | n => n, fun | n => n⟩
theorem Tryz.lays165 : Go.Proofs.Lays.n165 Tryz.prog Tryz.lays165_ren := {
  mixed := by kernel_rfl
  f165 := Tryz.func78.trans (congrArg some (by kernel_rfl))
  f240 := Tryz.func105.trans (congrArg some (by kernel_rfl))
  f241 := Tryz.func106.trans (congrArg some (by kernel_rfl))
  f276 := Tryz.func128.trans (congrArg some (by kernel_rfl))
  f277 := Tryz.func129.trans (congrArg some (by kernel_rfl))
  t0 := Tryz.underlying0
  a0 := Tryz.isAgg0
  z0 := Tryz.sizeOf0
  v0 := Tryz.zeroValue0
  t3 := Tryz.underlying3
  a3 := Tryz.isAgg3
  z3 := Tryz.sizeOf3
  v3 := Tryz.zeroValue3
  t4 := Tryz.underlying4
  a4 := Tryz.isAgg4
  z4 := Tryz.sizeOf4
  v4 := Tryz.zeroValue4
  t9 := Tryz.underlying9
  a9 := Tryz.isAgg9
  z9 := Tryz.sizeOf9
  v9 := Tryz.zeroValue9
  t20 := Tryz.underlying20
  a20 := Tryz.isAgg20
  z20 := Tryz.sizeOf20
  v20 := Tryz.zeroValue20
  t37 := Tryz.underlying28
  a37 := Tryz.isAgg28
  z37 := Tryz.sizeOf28
  v37 := Tryz.zeroValue28
  t70 := Tryz.underlying109
  a70 := Tryz.isAgg109
  z70 := Tryz.sizeOf109
  v70 := Tryz.zeroValue109
  t72 := Tryz.underlying111
  a72 := Tryz.isAgg111
  z72 := Tryz.sizeOf111
  v72 := Tryz.zeroValue111
  t164 := Tryz.underlying158
  a164 := Tryz.isAgg158
  z164 := Tryz.sizeOf158
  v164 := Tryz.zeroValue158 }
theorem Tryz.lays165X : Builder.Extra Tryz.prog Tryz.lays165_ren := {
  sizeBuilder := by kernel_rfl
  liesBuilder := by kernel_rfl
  t5 := Tryz.underlying5
  a5 := Tryz.isAgg5
  z5 := Tryz.sizeOf5
  v5 := Tryz.zeroValue5
  infoByte := by kernel_rfl
  cellsByte := by kernel_rfl
  sizeByte := by kernel_rfl
  neB5 := by decide }
theorem Tryz.WriteByte_k (B b : Nat) (bs : List Value) (c : Int) (w : World) (h : Lib.IsBuilderF 111 5 B b bs w) (hlen : bs.length + 1 ≤ 140737488355328) (hBw : B ≤ w.heap.size) :
    Calls Tryz.prog 79 #[.pointer (some ⟨b, 0, none⟩), .int .u8 c] w fun e w' => e = .returned .nilIface ∧ (Lib.BuilderAtF 111 5 B b (.pointer (some ⟨b, 0, none⟩)) (bs ++ [.int .u8 c]) w' ∧ Below B w w' ∧ Lib.OthersKept 5 (some b) w w') :=
  Any.Builder_WriteByte_k Tryz.lays167 Tryz.lays167X B b bs c w h hlen hBw
theorem Tryz.WriteString_k (B b : Nat) (bs : List Value) (s : ByteArray) (w : World) (h : Lib.IsBuilderF 111 5 B b bs w) (hlen : bs.length + s.size ≤ 140737488355328) (hBw : B ≤ w.heap.size) :
    Calls Tryz.prog 108 #[.pointer (some ⟨b, 0, none⟩), .string s] w fun e w' => e = .returned (.tuple #[.int .i64 s.size, .nilIface]) ∧ (Lib.BuilderAtF 111 5 B b (.pointer (some ⟨b, 0, none⟩)) (bs ++ Lib.strCells s) w' ∧ Below B w w' ∧ Lib.OthersKept 5 (some b) w w') :=
  Any.Builder_WriteString_k Tryz.lays166 Tryz.lays166X B b bs s w h hlen hBw
theorem Tryz.String_any_k (B b : Nat) (l : List UInt8) (w : World) (h : Lib.IsBuilderF 111 5 B b (Lib.byteCells l) w) (hBw : B ≤ w.heap.size) :
    Calls Tryz.prog 81 #[.pointer (some ⟨b, 0, none⟩)] w fun e w' => e = .returned (.string ⟨l.toArray⟩) ∧ (Lib.IsBuilderF 111 5 B b (Lib.byteCells l) w' ∧ Below B w w' ∧ Lib.OthersKept 5 (some b) w w') :=
  Any.Builder_String_any_k Tryz.lays169 Tryz.lays169X B b l w h hBw
theorem Tryz.Grow_fresh (B b n : Nat) (w : World) (hB : B ≤ b) (hbk : w.heap[b]? = some (.cells #[.pointer none, .slice none 0 0] 111 (0, 0))) (hBw : B ≤ w.heap.size) (hn : n ≤ 281474976710656) :
    Calls Tryz.prog 78 #[.pointer (some ⟨b, 0, none⟩), .int .i64 n] w fun e w' => e = .returned (.tuple #[]) ∧ (Lib.BuilderAt 111 5 B b (.pointer (some ⟨b, 0, none⟩)) [] w' ∧ Below B w w') :=
  Any.Builder_Grow_fresh Tryz.lays165 Tryz.lays165X B b n w hB hbk hBw hn
end Go.Proofs
/- Contracts: writeByte, Size, Quote. -/
namespace Go.Proofs.YtpmhdcmmlkjjmaaGreatDoor
open Go.RowKit Go.Lib
theorem LetTab.below {B : Nat} {w w' : World} (h : LetTab w) (hb : Below B w w') (hB : 9 < B) : LetTab w' :=
  fun c hc => (hb.cell (p := ⟨4, c, none⟩) (by show 4 < B; omega)).trans (h c hc)
theorem byteCells_snoc (l : List UInt8) (c : UInt8) : byteCells l ++ [Value.int .u8 c.toNat] = byteCells (l ++ [c]) := by simp [byteCells]
theorem cell_ofNat (n : Nat) (h : n < 256) : Value.int .u8 (n : Int) = Value.int .u8 ((UInt8.ofNat n).toNat : Int) := by
  congr 1
  simp
  omega
theorem Q.letN_lt (c : Nat) : Q.letN c < 256 := by
  unfold Q.letN
  repeat' split
  all_goals omega
theorem Q.esc_let (c : UInt8) (h : Q.letN c.toNat ≠ 0) : Q.esc c = [92, UInt8.ofNat (Q.letN c.toNat)] := by
  simp [Q.esc, Q.escN, h]
theorem Q.esc_low (c : UInt8) (h : Q.letN c.toNat = 0) (h2 : c.toNat < 32) : Q.esc c = [92, 117, 48, 48, UInt8.ofNat (Q.hexN (c.toNat / 16)), UInt8.ofNat (Q.hexN (c.toNat % 16))] := by
  simp [Q.esc, Q.escN, h, h2]
theorem Q.esc_same (c : UInt8) (h : Q.letN c.toNat = 0) (h2 : ¬ c.toNat < 32) : Q.esc c = [c] := by
  simp [Q.esc, Q.escN, h, h2]
theorem hexAt (d : Nat) (h : d < 16) (h' : d < (⟨#[48, 49, 50, 51, 52, 53, 54, 55, 56, 57, 97, 98, 99, 100, 101, 102]⟩ : ByteArray).size) :
    (⟨#[48, 49, 50, 51, 52, 53, 54, 55, 56, 57, 97, 98, 99, 100, 101, 102]⟩ : ByteArray)[d] = UInt8.ofNat (Q.hexN d) := by
  have key : ∀ d : Fin 16, (⟨#[48, 49, 50, 51, 52, 53, 54, 55, 56, 57, 97, 98, 99, 100, 101, 102]⟩ : ByteArray)[d.val]'(d.isLt) = UInt8.ofNat (Q.hexN d.val) := by decide
  exact key ⟨d, h⟩
set_option maxRecDepth 100000 in
set_option maxHeartbeats 1000000 in
theorem writeByte_any (B b : Nat) (l : List UInt8) (c : UInt8) (w : World) (h : IsBuilderF 111 5 B b (byteCells l) w) (hlen : l.length + 6 ≤ 140737488355328) (hBw : B ≤ w.heap.size) (hB2 : 9 < B) (hT : LetTab w) :
    Calls Tryz.prog 80 #[.pointer (some ⟨b, 0, none⟩), .int .u8 c.toNat] w fun e w' => e = .returned (.tuple #[]) ∧ IsBuilderF 111 5 B b (byteCells (l ++ Q.esc c)) w' ∧ Below B w w' := by
  have cl := letter_any c.toNat c.toNat_lt w hT
  by_cases h0 : Q.letN c.toNat = 0
  · rw [h0] at cl
    by_cases h2 : c.toNat < 32
    · rw [Q.esc_low c h0 h2]
      have hz : (c.toNat : Int) < 32 := by omega
      clear h0
      go_enter Tryz.func80, Tryz.ntmps80
      go_wp2_with (go_at_call 107; refine cl.mono ?_; rintro e w' ⟨rfl, rfl⟩)
      refine (Tryz.WriteString_k B b (byteCells l) _ _ h (by rw [byteCells_length]; show l.length + 4 ≤ _; omega) hBw).mono ?_
      rintro e w1 ⟨rfl, h1, b1, k1⟩
      have s1 := b1.size
      go_wp2_with fail
      refine (Tryz.WriteByte_k B b _ _ _ (.inr h1) (by simp [byteCells_length, strCells]; omega) (by omega)).mono ?_
      rintro e w2 ⟨rfl, h3, b2, k2⟩
      have s2 := b2.size
      go_wp2_with fail
      refine (Tryz.WriteByte_k B b _ _ _ (.inr h3) (by simp [byteCells_length, strCells]; omega) (by omega)).mono ?_
      rintro e w3 ⟨rfl, h4, b3, k3⟩
      go_wp2
      go_end0
      refine ⟨rfl, .inr ?_, (b1.trans b2).trans b3⟩
      rw [hexAt _ (by omega), hexAt _ (by omega)] at h4
      generalize UInt8.ofNat (Q.hexN (c.toNat / 16)) = x at *
      generalize UInt8.ofNat (Q.hexN (c.toNat % 16)) = y at *
      have e : byteCells l ++ strCells ⟨#[92, 117, 48, 48]⟩ ++ [Value.int .u8 x.toNat] ++ [Value.int .u8 y.toNat] = byteCells (l ++ [92, 117, 48, 48, x, y]) := by simp [byteCells, strCells]
      rw [e] at h4
      exact h4
    · rw [Q.esc_same c h0 h2]
      have hz : ¬ (c.toNat : Int) < 32 := by omega
      clear h0
      go_enter Tryz.func80, Tryz.ntmps80
      go_wp2_with (go_at_call 107; refine cl.mono ?_; rintro e w' ⟨rfl, rfl⟩)
      refine (Tryz.WriteByte_k B b (byteCells l) _ _ h (by rw [byteCells_length]; omega) hBw).mono ?_
      rintro e w1 ⟨rfl, h1, b1, k1⟩
      go_wp2
      go_end0
      rw [byteCells_snoc] at h1
      exact ⟨rfl, .inr h1, b1⟩
  · rw [Q.esc_let c h0]
    have hb2 : ((Q.letN c.toNat : Int) != 0) = true := by rw [bne_iff_ne]; omega
    have hl := Q.letN_lt c.toNat
    have hcell := cell_ofNat (Q.letN c.toNat) hl
    generalize Q.letN c.toNat = L at *
    have HC : Hid (Value.int .u8 (L : Int) = Value.int .u8 ((UInt8.ofNat L).toNat : Int)) := hcell
    clear hcell
    go_enter Tryz.func80, Tryz.ntmps80
    go_wp2_with (go_at_call 107; refine cl.mono ?_; rintro e w' ⟨rfl, rfl⟩)
    refine (Tryz.WriteByte_k B b (byteCells l) _ _ h (by rw [byteCells_length]; omega) hBw).mono ?_
    rintro e w1 ⟨rfl, h1, b1, k1⟩
    have s1 := b1.size
    go_wp2_with fail
    refine (Tryz.WriteByte_k B b _ _ _ (.inr h1) (by simp [byteCells_length]; omega) (by omega)).mono ?_
    rintro e w2 ⟨rfl, h2, b2, k2⟩
    go_wp2
    go_end0
    refine ⟨rfl, .inr ?_, b1.trans b2⟩
    rw [HC.out] at h2
    have e92 : byteCells l ++ [Value.int .u8 92] = byteCells (l ++ [92]) := byteCells_snoc l 92
    rw [e92, byteCells_snoc] at h2
    simpa using h2
end Go.Proofs.YtpmhdcmmlkjjmaaGreatDoor
