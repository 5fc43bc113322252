/- joined: RdB RdC ShlD -/
import Derived.Test.YtolekldjbbjmjaaGreatDoorRdA
import Derived.Test.YtolekldjbbjmjaaGreatDoorFull
/- quote's reader: take. -/
set_option linter.unusedSimpArgs false
set_option linter.unusedVariables false
set_option maxRecDepth 100000
namespace Go.Proofs.YtolekldjbbjmjaaGreatDoor
open Go.RowKit
theorem below_drewN {B : Nat} {a w : World} (h : Below B a w) : ∀ q, Below B a (w.drewN q)
  | 0 => h
  | q + 1 => (below_drewN h q).drew
theorem Rd.at {B b : Nat} {s : ByteArray} {k : Nat} {l : List UInt8} {w : World} (h : Rd B b s k l w) : ∃ p v, RdAt b s k p v w := by
  obtain ⟨_, p, v, _, hr, _⟩ := h
  exact ⟨p, v, hr⟩
theorem Rd.drewN {B b : Nat} {s : ByteArray} {k : Nat} {l : List UInt8} {w : World} (h : Rd B b s k l w) (q : Nat) : Rd B b s k l (w.drewN q) := by
  induction q with
  | zero => exact h
  | succ q ih => exact ih
theorem Rd.put1 {B b : Nat} {s : ByteArray} {k : Nat} {l : List UInt8} {w : World} (h : Rd B b s k l w) (n : Nat) (z : Int) (hz : z = n) : Rd B b s n l (w.setCell ⟨b, 1, none⟩ (.int .i64 z)) := by
  subst hz
  obtain ⟨hB, p, v, hp, hr, ho, hn⟩ := h
  exact ⟨hB, p, v, hp, hr.put1 n, ownF_set ho (hr.ne ho), hn⟩
set_option maxHeartbeats 2000000 in
set_option maxRecDepth 100000 in
theorem take_yes (B b : Nat) (s : ByteArray) (k : Nat) (l : List UInt8) (c : Nat) (w : World) (h : Rd B b s k l w) (hs : s.size ≤ 281474976710656) (hk : k < s.size) (he : s[k].toNat = c) :
    Calls Tryz.prog 132 #[.pointer (some ⟨b, 0, none⟩), .int .u8 c] w fun e w' => e = .returned (.bool true) ∧ Rd B b s (k + 1) l w' ∧ Below B w w' := by
  obtain ⟨p, v, hr⟩ := h.at
  have c0 := hr.c0
  have c1 := hr.c1
  have f1 := hr.fz 1
  have hB := h.1
  have y1 : (k : Int) < s.size := by omega
  have y2 : ((k : Int) == (s.size : Int)) = false := by rw [beq_eq_false_iff_ne]; omega
  have y3 : ((s[k].toNat : Int) != (c : Int)) = false := by rw [bne_eq_false_iff_eq]; omega
  have HE : Hid (s[k].toNat = c) := he
  clear he hr
  go_enter Tryz.func132, Tryz.ntmps132
  go_wp2
  go_quiet (fail)
  go_wp2
  go_ret
  exact ⟨rfl, (h.put1 (k + 1) _ (by omega)).drewN nq, below_drewN ((Below.refl B w).setCell (p := ⟨b, 1, none⟩) hB _) nq⟩
set_option maxHeartbeats 2000000 in
set_option maxRecDepth 100000 in
theorem take_no (B b : Nat) (s : ByteArray) (k : Nat) (l : List UInt8) (c : Nat) (w : World) (h : Rd B b s k l w) (hs : s.size ≤ 281474976710656) (hk : k < s.size) (he : s[k].toNat ≠ c) :
    Calls Tryz.prog 132 #[.pointer (some ⟨b, 0, none⟩), .int .u8 c] w fun e w' => e = .returned (.bool false) ∧ Rd B b s k l w' ∧ Below B w w' := by
  obtain ⟨p, v, hr⟩ := h.at
  have c0 := hr.c0
  have c1 := hr.c1
  have y1 : (k : Int) < s.size := by omega
  have y2 : ((k : Int) == (s.size : Int)) = false := by rw [beq_eq_false_iff_ne]; omega
  have y3 : ((s[k].toNat : Int) != (c : Int)) = true := by rw [bne_iff_ne]; omega
  clear he hr
  go_enter Tryz.func132, Tryz.ntmps132
  go_wp2
  go_quiet (fail)
  go_wp2
  go_ret
  exact ⟨rfl, h.drewN nq, below_drewN (Below.refl B w) nq⟩
set_option maxHeartbeats 2000000 in
set_option maxRecDepth 100000 in
theorem take_end (B b : Nat) (s : ByteArray) (k : Nat) (l : List UInt8) (c : Nat) (w : World) (h : Rd B b s k l w) (hs : s.size ≤ 281474976710656) (hk : k = s.size) :
    Calls Tryz.prog 132 #[.pointer (some ⟨b, 0, none⟩), .int .u8 c] w fun e w' => e = .returned (.bool false) ∧ Rd B b s k l w' ∧ Below B w w' := by
  obtain ⟨p, v, hr⟩ := h.at
  have c0 := hr.c0
  have c1 := hr.c1
  have y2 : ((k : Int) == (s.size : Int)) = true := by rw [beq_iff_eq]; omega
  have HK : Hid (k = s.size) := hk
  clear hk hr
  go_enter Tryz.func132, Tryz.ntmps132
  go_wp2
  go_quiet (fail)
  go_wp2
  go_ret
  exact ⟨rfl, h.drewN nq, below_drewN (Below.refl B w) nq⟩
/-- what 'take' tells -/
def hit (s : ByteArray) (k c : Nat) : Bool := decide (∃ h : k < s.size, s[k].toNat = c)
theorem take_any (B b : Nat) (s : ByteArray) (k : Nat) (l : List UInt8) (c : Nat) (w : World) (h : Rd B b s k l w) (hs : s.size ≤ 281474976710656) (hk : k ≤ s.size) :
    Calls Tryz.prog 132 #[.pointer (some ⟨b, 0, none⟩), .int .u8 c] w fun e w' => e = .returned (.bool (hit s k c)) ∧ Rd B b s (if hit s k c then k + 1 else k) l w' ∧ Below B w w' := by
  by_cases hlt : k < s.size
  · by_cases he : s[k].toNat = c
    · have e : hit s k c = true := by simp [hit, hlt, he]
      rw [e]
      exact take_yes B b s k l c w h hs hlt he
    · have e : hit s k c = false := by simp [hit, hlt, he]
      rw [e]
      exact take_no B b s k l c w h hs hlt he
  · have e : hit s k c = false := by simp [hit, hlt]
    rw [e]
    exact take_end B b s k l c w h hs (by omega)
end Go.Proofs.YtolekldjbbjmjaaGreatDoor
/- brokenAt; quote's reader: sequence. -/
set_option maxRecDepth 100000
namespace Go.Proofs.YtolekldjbbjmjaaGreatDoor
open Go.RowKit Go.Lib
set_option maxHeartbeats 2000000 in
set_option maxRecDepth 100000 in
theorem broken_any (s : ByteArray) (k n : Nat) (w : World) (hU : Utf8Tabs 0 1 w) (hz : 2 < w.heap.size) (hs : s.size ≤ 281474976710656) (hkn : k + n ≤ s.size)
    (h1 : ∀ j, j < n → Q.full ((s.data.toList.drop k).take (j + 1)) = false) (h2 : k + n = s.size ∨ Q.full ((s.data.toList.drop k).take (n + 1)) = true) :
    Calls Tryz.prog 144 #[.string s, .int .i64 k] w fun e w' => e = .returned (.int .i64 ((k + n : Nat) : Int)) ∧ Below w.heap.size w w' := by
  have H1 : Hid _ := h1
  have H2 : Hid _ := h2
  clear h1 h2
  go_enter Tryz.func144, Tryz.ntmps144
  go_wp2
  go_loopw [5] (fun e wr => ∃ j : Nat, j ≤ n ∧ e = .int .i64 ((k + j : Nat) : Int) ∧ Below w.heap.size w wr) (fun e _ => (k + n) - (RowKit.intOf e).toNat)
  case atStart => exact ⟨0, by omega, rfl, Below.refl _ _⟩
  case round =>
    obtain ⟨j, hj, rfl, bk⟩ := hrel
    have hUr := utab_below hU bk (by omega)
    by_cases hjn : j < n
    · have y1 : ((k : Int) + j) < s.size := by omega
      have y2 : ((k + j : Nat) : Int) < s.size := by omega
      have hsl : ∀ W : World, (Instr.slice 9 (.string s) (some (.int .i64 (k : Int))) (some (.int .i64 ((k : Int) + j + 1))) none).run Tryz.prog W = .ok (.string (s.extract k (k + j + 1))) W := by
        intro W
        have h := run_slice_string (P := Tryz.prog) W 9 s .i64 .i64 (k : Int) ((k : Int) + j + 1) Tryz.underlying9 (by omega) (by omega) (by omega)
        have e1 : (k : Int).toNat = k := by omega
        have e2 : ((k : Int) + j + 1).toNat = k + j + 1 := by omega
        rw [e1, e2] at h
        exact h
      have hfd : (s.extract k (k + j + 1)).data.toList = (s.data.toList.drop k).take (j + 1) := by
        rw [extract_data]; congr 1; omega
      have hfs : (s.extract k (k + j + 1)).size = j + 1 := by
        rw [size_eq, hfd]; simp; omega
      have HF : Hid (Q.full (s.extract k (k + j + 1)).data.toList = false) := by
        show _ = _
        rw [hfd]; exact H1.out j hjn
      generalize s.extract k (k + j + 1) = X at *
      clear hfd
      have cf := full_any X wr hUr (by omega) (by omega)
      rw [HF.out] at cf
      have hzr := bk.size
      go_wp2_with (go_at_call 148; refine cf.mono ?_; rintro e w1 ⟨rfl, b1⟩)
      go_roundw
      case rel => exact ⟨j + 1, by omega, by go_num, bk.trans (b1.mono hzr)⟩
      case measure => simp [RowKit.intOf]; omega
    · obtain rfl : j = n := by omega
      by_cases hend : k + j = s.size
      · have y1 : ¬ ((k : Int) + j) < s.size := by omega
        have y2 : ¬ ((k + j : Nat) : Int) < s.size := by omega
        clear hend
        go_wp2
        go_ret
        exact ⟨rfl, bk⟩
      · have y1 : ((k : Int) + j) < s.size := by omega
        have y2 : ((k + j : Nat) : Int) < s.size := by omega
        have hsl : ∀ W : World, (Instr.slice 9 (.string s) (some (.int .i64 (k : Int))) (some (.int .i64 ((k : Int) + j + 1))) none).run Tryz.prog W = .ok (.string (s.extract k (k + j + 1))) W := by
          intro W
          have h := run_slice_string (P := Tryz.prog) W 9 s .i64 .i64 (k : Int) ((k : Int) + j + 1) Tryz.underlying9 (by omega) (by omega) (by omega)
          have e1 : (k : Int).toNat = k := by omega
          have e2 : ((k : Int) + j + 1).toNat = k + j + 1 := by omega
          rw [e1, e2] at h
          exact h
        have hfd : (s.extract k (k + j + 1)).data.toList = (s.data.toList.drop k).take (j + 1) := by
          rw [extract_data]; congr 1; omega
        have hfs : (s.extract k (k + j + 1)).size = j + 1 := by
          rw [size_eq, hfd]; simp; omega
        have HF : Hid (Q.full (s.extract k (k + j + 1)).data.toList = true) := by
          show _ = _
          rw [hfd]
          rcases H2.out with h | h
          · exact absurd h hend
          · exact h
        generalize s.extract k (k + j + 1) = X at *
        clear hfd hend
        have cf := full_any X wr hUr (by omega) (by omega)
        rw [HF.out] at cf
        have hzr := bk.size
        go_wp2_with (go_at_call 148; refine cf.mono ?_; rintro e w1 ⟨rfl, b1⟩)
        go_ret
        exact ⟨rfl, bk.trans (b1.mono hzr)⟩
end Go.Proofs.YtolekldjbbjmjaaGreatDoor
/- utf8.DecodeRuneInString by its contract, laid at this program. -/
namespace Go.Proofs
open Go.Shelf Go.RowKit
def Tryz.lays197_ren : Go.Shelf.Ren := ⟨fun | 197 => 121 | 260 => 130 | n => n, fun | 0 => 0 | 3 => 3 | 4 => 4 | 5 => 5 | 9 => 9 | 21 => 21 | 46 => 111 | 105 => 157 | 119 => 168 | 138 => 170 | 139 => 171 | n => n, fun | 3 => 0 | 4 => 1 | n => n⟩
set_option maxRecDepth 100000 in
theorem Tryz.lays197 : Go.Proofs.Lays.n197 Tryz.prog Tryz.lays197_ren := {
  mixed := by kernel_rfl
  f197 := Tryz.func121.trans (congrArg some (by kernel_rfl))
  f260 := Tryz.func130.trans (congrArg some (by kernel_rfl))
  t0 := Tryz.underlying0
  a0 := Tryz.isAgg0
  z0 := Tryz.sizeOf0
  v0 := Tryz.zeroValue0
  t3 := Tryz.underlying3
  a3 := Tryz.isAgg3
  z3 := Tryz.sizeOf3
  v3 := Tryz.zeroValue3
  t4 := Tryz.underlying4
  a4 := Tryz.isAgg4
  z4 := Tryz.sizeOf4
  v4 := Tryz.zeroValue4
  t5 := Tryz.underlying5
  a5 := Tryz.isAgg5
  z5 := Tryz.sizeOf5
  v5 := Tryz.zeroValue5
  t9 := Tryz.underlying9
  a9 := Tryz.isAgg9
  z9 := Tryz.sizeOf9
  v9 := Tryz.zeroValue9
  t21 := Tryz.underlying21
  a21 := Tryz.isAgg21
  z21 := Tryz.sizeOf21
  v21 := Tryz.zeroValue21
  t46 := Tryz.underlying111
  a46 := Tryz.isAgg111
  z46 := Tryz.sizeOf111
  v46 := Tryz.zeroValue111
  t105 := Tryz.underlying157
  a105 := Tryz.isAgg157
  z105 := Tryz.sizeOf157
  v105 := Tryz.zeroValue157
  t119 := Tryz.underlying168
  a119 := Tryz.isAgg168
  z119 := Tryz.sizeOf168
  t138 := Tryz.underlying170
  a138 := Tryz.isAgg170
  z138 := Tryz.sizeOf170
  v138 := Tryz.zeroValue170
  t139 := Tryz.underlying171
  a139 := Tryz.isAgg171
  z139 := Tryz.sizeOf171
  v139 := Tryz.zeroValue171
  g3 := by kernel_rfl
  g4 := by kernel_rfl }
namespace YtolekldjbbjmjaaGreatDoor
open Go.Lib
theorem decode_any (s : ByteArray) (w : World) (hU : Utf8Tabs 0 1 w) :
    Calls Tryz.prog 121 #[.string s] w fun e w' => e = .returned (.tuple #[.int .i32 (Lib.decodeGo s).1, .int .i64 (Lib.decodeGo s).2]) ∧ Below w.heap.size w w' :=
  Any.utf8_DecodeRuneInString Tryz.lays197 s w hU
end YtolekldjbbjmjaaGreatDoor
end Go.Proofs
