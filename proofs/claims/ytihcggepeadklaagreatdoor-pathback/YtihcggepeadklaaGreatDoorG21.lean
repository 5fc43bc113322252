/- joined: RdB RdC ShlD RdD -/
import Derived.Test.YtihcggepeadklaaGreatDoorRdA
import Derived.Test.YtihcggepeadklaaGreatDoorG19
import Derived.Lib.ValidAsc
import Derived.Deep.RegionHeld3
/- quote's reader: take. -/
set_option linter.unusedSimpArgs false
set_option linter.unusedVariables false
namespace Go.Proofs.YtihcggepeadklaaGreatDoor
open Go.RowKit
theorem below_drewN {B : Nat} {a w : World} (h : Below B a w) : ∀ q, Below B a (w.drewN q)
  | 0 => h
  | q + 1 => (below_drewN h q).drew
theorem Rd.at {B b : Nat} {s : ByteArray} {k : Nat} {l : List UInt8} {w : World} (h : Rd B b s k l w) : ∃ p v, RdAt b s k p v w := by
  obtain ⟨_, p, v, _, hr, _⟩ := h
  exact ⟨p, v, hr⟩
theorem Rd.drewN {B b : Nat} {s : ByteArray} {k : Nat} {l : List UInt8} {w : World} (h : Rd B b s k l w) (q : Nat) : Rd B b s k l (w.drewN q) := by
  induction q with
  | zero => exact h
  | succ q ih => exact ih
theorem Rd.put1 {B b : Nat} {s : ByteArray} {k : Nat} {l : List UInt8} {w : World} (h : Rd B b s k l w) (n : Nat) (z : Int) (hz : z = n) : Rd B b s n l (w.setCell ⟨b, 1, none⟩ (.int .i64 z)) := by
  subst hz
  obtain ⟨hB, p, v, hp, hr, ho, hn⟩ := h
  exact ⟨hB, p, v, hp, hr.put1 n, ownF_set ho (hr.ne ho), hn⟩
set_option maxHeartbeats 2000000 in
set_option maxRecDepth 100000 in
theorem take_yes (B b : Nat) (s : ByteArray) (k : Nat) (l : List UInt8) (c : Nat) (w : World) (h : Rd B b s k l w) (hs : s.size ≤ 281474976710656) (hk : k < s.size) (he : s[k].toNat = c) :
    Calls Tryz.prog 174 #[.pointer (some ⟨b, 0, none⟩), .int .u8 c] w fun e w' => e = .returned (.bool true) ∧ Rd B b s (k + 1) l w' ∧ Below B w w' := by
  obtain ⟨p, v, hr⟩ := h.at
  have c0 := hr.c0
  have c1 := hr.c1
  have f1 := hr.fz 1
  have hB := h.1
  have y1 : (k : Int) < s.size := by omega
  have y2 : ((k : Int) == (s.size : Int)) = false := by rw [beq_eq_false_iff_ne]; omega
  have y3 : ((s[k].toNat : Int) != (c : Int)) = false := by rw [bne_eq_false_iff_eq]; omega
  have HE : Hid (s[k].toNat = c) := he
  clear he hr
  go_enter Tryz.func174, Tryz.ntmps174
  go_wp2
  go_quiet (fail)
  go_wp2
  go_ret
  exact ⟨rfl, (h.put1 (k + 1) _ (by omega)).drewN nq, below_drewN ((Below.refl B w).setCell (p := ⟨b, 1, none⟩) hB _) nq⟩
set_option maxHeartbeats 2000000 in
set_option maxRecDepth 100000 in
theorem take_no (B b : Nat) (s : ByteArray) (k : Nat) (l : List UInt8) (c : Nat) (w : World) (h : Rd B b s k l w) (hs : s.size ≤ 281474976710656) (hk : k < s.size) (he : s[k].toNat ≠ c) :
    Calls Tryz.prog 174 #[.pointer (some ⟨b, 0, none⟩), .int .u8 c] w fun e w' => e = .returned (.bool false) ∧ Rd B b s k l w' ∧ Below B w w' := by
  obtain ⟨p, v, hr⟩ := h.at
  have c0 := hr.c0
  have c1 := hr.c1
  have y1 : (k : Int) < s.size := by omega
  have y2 : ((k : Int) == (s.size : Int)) = false := by rw [beq_eq_false_iff_ne]; omega
  have y3 : ((s[k].toNat : Int) != (c : Int)) = true := by rw [bne_iff_ne]; omega
  clear he hr
  go_enter Tryz.func174, Tryz.ntmps174
  go_wp2
  go_quiet (fail)
  go_wp2
  go_ret
  exact ⟨rfl, h.drewN nq, below_drewN (Below.refl B w) nq⟩
set_option maxHeartbeats 2000000 in
set_option maxRecDepth 100000 in
theorem take_end (B b : Nat) (s : ByteArray) (k : Nat) (l : List UInt8) (c : Nat) (w : World) (h : Rd B b s k l w) (hs : s.size ≤ 281474976710656) (hk : k = s.size) :
    Calls Tryz.prog 174 #[.pointer (some ⟨b, 0, none⟩), .int .u8 c] w fun e w' => e = .returned (.bool false) ∧ Rd B b s k l w' ∧ Below B w w' := by
  obtain ⟨p, v, hr⟩ := h.at
  have c0 := hr.c0
  have c1 := hr.c1
  have y2 : ((k : Int) == (s.size : Int)) = true := by rw [beq_iff_eq]; omega
  have HK : Hid (k = s.size) := hk
  clear hk hr
  go_enter Tryz.func174, Tryz.ntmps174
  go_wp2
  go_quiet (fail)
  go_wp2
  go_ret
  exact ⟨rfl, h.drewN nq, below_drewN (Below.refl B w) nq⟩
/-- what 'take' tells -/
def hit (s : ByteArray) (k c : Nat) : Bool := decide (∃ h : k < s.size, s[k].toNat = c)
theorem take_any (B b : Nat) (s : ByteArray) (k : Nat) (l : List UInt8) (c : Nat) (w : World) (h : Rd B b s k l w) (hs : s.size ≤ 281474976710656) (hk : k ≤ s.size) :
    Calls Tryz.prog 174 #[.pointer (some ⟨b, 0, none⟩), .int .u8 c] w fun e w' => e = .returned (.bool (hit s k c)) ∧ Rd B b s (if hit s k c then k + 1 else k) l w' ∧ Below B w w' := by
  by_cases hlt : k < s.size
  · by_cases he : s[k].toNat = c
    · have e : hit s k c = true := by simp [hit, hlt, he]
      rw [e]
      exact take_yes B b s k l c w h hs hlt he
    · have e : hit s k c = false := by simp [hit, hlt, he]
      rw [e]
      exact take_no B b s k l c w h hs hlt he
  · have e : hit s k c = false := by simp [hit, hlt]
    rw [e]
    exact take_end B b s k l c w h hs (by omega)
end Go.Proofs.YtihcggepeadklaaGreatDoor
/- brokenAt; quote's reader: sequence. -/
namespace Go.Proofs.YtihcggepeadklaaGreatDoor
open Go.RowKit Go.Lib
set_option maxHeartbeats 2000000 in
set_option maxRecDepth 100000 in
theorem broken_any (s : ByteArray) (k n : Nat) (w : World) (hU : Utf8Tabs 0 1 w) (hz : 2 < w.heap.size) (hs : s.size ≤ 281474976710656) (hkn : k + n ≤ s.size)
    (h1 : ∀ j, j < n → Q.full ((s.data.toList.drop k).take (j + 1)) = false) (h2 : k + n = s.size ∨ Q.full ((s.data.toList.drop k).take (n + 1)) = true) :
    Calls Tryz.prog 197 #[.string s, .int .i64 k] w fun e w' => e = .returned (.int .i64 ((k + n : Nat) : Int)) ∧ Below w.heap.size w w' := by
  have H1 : Hid _ := h1
  have H2 : Hid _ := h2
  clear h1 h2
  go_enter Tryz.func197, Tryz.ntmps197
  go_wp2
  go_loopw [5] (fun e wr => ∃ j : Nat, j ≤ n ∧ e = .int .i64 ((k + j : Nat) : Int) ∧ Below w.heap.size w wr) (fun e _ => (k + n) - (RowKit.intOf e).toNat)
  case atStart => exact ⟨0, by omega, rfl, Below.refl _ _⟩
  case round =>
    obtain ⟨j, hj, rfl, bk⟩ := hrel
    have hUr := utab_below hU bk (by omega)
    by_cases hjn : j < n
    · have y1 : ((k : Int) + j) < s.size := by omega
      have y2 : ((k + j : Nat) : Int) < s.size := by omega
      have hsl : ∀ W : World, (Instr.slice 9 (.string s) (some (.int .i64 (k : Int))) (some (.int .i64 ((k : Int) + j + 1))) none).run Tryz.prog W = .ok (.string (s.extract k (k + j + 1))) W := by
        intro W
        have h := run_slice_string (P := Tryz.prog) W 9 s .i64 .i64 (k : Int) ((k : Int) + j + 1) Tryz.underlying9 (by omega) (by omega) (by omega)
        have e1 : (k : Int).toNat = k := by omega
        have e2 : ((k : Int) + j + 1).toNat = k + j + 1 := by omega
        rw [e1, e2] at h
        exact h
      have hfd : (s.extract k (k + j + 1)).data.toList = (s.data.toList.drop k).take (j + 1) := by
        rw [extract_data]; congr 1; omega
      have hfs : (s.extract k (k + j + 1)).size = j + 1 := by
        rw [size_eq, hfd]; simp; omega
      have HF : Hid (Q.full (s.extract k (k + j + 1)).data.toList = false) := by
        show _ = _
        rw [hfd]; exact H1.out j hjn
      generalize s.extract k (k + j + 1) = X at *
      clear hfd
      have cf := full_any X wr hUr (by omega) (by omega)
      rw [HF.out] at cf
      have hzr := bk.size
      go_wp2_with (go_at_call 205; refine cf.mono ?_; rintro e w1 ⟨rfl, b1⟩)
      go_roundw
      case rel => exact ⟨j + 1, by omega, by go_num, bk.trans (b1.mono hzr)⟩
      case measure => simp [RowKit.intOf]; omega
    · obtain rfl : j = n := by omega
      by_cases hend : k + j = s.size
      · have y1 : ¬ ((k : Int) + j) < s.size := by omega
        have y2 : ¬ ((k + j : Nat) : Int) < s.size := by omega
        clear hend
        go_wp2
        go_ret
        exact ⟨rfl, bk⟩
      · have y1 : ((k : Int) + j) < s.size := by omega
        have y2 : ((k + j : Nat) : Int) < s.size := by omega
        have hsl : ∀ W : World, (Instr.slice 9 (.string s) (some (.int .i64 (k : Int))) (some (.int .i64 ((k : Int) + j + 1))) none).run Tryz.prog W = .ok (.string (s.extract k (k + j + 1))) W := by
          intro W
          have h := run_slice_string (P := Tryz.prog) W 9 s .i64 .i64 (k : Int) ((k : Int) + j + 1) Tryz.underlying9 (by omega) (by omega) (by omega)
          have e1 : (k : Int).toNat = k := by omega
          have e2 : ((k : Int) + j + 1).toNat = k + j + 1 := by omega
          rw [e1, e2] at h
          exact h
        have hfd : (s.extract k (k + j + 1)).data.toList = (s.data.toList.drop k).take (j + 1) := by
          rw [extract_data]; congr 1; omega
        have hfs : (s.extract k (k + j + 1)).size = j + 1 := by
          rw [size_eq, hfd]; simp; omega
        have HF : Hid (Q.full (s.extract k (k + j + 1)).data.toList = true) := by
          show _ = _
          rw [hfd]
          rcases H2.out with h | h
          · exact absurd h hend
          · exact h
        generalize s.extract k (k + j + 1) = X at *
        clear hfd hend
        have cf := full_any X wr hUr (by omega) (by omega)
        rw [HF.out] at cf
        have hzr := bk.size
        go_wp2_with (go_at_call 205; refine cf.mono ?_; rintro e w1 ⟨rfl, b1⟩)
        go_ret
        exact ⟨rfl, bk.trans (b1.mono hzr)⟩
end Go.Proofs.YtihcggepeadklaaGreatDoor
/- utf8.DecodeRuneInString by its contract, laid at this program. -/
namespace Go.Proofs
open Go.Shelf Go.RowKit
def Tryz.lays197_ren : Go.Shelf.Ren := ⟨fun | 197 => 177 | 260 => 189 | n => n, fun | 0 => 0 | 3 => 3 | 4 => 4 | 5 => 5 | 9 => 9 | 21 => 21 | 46 => 91 | 105 => 208 | 119 => 137 | 138 => 139 | 139 => 140 | n => n, fun | 3 => 0 | 4 => 1 | n => n⟩
set_option maxRecDepth 100000 in
theorem Tryz.lays197 : Go.Proofs.Lays.n197 Tryz.prog Tryz.lays197_ren := {
  mixed := by kernel_rfl
  f197 := Tryz.func177.trans (congrArg some (by kernel_rfl))
  f260 := Tryz.func189.trans (congrArg some (by kernel_rfl))
  t0 := Tryz.underlying0
  a0 := Tryz.isAgg0
  z0 := Tryz.sizeOf0
  v0 := Tryz.zeroValue0
  t3 := Tryz.underlying3
  a3 := Tryz.isAgg3
  z3 := Tryz.sizeOf3
  v3 := Tryz.zeroValue3
  t4 := Tryz.underlying4
  a4 := Tryz.isAgg4
  z4 := Tryz.sizeOf4
  v4 := Tryz.zeroValue4
  t5 := Tryz.underlying5
  a5 := Tryz.isAgg5
  z5 := Tryz.sizeOf5
  v5 := Tryz.zeroValue5
  t9 := Tryz.underlying9
  a9 := Tryz.isAgg9
  z9 := Tryz.sizeOf9
  v9 := Tryz.zeroValue9
  t21 := Tryz.underlying21
  a21 := Tryz.isAgg21
  z21 := Tryz.sizeOf21
  v21 := Tryz.zeroValue21
  t46 := Tryz.underlying91
  a46 := Tryz.isAgg91
  z46 := Tryz.sizeOf91
  v46 := Tryz.zeroValue91
  t105 := Tryz.underlying208
  a105 := Tryz.isAgg208
  z105 := Tryz.sizeOf208
  v105 := Tryz.zeroValue208
  t119 := Tryz.underlying137
  a119 := Tryz.isAgg137
  z119 := Tryz.sizeOf137
  t138 := Tryz.underlying139
  a138 := Tryz.isAgg139
  z138 := Tryz.sizeOf139
  v138 := Tryz.zeroValue139
  t139 := Tryz.underlying140
  a139 := Tryz.isAgg140
  z139 := Tryz.sizeOf140
  v139 := Tryz.zeroValue140
  g3 := by kernel_rfl
  g4 := by kernel_rfl }
namespace YtihcggepeadklaaGreatDoor
open Go.Lib
theorem decode_any (s : ByteArray) (w : World) (hU : Utf8Tabs 0 1 w) :
    Calls Tryz.prog 177 #[.string s] w fun e w' => e = .returned (.tuple #[.int .i32 (Lib.decodeGo s).1, .int .i64 (Lib.decodeGo s).2]) ∧ Below w.heap.size w w' :=
  Any.utf8_DecodeRuneInString Tryz.lays197 s w hU
end YtihcggepeadklaaGreatDoor
end Go.Proofs
/- quote's reader: sequence. -/
namespace Go.Proofs.YtihcggepeadklaaGreatDoor
open Go.RowKit Go.Lib
theorem Rd.below {B b : Nat} {s : ByteArray} {k : Nat} {l : List UInt8} {w w' : World} (h : Rd B b s k l w) (hb : Below w.heap.size w w') : Rd B b s k l w' := by
  obtain ⟨hB, p, v, hp, hr, ho, hn⟩ := h
  refine ⟨hB, p, v, hp, hr.keep (hb.block b hr.lt), ⟨ho.1, ?_⟩, hn⟩
  rcases ho.2 with h0 | ⟨g, cap, cur, fz, hv, hbg, hg, rest⟩
  · exact .inl h0
  · refine .inr ⟨g, cap, cur, fz, hv, hbg, ?_, rest⟩
    rw [hb.block g ?_]
    · exact hg
    · rcases Nat.lt_or_ge g w.heap.size with h' | h'
      · exact h'
      · simp [Array.getElem?_eq_none h'] at hg
theorem hsl_from (s : ByteArray) (k : Nat) (hk : k ≤ s.size) (W : World) : (Instr.slice 9 (.string s) (some (.int .i64 (k : Int))) none none).run Tryz.prog W = .ok (.string (s.extract k s.size)) W := by
  rw [run_slice_string_from_if W 9 s .i64 (k : Int) Tryz.underlying9, if_pos ⟨by omega, by omega⟩]
  simp
theorem decodeGo_eq (s : ByteArray) (k : Nat) (hk : k < s.size) : decodeGo (s.extract k s.size) = decodeL (s.data.toList.drop k) := by
  have hl := ext_list s k
  have hz := ext_size s k
  unfold decodeGo decodeL
  rw [if_neg (by omega), ← hl]
set_option maxHeartbeats 2000000 in
set_option maxRecDepth 100000 in
theorem sequence_good (B b : Nat) (s : ByteArray) (k : Nat) (l : List UInt8) (w : World) (h : Rd B b s k l w) (hs : s.size ≤ 281474976710656) (hlen : l.length + 4 ≤ 140737488355328) (hBw : B ≤ w.heap.size) (hU : Utf8Tabs 0 1 w) (hz : 2 < w.heap.size)
    (hk : k < s.size) (h128 : 128 ≤ s[k].toNat) (hn : (Q.nxt (s.data.toList.drop k)).2 = true) :
    Calls Tryz.prog 188 #[.pointer (some ⟨b, 0, none⟩)] w fun e w' => e = .returned (.int .i64 0) ∧ Rd B b s (k + (Q.nxt (s.data.toList.drop k)).1) (l ++ (s.data.toList.drop k).take (Q.nxt (s.data.toList.drop k)).1) w' ∧ Below B w w' := by
  obtain ⟨p, v, hr⟩ := h.at
  have c0 := hr.c0
  have c1 := hr.c1
  have hB := h.1
  have hsl := hsl_from s k (by omega)
  have hcons := drop_consW s k hk
  have hg := Q.dec_good s[k] (s.data.toList.drop (k + 1)) h128 (by rw [← hcons]; exact hn)
  rw [← hcons] at hg
  have hle := (Q.nxt_le (s.data.toList.drop k)).1
  have hlen2 : (s.data.toList.drop k).length = s.size - k := by simp
  rw [hlen2] at hle
  have hd1 := Q.dec_le (s.data.toList.drop k)
  have cd := decode_any (s.extract k s.size) w.drew hU
  rw [decodeGo_eq s k hk] at cd
  have HG : Hid (Lib.encodeRune ((Lib.decodeL (s.data.toList.drop k)).1 : Int) = (s.data.toList.drop k).take (Q.nxt (s.data.toList.drop k)).1) := hg.2.2
  have hg1 := hg.1
  have hg2 := hg.2.1
  have hblt := hr.lt
  clear hg hcons hlen2 hr
  generalize (s.data.toList.drop k).take (Q.nxt (s.data.toList.drop k)).1 = T at *
  generalize (Q.nxt (s.data.toList.drop k)).1 = n at *
  generalize Lib.decodeL (s.data.toList.drop k) = D at *
  obtain ⟨r, m⟩ := D
  simp only at hg1 hd1 cd HG
  subst hg1
  generalize s.extract k s.size = X at *
  have CD : Hid (Calls Tryz.prog 177 #[.string X] w.drew fun e w' => e = .returned (.tuple #[.int .i32 r, .int .i64 m]) ∧ Below w.heap.size w.drew w') := cd
  clear cd
  go_enter Tryz.func188, Tryz.ntmps188
  go_wp2
  go_region_held3 (fun w' => w'.cell? ⟨b, 0, none⟩ = some (.string s) ∧ w'.cell? ⟨b, 1, none⟩ = some (.int .i64 (k : Int))) (first | go_keep | exact ⟨by assumption, by assumption⟩) ((go_at_call 177; refine CD.out.mono ?_; rintro e w1 ⟨rfl, b1⟩; have d0 := (b1.cell (p := ⟨b, 0, none⟩) hblt).trans c0; have d1 := (b1.cell (p := ⟨b, 1, none⟩) hblt).trans c1))
  have b1' : Below w.heap.size w w1 := ((Below.refl _ w).drew).trans b1
  have R1 := h.below b1'
  have s1 := b1'.size
  have m1 : ((m : Int) == 1) = false := by rw [beq_eq_false_iff_ne]; omega
  clear d0 d1 c0 c1
  have key : ∀ (e : Ending) (w2 : World), ((∃ z : Int, e = .returned (.tuple #[.int .i64 z, .nilIface])) ∧ Rd B b s k (l ++ T) w2 ∧ Below B w1 w2) → ∃ z : Int, e = .returned (.tuple #[.int .i64 z, .nilIface]) ∧ Rd B b s k (l ++ T) w2 ∧ Below B w1 w2 := by
    rintro e w2 ⟨⟨z, hz⟩, h1, h2⟩
    exact ⟨z, hz, h1, h2⟩
  have cw := writeRune_rd B b s k l (r : Int) (by omega) (by omega) w1 R1 hlen (by omega)
  rw [HG.out] at cw
  have CW : Hid (Calls Tryz.prog 198 #[.pointer (some ⟨b, 2, none⟩), .int .i32 (r : Int)] w1 fun e w' => ∃ z : Int, e = .returned (.tuple #[.int .i64 z, .nilIface]) ∧ Rd B b s k (l ++ T) w' ∧ Below B w1 w') := cw.mono key
  clear cw key
  by_cases hr5 : ((r : Int) == 65533) = true
  · go_wp2_with fail
    refine CW.out.mono ?_
    rintro e w2 ⟨z, rfl, R2, b2⟩
    obtain ⟨p2, v2, hr2⟩ := R2.at
    have g1 := hr2.c1
    have f1 := hr2.fz 1
    clear hr2
    go_wp2
    go_ret
    exact ⟨rfl, R2.put1 (k + m) _ (by omega), (b1'.mono hBw).trans (b2.setCell (p := ⟨b, 1, none⟩) hB _)⟩
  · have hr6 : ((r : Int) == 65533) = false := by simpa using hr5
    clear hr5
    go_wp2_with fail
    refine CW.out.mono ?_
    rintro e w2 ⟨z, rfl, R2, b2⟩
    obtain ⟨p2, v2, hr2⟩ := R2.at
    have g1 := hr2.c1
    have f1 := hr2.fz 1
    clear hr2
    go_wp2
    go_ret
    exact ⟨rfl, R2.put1 (k + m) _ (by omega), (b1'.mono hBw).trans (b2.setCell (p := ⟨b, 1, none⟩) hB _)⟩
set_option maxHeartbeats 2000000 in
set_option maxRecDepth 100000 in
theorem sequence_bad (B b : Nat) (s : ByteArray) (k : Nat) (l : List UInt8) (w : World) (h : Rd B b s k l w) (hs : s.size ≤ 281474976710656) (hBw : B ≤ w.heap.size) (hU : Utf8Tabs 0 1 w) (hz : 2 < w.heap.size)
    (hk : k < s.size) (h128 : 128 ≤ s[k].toNat) (hn : (Q.nxt (s.data.toList.drop k)).2 = false) :
    Calls Tryz.prog 188 #[.pointer (some ⟨b, 0, none⟩)] w fun e w' => e = .returned (.int .i64 11) ∧ Rd B b s (k + (Q.nxt (s.data.toList.drop k)).1) l w' ∧ Below B w w' := by
  obtain ⟨p, v, hr⟩ := h.at
  have c0 := hr.c0
  have c1 := hr.c1
  have hB := h.1
  have hblt := hr.lt
  have hsl := hsl_from s k (by omega)
  have hcons := drop_consW s k hk
  have hg := Q.dec_bad s[k] (s.data.toList.drop (k + 1)) h128 (by rw [← hcons]; exact hn)
  have hf := Q.full_nxt s[k] (s.data.toList.drop (k + 1)) h128 (by rw [← hcons]; exact hn)
  rw [← hcons] at hg hf
  have hle := (Q.nxt_le (s.data.toList.drop k)).1
  have hlen2 : (s.data.toList.drop k).length = s.size - k := by simp
  rw [hlen2] at hle hf
  have cd := decode_any (s.extract k s.size) w.drew hU
  rw [decodeGo_eq s k hk, hg] at cd
  have cb : Hid (∀ w : World, Utf8Tabs 0 1 w → 2 < w.heap.size → Calls Tryz.prog 197 #[.string s, .int .i64 k] w fun e w' => e = .returned (.int .i64 ((k + (Q.nxt (s.data.toList.drop k)).1 : Nat) : Int)) ∧ Below w.heap.size w w') :=
    fun w hU hz => broken_any s k _ w hU hz hs (by omega) hf.1 (by rcases hf.2 with h | h; · left; omega
                                                                   · right; exact h)
  clear hf hg hcons hlen2 hr
  generalize (Q.nxt (s.data.toList.drop k)).1 = n at *
  generalize s.extract k s.size = X at *
  have CD : Hid (Calls Tryz.prog 177 #[.string X] w.drew fun e w' => e = .returned (.tuple #[.int .i32 (65533 : Nat), .int .i64 (1 : Nat)]) ∧ Below w.heap.size w.drew w') := cd
  clear cd
  go_enter Tryz.func188, Tryz.ntmps188
  go_wp2
  go_region_held3 (fun w' => w'.cell? ⟨b, 0, none⟩ = some (.string s) ∧ w'.cell? ⟨b, 1, none⟩ = some (.int .i64 (k : Int))) (first | go_keep | exact ⟨by assumption, by assumption⟩) ((go_at_call 177; refine CD.out.mono ?_; rintro e w1 ⟨rfl, b1⟩; have d0 := (b1.cell (p := ⟨b, 0, none⟩) hblt).trans c0; have d1 := (b1.cell (p := ⟨b, 1, none⟩) hblt).trans c1))
  have b1' : Below w.heap.size w w1 := ((Below.refl _ w).drew).trans b1
  have R1 := h.below b1'
  have s1 := b1'.size
  have hU1 := utab_below hU b1' (by omega)
  obtain ⟨p1, v1, hr1⟩ := R1.at
  have f1 := hr1.fz 1
  have hblt1 := hr1.lt
  clear hr1 c0 c1 CD
  go_wp2_with fail
  go_region_with (go_at_call 197; refine (cb.out w1.drew hU1 (by show 2 < w1.heap.size; omega)).mono ?_; rintro e w2 ⟨rfl, b2⟩; have e0 := (b2.cell (p := ⟨b, 0, none⟩) hblt1).trans d0; have e1 := (b2.cell (p := ⟨b, 1, none⟩) hblt1).trans d1; have e2 := (b2.frozen (p := ⟨b, 1, none⟩) hblt1).trans f1)
  all_goals
    have b2' : Below w1.heap.size w1 w2 := ((Below.refl _ w1).drew).trans b2
    have R2 := R1.below b2'
    go_wp2
    go_ret
    exact ⟨rfl, R2.put1 (k + n) _ (by omega), (b1'.mono hBw).trans ((b2'.mono (by omega)).setCell (p := ⟨b, 1, none⟩) hB _)⟩
end Go.Proofs.YtihcggepeadklaaGreatDoor
