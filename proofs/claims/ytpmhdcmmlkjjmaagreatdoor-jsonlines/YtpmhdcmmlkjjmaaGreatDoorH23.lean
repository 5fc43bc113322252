/- joined: JrA JrB -/
import Derived.Test.YtpmhdcmmlkjjmaaGreatDoorH2
import Derived.Shelf.Small.Strs
import Derived.WalkLawsBesides
/- json's reader: giveUp, blanks, next, must, take. -/
set_option linter.unusedSimpArgs false
set_option linter.unusedVariables false
set_option maxRecDepth 100000
namespace Go.Proofs
open Go.Shelf Go.RowKit
def Tryz.lays137_ren : Go.Shelf.Ren := ⟨fun | 137 => 83 | 217 => 109 | 266 => 130 | n => n, fun | 3 => 3 | 5 => 5 | 9 => 9 | n => n, fun | n => n⟩
theorem Tryz.lays137 : Go.Proofs.Lays.n137 Tryz.prog Tryz.lays137_ren := {
  mixed := by kernel_rfl
  f137 := Tryz.func83.trans (congrArg some (by kernel_rfl))
  f217 := Tryz.func109.trans (congrArg some (by kernel_rfl))
  f266 := Tryz.func130.trans (congrArg some (by kernel_rfl))
  t3 := Tryz.underlying3
  a3 := Tryz.isAgg3
  z3 := Tryz.sizeOf3
  v3 := Tryz.zeroValue3
  t5 := Tryz.underlying5
  a5 := Tryz.isAgg5
  z5 := Tryz.sizeOf5
  v5 := Tryz.zeroValue5
  t9 := Tryz.underlying9
  a9 := Tryz.isAgg9
  z9 := Tryz.sizeOf9
  v9 := Tryz.zeroValue9 }
namespace YtpmhdcmmlkjjmaaGreatDoor
open Go.Lib
theorem ixb_any (p : ByteArray) (c : UInt8) (w : World) : Calls Tryz.prog 83 #[.string p, .int .u8 (c.toNat : Int)] w fun e w' => e = .returned (.int .i64 (indexByte p.data.toList c)) ∧ w' = w := by
  have h := Any.strings_IndexByte Tryz.lays137 p (c.toNat : Int) w
  rw [Int.toNat_natCast, show c.toNat.toUInt8 = c from UInt8.ofNat_toNat] at h
  exact h
/-- the reader's box: the text, the place, how deep, how many -/
def JR (g : Nat) (s : ByteArray) (k D n : Nat) (w : World) : Prop := w.heap[g]? = some (.cells #[.string s, .int .i64 (k : Int), .int .i64 (D : Int), .int .i64 (n : Int)] 79 (0, 0))
section
variable {g k D n : Nat} {s : ByteArray} {w : World}
theorem JR.lt (h : JR g s k D n w) : g < w.heap.size := by
  rcases Nat.lt_or_ge g w.heap.size with h' | h'
  · exact h'
  · unfold JR at h; rw [Array.getElem?_eq_none h'] at h; cases h
theorem JR.c0 (h : JR g s k D n w) : w.cell? ⟨g, 0, none⟩ = some (.string s) := by rw [cell_of_block h]; rfl
theorem JR.c1 (h : JR g s k D n w) : w.cell? ⟨g, 1, none⟩ = some (.int .i64 (k : Int)) := by rw [cell_of_block h]; rfl
theorem JR.c2 (h : JR g s k D n w) : w.cell? ⟨g, 2, none⟩ = some (.int .i64 (D : Int)) := by rw [cell_of_block h]; rfl
theorem JR.c3 (h : JR g s k D n w) : w.cell? ⟨g, 3, none⟩ = some (.int .i64 (n : Int)) := by rw [cell_of_block h]; rfl
theorem JR.fz (h : JR g s k D n w) (o : Nat) : w.frozen? ⟨g, o, none⟩ = false := frozen_of_block h o
theorem JR.put (h : JR g s k D n w) (m : Nat) (z : Int) (hz : z = m) : JR g s m D n (w.setCell ⟨g, 1, none⟩ (.int .i64 z)) := by
  subst hz
  unfold JR at *
  rw [set_block h]
  rfl
theorem JR.putN (h : JR g s k D n w) (m : Nat) (z : Int) (hz : z = m) : JR g s k D m (w.setCell ⟨g, 3, none⟩ (.int .i64 z)) := by
  subst hz
  unfold JR at *
  rw [set_block h]
  rfl
theorem JR.drewN (h : JR g s k D n w) (q : Nat) : JR g s k D n (w.drewN q) := by
  induction q with
  | zero => exact h
  | succ q ih => exact ih
theorem JR.keep {w' : World} (h : JR g s k D n w) (hb : Below w.heap.size w w') : JR g s k D n w' := (hb.block g h.lt).trans h
end
theorem grown_drewN {a w : World} {row : Option Nat} (h : a.grownBy w row) : ∀ q, a.grownBy (w.drewN q) row
  | 0 => h
  | q + 1 => (fun (k : a.grownBy (w.drewN q) row) => (⟨k.os, k.tape, k.output, k.size, k.block⟩ : a.grownBy (w.drewN q).drew row)) (grown_drewN h q)
theorem grown_belowS {w w' : World} (h : Below w.heap.size w w') (g : Nat) : w.grownBy w' (some g) := ⟨h.os, h.tape, h.output, h.size, fun k hk _ => h.block k hk⟩
/-- the ending with which the reader gives up -/
def flt (f : Flt) : Ending := .panicked [{ v := .iface 77 (.agg #[.int .i64 (f.1 : Int), .int .i64 (f.2 : Int)]), recovered := false }]
set_option maxHeartbeats 2000000 in
theorem giveup_any (p : Value) (k e : Nat) (w : World) : Calls Tryz.prog 64 #[p, .int .i64 (k : Int), .int .i64 (e : Int)] w fun en w' => en = flt (k, e) ∧ w' = w := by
  go_enter Tryz.func64, Tryz.ntmps64
  go_wp2
  exact ⟨rfl, rfl, rfl⟩
set_option maxHeartbeats 4000000 in
theorem jblanks_any (g : Nat) (s : ByteArray) (k D n : Nat) (w : World) (h : JR g s k D n w) (hs : s.size ≤ 281474976710656) (hk : k ≤ s.size) :
    Calls Tryz.prog 62 #[.pointer (some ⟨g, 0, none⟩)] w fun e w' => e = .returned (.tuple #[]) ∧ JR g s (blk s.data.toList k) D n w' ∧ w.grownBy w' (some g) := by
  have hll : s.data.toList.length = s.size := by simp
  go_enter Tryz.func62, Tryz.ntmps62
  go_wp2
  go_loopg [] (s.size + 1) (fun gk wr => ∃ m : Nat, k ≤ m ∧ m ≤ s.size ∧ s.size - m < gk ∧ JR g s m D n wr ∧ w.grownBy wr (some g) ∧ Hid (blk s.data.toList k = blk s.data.toList m))
  case atStart => exact ⟨k, Nat.le_refl _, hk, by omega, h, World.grownBy.refl _ _, hmk rfl⟩
  case round =>
    obtain ⟨m, hkm, hm, hg, R, gr, HB⟩ := hrel
    have c0 := R.c0
    have c1 := R.c1
    have f1 := R.fz 1
    have HR := hmk R
    clear R h
    by_cases hlt : m < s.size
    · have y1 : (m : Int) < s.size := by omega
      obtain ⟨I, CB, hb⟩ : ∃ I : Int, (∀ W, Calls Tryz.prog 83 #[.string ⟨#[32, 9, 10, 13]⟩, .int .u8 (s[m].toNat : Int)] W fun e w' => e = .returned (.int .i64 I) ∧ w' = W) ∧ Hid (decide (0 ≤ I) = isBl s[m]) :=
        ⟨_, fun W => ixb_any ⟨#[32, 9, 10, 13]⟩ s[m] W, ixb_bl s[m]⟩
      by_cases hI : 0 ≤ I
      · go_wp2
        go_quiet ((go_at_call 83; exact Calls.quiet_of_same (CB _)))
        go_wp2
        go_roundg (s.size - (m + 1) + 1)
        case measure => omega
        case rel =>
          have hb' := hb.out
          rw [decide_eq_true hI] at hb'
          refine ⟨m + 1, by omega, by omega, by omega, (HR.out.drewN nq).put (m + 1) _ (by omega), grown_set (grown_drewN gr nq) _ _, ?_⟩
          show blk s.data.toList k = _
          rw [HB.out]
          exact blk_go (by rw [hll]; exact hlt) hb'.symm
      · go_wp2
        go_quiet ((go_at_call 83; exact Calls.quiet_of_same (CB _)))
        go_wp2
        go_end0
        have hb' := hb.out
        rw [decide_eq_false (show ¬ 0 ≤ I by omega)] at hb'
        refine ⟨rfl, ?_, grown_drewN gr nq⟩
        rw [HB.out, blk_stop (by rw [hll]; exact hlt) hb'.symm]
        exact HR.out.drewN nq
    · have y1 : ¬ (m : Int) < s.size := by omega
      go_wp2
      go_quiet ((go_at_call 83; fail))
      go_wp2
      go_end0
      refine ⟨rfl, ?_, grown_drewN gr nq⟩
      rw [HB.out, blk_end (by rw [hll]; omega)]
      exact HR.out.drewN nq
/-- what a method of the reader does: it answers, or gives up -/
def JP {α : Type} (R : Except Flt α) (A : α → Ending → World → Prop) (g : Nat) (w : World) (e : Ending) (w' : World) : Prop :=
  match R with
  | .ok x => A x e w' ∧ w.grownBy w' (some g)
  | .error f => e = flt f ∧ w.grownBy w' (some g)
theorem drewN_two (w : World) (a : Nat) : ∀ b, ∃ q, (w.drewN a).drewN b = w.drewN q
  | 0 => ⟨a, rfl⟩
  | b + 1 => by
    obtain ⟨q, h⟩ := drewN_two w a b
    exact ⟨q + 1, congrArg World.drew h⟩
set_option maxHeartbeats 4000000 in
theorem jnext_yes (g : Nat) (s : ByteArray) (k D n : Nat) (w : World) (h : JR g s k D n w) (hs : s.size ≤ 281474976710656) (hk : k < s.size) :
    Calls Tryz.prog 84 #[.pointer (some ⟨g, 0, none⟩)] w fun e w' => e = .returned (.int .u8 (s[k].toNat : Int)) ∧ ∃ q, w' = w.drewN q := by
  have c0 := h.c0
  have c1 := h.c1
  have y1 : (k : Int) < s.size := by omega
  have y2 : ((k : Int) == (s.size : Int)) = false := by simp; omega
  clear h
  go_enter Tryz.func84, Tryz.ntmps84
  go_wp2
  go_quiet (fail)
  go_wp2
  go_quiet (fail)
  go_wp2
  go_ret
  exact ⟨rfl, drewN_two _ _ _⟩
set_option maxHeartbeats 4000000 in
theorem jnext_end (g : Nat) (s : ByteArray) (D n : Nat) (w : World) (h : JR g s s.size D n w) (hs : s.size ≤ 281474976710656) :
    Calls Tryz.prog 84 #[.pointer (some ⟨g, 0, none⟩)] w fun e w' => e = flt (s.size, 31) ∧ w.grownBy w' (some g) := by
  have c0 := h.c0
  have c1 := h.c1
  clear h
  go_enter Tryz.func84, Tryz.ntmps84
  go_wp2
  go_quiet (fail)
  go_wp2_with (go_at_call 64; refine (giveup_any _ s.size 31 _).mono ?_; rintro e w' ⟨he, rfl⟩; unfold flt at he; subst he)
  exact ⟨rfl, rfl, grown_drewN (World.grownBy.refl _ _) nq⟩
set_option maxHeartbeats 4000000 in
theorem jtake_any (g : Nat) (s : ByteArray) (k D n : Nat) (c : UInt8) (w : World) (h : JR g s k D n w) (hs : s.size ≤ 281474976710656) (hk : k ≤ s.size) :
    Calls Tryz.prog 132 #[.pointer (some ⟨g, 0, none⟩), .int .u8 (c.toNat : Int)] w fun e w' => e = .returned (.bool (tkJ s.data.toList k c)) ∧ JR g s (if tkJ s.data.toList k c = true then k + 1 else k) D n w' ∧ w.grownBy w' (some g) := by
  have hll : s.data.toList.length = s.size := by simp
  have c0 := h.c0
  have c1 := h.c1
  have f1 := h.fz 1
  have HR := hmk h
  clear h
  by_cases hlt : k < s.size
  · have y1 : (k : Int) < s.size := by omega
    have y2 : ((k : Int) == (s.size : Int)) = false := by simp; omega
    have ht : tkJ s.data.toList k c = (s[k] == c) := by
      rw [tkJ, List.getElem?_eq_getElem (by rw [hll]; exact hlt)]
      rfl
    rw [ht]
    by_cases e : s[k] = c
    · have y3 : ((s[k].toNat : Int) != (c.toNat : Int)) = false := by rw [e]; simp
      have y4 : (s[k] == c) = true := by simp [e]
      rw [y4]
      clear ht
      go_enter Tryz.func132, Tryz.ntmps132
      go_wp2
      go_quiet (fail)
      go_wp2
      go_ret
      exact ⟨rfl, (HR.out.drewN nq).put (k + 1) _ (by omega), grown_set (grown_drewN (World.grownBy.refl _ _) nq) _ _⟩
    · have y3 : ((s[k].toNat : Int) != (c.toNat : Int)) = true := by
        rw [bne_iff_ne]
        intro q
        exact e (UInt8.toNat_inj.1 (by omega))
      have y4 : (s[k] == c) = false := by simp [e]
      rw [y4]
      clear ht
      go_enter Tryz.func132, Tryz.ntmps132
      go_wp2
      go_quiet (fail)
      go_wp2
      go_ret
      exact ⟨rfl, HR.out.drewN nq, grown_drewN (World.grownBy.refl _ _) nq⟩
  · obtain rfl : k = s.size := by omega
    have ht : tkJ s.data.toList s.size c = false := by
      rw [tkJ, List.getElem?_eq_none (by rw [hll]; omega)]
      rfl
    rw [ht]
    have y2 : ((s.size : Int) == (s.size : Int)) = true := by simp
    go_enter Tryz.func132, Tryz.ntmps132
    go_wp2
    go_quiet (fail)
    go_wp2
    go_ret
    exact ⟨rfl, HR.out.drewN nq, grown_drewN (World.grownBy.refl _ _) nq⟩
theorem drewN_grown (w : World) (q : Nat) (g : Nat) : w.grownBy (w.drewN q) (some g) := grown_drewN (World.grownBy.refl _ _) q
set_option maxHeartbeats 4000000 in
theorem jmust_any (g : Nat) (s : ByteArray) (k D n : Nat) (c : UInt8) (w : World) (h : JR g s k D n w) (hs : s.size ≤ 281474976710656) (hk : k ≤ s.size) :
    Calls Tryz.prog 111 #[.pointer (some ⟨g, 0, none⟩), .int .u8 (c.toNat : Int)] w (JP (mustJ s.data.toList k c) (fun k' e w' => e = .returned (.tuple #[]) ∧ JR g s k' D n w') g w) := by
  have hll : s.data.toList.length = s.size := by simp
  by_cases hlt : k < s.size
  · have CN := jnext_yes g s k D n w h hs hlt
    by_cases e : s[k] = c
    · rw [mustJ_yes (by rw [hll]; exact hlt) e]
      have y3 : ((s[k].toNat : Int) != (c.toNat : Int)) = false := by rw [e]; simp
      go_enter Tryz.func111, Tryz.ntmps111
      go_wp2_with (go_at_call 84; refine CN.mono ?_; rintro e w' ⟨rfl, q, rfl⟩; have R := h.drewN q; have c1 := R.c1; have f1 := R.fz 1; have HR := hmk R; clear R)
      go_end0
      exact ⟨⟨rfl, HR.out.put (k + 1) _ (by omega)⟩, grown_set (drewN_grown _ _ _) _ _⟩
    · rw [mustJ_no (by rw [hll]; exact hlt) e]
      have y3 : ((s[k].toNat : Int) != (c.toNat : Int)) = true := by
        rw [bne_iff_ne]
        intro q
        exact e (UInt8.toNat_inj.1 (by omega))
      go_enter Tryz.func111, Tryz.ntmps111
      go_wp2_with (go_at_call 84; refine CN.mono ?_; rintro e w' ⟨rfl, q, rfl⟩; have R := h.drewN q; have c1 := R.c1; clear R)
      go_wp2_with (go_at_call 64; refine (giveup_any _ k 32 _).mono ?_; rintro e w' ⟨he, rfl⟩; unfold flt at he; subst he)
      exact ⟨rfl, rfl, drewN_grown _ _ _⟩
  · obtain rfl : k = s.size := by omega
    rw [mustJ_end (by rw [hll]; omega)]
    have CN := jnext_end g s D n w h hs
    go_enter Tryz.func111, Tryz.ntmps111
    go_wp2_with (go_at_call 84; refine CN.mono ?_; rintro e w' ⟨he, gr⟩; unfold flt at he; subst he)
    exact ⟨rfl, rfl, gr⟩
end YtpmhdcmmlkjjmaaGreatDoor
end Go.Proofs
/- json's reader: a word, a number's byte, entering. -/
set_option maxRecDepth 100000
namespace Go.Proofs.YtpmhdcmmlkjjmaaGreatDoor
open Go.RowKit Go.Lib
theorem drop_at (p : ByteArray) (i : Nat) (h : i < p.size) : p.data.toList.drop i = p[i] :: p.data.toList.drop (i + 1) := drop_consW p i h
theorem wordJ_go {l : List UInt8} {k k1 : Nat} {c : UInt8} {p : List UInt8} (h : mustJ l k c = .ok k1) : wordJ l k (c :: p) = wordJ l k1 p := by rw [wordJ, h]
theorem wordJ_no {l : List UInt8} {k : Nat} {f : Flt} {c : UInt8} {p : List UInt8} (h : mustJ l k c = .error f) : wordJ l k (c :: p) = .error f := by rw [wordJ, h]
set_option maxHeartbeats 4000000 in
theorem jword_any (g : Nat) (s p : ByteArray) (k D n : Nat) (w : World) (h : JR g s k D n w) (hs : s.size ≤ 281474976710656) (hk : k ≤ s.size) (hp : p.size ≤ 100) :
    Calls Tryz.prog 86 #[.pointer (some ⟨g, 0, none⟩), .string p] w (JP (wordJ s.data.toList k p.data.toList) (fun k' e w' => e = .returned (.tuple #[]) ∧ JR g s k' D n w') g w) := by
  have hll : s.data.toList.length = s.size := by simp
  have HLL := hmk hll
  have CM : Hid (∀ (W : World) (i : Nat) (c : UInt8), JR g s i D n W → i ≤ s.size → Calls Tryz.prog 111 #[.pointer (some ⟨g, 0, none⟩), .int .u8 (c.toNat : Int)] W (JP (mustJ s.data.toList i c) (fun k' e w' => e = .returned (.tuple #[]) ∧ JR g s k' D n w') g W)) := fun W i c hW hi => jmust_any g s i D n c W hW hs hi
  clear hll
  go_enter Tryz.func86, Tryz.ntmps86
  go_wp2
  go_loopw [7] (fun e7 wr => ∃ i : Nat, i ≤ p.size ∧ e7 = .int .i64 (i : Int) ∧ k + i ≤ s.size ∧ JR g s (k + i) D n wr ∧ w.grownBy wr (some g) ∧ Hid (wordJ s.data.toList k p.data.toList = wordJ s.data.toList (k + i) (p.data.toList.drop i))) (fun e7 _ => p.size - (RowKit.intOf e7).toNat)
  case atStart => exact ⟨0, Nat.zero_le _, rfl, hk, h, World.grownBy.refl _ _, hmk rfl⟩
  case round =>
    obtain ⟨i, hi, rfl, hki, R, gr, HW⟩ := hrel
    clear h
    by_cases hlt : i < p.size
    · have y1 : (i : Int) < p.size := by omega
      cases hm : mustJ s.data.toList (k + i) p[i] with
      | ok k1 =>
        obtain ⟨e1, hl1⟩ := mustJ_le hm
        rw [HLL.out] at hl1
        subst e1
        have HW3 : Hid (wordJ s.data.toList k p.data.toList = wordJ s.data.toList (k + i + 1) (p.data.toList.drop (i + 1))) := by show _ = _; rw [HW.out, drop_at p i hlt, wordJ_go hm]
        have C1 := CM.out wr (k + i) p[i] R hki
        rw [hm] at C1
        clear hm HW
        go_wp2_with (go_at_call 111; refine C1.mono ?_; rintro e w1 ⟨⟨rfl, R1⟩, g1⟩)
        go_round
        case measure => simp only [RowKit.intOf]; omega
        case rel => exact ⟨i + 1, by omega, by simp, by omega, R1, gr.trans g1, HW3⟩
      | error f =>
        have HW3 : Hid (wordJ s.data.toList k p.data.toList = .error f) := by show _ = _; rw [HW.out, drop_at p i hlt, wordJ_no hm]
        have C1 := CM.out wr (k + i) p[i] R hki
        rw [hm] at C1
        clear hm HW
        go_wp2_with (go_at_call 111; refine C1.mono ?_; rintro e w1 ⟨he, g1⟩; unfold flt at he; subst he)
        refine ⟨rfl, ?_⟩
        rw [HW3.out]
        exact ⟨rfl, gr.trans g1⟩
    · obtain rfl : i = p.size := by omega
      go_wp2
      go_end0
      have e : p.data.toList.drop p.size = [] := List.drop_eq_nil_of_le (by simp)
      rw [HW.out, e, wordJ]
      exact ⟨⟨rfl, R⟩, gr⟩
theorem ixb_num (c : UInt8) : decide (0 ≤ indexByte [45, 43, 46, 101, 69] c) = (c == 45 || c == 43 || c == 46 || c == 101 || c == 69) := by
  rw [Bool.eq_iff_iff, decide_eq_true_eq, ixb_mem]
  simp [or_assoc]
set_option maxHeartbeats 4000000 in
theorem innum_any (c : UInt8) (w : World) : Calls Tryz.prog 110 #[.int .u8 (c.toNat : Int)] w fun e w' => e = .returned (.bool (numC c)) ∧ w' = w := by
  obtain ⟨I, CB, hb⟩ : ∃ I : Int, (∀ W, Calls Tryz.prog 83 #[.string ⟨#[45, 43, 46, 101, 69]⟩, .int .u8 (c.toNat : Int)] W fun e w' => e = .returned (.int .i64 I) ∧ w' = W) ∧ Hid (decide (0 ≤ I) = (c == 45 || c == 43 || c == 46 || c == 101 || c == 69)) :=
    ⟨_, fun W => ixb_any ⟨#[45, 43, 46, 101, 69]⟩ c W, ixb_num c⟩
  have HN : Hid (numC c = (decide (48 ≤ c.toNat ∧ c.toNat ≤ 57) || decide (0 ≤ I))) := by show _ = _; rw [numC, hb.out]
  go_enter Tryz.func110, Tryz.ntmps110
  go_wp2_with (go_at_call 83; refine (CB _).mono ?_; rintro e w' ⟨rfl, rfl⟩)
  all_goals go_ret
  all_goals refine ⟨?_, rfl⟩
  all_goals show Ending.returned (Value.bool _) = Ending.returned (Value.bool _)
  all_goals refine congrArg (fun r => Ending.returned (Value.bool r)) ?_
  all_goals rw [HN.out]
  all_goals rw [Bool.eq_iff_iff]
  all_goals simp only [Bool.or_eq_true, decide_eq_true_eq, true_iff]
  all_goals omega
def begJ (c : UInt8) : Bool := c == 110 || c == 116 || c == 102 || c == 34 || c == 91 || c == 123
theorem ixb_beg (c : UInt8) : decide (0 ≤ indexByte [110, 116, 102, 34, 91, 123] c) = begJ c := by
  rw [Bool.eq_iff_iff, decide_eq_true_eq, ixb_mem]
  simp [begJ, or_assoc]
theorem entJ_byte {c : UInt8} {D n o k : Nat} (h : begJ c = false) (h2 : numC c = false) : entJ c D n o k = .error (k, 32) := by
  have h' : ¬ (c = 110 ∨ c = 116 ∨ c = 102 ∨ c = 34 ∨ c = 91 ∨ c = 123 ∨ numC c = true) := by
    rw [h2]
    simp only [begJ, Bool.or_eq_false_iff, beq_eq_false_iff_ne] at h
    simp [h]
  rw [entJ, if_pos h']
theorem entJ_in {c : UInt8} {D n o k : Nat} (h : begJ c = true ∨ numC c = true) : entJ c D n o k = if n = 65536 then .error (k, 22) else if D < o then .error (k, 21) else .ok (n + 1) := by
  have h' : ¬ ¬ (c = 110 ∨ c = 116 ∨ c = 102 ∨ c = 34 ∨ c = 91 ∨ c = 123 ∨ numC c = true) := by
    intro q
    apply q
    simp only [begJ, Bool.or_eq_true, beq_iff_eq] at h
    rcases h with (((((h | h) | h) | h) | h) | h) | h <;> simp [h]
  rw [entJ, if_neg h']
set_option maxHeartbeats 8000000 in
theorem jenter_any (g : Nat) (s : ByteArray) (k D n o : Nat) (c : UInt8) (w : World) (h : JR g s k D n w) (hn : n ≤ 65536) (ho : o ≤ 1000) (hD : D ≤ 1000) :
    Calls Tryz.prog 85 #[.pointer (some ⟨g, 0, none⟩), .int .u8 (c.toNat : Int), .int .i64 (o : Int)] w (JP (entJ c D n o k) (fun n' e w' => e = .returned (.tuple #[]) ∧ JR g s k D n' w') g w) := by
  obtain ⟨I, CB, hb⟩ : ∃ I : Int, (∀ W, Calls Tryz.prog 83 #[.string ⟨#[110, 116, 102, 34, 91, 123]⟩, .int .u8 (c.toNat : Int)] W fun e w' => e = .returned (.int .i64 I) ∧ w' = W) ∧ decide (0 ≤ I) = begJ c :=
    ⟨_, fun W => ixb_any ⟨#[110, 116, 102, 34, 91, 123]⟩ c W, ixb_beg c⟩
  have CN : ∀ W, Calls Tryz.prog 110 #[.int .u8 (c.toNat : Int)] W fun e w' => e = .returned (.bool (numC c)) ∧ w' = W := fun W => innum_any c W
  have c1 := h.c1
  have c2 := h.c2
  have c3 := h.c3
  have f3 := h.fz 3
  have HR := hmk h
  clear h
  have HB : Hid (begJ c = false → numC c = false → entJ c D n o k = .error (k, 32)) := entJ_byte
  have HI : Hid ((begJ c = true ∨ numC c = true) → entJ c D n o k = if n = 65536 then .error (k, 22) else if D < o then .error (k, 21) else .ok (n + 1)) := entJ_in
  generalize entJ c D n o k = R at *
  by_cases hbyte : begJ c = false ∧ numC c = false
  · have hR := HB.out hbyte.1 hbyte.2
    subst hR
    rw [hbyte.1] at hb
    have y1 : I < 0 := by have := of_decide_eq_false hb; omega
    have y2 := hbyte.2
    rw [y2] at CN
    clear hbyte hb HB HI y2
    go_enter Tryz.func85, Tryz.ntmps85
    go_wp2_with first
      | (go_at_call 83; refine (CB _).mono ?_; rintro e w' ⟨rfl, rfl⟩)
      | (go_at_call 110; refine (CN _).mono ?_; rintro e w' ⟨rfl, rfl⟩)
      | (go_at_call 64; refine (giveup_any _ k 32 _).mono ?_; rintro e w' ⟨he, rfl⟩; unfold flt at he; subst he)
    exact ⟨rfl, rfl, World.grownBy.refl _ _⟩
  · have hin : begJ c = true ∨ numC c = true := by
      cases h1 : begJ c
      · cases h2 : numC c
        · exact absurd ⟨h1, h2⟩ hbyte
        · exact .inr rfl
      · exact .inl rfl
    have hR := HI.out hin
    by_cases y1 : I < 0
    · have y2 : numC c = true := by
        rcases hin with q | q
        · rw [q] at hb; have := of_decide_eq_true hb; omega
        · exact q
      rw [y2] at CN
      clear hbyte hb HB HI hin y2
      by_cases h1 : n = 65536
      · rw [if_pos h1] at hR
        subst hR
        subst h1
        go_enter Tryz.func85, Tryz.ntmps85
        go_wp2_with first
          | (go_at_call 83; refine (CB _).mono ?_; rintro e w' ⟨rfl, rfl⟩)
          | (go_at_call 110; refine (CN _).mono ?_; rintro e w' ⟨rfl, rfl⟩)
          | (go_at_call 64; refine (giveup_any _ k 22 _).mono ?_; rintro e w' ⟨he, rfl⟩; unfold flt at he; subst he)
        exact ⟨rfl, rfl, World.grownBy.refl _ _⟩
      · rw [if_neg h1] at hR
        have z1 : ((n : Int) == 65536) = false := by simp; omega
        by_cases h2 : D < o
        · rw [if_pos h2] at hR
          subst hR
          have z2 : (D : Int) < o := by omega
          go_enter Tryz.func85, Tryz.ntmps85
          go_wp2_with first
            | (go_at_call 83; refine (CB _).mono ?_; rintro e w' ⟨rfl, rfl⟩)
            | (go_at_call 110; refine (CN _).mono ?_; rintro e w' ⟨rfl, rfl⟩)
            | (go_at_call 64; refine (giveup_any _ k 21 _).mono ?_; rintro e w' ⟨he, rfl⟩; unfold flt at he; subst he)
          exact ⟨rfl, rfl, World.grownBy.refl _ _⟩
        · rw [if_neg h2] at hR
          subst hR
          have z2 : ¬ (D : Int) < o := by omega
          go_enter Tryz.func85, Tryz.ntmps85
          go_wp2_with first
            | (go_at_call 83; refine (CB _).mono ?_; rintro e w' ⟨rfl, rfl⟩)
            | (go_at_call 110; refine (CN _).mono ?_; rintro e w' ⟨rfl, rfl⟩)
          go_end0
          exact ⟨⟨rfl, HR.out.putN (n + 1) _ (by omega)⟩, grown_set (World.grownBy.refl _ _) _ _⟩
    · clear hbyte hb HB HI hin
      by_cases h1 : n = 65536
      · rw [if_pos h1] at hR
        subst hR
        subst h1
        go_enter Tryz.func85, Tryz.ntmps85
        go_wp2_with first
          | (go_at_call 83; refine (CB _).mono ?_; rintro e w' ⟨rfl, rfl⟩)
          | (go_at_call 110; refine (CN _).mono ?_; rintro e w' ⟨rfl, rfl⟩)
          | (go_at_call 64; refine (giveup_any _ k 22 _).mono ?_; rintro e w' ⟨he, rfl⟩; unfold flt at he; subst he)
        exact ⟨rfl, rfl, World.grownBy.refl _ _⟩
      · rw [if_neg h1] at hR
        have z1 : ((n : Int) == 65536) = false := by simp; omega
        by_cases h2 : D < o
        · rw [if_pos h2] at hR
          subst hR
          have z2 : (D : Int) < o := by omega
          go_enter Tryz.func85, Tryz.ntmps85
          go_wp2_with first
            | (go_at_call 83; refine (CB _).mono ?_; rintro e w' ⟨rfl, rfl⟩)
            | (go_at_call 110; refine (CN _).mono ?_; rintro e w' ⟨rfl, rfl⟩)
            | (go_at_call 64; refine (giveup_any _ k 21 _).mono ?_; rintro e w' ⟨he, rfl⟩; unfold flt at he; subst he)
          exact ⟨rfl, rfl, World.grownBy.refl _ _⟩
        · rw [if_neg h2] at hR
          subst hR
          have z2 : ¬ (D : Int) < o := by omega
          go_enter Tryz.func85, Tryz.ntmps85
          go_wp2_with first
            | (go_at_call 83; refine (CB _).mono ?_; rintro e w' ⟨rfl, rfl⟩)
            | (go_at_call 110; refine (CN _).mono ?_; rintro e w' ⟨rfl, rfl⟩)
          go_end0
          exact ⟨⟨rfl, HR.out.putN (n + 1) _ (by omega)⟩, grown_set (World.grownBy.refl _ _) _ _⟩
end Go.Proofs.YtpmhdcmmlkjjmaaGreatDoor
