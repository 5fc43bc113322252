import Derived.Test.YtpmhdcmmlkjjmaaGreatDoorG14
import Derived.Shelf.Small.Strs
import Derived.WalkLawsBesides
/- json's reader: giveUp, blanks, next, must, take. -/
set_option linter.unusedSimpArgs false
set_option linter.unusedVariables false
set_option maxRecDepth 100000
namespace Go.Proofs
open Go.Shelf Go.RowKit
def Tryz.lays137_ren : Go.Shelf.Ren := ⟨fun | 137 => 83 | 217 => 109 | 266 => 130 | n => n, fun | 3 => 3 | 5 => 5 | 9 => 9 | n => n, fun | n => n⟩
theorem Tryz.lays137 : Go.Proofs.Lays.n137 Tryz.prog Tryz.lays137_ren := {
  mixed := by kernel_rfl
  f137 := Tryz.func83.trans (congrArg some (by kernel_rfl))
  f217 := Tryz.func109.trans (congrArg some (by kernel_rfl))
  f266 := Tryz.func130.trans (congrArg some (by kernel_rfl))
  t3 := Tryz.underlying3
  a3 := Tryz.isAgg3
  z3 := Tryz.sizeOf3
  v3 := Tryz.zeroValue3
  t5 := Tryz.underlying5
  a5 := Tryz.isAgg5
  z5 := Tryz.sizeOf5
  v5 := Tryz.zeroValue5
  t9 := Tryz.underlying9
  a9 := Tryz.isAgg9
  z9 := Tryz.sizeOf9
  v9 := Tryz.zeroValue9 }
namespace YtpmhdcmmlkjjmaaGreatDoor
open Go.Lib
theorem ixb_any (p : ByteArray) (c : UInt8) (w : World) : Calls Tryz.prog 83 #[.string p, .int .u8 (c.toNat : Int)] w fun e w' => e = .returned (.int .i64 (indexByte p.data.toList c)) ∧ w' = w := by
  have h := Any.strings_IndexByte Tryz.lays137 p (c.toNat : Int) w
  rw [Int.toNat_natCast, show c.toNat.toUInt8 = c from UInt8.ofNat_toNat] at h
  exact h
/-- the reader's box: the text, the place, how deep, how many -/
def JR (g : Nat) (s : ByteArray) (k D n : Nat) (w : World) : Prop := w.heap[g]? = some (.cells #[.string s, .int .i64 (k : Int), .int .i64 (D : Int), .int .i64 (n : Int)] 79 (0, 0))
section
variable {g k D n : Nat} {s : ByteArray} {w : World}
theorem JR.lt (h : JR g s k D n w) : g < w.heap.size := by
  rcases Nat.lt_or_ge g w.heap.size with h' | h'
  · exact h'
  · unfold JR at h; rw [Array.getElem?_eq_none h'] at h; cases h
theorem JR.c0 (h : JR g s k D n w) : w.cell? ⟨g, 0, none⟩ = some (.string s) := by rw [cell_of_block h]; rfl
theorem JR.c1 (h : JR g s k D n w) : w.cell? ⟨g, 1, none⟩ = some (.int .i64 (k : Int)) := by rw [cell_of_block h]; rfl
theorem JR.c2 (h : JR g s k D n w) : w.cell? ⟨g, 2, none⟩ = some (.int .i64 (D : Int)) := by rw [cell_of_block h]; rfl
theorem JR.c3 (h : JR g s k D n w) : w.cell? ⟨g, 3, none⟩ = some (.int .i64 (n : Int)) := by rw [cell_of_block h]; rfl
theorem JR.fz (h : JR g s k D n w) (o : Nat) : w.frozen? ⟨g, o, none⟩ = false := frozen_of_block h o
theorem JR.put (h : JR g s k D n w) (m : Nat) (z : Int) (hz : z = m) : JR g s m D n (w.setCell ⟨g, 1, none⟩ (.int .i64 z)) := by
  subst hz
  unfold JR at *
  rw [set_block h]
  rfl
theorem JR.putN (h : JR g s k D n w) (m : Nat) (z : Int) (hz : z = m) : JR g s k D m (w.setCell ⟨g, 3, none⟩ (.int .i64 z)) := by
  subst hz
  unfold JR at *
  rw [set_block h]
  rfl
theorem JR.drewN (h : JR g s k D n w) (q : Nat) : JR g s k D n (w.drewN q) := by
  induction q with
  | zero => exact h
  | succ q ih => exact ih
theorem JR.keep {w' : World} (h : JR g s k D n w) (hb : Below w.heap.size w w') : JR g s k D n w' := (hb.block g h.lt).trans h
end
theorem grown_drewN {a w : World} {row : Option Nat} (h : a.grownBy w row) : ∀ q, a.grownBy (w.drewN q) row
  | 0 => h
  | q + 1 => (fun (k : a.grownBy (w.drewN q) row) => (⟨k.os, k.tape, k.output, k.size, k.block⟩ : a.grownBy (w.drewN q).drew row)) (grown_drewN h q)
theorem grown_belowS {w w' : World} (h : Below w.heap.size w w') (g : Nat) : w.grownBy w' (some g) := ⟨h.os, h.tape, h.output, h.size, fun k hk _ => h.block k hk⟩
/-- the ending with which the reader gives up -/
def flt (f : Flt) : Ending := .panicked [{ v := .iface 77 (.agg #[.int .i64 (f.1 : Int), .int .i64 (f.2 : Int)]), recovered := false }]
set_option maxHeartbeats 2000000 in
theorem giveup_any (p : Value) (k e : Nat) (w : World) : Calls Tryz.prog 64 #[p, .int .i64 (k : Int), .int .i64 (e : Int)] w fun en w' => en = flt (k, e) ∧ w' = w := by
  go_enter Tryz.func64, Tryz.ntmps64
  go_wp2
  exact ⟨rfl, rfl, rfl⟩
set_option maxHeartbeats 4000000 in
theorem jblanks_any (g : Nat) (s : ByteArray) (k D n : Nat) (w : World) (h : JR g s k D n w) (hs : s.size ≤ 281474976710656) (hk : k ≤ s.size) :
    Calls Tryz.prog 62 #[.pointer (some ⟨g, 0, none⟩)] w fun e w' => e = .returned (.tuple #[]) ∧ JR g s (blk s.data.toList k) D n w' ∧ w.grownBy w' (some g) := by
  have hll : s.data.toList.length = s.size := by simp
  go_enter Tryz.func62, Tryz.ntmps62
  go_wp2
  go_loopg [] (s.size + 1) (fun gk wr => ∃ m : Nat, k ≤ m ∧ m ≤ s.size ∧ s.size - m < gk ∧ JR g s m D n wr ∧ w.grownBy wr (some g) ∧ Hid (blk s.data.toList k = blk s.data.toList m))
  case atStart => exact ⟨k, Nat.le_refl _, hk, by omega, h, World.grownBy.refl _ _, hmk rfl⟩
  case round =>
    obtain ⟨m, hkm, hm, hg, R, gr, HB⟩ := hrel
    have c0 := R.c0
    have c1 := R.c1
    have f1 := R.fz 1
    have HR := hmk R
    clear R h
    by_cases hlt : m < s.size
    · have y1 : (m : Int) < s.size := by omega
      obtain ⟨I, CB, hb⟩ : ∃ I : Int, (∀ W, Calls Tryz.prog 83 #[.string ⟨#[32, 9, 10, 13]⟩, .int .u8 (s[m].toNat : Int)] W fun e w' => e = .returned (.int .i64 I) ∧ w' = W) ∧ Hid (decide (0 ≤ I) = isBl s[m]) :=
        ⟨_, fun W => ixb_any ⟨#[32, 9, 10, 13]⟩ s[m] W, ixb_bl s[m]⟩
      by_cases hI : 0 ≤ I
      · go_wp2
        go_quiet ((go_at_call 83; exact Calls.quiet_of_same (CB _)))
        go_wp2
        go_roundg (s.size - (m + 1) + 1)
        case measure => omega
        case rel =>
          have hb' := hb.out
          rw [decide_eq_true hI] at hb'
          refine ⟨m + 1, by omega, by omega, by omega, (HR.out.drewN nq).put (m + 1) _ (by omega), grown_set (grown_drewN gr nq) _ _, ?_⟩
          show blk s.data.toList k = _
          rw [HB.out]
          exact blk_go (by rw [hll]; exact hlt) hb'.symm
      · go_wp2
        go_quiet ((go_at_call 83; exact Calls.quiet_of_same (CB _)))
        go_wp2
        go_end0
        have hb' := hb.out
        rw [decide_eq_false (show ¬ 0 ≤ I by omega)] at hb'
        refine ⟨rfl, ?_, grown_drewN gr nq⟩
        rw [HB.out, blk_stop (by rw [hll]; exact hlt) hb'.symm]
        exact HR.out.drewN nq
    · have y1 : ¬ (m : Int) < s.size := by omega
      go_wp2
      go_quiet ((go_at_call 83; fail))
      go_wp2
      go_end0
      refine ⟨rfl, ?_, grown_drewN gr nq⟩
      rw [HB.out, blk_end (by rw [hll]; omega)]
      exact HR.out.drewN nq
/-- what a method of the reader does: it answers, or gives up -/
def JP {α : Type} (R : Except Flt α) (A : α → Ending → World → Prop) (g : Nat) (w : World) (e : Ending) (w' : World) : Prop :=
  match R with
  | .ok x => A x e w' ∧ w.grownBy w' (some g)
  | .error f => e = flt f ∧ w.grownBy w' (some g)
theorem drewN_two (w : World) (a : Nat) : ∀ b, ∃ q, (w.drewN a).drewN b = w.drewN q
  | 0 => ⟨a, rfl⟩
  | b + 1 => by
    obtain ⟨q, h⟩ := drewN_two w a b
    exact ⟨q + 1, congrArg World.drew h⟩
set_option maxHeartbeats 4000000 in
theorem jnext_yes (g : Nat) (s : ByteArray) (k D n : Nat) (w : World) (h : JR g s k D n w) (hs : s.size ≤ 281474976710656) (hk : k < s.size) :
    Calls Tryz.prog 84 #[.pointer (some ⟨g, 0, none⟩)] w fun e w' => e = .returned (.int .u8 (s[k].toNat : Int)) ∧ ∃ q, w' = w.drewN q := by
  have c0 := h.c0
  have c1 := h.c1
  have y1 : (k : Int) < s.size := by omega
  have y2 : ((k : Int) == (s.size : Int)) = false := by simp; omega
  clear h
  go_enter Tryz.func84, Tryz.ntmps84
  go_wp2
  go_quiet (fail)
  go_wp2
  go_quiet (fail)
  go_wp2
  go_ret
  exact ⟨rfl, drewN_two _ _ _⟩
set_option maxHeartbeats 4000000 in
theorem jnext_end (g : Nat) (s : ByteArray) (D n : Nat) (w : World) (h : JR g s s.size D n w) (hs : s.size ≤ 281474976710656) :
    Calls Tryz.prog 84 #[.pointer (some ⟨g, 0, none⟩)] w fun e w' => e = flt (s.size, 31) ∧ w.grownBy w' (some g) := by
  have c0 := h.c0
  have c1 := h.c1
  clear h
  go_enter Tryz.func84, Tryz.ntmps84
  go_wp2
  go_quiet (fail)
  go_wp2_with (go_at_call 64; refine (giveup_any _ s.size 31 _).mono ?_; rintro e w' ⟨he, rfl⟩; unfold flt at he; subst he)
  exact ⟨rfl, rfl, grown_drewN (World.grownBy.refl _ _) nq⟩
set_option maxHeartbeats 4000000 in
theorem jtake_any (g : Nat) (s : ByteArray) (k D n : Nat) (c : UInt8) (w : World) (h : JR g s k D n w) (hs : s.size ≤ 281474976710656) (hk : k ≤ s.size) :
    Calls Tryz.prog 132 #[.pointer (some ⟨g, 0, none⟩), .int .u8 (c.toNat : Int)] w fun e w' => e = .returned (.bool (tkJ s.data.toList k c)) ∧ JR g s (if tkJ s.data.toList k c = true then k + 1 else k) D n w' ∧ w.grownBy w' (some g) := by
  have hll : s.data.toList.length = s.size := by simp
  have c0 := h.c0
  have c1 := h.c1
  have f1 := h.fz 1
  have HR := hmk h
  clear h
  by_cases hlt : k < s.size
  · have y1 : (k : Int) < s.size := by omega
    have y2 : ((k : Int) == (s.size : Int)) = false := by simp; omega
    have ht : tkJ s.data.toList k c = (s[k] == c) := by
      rw [tkJ, List.getElem?_eq_getElem (by rw [hll]; exact hlt)]
      rfl
    rw [ht]
    by_cases e : s[k] = c
    · have y3 : ((s[k].toNat : Int) != (c.toNat : Int)) = false := by rw [e]; simp
      have y4 : (s[k] == c) = true := by simp [e]
      rw [y4]
      clear ht
      go_enter Tryz.func132, Tryz.ntmps132
      go_wp2
      go_quiet (fail)
      go_wp2
      go_ret
      exact ⟨rfl, (HR.out.drewN nq).put (k + 1) _ (by omega), grown_set (grown_drewN (World.grownBy.refl _ _) nq) _ _⟩
    · have y3 : ((s[k].toNat : Int) != (c.toNat : Int)) = true := by
        rw [bne_iff_ne]
        intro q
        exact e (UInt8.toNat_inj.1 (by omega))
      have y4 : (s[k] == c) = false := by simp [e]
      rw [y4]
      clear ht
      go_enter Tryz.func132, Tryz.ntmps132
      go_wp2
      go_quiet (fail)
      go_wp2
      go_ret
      exact ⟨rfl, HR.out.drewN nq, grown_drewN (World.grownBy.refl _ _) nq⟩
  · obtain rfl : k = s.size := by omega
    have ht : tkJ s.data.toList s.size c = false := by
      rw [tkJ, List.getElem?_eq_none (by rw [hll]; omega)]
      rfl
    rw [ht]
    have y2 : ((s.size : Int) == (s.size : Int)) = true := by simp
    go_enter Tryz.func132, Tryz.ntmps132
    go_wp2
    go_quiet (fail)
    go_wp2
    go_ret
    exact ⟨rfl, HR.out.drewN nq, grown_drewN (World.grownBy.refl _ _) nq⟩
theorem drewN_grown (w : World) (q : Nat) (g : Nat) : w.grownBy (w.drewN q) (some g) := grown_drewN (World.grownBy.refl _ _) q
set_option maxHeartbeats 4000000 in
theorem jmust_any (g : Nat) (s : ByteArray) (k D n : Nat) (c : UInt8) (w : World) (h : JR g s k D n w) (hs : s.size ≤ 281474976710656) (hk : k ≤ s.size) :
    Calls Tryz.prog 111 #[.pointer (some ⟨g, 0, none⟩), .int .u8 (c.toNat : Int)] w (JP (mustJ s.data.toList k c) (fun k' e w' => e = .returned (.tuple #[]) ∧ JR g s k' D n w') g w) := by
  have hll : s.data.toList.length = s.size := by simp
  by_cases hlt : k < s.size
  · have CN := jnext_yes g s k D n w h hs hlt
    by_cases e : s[k] = c
    · rw [mustJ_yes (by rw [hll]; exact hlt) e]
      have y3 : ((s[k].toNat : Int) != (c.toNat : Int)) = false := by rw [e]; simp
      go_enter Tryz.func111, Tryz.ntmps111
      go_wp2_with (go_at_call 84; refine CN.mono ?_; rintro e w' ⟨rfl, q, rfl⟩; have R := h.drewN q; have c1 := R.c1; have f1 := R.fz 1; have HR := hmk R; clear R)
      go_end0
      exact ⟨⟨rfl, HR.out.put (k + 1) _ (by omega)⟩, grown_set (drewN_grown _ _ _) _ _⟩
    · rw [mustJ_no (by rw [hll]; exact hlt) e]
      have y3 : ((s[k].toNat : Int) != (c.toNat : Int)) = true := by
        rw [bne_iff_ne]
        intro q
        exact e (UInt8.toNat_inj.1 (by omega))
      go_enter Tryz.func111, Tryz.ntmps111
      go_wp2_with (go_at_call 84; refine CN.mono ?_; rintro e w' ⟨rfl, q, rfl⟩; have R := h.drewN q; have c1 := R.c1; clear R)
      go_wp2_with (go_at_call 64; refine (giveup_any _ k 32 _).mono ?_; rintro e w' ⟨he, rfl⟩; unfold flt at he; subst he)
      exact ⟨rfl, rfl, drewN_grown _ _ _⟩
  · obtain rfl : k = s.size := by omega
    rw [mustJ_end (by rw [hll]; omega)]
    have CN := jnext_end g s D n w h hs
    go_enter Tryz.func111, Tryz.ntmps111
    go_wp2_with (go_at_call 84; refine CN.mono ?_; rintro e w' ⟨he, gr⟩; unfold flt at he; subst he)
    exact ⟨rfl, rfl, gr⟩
end YtpmhdcmmlkjjmaaGreatDoor
end Go.Proofs
