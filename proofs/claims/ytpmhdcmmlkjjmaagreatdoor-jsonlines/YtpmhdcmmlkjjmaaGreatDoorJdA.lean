import Derived.Test.YtpmhdcmmlkjjmaaGreatDoorH10
/- the document's reader: its box, fail, blanks, next, numeric. -/
set_option linter.unusedSimpArgs false
set_option linter.unusedVariables false
set_option maxRecDepth 100000
namespace Go.Proofs.YtpmhdcmmlkjjmaaGreatDoor
open Go.RowKit Go.Lib
/-- the document's reader: the text, the place, how many began, how deep, the fault, its place -/
def JD (g : Nat) (s : ByteArray) (k n D e bd : Nat) (w : World) : Prop := w.heap[g]? = some (.cells #[.string s, .int .i64 (k : Int), .int .i64 (n : Int), .int .i64 (D : Int), .int .i64 (e : Int), .int .i64 (bd : Int)] 66 (0, 0))
section
variable {g k n D e bd : Nat} {s : ByteArray} {w : World}
theorem JD.lt (h : JD g s k n D e bd w) : g < w.heap.size := by
  rcases Nat.lt_or_ge g w.heap.size with h' | h'
  · exact h'
  · unfold JD at h; rw [Array.getElem?_eq_none h'] at h; cases h
theorem JD.c0 (h : JD g s k n D e bd w) : w.cell? ⟨g, 0, none⟩ = some (.string s) := by rw [cell_of_block h]; rfl
theorem JD.c1 (h : JD g s k n D e bd w) : w.cell? ⟨g, 1, none⟩ = some (.int .i64 (k : Int)) := by rw [cell_of_block h]; rfl
theorem JD.c2 (h : JD g s k n D e bd w) : w.cell? ⟨g, 2, none⟩ = some (.int .i64 (n : Int)) := by rw [cell_of_block h]; rfl
theorem JD.c3 (h : JD g s k n D e bd w) : w.cell? ⟨g, 3, none⟩ = some (.int .i64 (D : Int)) := by rw [cell_of_block h]; rfl
theorem JD.c4 (h : JD g s k n D e bd w) : w.cell? ⟨g, 4, none⟩ = some (.int .i64 (e : Int)) := by rw [cell_of_block h]; rfl
theorem JD.c5 (h : JD g s k n D e bd w) : w.cell? ⟨g, 5, none⟩ = some (.int .i64 (bd : Int)) := by rw [cell_of_block h]; rfl
theorem JD.fz (h : JD g s k n D e bd w) (o : Nat) : w.frozen? ⟨g, o, none⟩ = false := frozen_of_block h o
theorem JD.put (h : JD g s k n D e bd w) (m : Nat) (z : Int) (hz : z = m) : JD g s m n D e bd (w.setCell ⟨g, 1, none⟩ (.int .i64 z)) := by
  subst hz; unfold JD at *; rw [set_block h]; rfl
theorem JD.putN (h : JD g s k n D e bd w) (m : Nat) (z : Int) (hz : z = m) : JD g s k m D e bd (w.setCell ⟨g, 2, none⟩ (.int .i64 z)) := by
  subst hz; unfold JD at *; rw [set_block h]; rfl
theorem JD.putE (h : JD g s k n D e bd w) (m : Nat) (z : Int) (hz : z = m) : JD g s k n D m bd (w.setCell ⟨g, 4, none⟩ (.int .i64 z)) := by
  subst hz; unfold JD at *; rw [set_block h]; rfl
theorem JD.putB (h : JD g s k n D e bd w) (m : Nat) (z : Int) (hz : z = m) : JD g s k n D e m (w.setCell ⟨g, 5, none⟩ (.int .i64 z)) := by
  subst hz; unfold JD at *; rw [set_block h]; rfl
theorem JD.drewN (h : JD g s k n D e bd w) (q : Nat) : JD g s k n D e bd (w.drewN q) := drewN_block h q
theorem JD.keep {w' : World} (h : JD g s k n D e bd w) (hb : Below w.heap.size w w') : JD g s k n D e bd w' := (hb.block g h.lt).trans h
theorem JD.own {w' : World} {row : Option Nat} (h : JD g s k n D e bd w) (gr : w.grownBy w' row) (hr : row ≠ some g) : JD g s k n D e bd w' := (gr.block g h.lt (fun e => hr e.symm)).trans h
end
set_option maxHeartbeats 4000000 in
theorem dfail_any (g : Nat) (s : ByteArray) (k n D bd p er : Nat) (w : World) (h : JD g s k n D 0 bd w) :
    Calls Tryz.prog 36 #[.pointer (some ⟨g, 0, none⟩), .int .i64 (p : Int), .int .i64 (er : Int)] w fun e w' => e = .returned (.tuple #[]) ∧ JD g s k n D er p w' ∧ w.grownBy w' (some g) := by
  have c4 := h.c4
  have c5 := h.c5
  have f4 := h.fz 4
  have f5 := h.fz 5
  have HR := hmk h
  clear h
  go_enter Tryz.func36, Tryz.ntmps36
  go_wp2
  go_end0
  exact ⟨rfl, (HR.out.putE er _ rfl).putB p _ rfl, grown_set (grown_set (World.grownBy.refl _ _) _ _) _ _⟩
set_option maxHeartbeats 16000000 in
theorem dblanks_any (g : Nat) (s : ByteArray) (k n D e bd : Nat) (w : World) (h : JD g s k n D e bd w) (hs : s.size ≤ 281474976710656) (hk : k ≤ s.size) :
    Calls Tryz.prog 35 #[.pointer (some ⟨g, 0, none⟩)] w fun en w' => en = .returned (.tuple #[]) ∧ JD g s (blk s.data.toList k) n D e bd w' ∧ w.grownBy w' (some g) := by
  have hll : s.data.toList.length = s.size := by simp
  go_enter Tryz.func35, Tryz.ntmps35
  go_wp2
  go_loopg [] (s.size + 1) (fun gk wr => ∃ m : Nat, k ≤ m ∧ m ≤ s.size ∧ s.size - m < gk ∧ JD g s m n D e bd wr ∧ w.grownBy wr (some g) ∧ Hid (blk s.data.toList k = blk s.data.toList m))
  case atStart => exact ⟨k, Nat.le_refl _, hk, by omega, h, World.grownBy.refl _ _, hmk rfl⟩
  case round =>
    obtain ⟨m, hkm, hm, hg, R, gr, HB⟩ := hrel
    have c0 := R.c0
    have c1 := R.c1
    have f1 := R.fz 1
    have HR := hmk R
    clear R h
    by_cases hlt : m < s.size
    · have y1 : (m : Int) < s.size := by omega
      by_cases hc : s[m] = 32
      · have y32 : ((s[m].toNat : Int) == 32) = true := by rw [hc]; rfl
        go_wp2
        go_quiet (fail)
        go_wp2
        go_roundg (s.size - (m + 1) + 1)
        case measure => omega
        case rel =>
          refine ⟨m + 1, by omega, by omega, by omega, (HR.out.drewN nq).put (m + 1) _ (by omega), grown_set (grown_drewN gr nq) _ _, ?_⟩
          show blk s.data.toList k = _
          rw [HB.out]
          exact blk_go (by rw [hll]; exact hlt) (show isBl s[m] = true by rw [hc]; rfl)
      have h32 := hc
      clear hc
      have y32 : ((s[m].toNat : Int) == 32) = false := by rw [beq_eq_false_iff_ne]; intro q; exact h32 (UInt8.toNat_inj.1 (by show s[m].toNat = 32; omega))
      by_cases hc : s[m] = 9
      · have y9 : ((s[m].toNat : Int) == 9) = true := by rw [hc]; rfl
        go_wp2
        go_quiet (fail)
        go_wp2
        go_roundg (s.size - (m + 1) + 1)
        case measure => omega
        case rel =>
          refine ⟨m + 1, by omega, by omega, by omega, (HR.out.drewN nq).put (m + 1) _ (by omega), grown_set (grown_drewN gr nq) _ _, ?_⟩
          show blk s.data.toList k = _
          rw [HB.out]
          exact blk_go (by rw [hll]; exact hlt) (show isBl s[m] = true by rw [hc]; rfl)
      have h9 := hc
      clear hc
      have y9 : ((s[m].toNat : Int) == 9) = false := by rw [beq_eq_false_iff_ne]; intro q; exact h9 (UInt8.toNat_inj.1 (by show s[m].toNat = 9; omega))
      by_cases hc : s[m] = 10
      · have y10 : ((s[m].toNat : Int) == 10) = true := by rw [hc]; rfl
        go_wp2
        go_quiet (fail)
        go_wp2
        go_roundg (s.size - (m + 1) + 1)
        case measure => omega
        case rel =>
          refine ⟨m + 1, by omega, by omega, by omega, (HR.out.drewN nq).put (m + 1) _ (by omega), grown_set (grown_drewN gr nq) _ _, ?_⟩
          show blk s.data.toList k = _
          rw [HB.out]
          exact blk_go (by rw [hll]; exact hlt) (show isBl s[m] = true by rw [hc]; rfl)
      have h10 := hc
      clear hc
      have y10 : ((s[m].toNat : Int) == 10) = false := by rw [beq_eq_false_iff_ne]; intro q; exact h10 (UInt8.toNat_inj.1 (by show s[m].toNat = 10; omega))
      by_cases hc : s[m] = 13
      · have y13 : ((s[m].toNat : Int) == 13) = true := by rw [hc]; rfl
        go_wp2
        go_quiet (fail)
        go_wp2
        go_roundg (s.size - (m + 1) + 1)
        case measure => omega
        case rel =>
          refine ⟨m + 1, by omega, by omega, by omega, (HR.out.drewN nq).put (m + 1) _ (by omega), grown_set (grown_drewN gr nq) _ _, ?_⟩
          show blk s.data.toList k = _
          rw [HB.out]
          exact blk_go (by rw [hll]; exact hlt) (show isBl s[m] = true by rw [hc]; rfl)
      have h13 := hc
      clear hc
      have y13 : ((s[m].toNat : Int) == 13) = false := by rw [beq_eq_false_iff_ne]; intro q; exact h13 (UInt8.toNat_inj.1 (by show s[m].toNat = 13; omega))
      go_wp2
      go_quiet (fail)
      go_wp2
      go_end0
      refine ⟨rfl, ?_, grown_drewN gr nq⟩
      rw [HB.out, blk_stop (by rw [hll]; exact hlt) (show isBl s[m] = false by unfold isBl; simp [h32, h9, h10, h13])]
      exact HR.out.drewN nq
    · have y1 : ¬ (m : Int) < s.size := by omega
      go_wp2
      go_quiet (fail)
      go_wp2
      go_end0
      refine ⟨rfl, ?_, grown_drewN gr nq⟩
      rw [HB.out, blk_end (by rw [hll]; omega)]
      exact HR.out.drewN nq
set_option maxHeartbeats 4000000 in
theorem dnumeric_any (c : UInt8) (w : World) : Calls Tryz.prog 50 #[.int .u8 (c.toNat : Int)] w fun e w' => e = .returned (.bool (numC c)) ∧ w' = w := by
  have HN : Hid (numC c = (decide (48 ≤ c.toNat ∧ c.toNat ≤ 57) || (decide (c.toNat = 45) || decide (c.toNat = 43) || decide (c.toNat = 46) || decide (c.toNat = 101) || decide (c.toNat = 69)))) := by
    show _ = _
    rw [numC]
    have e : ∀ d : UInt8, (c == d) = decide (c.toNat = d.toNat) := fun d => by rw [Bool.eq_iff_iff, beq_iff_eq, decide_eq_true_eq, UInt8.toNat_inj]
    rw [e, e, e, e, e]
    rfl
  go_enter Tryz.func50, Tryz.ntmps50
  go_wp2
  all_goals go_ret
  all_goals refine ⟨?_, rfl⟩
  all_goals show Ending.returned (Value.bool _) = Ending.returned (Value.bool _)
  all_goals refine congrArg (fun r => Ending.returned (Value.bool r)) ?_
  all_goals rw [HN.out]
  all_goals rw [Bool.eq_iff_iff]
  all_goals simp only [Bool.or_eq_true, decide_eq_true_eq, true_iff, beq_iff_eq, Bool.false_eq_true, false_iff]
  all_goals simp_all
  all_goals omega
/-- what a method of the document's reader does: the answer, or the fault set down -/
def DP {α : Type} (v : Value) (R : Except Flt α) (A : α → Ending → World → Prop) (g : Nat) (s : ByteArray) (D : Nat) (w : World) (e : Ending) (w' : World) : Prop :=
  match R with
  | .ok x => A x e w' ∧ w.grownBy w' (some g)
  | .error f => (∃ k n, e = .returned v ∧ JD g s k n D f.2 f.1 w' ∧ f.2 ≠ 0) ∧ w.grownBy w' (some g)
set_option maxHeartbeats 4000000 in
theorem dnext_yes (g : Nat) (s : ByteArray) (k n D e bd : Nat) (w : World) (h : JD g s k n D e bd w) (hs : s.size ≤ 281474976710656) (hk : k ≤ s.size) (hb : blk s.data.toList k < s.size) :
    Calls Tryz.prog 49 #[.pointer (some ⟨g, 0, none⟩)] w fun en w' => en = .returned (.int .u8 ((s[blk s.data.toList k]).toNat : Int)) ∧ JD g s (blk s.data.toList k) n D e bd w' ∧ w.grownBy w' (some g) := by
  have CB := hmk (dblanks_any g s k n D e bd w h hs hk)
  clear h
  generalize blk s.data.toList k = K at *
  have y1 : (K : Int) < s.size := by omega
  have y2 : ((K : Int) == (s.size : Int)) = false := by simp; omega
  go_enter Tryz.func49, Tryz.ntmps49
  go_wp2_with fail
  refine CB.out.mono ?_
  rintro en w1 ⟨rfl, R1, g1⟩
  have c0 := R1.c0
  have c1 := R1.c1
  have HR := hmk R1
  clear R1 CB
  go_wp2_with fail
  go_quiet (fail)
  go_wp2_with fail
  go_quiet (fail)
  go_wp2_with fail
  go_ret
  exact ⟨rfl, (HR.out.drewN _).drewN _, grown_drewN (grown_drewN g1 _) _⟩
set_option maxHeartbeats 4000000 in
theorem dnext_end (g : Nat) (s : ByteArray) (k n D bd : Nat) (w : World) (h : JD g s k n D 0 bd w) (hs : s.size ≤ 281474976710656) (hk : k ≤ s.size) (hb : blk s.data.toList k = s.size) :
    Calls Tryz.prog 49 #[.pointer (some ⟨g, 0, none⟩)] w fun en w' => en = .returned (.int .u8 0) ∧ JD g s s.size n D 31 s.size w' ∧ w.grownBy w' (some g) := by
  have CB := hmk (dblanks_any g s k n D 0 bd w h hs hk)
  rw [hb] at CB
  have CF : Hid (∀ W, JD g s s.size n D 0 bd W → Calls Tryz.prog 36 #[.pointer (some ⟨g, 0, none⟩), .int .i64 (s.size : Int), .int .i64 31] W fun e w' => e = .returned (.tuple #[]) ∧ JD g s s.size n D 31 s.size w' ∧ W.grownBy w' (some g)) := fun W hW => dfail_any g s s.size n D bd s.size 31 W hW
  clear h
  go_enter Tryz.func49, Tryz.ntmps49
  go_wp2_with fail
  refine CB.out.mono ?_
  rintro en w1 ⟨rfl, R1, g1⟩
  have c0 := R1.c0
  have c1 := R1.c1
  have HR := hmk R1
  clear R1 CB
  go_wp2_with fail
  go_quiet (fail)
  go_wp2_with fail
  refine (CF.out _ (HR.out.drewN nq)).mono ?_
  rintro en w2 ⟨rfl, R2, g2⟩
  go_wp2_with fail
  go_ret
  exact ⟨rfl, R2, grown_trans (grown_drewN g1 nq) g2⟩
end Go.Proofs.YtpmhdcmmlkjjmaaGreatDoor
