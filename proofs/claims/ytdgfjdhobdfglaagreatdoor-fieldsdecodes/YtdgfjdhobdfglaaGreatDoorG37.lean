/- joined: DcmA DcmB DcmC DcmD DcmE -/
import Derived.Test.YtdgfjdhobdfglaaGreatDoorG25
import Derived.Deep.DeepCutAuto
set_option linter.unusedSimpArgs false
set_option linter.unusedVariables false
set_option maxRecDepth 100000
set_option maxHeartbeats 64000000
namespace Go.Proofs.YtdgfjdhobdfglaaGreatDoor
open Go.RowKit Go.Lib
def numB (r : Int) : Bool := digR r || (decide (r = 45) || (decide (r = 43) || (decide (r = 46) || (decide (r = 101) || decide (r = 69)))))
theorem digR_no {r : Int} (h : ¬ (48 <= r /\ r <= 57)) : digR r = false := by
 unfold digR
 by_cases a : 48 <= r
 ·rw [decide_eq_true a, decide_eq_false (fun b => h ⟨a, b⟩)]; rfl
 ·rw [decide_eq_false a]; rfl
theorem numeric_any (r : Int) (w : World) : Calls Tryz.prog 133 #[.int .u8 r] w fun e w' => e = .returned (.bool (numB r)) /\ w' = w := by
 by_cases a : 48 <= r
 focus
  by_cases b : r <= 57
  focus
   rw [show numB r = true by unfold numB digR; rw [decide_eq_true a, decide_eq_true b]; rfl]
  rotate_left 1
  focus
   have hD : digR r = false := digR_no (fun h => b h.2)
   have y45 : (r == 45) = false := by rw [beq_eq_false_iff_ne]; omega
   have y43 : (r == 43) = false := by rw [beq_eq_false_iff_ne]; omega
   have y46 : (r == 46) = false := by rw [beq_eq_false_iff_ne]; omega
   by_cases h101 : r = 101
   focus
    subst h101
    clear hD y45 y43 y46
    rw [show numB 101 = true by decide]
   rotate_left 1
   focus
    by_cases h69 : r = 69
    focus
     subst h69
     clear hD y45 y43 y46
     rw [show numB 69 = true by decide]
    rotate_left 1
    focus
     have y101 : (r == 101) = false := by rw [beq_eq_false_iff_ne]; exact h101
     have y69 : (r == 69) = false := by rw [beq_eq_false_iff_ne]; exact h69
     rw [show numB r = false by unfold numB; rw [hD, decide_eq_false (by omega), decide_eq_false (by omega), decide_eq_false (by omega), decide_eq_false h101, decide_eq_false h69]; rfl]
     clear hD h101 h69
    rotate_left 1
   rotate_left 2
  rotate_left 3
 rotate_left 4
 focus
  have hD : digR r = false := digR_no (fun h => a h.1)
  by_cases h45 : r = 45
  ·subst h45
   clear hD
   rw [show numB 45 = true by decide]
   go_enter Tryz.func133, Tryz.ntmps133
   go_wp2
   go_ret
   exact ⟨rfl, rfl⟩
  by_cases h43 : r = 43
  ·subst h43
   clear hD
   rw [show numB 43 = true by decide]
   go_enter Tryz.func133, Tryz.ntmps133
   go_wp2
   go_ret
   exact ⟨rfl, rfl⟩
  by_cases h46 : r = 46
  ·subst h46
   clear hD
   rw [show numB 46 = true by decide]
   go_enter Tryz.func133, Tryz.ntmps133
   go_wp2
   go_ret
   exact ⟨rfl, rfl⟩
  have y45 : (r == 45) = false := by rw [beq_eq_false_iff_ne]; exact h45
  have y43 : (r == 43) = false := by rw [beq_eq_false_iff_ne]; exact h43
  have y46 : (r == 46) = false := by rw [beq_eq_false_iff_ne]; exact h46
  have y101 : (r == 101) = false := by rw [beq_eq_false_iff_ne]; omega
  have y69 : (r == 69) = false := by rw [beq_eq_false_iff_ne]; omega
  rw [show numB r = false by unfold numB; rw [hD, decide_eq_false h45, decide_eq_false h43, decide_eq_false h46, decide_eq_false (by omega), decide_eq_false (by omega)]; rfl]
  clear hD h45 h43 h46
 rotate_left 1
 all_goals
  go_enter Tryz.func133, Tryz.ntmps133
  go_wp2
  go_ret
  exact ⟨rfl, rfl⟩
def RB (g : Nat) (s : ByteArray) (k nd : Nat) (er bad : Int) (w : World) : Prop := w.heap[g]? = some (.cells #[.string s, .int .i64 (k : Int), .int .i64 (nd : Int), .int .i64 0, .int .i64 er, .int .i64 bad] 162 (0, 0))
theorem RB.lt {g : Nat} {s : ByteArray} {k nd : Nat} {er bad : Int} {w : World} (h : RB g s k nd er bad w) : g < w.heap.size := by
 rcases Nat.lt_or_ge g w.heap.size with h' | h'
 ·exact h'
 ·unfold RB at h; rw [Array.getElem?_eq_none h'] at h; cases h
theorem RB.c0 {g : Nat} {s : ByteArray} {k nd : Nat} {er bad : Int} {w : World} (h : RB g s k nd er bad w) : w.cell? ⟨g, 0, none⟩ = some (.string s) := by rw [cell_of_block h]; rfl
theorem RB.c1 {g : Nat} {s : ByteArray} {k nd : Nat} {er bad : Int} {w : World} (h : RB g s k nd er bad w) : w.cell? ⟨g, 1, none⟩ = some (.int .i64 (k : Int)) := by rw [cell_of_block h]; rfl
theorem RB.c2 {g : Nat} {s : ByteArray} {k nd : Nat} {er bad : Int} {w : World} (h : RB g s k nd er bad w) : w.cell? ⟨g, 2, none⟩ = some (.int .i64 (nd : Int)) := by rw [cell_of_block h]; rfl
theorem RB.c3 {g : Nat} {s : ByteArray} {k nd : Nat} {er bad : Int} {w : World} (h : RB g s k nd er bad w) : w.cell? ⟨g, 3, none⟩ = some (.int .i64 0) := by rw [cell_of_block h]; rfl
theorem RB.c4 {g : Nat} {s : ByteArray} {k nd : Nat} {er bad : Int} {w : World} (h : RB g s k nd er bad w) : w.cell? ⟨g, 4, none⟩ = some (.int .i64 er) := by rw [cell_of_block h]; rfl
theorem RB.c5 {g : Nat} {s : ByteArray} {k nd : Nat} {er bad : Int} {w : World} (h : RB g s k nd er bad w) : w.cell? ⟨g, 5, none⟩ = some (.int .i64 bad) := by rw [cell_of_block h]; rfl
theorem RB.fz {g : Nat} {s : ByteArray} {k nd : Nat} {er bad : Int} {w : World} (h : RB g s k nd er bad w) (o : Nat) : w.frozen? ⟨g, o, none⟩ = false := frozen_of_block h o
theorem RB.put1 {g : Nat} {s : ByteArray} {k nd : Nat} {er bad : Int} {w : World} (h : RB g s k nd er bad w) (n : Nat) (z : Int) (hz : z = n) : RB g s n nd er bad (w.setCell ⟨g, 1, none⟩ (.int .i64 z)) := by
 subst hz
 unfold RB at *
 rw [set_block h]
 rfl
theorem RB.put2 {g : Nat} {s : ByteArray} {k nd : Nat} {er bad : Int} {w : World} (h : RB g s k nd er bad w) (n : Nat) (z : Int) (hz : z = n) : RB g s k n er bad (w.setCell ⟨g, 2, none⟩ (.int .i64 z)) := by
 subst hz
 unfold RB at *
 rw [set_block h]
 rfl
theorem RB.put4 {g : Nat} {s : ByteArray} {k nd : Nat} {er bad : Int} {w : World} (h : RB g s k nd er bad w) (z : Int) : RB g s k nd z bad (w.setCell ⟨g, 4, none⟩ (.int .i64 z)) := by
 unfold RB at *
 rw [set_block h]
 rfl
theorem RB.put5 {g : Nat} {s : ByteArray} {k nd : Nat} {er bad : Int} {w : World} (h : RB g s k nd er bad w) (z : Int) : RB g s k nd er z (w.setCell ⟨g, 5, none⟩ (.int .i64 z)) := by
 unfold RB at *
 rw [set_block h]
 rfl
theorem RB.drewN {g : Nat} {s : ByteArray} {k nd : Nat} {er bad : Int} {w : World} (h : RB g s k nd er bad w) (q : Nat) : RB g s k nd er bad (w.drewN q) := by
 induction q with
 | zero => exact h
 | succ q ih => exact ih
theorem RB.keep {g : Nat} {s : ByteArray} {k nd : Nat} {er bad : Int} {w w' : World} (h : RB g s k nd er bad w) (hb : Below w.heap.size w w') : RB g s k nd er bad w' := (hb.block g h.lt).trans h
theorem dfail_any (g : Nat) (s : ByteArray) (k nd : Nat) (bad at_ er : Int) (w : World) (h : RB g s k nd 0 bad w) :
 Calls Tryz.prog 114 #[.pointer (some ⟨g, 0, none⟩), .int .i64 at_, .int .i64 er] w fun e w' => e = .returned (.tuple #[]) /\ RB g s k nd er at_ w' /\ w.grownBy w' (some g) := by
 have c4 := h.c4
 have f4 := h.fz 4
 have f5 := (h.put4 er).fz 5
 have c5 := (h.put4 er).c5
 have HH := hmk h
 clear h
 go_enter Tryz.func114, Tryz.ntmps114
 go_wp2
 go_end0
 exact ⟨rfl, (HH.out.put4 er).put5 at_, grown_set (grown_set (World.grownBy.refl _ _) _ _) _ _⟩
end Go.Proofs.YtdgfjdhobdfglaaGreatDoor
set_option maxRecDepth 100000
namespace Go.Proofs.YtdgfjdhobdfglaaGreatDoor
open Go.RowKit Go.Lib
def blkB (r : Int) : Bool := decide (r = 32) || (decide (r = 9) || (decide (r = 10) || decide (r = 13)))
set_option maxHeartbeats 8000000 in
theorem dblanks_none (g : Nat) (s : ByteArray) (k nd : Nat) (er bad : Int) (w : World) (h : RB g s k nd er bad w) (hk : k <= s.size) (hb : ∀ h : k < s.size, blkB ((s[k]'h).toNat : Int) = false) :
 Calls Tryz.prog 113 #[.pointer (some ⟨g, 0, none⟩)] w fun e w' => e = .returned (.tuple #[]) /\ RB g s k nd er bad w' /\ w.grownBy w' (some g) := by
 have HH := hmk h
 clear h
 go_enter Tryz.func113, Tryz.ntmps113
 go_wp2_with fail
 go_loopw [66] (fun p wr => RB g s k nd er bad wr /\ w.grownBy wr (some g)) (fun _ _ => 0)
 case atStart => exact ⟨HH.out, World.grownBy.refl _ _⟩
 case round =>
  obtain ⟨hr, gr⟩ := hrel
  have c0 := hr.c0
  have c1 := hr.c1
  have HR := hmk hr
  have HG := hmk gr
  clear hr gr HH
  by_cases hlt : k < s.size
  focus
   have y1 : (k : Int) < s.size := by omega
   have hb' := hb hlt
   clear hb
   unfold blkB at hb'
   simp only [Bool.or_eq_false_iff, decide_eq_false_iff_not] at hb'
   obtain ⟨n32, n9, n10, n13⟩ := hb'
   have y32 : (((s[k]'hlt).toNat : Int) == 32) = false := by rw [beq_eq_false_iff_ne]; exact n32
   have y9 : (((s[k]'hlt).toNat : Int) == 9) = false := by rw [beq_eq_false_iff_ne]; exact n9
   have y10 : (((s[k]'hlt).toNat : Int) == 10) = false := by rw [beq_eq_false_iff_ne]; exact n10
   have y13 : (((s[k]'hlt).toNat : Int) == 13) = false := by rw [beq_eq_false_iff_ne]; exact n13
   clear n32 n9 n10 n13
  rotate_left 1
  focus
   have y1 : ¬ (k : Int) < s.size := by omega
   clear hb
  rotate_left 1
  all_goals
   go_wp2_with fail
   go_quiet (fail)
   go_wp2_with fail
   go_end0
   exact ⟨rfl, HR.out.drewN nq, grown_drewN HG.out nq⟩
end Go.Proofs.YtdgfjdhobdfglaaGreatDoor
set_option maxRecDepth 100000
set_option maxHeartbeats 64000000
namespace Go.Proofs.YtdgfjdhobdfglaaGreatDoor
open Go.RowKit Go.Lib
theorem dnext_yes (g : Nat) (s : ByteArray) (k nd : Nat) (er bad : Int) (w : World) (h : RB g s k nd er bad w) (hlt : k < s.size) (hb : blkB ((s[k]'hlt).toNat : Int) = false) :
 Calls Tryz.prog 132 #[.pointer (some ⟨g, 0, none⟩)] w fun e w' => e = .returned (.int .u8 ((s[k]'hlt).toNat : Int)) /\ RB g s k nd er bad w' /\ w.grownBy w' (some g) := by
 have CB := hmk (dblanks_none g s k nd er bad w h (Nat.le_of_lt hlt) (fun _ => hb))
 have y1 : ((k : Int) == (s.size : Int)) = false := by rw [beq_eq_false_iff_ne]; omega
 have y2 : (k : Int) < s.size := by omega
 clear h hb
 go_enter Tryz.func132, Tryz.ntmps132
 go_wp2_with fail
 refine CB.out.mono ?_
 rintro e w1 ⟨rfl, h1, g1⟩
 have c0 := h1.c0
 have c1 := h1.c1
 have HR := hmk h1
 have HG := hmk g1
 clear CB h1 g1
 go_wp2_with fail
 go_quiet (fail)
 go_wp2_with fail
 have c0 : (w1.drewN nq).cell? ⟨g, 0, none⟩ = some (.string s) := (HR.out.drewN nq).c0
 have c1 : (w1.drewN nq).cell? ⟨g, 1, none⟩ = some (.int .i64 (k : Int)) := (HR.out.drewN nq).c1
 have HR2 := hmk (HR.out.drewN nq)
 have HG2 := hmk (grown_drewN HG.out nq)
 generalize w1.drewN nq = w2 at *
 go_quiet (fail)
 go_wp2_with fail
 go_ret
 exact ⟨rfl, HR2.out.drewN nq, grown_drewN HG2.out nq⟩
theorem dnext_end (g : Nat) (s : ByteArray) (nd : Nat) (bad : Int) (w : World) (h : RB g s s.size nd 0 bad w) :
 Calls Tryz.prog 132 #[.pointer (some ⟨g, 0, none⟩)] w fun e w' => e = .returned (.int .u8 0) /\ RB g s s.size nd 31 (s.size : Int) w' /\ w.grownBy w' (some g) := by
 have CB := hmk (dblanks_none g s s.size nd 0 bad w h (Nat.le_refl _) (fun h => absurd h (Nat.lt_irrefl _)))
 clear h
 go_enter Tryz.func132, Tryz.ntmps132
 go_wp2_with fail
 refine CB.out.mono ?_
 rintro e w1 ⟨rfl, h1, g1⟩
 have c0 := h1.c0
 have c1 := h1.c1
 have HR := hmk h1
 have HG := hmk g1
 clear CB h1 g1
 go_wp2_with fail
 go_quiet (fail)
 have c1 : (w1.drewN nq).cell? ⟨g, 1, none⟩ = some (.int .i64 (s.size : Int)) := (HR.out.drewN nq).c1
 have CF := hmk (dfail_any g s s.size nd bad (s.size : Int) 31 _ (HR.out.drewN nq))
 have HG2 := hmk (grown_drewN HG.out nq)
 generalize w1.drewN nq = w2 at *
 go_wp2_with fail
 refine CF.out.mono ?_
 rintro e w3 ⟨rfl, h3, g3⟩
 have HR3 := hmk h3
 have HG3 := hmk (grown_trans HG2.out g3)
 clear h3 g3
 go_wp2_with fail
 go_ret
 exact ⟨rfl, HR3.out, HG3.out⟩
end Go.Proofs.YtdgfjdhobdfglaaGreatDoor
set_option maxRecDepth 100000
namespace Go.Proofs.YtdgfjdhobdfglaaGreatDoor
open Go.RowKit Go.Lib
def AtP (m k j : Nat) : Prop := m = k + j
def WdP (g : Nat) (s : ByteArray) (k nd n : Nat) (b : Bool) (w : World) (e : Ending) (w' : World) : Prop :=
 e = .returned (.tuple #[]) /\ w.grownBy w' (some g) /\ ((b = true /\ ∃ bad, RB g s (k + n) nd 0 bad w') \/ (b = false /\ ∃ k' er bad, k' <= s.size /\ er ≠ 0 /\ RB g s k' nd er bad w'))
theorem hp_end {l : List UInt8} {k : Nat} {c : UInt8} {p : List UInt8} (h : l.length <= k) : hasPrefix (l.drop k) (c :: p) = false := by
 rw [List.drop_eq_nil_of_le h]; rfl
theorem hp_cons {c d : UInt8} {t p : List UInt8} (h : c = d) : hasPrefix (c :: t) (d :: p) = hasPrefix t p := by
 unfold hasPrefix; simp [List.isPrefixOf, h]
theorem hp_ne {c d : UInt8} {t p : List UInt8} (h : c ≠ d) : hasPrefix (c :: t) (d :: p) = false := by
 unfold hasPrefix; simp [List.isPrefixOf, Ne.symm h]
set_option maxHeartbeats 8000000 in
theorem dword_any (g : Nat) (s p : ByteArray) (k nd : Nat) (bad : Int) (w : World) (h : RB g s k nd 0 bad w) (hk : k <= s.size) (hs : s.size <= 2147483647) (hp : p.size <= 100) :
 Calls Tryz.prog 134 #[.pointer (some ⟨g, 0, none⟩), .string p] w (WdP g s k nd p.size (tkB s.data.toList k p.data.toList) w) := by
 have HH := hmk h
 have hls : s.data.toList.length = s.size := by simp
 have HLS := hmk hls
 obtain ⟨T, hT⟩ : ∃ T : Bool, Hid (tkB s.data.toList k p.data.toList = T) := ⟨_, rfl⟩
 rw [hT.out]
 clear h hls
 go_enter Tryz.func134, Tryz.ntmps134
 go_wp2_with fail
 go_loopw [4] (fun i wr => ∃ j m : Nat, j <= p.size /\ m <= s.size /\ AtP m k j /\ i = .int .i64 (j : Int) /\ RB g s m nd 0 bad wr /\ w.grownBy wr (some g) /\ Hid (hasPrefix (s.data.toList.drop m) (p.data.toList.drop j) = T)) (fun i _ => p.size - (RowKit.intOf i).toNat)
 case atStart => exact ⟨0, k, Nat.zero_le _, hk, (rfl : k = k + 0), rfl, HH.out, World.grownBy.refl _ _, hT.out⟩
 case round =>
  clear HH hT
  obtain ⟨j, m, hj, hkj, HM, rfl, hr, gr, HT⟩ := hrel
  have c0 := hr.c0
  have c1 := hr.c1
  have HR := hmk hr
  have HG := hmk gr
  clear hr gr
  by_cases hjp : j < p.size
  ·have y1 : (j : Int) < p.size := by omega
   have ep := hmk (drop_consN p j hjp)
   by_cases hend : m = s.size
   ·subst hend
    have HF : Hid (T = false) := by
     show T = false
     have := HT.out
     rw [ep.out, hp_end (by rw [HLS.out]; omega)] at this
     exact this.symm
    clear HT ep
    go_wp2_with fail
    go_quiet (fail)
    have c1 : (wr.drewN nq).cell? ⟨g, 1, none⟩ = some (.int .i64 (s.size : Int)) := (HR.out.drewN nq).c1
    have CF := hmk (dfail_any g s s.size nd bad (s.size : Int) 31 _ (HR.out.drewN nq))
    have HG2 := hmk (grown_drewN HG.out nq)
    generalize wr.drewN nq = w2 at *
    go_wp2_with fail
    refine CF.out.mono ?_
    rintro e w3 ⟨rfl, h3, g3⟩
    have HR3 := hmk h3
    have HG3 := hmk (grown_trans HG2.out g3)
    clear h3 g3
    go_wp2_with fail
    go_end0
    exact ⟨rfl, HG3.out, .inr ⟨HF.out, _, 31, _, Nat.le_refl _, by omega, HR3.out⟩⟩
   ·have y2 : ((m : Int) == (s.size : Int)) = false := by rw [beq_eq_false_iff_ne]; omega
    have hlt : m < s.size := by omega
    have y3 : (m : Int) < s.size := by omega
    have es := hmk (drop_consN s (m) hlt)
    by_cases hc : s[m]'hlt = p[j]'hjp
    ·have y4 : (((s[m]'hlt).toNat : Int) != ((p[j]'hjp).toNat : Int)) = false := by rw [bne_eq_false_iff_eq, hc]
     have HF : Hid (hasPrefix (s.data.toList.drop (m + 1)) (p.data.toList.drop (j + 1)) = T) := by
      show _ = T
      have := HT.out
      rw [ep.out, es.out, hp_cons hc] at this
      exact this
     clear HT ep es hc
     go_wp2_with fail
     go_quiet (fail)
     have c0 : (wr.drewN nq).cell? ⟨g, 0, none⟩ = some (.string s) := (HR.out.drewN nq).c0
     have c1 : (wr.drewN nq).cell? ⟨g, 1, none⟩ = some (.int .i64 (m : Int)) := (HR.out.drewN nq).c1
     have HR2 := hmk (HR.out.drewN nq)
     have HG2 := hmk (grown_drewN HG.out nq)
     generalize wr.drewN nq = w2 at *
     clear HR HG
     go_wp2_with fail
     go_quiet (fail)
     have c0 : (w2.drewN nq).cell? ⟨g, 0, none⟩ = some (.string s) := (HR2.out.drewN nq).c0
     have c1 : (w2.drewN nq).cell? ⟨g, 1, none⟩ = some (.int .i64 (m : Int)) := (HR2.out.drewN nq).c1
     have f1 := (HR2.out.drewN nq).fz 1
     have HR3 := hmk (HR2.out.drewN nq)
     have HG3 := hmk (grown_drewN HG2.out nq)
     generalize w2.drewN nq = w3 at *
     clear HR2 HG2
     go_wp2_with fail
     go_roundw
     case rel => exact ⟨j + 1, m + 1, by omega, by omega, (by have : m = k + j := HM; show m + 1 = k + (j + 1); omega), by go_num, HR3.out.put1 (m + 1) _ (by omega), grown_set HG3.out _ _, HF⟩
     case measure => simp [RowKit.intOf]; omega
    ·have y4 : (((s[m]'hlt).toNat : Int) != ((p[j]'hjp).toNat : Int)) = true := by rw [bne_iff_ne]; exact fun h => hc (UInt8.toNat_inj.1 (by omega))
     have HF : Hid (T = false) := by
      show T = false
      have := HT.out
      rw [ep.out, es.out, hp_ne hc] at this
      exact this.symm
     clear HT ep es hc
     go_wp2_with fail
     go_quiet (fail)
     have c0 : (wr.drewN nq).cell? ⟨g, 0, none⟩ = some (.string s) := (HR.out.drewN nq).c0
     have c1 : (wr.drewN nq).cell? ⟨g, 1, none⟩ = some (.int .i64 (m : Int)) := (HR.out.drewN nq).c1
     have HR2 := hmk (HR.out.drewN nq)
     have HG2 := hmk (grown_drewN HG.out nq)
     generalize wr.drewN nq = w2 at *
     clear HR HG
     go_wp2_with fail
     go_quiet (fail)
     have c1 : (w2.drewN nq).cell? ⟨g, 1, none⟩ = some (.int .i64 (m : Int)) := (HR2.out.drewN nq).c1
     have CF := hmk (dfail_any g s (m) nd bad (m : Int) 32 _ (HR2.out.drewN nq))
     have HG3 := hmk (grown_drewN HG2.out nq)
     generalize w2.drewN nq = w3 at *
     clear HR2 HG2
     go_wp2_with fail
     refine CF.out.mono ?_
     rintro e w4 ⟨rfl, h4, g4⟩
     have HR4 := hmk h4
     have HG4 := hmk (grown_trans HG3.out g4)
     clear h4 g4
     go_wp2_with fail
     go_end0
     exact ⟨rfl, HG4.out, .inr ⟨HF.out, _, 32, _, hkj, by omega, HR4.out⟩⟩
  ·have y1 : ¬ (j : Int) < p.size := by omega
   obtain rfl : j = p.size := by omega
   have HF : Hid (T = true) := by
    show T = true
    have := HT.out
    rw [drop_endN p p.size (Nat.lt_irrefl _)] at this
    rw [<- this]
    unfold hasPrefix; simp
   clear HT
   go_wp2_with fail
   go_end0
   exact ⟨rfl, HG.out, .inl ⟨HF.out, _, by have e : m = k + p.size := HM; rw [<- e]; exact HR.out⟩⟩
end Go.Proofs.YtdgfjdhobdfglaaGreatDoor
set_option maxRecDepth 100000
namespace Go.Proofs.YtdgfjdhobdfglaaGreatDoor
open Go.RowKit Go.Lib
def dvl : Nat -> List UInt8 -> Option Nat
 | acc, [] => some acc
 | acc, c :: t => if 48 <= c.toNat /\ c.toNat <= 57 then dvl (10 * acc + (c.toNat - 48)) t else none
def dfin (mi : Bool) (n : Nat) : Option Int :=
 if mi = true /\ n = 9223372036854775808 then some (-9223372036854775808) else if 9223372036854775807 < n then none else some (if mi = true then -(n : Int) else n)
def dbody (mi : Bool) (b : List UInt8) : Option Int :=
 if b.length = 0 \/ (1 < b.length /\ b.head? = some 48) \/ 19 < b.length then none else (dvl 0 b).bind (dfin mi)
def dint : List UInt8 -> Option Int
 | [] => none
 | c :: t => if c = 45 then dbody true t else dbody false (c :: t)
def DiP (R : Option Int) (w : World) (e : Ending) (w' : World) : Prop :=
 w' = w /\ ((∃ i, R = some i /\ e = .returned (.tuple #[.int .i64 i, .bool true])) \/ (R = none /\ e = .returned (.tuple #[.int .i64 0, .bool false])))
theorem dbody_0 {mi : Bool} {b : List UInt8} (h : b.length = 0) : dbody mi b = none := by rw [dbody, if_pos (.inl h)]
theorem dbody_1 {mi : Bool} {b : List UInt8} (h : 1 < b.length) (h1 : b.head? = some 48) : dbody mi b = none := by rw [dbody, if_pos (.inr (.inl ⟨h, h1⟩))]
theorem dbody_2 {mi : Bool} {b : List UInt8} (h : 19 < b.length) : dbody mi b = none := by rw [dbody, if_pos (.inr (.inr h))]
theorem dbody_3 {mi : Bool} {b : List UInt8} (h0 : b.length ≠ 0) (h1 : ¬ (1 < b.length /\ b.head? = some 48)) (h2 : ¬ 19 < b.length) : dbody mi b = (dvl 0 b).bind (dfin mi) := by
 rw [dbody, if_neg (by rintro (h | h | h) <;> contradiction)]
theorem head48 {t : ByteArray} (h : 0 < t.size) : t.data.toList.head? = some (t[0]'h) := by
 have := drop_consN t 0 h
 rw [List.drop_zero] at this
 rw [this]; rfl
theorem pow10_19 {j : Nat} (h : j < 19) : 10 ^ j <= 1000000000000000000 := Nat.le_trans (Nat.pow_le_pow_right (by decide) (show j <= 18 by omega)) (by decide)
def BnU (v j : Nat) : Prop := v < 10 ^ j
theorem BnU.le {v j : Nat} (h : BnU v j) (hj : j < 19) : v < 1000000000000000000 := Nat.lt_of_lt_of_le h (pow10_19 hj)
theorem BnU.all {v j : Nat} (h : BnU v j) (hj : j <= 19) : v < 10000000000000000000 := Nat.lt_of_lt_of_le h (Nat.le_trans (Nat.pow_le_pow_right (by decide) hj) (by decide))
theorem BnU.next {v j d : Nat} (h : BnU v j) (hd : d < 10) : BnU (10 * v + d) (j + 1) := by
 unfold BnU at *
 rw [Nat.pow_succ]; omega
set_option maxHeartbeats 8000000 in
theorem dint_any (s : ByteArray) (w : World) (hs : s.size <= 2147483647) : Calls Tryz.prog 138 #[.string s] w (DiP (dint s.data.toList) w) := by
 by_cases h0 : s.size = 0
 ·have e : s.data.toList = [] := List.length_eq_zero_iff.1 (by simpa using h0)
  have y0 : ¬ (0 : Int) < s.size := by omega
  have y1 : ((s.size : Int) == 0) = true := by rw [beq_iff_eq]; omega
  rw [e]
  clear e h0
  go_enter Tryz.func138, Tryz.ntmps138
  go_wp2
  go_ret2
  exact ⟨rfl, .inr ⟨rfl, rfl⟩⟩
 have hpos : 0 < s.size := by omega
 have y0 : (0 : Int) < s.size := by omega
 have e0 := drop_consN s 0 hpos
 rw [List.drop_zero] at e0
 by_cases h45 : s[0]'hpos = 45
 ·have y45 : (((s[0]'hpos).toNat : Int) == 45) = true := by rw [beq_iff_eq, h45]; rfl
  have hR : dint s.data.toList = dbody true (s.data.toList.drop 1) := by rw [e0, dint, if_pos h45]; rfl
  have hsl : ∀ W, (Instr.slice 9 (.string s) (some (.int .i64 1)) none none).run Tryz.prog W = .ok (.string (s.extract 1 s.size)) W := fun W => slice_from s 1 hpos W
  have hel := ext_list s 1
  have hez : (s.extract 1 s.size).size <= 2147483647 := by rw [ByteArray.size_extract]; omega
  rw [hR, <- hel]
  clear e0 h45 h0 hR hel hs
  generalize s.extract 1 s.size = t at *
  have hll : t.data.toList.length = t.size := by simp
  by_cases z0 : t.size = 0
  ·have x1 : ((t.size : Int) == 0) = true := by rw [beq_iff_eq]; omega
   have HN := hmk (dbody_0 (mi := true) (b := t.data.toList) (by omega))
   clear z0 hll
   go_enter Tryz.func138, Tryz.ntmps138
   go_wp2
   go_ret2
   exact ⟨rfl, .inr ⟨HN.out, rfl⟩⟩
  have x1 : ((t.size : Int) == 0) = false := by rw [beq_eq_false_iff_ne]; omega
  have z1 : 0 < t.size := by omega
  have x2 : (0 : Int) < t.size := by omega
  by_cases z2 : 1 < t.size /\ t[0]'z1 = 48
  ·have x3 : (1 : Int) < t.size := by omega
   have x4 : (((t[0]'z1).toNat : Int) == 48) = true := by rw [beq_iff_eq, z2.2]; rfl
   have HN := hmk (dbody_1 (mi := true) (b := t.data.toList) (by omega) (by rw [head48 z1, z2.2]))
   clear z0 hll z2
   go_enter Tryz.func138, Tryz.ntmps138
   go_wp2
   go_ret2
   exact ⟨rfl, .inr ⟨HN.out, rfl⟩⟩
  have HZ2 : Hid (¬ (1 < t.data.toList.length /\ t.data.toList.head? = some 48)) := fun h => z2 ⟨by omega, by have := h.2; rw [head48 z1] at this; exact Option.some.inj this⟩
  by_cases z3 : 19 < t.size
  ·have x5 : (19 : Int) < t.size := by omega
   have x3 : (1 : Int) < t.size := by omega
   have x4 : (((t[0]'z1).toNat : Int) == 48) = false := by rw [beq_eq_false_iff_ne]; exact fun h => z2 ⟨by omega, UInt8.toNat_inj.1 (by have h48 : (48 : UInt8).toNat = 48 := rfl; omega)⟩
   have HN := hmk (dbody_2 (mi := true) (b := t.data.toList) (by omega))
   clear z0 hll z2
   go_enter Tryz.func138, Tryz.ntmps138
   go_wp2
   go_ret2
   exact ⟨rfl, .inr ⟨HN.out, rfl⟩⟩
  have x5 : ¬ (19 : Int) < t.size := by omega
  have HB := hmk (dbody_3 (mi := true) (b := t.data.toList) (by omega) HZ2.out (by omega))
  rw [HB.out]
  clear HB HZ2 hll
  have HS : Hid (t.size <= 19) := by show _ <= _; omega
  clear z0 z3
  by_cases z4 : 1 < t.size
  focus
   have x3 : (1 : Int) < t.size := by omega
   have x4 : (((t[0]'z1).toNat : Int) == 48) = false := by rw [beq_eq_false_iff_ne]; exact fun h => z2 ⟨z4, UInt8.toNat_inj.1 (by have h48 : (48 : UInt8).toNat = 48 := rfl; omega)⟩
  rotate_left 1
  focus
   have x3 : ¬ (1 : Int) < t.size := by omega
  rotate_left 1
  all_goals
   clear z2 z4
   go_enter Tryz.func138, Tryz.ntmps138
   go_wp2_with fail
   clear x1 x2 x3 x5
   go_loopw [5, 6] (fun e5 e6 wr => ∃ j v : Nat, j <= t.size /\ e6 = .int .i64 (j : Int) /\ e5 = .int .u64 (v : Int) /\ wr = w /\ BnU v j /\ Hid (dvl v (t.data.toList.drop j) = dvl 0 t.data.toList)) (fun _ e6 _ => t.size - (RowKit.intOf e6).toNat)
   case atStart => exact ⟨0, 0, Nat.zero_le _, rfl, rfl, rfl, (by decide : (0 : Nat) < 1), rfl⟩
   case round =>
    obtain ⟨j, v, hj, rfl, rfl, rfl, hB, HD⟩ := hrel
    have HBn := hmk hB
    clear hB
    by_cases hjt : j < t.size
    ·have a1 : (j : Int) < t.size := by omega
     have ed := hmk (drop_consN t j hjt)
     by_cases hd : 48 <= (t[j]'hjt).toNat /\ (t[j]'hjt).toNat <= 57
     ·have b1 : ¬ ((t[j]'hjt).toNat : Int) < 48 := by omega
      have b2 : ¬ (57 : Int) < ((t[j]'hjt).toNat : Int) := by omega
      have hv := HBn.out.le (by have := HS.out; omega)
      have w1 : IntKind.u64.wrap (10 * (v : Int)) = 10 * (v : Int) := IntWalk.u64_in _ (by omega)
      have w2 : IntKind.u8.wrap (((t[j]'hjt).toNat : Int) - 48) = ((t[j]'hjt).toNat : Int) - 48 := IntWalk.u8_in _ (by omega)
      have w3 : IntKind.u64.wrap (((t[j]'hjt).toNat : Int) - 48) = ((t[j]'hjt).toNat : Int) - 48 := IntWalk.u64_in _ (by omega)
      have w4 : IntKind.u64.wrap (10 * (v : Int) + (((t[j]'hjt).toNat : Int) - 48)) = 10 * (v : Int) + (((t[j]'hjt).toNat : Int) - 48) := IntWalk.u64_in _ (by omega)
      have HN : Hid (dvl (10 * v + ((t[j]'hjt).toNat - 48)) (t.data.toList.drop (j + 1)) = dvl 0 t.data.toList) := by
       show _ = _
       rw [<- HD.out, ed.out, dvl, if_pos hd]
      have HV := hmk (HBn.out.next (d := (t[j]'hjt).toNat - 48) (by omega))
      have HE : Hid (10 * (v : Int) + (((t[j]'hjt).toNat : Int) - 48) = ((10 * v + ((t[j]'hjt).toNat - 48) : Nat) : Int)) := by show _ = _; omega
      clear HD ed HBn hd hv
      go_wp2_with fail
      go_roundw
      case rel => exact ⟨j + 1, 10 * v + ((t[j]'hjt).toNat - 48), by omega, by go_num, by rw [<- HE.out], trivial, HV.out, HN⟩
      case measure => simp [RowKit.intOf]; omega
     ·have HN : Hid ((dvl 0 t.data.toList).bind (dfin true) = none) := by
       show _ = _
       rw [<- HD.out, ed.out, dvl, if_neg hd]; rfl
      rw [HN.out]
      by_cases b1 : ((t[j]'hjt).toNat : Int) < 48
      ·clear HD ed HBn hd HN
       go_wp2_with fail
       go_ret2
       exact ⟨rfl, .inr ⟨rfl, rfl⟩⟩
      ·have b2 : (57 : Int) < ((t[j]'hjt).toNat : Int) := by omega
       clear HD ed HBn hd HN
       go_wp2_with fail
       go_ret2
       exact ⟨rfl, .inr ⟨rfl, rfl⟩⟩
    ·have a1 : ¬ (j : Int) < t.size := by omega
     have hjz : j = t.size := by omega
     have HF : Hid ((dvl 0 t.data.toList).bind (dfin true) = dfin true v) := by
      show _ = _
      rw [<- HD.out, drop_endN t j hjt, dvl]; rfl
     have hv := HBn.out.all (by have := HS.out; omega)
     clear HD HBn hjz
     by_cases c1 : v = 9223372036854775808
     ·have d1 : ((v : Int) == 9223372036854775808) = true := by rw [beq_iff_eq]; omega
      have HR : Hid (dfin true v = some (-9223372036854775808)) := by show _ = _; rw [dfin, if_pos ⟨rfl, c1⟩]
      clear c1 hv
      go_wp2_with fail
      go_ret2
      exact ⟨rfl, .inl ⟨_, HF.out.trans HR.out, rfl⟩⟩
     ·have d1 : ((v : Int) == 9223372036854775808) = false := by rw [beq_eq_false_iff_ne]; omega
      by_cases c2 : 9223372036854775807 < v
      ·have d2 : (9223372036854775807 : Int) < v := by omega
       have HR : Hid (dfin true v = none) := by show _ = _; rw [dfin, if_neg (fun h => c1 h.2), if_pos c2]
       clear c1 c2 hv
       go_wp2_with fail
       go_ret2
       exact ⟨rfl, .inr ⟨HF.out.trans HR.out, rfl⟩⟩
      ·have d2 : ¬ (9223372036854775807 : Int) < v := by omega
       have w5 : IntKind.i64.wrap (v : Int) = (v : Int) := IntWalk.i64_in _ (by omega)
       have w6 : IntKind.i64.wrap (-(v : Int)) = -(v : Int) := IntWalk.i64_in _ (by omega)
       have HR : Hid (dfin true v = some (-(v : Int))) := by show _ = _; rw [dfin, if_neg (fun h => c1 h.2), if_neg c2, if_pos rfl]
       clear c1 c2 hv
       go_wp2_with fail
       go_ret2
       exact ⟨rfl, .inl ⟨_, HF.out.trans HR.out, rfl⟩⟩
 ·have y45 : (((s[0]'hpos).toNat : Int) == 45) = false := by rw [beq_eq_false_iff_ne]; exact fun h => h45 (UInt8.toNat_inj.1 (by have h5 : (45 : UInt8).toNat = 45 := rfl; omega))
  have hR : dint s.data.toList = dbody false s.data.toList := by rw [e0, dint, if_neg h45]
  have hez := hs
  rw [hR]
  clear e0 h45 h0 hR hs
  have hll : s.data.toList.length = s.size := by simp
  by_cases z0 : s.size = 0
  ·have x1 : ((s.size : Int) == 0) = true := by rw [beq_iff_eq]; omega
   have HN := hmk (dbody_0 (mi := false) (b := s.data.toList) (by omega))
   clear z0 hll
   go_enter Tryz.func138, Tryz.ntmps138
   go_wp2
   go_ret2
   exact ⟨rfl, .inr ⟨HN.out, rfl⟩⟩
  have x1 : ((s.size : Int) == 0) = false := by rw [beq_eq_false_iff_ne]; omega
  have z1 : 0 < s.size := by omega
  have x2 : (0 : Int) < s.size := by omega
  by_cases z2 : 1 < s.size /\ s[0]'z1 = 48
  ·have x3 : (1 : Int) < s.size := by omega
   have x4 : (((s[0]'z1).toNat : Int) == 48) = true := by rw [beq_iff_eq, z2.2]; rfl
   have HN := hmk (dbody_1 (mi := false) (b := s.data.toList) (by omega) (by rw [head48 z1, z2.2]))
   clear z0 hll z2
   go_enter Tryz.func138, Tryz.ntmps138
   go_wp2
   go_ret2
   exact ⟨rfl, .inr ⟨HN.out, rfl⟩⟩
  have HZ2 : Hid (¬ (1 < s.data.toList.length /\ s.data.toList.head? = some 48)) := fun h => z2 ⟨by omega, by have := h.2; rw [head48 z1] at this; exact Option.some.inj this⟩
  by_cases z3 : 19 < s.size
  ·have x5 : (19 : Int) < s.size := by omega
   have x3 : (1 : Int) < s.size := by omega
   have x4 : (((s[0]'z1).toNat : Int) == 48) = false := by rw [beq_eq_false_iff_ne]; exact fun h => z2 ⟨by omega, UInt8.toNat_inj.1 (by have h48 : (48 : UInt8).toNat = 48 := rfl; omega)⟩
   have HN := hmk (dbody_2 (mi := false) (b := s.data.toList) (by omega))
   clear z0 hll z2
   go_enter Tryz.func138, Tryz.ntmps138
   go_wp2
   go_ret2
   exact ⟨rfl, .inr ⟨HN.out, rfl⟩⟩
  have x5 : ¬ (19 : Int) < s.size := by omega
  have HB := hmk (dbody_3 (mi := false) (b := s.data.toList) (by omega) HZ2.out (by omega))
  rw [HB.out]
  clear HB HZ2 hll
  have HS : Hid (s.size <= 19) := by show _ <= _; omega
  clear z0 z3
  by_cases z4 : 1 < s.size
  focus
   have x3 : (1 : Int) < s.size := by omega
   have x4 : (((s[0]'z1).toNat : Int) == 48) = false := by rw [beq_eq_false_iff_ne]; exact fun h => z2 ⟨z4, UInt8.toNat_inj.1 (by have h48 : (48 : UInt8).toNat = 48 := rfl; omega)⟩
  rotate_left 1
  focus
   have x3 : ¬ (1 : Int) < s.size := by omega
  rotate_left 1
  all_goals
   clear z2 z4
   go_enter Tryz.func138, Tryz.ntmps138
   go_wp2_with fail
   clear x1 x2 x3 x5
   go_loopw [5, 6] (fun e5 e6 wr => ∃ j v : Nat, j <= s.size /\ e6 = .int .i64 (j : Int) /\ e5 = .int .u64 (v : Int) /\ wr = w /\ BnU v j /\ Hid (dvl v (s.data.toList.drop j) = dvl 0 s.data.toList)) (fun _ e6 _ => s.size - (RowKit.intOf e6).toNat)
   case atStart => exact ⟨0, 0, Nat.zero_le _, rfl, rfl, rfl, (by decide : (0 : Nat) < 1), rfl⟩
   case round =>
    obtain ⟨j, v, hj, rfl, rfl, rfl, hB, HD⟩ := hrel
    have HBn := hmk hB
    clear hB
    by_cases hjt : j < s.size
    ·have a1 : (j : Int) < s.size := by omega
     have ed := hmk (drop_consN s j hjt)
     by_cases hd : 48 <= (s[j]'hjt).toNat /\ (s[j]'hjt).toNat <= 57
     ·have b1 : ¬ ((s[j]'hjt).toNat : Int) < 48 := by omega
      have b2 : ¬ (57 : Int) < ((s[j]'hjt).toNat : Int) := by omega
      have hv := HBn.out.le (by have := HS.out; omega)
      have w1 : IntKind.u64.wrap (10 * (v : Int)) = 10 * (v : Int) := IntWalk.u64_in _ (by omega)
      have w2 : IntKind.u8.wrap (((s[j]'hjt).toNat : Int) - 48) = ((s[j]'hjt).toNat : Int) - 48 := IntWalk.u8_in _ (by omega)
      have w3 : IntKind.u64.wrap (((s[j]'hjt).toNat : Int) - 48) = ((s[j]'hjt).toNat : Int) - 48 := IntWalk.u64_in _ (by omega)
      have w4 : IntKind.u64.wrap (10 * (v : Int) + (((s[j]'hjt).toNat : Int) - 48)) = 10 * (v : Int) + (((s[j]'hjt).toNat : Int) - 48) := IntWalk.u64_in _ (by omega)
      have HN : Hid (dvl (10 * v + ((s[j]'hjt).toNat - 48)) (s.data.toList.drop (j + 1)) = dvl 0 s.data.toList) := by
       show _ = _
       rw [<- HD.out, ed.out, dvl, if_pos hd]
      have HV := hmk (HBn.out.next (d := (s[j]'hjt).toNat - 48) (by omega))
      have HE : Hid (10 * (v : Int) + (((s[j]'hjt).toNat : Int) - 48) = ((10 * v + ((s[j]'hjt).toNat - 48) : Nat) : Int)) := by show _ = _; omega
      clear HD ed HBn hd hv
      go_wp2_with fail
      go_roundw
      case rel => exact ⟨j + 1, 10 * v + ((s[j]'hjt).toNat - 48), by omega, by go_num, by rw [<- HE.out], trivial, HV.out, HN⟩
      case measure => simp [RowKit.intOf]; omega
     ·have HN : Hid ((dvl 0 s.data.toList).bind (dfin false) = none) := by
       show _ = _
       rw [<- HD.out, ed.out, dvl, if_neg hd]; rfl
      rw [HN.out]
      by_cases b1 : ((s[j]'hjt).toNat : Int) < 48
      ·clear HD ed HBn hd HN
       go_wp2_with fail
       go_ret2
       exact ⟨rfl, .inr ⟨rfl, rfl⟩⟩
      ·have b2 : (57 : Int) < ((s[j]'hjt).toNat : Int) := by omega
       clear HD ed HBn hd HN
       go_wp2_with fail
       go_ret2
       exact ⟨rfl, .inr ⟨rfl, rfl⟩⟩
    ·have a1 : ¬ (j : Int) < s.size := by omega
     have hjz : j = s.size := by omega
     have HF : Hid ((dvl 0 s.data.toList).bind (dfin false) = dfin false v) := by
      show _ = _
      rw [<- HD.out, drop_endN s j hjt, dvl]; rfl
     have hv := HBn.out.all (by have := HS.out; omega)
     clear HD HBn hjz
     by_cases c2 : 9223372036854775807 < v
     ·have d2 : (9223372036854775807 : Int) < v := by omega
      have HR : Hid (dfin false v = none) := by show _ = _; rw [dfin, if_neg (fun h => by cases h.1), if_pos c2]
      clear c2 hv
      go_wp2_with fail
      go_ret2
      exact ⟨rfl, .inr ⟨HF.out.trans HR.out, rfl⟩⟩
     ·have d2 : ¬ (9223372036854775807 : Int) < v := by omega
      have w5 : IntKind.i64.wrap (v : Int) = (v : Int) := IntWalk.i64_in _ (by omega)
      have HR : Hid (dfin false v = some (v : Int)) := by show _ = _; rw [dfin, if_neg (fun h => by cases h.1), if_neg c2, if_neg (by decide)]
      clear c2 hv
      go_wp2_with fail
      go_ret2
      exact ⟨rfl, .inl ⟨_, HF.out.trans HR.out, rfl⟩⟩
end Go.Proofs.YtdgfjdhobdfglaaGreatDoor
