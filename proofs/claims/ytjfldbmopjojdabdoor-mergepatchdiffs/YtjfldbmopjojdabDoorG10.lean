/- joined: RfE SizA GdP FauA GodA ClrA -/
import Derived.Test.YtjfldbmopjojdabDoorRfD
set_option linter.unusedSimpArgs false
set_option linter.unusedVariables false
namespace Go.Proofs.YtjfldbmopjojdabDoor
open Go.RowKit Go.Lib
set_option maxHeartbeats 8000000 in
set_option maxRecDepth 100000 in
theorem rcheck_wide (R : Bool) (v : V) (depth : Int) (S : Nat → Prop) (cs : List Value) (w : World) (hl : v.lies R w S cs) (hS : ∀ b, S b → b < w.heap.size) (hwt : v.wt ≤ 281474976710656) :
 Calls Tryd.prog 17 #[.agg cs.toArray, .int .i64 depth] w (NPost (chkE v depth) w) := by
 obtain ⟨k, b, i, s, al, nl, cl, am, nm, cm, rfl⟩ := V.ten hl
 by_cases h1 : depth < 0
 ·have HF : Hid (chkE v depth = 2) := by show _ = _; simp [chkE, h1]
  go_enter Tryd.func17, Tryd.ntmps17
  go_wp2_with fail
  go_ret
  rw [HF.out]
  exact ⟨rfl, (Below.refl _ _).alloc (Nat.le_refl _) _⟩
 by_cases h2 : 40 < depth
 ·have HF : Hid (chkE v depth = 2) := by show _ = _; simp [chkE, h2]
  go_enter Tryd.func17, Tryd.ntmps17
  go_wp2_with fail
  go_ret
  rw [HF.out]
  exact ⟨rfl, (Below.refl _ _).alloc (Nat.le_refl _) _⟩
 obtain ⟨D, rfl⟩ : ∃ D : Nat, depth = (D : Int) := ⟨depth.toNat, by omega⟩
 have hD : D ≤ 40 := by omega
 have HF : Hid (chkE v (D : Int) = (chkV D v 0 (0, 0, 0)).1) := by show _ = _; rw [chkE, if_neg (by omega)]; rfl
 have ga : w.grownBy (w.alloc (.cells #[.int .i64 k, .bool b, .int .i64 i, .string s, .slice al nl cl, .slice am nm cm] 25)) none := World.grownBy_alloc _ _ _
 have c := rwalk_wide v R D 0 0 0 0 S _ _ (V.lies_keep (fun h => h) (fun x hx => ga.block x (hS x hx) (by simp)) (fun _ h => h) _ hl) (fun x hx => Nat.lt_of_lt_of_le (hS x hx) ga.size) hwt ⟨by simp, by simp, by simp⟩ hD (by omega)
 go_enter Tryd.func17, Tryd.ntmps17
 go_wp2_with fail
 refine c.mono ?_
 rintro e w1 ⟨a, d, rfl, _, b1⟩
 go_wp2_with fail
 go_ret
 rw [HF.out]
 exact ⟨rfl, (below_of_grown ga).trans ((b1.mono ga.size).alloc (by have := b1.size; have := ga.size; omega) _)⟩
def BeyPost (v : V) (w : World) (e : Ending) (w' : World) : Prop := ∃ r, e = .returned (.bool r) ∧ (r = false → v.wt ≤ 2147483647) ∧ Below w.heap.size w w'
set_option maxHeartbeats 8000000 in
set_option maxRecDepth 100000 in
theorem beyond_any (v : V) (S : Nat → Prop) (cs : List Value) (w : World) (hl : v.lies false w S cs) (hS : ∀ b, S b → b < w.heap.size) : Calls Tryd.prog 4 #[.agg cs.toArray] w (BeyPost v w) := by
 obtain ⟨k, b, i, s, al, nl, cl, am, nm, cm, rfl⟩ := V.ten hl
 have ga : w.grownBy ((w.alloc (.cells #[.int .i64 k, .bool b, .int .i64 i, .string s, .slice al nl cl, .slice am nm cm] 25)).alloc (.cells #[.int .i64 0] 36)) none := grown_alloc (World.grownBy_alloc _ _ _) _
 have hn := alloc2_new w (.cells #[.int .i64 k, .bool b, .int .i64 i, .string s, .slice al nl cl, .slice am nm cm] 25) (.cells #[.int .i64 0] 36)
 have hC : Cnt (w.heap.size + 1) 0 ((w.alloc (.cells #[.int .i64 k, .bool b, .int .i64 i, .string s, .slice al nl cl, .slice am nm cm] 25)).alloc (.cells #[.int .i64 0] 36)) := ⟨by rw [cell_of_block hn]; rfl, frozen_of_block hn 0⟩
 have c := cval_any v (w.heap.size + 1) 0 65520 S _ _ (V.lies_keep (fun h => h) (fun x hx => ga.block x (hS x hx) (by simp)) (fun _ h => h) _ hl) (fun x hx => ⟨by have := hS x hx; omega, Nat.lt_of_lt_of_le (hS x hx) ga.size⟩) hC (by omega) (by omega)
 have e5 : ((65520 : Nat) : Int) = 65520 := rfl
 rw [e5] at c
 go_enter Tryd.func4, Tryd.ntmps4
 go_wp2_with fail
 refine c.mono ?_
 rintro e w1 ⟨r, rfl, g1, h1⟩
 go_wp2_with fail
 go_ret
 exact ⟨r, rfl, fun h => by have := (h1 h).1; omega, (below_of_grown ga).grown g1 ga.size (fun q e => by cases e; omega)⟩
theorem rcheck_any (R : Bool) (v : V) (depth : Int) (S : Nat → Prop) (cs : List Value) (w : World) (hl : v.lies R w S cs) (hS : ∀ b, S b → b < w.heap.size) (hwt : v.wt ≤ 1099511627776) :
 Calls Tryd.prog 17 #[.agg cs.toArray, .int .i64 depth] w (NPost (chkE v depth) w) := rcheck_wide R v depth S cs w hl hS (by omega)
end Go.Proofs.YtjfldbmopjojdabDoor
namespace Go.Proofs.YtjfldbmopjojdabDoor
open Go.RowKit Go.Lib
def okV (v : V) : Bool := decide ((chkV 40 v 0 (0, 0, 0)).1 = 0)
theorem chkE40 (v : V) : chkE v 40 = (chkV 40 v 0 (0, 0, 0)).1 := by rw [chkE, if_neg (by omega)]; rfl
set_option maxHeartbeats 8000000 in
set_option maxRecDepth 100000 in
theorem taken_any (R : Bool) (v : V) (S : Nat → Prop) (cs : List Value) (w : World) (t : Tb w) (hl : v.lies R w S cs) (hS : ∀ b, S b → b < w.heap.size) (hwt : v.wt ≤ 1099511627776) :
 Calls Tryd.prog 35 #[.agg cs.toArray] w (BPost (okV v) w) := by
 obtain ⟨k, b, i, s, al, nl, cl, am, nm, cm, rfl⟩ := V.ten hl
 have ga : w.grownBy (w.alloc (.cells #[.int .i64 k, .bool b, .int .i64 i, .string s, .slice al nl cl, .slice am nm cm] 25)) none := World.grownBy_alloc _ _ _
 have c := check_any R v 40 S _ _ (t.grown ga (fun r e => by cases e)) (V.lies_keep (fun h => h) (fun x hx => ga.block x (hS x hx) (by simp)) (fun _ h => h) _ hl) (fun x hx => Nat.lt_of_lt_of_le (hS x hx) ga.size) hwt
 rw [chkE40] at c
 have HF : Hid (okV v = ((((chkV 40 v 0 (0, 0, 0)).1 : Nat) : Int) == 0)) := by
  show _ = _
  rw [okV, Bool.eq_iff_iff, decide_eq_true_iff, beq_iff_eq]
  omega
 generalize (chkV 40 v 0 (0, 0, 0)).1 = z at *
 go_enter Tryd.func35, Tryd.ntmps35
 go_wp2_with fail
 refine c.mono ?_
 rintro e w1 ⟨rfl, b1⟩
 go_wp2_with fail
 go_ret
 refine ⟨?_, (below_of_grown ga).trans (b1.mono ga.size)⟩
 rw [HF.out]
 rfl
set_option maxHeartbeats 8000000 in
set_option maxRecDepth 100000 in
theorem rtaken_any (R : Bool) (v : V) (S : Nat → Prop) (cs : List Value) (w : World) (hl : v.lies R w S cs) (hS : ∀ b, S b → b < w.heap.size) (hwt : v.wt ≤ 1099511627776) :
 Calls Tryd.prog 32 #[.agg cs.toArray] w (BPost (okV v) w) := by
 obtain ⟨k, b, i, s, al, nl, cl, am, nm, cm, rfl⟩ := V.ten hl
 have ga : w.grownBy (w.alloc (.cells #[.int .i64 k, .bool b, .int .i64 i, .string s, .slice al nl cl, .slice am nm cm] 25)) none := World.grownBy_alloc _ _ _
 have c := rcheck_any R v 40 S _ _ (V.lies_keep (fun h => h) (fun x hx => ga.block x (hS x hx) (by simp)) (fun _ h => h) _ hl) (fun x hx => Nat.lt_of_lt_of_le (hS x hx) ga.size) hwt
 rw [chkE40] at c
 have HF : Hid (okV v = ((((chkV 40 v 0 (0, 0, 0)).1 : Nat) : Int) == 0)) := by
  show _ = _
  rw [okV, Bool.eq_iff_iff, decide_eq_true_iff, beq_iff_eq]
  omega
 generalize (chkV 40 v 0 (0, 0, 0)).1 = z at *
 go_enter Tryd.func32, Tryd.ntmps32
 go_wp2_with fail
 refine c.mono ?_
 rintro e w1 ⟨rfl, b1⟩
 go_wp2_with fail
 go_ret
 refine ⟨?_, (below_of_grown ga).trans (b1.mono ga.size)⟩
 rw [HF.out]
 rfl
end Go.Proofs.YtjfldbmopjojdabDoor
namespace Go.Proofs.YtjfldbmopjojdabDoor
open Go.RowKit Go.Lib
theorem u8_tri (x y : UInt8) (h1 : ¬ x < y) (h2 : ¬ y < x) : x = y := by
 rcases Nat.lt_trichotomy x.toNat y.toNat with h | h | h
 ·exact absurd h h1
 ·exact UInt8.toNat_inj.1 h
 ·exact absurd h h2
theorem cmp_trans : ∀ a b c : List UInt8, compareBytes a b = -1 → compareBytes b c = -1 → compareBytes a c = -1
 | [], [], c, h, _ => by simp [compareBytes] at h
 | [], _ :: _, [], _, h => by simp [compareBytes] at h
 | [], _ :: _, _ :: _, _, _ => by simp [compareBytes]
 | _ :: _, [], c, h, _ => by simp [compareBytes] at h
 | _ :: _, _ :: _, [], _, h => by simp [compareBytes] at h
 | x :: t, y :: u, z :: v, h, h' => by
  rw [compareBytes] at h h' ⊢
  by_cases h1 : x < y
  ·by_cases h2 : y < z
   ·rw [if_pos (show x < z from Nat.lt_trans h1 h2)]
   ·rw [if_neg h2] at h'
    by_cases h3 : z < y
    ·rw [if_pos h3] at h'; simp at h'
    ·rw [← u8_tri y z h2 h3, if_pos h1]
  ·rw [if_neg h1] at h
   by_cases h3 : y < x
   ·rw [if_pos h3] at h; simp at h
   ·rw [if_neg h3] at h
    have e := u8_tri x y h1 h3
    subst e
    by_cases h2 : x < z
    ·rw [if_pos h2]
    ·rw [if_neg h2] at h' ⊢
     by_cases h4 : z < x
     ·rw [if_pos h4] at h'; simp at h'
     ·rw [if_neg h4] at h' ⊢
      exact cmp_trans t u v h h'
theorem ltB_cmp (a b : ByteArray) : ltB a b = true ↔ cmpS a b = -1 := by
 rw [ltB, less_cmp, cmpS, toList_data, toList_data]; simp
theorem ltB_trans {a b c : ByteArray} (h : ltB a b = true) (h' : ltB b c = true) : ltB a c = true := by
 rw [ltB_cmp] at *; exact cmp_trans _ _ _ h h'
def Srt (l : List Mem) : Prop := l.Pairwise (fun a b => ltB a.1 b.1 = true)
end Go.Proofs.YtjfldbmopjojdabDoor
namespace Go.Proofs.YtjfldbmopjojdabDoor
open Go.RowKit
theorem headed_nil : Headed none ([] : List V).length 0 0 0 := ⟨Nat.le_refl _, by simp [maxLen], .inl rfl, fun _ => rfl⟩
end Go.Proofs.YtjfldbmopjojdabDoor
namespace Go.Proofs.YtjfldbmopjojdabDoor
open Go.RowKit
def New (w w' : World) (x : Nat) : Prop := w.heap.size ≤ x ∧ x < w'.heap.size
theorem lies_S {W : World} {S : Nat → Prop} {k i : Int} {b : Bool} {s : ByteArray} {l : List V} {m : List Mem} {al am : Option Addr} {cl bl ol cm bm om nl nm : Nat} (hk : In64 k) (hi : In64 i) (hs : s.size ≤ maxLen) (hal : Headed al nl cl bl ol) (ham : Headed am nm cm bm om) (hl : liesL false W S l bl ol) (hm : liesM false W S m bm om) (e1 : nl = l.length := by rfl) (e2 : nm = m.length := by rfl) :
 (V.mk k b i s l m).lies false W S [.int .i64 k, .bool b, .int .i64 i, .string s, .slice al nl cl, .slice am nm cm] := by
 subst e1 e2
 rw [V.lies]
 exact ⟨al, cl, bl, ol, am, cm, bm, om, rfl, hk, hi, hs, hal, ham, hl, hm, fun h => by cases h⟩
end Go.Proofs.YtjfldbmopjojdabDoor
namespace Go.Proofs.YtjfldbmopjojdabDoor
open Go.RowKit Go.Lib
theorem two_below (w : World) (o o' : Obj) : Below w.heap.size w ((w.alloc o).alloc o') := ((Below.refl _ _).alloc (Nat.le_refl _) _).alloc (by rw [alloc_size]; omega) _
end Go.Proofs.YtjfldbmopjojdabDoor
