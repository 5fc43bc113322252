/- joined: RfD RfE SizA GdP FauA GodA ClrA -/
import Derived.Lib.ValidLaws
import Derived.Deep.Cut
import Derived.Test.YtjfldbmopjojdaaDoorG6
import Derived.Laws.ResultCell
set_option linter.unusedSimpArgs false
set_option linter.unusedVariables false
namespace Go.Proofs.YtjfldbmopjojdaaDoor
open Go.RowKit Go.Lib
structure RwF (w : World) (box : Array Value) (n y : Nat) (wr : World) : Prop where
 below : Below w.heap.size w wr
 b0 : wr.heap[w.heap.size]? = some (.cells box 25 (0, 0))
 b1 : wr.heap[w.heap.size + 1]? = some (.cells #[.int .i64 (n : Int), .int .i64 (y : Int)] 75 (0, 0))
 b2 : wr.heap[w.heap.size + 1 + 1]? = some (.cells #[.int .i64 0, .int .i64 0] 75 (0, 0))
theorem RwF.lt {w : World} {box : Array Value} {n y : Nat} {wr : World} (h : RwF w box n y wr) : w.heap.size + 3 ≤ wr.heap.size := (Array.getElem?_eq_some_iff.1 h.b2).1
theorem RwF.grown {w : World} {box : Array Value} {n y : Nat} {wr wr' : World} (h : RwF w box n y wr) (g : wr.grownBy wr' none) : RwF w box n y wr' := by
 have hs := h.lt
 exact ⟨h.below.grown g (by omega) (fun r e => by cases e), (g.block _ (by omega) (by simp)).trans h.b0, (g.block _ (by omega) (by simp)).trans h.b1, (g.block _ (by omega) (by simp)).trans h.b2⟩
theorem RwF.set {w : World} {box : Array Value} {n y n' y' : Nat} {wr : World} (h : RwF w box n y wr) (i : Nat) (u : Value) (e : (#[.int .i64 (n : Int), .int .i64 (y : Int)] : Array Value).setIfInBounds i u = #[.int .i64 (n' : Int), .int .i64 (y' : Int)]) : RwF w box n' y' (wr.setCell ⟨w.heap.size + 1, i, none⟩ u) := by
 have hs := h.lt
 have g := grown_set1 wr (w.heap.size + 1) i u
 have hn : ∀ q, q ≠ w.heap.size + 1 → some q ≠ some (w.heap.size + 1) := fun q hq e => hq (Option.some.inj e)
 refine ⟨h.below.grown g (by omega) (fun r e => by cases e; omega), (g.block _ (by omega) (hn _ (by omega))).trans h.b0, ?_, (g.block _ (by omega) (hn _ (by omega))).trans h.b2⟩
 rw [set_block h.b1, e]
end Go.Proofs.YtjfldbmopjojdaaDoor
namespace Go.Proofs.YtjfldbmopjojdaaDoor
open Go.RowKit Go.Lib
def BeyPost (v : V) (w : World) (e : Ending) (w' : World) : Prop := ∃ r, e = .returned (.bool r) ∧ (r = false → v.wt ≤ 2147483647) ∧ Below w.heap.size w w'
set_option maxHeartbeats 8000000 in
set_option maxRecDepth 100000 in
theorem beyond_any (v : V) (S : Nat → Prop) (cs : List Value) (w : World) (hl : v.lies false w S cs) (hS : ∀ b, S b → b < w.heap.size) : Calls Tryd.prog 9 #[.agg cs.toArray] w (BeyPost v w) := by
 obtain ⟨k, b, i, s, al, nl, cl, am, nm, cm, rfl⟩ := V.ten hl
 have ga : w.grownBy ((w.alloc (.cells #[.int .i64 k, .bool b, .int .i64 i, .string s, .slice al nl cl, .slice am nm cm] 25)).alloc (.cells #[.int .i64 0] 54)) none := grown_alloc (World.grownBy_alloc _ _ _) _
 have hn := alloc2_new w (.cells #[.int .i64 k, .bool b, .int .i64 i, .string s, .slice al nl cl, .slice am nm cm] 25) (.cells #[.int .i64 0] 54)
 have hC : Cnt (w.heap.size + 1) 0 ((w.alloc (.cells #[.int .i64 k, .bool b, .int .i64 i, .string s, .slice al nl cl, .slice am nm cm] 25)).alloc (.cells #[.int .i64 0] 54)) := ⟨by rw [cell_of_block hn]; rfl, frozen_of_block hn 0⟩
 have c := cval_any v (w.heap.size + 1) 0 65520 S _ _ (V.lies_keep (fun h => h) (fun x hx => ga.block x (hS x hx) (by simp)) (fun _ h => h) _ hl) (fun x hx => ⟨by have := hS x hx; omega, Nat.lt_of_lt_of_le (hS x hx) ga.size⟩) hC (by omega) (by omega)
 have e5 : ((65520 : Nat) : Int) = 65520 := rfl
 rw [e5] at c
 go_enter Tryd.func9, Tryd.ntmps9
 go_wp2_with fail
 refine c.mono ?_
 rintro e w1 ⟨r, rfl, g1, h1⟩
 go_wp2_with fail
 go_ret
 exact ⟨r, rfl, fun h => by have := (h1 h).1; omega, (below_of_grown ga).grown g1 ga.size (fun q e => by cases e; omega)⟩
end Go.Proofs.YtjfldbmopjojdaaDoor
namespace Go.Proofs.YtjfldbmopjojdaaDoor
open Go.RowKit Go.Lib
def okV (v : V) : Bool := decide ((chkV 40 v 0 (0, 0, 0)).1 = 0)
theorem chkE40 (v : V) : chkE v 40 = (chkV 40 v 0 (0, 0, 0)).1 := by rw [chkE, if_neg (by omega)]; rfl
set_option maxHeartbeats 8000000 in
set_option maxRecDepth 100000 in
theorem taken_any (R : Bool) (v : V) (S : Nat → Prop) (cs : List Value) (w : World) (t : Tb w) (hl : v.lies R w S cs) (hS : ∀ b, S b → b < w.heap.size) (hwt : v.wt ≤ 1099511627776) :
 Calls Tryd.prog 43 #[.agg cs.toArray] w (BPost (okV v) w) := by
 obtain ⟨k, b, i, s, al, nl, cl, am, nm, cm, rfl⟩ := V.ten hl
 have ga : w.grownBy (w.alloc (.cells #[.int .i64 k, .bool b, .int .i64 i, .string s, .slice al nl cl, .slice am nm cm] 25)) none := World.grownBy_alloc _ _ _
 have c := check_any R v 40 S _ _ (t.grown ga (fun r e => by cases e)) (V.lies_keep (fun h => h) (fun x hx => ga.block x (hS x hx) (by simp)) (fun _ h => h) _ hl) (fun x hx => Nat.lt_of_lt_of_le (hS x hx) ga.size) hwt
 rw [chkE40] at c
 have HF : Hid (okV v = ((((chkV 40 v 0 (0, 0, 0)).1 : Nat) : Int) == 0)) := by
  show _ = _
  rw [okV, Bool.eq_iff_iff, decide_eq_true_iff, beq_iff_eq]
  omega
 generalize (chkV 40 v 0 (0, 0, 0)).1 = z at *
 go_enter Tryd.func43, Tryd.ntmps43
 go_wp2_with fail
 refine c.mono ?_
 rintro e w1 ⟨rfl, b1⟩
 go_wp2_with fail
 go_ret
 refine ⟨?_, (below_of_grown ga).trans (b1.mono ga.size)⟩
 rw [HF.out]
 rfl
end Go.Proofs.YtjfldbmopjojdaaDoor
namespace Go.Proofs.YtjfldbmopjojdaaDoor
open Go.RowKit Go.Lib
theorem u8_tri (x y : UInt8) (h1 : ¬ x < y) (h2 : ¬ y < x) : x = y := by
 rcases Nat.lt_trichotomy x.toNat y.toNat with h | h | h
 ·exact absurd h h1
 ·exact UInt8.toNat_inj.1 h
 ·exact absurd h h2
theorem cmp_trans : ∀ a b c : List UInt8, compareBytes a b = -1 → compareBytes b c = -1 → compareBytes a c = -1
 | [], [], c, h, _ => by simp [compareBytes] at h
 | [], _ :: _, [], _, h => by simp [compareBytes] at h
 | [], _ :: _, _ :: _, _, _ => by simp [compareBytes]
 | _ :: _, [], c, h, _ => by simp [compareBytes] at h
 | _ :: _, _ :: _, [], _, h => by simp [compareBytes] at h
 | x :: t, y :: u, z :: v, h, h' => by
  rw [compareBytes] at h h' ⊢
  by_cases h1 : x < y
  ·by_cases h2 : y < z
   ·rw [if_pos (show x < z from Nat.lt_trans h1 h2)]
   ·rw [if_neg h2] at h'
    by_cases h3 : z < y
    ·rw [if_pos h3] at h'; simp at h'
    ·rw [← u8_tri y z h2 h3, if_pos h1]
  ·rw [if_neg h1] at h
   by_cases h3 : y < x
   ·rw [if_pos h3] at h; simp at h
   ·rw [if_neg h3] at h
    have e := u8_tri x y h1 h3
    subst e
    by_cases h2 : x < z
    ·rw [if_pos h2]
    ·rw [if_neg h2] at h' ⊢
     by_cases h4 : z < x
     ·rw [if_pos h4] at h'; simp at h'
     ·rw [if_neg h4] at h' ⊢
      exact cmp_trans t u v h h'
theorem ltB_cmp (a b : ByteArray) : ltB a b = true ↔ cmpS a b = -1 := by
 rw [ltB, less_cmp, cmpS, toList_data, toList_data]; simp
theorem ltB_trans {a b c : ByteArray} (h : ltB a b = true) (h' : ltB b c = true) : ltB a c = true := by
 rw [ltB_cmp] at *; exact cmp_trans _ _ _ h h'
def Srt (l : List Mem) : Prop := l.Pairwise (fun a b => ltB a.1 b.1 = true)
end Go.Proofs.YtjfldbmopjojdaaDoor
namespace Go.Proofs.YtjfldbmopjojdaaDoor
open Go.RowKit
theorem headed_nil : Headed none ([] : List V).length 0 0 0 := ⟨Nat.le_refl _, by simp [maxLen], .inl rfl, fun _ => rfl⟩
end Go.Proofs.YtjfldbmopjojdaaDoor
namespace Go.Proofs.YtjfldbmopjojdaaDoor
open Go.RowKit
def New (w w' : World) (x : Nat) : Prop := w.heap.size ≤ x ∧ x < w'.heap.size
theorem lies_S {W : World} {S : Nat → Prop} {k i : Int} {b : Bool} {s : ByteArray} {l : List V} {m : List Mem} {al am : Option Addr} {cl bl ol cm bm om nl nm : Nat} (hk : In64 k) (hi : In64 i) (hs : s.size ≤ maxLen) (hal : Headed al nl cl bl ol) (ham : Headed am nm cm bm om) (hl : liesL false W S l bl ol) (hm : liesM false W S m bm om) (e1 : nl = l.length := by rfl) (e2 : nm = m.length := by rfl) :
 (V.mk k b i s l m).lies false W S [.int .i64 k, .bool b, .int .i64 i, .string s, .slice al nl cl, .slice am nm cm] := by
 subst e1 e2
 rw [V.lies]
 exact ⟨al, cl, bl, ol, am, cm, bm, om, rfl, hk, hi, hs, hal, ham, hl, hm, fun h => by cases h⟩
end Go.Proofs.YtjfldbmopjojdaaDoor
namespace Go.Proofs.YtjfldbmopjojdaaDoor
open Go.RowKit Go.Lib
theorem two_below (w : World) (o o' : Obj) : Below w.heap.size w ((w.alloc o).alloc o') := ((Below.refl _ _).alloc (Nat.le_refl _) _).alloc (by rw [alloc_size]; omega) _
end Go.Proofs.YtjfldbmopjojdaaDoor
