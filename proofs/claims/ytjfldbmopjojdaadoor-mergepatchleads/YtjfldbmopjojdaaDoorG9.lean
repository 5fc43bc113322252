/- joined: GdP FauA GodA ClrA -/
import Derived.Test.YtjfldbmopjojdaaDoorG8
set_option linter.unusedSimpArgs false
set_option linter.unusedVariables false
namespace Go.Proofs.YtjfldbmopjojdaaDoor
open Go.RowKit Go.Lib
theorem u8_tri (x y : UInt8) (h1 : ¬ x < y) (h2 : ¬ y < x) : x = y := by
 rcases Nat.lt_trichotomy x.toNat y.toNat with h | h | h
 ·exact absurd h h1
 ·exact UInt8.toNat_inj.1 h
 ·exact absurd h h2
theorem cmp_trans : ∀ a b c : List UInt8, compareBytes a b = -1 → compareBytes b c = -1 → compareBytes a c = -1
 | [], [], c, h, _ => by simp [compareBytes] at h
 | [], _ :: _, [], _, h => by simp [compareBytes] at h
 | [], _ :: _, _ :: _, _, _ => by simp [compareBytes]
 | _ :: _, [], c, h, _ => by simp [compareBytes] at h
 | _ :: _, _ :: _, [], _, h => by simp [compareBytes] at h
 | x :: t, y :: u, z :: v, h, h' => by
  rw [compareBytes] at h h' ⊢
  by_cases h1 : x < y
  ·by_cases h2 : y < z
   ·rw [if_pos (show x < z from Nat.lt_trans h1 h2)]
   ·rw [if_neg h2] at h'
    by_cases h3 : z < y
    ·rw [if_pos h3] at h'; simp at h'
    ·rw [← u8_tri y z h2 h3, if_pos h1]
  ·rw [if_neg h1] at h
   by_cases h3 : y < x
   ·rw [if_pos h3] at h; simp at h
   ·rw [if_neg h3] at h
    have e := u8_tri x y h1 h3
    subst e
    by_cases h2 : x < z
    ·rw [if_pos h2]
    ·rw [if_neg h2] at h' ⊢
     by_cases h4 : z < x
     ·rw [if_pos h4] at h'; simp at h'
     ·rw [if_neg h4] at h' ⊢
      exact cmp_trans t u v h h'
theorem ltB_cmp (a b : ByteArray) : ltB a b = true ↔ cmpS a b = -1 := by
 rw [ltB, less_cmp, cmpS, toList_data, toList_data]; simp
theorem ltB_trans {a b c : ByteArray} (h : ltB a b = true) (h' : ltB b c = true) : ltB a c = true := by
 rw [ltB_cmp] at *; exact cmp_trans _ _ _ h h'
def Srt (l : List Mem) : Prop := l.Pairwise (fun a b => ltB a.1 b.1 = true)
end Go.Proofs.YtjfldbmopjojdaaDoor
namespace Go.Proofs.YtjfldbmopjojdaaDoor
open Go.RowKit
theorem headed_nil : Headed none ([] : List V).length 0 0 0 := ⟨Nat.le_refl _, by simp [maxLen], .inl rfl, fun _ => rfl⟩
end Go.Proofs.YtjfldbmopjojdaaDoor
namespace Go.Proofs.YtjfldbmopjojdaaDoor
open Go.RowKit
def New (w w' : World) (x : Nat) : Prop := w.heap.size ≤ x ∧ x < w'.heap.size
theorem lies_S {W : World} {S : Nat → Prop} {k i : Int} {b : Bool} {s : ByteArray} {l : List V} {m : List Mem} {al am : Option Addr} {cl bl ol cm bm om nl nm : Nat} (hk : In64 k) (hi : In64 i) (hs : s.size ≤ maxLen) (hal : Headed al nl cl bl ol) (ham : Headed am nm cm bm om) (hl : liesL false W S l bl ol) (hm : liesM false W S m bm om) (e1 : nl = l.length := by rfl) (e2 : nm = m.length := by rfl) :
 (V.mk k b i s l m).lies false W S [.int .i64 k, .bool b, .int .i64 i, .string s, .slice al nl cl, .slice am nm cm] := by
 subst e1 e2
 rw [V.lies]
 exact ⟨al, cl, bl, ol, am, cm, bm, om, rfl, hk, hi, hs, hal, ham, hl, hm, fun h => by cases h⟩
end Go.Proofs.YtjfldbmopjojdaaDoor
namespace Go.Proofs.YtjfldbmopjojdaaDoor
open Go.RowKit Go.Lib
theorem two_below (w : World) (o o' : Obj) : Below w.heap.size w ((w.alloc o).alloc o') := ((Below.refl _ _).alloc (Nat.le_refl _) _).alloc (by rw [alloc_size]; omega) _
end Go.Proofs.YtjfldbmopjojdaaDoor
