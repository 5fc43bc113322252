/- joined: ChkE OrdP OrdA AllG BytA PutB RfD RfE SizA -/
import Derived.Test.YtjfldbmopjojdaaDoorChkD
import Derived.Lib.Bytealg
import Derived.Shelf.Small.Strs
import Derived.Deep.AppendLies
import Derived.Laws.IdiomStrings
import Derived.Laws.BytesArg
import Derived.Lib.UnsafeStr
import Derived.Lib.ValidLaws
import Derived.Deep.Cut
import Derived.Laws.ResultCell
import Derived.Deep.RegionHeld3
set_option linter.unusedSimpArgs false
set_option linter.unusedVariables false
namespace Go.Proofs.YtjfldbmopjojdaaDoor
open Go.RowKit Go.Lib
def chkE (v : V) (depth : Int) : Nat := if depth < 0 ∨ 40 < depth then 2 else (chkV depth.toNat v 0 (0, 0, 0)).1
def NPost (r : Nat) (w : World) (e : Ending) (w' : World) : Prop := e = .returned (.int .i64 (r : Int)) ∧ Below w.heap.size w w'
set_option maxHeartbeats 8000000 in
set_option maxRecDepth 100000 in
theorem check_wide (R : Bool) (v : V) (depth : Int) (S : Nat → Prop) (cs : List Value) (w : World) (t : Tb w) (hl : v.lies R w S cs) (hS : ∀ b, S b → b < w.heap.size) (hwt : v.wt ≤ 281474976710656) :
 Calls Tryd.prog 38 #[.agg cs.toArray, .int .i64 depth] w (NPost (chkE v depth) w) := by
 obtain ⟨k, b, i, s, al, nl, cl, am, nm, cm, rfl⟩ := V.ten hl
 by_cases h1 : depth < 0
 ·have HF : Hid (chkE v depth = 2) := by show _ = _; simp [chkE, h1]
  go_enter Tryd.func38, Tryd.ntmps38
  go_wp2_with fail
  go_ret
  rw [HF.out]
  exact ⟨rfl, (Below.refl _ _).alloc (Nat.le_refl _) _⟩
 by_cases h2 : 40 < depth
 ·have HF : Hid (chkE v depth = 2) := by show _ = _; simp [chkE, h2]
  go_enter Tryd.func38, Tryd.ntmps38
  go_wp2_with fail
  go_ret
  rw [HF.out]
  exact ⟨rfl, (Below.refl _ _).alloc (Nat.le_refl _) _⟩
 obtain ⟨D, rfl⟩ : ∃ D : Nat, depth = (D : Int) := ⟨depth.toNat, by omega⟩
 have hD : D ≤ 40 := by omega
 have HF : Hid (chkE v (D : Int) = (chkV D v 0 (0, 0, 0)).1) := by show _ = _; rw [chkE, if_neg (by omega)]; rfl
 have ga : w.grownBy ((w.alloc (.cells #[.int .i64 k, .bool b, .int .i64 i, .string s, .slice al nl cl, .slice am nm cm] 25)).alloc (.cells #[.int .i64 (D : Int), .int .i64 0, .int .i64 0, .int .i64 0] 65)) none := grown_alloc (World.grownBy_alloc _ _ _) _
 have hk : ∀ x, S x → ((w.alloc (.cells #[.int .i64 k, .bool b, .int .i64 i, .string s, .slice al nl cl, .slice am nm cm] 25)).alloc (.cells #[.int .i64 (D : Int), .int .i64 0, .int .i64 0, .int .i64 0] 65)).heap[x]? = w.heap[x]? := fun x hx => ga.block x (hS x hx) (by simp)
 have c := visit_wide v R (w.heap.size + 1) D 0 (0, 0, 0) S _ _ (t.grown ga (fun r e => by cases e)) (V.lies_keep (fun h => h) hk (fun _ h => h) _ hl) (fun x hx => ⟨by have := hS x hx; omega, Nat.lt_of_lt_of_le (hS x hx) ga.size⟩) ⟨alloc2_new w _ _⟩ (by have := t.z; omega) hwt ⟨by simp, by simp, by simp⟩ hD (by omega)
 go_enter Tryd.func38, Tryd.ntmps38
 go_wp2_with fail
 refine c.mono ?_
 rintro e w1 ⟨rfl, _, g1⟩
 go_wp2_with fail
 go_ret
 rw [HF.out]
 exact ⟨rfl, (below_of_grown ga).grown g1 ga.size (fun r e => by cases e; omega)⟩
theorem check_any (R : Bool) (v : V) (depth : Int) (S : Nat → Prop) (cs : List Value) (w : World) (t : Tb w) (hl : v.lies R w S cs) (hS : ∀ b, S b → b < w.heap.size) (hwt : v.wt ≤ 1099511627776) :
 Calls Tryd.prog 38 #[.agg cs.toArray, .int .i64 depth] w (NPost (chkE v depth) w) := check_wide R v depth S cs w t hl hS (by omega)
end Go.Proofs.YtjfldbmopjojdaaDoor
namespace Go.Proofs.YtjfldbmopjojdaaDoor
open Go.RowKit Go.Lib
def cmpS (a b : ByteArray) : Int := Lib.compareBytes a.data.toList b.data.toList
end Go.Proofs.YtjfldbmopjojdaaDoor
namespace Go.Proofs.YtjfldbmopjojdaaDoor
open Go.RowKit Go.Lib
theorem alloc2_keep1 (w : World) (o o' : Obj) : ((w.alloc o).alloc o').heap[w.heap.size]? = some o := by
 have h := heap_alloc_new w o
 have hl := (Array.getElem?_eq_some_iff.1 h).1
 exact (Below.heap_alloc (w.alloc o) o' w.heap.size hl).trans h
end Go.Proofs.YtjfldbmopjojdaaDoor
namespace Go.Proofs.YtjfldbmopjojdaaDoor
open Go.RowKit Go.Lib
mutual
def allG : V → Prop
 | .mk k b i s l m => goodB k b i s l.length m = true ∧ allGL l ∧ allGM m
def allGL : List V → Prop
 | [] => True
 | x :: t => allG x ∧ allGL t
def allGM : List Mem → Prop
 | [] => True
 | (_, x) :: t => allG x ∧ allGM t
end
theorem entF_good {D n y d lv : Nat} {g : Bool} {z : Nat} (h : (entF D n y d lv g z).1 = 0) : g = true := by
 unfold entF at h
 split at h
 ·simp at h
 split at h
 ·simp at h
 split at h
 ·simp at h
 ·rename_i h3; cases g <;> simp_all
mutual
theorem chkV_allG (D : Nat) : ∀ (v : V) (lv : Nat) (st : St), (chkV D v lv st).1 = 0 → allG v
 | .mk k b i s l m, lv, st, h => by
  rw [chkV] at h
  rw [allG]
  by_cases h1 : (entF D st.1 st.2.1 st.2.2 lv (goodB k b i s l.length m) (s.size + keyB m)).1 = 0
  ·simp only [h1, if_true] at h
   by_cases h2 : (chkL D l (lv + 1) (entF D st.1 st.2.1 st.2.2 lv (goodB k b i s l.length m) (s.size + keyB m)).2).1 = 0
   ·simp only [h2, if_true] at h
    exact ⟨entF_good h1, chkL_allG D l (lv + 1) _ h2, chkM_allG D m (lv + 1) _ h⟩
   ·simp only [h2, if_false] at h
  ·simp only [h1, if_false] at h
theorem chkL_allG (D : Nat) : ∀ (l : List V) (lv : Nat) (st : St), (chkL D l lv st).1 = 0 → allGL l
 | [], lv, st, h => by rw [allGL]; trivial
 | x :: t, lv, st, h => by
  rw [chkL] at h
  rw [allGL]
  by_cases h1 : (chkV D x lv st).1 = 0
  ·rw [if_pos h1] at h
   exact ⟨chkV_allG D x lv st h1, chkL_allG D t lv _ h⟩
  ·rw [if_neg h1] at h
   exact absurd h h1
theorem chkM_allG (D : Nat) : ∀ (l : List Mem) (lv : Nat) (st : St), (chkM D l lv st).1 = 0 → allGM l
 | [], lv, st, h => by rw [allGM]; trivial
 | (_, x) :: t, lv, st, h => by
  rw [chkM] at h
  rw [allGM]
  by_cases h1 : (chkV D x lv st).1 = 0
  ·rw [if_pos h1] at h
   exact ⟨chkV_allG D x lv st h1, chkM_allG D t lv _ h⟩
  ·rw [if_neg h1] at h
   exact absurd h h1
end
theorem toList_data (a : ByteArray) : a.toList = a.data.toList := ByteArray.toList_eq a
theorem less_cmp : ∀ a b : List UInt8, Op.bytesLess a b = decide (compareBytes a b = -1)
 | [], [] => by simp [Op.bytesLess, compareBytes]
 | [], _ :: _ => by simp [Op.bytesLess, compareBytes]
 | _ :: _, [] => by simp [Op.bytesLess, compareBytes]
 | x :: t, y :: u => by
  have ih := less_cmp t u
  simp only [Op.bytesLess, compareBytes]
  by_cases h1 : x < y
  ·simp [h1]
  ·by_cases h2 : y < x
   ·have hne : x ≠ y := fun e => by subst e; exact h1 h2
    simp [h1, h2, hne]
   ·have he : x = y := by
     rcases Nat.lt_trichotomy x.toNat y.toNat with h | h | h
     ·exact absurd h h1
     ·exact UInt8.toNat_inj.1 h
     ·exact absurd h h2
    subst he
    simp [h1, ih]
end Go.Proofs.YtjfldbmopjojdaaDoor
namespace Go.Proofs.YtjfldbmopjojdaaDoor
open Go.RowKit
def Own (B : Nat) (v : Value) (l : List UInt8) (w : World) : Prop := w.ownsRow B 5 1 v l.length (Lib.byteCells l)
theorem Own.alloc {B : Nat} {v : Value} {l : List UInt8} {w : World} (h : Own B v l w) (o : Obj) : Own B v l (w.alloc o) := World.ownsRow.alloc h o
theorem Own.nil (B : Nat) (w : World) : Own B (.slice none 0 0) [] w := World.ownsRow_nil w B 5 1
end Go.Proofs.YtjfldbmopjojdaaDoor
namespace Go.Proofs.YtjfldbmopjojdaaDoor
open Go.RowKit
theorem OwnM.out {w w0 : World} {S T : Nat → Prop} {g n cap : Nat} {l : List Mem} (h : OwnM false w 0 S (.slice (some ⟨g, 0, none⟩) n cap) (l.map some)) (hn : n = l.length) (hST : ∀ x, S x → T x) (hg : w0.heap.size ≤ g) : Headed (some ⟨g, 0, none⟩) l.length cap g 0 ∧ liesM false w (fun y => T y ∨ (w0.heap.size ≤ y ∧ y < w.heap.size)) l g 0 := by
 have h1 := h.le
 have h2 := h.lt (g := g) rfl
 simp only [List.length_map] at h1
 refine ⟨⟨h1.1, h1.2, .inr rfl, fun h => by cases h⟩, liesM_mk fun j hj => ?_⟩
 obtain ⟨cs, r1, r2⟩ := h.at (by simp [hn]) j (by simpa using hj)
 rw [List.getElem_map] at r2
 obtain ⟨cs', rfl, hk, r3⟩ := r2
 exact ⟨.inr ⟨hg, h2.2⟩, hk, cs', r1, V.lies_keep (fun h => h) (fun _ _ => rfl) (fun b hb => .inl (hST b hb)) _ r3⟩
end Go.Proofs.YtjfldbmopjojdaaDoor
namespace Go.Proofs.YtjfldbmopjojdaaDoor
open Go.RowKit Go.Lib
structure RwF (w : World) (box : Array Value) (n y : Nat) (wr : World) : Prop where
 below : Below w.heap.size w wr
 b0 : wr.heap[w.heap.size]? = some (.cells box 25 (0, 0))
 b1 : wr.heap[w.heap.size + 1]? = some (.cells #[.int .i64 (n : Int), .int .i64 (y : Int)] 75 (0, 0))
 b2 : wr.heap[w.heap.size + 1 + 1]? = some (.cells #[.int .i64 0, .int .i64 0] 75 (0, 0))
theorem RwF.lt {w : World} {box : Array Value} {n y : Nat} {wr : World} (h : RwF w box n y wr) : w.heap.size + 3 ≤ wr.heap.size := (Array.getElem?_eq_some_iff.1 h.b2).1
theorem RwF.grown {w : World} {box : Array Value} {n y : Nat} {wr wr' : World} (h : RwF w box n y wr) (g : wr.grownBy wr' none) : RwF w box n y wr' := by
 have hs := h.lt
 exact ⟨h.below.grown g (by omega) (fun r e => by cases e), (g.block _ (by omega) (by simp)).trans h.b0, (g.block _ (by omega) (by simp)).trans h.b1, (g.block _ (by omega) (by simp)).trans h.b2⟩
theorem RwF.set {w : World} {box : Array Value} {n y n' y' : Nat} {wr : World} (h : RwF w box n y wr) (i : Nat) (u : Value) (e : (#[.int .i64 (n : Int), .int .i64 (y : Int)] : Array Value).setIfInBounds i u = #[.int .i64 (n' : Int), .int .i64 (y' : Int)]) : RwF w box n' y' (wr.setCell ⟨w.heap.size + 1, i, none⟩ u) := by
 have hs := h.lt
 have g := grown_set1 wr (w.heap.size + 1) i u
 have hn : ∀ q, q ≠ w.heap.size + 1 → some q ≠ some (w.heap.size + 1) := fun q hq e => hq (Option.some.inj e)
 refine ⟨h.below.grown g (by omega) (fun r e => by cases e; omega), (g.block _ (by omega) (hn _ (by omega))).trans h.b0, ?_, (g.block _ (by omega) (hn _ (by omega))).trans h.b2⟩
 rw [set_block h.b1, e]
end Go.Proofs.YtjfldbmopjojdaaDoor
namespace Go.Proofs.YtjfldbmopjojdaaDoor
open Go.RowKit Go.Lib
def BeyPost (v : V) (w : World) (e : Ending) (w' : World) : Prop := ∃ r, e = .returned (.bool r) ∧ (r = false → v.wt ≤ 2147483647) ∧ Below w.heap.size w w'
set_option maxHeartbeats 8000000 in
set_option maxRecDepth 100000 in
theorem beyond_any (v : V) (S : Nat → Prop) (cs : List Value) (w : World) (hl : v.lies false w S cs) (hS : ∀ b, S b → b < w.heap.size) : Calls Tryd.prog 9 #[.agg cs.toArray] w (BeyPost v w) := by
 obtain ⟨k, b, i, s, al, nl, cl, am, nm, cm, rfl⟩ := V.ten hl
 have ga : w.grownBy ((w.alloc (.cells #[.int .i64 k, .bool b, .int .i64 i, .string s, .slice al nl cl, .slice am nm cm] 25)).alloc (.cells #[.int .i64 0] 54)) none := grown_alloc (World.grownBy_alloc _ _ _) _
 have hn := alloc2_new w (.cells #[.int .i64 k, .bool b, .int .i64 i, .string s, .slice al nl cl, .slice am nm cm] 25) (.cells #[.int .i64 0] 54)
 have hC : Cnt (w.heap.size + 1) 0 ((w.alloc (.cells #[.int .i64 k, .bool b, .int .i64 i, .string s, .slice al nl cl, .slice am nm cm] 25)).alloc (.cells #[.int .i64 0] 54)) := ⟨by rw [cell_of_block hn]; rfl, frozen_of_block hn 0⟩
 have c := cval_any v (w.heap.size + 1) 0 65520 S _ _ (V.lies_keep (fun h => h) (fun x hx => ga.block x (hS x hx) (by simp)) (fun _ h => h) _ hl) (fun x hx => ⟨by have := hS x hx; omega, Nat.lt_of_lt_of_le (hS x hx) ga.size⟩) hC (by omega) (by omega)
 have e5 : ((65520 : Nat) : Int) = 65520 := rfl
 rw [e5] at c
 go_enter Tryd.func9, Tryd.ntmps9
 go_wp2_with fail
 refine c.mono ?_
 rintro e w1 ⟨r, rfl, g1, h1⟩
 go_wp2_with fail
 go_ret
 exact ⟨r, rfl, fun h => by have := (h1 h).1; omega, (below_of_grown ga).grown g1 ga.size (fun q e => by cases e; omega)⟩
end Go.Proofs.YtjfldbmopjojdaaDoor
namespace Go.Proofs.YtjfldbmopjojdaaDoor
open Go.RowKit Go.Lib
def okV (v : V) : Bool := decide ((chkV 40 v 0 (0, 0, 0)).1 = 0)
theorem chkE40 (v : V) : chkE v 40 = (chkV 40 v 0 (0, 0, 0)).1 := by rw [chkE, if_neg (by omega)]; rfl
set_option maxHeartbeats 8000000 in
set_option maxRecDepth 100000 in
theorem taken_any (R : Bool) (v : V) (S : Nat → Prop) (cs : List Value) (w : World) (t : Tb w) (hl : v.lies R w S cs) (hS : ∀ b, S b → b < w.heap.size) (hwt : v.wt ≤ 1099511627776) :
 Calls Tryd.prog 43 #[.agg cs.toArray] w (BPost (okV v) w) := by
 obtain ⟨k, b, i, s, al, nl, cl, am, nm, cm, rfl⟩ := V.ten hl
 have ga : w.grownBy (w.alloc (.cells #[.int .i64 k, .bool b, .int .i64 i, .string s, .slice al nl cl, .slice am nm cm] 25)) none := World.grownBy_alloc _ _ _
 have c := check_any R v 40 S _ _ (t.grown ga (fun r e => by cases e)) (V.lies_keep (fun h => h) (fun x hx => ga.block x (hS x hx) (by simp)) (fun _ h => h) _ hl) (fun x hx => Nat.lt_of_lt_of_le (hS x hx) ga.size) hwt
 rw [chkE40] at c
 have HF : Hid (okV v = ((((chkV 40 v 0 (0, 0, 0)).1 : Nat) : Int) == 0)) := by
  show _ = _
  rw [okV, Bool.eq_iff_iff, decide_eq_true_iff, beq_iff_eq]
  omega
 generalize (chkV 40 v 0 (0, 0, 0)).1 = z at *
 go_enter Tryd.func43, Tryd.ntmps43
 go_wp2_with fail
 refine c.mono ?_
 rintro e w1 ⟨rfl, b1⟩
 go_wp2_with fail
 go_ret
 refine ⟨?_, (below_of_grown ga).trans (b1.mono ga.size)⟩
 rw [HF.out]
 rfl
end Go.Proofs.YtjfldbmopjojdaaDoor
