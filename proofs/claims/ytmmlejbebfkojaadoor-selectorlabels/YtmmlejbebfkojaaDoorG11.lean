/- joined: ChkE OrdP ShlC OrdA AllG -/
import Derived.Test.YtmmlejbebfkojaaDoorChkD
import Derived.Lib.Bytealg
import Derived.Shelf.Small.Strs
/- value.Check. -/
set_option linter.unusedSimpArgs false
set_option linter.unusedVariables false
namespace Go.Proofs.YtmmlejbebfkojaaDoor
open Go.RowKit Go.Lib
/-- what Check answers -/
def chkE (v : V) (depth : Int) : Nat := if depth < 0 ∨ 40 < depth then 2 else (chkV depth.toNat v 0 (0, 0, 0)).1
def NPost (r : Nat) (w : World) (e : Ending) (w' : World) : Prop := e = .returned (.int .i64 (r : Int)) ∧ Below w.heap.size w w'
set_option maxHeartbeats 4000000 in
set_option maxRecDepth 100000 in
theorem check_wide (R : Bool) (v : V) (depth : Int) (S : Nat → Prop) (cs : List Value) (w : World) (t : Tb w) (hl : v.lies R w S cs) (hS : ∀ b, S b → b < w.heap.size) (hwt : v.wt ≤ 281474976710656) :
    Calls Tryd.prog 11 #[.agg cs.toArray, .int .i64 depth] w (NPost (chkE v depth) w) := by
  obtain ⟨k, b, i, s, al, nl, cl, am, nm, cm, rfl⟩ := V.ten hl
  by_cases h1 : depth < 0
  · have HF : Hid (chkE v depth = 2) := by show _ = _; simp [chkE, h1]
    go_enter Tryd.func11, Tryd.ntmps11
    go_wp2_with fail
    go_ret
    rw [HF.out]
    exact ⟨rfl, (Below.refl _ _).alloc (Nat.le_refl _) _⟩
  by_cases h2 : 40 < depth
  · have HF : Hid (chkE v depth = 2) := by show _ = _; simp [chkE, h2]
    go_enter Tryd.func11, Tryd.ntmps11
    go_wp2_with fail
    go_ret
    rw [HF.out]
    exact ⟨rfl, (Below.refl _ _).alloc (Nat.le_refl _) _⟩
  obtain ⟨D, rfl⟩ : ∃ D : Nat, depth = (D : Int) := ⟨depth.toNat, by omega⟩
  have hD : D ≤ 40 := by omega
  have HF : Hid (chkE v (D : Int) = (chkV D v 0 (0, 0, 0)).1) := by show _ = _; rw [chkE, if_neg (by omega)]; rfl
  have ga : w.grownBy ((w.alloc (.cells #[.int .i64 k, .bool b, .int .i64 i, .string s, .slice al nl cl, .slice am nm cm] 25)).alloc (.cells #[.int .i64 (D : Int), .int .i64 0, .int .i64 0, .int .i64 0] 42)) none := grown_alloc (World.grownBy_alloc _ _ _) _
  have hk : ∀ x, S x → ((w.alloc (.cells #[.int .i64 k, .bool b, .int .i64 i, .string s, .slice al nl cl, .slice am nm cm] 25)).alloc (.cells #[.int .i64 (D : Int), .int .i64 0, .int .i64 0, .int .i64 0] 42)).heap[x]? = w.heap[x]? := fun x hx => ga.block x (hS x hx) (by simp)
  have c := visit_wide v R (w.heap.size + 1) D 0 (0, 0, 0) S _ _ (t.grown ga (fun r e => by cases e)) (V.lies_keep (fun h => h) hk (fun _ h => h) _ hl) (fun x hx => ⟨by have := hS x hx; omega, Nat.lt_of_lt_of_le (hS x hx) ga.size⟩) ⟨alloc2_new w _ _⟩ (by have := t.z; omega) hwt ⟨by simp, by simp, by simp⟩ hD (by omega)
  go_enter Tryd.func11, Tryd.ntmps11
  go_wp2_with fail
  refine c.mono ?_
  rintro e w1 ⟨rfl, _, g1⟩
  go_wp2_with fail
  go_ret
  rw [HF.out]
  exact ⟨rfl, (below_of_grown ga).grown g1 ga.size (fun r e => by cases e; omega)⟩
theorem check_any (R : Bool) (v : V) (depth : Int) (S : Nat → Prop) (cs : List Value) (w : World) (t : Tb w) (hl : v.lies R w S cs) (hS : ∀ b, S b → b < w.heap.size) (hwt : v.wt ≤ 1099511627776) :
    Calls Tryd.prog 11 #[.agg cs.toArray, .int .i64 depth] w (NPost (chkE v depth) w) := check_wide R v depth S cs w t hl hS (by omega)
end Go.Proofs.YtmmlejbebfkojaaDoor
/- The order of values, and the document's, as plain functions. -/
namespace Go.Proofs.YtmmlejbebfkojaaDoor
open Go.RowKit Go.Lib
def cmpS (a b : ByteArray) : Int := Lib.compareBytes a.data.toList b.data.toList
def JPost (r : Int) (w : World) (e : Ending) (w' : World) : Prop := e = .returned (.int .i64 r) ∧ Below w.heap.size w w'
theorem cmp_one (a b : List UInt8) : compareBytes a b = -1 ∨ compareBytes a b = 0 ∨ compareBytes a b = 1 := by
  induction a generalizing b with
  | nil => cases b <;> simp [compareBytes]
  | cons x t ih =>
    cases b with
    | nil => simp [compareBytes]
    | cons y u =>
      rw [compareBytes]
      split
      · simp
      · split
        · simp
        · exact ih u
end Go.Proofs.YtmmlejbebfkojaaDoor
/- strings.Compare by its contract, laid at this program; cmp.Compare of integers, the order of bools. -/
namespace Go.Proofs
open Go.Shelf Go.RowKit
def Tryd.lays106_ren : Go.Shelf.Ren := ⟨fun | 106 => 26 | 213 => 33 | 265 => 36 | n => n, fun | 3 => 3 | 9 => 9 | n => n, fun | n => n⟩
theorem Tryd.lays106 : Go.Proofs.Lays.n106 Tryd.prog Tryd.lays106_ren := {
  mixed := by kernel_rfl
  f106 := Tryd.func26.trans (congrArg some (by kernel_rfl))
  f213 := Tryd.func33.trans (congrArg some (by kernel_rfl))
  f265 := Tryd.func36.trans (congrArg some (by kernel_rfl))
  t3 := Tryd.underlying3
  a3 := Tryd.isAgg3
  z3 := Tryd.sizeOf3
  v3 := Tryd.zeroValue3
  t9 := Tryd.underlying9
  a9 := Tryd.isAgg9
  z9 := Tryd.sizeOf9
  v9 := Tryd.zeroValue9 }
namespace YtmmlejbebfkojaaDoor
open Go.Lib
theorem scompare_any (a b : ByteArray) (w : World) : Calls Tryd.prog 26 #[.string a, .string b] w (JPost (cmpS a b) w) :=
  (Any.strings_Compare Tryd.lays106 a b w).mono fun e w' h => ⟨h.1, by rw [h.2]; exact Below.refl _ _⟩
end YtmmlejbebfkojaaDoor
end Go.Proofs
/- slices.CompareFunc over lists and over members. -/
namespace Go.Proofs.YtmmlejbebfkojaaDoor
open Go.RowKit Go.Lib
theorem alloc2_keep1 (w : World) (o o' : Obj) : ((w.alloc o).alloc o').heap[w.heap.size]? = some o := by
  have h := heap_alloc_new w o
  have hl := (Array.getElem?_eq_some_iff.1 h).1
  exact (Below.heap_alloc (w.alloc o) o' w.heap.size hl).trans h
end Go.Proofs.YtmmlejbebfkojaaDoor
/- What a value that is taken is, all the way down; there the two orders are one. -/
namespace Go.Proofs.YtmmlejbebfkojaaDoor
open Go.RowKit Go.Lib
mutual
def allG : V → Prop
  | .mk k b i s l m => goodB k b i s l.length m = true ∧ allGL l ∧ allGM m
def allGL : List V → Prop
  | [] => True
  | x :: t => allG x ∧ allGL t
def allGM : List Mem → Prop
  | [] => True
  | (_, x) :: t => allG x ∧ allGM t
end
theorem entF_good {D n y d lv : Nat} {g : Bool} {z : Nat} (h : (entF D n y d lv g z).1 = 0) : g = true := by
  unfold entF at h
  split at h
  · simp at h
  split at h
  · simp at h
  split at h
  · simp at h
  · rename_i h3; cases g <;> simp_all
mutual
theorem chkV_allG (D : Nat) : ∀ (v : V) (lv : Nat) (st : St), (chkV D v lv st).1 = 0 → allG v
  | .mk k b i s l m, lv, st, h => by
    rw [chkV] at h
    rw [allG]
    by_cases h1 : (entF D st.1 st.2.1 st.2.2 lv (goodB k b i s l.length m) (s.size + keyB m)).1 = 0
    · simp only [h1, if_true] at h
      by_cases h2 : (chkL D l (lv + 1) (entF D st.1 st.2.1 st.2.2 lv (goodB k b i s l.length m) (s.size + keyB m)).2).1 = 0
      · simp only [h2, if_true] at h
        exact ⟨entF_good h1, chkL_allG D l (lv + 1) _ h2, chkM_allG D m (lv + 1) _ h⟩
      · simp only [h2, if_false] at h
    · simp only [h1, if_false] at h
theorem chkL_allG (D : Nat) : ∀ (l : List V) (lv : Nat) (st : St), (chkL D l lv st).1 = 0 → allGL l
  | [], lv, st, h => by rw [allGL]; trivial
  | x :: t, lv, st, h => by
    rw [chkL] at h
    rw [allGL]
    by_cases h1 : (chkV D x lv st).1 = 0
    · rw [if_pos h1] at h
      exact ⟨chkV_allG D x lv st h1, chkL_allG D t lv _ h⟩
    · rw [if_neg h1] at h
      exact absurd h h1
theorem chkM_allG (D : Nat) : ∀ (l : List Mem) (lv : Nat) (st : St), (chkM D l lv st).1 = 0 → allGM l
  | [], lv, st, h => by rw [allGM]; trivial
  | (_, x) :: t, lv, st, h => by
    rw [chkM] at h
    rw [allGM]
    by_cases h1 : (chkV D x lv st).1 = 0
    · rw [if_pos h1] at h
      exact ⟨chkV_allG D x lv st h1, chkM_allG D t lv _ h⟩
    · rw [if_neg h1] at h
      exact absurd h h1
end
theorem toList_data (a : ByteArray) : a.toList = a.data.toList := ByteArray.toList_eq a
theorem less_cmp : ∀ a b : List UInt8, Op.bytesLess a b = decide (compareBytes a b = -1)
  | [], [] => by simp [Op.bytesLess, compareBytes]
  | [], _ :: _ => by simp [Op.bytesLess, compareBytes]
  | _ :: _, [] => by simp [Op.bytesLess, compareBytes]
  | x :: t, y :: u => by
    have ih := less_cmp t u
    simp only [Op.bytesLess, compareBytes]
    by_cases h1 : x < y
    · simp [h1]
    · by_cases h2 : y < x
      · have hne : x ≠ y := fun e => by subst e; exact h1 h2
        simp [h1, h2, hne]
      · have he : x = y := by
          rcases Nat.lt_trichotomy x.toNat y.toNat with h | h | h
          · exact absurd h h1
          · exact UInt8.toNat_inj.1 h
          · exact absurd h h2
        subst he
        simp [h1, ih]
theorem cmp_zero : ∀ a b : List UInt8, compareBytes a b = 0 ↔ a = b
  | [], [] => by simp [compareBytes]
  | [], _ :: _ => by simp [compareBytes]
  | _ :: _, [] => by simp [compareBytes]
  | x :: t, y :: u => by
    have ih := cmp_zero t u
    rw [compareBytes]
    by_cases h1 : x < y
    · rw [if_pos h1]
      constructor
      · intro h; simp at h
      · intro h; cases h; exact absurd h1 (Nat.lt_irrefl _)
    · rw [if_neg h1]
      by_cases h2 : y < x
      · rw [if_pos h2]
        constructor
        · intro h; simp at h
        · intro h; cases h; exact absurd h2 (Nat.lt_irrefl _)
      · rw [if_neg h2, ih]
        have he : x = y := by
          rcases Nat.lt_trichotomy x.toNat y.toNat with h | h | h
          · exact absurd h h1
          · exact UInt8.toNat_inj.1 h
          · exact absurd h h2
        simp [he]
theorem cmpS_zero (a b : ByteArray) : cmpS a b = 0 ↔ a.toList = b.toList := by rw [cmpS, toList_data, toList_data]; exact cmp_zero _ _
end Go.Proofs.YtmmlejbebfkojaaDoor
