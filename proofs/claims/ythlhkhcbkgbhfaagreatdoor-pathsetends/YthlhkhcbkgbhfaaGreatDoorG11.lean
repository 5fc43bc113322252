/- joined: ChkE OrdP ShlC -/
import Derived.Test.YthlhkhcbkgbhfaaGreatDoorChkD
import Derived.Lib.Bytealg
import Derived.Shelf.Small.Strs
/- value.Check. -/
set_option linter.unusedSimpArgs false
set_option linter.unusedVariables false
namespace Go.Proofs.YthlhkhcbkgbhfaaGreatDoor
open Go.RowKit Go.Lib
/-- what Check answers -/
def chkE (v : V) (depth : Int) : Nat := if depth < 0 ∨ 40 < depth then 2 else (chkV depth.toNat v 0 (0, 0, 0)).1
def NPost (r : Nat) (w : World) (e : Ending) (w' : World) : Prop := e = .returned (.int .i64 (r : Int)) ∧ Below w.heap.size w w'
set_option maxHeartbeats 4000000 in
set_option maxRecDepth 100000 in
theorem check_wide (R : Bool) (v : V) (depth : Int) (S : Nat → Prop) (cs : List Value) (w : World) (t : Tb w) (hl : v.lies R w S cs) (hS : ∀ b, S b → b < w.heap.size) (hwt : v.wt ≤ 281474976710656) :
    Calls Tryz.prog 101 #[.agg cs.toArray, .int .i64 depth] w (NPost (chkE v depth) w) := by
  obtain ⟨k, b, i, s, al, nl, cl, am, nm, cm, rfl⟩ := V.ten hl
  by_cases h1 : depth < 0
  · have HF : Hid (chkE v depth = 2) := by show _ = _; simp [chkE, h1]
    go_enter Tryz.func101, Tryz.ntmps101
    go_wp2_with fail
    go_ret
    rw [HF.out]
    exact ⟨rfl, (Below.refl _ _).alloc (Nat.le_refl _) _⟩
  by_cases h2 : 40 < depth
  · have HF : Hid (chkE v depth = 2) := by show _ = _; simp [chkE, h2]
    go_enter Tryz.func101, Tryz.ntmps101
    go_wp2_with fail
    go_ret
    rw [HF.out]
    exact ⟨rfl, (Below.refl _ _).alloc (Nat.le_refl _) _⟩
  obtain ⟨D, rfl⟩ : ∃ D : Nat, depth = (D : Int) := ⟨depth.toNat, by omega⟩
  have hD : D ≤ 40 := by omega
  have HF : Hid (chkE v (D : Int) = (chkV D v 0 (0, 0, 0)).1) := by show _ = _; rw [chkE, if_neg (by omega)]; rfl
  have ga : w.grownBy ((w.alloc (.cells #[.int .i64 k, .bool b, .int .i64 i, .string s, .slice al nl cl, .slice am nm cm] 64)).alloc (.cells #[.int .i64 (D : Int), .int .i64 0, .int .i64 0, .int .i64 0] 134)) none := grown_alloc (World.grownBy_alloc _ _ _) _
  have hk : ∀ x, S x → ((w.alloc (.cells #[.int .i64 k, .bool b, .int .i64 i, .string s, .slice al nl cl, .slice am nm cm] 64)).alloc (.cells #[.int .i64 (D : Int), .int .i64 0, .int .i64 0, .int .i64 0] 134)).heap[x]? = w.heap[x]? := fun x hx => ga.block x (hS x hx) (by simp)
  have c := visit_wide v R (w.heap.size + 1) D 0 (0, 0, 0) S _ _ (t.grown ga (fun r e => by cases e)) (V.lies_keep (fun h => h) hk (fun _ h => h) _ hl) (fun x hx => ⟨by have := hS x hx; omega, Nat.lt_of_lt_of_le (hS x hx) ga.size⟩) ⟨alloc2_new w _ _⟩ (by have := t.z; omega) hwt ⟨by simp, by simp, by simp⟩ hD (by omega)
  go_enter Tryz.func101, Tryz.ntmps101
  go_wp2_with fail
  refine c.mono ?_
  rintro e w1 ⟨rfl, _, g1⟩
  go_wp2_with fail
  go_ret
  rw [HF.out]
  exact ⟨rfl, (below_of_grown ga).grown g1 ga.size (fun r e => by cases e; omega)⟩
theorem check_any (R : Bool) (v : V) (depth : Int) (S : Nat → Prop) (cs : List Value) (w : World) (t : Tb w) (hl : v.lies R w S cs) (hS : ∀ b, S b → b < w.heap.size) (hwt : v.wt ≤ 1099511627776) :
    Calls Tryz.prog 101 #[.agg cs.toArray, .int .i64 depth] w (NPost (chkE v depth) w) := check_wide R v depth S cs w t hl hS (by omega)
end Go.Proofs.YthlhkhcbkgbhfaaGreatDoor
/- The order of values, and the document's, as plain functions. -/
namespace Go.Proofs.YthlhkhcbkgbhfaaGreatDoor
open Go.RowKit Go.Lib
def cmpI (a b : Int) : Int := if a < b then -1 else if b < a then 1 else 0
def cmpS (a b : ByteArray) : Int := Lib.compareBytes a.data.toList b.data.toList
def cmpB (a b : Bool) : Int := if a = b then 0 else if b = true then -1 else 1
mutual
def ordV : V → V → Int
  | .mk k b i s l m, .mk k' b' i' s' l' m' =>
    if k = k' then
      if k = 1 then cmpB b b' else if k = 2 then cmpI i i' else if k = 3 then cmpS s s' else if k = 4 then ordL l l' else if k = 5 then ordM m m' else 0
    else cmpI k k'
def ordL : List V → List V → Int
  | [], [] => 0
  | [], _ :: _ => -1
  | _ :: _, [] => 1
  | x :: t, y :: u => if ordV x y = 0 then ordL t u else ordV x y
def ordM : List Mem → List Mem → Int
  | [], [] => 0
  | [], _ :: _ => -1
  | _ :: _, [] => 1
  | (k, x) :: t, (k', y) :: u => if k.toList = k'.toList then (if ordV x y = 0 then ordM t u else ordV x y) else if cmpS k k' = 0 then ordM t u else cmpS k k'
end
def JPost (r : Int) (w : World) (e : Ending) (w' : World) : Prop := e = .returned (.int .i64 r) ∧ Below w.heap.size w w'
theorem cmp_one (a b : List UInt8) : compareBytes a b = -1 ∨ compareBytes a b = 0 ∨ compareBytes a b = 1 := by
  induction a generalizing b with
  | nil => cases b <;> simp [compareBytes]
  | cons x t ih =>
    cases b with
    | nil => simp [compareBytes]
    | cons y u =>
      rw [compareBytes]
      split
      · simp
      · split
        · simp
        · exact ih u
end Go.Proofs.YthlhkhcbkgbhfaaGreatDoor
/- strings.Compare by its contract, laid at this program; cmp.Compare of integers, the order of bools. -/
namespace Go.Proofs
open Go.Shelf Go.RowKit
def Tryz.lays106_ren : Go.Shelf.Ren := ⟨fun | 106 => 75 | 213 => 89 | 265 => 103 | n => n, fun | 3 => 3 | 9 => 9 | n => n, fun | n => n⟩
theorem Tryz.lays106 : Go.Proofs.Lays.n106 Tryz.prog Tryz.lays106_ren := {
  mixed := by kernel_rfl
  f106 := Tryz.func75.trans (congrArg some (by kernel_rfl))
  f213 := Tryz.func89.trans (congrArg some (by kernel_rfl))
  f265 := Tryz.func103.trans (congrArg some (by kernel_rfl))
  t3 := Tryz.underlying3
  a3 := Tryz.isAgg3
  z3 := Tryz.sizeOf3
  v3 := Tryz.zeroValue3
  t9 := Tryz.underlying9
  a9 := Tryz.isAgg9
  z9 := Tryz.sizeOf9
  v9 := Tryz.zeroValue9 }
namespace YthlhkhcbkgbhfaaGreatDoor
open Go.Lib
theorem scompare_any (a b : ByteArray) (w : World) : Calls Tryz.prog 75 #[.string a, .string b] w (JPost (cmpS a b) w) :=
  (Any.strings_Compare Tryz.lays106 a b w).mono fun e w' h => ⟨h.1, by rw [h.2]; exact Below.refl _ _⟩
theorem isnan_any (a : Int) (w : World) : Calls Tryz.prog 88 #[.int .i64 a] w (BPost false w) := by
  go_enter Tryz.func88, Tryz.ntmps88
  go_wp2_with fail
  go_ret
  exact ⟨by simp, Below.refl _ _⟩
theorem icompare_any (a b : Int) (w : World) : Calls Tryz.prog 74 #[.int .i64 a, .int .i64 b] w (JPost (cmpI a b) w) := by
  go_enter Tryz.func74, Tryz.ntmps74
  go_wp2_with fail
  refine (isnan_any a w).mono ?_
  rintro e w1 ⟨rfl, b1⟩
  go_wp2_with fail
  refine (isnan_any b w1).mono ?_
  rintro e w2 ⟨rfl, b2⟩
  have B2 := b1.trans (b2.mono b1.size)
  by_cases h1 : a < b
  · have HF : Hid (cmpI a b = -1) := by show _ = _; simp [cmpI, h1]
    go_wp2_with fail
    go_ret
    rw [HF.out]
    exact ⟨rfl, B2⟩
  · by_cases h2 : b < a
    · have HF : Hid (cmpI a b = 1) := by show _ = _; simp [cmpI, h1, h2]
      have y2 : a > b := h2
      go_wp2_with fail
      go_ret
      rw [HF.out]
      exact ⟨rfl, B2⟩
    · have HF : Hid (cmpI a b = 0) := by show _ = _; simp [cmpI, h1, h2]
      have y2 : ¬ a > b := h2
      go_wp2_with fail
      go_ret
      rw [HF.out]
      exact ⟨rfl, B2⟩
end YthlhkhcbkgbhfaaGreatDoor
end Go.Proofs
