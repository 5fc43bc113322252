/- joined: RfE SizA OrdP ShlC OdsP -/
import Derived.Test.YtfekgeaopchilaaGreatDoorRfD
import Derived.Lib.Bytealg
import Derived.Shelf.Small.Strs
import Derived.Test.YtfekgeaopchilaaGreatDoorG4
/- freeholdref02.Check, freeholdref00.Value. -/
set_option linter.unusedSimpArgs false
set_option linter.unusedVariables false
namespace Go.Proofs.YtfekgeaopchilaaGreatDoor
open Go.RowKit Go.Lib
set_option maxHeartbeats 4000000 in
set_option maxRecDepth 100000 in
theorem rcheck_wide (R : Bool) (v : V) (depth : Int) (S : Nat → Prop) (cs : List Value) (w : World) (hl : v.lies R w S cs) (hS : ∀ b, S b → b < w.heap.size) (hwt : v.wt ≤ 281474976710656) :
    Calls Tryz.prog 46 #[.agg cs.toArray, .int .i64 depth] w (NPost (chkE v depth) w) := by
  obtain ⟨k, b, i, s, al, nl, cl, am, nm, cm, rfl⟩ := V.ten hl
  by_cases h1 : depth < 0
  · have HF : Hid (chkE v depth = 2) := by show _ = _; simp [chkE, h1]
    go_enter Tryz.func46, Tryz.ntmps46
    go_wp2_with fail
    go_ret
    rw [HF.out]
    exact ⟨rfl, (Below.refl _ _).alloc (Nat.le_refl _) _⟩
  by_cases h2 : 40 < depth
  · have HF : Hid (chkE v depth = 2) := by show _ = _; simp [chkE, h2]
    go_enter Tryz.func46, Tryz.ntmps46
    go_wp2_with fail
    go_ret
    rw [HF.out]
    exact ⟨rfl, (Below.refl _ _).alloc (Nat.le_refl _) _⟩
  obtain ⟨D, rfl⟩ : ∃ D : Nat, depth = (D : Int) := ⟨depth.toNat, by omega⟩
  have hD : D ≤ 40 := by omega
  have HF : Hid (chkE v (D : Int) = (chkV D v 0 (0, 0, 0)).1) := by show _ = _; rw [chkE, if_neg (by omega)]; rfl
  have ga : w.grownBy (w.alloc (.cells #[.int .i64 k, .bool b, .int .i64 i, .string s, .slice al nl cl, .slice am nm cm] 33)) none := World.grownBy_alloc _ _ _
  have c := rwalk_wide v R D 0 0 0 0 S _ _ (V.lies_keep (fun h => h) (fun x hx => ga.block x (hS x hx) (by simp)) (fun _ h => h) _ hl) (fun x hx => Nat.lt_of_lt_of_le (hS x hx) ga.size) hwt ⟨by simp, by simp, by simp⟩ hD (by omega)
  go_enter Tryz.func46, Tryz.ntmps46
  go_wp2_with fail
  refine c.mono ?_
  rintro e w1 ⟨a, d, rfl, _, b1⟩
  go_wp2_with fail
  go_ret
  rw [HF.out]
  exact ⟨rfl, (below_of_grown ga).trans ((b1.mono ga.size).alloc (by have := b1.size; have := ga.size; omega) _)⟩
theorem rcheck_any (R : Bool) (v : V) (depth : Int) (S : Nat → Prop) (cs : List Value) (w : World) (hl : v.lies R w S cs) (hS : ∀ b, S b → b < w.heap.size) (hwt : v.wt ≤ 1099511627776) :
    Calls Tryz.prog 46 #[.agg cs.toArray, .int .i64 depth] w (NPost (chkE v depth) w) := rcheck_wide R v depth S cs w hl hS (by omega)
end Go.Proofs.YtfekgeaopchilaaGreatDoor
/- Depth, Nodes, Scalar and the document's: contracts. -/
namespace Go.Proofs.YtfekgeaopchilaaGreatDoor
open Go.RowKit Go.Lib
def okV (v : V) : Bool := decide ((chkV 40 v 0 (0, 0, 0)).1 = 0)
def kindOf : V → Int
  | .mk k _ _ _ _ _ => k
def sizS (v : V) : Bool := okV v && (decide (1 ≤ kindOf v) && decide (kindOf v ≤ 3))
theorem chkE40 (v : V) : chkE v 40 = (chkV 40 v 0 (0, 0, 0)).1 := by rw [chkE, if_neg (by omega)]; rfl
theorem okV_true {v : V} (h : okV v = true) : (chkV 40 v 0 (0, 0, 0)).1 = 0 := of_decide_eq_true h
set_option maxHeartbeats 4000000 in
set_option maxRecDepth 100000 in
theorem taken_any (R : Bool) (v : V) (S : Nat → Prop) (cs : List Value) (w : World) (t : Tb w) (hl : v.lies R w S cs) (hS : ∀ b, S b → b < w.heap.size) (hwt : v.wt ≤ 1099511627776) :
    Calls Tryz.prog 50 #[.agg cs.toArray] w (BPost (okV v) w) := by
  obtain ⟨k, b, i, s, al, nl, cl, am, nm, cm, rfl⟩ := V.ten hl
  have ga : w.grownBy (w.alloc (.cells #[.int .i64 k, .bool b, .int .i64 i, .string s, .slice al nl cl, .slice am nm cm] 33)) none := World.grownBy_alloc _ _ _
  have c := check_any R v 40 S _ _ (t.grown ga (fun r e => by cases e)) (V.lies_keep (fun h => h) (fun x hx => ga.block x (hS x hx) (by simp)) (fun _ h => h) _ hl) (fun x hx => Nat.lt_of_lt_of_le (hS x hx) ga.size) hwt
  rw [chkE40] at c
  have HF : Hid (okV v = ((((chkV 40 v 0 (0, 0, 0)).1 : Nat) : Int) == 0)) := by
    show _ = _
    rw [okV, Bool.eq_iff_iff, decide_eq_true_iff, beq_iff_eq]
    omega
  generalize (chkV 40 v 0 (0, 0, 0)).1 = z at *
  go_enter Tryz.func50, Tryz.ntmps50
  go_wp2_with fail
  refine c.mono ?_
  rintro e w1 ⟨rfl, b1⟩
  go_wp2_with fail
  go_ret
  refine ⟨?_, (below_of_grown ga).trans (b1.mono ga.size)⟩
  rw [HF.out]
  rfl
set_option maxHeartbeats 4000000 in
set_option maxRecDepth 100000 in
theorem rtaken_any (R : Bool) (v : V) (S : Nat → Prop) (cs : List Value) (w : World) (hl : v.lies R w S cs) (hS : ∀ b, S b → b < w.heap.size) (hwt : v.wt ≤ 1099511627776) :
    Calls Tryz.prog 29 #[.agg cs.toArray] w (BPost (okV v) w) := by
  obtain ⟨k, b, i, s, al, nl, cl, am, nm, cm, rfl⟩ := V.ten hl
  have ga : w.grownBy (w.alloc (.cells #[.int .i64 k, .bool b, .int .i64 i, .string s, .slice al nl cl, .slice am nm cm] 33)) none := World.grownBy_alloc _ _ _
  have c := rcheck_any R v 40 S _ _ (V.lies_keep (fun h => h) (fun x hx => ga.block x (hS x hx) (by simp)) (fun _ h => h) _ hl) (fun x hx => Nat.lt_of_lt_of_le (hS x hx) ga.size) hwt
  rw [chkE40] at c
  have HF : Hid (okV v = ((((chkV 40 v 0 (0, 0, 0)).1 : Nat) : Int) == 0)) := by
    show _ = _
    rw [okV, Bool.eq_iff_iff, decide_eq_true_iff, beq_iff_eq]
    omega
  generalize (chkV 40 v 0 (0, 0, 0)).1 = z at *
  go_enter Tryz.func29, Tryz.ntmps29
  go_wp2_with fail
  refine c.mono ?_
  rintro e w1 ⟨rfl, b1⟩
  go_wp2_with fail
  go_ret
  refine ⟨?_, (below_of_grown ga).trans (b1.mono ga.size)⟩
  rw [HF.out]
  rfl
set_option maxHeartbeats 4000000 in
set_option maxRecDepth 100000 in
theorem scalar_any (R : Bool) (v : V) (S : Nat → Prop) (cs : List Value) (w : World) (t : Tb w) (hl : v.lies R w S cs) (hS : ∀ b, S b → b < w.heap.size) (hwt : v.wt ≤ 1099511627776) :
    Calls Tryz.prog 67 #[.agg cs.toArray] w (BPost (sizS v) w) := by
  have hl0 := hl
  obtain ⟨k, b, i, s, l, m⟩ := v
  rw [V.lies] at hl
  obtain ⟨al, cl, bl, ol, am, cm, bm, om, rfl, hk, hi, hs, hal, ham, _⟩ := hl
  have ga : w.grownBy (w.alloc (.cells #[.int .i64 k, .bool b, .int .i64 i, .string s, .slice al l.length cl, .slice am m.length cm] 33)) none := World.grownBy_alloc _ _ _
  have c := taken_any R _ S _ _ (t.grown ga (fun r e => by cases e)) (V.lies_keep (fun h => h) (fun x hx => ga.block x (hS x hx) (by simp)) (fun _ h => h) _ hl0) (fun x hx => Nat.lt_of_lt_of_le (hS x hx) ga.size) hwt
  clear hl0 hwt
  by_cases h3 : k = 1 ∨ k = 2 ∨ k = 3
  · have HF : Hid (sizS (V.mk k b i s l m) = okV (V.mk k b i s l m)) := by
      show _ = _
      rw [sizS, kindOf, decide_eq_true (show 1 ≤ k by omega), decide_eq_true (show k ≤ 3 by omega)]; simp
    generalize okV (V.mk k b i s l m) = z at *
    rcases h3 with rfl | rfl | rfl
    all_goals
      go_enter Tryz.func67, Tryz.ntmps67
      go_wp2_with fail
      refine c.mono ?_
      rintro e w1 ⟨rfl, b1⟩
      go_wp2_with fail
      go_ret
      rw [HF.out]
      exact ⟨rfl, (below_of_grown ga).trans (b1.mono ga.size)⟩
  · have HF : Hid (sizS (V.mk k b i s l m) = false) := by
      show _ = _
      rw [sizS, kindOf]
      by_cases h1 : 1 ≤ k
      · rw [decide_eq_false (show ¬ k ≤ 3 by omega)]; simp
      · rw [decide_eq_false h1]; simp
    have y1 : ¬ k = 1 := by omega
    have y2 : ¬ k = 2 := by omega
    have y3 : ¬ k = 3 := by omega
    clear c
    go_enter Tryz.func67, Tryz.ntmps67
    go_wp2_with fail
    go_ret
    rw [HF.out]
    exact ⟨rfl, below_of_grown ga⟩
set_option maxHeartbeats 4000000 in
set_option maxRecDepth 100000 in
theorem rscal_any (R : Bool) (v : V) (S : Nat → Prop) (cs : List Value) (w : World) (hl : v.lies R w S cs) (hS : ∀ b, S b → b < w.heap.size) (hwt : v.wt ≤ 1099511627776) :
    Calls Tryz.prog 60 #[.agg cs.toArray] w (BPost (sizS v) w) := by
  have hl0 := hl
  obtain ⟨k, b, i, s, l, m⟩ := v
  rw [V.lies] at hl
  obtain ⟨al, cl, bl, ol, am, cm, bm, om, rfl, hk, hi, hs, hal, ham, _⟩ := hl
  have hb0 := box_row w [.int .i64 k, .bool b, .int .i64 i, .string s, .slice al l.length cl, .slice am m.length cm] 33
  have hz0 := alloc_size w (.cells #[.int .i64 k, .bool b, .int .i64 i, .string s, .slice al l.length cl, .slice am m.length cm] 33)
  have ga : w.grownBy (w.alloc (.cells #[.int .i64 k, .bool b, .int .i64 i, .string s, .slice al l.length cl, .slice am m.length cm] 33)) none := World.grownBy_alloc _ _ _
  have c := rtaken_any R _ S _ _ (V.lies_keep (fun h => h) (fun x hx => ga.block x (hS x hx) (by simp)) (fun _ h => h) _ hl0) (fun x hx => Nat.lt_of_lt_of_le (hS x hx) ga.size) hwt
  have HF : Hid (sizS (V.mk k b i s l m) = (okV (V.mk k b i s l m) && (decide (1 ≤ k) && decide (k ≤ 3)))) := rfl
  have BA := below_of_grown ga
  clear hl0 ga hwt
  generalize okV (V.mk k b i s l m) = z at *
  go_enter Tryz.func60, Tryz.ntmps60
  go_wp2_with fail
  generalize (w.alloc (.cells #[.int .i64 k, .bool b, .int .i64 i, .string s, .slice al l.length cl, .slice am m.length cm] 33)) = w0 at *
  refine c.mono ?_
  rintro e w1 ⟨rfl, b1⟩
  have hz1 := b1.size
  obtain ⟨d0, d1, d2, d3, d4, d5⟩ := row6z (hb0.keep (b1.block _ (by omega)))
  cases z with
  | false =>
    go_wp2_with fail
    go_ret
    rw [HF.out]
    exact ⟨by simp, BA.trans (b1.mono (by omega))⟩
  | true =>
    by_cases h1 : 1 ≤ k
    · have y1 : k ≥ 1 := h1
      by_cases h2 : k ≤ 3
      · go_wp2_with fail
        go_ret
        rw [HF.out]
        exact ⟨by simp [h1, h2], BA.trans (b1.mono (by omega))⟩
      · go_wp2_with fail
        go_ret
        rw [HF.out]
        exact ⟨by simp [h1, h2], BA.trans (b1.mono (by omega))⟩
    · have y1 : ¬ k ≥ 1 := h1
      go_wp2_with fail
      go_ret
      rw [HF.out]
      exact ⟨by simp; omega, BA.trans (b1.mono (by omega))⟩
end Go.Proofs.YtfekgeaopchilaaGreatDoor
/- The order of values, and the document's, as plain functions. -/
namespace Go.Proofs.YtfekgeaopchilaaGreatDoor
open Go.RowKit Go.Lib
def cmpI (a b : Int) : Int := if a < b then -1 else if b < a then 1 else 0
def cmpS (a b : ByteArray) : Int := Lib.compareBytes a.data.toList b.data.toList
def cmpB (a b : Bool) : Int := if a = b then 0 else if b = true then -1 else 1
def cmpT (a b : ByteArray) : Int := if ltB a b = true then -1 else if a.toList = b.toList then 0 else 1
mutual
def ordV : V → V → Int
  | .mk k b i s l m, .mk k' b' i' s' l' m' =>
    if k = k' then
      if k = 1 then cmpB b b' else if k = 2 then cmpI i i' else if k = 3 then cmpS s s' else if k = 4 then ordL l l' else if k = 5 then ordM m m' else 0
    else cmpI k k'
def ordL : List V → List V → Int
  | [], [] => 0
  | [], _ :: _ => -1
  | _ :: _, [] => 1
  | x :: t, y :: u => if ordV x y = 0 then ordL t u else ordV x y
def ordM : List Mem → List Mem → Int
  | [], [] => 0
  | [], _ :: _ => -1
  | _ :: _, [] => 1
  | (k, x) :: t, (k', y) :: u => if k.toList = k'.toList then (if ordV x y = 0 then ordM t u else ordV x y) else if cmpS k k' = 0 then ordM t u else cmpS k k'
end
def JPost (r : Int) (w : World) (e : Ending) (w' : World) : Prop := e = .returned (.int .i64 r) ∧ Below w.heap.size w w'
theorem cmp_one (a b : List UInt8) : compareBytes a b = -1 ∨ compareBytes a b = 0 ∨ compareBytes a b = 1 := by
  induction a generalizing b with
  | nil => cases b <;> simp [compareBytes]
  | cons x t ih =>
    cases b with
    | nil => simp [compareBytes]
    | cons y u =>
      rw [compareBytes]
      split
      · simp
      · split
        · simp
        · exact ih u
end Go.Proofs.YtfekgeaopchilaaGreatDoor
/- strings.Compare by its contract, laid at this program; cmp.Compare of integers, the order of bools. -/
namespace Go.Proofs
open Go.Shelf Go.RowKit
def Tryz.lays106_ren : Go.Shelf.Ren := ⟨fun | 106 => 72 | 213 => 87 | 265 => 96 | n => n, fun | 3 => 3 | 9 => 9 | n => n, fun | n => n⟩
theorem Tryz.lays106 : Go.Proofs.Lays.n106 Tryz.prog Tryz.lays106_ren := {
  mixed := by kernel_rfl
  f106 := Tryz.func72.trans (congrArg some (by kernel_rfl))
  f213 := Tryz.func87.trans (congrArg some (by kernel_rfl))
  f265 := Tryz.func96.trans (congrArg some (by kernel_rfl))
  t3 := Tryz.underlying3
  a3 := Tryz.isAgg3
  z3 := Tryz.sizeOf3
  v3 := Tryz.zeroValue3
  t9 := Tryz.underlying9
  a9 := Tryz.isAgg9
  z9 := Tryz.sizeOf9
  v9 := Tryz.zeroValue9 }
namespace YtfekgeaopchilaaGreatDoor
open Go.Lib
theorem scompare_any (a b : ByteArray) (w : World) : Calls Tryz.prog 72 #[.string a, .string b] w (JPost (cmpS a b) w) :=
  (Any.strings_Compare Tryz.lays106 a b w).mono fun e w' h => ⟨h.1, by rw [h.2]; exact Below.refl _ _⟩
theorem isnan_any (a : Int) (w : World) : Calls Tryz.prog 86 #[.int .i64 a] w (BPost false w) := by
  go_enter Tryz.func86, Tryz.ntmps86
  go_wp2_with fail
  go_ret
  exact ⟨by simp, Below.refl _ _⟩
theorem icompare_any (a b : Int) (w : World) : Calls Tryz.prog 71 #[.int .i64 a, .int .i64 b] w (JPost (cmpI a b) w) := by
  go_enter Tryz.func71, Tryz.ntmps71
  go_wp2_with fail
  refine (isnan_any a w).mono ?_
  rintro e w1 ⟨rfl, b1⟩
  go_wp2_with fail
  refine (isnan_any b w1).mono ?_
  rintro e w2 ⟨rfl, b2⟩
  have B2 := b1.trans (b2.mono b1.size)
  by_cases h1 : a < b
  · have HF : Hid (cmpI a b = -1) := by show _ = _; simp [cmpI, h1]
    go_wp2_with fail
    go_ret
    rw [HF.out]
    exact ⟨rfl, B2⟩
  · by_cases h2 : b < a
    · have HF : Hid (cmpI a b = 1) := by show _ = _; simp [cmpI, h1, h2]
      have y2 : a > b := h2
      go_wp2_with fail
      go_ret
      rw [HF.out]
      exact ⟨rfl, B2⟩
    · have HF : Hid (cmpI a b = 0) := by show _ = _; simp [cmpI, h1, h2]
      have y2 : ¬ a > b := h2
      go_wp2_with fail
      go_ret
      rw [HF.out]
      exact ⟨rfl, B2⟩
end YtfekgeaopchilaaGreatDoor
end Go.Proofs
/- The program's order: scalars, members, elements, paths. -/
namespace Go.Proofs.YtfekgeaopchilaaGreatDoor
open Go.RowKit Go.Lib
/-- the order of two scalars -/
def osB (k : Int) (b : Bool) (i : Int) (s : ByteArray) (k' : Int) (b' : Bool) (i' : Int) (s' : ByteArray) : Int :=
  if k = k' then (if b = b' then (if i = i' then cmpS s s' else cmpI i i') else if b' = true then -1 else 1) else cmpI k k'
def osV : V → V → Int
  | .mk k b i s _ _, .mk k' b' i' s' _ _ => osB k b i s k' b' i' s'
/-- members: by their keys, then by their values -/
def omM (x y : Mem) : Int := if x.1.toList = y.1.toList then osV x.2 y.2 else cmpS x.1 y.1
/-- lists: the first that are unlike say so, else the lengths -/
def lexL {α : Type} (f : α → α → Int) : List α → List α → Int
  | x :: a, y :: b => if f x y = 0 then lexL f a b else f x y
  | a, b => cmpI a.length b.length
def oeE (x y : El) : Int := if x.kind = y.kind then (if x.kind = 1 then cmpS x.name y.name else if x.kind = 2 then lexL omM x.key y.key else osV x.item y.item) else cmpI x.kind y.kind
theorem lex_drop {α : Type} (f : α → α → Int) {a b : List α} {j : Nat} (h : j < a.length) (h' : j < b.length) : lexL f (a.drop j) (b.drop j) = if f a[j] b[j] = 0 then lexL f (a.drop (j + 1)) (b.drop (j + 1)) else f a[j] b[j] := by
  rw [List.drop_eq_getElem_cons h, List.drop_eq_getElem_cons h', lexL]
theorem lex_end {α : Type} (f : α → α → Int) {a b : List α} {j : Nat} (h : j ≤ a.length) (h' : j ≤ b.length) (h2 : ¬ (j < a.length ∧ j < b.length)) : lexL f (a.drop j) (b.drop j) = cmpI a.length b.length := by
  have e : ∀ (c d : List α), (c = [] ∨ d = []) → lexL f c d = cmpI c.length d.length := fun c d hcd => by
    rcases hcd with rfl | rfl
    · cases d <;> rfl
    · cases c <;> rfl
  rw [e]
  · simp only [List.length_drop, cmpI]
    split <;> split <;> (try rfl) <;> (try omega)
    all_goals split <;> split <;> first | rfl | omega
  · by_cases ha : j < a.length
    · exact .inr (by rw [List.drop_eq_nil_iff]; omega)
    · exact .inl (by rw [List.drop_eq_nil_iff]; omega)
theorem osV_cells {R R' : Bool} {w w' : World} {S S' : Nat → Prop} {v u : V} (ek : Int) (eb : Bool) (ei : Int) (es : ByteArray) (eal : Option Addr) (enl ecl : Nat) (eam : Option Addr) (enm ecm : Nat) (fk : Int) (fb : Bool) (fi : Int) (fs : ByteArray) (fal : Option Addr) (fnl fcl : Nat) (fam : Option Addr) (fnm fcm : Nat) (h : v.lies R w S [.int .i64 ek, .bool eb, .int .i64 ei, .string es, .slice eal enl ecl, .slice eam enm ecm]) (h' : u.lies R' w' S' [.int .i64 fk, .bool fb, .int .i64 fi, .string fs, .slice fal fnl fcl, .slice fam fnm fcm]) : osV v u = osB ek eb ei es fk fb fi fs := by
  obtain ⟨k, b, i, s, l, m⟩ := v
  obtain ⟨k', b', i', s', l', m'⟩ := u
  rw [V.lies] at h h'
  obtain ⟨_, _, _, _, _, _, _, _, e, _⟩ := h
  obtain ⟨_, _, _, _, _, _, _, _, e', _⟩ := h'
  simp only [List.cons.injEq, Value.int.injEq, Value.bool.injEq, Value.string.injEq, true_and] at e e'
  obtain ⟨rfl, rfl, rfl, rfl, _⟩ := e
  obtain ⟨rfl, rfl, rfl, rfl, _⟩ := e'
  rfl
set_option maxHeartbeats 4000000 in
set_option maxRecDepth 100000 in
theorem oscal_any (ek : Int) (eb : Bool) (ei : Int) (es : ByteArray) (eal : Option Addr) (enl ecl : Nat) (eam : Option Addr) (enm ecm : Nat) (fk : Int) (fb : Bool) (fi : Int) (fs : ByteArray) (fal : Option Addr) (fnl fcl : Nat) (fam : Option Addr) (fnm fcm : Nat) (w : World) : Calls Tryz.prog 75 #[.agg #[.int .i64 ek, .bool eb, .int .i64 ei, .string es, .slice eal enl ecl, .slice eam enm ecm], .agg #[.int .i64 fk, .bool fb, .int .i64 fi, .string fs, .slice fal fnl fcl, .slice fam fnm fcm]] w (JPost (osB ek eb ei es fk fb fi fs) w) := by
  have hb0 := box_row w [.int .i64 ek, .bool eb, .int .i64 ei, .string es, .slice eal enl ecl, .slice eam enm ecm] 33
  have hb1 : rowAt ((w.alloc (.cells #[.int .i64 ek, .bool eb, .int .i64 ei, .string es, .slice eal enl ecl, .slice eam enm ecm] 33)).alloc (.cells #[.int .i64 fk, .bool fb, .int .i64 fi, .string fs, .slice fal fnl fcl, .slice fam fnm fcm] 33)) w.heap.size 0 [.int .i64 ek, .bool eb, .int .i64 ei, .string es, .slice eal enl ecl, .slice eam enm ecm] := hb0.keep (Below.heap_alloc _ _ _ (by rw [alloc_size]; omega))
  have hb2 : rowAt ((w.alloc (.cells #[.int .i64 ek, .bool eb, .int .i64 ei, .string es, .slice eal enl ecl, .slice eam enm ecm] 33)).alloc (.cells #[.int .i64 fk, .bool fb, .int .i64 fi, .string fs, .slice fal fnl fcl, .slice fam fnm fcm] 33)) (w.heap.size + 1) 0 [.int .i64 fk, .bool fb, .int .i64 fi, .string fs, .slice fal fnl fcl, .slice fam fnm fcm] := by
    have := box_row (w.alloc (.cells #[.int .i64 ek, .bool eb, .int .i64 ei, .string es, .slice eal enl ecl, .slice eam enm ecm] 33)) [.int .i64 fk, .bool fb, .int .i64 fi, .string fs, .slice fal fnl fcl, .slice fam fnm fcm] 33
    rwa [alloc_size] at this
  have B0 := two_below w (.cells #[.int .i64 ek, .bool eb, .int .i64 ei, .string es, .slice eal enl ecl, .slice eam enm ecm] 33) (.cells #[.int .i64 fk, .bool fb, .int .i64 fi, .string fs, .slice fal fnl fcl, .slice fam fnm fcm] 33)
  obtain ⟨d0, d1, d2, d3, d4, d5⟩ := row6z hb1
  obtain ⟨g0, g1, g2, g3, g4, g5⟩ := row6z hb2
  have HB := hmk B0
  by_cases hk : ek = fk
  case neg =>
    have y1 : (ek != fk) = true := by rw [bne_iff_ne]; exact hk
    have HF : Hid (osB ek eb ei es fk fb fi fs = cmpI ek fk) := by show _ = _; rw [osB, if_neg hk]
    have c := hmk (icompare_any ek fk ((w.alloc (.cells #[.int .i64 ek, .bool eb, .int .i64 ei, .string es, .slice eal enl ecl, .slice eam enm ecm] 33)).alloc (.cells #[.int .i64 fk, .bool fb, .int .i64 fi, .string fs, .slice fal fnl fcl, .slice fam fnm fcm] 33)))
    generalize osB ek eb ei es fk fb fi fs = RR at *
    clear hk
    go_enter Tryz.func75, Tryz.ntmps75
    go_wp2_with fail
    refine c.out.mono ?_
    rintro e w1 ⟨rfl, b1⟩
    go_wp2_with fail
    go_ret
    exact ⟨by rw [HF.out]; rfl, HB.out.trans (b1.mono HB.out.size)⟩
  subst hk
  by_cases hb : eb = fb
  case neg =>
    have y1 : (eb != fb) = true := by rw [bne_iff_ne]; exact hb
    have HF : Hid (osB ek eb ei es ek fb fi fs = if fb = true then -1 else 1) := by show _ = _; rw [osB, if_pos rfl, if_neg hb]
    generalize osB ek eb ei es ek fb fi fs = RR at *
    clear y1
    cases fb
    · obtain rfl : eb = true := by cases eb <;> simp_all
      clear hb
      go_enter Tryz.func75, Tryz.ntmps75
      go_wp2_with fail
      go_ret
      exact ⟨by rw [HF.out]; rfl, HB.out⟩
    · obtain rfl : eb = false := by cases eb <;> simp_all
      clear hb
      go_enter Tryz.func75, Tryz.ntmps75
      go_wp2_with fail
      go_ret
      exact ⟨by rw [HF.out]; rfl, HB.out⟩
  subst hb
  by_cases hi : ei = fi
  case neg =>
    have y1 : (ei != fi) = true := by rw [bne_iff_ne]; exact hi
    have HF : Hid (osB ek eb ei es ek eb fi fs = cmpI ei fi) := by show _ = _; rw [osB, if_pos rfl, if_pos rfl, if_neg hi]
    have c := hmk (icompare_any ei fi ((w.alloc (.cells #[.int .i64 ek, .bool eb, .int .i64 ei, .string es, .slice eal enl ecl, .slice eam enm ecm] 33)).alloc (.cells #[.int .i64 ek, .bool eb, .int .i64 fi, .string fs, .slice fal fnl fcl, .slice fam fnm fcm] 33)))
    generalize osB ek eb ei es ek eb fi fs = RR at *
    clear hi
    go_enter Tryz.func75, Tryz.ntmps75
    go_wp2_with fail
    refine c.out.mono ?_
    rintro e w1 ⟨rfl, b1⟩
    go_wp2_with fail
    go_ret
    exact ⟨by rw [HF.out]; rfl, HB.out.trans (b1.mono HB.out.size)⟩
  subst hi
  have HF : Hid (osB ek eb ei es ek eb ei fs = cmpS es fs) := by show _ = _; rw [osB, if_pos rfl, if_pos rfl, if_pos rfl]
  have c := hmk (scompare_any es fs ((w.alloc (.cells #[.int .i64 ek, .bool eb, .int .i64 ei, .string es, .slice eal enl ecl, .slice eam enm ecm] 33)).alloc (.cells #[.int .i64 ek, .bool eb, .int .i64 ei, .string fs, .slice fal fnl fcl, .slice fam fnm fcm] 33)))
  generalize osB ek eb ei es ek eb ei fs = RR at *
  go_enter Tryz.func75, Tryz.ntmps75
  go_wp2_with fail
  refine c.out.mono ?_
  rintro e w1 ⟨rfl, b1⟩
  go_wp2_with fail
  go_ret
  exact ⟨by rw [HF.out]; rfl, HB.out.trans (b1.mono HB.out.size)⟩
set_option maxHeartbeats 4000000 in
set_option maxRecDepth 100000 in
theorem omem_any (xs ys : ByteArray) (ek : Int) (eb : Bool) (ei : Int) (es : ByteArray) (eal : Option Addr) (enl ecl : Nat) (eam : Option Addr) (enm ecm : Nat) (fk : Int) (fb : Bool) (fi : Int) (fs : ByteArray) (fal : Option Addr) (fnl fcl : Nat) (fam : Option Addr) (fnm fcm : Nat) (w : World) : Calls Tryz.prog 74 #[.agg #[.string xs, .int .i64 ek, .bool eb, .int .i64 ei, .string es, .slice eal enl ecl, .slice eam enm ecm], .agg #[.string ys, .int .i64 fk, .bool fb, .int .i64 fi, .string fs, .slice fal fnl fcl, .slice fam fnm fcm]] w (JPost (if xs.toList = ys.toList then osB ek eb ei es fk fb fi fs else cmpS xs ys) w) := by
  have hb0 := box_row w [.string xs, .int .i64 ek, .bool eb, .int .i64 ei, .string es, .slice eal enl ecl, .slice eam enm ecm] 62
  have hb1 : rowAt ((w.alloc (.cells #[.string xs, .int .i64 ek, .bool eb, .int .i64 ei, .string es, .slice eal enl ecl, .slice eam enm ecm] 62)).alloc (.cells #[.string ys, .int .i64 fk, .bool fb, .int .i64 fi, .string fs, .slice fal fnl fcl, .slice fam fnm fcm] 62)) w.heap.size 0 [.string xs, .int .i64 ek, .bool eb, .int .i64 ei, .string es, .slice eal enl ecl, .slice eam enm ecm] := hb0.keep (Below.heap_alloc _ _ _ (by rw [alloc_size]; omega))
  have hb2 : rowAt ((w.alloc (.cells #[.string xs, .int .i64 ek, .bool eb, .int .i64 ei, .string es, .slice eal enl ecl, .slice eam enm ecm] 62)).alloc (.cells #[.string ys, .int .i64 fk, .bool fb, .int .i64 fi, .string fs, .slice fal fnl fcl, .slice fam fnm fcm] 62)) (w.heap.size + 1) 0 [.string ys, .int .i64 fk, .bool fb, .int .i64 fi, .string fs, .slice fal fnl fcl, .slice fam fnm fcm] := by
    have := box_row (w.alloc (.cells #[.string xs, .int .i64 ek, .bool eb, .int .i64 ei, .string es, .slice eal enl ecl, .slice eam enm ecm] 62)) [.string ys, .int .i64 fk, .bool fb, .int .i64 fi, .string fs, .slice fal fnl fcl, .slice fam fnm fcm] 62
    rwa [alloc_size] at this
  have B0 := two_below w (.cells #[.string xs, .int .i64 ek, .bool eb, .int .i64 ei, .string es, .slice eal enl ecl, .slice eam enm ecm] 62) (.cells #[.string ys, .int .i64 fk, .bool fb, .int .i64 fi, .string fs, .slice fal fnl fcl, .slice fam fnm fcm] 62)
  obtain ⟨d, d0, d1, d2, d3, d4, d5⟩ := row7 hb1
  obtain ⟨g, g0, g1, g2, g3, g4, g5⟩ := row7 hb2
  simp only [Nat.zero_add] at d d0 d1 d2 d3 d4 d5 g g0 g1 g2 g3 g4 g5
  have HB := hmk B0
  by_cases hk : xs.toList = ys.toList
  case neg =>
    have y1 : (xs.toList != ys.toList) = true := by rw [bne_iff_ne]; exact hk
    have y2 : (xs.toList == ys.toList) = false := beq_eq_false_iff_ne.2 hk
    have c := hmk (scompare_any xs ys ((w.alloc (.cells #[.string xs, .int .i64 ek, .bool eb, .int .i64 ei, .string es, .slice eal enl ecl, .slice eam enm ecm] 62)).alloc (.cells #[.string ys, .int .i64 fk, .bool fb, .int .i64 fi, .string fs, .slice fal fnl fcl, .slice fam fnm fcm] 62)))
    rw [if_neg hk]
    clear hk
    go_enter Tryz.func74, Tryz.ntmps74
    go_wp2_with fail
    refine c.out.mono ?_
    rintro e w1 ⟨rfl, b1⟩
    go_wp2_with fail
    go_ret
    exact ⟨rfl, HB.out.trans (b1.mono HB.out.size)⟩
  rw [if_pos hk]
  obtain rfl := bytes_eq hk
  have c := hmk (oscal_any ek eb ei es eal enl ecl eam enm ecm fk fb fi fs fal fnl fcl fam fnm fcm ((w.alloc (.cells #[.string xs, .int .i64 ek, .bool eb, .int .i64 ei, .string es, .slice eal enl ecl, .slice eam enm ecm] 62)).alloc (.cells #[.string xs, .int .i64 fk, .bool fb, .int .i64 fi, .string fs, .slice fal fnl fcl, .slice fam fnm fcm] 62)))
  generalize osB ek eb ei es fk fb fi fs = RR at *
  clear hk
  go_enter Tryz.func74, Tryz.ntmps74
  go_wp2_with fail
  refine c.out.mono ?_
  rintro e w1 ⟨rfl, b1⟩
  go_wp2_with fail
  go_ret
  exact ⟨rfl, HB.out.trans (b1.mono HB.out.size)⟩
end Go.Proofs.YtfekgeaopchilaaGreatDoor
