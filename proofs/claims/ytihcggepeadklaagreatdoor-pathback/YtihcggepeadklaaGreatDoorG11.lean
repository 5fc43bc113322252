/- joined: SizA OrdP ShlC AllG AllH CntM -/
import Derived.Test.YtihcggepeadklaaGreatDoorG10
import Derived.Lib.Bytealg
import Derived.Shelf.Small.Strs
/- Depth, Nodes, Scalar and the document's: contracts. -/
set_option linter.unusedSimpArgs false
set_option linter.unusedVariables false
namespace Go.Proofs.YtihcggepeadklaaGreatDoor
open Go.RowKit Go.Lib
def okV (v : V) : Bool := decide ((chkV 40 v 0 (0, 0, 0)).1 = 0)
def kindOf : V → Int
  | .mk k _ _ _ _ _ => k
def sizS (v : V) : Bool := okV v && (decide (1 ≤ kindOf v) && decide (kindOf v ≤ 3))
theorem chkE40 (v : V) : chkE v 40 = (chkV 40 v 0 (0, 0, 0)).1 := by rw [chkE, if_neg (by omega)]; rfl
theorem okV_true {v : V} (h : okV v = true) : (chkV 40 v 0 (0, 0, 0)).1 = 0 := of_decide_eq_true h
set_option maxHeartbeats 4000000 in
set_option maxRecDepth 100000 in
theorem taken_any (R : Bool) (v : V) (S : Nat → Prop) (cs : List Value) (w : World) (t : Tb w) (hl : v.lies R w S cs) (hS : ∀ b, S b → b < w.heap.size) (hwt : v.wt ≤ 1099511627776) :
    Calls Tryz.prog 67 #[.agg cs.toArray] w (BPost (okV v) w) := by
  obtain ⟨k, b, i, s, al, nl, cl, am, nm, cm, rfl⟩ := V.ten hl
  have ga : w.grownBy (w.alloc (.cells #[.int .i64 k, .bool b, .int .i64 i, .string s, .slice al nl cl, .slice am nm cm] 46)) none := World.grownBy_alloc _ _ _
  have c := check_any R v 40 S _ _ (t.grown ga (fun r e => by cases e)) (V.lies_keep (fun h => h) (fun x hx => ga.block x (hS x hx) (by simp)) (fun _ h => h) _ hl) (fun x hx => Nat.lt_of_lt_of_le (hS x hx) ga.size) hwt
  rw [chkE40] at c
  have HF : Hid (okV v = ((((chkV 40 v 0 (0, 0, 0)).1 : Nat) : Int) == 0)) := by
    show _ = _
    rw [okV, Bool.eq_iff_iff, decide_eq_true_iff, beq_iff_eq]
    omega
  generalize (chkV 40 v 0 (0, 0, 0)).1 = z at *
  go_enter Tryz.func67, Tryz.ntmps67
  go_wp2_with fail
  refine c.mono ?_
  rintro e w1 ⟨rfl, b1⟩
  go_wp2_with fail
  go_ret
  refine ⟨?_, (below_of_grown ga).trans (b1.mono ga.size)⟩
  rw [HF.out]
  rfl
set_option maxHeartbeats 4000000 in
set_option maxRecDepth 100000 in
theorem scalar_any (R : Bool) (v : V) (S : Nat → Prop) (cs : List Value) (w : World) (t : Tb w) (hl : v.lies R w S cs) (hS : ∀ b, S b → b < w.heap.size) (hwt : v.wt ≤ 1099511627776) :
    Calls Tryz.prog 44 #[.agg cs.toArray] w (BPost (sizS v) w) := by
  have hl0 := hl
  obtain ⟨k, b, i, s, l, m⟩ := v
  rw [V.lies] at hl
  obtain ⟨al, cl, bl, ol, am, cm, bm, om, rfl, hk, hi, hs, hal, ham, _⟩ := hl
  have ga : w.grownBy (w.alloc (.cells #[.int .i64 k, .bool b, .int .i64 i, .string s, .slice al l.length cl, .slice am m.length cm] 46)) none := World.grownBy_alloc _ _ _
  have c := taken_any R _ S _ _ (t.grown ga (fun r e => by cases e)) (V.lies_keep (fun h => h) (fun x hx => ga.block x (hS x hx) (by simp)) (fun _ h => h) _ hl0) (fun x hx => Nat.lt_of_lt_of_le (hS x hx) ga.size) hwt
  clear hl0 hwt
  by_cases h3 : k = 1 ∨ k = 2 ∨ k = 3
  · have HF : Hid (sizS (V.mk k b i s l m) = okV (V.mk k b i s l m)) := by
      show _ = _
      rw [sizS, kindOf, decide_eq_true (show 1 ≤ k by omega), decide_eq_true (show k ≤ 3 by omega)]; simp
    generalize okV (V.mk k b i s l m) = z at *
    rcases h3 with rfl | rfl | rfl
    all_goals
      go_enter Tryz.func44, Tryz.ntmps44
      go_wp2_with fail
      refine c.mono ?_
      rintro e w1 ⟨rfl, b1⟩
      go_wp2_with fail
      go_ret
      rw [HF.out]
      exact ⟨rfl, (below_of_grown ga).trans (b1.mono ga.size)⟩
  · have HF : Hid (sizS (V.mk k b i s l m) = false) := by
      show _ = _
      rw [sizS, kindOf]
      by_cases h1 : 1 ≤ k
      · rw [decide_eq_false (show ¬ k ≤ 3 by omega)]; simp
      · rw [decide_eq_false h1]; simp
    have y1 : ¬ k = 1 := by omega
    have y2 : ¬ k = 2 := by omega
    have y3 : ¬ k = 3 := by omega
    clear c
    go_enter Tryz.func44, Tryz.ntmps44
    go_wp2_with fail
    go_ret
    rw [HF.out]
    exact ⟨rfl, below_of_grown ga⟩
end Go.Proofs.YtihcggepeadklaaGreatDoor
/- The order of values, and the document's, as plain functions. -/
namespace Go.Proofs.YtihcggepeadklaaGreatDoor
open Go.RowKit Go.Lib
def cmpI (a b : Int) : Int := if a < b then -1 else if b < a then 1 else 0
def cmpS (a b : ByteArray) : Int := Lib.compareBytes a.data.toList b.data.toList
def cmpB (a b : Bool) : Int := if a = b then 0 else if b = true then -1 else 1
mutual
def ordV : V → V → Int
  | .mk k b i s l m, .mk k' b' i' s' l' m' =>
    if k = k' then
      if k = 1 then cmpB b b' else if k = 2 then cmpI i i' else if k = 3 then cmpS s s' else if k = 4 then ordL l l' else if k = 5 then ordM m m' else 0
    else cmpI k k'
def ordL : List V → List V → Int
  | [], [] => 0
  | [], _ :: _ => -1
  | _ :: _, [] => 1
  | x :: t, y :: u => if ordV x y = 0 then ordL t u else ordV x y
def ordM : List Mem → List Mem → Int
  | [], [] => 0
  | [], _ :: _ => -1
  | _ :: _, [] => 1
  | (k, x) :: t, (k', y) :: u => if k.toList = k'.toList then (if ordV x y = 0 then ordM t u else ordV x y) else if cmpS k k' = 0 then ordM t u else cmpS k k'
end
def JPost (r : Int) (w : World) (e : Ending) (w' : World) : Prop := e = .returned (.int .i64 r) ∧ Below w.heap.size w w'
end Go.Proofs.YtihcggepeadklaaGreatDoor
/- strings.Compare by its contract, laid at this program; cmp.Compare of integers, the order of bools. -/
namespace Go.Proofs
open Go.Shelf Go.RowKit
def Tryz.lays106_ren : Go.Shelf.Ren := ⟨fun | 106 => 73 | 213 => 113 | 265 => 137 | n => n, fun | 3 => 3 | 9 => 9 | n => n, fun | n => n⟩
theorem Tryz.lays106 : Go.Proofs.Lays.n106 Tryz.prog Tryz.lays106_ren := {
  mixed := by kernel_rfl
  f106 := Tryz.func73.trans (congrArg some (by kernel_rfl))
  f213 := Tryz.func113.trans (congrArg some (by kernel_rfl))
  f265 := Tryz.func137.trans (congrArg some (by kernel_rfl))
  t3 := Tryz.underlying3
  a3 := Tryz.isAgg3
  z3 := Tryz.sizeOf3
  v3 := Tryz.zeroValue3
  t9 := Tryz.underlying9
  a9 := Tryz.isAgg9
  z9 := Tryz.sizeOf9
  v9 := Tryz.zeroValue9 }
namespace YtihcggepeadklaaGreatDoor
open Go.Lib
theorem scompare_any (a b : ByteArray) (w : World) : Calls Tryz.prog 73 #[.string a, .string b] w (JPost (cmpS a b) w) :=
  (Any.strings_Compare Tryz.lays106 a b w).mono fun e w' h => ⟨h.1, by rw [h.2]; exact Below.refl _ _⟩
theorem isnan_any (a : Int) (w : World) : Calls Tryz.prog 112 #[.int .i64 a] w (BPost false w) := by
  go_enter Tryz.func112, Tryz.ntmps112
  go_wp2_with fail
  go_ret
  exact ⟨by simp, Below.refl _ _⟩
theorem icompare_any (a b : Int) (w : World) : Calls Tryz.prog 72 #[.int .i64 a, .int .i64 b] w (JPost (cmpI a b) w) := by
  go_enter Tryz.func72, Tryz.ntmps72
  go_wp2_with fail
  refine (isnan_any a w).mono ?_
  rintro e w1 ⟨rfl, b1⟩
  go_wp2_with fail
  refine (isnan_any b w1).mono ?_
  rintro e w2 ⟨rfl, b2⟩
  have B2 := b1.trans (b2.mono b1.size)
  by_cases h1 : a < b
  · have HF : Hid (cmpI a b = -1) := by show _ = _; simp [cmpI, h1]
    go_wp2_with fail
    go_ret
    rw [HF.out]
    exact ⟨rfl, B2⟩
  · by_cases h2 : b < a
    · have HF : Hid (cmpI a b = 1) := by show _ = _; simp [cmpI, h1, h2]
      have y2 : a > b := h2
      go_wp2_with fail
      go_ret
      rw [HF.out]
      exact ⟨rfl, B2⟩
    · have HF : Hid (cmpI a b = 0) := by show _ = _; simp [cmpI, h1, h2]
      have y2 : ¬ a > b := h2
      go_wp2_with fail
      go_ret
      rw [HF.out]
      exact ⟨rfl, B2⟩
end YtihcggepeadklaaGreatDoor
end Go.Proofs
/- What a value that is taken is, all the way down; there the two orders are one. -/
namespace Go.Proofs.YtihcggepeadklaaGreatDoor
open Go.RowKit Go.Lib
mutual
def allG : V → Prop
  | .mk k b i s l m => goodB k b i s l.length m = true ∧ allGL l ∧ allGM m
def allGL : List V → Prop
  | [] => True
  | x :: t => allG x ∧ allGL t
def allGM : List Mem → Prop
  | [] => True
  | (_, x) :: t => allG x ∧ allGM t
end
theorem entF_good {D n y d lv : Nat} {g : Bool} {z : Nat} (h : (entF D n y d lv g z).1 = 0) : g = true := by
  unfold entF at h
  split at h
  · simp at h
  split at h
  · simp at h
  split at h
  · simp at h
  · rename_i h3; cases g <;> simp_all
mutual
theorem chkV_allG (D : Nat) : ∀ (v : V) (lv : Nat) (st : St), (chkV D v lv st).1 = 0 → allG v
  | .mk k b i s l m, lv, st, h => by
    rw [chkV] at h
    rw [allG]
    by_cases h1 : (entF D st.1 st.2.1 st.2.2 lv (goodB k b i s l.length m) (s.size + keyB m)).1 = 0
    · simp only [h1, if_true] at h
      by_cases h2 : (chkL D l (lv + 1) (entF D st.1 st.2.1 st.2.2 lv (goodB k b i s l.length m) (s.size + keyB m)).2).1 = 0
      · simp only [h2, if_true] at h
        exact ⟨entF_good h1, chkL_allG D l (lv + 1) _ h2, chkM_allG D m (lv + 1) _ h⟩
      · simp only [h2, if_false] at h
    · simp only [h1, if_false] at h
theorem chkL_allG (D : Nat) : ∀ (l : List V) (lv : Nat) (st : St), (chkL D l lv st).1 = 0 → allGL l
  | [], lv, st, h => by rw [allGL]; trivial
  | x :: t, lv, st, h => by
    rw [chkL] at h
    rw [allGL]
    by_cases h1 : (chkV D x lv st).1 = 0
    · rw [if_pos h1] at h
      exact ⟨chkV_allG D x lv st h1, chkL_allG D t lv _ h⟩
    · rw [if_neg h1] at h
      exact absurd h h1
theorem chkM_allG (D : Nat) : ∀ (l : List Mem) (lv : Nat) (st : St), (chkM D l lv st).1 = 0 → allGM l
  | [], lv, st, h => by rw [allGM]; trivial
  | (_, x) :: t, lv, st, h => by
    rw [chkM] at h
    rw [allGM]
    by_cases h1 : (chkV D x lv st).1 = 0
    · rw [if_pos h1] at h
      exact ⟨chkV_allG D x lv st h1, chkM_allG D t lv _ h⟩
    · rw [if_neg h1] at h
      exact absurd h h1
end
theorem toList_data (a : ByteArray) : a.toList = a.data.toList := ByteArray.toList_eq a
theorem cmp_zero : ∀ a b : List UInt8, compareBytes a b = 0 ↔ a = b
  | [], [] => by simp [compareBytes]
  | [], _ :: _ => by simp [compareBytes]
  | _ :: _, [] => by simp [compareBytes]
  | x :: t, y :: u => by
    have ih := cmp_zero t u
    rw [compareBytes]
    by_cases h1 : x < y
    · rw [if_pos h1]
      constructor
      · intro h; simp at h
      · intro h; cases h; exact absurd h1 (Nat.lt_irrefl _)
    · rw [if_neg h1]
      by_cases h2 : y < x
      · rw [if_pos h2]
        constructor
        · intro h; simp at h
        · intro h; cases h; exact absurd h2 (Nat.lt_irrefl _)
      · rw [if_neg h2, ih]
        have he : x = y := by
          rcases Nat.lt_trichotomy x.toNat y.toNat with h | h | h
          · exact absurd h h1
          · exact UInt8.toNat_inj.1 h
          · exact absurd h h2
        simp [he]
theorem goodB_plain {k : Int} {b : Bool} {i : Int} {s : ByteArray} {nl : Nat} {m : List Mem} (h : goodB k b i s nl m = true) : 0 ≤ k ∧ k ≤ 5 ∧ (k = 1 ∨ b = false) ∧ (k = 2 ∨ i = 0) ∧ (k = 3 ∨ s.toList.isEmpty = true) ∧ (k = 4 ∨ nl = 0) ∧ (k = 5 ∨ m.length = 0) := by
  simp only [goodB, Bool.and_eq_true, plainB, decide_eq_true_eq] at h
  exact h.1.1
end Go.Proofs.YtihcggepeadklaaGreatDoor
/- What a scalar that is taken is. -/
namespace Go.Proofs.YtihcggepeadklaaGreatDoor
open Go.RowKit Go.Lib
theorem sizS_good {k : Int} {b : Bool} {i : Int} {s : ByteArray} {l : List V} {m : List Mem} (h : sizS (.mk k b i s l m) = true) : (k = 1 ∨ k = 2 ∨ k = 3) ∧ validD s.data.toList = true ∧ l = [] ∧ m = [] := by
  simp only [sizS, Bool.and_eq_true, decide_eq_true_eq] at h
  have gv := chkV_allG 40 _ 0 _ (okV_true h.1)
  rw [allG] at gv
  have p := goodB_plain gv.1
  have hk := h.2
  simp only [kindOf] at hk
  have l0 : l = [] := List.length_eq_zero_iff.1 (p.2.2.2.2.2.1.resolve_left (by omega))
  have m0 : m = [] := List.length_eq_zero_iff.1 (p.2.2.2.2.2.2.resolve_left (by omega))
  refine ⟨by omega, ?_, l0, m0⟩
  have g := gv.1
  simp [goodB] at g
  simp_all [utfB]
end Go.Proofs.YtihcggepeadklaaGreatDoor
/- whether members are beyond the bound. -/
namespace Go.Proofs.YtihcggepeadklaaGreatDoor
open Go.RowKit
set_option maxHeartbeats 1600000 in
set_option maxRecDepth 100000 in
theorem cmems_any (m : List Mem) (B n : Nat) (S : Nat → Prop) (am : Option Addr) (cm bm om : Nat) (w : World) (ham : Headed am m.length cm bm om) (hm : liesM false w S m bm om) (hS : ∀ b, S b → b ≠ B ∧ b < w.heap.size) (hc : Cnt B n w) (hn : n ≤ 2147483647) :
    Calls Tryz.prog 78 #[.pointer (some ⟨B, 0, none⟩), .slice am m.length cm] w (CntPost B n (wtM m) w) := by
  have HM : Hid (liesM false w S m bm om) := hm
  have hml : m.length ≤ 9223372036854775807 := Nat.le_trans ham.le ham.max
  clear hm
  have hkeep : ∀ wr : World, w.grownBy wr (some B) → ∀ b, S b → wr.heap[b]? = w.heap[b]? := fun wr g b hb => g.block b (hS b hb).2 (fun e => (hS b hb).1 (Option.some.inj e))
  go_enter Tryz.func78, Tryz.ntmps78
  go_wp2_with fail
  go_loopw [5] (fun e wr => ∃ j : Nat, j ≤ m.length ∧ e = .int .i64 (j : Int) ∧ n + wtM (m.take j) ≤ 2147483647 ∧ Cnt B (n + wtM (m.take j)) wr ∧ w.grownBy wr (some B)) (fun e _ => m.length - (RowKit.intOf e).toNat)
  case atStart => exact ⟨0, by omega, rfl, by simpa [wtM] using hn, by simpa [wtM] using hc, World.grownBy.refl w (some B)⟩
  case round =>
    clear hn hc
    obtain ⟨j, hj, rfl, hnj, hcj, gj⟩ := hrel
    by_cases hjl : j < m.length
    · have y1 : (j : Int) < m.length := by omega
      obtain ⟨hSb, hks, csj, hrow, hlj⟩ := liesM_get HM.out j hjl
      obtain rfl : am = some ⟨bm, om, none⟩ := ham.at_.resolve_left (by omega)
      have hrow' := hrow.keep (hkeep wr gj _ hSb)
      have hlj' := V.lies_keep (R' := false) (S' := S) (fun h => h) (hkeep wr gj) (fun _ h => h) _ hlj
      have HT : Hid (wtM (m.take (j + 1)) = wtM (m.take j) + ((m[j]).1.size + (m[j]).2.wt)) := take_succ_wtM hjl
      obtain ⟨ek, eb, ei, es, eal, enl, ecl, eam, enm, ecm, rfl⟩ := V.ten hlj
      generalize hmj : m[j] = mj at *
      obtain ⟨q, q0, q1, q2, q3, q4, q5⟩ := row7 hrow'
      clear hlj hrow hrow'
      go_wp2_with fail
      refine (many_any B _ mj.1.size wr hcj hnj hks).mono ?_
      rintro e w3 ⟨r, rfl, g3, h3⟩
      cases r
      · obtain ⟨hn3, hc3⟩ := h3 rfl
        have g03 := grown_trans gj g3
        have hlj3 := V.lies_keep (R' := false) (S' := S) (fun h => h) (fun b hb => (g3.block b (Nat.lt_of_lt_of_le (hS b hb).2 gj.size) (fun e => (hS b hb).1 (Option.some.inj e)))) (fun _ h => h) _ hlj'
        have ih := cval_any mj.2 B _ 65520 S _ w3 hlj3 (fun b hb => ⟨(hS b hb).1, by have := (hS b hb).2; have := g03.size; omega⟩) hc3 hn3 (by omega)
        have e5 : ((65520 : Nat) : Int) = 65520 := rfl
        rw [e5] at ih
        have hbne : some bm ≠ some B := fun e => (hS bm hSb).1 (Option.some.inj e)
        replace q := g3.cell q hbne
        replace q0 := g3.cell q0 hbne
        replace q1 := g3.cell q1 hbne
        replace q2 := g3.cell q2 hbne
        replace q3 := g3.cell q3 hbne
        replace q4 := g3.cell q4 hbne
        replace q5 := g3.cell q5 hbne
        clear hlj' hlj3 h3
        go_wp2_with fail
        refine ih.mono ?_
        rintro e w4 ⟨r, rfl, g4, h4⟩
        cases r
        · obtain ⟨hn4, hc4⟩ := h4 rfl
          go_wp2_with fail
          go_roundw
          case rel => exact ⟨j + 1, by omega, by go_num, by rw [HT.out]; omega, by rw [HT.out]; simpa only [Nat.add_assoc] using hc4, grown_trans g03 g4⟩
          case measure => simp [RowKit.intOf]; omega
        · go_wp2_with fail
          go_ret
          exact ⟨true, rfl, grown_trans g03 g4, fun h => by cases h⟩
      · go_wp2_with fail
        go_ret
        exact ⟨true, rfl, grown_trans gj g3, fun h => by cases h⟩
    · obtain rfl : j = m.length := by omega
      rw [List.take_length] at hnj hcj
      have y1 : ¬ (m.length : Int) < m.length := by omega
      go_wp2_with fail
      go_ret
      exact ⟨false, rfl, gj, fun _ => ⟨hnj, hcj⟩⟩
end Go.Proofs.YtihcggepeadklaaGreatDoor
