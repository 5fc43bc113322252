/- joined: BdrR RfP -/
import Derived.Test.YtdgfjdhobdfglaaGreatDoorG7
import Derived.Sort.Grow
set_option linter.unusedSimpArgs false
set_option linter.unusedVariables false
set_option maxRecDepth 100000
set_option maxHeartbeats 64000000
namespace Go.Proofs.YtdgfjdhobdfglaaGreatDoor
open Go.RowKit Go.Lib
structure Bd (B : Nat) (w w' : World) : Prop extends Below B w w' where
 drawn : w.drawn <= w'.drawn
theorem Bd.refl (B : Nat) (w : World) : Bd B w w := ⟨Below.refl _ _, Nat.le_refl _⟩
theorem Bd.trans {B : Nat} {a b c : World} (h : Bd B a b) (k : Bd B b c) : Bd B a c := ⟨h.toBelow.trans k.toBelow, Nat.le_trans h.drawn k.drawn⟩
theorem Bd.mono {B B' : Nat} {w w' : World} (h : Bd B w w') (hB : B' <= B) : Bd B' w w' := ⟨h.toBelow.mono hB, h.drawn⟩
theorem Bd.drew {B : Nat} {a w : World} (h : Bd B a w) : Bd B a w.drew := ⟨h.toBelow.drew, Nat.le_trans h.drawn (Nat.le_succ _)⟩
theorem Bd.grow {w w' : World} (h : Bd w.heap.size w w') : ∃ q os, w' = Go.Sort.grow (w.drewN q) os := by
 refine ⟨w'.drawn - w.drawn, w'.heap.extract w.heap.size w'.heap.size, ?_⟩
 obtain ⟨hp, tp, dr, os, ou⟩ := w
 obtain ⟨hp', tp', dr', os', ou'⟩ := w'
 obtain ⟨⟨h1, h2, h3, h4, h5⟩, h6⟩ := h
 dsimp only at h1 h2 h3 h4 h5 h6
 subst h1 h2 h3
 simp only [Go.Sort.grow, World.drewN, World.mk.injEq, true_and, and_true]
 refine ⟨?_, by omega⟩
 apply Array.ext_getElem?
 intro i
 rw [Array.getElem?_append]
 split
 ·exact h5 i (by assumption)
 ·rename_i hi
  rw [Array.getElem?_extract]
  split
  ·rw [show hp.size + (i - hp.size) = i by omega]
  ·rw [Array.getElem?_eq_none (by omega)]
theorem two_bd (w : World) (o o' : Obj) : Bd w.heap.size w ((w.alloc o).alloc o') := ⟨two_below w o o', Nat.le_refl _⟩
def JPostD (r : Int) (w : World) (e : Ending) (w' : World) : Prop := e = .returned (.int .i64 r) /\ Bd w.heap.size w w'
def BPostD (r : Bool) (w : World) (e : Ending) (w' : World) : Prop := e = .returned (.bool r) /\ Bd w.heap.size w w'
structure SubD (N : Nat) (w0 : World) where
 w : World
 b : Bd N w0 w
instance subThereD (N : Nat) (w0 : World) : Inhabited (SubD N w0) := ⟨⟨w0, Bd.refl N w0⟩⟩
theorem wp_region_subD {P : Program} (N : Nat) {id : Nat} {Q : Exit -> Act -> World -> Prop} {a : Act} {w : World} {l : List Oper} (hm : P.follows .mixedOrders = true) (hB : Region.lexB .any l.toArray = true)
 (h : wpQuiet P l.toArray (fun w' => ∃ x : SubD N w, w' = x.w) (fun a' => ∀ w', (∃ x : SubD N w, w' = x.w) -> Q .normal a' w') l a) : (Code.region id l.toArray true).wp P Q a w :=
 wp_region_quiet (C := fun w' => ∃ x : SubD N w, w' = x.w) hm hB ⟨⟨w.drew, (Bd.refl N w).drew⟩, rfl⟩ (by simpa using h)
theorem subD_call {P : Program} {f : FuncId} {args : Array Value} {N : Nat} {w0 : World} {v : Value} (h : ∀ w', Bd N w0 w' -> Calls P f args w' fun e w'' => e = .returned v /\ Bd N w0 w'') (x : SubD N w0) :
 Calls P f args x.w fun e w'' => e = .returned v /\ ∃ y : SubD N w0, w'' = y.w :=
 (h x.w x.b).mono fun e w'' ⟨he, hb⟩ => ⟨he, ⟨w'', hb⟩, rfl⟩
theorem subD_cell {N : Nat} {w0 : World} {b o : Nat} {v : Value} (h : w0.cell? ⟨b, o, none⟩ = some v) (hb : b < N) (x : SubD N w0) : x.w.cell? ⟨b, o, none⟩ = some v :=
 (x.b.toBelow.cell (p := ⟨b, o, none⟩) hb).trans h
theorem scompare_anyD (a b : ByteArray) (w : World) : Calls Tryz.prog 47 #[.string a, .string b] w (JPostD (cmpS a b) w) :=
 (Any.strings_Compare Tryz.lays106 a b w).mono fun e w' h => ⟨h.1, by rw [h.2]; exact Bd.refl _ _⟩
theorem isnan_anyD (a : Int) (w : World) : Calls Tryz.prog 77 #[.int .i64 a] w (BPostD false w) := by
 go_enter Tryz.func77, Tryz.ntmps77
 go_wp2_with fail
 go_ret
 exact ⟨by simp, Bd.refl _ _⟩
theorem icompare_anyD (a b : Int) (w : World) : Calls Tryz.prog 46 #[.int .i64 a, .int .i64 b] w (JPostD (cmpI a b) w) := by
 go_enter Tryz.func46, Tryz.ntmps46
 go_wp2_with fail
 refine (isnan_anyD a w).mono ?_
 rintro e w1 ⟨rfl, b1⟩
 go_wp2_with fail
 refine (isnan_anyD b w1).mono ?_
 rintro e w2 ⟨rfl, b2⟩
 have B2 := b1.trans (b2.mono b1.size)
 by_cases h1 : a < b
 focus
  have HF : Hid (cmpI a b = -1) := by show _ = _; simp [cmpI, h1]
 rotate_left 1
 focus
  by_cases h2 : b < a
  focus
   have HF : Hid (cmpI a b = 1) := by show _ = _; simp [cmpI, h1, h2]
   have y2 : a > b := h2
  rotate_left 1
  focus
   have HF : Hid (cmpI a b = 0) := by show _ = _; simp [cmpI, h1, h2]
   have y2 : ¬ a > b := h2
  rotate_left 1
 rotate_left 2
 all_goals
  go_wp2_with fail
  go_ret
  rw [HF.out]
  exact ⟨rfl, B2⟩
theorem oscal_anyD (ek : Int) (eb : Bool) (ei : Int) (es : ByteArray) (eal : Option Addr) (enl ecl : Nat) (eam : Option Addr) (enm ecm : Nat) (fk : Int) (fb : Bool) (fi : Int) (fs : ByteArray) (fal : Option Addr) (fnl fcl : Nat) (fam : Option Addr) (fnm fcm : Nat) (w : World) : Calls Tryz.prog 50 #[.agg #[.int .i64 ek, .bool eb, .int .i64 ei, .string es, .slice eal enl ecl, .slice eam enm ecm], .agg #[.int .i64 fk, .bool fb, .int .i64 fi, .string fs, .slice fal fnl fcl, .slice fam fnm fcm]] w (JPostD (osB ek eb ei es fk fb fi fs) w) := by
 have hb0 := box_row w [.int .i64 ek, .bool eb, .int .i64 ei, .string es, .slice eal enl ecl, .slice eam enm ecm] 25
 have hb1 : rowAt ((w.alloc (.cells #[.int .i64 ek, .bool eb, .int .i64 ei, .string es, .slice eal enl ecl, .slice eam enm ecm] 25)).alloc (.cells #[.int .i64 fk, .bool fb, .int .i64 fi, .string fs, .slice fal fnl fcl, .slice fam fnm fcm] 25)) w.heap.size 0 [.int .i64 ek, .bool eb, .int .i64 ei, .string es, .slice eal enl ecl, .slice eam enm ecm] := hb0.keep (Below.heap_alloc _ _ _ (by rw [alloc_size]; omega))
 have hb2 : rowAt ((w.alloc (.cells #[.int .i64 ek, .bool eb, .int .i64 ei, .string es, .slice eal enl ecl, .slice eam enm ecm] 25)).alloc (.cells #[.int .i64 fk, .bool fb, .int .i64 fi, .string fs, .slice fal fnl fcl, .slice fam fnm fcm] 25)) (w.heap.size + 1) 0 [.int .i64 fk, .bool fb, .int .i64 fi, .string fs, .slice fal fnl fcl, .slice fam fnm fcm] := by
  have := box_row (w.alloc (.cells #[.int .i64 ek, .bool eb, .int .i64 ei, .string es, .slice eal enl ecl, .slice eam enm ecm] 25)) [.int .i64 fk, .bool fb, .int .i64 fi, .string fs, .slice fal fnl fcl, .slice fam fnm fcm] 25
  rwa [alloc_size] at this
 have B0 := two_bd w (.cells #[.int .i64 ek, .bool eb, .int .i64 ei, .string es, .slice eal enl ecl, .slice eam enm ecm] 25) (.cells #[.int .i64 fk, .bool fb, .int .i64 fi, .string fs, .slice fal fnl fcl, .slice fam fnm fcm] 25)
 obtain ⟨d0, d1, d2, d3, d4, d5⟩ := row6z hb1
 obtain ⟨g0, g1, g2, g3, g4, g5⟩ := row6z hb2
 have HB := hmk B0
 by_cases hk : ek = fk
 case neg =>
  have y1 : (ek != fk) = true := by rw [bne_iff_ne]; exact hk
  have HF : Hid (osB ek eb ei es fk fb fi fs = cmpI ek fk) := by show _ = _; rw [osB, if_neg hk]
  have c := hmk (icompare_anyD ek fk ((w.alloc (.cells #[.int .i64 ek, .bool eb, .int .i64 ei, .string es, .slice eal enl ecl, .slice eam enm ecm] 25)).alloc (.cells #[.int .i64 fk, .bool fb, .int .i64 fi, .string fs, .slice fal fnl fcl, .slice fam fnm fcm] 25)))
  generalize osB ek eb ei es fk fb fi fs = RR at *
  clear hk
  go_enter Tryz.func50, Tryz.ntmps50
  go_wp2_with fail
  refine c.out.mono ?_
  rintro e w1 ⟨rfl, b1⟩
  go_wp2_with fail
  go_ret
  exact ⟨by rw [HF.out]; rfl, HB.out.trans (b1.mono HB.out.size)⟩
 subst hk
 by_cases hb : eb = fb
 case neg =>
  have y1 : (eb != fb) = true := by rw [bne_iff_ne]; exact hb
  have HF : Hid (osB ek eb ei es ek fb fi fs = if fb = true then -1 else 1) := by show _ = _; rw [osB, if_pos rfl, if_neg hb]
  generalize osB ek eb ei es ek fb fi fs = RR at *
  clear y1
  cases fb
  focus
   obtain rfl : eb = true := by cases eb <;> simp_all
  rotate_left 1
  focus
   obtain rfl : eb = false := by cases eb <;> simp_all
  rotate_left 1
  all_goals
   clear hb
   go_enter Tryz.func50, Tryz.ntmps50
   go_wp2_with fail
   go_ret
   exact ⟨by rw [HF.out]; rfl, HB.out⟩
 subst hb
 by_cases hi : ei = fi
 case neg =>
  have y1 : (ei != fi) = true := by rw [bne_iff_ne]; exact hi
  have HF : Hid (osB ek eb ei es ek eb fi fs = cmpI ei fi) := by show _ = _; rw [osB, if_pos rfl, if_pos rfl, if_neg hi]
  have c := hmk (icompare_anyD ei fi ((w.alloc (.cells #[.int .i64 ek, .bool eb, .int .i64 ei, .string es, .slice eal enl ecl, .slice eam enm ecm] 25)).alloc (.cells #[.int .i64 ek, .bool eb, .int .i64 fi, .string fs, .slice fal fnl fcl, .slice fam fnm fcm] 25)))
  generalize osB ek eb ei es ek eb fi fs = RR at *
  clear hi
  go_enter Tryz.func50, Tryz.ntmps50
  go_wp2_with fail
  refine c.out.mono ?_
  rintro e w1 ⟨rfl, b1⟩
  go_wp2_with fail
  go_ret
  exact ⟨by rw [HF.out]; rfl, HB.out.trans (b1.mono HB.out.size)⟩
 subst hi
 have HF : Hid (osB ek eb ei es ek eb ei fs = cmpS es fs) := by show _ = _; rw [osB, if_pos rfl, if_pos rfl, if_pos rfl]
 have c := hmk (scompare_anyD es fs ((w.alloc (.cells #[.int .i64 ek, .bool eb, .int .i64 ei, .string es, .slice eal enl ecl, .slice eam enm ecm] 25)).alloc (.cells #[.int .i64 ek, .bool eb, .int .i64 ei, .string fs, .slice fal fnl fcl, .slice fam fnm fcm] 25)))
 generalize osB ek eb ei es ek eb ei fs = RR at *
 go_enter Tryz.func50, Tryz.ntmps50
 go_wp2_with fail
 refine c.out.mono ?_
 rintro e w1 ⟨rfl, b1⟩
 go_wp2_with fail
 go_ret
 exact ⟨by rw [HF.out]; rfl, HB.out.trans (b1.mono HB.out.size)⟩
theorem omem_anyD (xs ys : ByteArray) (ek : Int) (eb : Bool) (ei : Int) (es : ByteArray) (eal : Option Addr) (enl ecl : Nat) (eam : Option Addr) (enm ecm : Nat) (fk : Int) (fb : Bool) (fi : Int) (fs : ByteArray) (fal : Option Addr) (fnl fcl : Nat) (fam : Option Addr) (fnm fcm : Nat) (w : World) : Calls Tryz.prog 49 #[.agg #[.string xs, .int .i64 ek, .bool eb, .int .i64 ei, .string es, .slice eal enl ecl, .slice eam enm ecm], .agg #[.string ys, .int .i64 fk, .bool fb, .int .i64 fi, .string fs, .slice fal fnl fcl, .slice fam fnm fcm]] w (JPostD (if xs.toList = ys.toList then osB ek eb ei es fk fb fi fs else cmpS xs ys) w) := by
 have hb0 := box_row w [.string xs, .int .i64 ek, .bool eb, .int .i64 ei, .string es, .slice eal enl ecl, .slice eam enm ecm] 40
 have hb1 : rowAt ((w.alloc (.cells #[.string xs, .int .i64 ek, .bool eb, .int .i64 ei, .string es, .slice eal enl ecl, .slice eam enm ecm] 40)).alloc (.cells #[.string ys, .int .i64 fk, .bool fb, .int .i64 fi, .string fs, .slice fal fnl fcl, .slice fam fnm fcm] 40)) w.heap.size 0 [.string xs, .int .i64 ek, .bool eb, .int .i64 ei, .string es, .slice eal enl ecl, .slice eam enm ecm] := hb0.keep (Below.heap_alloc _ _ _ (by rw [alloc_size]; omega))
 have hb2 : rowAt ((w.alloc (.cells #[.string xs, .int .i64 ek, .bool eb, .int .i64 ei, .string es, .slice eal enl ecl, .slice eam enm ecm] 40)).alloc (.cells #[.string ys, .int .i64 fk, .bool fb, .int .i64 fi, .string fs, .slice fal fnl fcl, .slice fam fnm fcm] 40)) (w.heap.size + 1) 0 [.string ys, .int .i64 fk, .bool fb, .int .i64 fi, .string fs, .slice fal fnl fcl, .slice fam fnm fcm] := by
  have := box_row (w.alloc (.cells #[.string xs, .int .i64 ek, .bool eb, .int .i64 ei, .string es, .slice eal enl ecl, .slice eam enm ecm] 40)) [.string ys, .int .i64 fk, .bool fb, .int .i64 fi, .string fs, .slice fal fnl fcl, .slice fam fnm fcm] 40
  rwa [alloc_size] at this
 have B0 := two_bd w (.cells #[.string xs, .int .i64 ek, .bool eb, .int .i64 ei, .string es, .slice eal enl ecl, .slice eam enm ecm] 40) (.cells #[.string ys, .int .i64 fk, .bool fb, .int .i64 fi, .string fs, .slice fal fnl fcl, .slice fam fnm fcm] 40)
 obtain ⟨d, d0, d1, d2, d3, d4, d5⟩ := row7 hb1
 obtain ⟨g, g0, g1, g2, g3, g4, g5⟩ := row7 hb2
 simp only [Nat.zero_add] at d d0 d1 d2 d3 d4 d5 g g0 g1 g2 g3 g4 g5
 have HB := hmk B0
 by_cases hk : xs.toList = ys.toList
 case neg =>
  have y1 : (xs.toList != ys.toList) = true := by rw [bne_iff_ne]; exact hk
  have y2 : (xs.toList == ys.toList) = false := beq_eq_false_iff_ne.2 hk
  have c := hmk (scompare_anyD xs ys ((w.alloc (.cells #[.string xs, .int .i64 ek, .bool eb, .int .i64 ei, .string es, .slice eal enl ecl, .slice eam enm ecm] 40)).alloc (.cells #[.string ys, .int .i64 fk, .bool fb, .int .i64 fi, .string fs, .slice fal fnl fcl, .slice fam fnm fcm] 40)))
  rw [if_neg hk]
  clear hk
  go_enter Tryz.func49, Tryz.ntmps49
  go_wp2_with fail
  refine c.out.mono ?_
  rintro e w1 ⟨rfl, b1⟩
  go_wp2_with fail
  go_ret
  exact ⟨rfl, HB.out.trans (b1.mono HB.out.size)⟩
 rw [if_pos hk]
 obtain rfl := bytes_eq hk
 have c := hmk (oscal_anyD ek eb ei es eal enl ecl eam enm ecm fk fb fi fs fal fnl fcl fam fnm fcm ((w.alloc (.cells #[.string xs, .int .i64 ek, .bool eb, .int .i64 ei, .string es, .slice eal enl ecl, .slice eam enm ecm] 40)).alloc (.cells #[.string xs, .int .i64 fk, .bool fb, .int .i64 fi, .string fs, .slice fal fnl fcl, .slice fam fnm fcm] 40)))
 generalize osB ek eb ei es fk fb fi fs = RR at *
 clear hk
 go_enter Tryz.func49, Tryz.ntmps49
 go_wp2_with fail
 refine c.out.mono ?_
 rintro e w1 ⟨rfl, b1⟩
 go_wp2_with fail
 go_ret
 exact ⟨rfl, HB.out.trans (b1.mono HB.out.size)⟩
theorem okeys_anyD (a b : List Mem) (S S' : Nat -> Prop) (aa : Option Addr) (ca ba oa : Nat) (ab : Option Addr) (cb bb ob : Nat) (w : World) (hha : Headed aa a.length ca ba oa) (hla : liesM false w S a ba oa) (hhb : Headed ab b.length cb bb ob) (hlb : liesM false w S' b bb ob) (hS : ∀ x, S x -> x < w.heap.size) (hS' : ∀ x, S' x -> x < w.heap.size) :
 Calls Tryz.prog 48 #[.slice aa a.length ca, .slice ab b.length cb, .func (.func 49) #[] #[]] w (JPostD (lexL omM a b) w) := by
 have HA := hmk hla
 have HB := hmk hlb
 clear hla hlb
 have hna : a.length <= 9223372036854775807 := Nat.le_trans hha.le hha.max
 have hnb : b.length <= 9223372036854775807 := Nat.le_trans hhb.le hhb.max
 have HR : Hid (lexL omM a b = lexL omM (a.drop 0) (b.drop 0)) := rfl
 generalize lexL omM a b = RR at *
 go_enter Tryz.func48, Tryz.ntmps48
 go_wp2_with fail
 go_loopw [14] (fun e wr => ∃ j : Nat, (j <= a.length /\ j <= b.length) /\ e = .int .i64 (j : Int) /\ Bd w.heap.size w wr /\ Hid (RR = lexL omM (a.drop j) (b.drop j))) (fun e _ => a.length - (RowKit.intOf e).toNat)
 case atStart => exact ⟨0, by omega, rfl, Bd.refl _ _, HR⟩
 case round =>
  clear HR
  obtain ⟨j, hj, rfl, bj, HR⟩ := hrel
  have hzr := bj.size
  by_cases hjl : j < a.length /\ j < b.length
  ·have y1 : (j : Int) < min (a.length : Int) (b.length : Int) := by omega
   have y2 : (j : Int) < a.length := by omega
   have y3 : (j : Int) < b.length := by omega
   obtain ⟨hSb, hks, csj, hrow, hlj⟩ := liesM_get HA.out j hjl.1
   obtain ⟨hSb', hks', dsj, hrow', hlj'⟩ := liesM_get HB.out j hjl.2
   obtain rfl : aa = some ⟨ba, oa, none⟩ := hha.at_.resolve_left (by omega)
   obtain rfl : ab = some ⟨bb, ob, none⟩ := hhb.at_.resolve_left (by omega)
   obtain ⟨ek, eb, ei, es, eal, enl, ecl, eam, enm, ecm, rfl⟩ := V.ten hlj
   obtain ⟨fk, fb, fi, fs, fal, fnl, fcl, fam, fnm, fcm, rfl⟩ := V.ten hlj'
   have rw0 := row7 (hrow.keep (bj.block _ (hS _ hSb)))
   have rw1 := row7 (hrow'.keep (bj.block _ (hS' _ hSb')))
   have hbl : ba < wr.heap.size := World.block_lt_of_cell? wr _ rw0.1
   have hbl' : bb < wr.heap.size := World.block_lt_of_cell? wr _ rw1.1
   have p0 : ∀ x : SubD wr.heap.size wr, _ := subD_cell rw0.1 hbl
   have p1 : ∀ x : SubD wr.heap.size wr, _ := subD_cell rw0.2.1 hbl
   have p2 : ∀ x : SubD wr.heap.size wr, _ := subD_cell rw0.2.2.1 hbl
   have p3 : ∀ x : SubD wr.heap.size wr, _ := subD_cell rw0.2.2.2.1 hbl
   have p4 : ∀ x : SubD wr.heap.size wr, _ := subD_cell rw0.2.2.2.2.1 hbl
   have p5 : ∀ x : SubD wr.heap.size wr, _ := subD_cell rw0.2.2.2.2.2.1 hbl
   have p6 : ∀ x : SubD wr.heap.size wr, _ := subD_cell rw0.2.2.2.2.2.2 hbl
   have q0 : ∀ x : SubD wr.heap.size wr, _ := subD_cell rw1.1 hbl'
   have q1 : ∀ x : SubD wr.heap.size wr, _ := subD_cell rw1.2.1 hbl'
   have q2 : ∀ x : SubD wr.heap.size wr, _ := subD_cell rw1.2.2.1 hbl'
   have q3 : ∀ x : SubD wr.heap.size wr, _ := subD_cell rw1.2.2.2.1 hbl'
   have q4 : ∀ x : SubD wr.heap.size wr, _ := subD_cell rw1.2.2.2.2.1 hbl'
   have q5 : ∀ x : SubD wr.heap.size wr, _ := subD_cell rw1.2.2.2.2.2.1 hbl'
   have q6 : ∀ x : SubD wr.heap.size wr, _ := subD_cell rw1.2.2.2.2.2.2 hbl'
   have CI : Hid (∀ x : SubD wr.heap.size wr, Calls Tryz.prog 49 #[.agg #[.string (a[j]'(hjl.1)).1, .int .i64 ek, .bool eb, .int .i64 ei, .string es, .slice eal enl ecl, .slice eam enm ecm], .agg #[.string (b[j]'(hjl.2)).1, .int .i64 fk, .bool fb, .int .i64 fi, .string fs, .slice fal fnl fcl, .slice fam fnm fcm]] x.w fun e w'' => e = .returned (.int .i64 (omM (a[j]'(hjl.1)) (b[j]'(hjl.2)))) /\ ∃ y : SubD wr.heap.size wr, w'' = y.w) :=
    subD_call fun w' hb => by
     refine (omem_anyD (a[j]'(hjl.1)).1 (b[j]'(hjl.2)).1 ek eb ei es eal enl ecl eam enm ecm fk fb fi fs fal fnl fcl fam fnm fcm w').mono ?_
     rintro e w'' ⟨he, h2⟩
     exact ⟨by rw [he, omM, osV_cells _ _ _ _ _ _ _ _ _ _ _ _ _ _ _ _ _ _ _ _ hlj hlj'], hb.trans (h2.mono hb.size)⟩
   have HD := hmk (lex_drop omM hjl.1 hjl.2)
   generalize omM (a[j]'(hjl.1)) (b[j]'(hjl.2)) = Z at *
   clear rw0 rw1 hlj hlj' hrow hrow'
   go_wp2_with fail
   refine wp_region_subD wr.heap.size (by kernel_rfl) (by kernel_rfl) ?_
   repeat (go_big_quiet_step (exact CI.out _))
   refine wpQuiet_nil ?_
   rintro wq ⟨⟨wq', bq⟩, hq⟩
   have hq' : wq = wq' := hq
   subst hq'
   clear hq
   have BQ := hmk (bj.trans (bq.mono hzr))
   by_cases hZ : Z = 0
   ·have HF : Hid (RR = lexL omM (a.drop (j + 1)) (b.drop (j + 1))) := by show _ = _; rw [HR.out, HD.out, if_pos hZ]
    have y4 : (Z != 0) = false := by rw [hZ]; rfl
    clear hZ
    go_wp2_with fail
    go_roundw
    case rel => exact ⟨j + 1, by omega, by go_num, BQ.out, HF⟩
    case measure => simp [RowKit.intOf]; omega
   ·have HF : Hid (RR = Z) := by show _ = _; rw [HR.out, HD.out, if_neg hZ]
    have y4 : (Z != 0) = true := by rw [bne_iff_ne]; exact hZ
    clear hZ
    go_wp2_with fail
    go_ret
    exact ⟨by rw [HF.out]; rfl, BQ.out⟩
  ·have y1 : ¬ (j : Int) < min (a.length : Int) (b.length : Int) := by omega
   have HF : Hid (RR = cmpI a.length b.length) := by show _ = _; rw [HR.out, lex_end omM hj.1 hj.2 hjl]
   have c := hmk (icompare_anyD a.length b.length wr)
   go_wp2_with fail
   refine c.out.mono ?_
   rintro e w1 ⟨rfl, b1⟩
   go_wp2_with fail
   go_ret
   exact ⟨by rw [HF.out]; rfl, bj.trans (b1.mono hzr)⟩
theorem oelem_anyD (x y : El) (S S' : Nat -> Prop) (cs ds : List Value) (w : World) (hl : x.lies w S cs) (hl' : y.lies w S' ds) (hS : ∀ b, S b -> b < w.heap.size) (hS' : ∀ b, S' b -> b < w.heap.size) :
 Calls Tryz.prog 32 #[.agg cs.toArray, .agg ds.toArray] w (JPostD (oeE x y) w) := by
 obtain ⟨eq, en, me, ve⟩ := x
 obtain ⟨fq, fn, mf, vf⟩ := y
 obtain ⟨ema, emc, ebm, eom, is, rfl, hk, hnm, hem, hm, hv⟩ := hl
 obtain ⟨fma, fmc, fbm, fom, is', rfl, hk', hnm', hfm, hm', hv'⟩ := hl'
 dsimp only at hk hnm hem hm hv hk' hnm' hfm hm' hv'
 obtain ⟨ek, eb, ei, es, eal, enl, ecl, eam, enm, ecm, rfl⟩ := V.ten hv
 obtain ⟨fk, fb, fi, fs, fal, fnl, fcl, fam, fnm, fcm, rfl⟩ := V.ten hv'
 have HO := hmk (osV_cells _ _ _ _ _ _ _ _ _ _ _ _ _ _ _ _ _ _ _ _ hv hv')
 have HM := hmk hm
 have HM' := hmk hm'
 have hb0 := box_row w [.int .i64 eq, .string en, .slice ema me.length emc, .int .i64 ek, .bool eb, .int .i64 ei, .string es, .slice eal enl ecl, .slice eam enm ecm] 52
 have hb1 : rowAt ((w.alloc (.cells #[.int .i64 eq, .string en, .slice ema me.length emc, .int .i64 ek, .bool eb, .int .i64 ei, .string es, .slice eal enl ecl, .slice eam enm ecm] 52)).alloc (.cells #[.int .i64 fq, .string fn, .slice fma mf.length fmc, .int .i64 fk, .bool fb, .int .i64 fi, .string fs, .slice fal fnl fcl, .slice fam fnm fcm] 52)) w.heap.size 0 [.int .i64 eq, .string en, .slice ema me.length emc, .int .i64 ek, .bool eb, .int .i64 ei, .string es, .slice eal enl ecl, .slice eam enm ecm] := hb0.keep (Below.heap_alloc _ _ _ (by rw [alloc_size]; omega))
 have hb2 : rowAt ((w.alloc (.cells #[.int .i64 eq, .string en, .slice ema me.length emc, .int .i64 ek, .bool eb, .int .i64 ei, .string es, .slice eal enl ecl, .slice eam enm ecm] 52)).alloc (.cells #[.int .i64 fq, .string fn, .slice fma mf.length fmc, .int .i64 fk, .bool fb, .int .i64 fi, .string fs, .slice fal fnl fcl, .slice fam fnm fcm] 52)) (w.heap.size + 1) 0 [.int .i64 fq, .string fn, .slice fma mf.length fmc, .int .i64 fk, .bool fb, .int .i64 fi, .string fs, .slice fal fnl fcl, .slice fam fnm fcm] := by
  have := box_row (w.alloc (.cells #[.int .i64 eq, .string en, .slice ema me.length emc, .int .i64 ek, .bool eb, .int .i64 ei, .string es, .slice eal enl ecl, .slice eam enm ecm] 52)) [.int .i64 fq, .string fn, .slice fma mf.length fmc, .int .i64 fk, .bool fb, .int .i64 fi, .string fs, .slice fal fnl fcl, .slice fam fnm fcm] 52
  rwa [alloc_size] at this
 have B0 := two_bd w (.cells #[.int .i64 eq, .string en, .slice ema me.length emc, .int .i64 ek, .bool eb, .int .i64 ei, .string es, .slice eal enl ecl, .slice eam enm ecm] 52) (.cells #[.int .i64 fq, .string fn, .slice fma mf.length fmc, .int .i64 fk, .bool fb, .int .i64 fi, .string fs, .slice fal fnl fcl, .slice fam fnm fcm] 52)
 obtain ⟨d0, d1, d2, d3, d4, d5, d6, d7, d8⟩ := row9z hb1
 obtain ⟨g0, g1, g2, g3, g4, g5, g6, g7, g8⟩ := row9z hb2
 have HB := hmk B0
 clear hm hm' hv hv'
 by_cases hq : eq = fq
 case neg =>
  have y1 : (eq != fq) = true := by rw [bne_iff_ne]; exact hq
  have HF : Hid (oeE ⟨eq, en, me, ve⟩ ⟨fq, fn, mf, vf⟩ = cmpI eq fq) := by show _ = _; rw [oeE]; dsimp only; rw [if_neg hq]
  have c := hmk (icompare_anyD eq fq ((w.alloc (.cells #[.int .i64 eq, .string en, .slice ema me.length emc, .int .i64 ek, .bool eb, .int .i64 ei, .string es, .slice eal enl ecl, .slice eam enm ecm] 52)).alloc (.cells #[.int .i64 fq, .string fn, .slice fma mf.length fmc, .int .i64 fk, .bool fb, .int .i64 fi, .string fs, .slice fal fnl fcl, .slice fam fnm fcm] 52)))
  generalize oeE ⟨eq, en, me, ve⟩ ⟨fq, fn, mf, vf⟩ = RR at *
  clear hq
  go_enter Tryz.func32, Tryz.ntmps32
  go_wp2_with fail
  refine c.out.mono ?_
  rintro e w1 ⟨rfl, b1⟩
  go_wp2_with fail
  go_ret
  exact ⟨by rw [HF.out]; rfl, HB.out.trans (b1.mono HB.out.size)⟩
 subst hq
 by_cases h1 : eq = 1
 ·have HF : Hid (oeE ⟨eq, en, me, ve⟩ ⟨eq, fn, mf, vf⟩ = cmpS en fn) := by show _ = _; rw [oeE]; dsimp only; rw [if_pos rfl, if_pos h1]
  generalize oeE ⟨eq, en, me, ve⟩ ⟨eq, fn, mf, vf⟩ = RR at *
  subst h1
  have c := hmk (scompare_anyD en fn ((w.alloc (.cells #[.int .i64 1, .string en, .slice ema me.length emc, .int .i64 ek, .bool eb, .int .i64 ei, .string es, .slice eal enl ecl, .slice eam enm ecm] 52)).alloc (.cells #[.int .i64 1, .string fn, .slice fma mf.length fmc, .int .i64 fk, .bool fb, .int .i64 fi, .string fs, .slice fal fnl fcl, .slice fam fnm fcm] 52)))
  go_enter Tryz.func32, Tryz.ntmps32
  go_wp2_with fail
  refine c.out.mono ?_
  rintro e w1 ⟨rfl, b1⟩
  go_wp2_with fail
  go_ret
  exact ⟨by rw [HF.out]; rfl, HB.out.trans (b1.mono HB.out.size)⟩
 have z1 : (eq == 1) = false := beq_eq_false_iff_ne.2 h1
 by_cases h2 : eq = 2
 ·have HF : Hid (oeE ⟨eq, en, me, ve⟩ ⟨eq, fn, mf, vf⟩ = lexL omM me mf) := by show _ = _; rw [oeE]; dsimp only; rw [if_pos rfl, if_neg h1, if_pos h2]
  generalize oeE ⟨eq, en, me, ve⟩ ⟨eq, fn, mf, vf⟩ = RR at *
  clear h1 z1
  subst h2
  have c := hmk (okeys_anyD me mf S S' ema emc ebm eom fma fmc fbm fom ((w.alloc (.cells #[.int .i64 2, .string en, .slice ema me.length emc, .int .i64 ek, .bool eb, .int .i64 ei, .string es, .slice eal enl ecl, .slice eam enm ecm] 52)).alloc (.cells #[.int .i64 2, .string fn, .slice fma mf.length fmc, .int .i64 fk, .bool fb, .int .i64 fi, .string fs, .slice fal fnl fcl, .slice fam fnm fcm] 52)) hem (liesM_keep (fun h => h) (fun b hb => HB.out.block b (hS b hb)) (fun _ h => h) _ HM.out) hfm (liesM_keep (fun h => h) (fun b hb => HB.out.block b (hS' b hb)) (fun _ h => h) _ HM'.out) (fun b hb => Nat.lt_of_lt_of_le (hS b hb) HB.out.size) (fun b hb => Nat.lt_of_lt_of_le (hS' b hb) HB.out.size))
  go_enter Tryz.func32, Tryz.ntmps32
  go_wp2_with fail
  refine c.out.mono ?_
  rintro e w1 ⟨rfl, b1⟩
  go_wp2_with fail
  go_ret
  exact ⟨by rw [HF.out]; rfl, HB.out.trans (b1.mono HB.out.size)⟩
 have z2 : (eq == 2) = false := beq_eq_false_iff_ne.2 h2
 have HF : Hid (oeE ⟨eq, en, me, ve⟩ ⟨eq, fn, mf, vf⟩ = osB ek eb ei es fk fb fi fs) := by show _ = _; rw [oeE]; dsimp only; rw [if_pos rfl, if_neg h1, if_neg h2, HO.out]
 generalize oeE ⟨eq, en, me, ve⟩ ⟨eq, fn, mf, vf⟩ = RR at *
 have c := hmk (oscal_anyD ek eb ei es eal enl ecl eam enm ecm fk fb fi fs fal fnl fcl fam fnm fcm ((w.alloc (.cells #[.int .i64 eq, .string en, .slice ema me.length emc, .int .i64 ek, .bool eb, .int .i64 ei, .string es, .slice eal enl ecl, .slice eam enm ecm] 52)).alloc (.cells #[.int .i64 eq, .string fn, .slice fma mf.length fmc, .int .i64 fk, .bool fb, .int .i64 fi, .string fs, .slice fal fnl fcl, .slice fam fnm fcm] 52)))
 generalize osB ek eb ei es fk fb fi fs = ZZ at *
 clear h1 h2
 go_enter Tryz.func32, Tryz.ntmps32
 go_wp2_with fail
 refine c.out.mono ?_
 rintro e w1 ⟨rfl, b1⟩
 go_wp2_with fail
 go_ret
 exact ⟨by rw [HF.out]; rfl, HB.out.trans (b1.mono HB.out.size)⟩
def wellC (c : Nat) (two three four : Bool) (b1 : Nat) : Nat :=
 if c < 128 then 1 else if 194 <= c /\ c <= 223 /\ two = true then 2 else if c = 224 /\ three = true /\ 160 <= b1 then 3 else if c = 237 /\ three = true /\ b1 <= 159 then 3
 else if 225 <= c /\ c <= 239 /\ c ≠ 237 /\ three = true then 3 else if c = 240 /\ four = true /\ 144 <= b1 then 4 else if c = 244 /\ four = true /\ b1 <= 143 then 4 else if 241 <= c /\ c <= 243 /\ four = true then 4 else 0
def moreL (l : List UInt8) (j : Nat) : Bool := match l[j]? with | some c => decide (128 <= c.toNat /\ c.toNat <= 191) | none => false
def tail1 (lo hi : Nat) : List UInt8 -> Bool
 | c :: _ => decide (lo <= c.toNat /\ c.toNat <= hi)
 | _ => false
def tail2 (lo hi : Nat) : List UInt8 -> Bool
 | c :: t => decide (lo <= c.toNat /\ c.toNat <= hi) && tail1 128 191 t
 | _ => false
def tail3 (lo hi : Nat) : List UInt8 -> Bool
 | c :: t => decide (lo <= c.toNat /\ c.toNat <= hi) && tail2 128 191 t
 | _ => false
theorem nxtGo_end (n lo hi : Nat) (t : List UInt8) : Q.nxtGo n n lo hi t = (n, true) := by cases t <;> simp [Q.nxtGo]
theorem go1 (n lo hi : Nat) (t : List UInt8) : (if (Q.nxtGo (n + 1) n lo hi t).2 then (Q.nxtGo (n + 1) n lo hi t).1 else 0) = if tail1 lo hi t then n + 1 else 0 := by
 cases t with
 | nil =>
  have e : Q.nxtGo (n + 1) n lo hi [] = (n, false) := by rw [Q.nxtGo, if_neg (by omega)]
  rw [e]; rfl
 | cons c t =>
  have e : Q.nxtGo (n + 1) n lo hi (c :: t) = if c.toNat < lo \/ hi < c.toNat then (n, false) else Q.nxtGo (n + 1) (n + 1) 128 191 t := by rw [Q.nxtGo, if_neg (by omega)]
  rw [e, tail1]
  clear e
  by_cases h : c.toNat < lo \/ hi < c.toNat
  ·rw [if_pos h]; simp; omega
  ·rw [if_neg h, nxtGo_end]; simp; omega
theorem go2 (n lo hi : Nat) (t : List UInt8) : (if (Q.nxtGo (n + 2) n lo hi t).2 then (Q.nxtGo (n + 2) n lo hi t).1 else 0) = if tail2 lo hi t then n + 2 else 0 := by
 cases t with
 | nil =>
  have e : Q.nxtGo (n + 2) n lo hi [] = (n, false) := by rw [Q.nxtGo, if_neg (by omega)]
  rw [e]; rfl
 | cons c t =>
  have e : Q.nxtGo (n + 2) n lo hi (c :: t) = if c.toNat < lo \/ hi < c.toNat then (n, false) else Q.nxtGo (n + 2) (n + 1) 128 191 t := by rw [Q.nxtGo, if_neg (by omega)]
  rw [e, tail2]
  clear e
  by_cases h : c.toNat < lo \/ hi < c.toNat
  ·rw [if_pos h]; simp; omega
  ·rw [if_neg h]
   have e := go1 (n + 1) 128 191 t
   rw [show n + 1 + 1 = n + 2 by omega] at e
   rw [e]
   have hd : decide (lo <= c.toNat /\ c.toNat <= hi) = true := by simp; omega
   rw [hd, Bool.true_and]
theorem go3 (n lo hi : Nat) (t : List UInt8) : (if (Q.nxtGo (n + 3) n lo hi t).2 then (Q.nxtGo (n + 3) n lo hi t).1 else 0) = if tail3 lo hi t then n + 3 else 0 := by
 cases t with
 | nil =>
  have e : Q.nxtGo (n + 3) n lo hi [] = (n, false) := by rw [Q.nxtGo, if_neg (by omega)]
  rw [e]; rfl
 | cons c t =>
  have e : Q.nxtGo (n + 3) n lo hi (c :: t) = if c.toNat < lo \/ hi < c.toNat then (n, false) else Q.nxtGo (n + 3) (n + 1) 128 191 t := by rw [Q.nxtGo, if_neg (by omega)]
  rw [e, tail3]
  clear e
  by_cases h : c.toNat < lo \/ hi < c.toNat
  ·rw [if_pos h]; simp; omega
  ·rw [if_neg h]
   have e := go2 (n + 1) 128 191 t
   rw [show n + 1 + 2 = n + 3 by omega] at e
   rw [e]
   have hd : decide (lo <= c.toNat /\ c.toNat <= hi) = true := by simp; omega
   rw [hd, Bool.true_and]
theorem moreL_nil (j : Nat) : moreL [] j = false := by simp [moreL]
theorem moreL_zero (c : UInt8) (t : List UInt8) : moreL (c :: t) 0 = decide (128 <= c.toNat /\ c.toNat <= 191) := by simp [moreL]
theorem moreL_succ (c : UInt8) (t : List UInt8) (j : Nat) : moreL (c :: t) (j + 1) = moreL t j := by simp [moreL]
theorem tail1_eq (t : List UInt8) (lo hi : Nat) (h1 : 128 <= lo) (h2 : hi <= 191) : tail1 lo hi t = (moreL t 0 && decide (lo <= (t.getD 0 0).toNat /\ (t.getD 0 0).toNat <= hi)) := by
 cases t with
 | nil => simp [tail1, moreL_nil]
 | cons c t =>
  rw [tail1, moreL_zero, List.getD_cons_zero]
  rw [Bool.eq_iff_iff]; simp; omega
theorem tail2_eq (t : List UInt8) (lo hi : Nat) (h1 : 128 <= lo) (h2 : hi <= 191) : tail2 lo hi t = (moreL t 0 && moreL t 1 && decide (lo <= (t.getD 0 0).toNat /\ (t.getD 0 0).toNat <= hi)) := by
 cases t with
 | nil => simp [tail2, moreL_nil]
 | cons c t =>
  rw [tail2, moreL_zero, moreL_succ, List.getD_cons_zero, tail1_eq t 128 191 (by omega) (by omega)]
  cases t with
  | nil => simp [moreL_nil]
  | cons d t =>
   rw [moreL_zero, List.getD_cons_zero]
   rw [Bool.eq_iff_iff]; simp; omega
theorem tail3_eq (t : List UInt8) (lo hi : Nat) (h1 : 128 <= lo) (h2 : hi <= 191) : tail3 lo hi t = (moreL t 0 && moreL t 1 && moreL t 2 && decide (lo <= (t.getD 0 0).toNat /\ (t.getD 0 0).toNat <= hi)) := by
 cases t with
 | nil => simp [tail3, moreL_nil]
 | cons c t =>
  rw [tail3, moreL_zero, moreL_succ, moreL_succ, List.getD_cons_zero, tail2_eq t 128 191 (by omega) (by omega)]
  cases t with
  | nil => simp [moreL_nil]
  | cons d t =>
   rw [moreL_zero, List.getD_cons_zero]
   generalize moreL (d :: t) 1 = X
   rw [Bool.eq_iff_iff]; simp
   constructor
   ·rintro ⟨h1, ⟨h2, h3⟩, h4⟩; exact ⟨⟨⟨by omega, h2⟩, h3⟩, h1⟩
   ·rintro ⟨⟨⟨h1, h2⟩, h3⟩, h4⟩; exact ⟨h4, ⟨h2, h3⟩, h2⟩
theorem moreL_bd {t : List UInt8} (h : moreL t 0 = true) : 128 <= (t.getD 0 0).toNat /\ (t.getD 0 0).toNat <= 191 := by
 cases t with
 | nil => simp [moreL_nil] at h
 | cons c t => rw [moreL_zero] at h; simpa using h
set_option maxHeartbeats 8000000 in
theorem well_nxt (b : UInt8) (t : List UInt8) : wellC b.toNat (moreL t 0) (moreL t 0 && moreL t 1) (moreL t 0 && moreL t 1 && moreL t 2) (t.getD 0 0).toNat = if (Q.nxt (b :: t)).2 then (Q.nxt (b :: t)).1 else 0 := by
 rw [Q.nxt_cons]
 have hbd := @moreL_bd t
 have g1 := fun lo hi => go1 1 lo hi t
 have g2 := fun lo hi => go2 1 lo hi t
 have g3 := fun lo hi => go3 1 lo hi t
 have e1 := tail1_eq t
 have e2 := tail2_eq t
 have e3 := tail3_eq t
 simp only [Nat.reduceAdd] at g1 g2 g3
 generalize b.toNat = c at *
 generalize (t.getD 0 0).toNat = d at *
 generalize moreL t 0 = T2 at *
 generalize moreL t 1 = T3 at *
 generalize moreL t 2 = T4 at *
 by_cases k1 : c < 128
 ·have hb : Q.bnd c = (1, 0, 0) := by unfold Q.bnd; rw [if_pos k1]
  rw [hb]; simp only [nxtGo_end]; simp [wellC, k1]
 by_cases k2 : 194 <= c /\ c < 224
 ·have hb : Q.bnd c = (2, 128, 191) := by unfold Q.bnd; rw [if_neg k1, if_pos k2]
  have hw : wellC c T2 (T2 && T3) (T2 && T3 && T4) d = if T2 = true then 2 else 0 := by
   unfold wellC
   rw [if_neg k1]
   cases T2
   ·repeat (rw [if_neg (by simp)])
    all_goals rfl
   ·rw [if_pos (by simp; omega)]; rfl
  rw [hb, hw]; simp only [g1, e1 128 191 (by omega) (by omega), show ¬ (2 : Nat) = 0 by omega, if_false]
  cases T2
  ·rfl
  ·have := hbd rfl; simp; omega
 by_cases k3 : c = 224
 ·have hb : Q.bnd c = (3, 160, 191) := by unfold Q.bnd; rw [if_neg k1, if_neg k2, if_pos k3]
  rw [hb]; simp only [g2, e2 160 191 (by omega) (by omega), show ¬ (3 : Nat) = 0 by omega, if_false]
  unfold wellC
  cases T2 <;> cases T3 <;> cases T4 <;> simp <;> (try have := hbd rfl) <;> (repeat' split) <;> first | rfl | omega
 by_cases k4 : c = 237
 ·have hb : Q.bnd c = (3, 128, 159) := by unfold Q.bnd; rw [if_neg k1, if_neg k2, if_neg k3, if_pos k4]
  rw [hb]; simp only [g2, e2 128 159 (by omega) (by omega), show ¬ (3 : Nat) = 0 by omega, if_false]
  unfold wellC
  cases T2 <;> cases T3 <;> cases T4 <;> simp <;> (try have := hbd rfl) <;> (repeat' split) <;> first | rfl | omega
 by_cases k5 : 224 < c /\ c < 240
 ·have hb : Q.bnd c = (3, 128, 191) := by unfold Q.bnd; rw [if_neg k1, if_neg k2, if_neg k3, if_neg k4, if_pos k5]
  rw [hb]; simp only [g2, e2 128 191 (by omega) (by omega), show ¬ (3 : Nat) = 0 by omega, if_false]
  unfold wellC
  cases T2 <;> cases T3 <;> cases T4 <;> simp <;> (try have := hbd rfl) <;> (repeat' split) <;> first | rfl | omega
 by_cases k6 : c = 240
 ·have hb : Q.bnd c = (4, 144, 191) := by unfold Q.bnd; rw [if_neg k1, if_neg k2, if_neg k3, if_neg k4, if_neg k5, if_pos k6]
  rw [hb]; simp only [g3, e3 144 191 (by omega) (by omega), show ¬ (4 : Nat) = 0 by omega, if_false]
  unfold wellC
  cases T2 <;> cases T3 <;> cases T4 <;> simp <;> (try have := hbd rfl) <;> (repeat' split) <;> first | rfl | omega
 by_cases k7 : c = 244
 ·have hb : Q.bnd c = (4, 128, 143) := by unfold Q.bnd; rw [if_neg k1, if_neg k2, if_neg k3, if_neg k4, if_neg k5, if_neg k6, if_pos k7]
  rw [hb]; simp only [g3, e3 128 143 (by omega) (by omega), show ¬ (4 : Nat) = 0 by omega, if_false]
  unfold wellC
  cases T2 <;> cases T3 <;> cases T4 <;> simp <;> (try have := hbd rfl) <;> (repeat' split) <;> first | rfl | omega
 by_cases k8 : 240 < c /\ c < 244
 ·have hb : Q.bnd c = (4, 128, 191) := by unfold Q.bnd; rw [if_neg k1, if_neg k2, if_neg k3, if_neg k4, if_neg k5, if_neg k6, if_neg k7, if_pos k8]
  rw [hb]; simp only [g3, e3 128 191 (by omega) (by omega), show ¬ (4 : Nat) = 0 by omega, if_false]
  unfold wellC
  cases T2 <;> cases T3 <;> cases T4 <;> simp <;> (try have := hbd rfl) <;> (repeat' split) <;> first | rfl | omega
 have hb : Q.bnd c = (0, 0, 0) := by unfold Q.bnd; rw [if_neg k1, if_neg k2, if_neg k3, if_neg k4, if_neg k5, if_neg k6, if_neg k7, if_neg k8]
 rw [hb]
 unfold wellC
 simp
 (repeat' split) <;> first | rfl | omega
end Go.Proofs.YtdgfjdhobdfglaaGreatDoor
