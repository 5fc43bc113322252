import Derived.Test.YtgnofbigggmilaaGreatDoorAddM
import Derived.Test.YtgnofbigggmilaaGreatDoorAddV
set_option linter.unusedSimpArgs false
set_option linter.unusedVariables false
namespace Go.Proofs.YtgnofbigggmilaaGreatDoor
open Go.RowKit Go.Lib
theorem ad_fin {S : Nat → Prop} {w w3 : World} {B : Nat} {x : V} {c0 c1 c2 c3 c4 c5 : Value} (hS : ∀ b, S b → b < w.heap.size) (B3 : Below w.heap.size w w3) (hB : w.heap.size + 3 ≤ B) (hz : w.heap.size + 3 ≤ w3.heap.size) (hx : x.lies false w3 (fun y => S y ∨ (B ≤ y ∧ y < w3.heap.size)) [c0, c1, c2, c3, c4, c5]) :
 x.lies false ((((((w3.setCell ⟨w.heap.size + 2, 0, none⟩ (c0)).setCell ⟨w.heap.size + 2, 1, none⟩ (c1)).setCell ⟨w.heap.size + 2, 2, none⟩ (c2)).setCell ⟨w.heap.size + 2, 3, none⟩ (c3)).setCell ⟨w.heap.size + 2, 4, none⟩ (c4)).setCell ⟨w.heap.size + 2, 5, none⟩ (c5)) (OrNew S w ((((((w3.setCell ⟨w.heap.size + 2, 0, none⟩ (c0)).setCell ⟨w.heap.size + 2, 1, none⟩ (c1)).setCell ⟨w.heap.size + 2, 2, none⟩ (c2)).setCell ⟨w.heap.size + 2, 3, none⟩ (c3)).setCell ⟨w.heap.size + 2, 4, none⟩ (c4)).setCell ⟨w.heap.size + 2, 5, none⟩ (c5))) [c0, c1, c2, c3, c4, c5] ∧ Below w.heap.size w ((((((w3.setCell ⟨w.heap.size + 2, 0, none⟩ (c0)).setCell ⟨w.heap.size + 2, 1, none⟩ (c1)).setCell ⟨w.heap.size + 2, 2, none⟩ (c2)).setCell ⟨w.heap.size + 2, 3, none⟩ (c3)).setCell ⟨w.heap.size + 2, 4, none⟩ (c4)).setCell ⟨w.heap.size + 2, 5, none⟩ (c5)) := by
 have hot : ∀ y, y ≠ w.heap.size + 2 → ((((((w3.setCell ⟨w.heap.size + 2, 0, none⟩ (c0)).setCell ⟨w.heap.size + 2, 1, none⟩ (c1)).setCell ⟨w.heap.size + 2, 2, none⟩ (c2)).setCell ⟨w.heap.size + 2, 3, none⟩ (c3)).setCell ⟨w.heap.size + 2, 4, none⟩ (c4)).setCell ⟨w.heap.size + 2, 5, none⟩ (c5)).heap[y]? = w3.heap[y]? := fun y hy => by
  repeat (rw [set_other hy])
 have g2 : w3.grownBy ((((((w3.setCell ⟨w.heap.size + 2, 0, none⟩ (c0)).setCell ⟨w.heap.size + 2, 1, none⟩ (c1)).setCell ⟨w.heap.size + 2, 2, none⟩ (c2)).setCell ⟨w.heap.size + 2, 3, none⟩ (c3)).setCell ⟨w.heap.size + 2, 4, none⟩ (c4)).setCell ⟨w.heap.size + 2, 5, none⟩ (c5)) (some (w.heap.size + 2)) := grown_set (grown_set (grown_set (grown_set (grown_set (grown_set (World.grownBy.refl w3 _) 0 c0) 1 c1) 2 c2) 3 c3) 4 c4) 5 c5
 have s2 : ((((((w3.setCell ⟨w.heap.size + 2, 0, none⟩ (c0)).setCell ⟨w.heap.size + 2, 1, none⟩ (c1)).setCell ⟨w.heap.size + 2, 2, none⟩ (c2)).setCell ⟨w.heap.size + 2, 3, none⟩ (c3)).setCell ⟨w.heap.size + 2, 4, none⟩ (c4)).setCell ⟨w.heap.size + 2, 5, none⟩ (c5)).heap.size = w3.heap.size := by simp only [size_set1]
 generalize ((((((w3.setCell ⟨w.heap.size + 2, 0, none⟩ (c0)).setCell ⟨w.heap.size + 2, 1, none⟩ (c1)).setCell ⟨w.heap.size + 2, 2, none⟩ (c2)).setCell ⟨w.heap.size + 2, 3, none⟩ (c3)).setCell ⟨w.heap.size + 2, 4, none⟩ (c4)).setCell ⟨w.heap.size + 2, 5, none⟩ (c5)) = wf at *
 refine ⟨V.lies_keep (fun h => h) (fun y hy => ?_) (fun y hy => ?_) _ hx, ⟨g2.os.trans B3.os, g2.tape.trans B3.tape, g2.output.trans B3.output, by have := B3.size; omega, fun q hq => (hot q (by omega)).trans (B3.block q hq)⟩⟩
 ·rcases hy with hy | hy
  ·have := hS y hy; exact hot y (by omega)
  ·exact hot y (by omega)
 ·rcases hy with hy | hy
  ·exact .inl hy
  ·exact .inr ⟨by omega, by omega⟩
set_option maxHeartbeats 8000000 in
set_option maxRecDepth 100000 in
theorem addM_there (b : Bool) (i : Int) (s : ByteArray) (l : List V) (m : List Mem) (t : ByteArray) (x : V) (S : Nat → Prop) (al : Option Addr) (cl bl ol : Nat) (am : Option Addr) (cm bm om : Nat) (ds : List Value) (w : World) (tg : Tg w) (hv : (V.mk 5 b i s l m).lies false w S [.int .i64 5, .bool b, .int .i64 i, .string s, .slice al l.length cl, .slice am m.length cm]) (ham : Headed am m.length cm bm om) (hm : liesM false w S m bm om) (hx : x.lies false w S ds) (hS : ∀ b, S b → b < w.heap.size) (hwt : (V.mk 5 b i s l m).wt ≤ 1099511627776) (hml : m.length ≤ 1114112) (keyT : keyIs t m[posF m t]? = true) (hsr : Srt m) :
 Calls Tryz.prog 42 #[.agg #[.int .i64 5, .bool b, .int .i64 i, .string s, .slice al l.length cl, .slice am m.length cm], .string t, .agg ds.toArray] w (AdPost (replV (.mk 5 b i s l m) (posF m t) x, 0) S w) := by
 have HV := hmk hv
 have HM := hmk hm
 clear hm
 have HX : Hid (∀ W, Below w.heap.size w W → x.lies false W S ds) := fun W hb => lies_below hx hS hb
 obtain ⟨xk, xb, xi, xs, xal, xnl, xcl, xam, xnm, xcm, rfl⟩ := V.ten hx
 clear hx
 have b2 : Below w.heap.size w ((w.alloc (.cells #[.int .i64 5, .bool b, .int .i64 i, .string s, .slice al l.length cl, .slice am m.length cm] 25)).alloc (.cells #[.int .i64 xk, .bool xb, .int .i64 xi, .string xs, .slice xal xnl xcl, .slice xam xnm xcm] 25)) := two_below w _ _
 have hz2 : ((w.alloc (.cells #[.int .i64 5, .bool b, .int .i64 i, .string s, .slice al l.length cl, .slice am m.length cm] 25)).alloc (.cells #[.int .i64 xk, .bool xb, .int .i64 xi, .string xs, .slice xal xnl xcl, .slice xam xnm xcm] 25)).heap.size = w.heap.size + 2 := by rw [alloc_size, alloc_size]
 have b3 : Below ((w.alloc (.cells #[.int .i64 5, .bool b, .int .i64 i, .string s, .slice al l.length cl, .slice am m.length cm] 25)).alloc (.cells #[.int .i64 xk, .bool xb, .int .i64 xi, .string xs, .slice xal xnl xcl, .slice xam xnm xcm] 25)).heap.size ((w.alloc (.cells #[.int .i64 5, .bool b, .int .i64 i, .string s, .slice al l.length cl, .slice am m.length cm] 25)).alloc (.cells #[.int .i64 xk, .bool xb, .int .i64 xi, .string xs, .slice xal xnl xcl, .slice xam xnm xcm] 25)) (((w.alloc (.cells #[.int .i64 5, .bool b, .int .i64 i, .string s, .slice al l.length cl, .slice am m.length cm] 25)).alloc (.cells #[.int .i64 xk, .bool xb, .int .i64 xi, .string xs, .slice xal xnl xcl, .slice xam xnm xcm] 25)).alloc (.cells #[.int .i64 0, .bool false, .int .i64 0, .string ⟨#[]⟩, .slice none 0 0, .slice none 0 0] 25)) := one_belowG _ _
 have B3_ : Below w.heap.size w (((w.alloc (.cells #[.int .i64 5, .bool b, .int .i64 i, .string s, .slice al l.length cl, .slice am m.length cm] 25)).alloc (.cells #[.int .i64 xk, .bool xb, .int .i64 xi, .string xs, .slice xal xnl xcl, .slice xam xnm xcm] 25)).alloc (.cells #[.int .i64 0, .bool false, .int .i64 0, .string ⟨#[]⟩, .slice none 0 0, .slice none 0 0] 25)) := b2.trans (b3.mono (by omega))
 have h0 := (b3.block w.heap.size (by omega)).trans (alloc2_keep1 w (.cells #[.int .i64 5, .bool b, .int .i64 i, .string s, .slice al l.length cl, .slice am m.length cm] 25) (.cells #[.int .i64 xk, .bool xb, .int .i64 xi, .string xs, .slice xal xnl xcl, .slice xam xnm xcm] 25))
 have h1 := (b3.block (w.heap.size + 1) (by omega)).trans (alloc2_new w (.cells #[.int .i64 5, .bool b, .int .i64 i, .string s, .slice al l.length cl, .slice am m.length cm] 25) (.cells #[.int .i64 xk, .bool xb, .int .i64 xi, .string xs, .slice xal xnl xcl, .slice xam xnm xcm] 25))
 have h2 := heap_alloc_new ((w.alloc (.cells #[.int .i64 5, .bool b, .int .i64 i, .string s, .slice al l.length cl, .slice am m.length cm] 25)).alloc (.cells #[.int .i64 xk, .bool xb, .int .i64 xi, .string xs, .slice xal xnl xcl, .slice xam xnm xcm] 25)) (.cells #[.int .i64 0, .bool false, .int .i64 0, .string ⟨#[]⟩, .slice none 0 0, .slice none 0 0] 25)
 rw [hz2] at h2
 have hz3 : w.heap.size + 3 ≤ (((w.alloc (.cells #[.int .i64 5, .bool b, .int .i64 i, .string s, .slice al l.length cl, .slice am m.length cm] 25)).alloc (.cells #[.int .i64 xk, .bool xb, .int .i64 xi, .string xs, .slice xal xnl xcl, .slice xam xnm xcm] 25)).alloc (.cells #[.int .i64 0, .bool false, .int .i64 0, .string ⟨#[]⟩, .slice none 0 0, .slice none 0 0] 25)).heap.size := by rw [alloc_size, hz2]; omega
 have r0 : (((w.alloc (.cells #[.int .i64 5, .bool b, .int .i64 i, .string s, .slice al l.length cl, .slice am m.length cm] 25)).alloc (.cells #[.int .i64 xk, .bool xb, .int .i64 xi, .string xs, .slice xal xnl xcl, .slice xam xnm xcm] 25)).alloc (.cells #[.int .i64 0, .bool false, .int .i64 0, .string ⟨#[]⟩, .slice none 0 0, .slice none 0 0] 25)).cell? ⟨w.heap.size, 0, none⟩ = some (.int .i64 5) := by rw [cell_of_block h0]; rfl
 have r5 : (((w.alloc (.cells #[.int .i64 5, .bool b, .int .i64 i, .string s, .slice al l.length cl, .slice am m.length cm] 25)).alloc (.cells #[.int .i64 xk, .bool xb, .int .i64 xi, .string xs, .slice xal xnl xcl, .slice xam xnm xcm] 25)).alloc (.cells #[.int .i64 0, .bool false, .int .i64 0, .string ⟨#[]⟩, .slice none 0 0, .slice none 0 0] 25)).cell? ⟨w.heap.size, 5, none⟩ = some (.slice am m.length cm) := by rw [cell_of_block h0]; rfl
 have CM := hmk (find_any m t false S am cm bm om (((w.alloc (.cells #[.int .i64 5, .bool b, .int .i64 i, .string s, .slice al l.length cl, .slice am m.length cm] 25)).alloc (.cells #[.int .i64 xk, .bool xb, .int .i64 xi, .string xs, .slice xal xnl xcl, .slice xam xnm xcm] 25)).alloc (.cells #[.int .i64 0, .bool false, .int .i64 0, .string ⟨#[]⟩, .slice none 0 0, .slice none 0 0] 25)) ham (liesM_keep (fun h => h) (fun x hx => B3_.block x (hS x hx)) (fun _ h => h) _ HM.out) (fun x hx => Nat.lt_of_lt_of_le (hS x hx) B3_.size) hsr (by omega))
 have hpk : posF m t < m.length := by
  rcases Nat.lt_or_ge (posF m t) m.length with h | h
  ·exact h
  ·rw [List.getElem?_eq_none h] at keyT; simp [keyIs] at keyT
 rw [keyT] at CM
 generalize posF m t = p at *
 have HR : Hid (∀ W, Below w.heap.size w W → Calls Tryz.prog 63 #[.agg #[.int .i64 5, .bool b, .int .i64 i, .string s, .slice al l.length cl, .slice am m.length cm], .int .i64 (p : Int), .agg #[.int .i64 xk, .bool xb, .int .i64 xi, .string xs, .slice xal xnl xcl, .slice xam xnm xcm]] W (RpPost (replV (.mk 5 b i s l m) p x) S W)) := fun W hb => replaced_any _ x p S _ _ W (lies_below HV.out hS hb) (HX.out W hb) (fun x hx => Nat.lt_of_lt_of_le (hS x hx) hb.size) hwt (.inr ⟨rfl, hpk⟩)
 go_enter Tryz.func42, Tryz.ntmps42
 go_wp2_with fail
 clear r0 r5
 generalize (((w.alloc (.cells #[.int .i64 5, .bool b, .int .i64 i, .string s, .slice al l.length cl, .slice am m.length cm] 25)).alloc (.cells #[.int .i64 xk, .bool xb, .int .i64 xi, .string xs, .slice xal xnl xcl, .slice xam xnm xcm] 25)).alloc (.cells #[.int .i64 0, .bool false, .int .i64 0, .string ⟨#[]⟩, .slice none 0 0, .slice none 0 0] 25)) = w0 at *
 refine CM.out.mono ?_
 rintro e w1 ⟨rfl, b1⟩
 have hz1 := b1.size
 have B1 := B3_.trans (b1.mono (by omega))
 have t0 := (b1.block w.heap.size (by omega)).trans h0
 have t1 := (b1.block (w.heap.size + 1) (by omega)).trans h1
 have t2 := (b1.block (w.heap.size + 2) (by omega)).trans h2
 obtain ⟨v0, v1, v2, v3, v4, v5⟩ := sixC t0
 obtain ⟨x0, x1, x2, x3, x4, x5⟩ := sixC t1
 clear CM
 go_wp2_with fail
 refine (HR.out w1 B1).mono ?_
 rintro e w3 ⟨es_, rfl, hl3, b3'⟩
 have hz3' := b3'.size
 have B3 := B1.trans (b3'.mono B1.size)
 obtain ⟨ek, eb, ei, es, eal, enl, ecl, eam, enm, ecm, rfl⟩ := V.ten hl3
 have t2' := (b3'.block (w.heap.size + 2) (by omega)).trans t2
 have HN : Hid ((replV (.mk 5 b i s l m) p x).lies false w3 (fun y => S y ∨ (w1.heap.size ≤ y ∧ y < w3.heap.size)) [.int .i64 ek, .bool eb, .int .i64 ei, .string es, .slice eal enl ecl, .slice eam enm ecm]) := hl3
 have HE := hmk (ad_fin hS B3 (show w.heap.size + 3 ≤ w1.heap.size by omega) (by omega) HN.out)
 obtain ⟨z0, z1, z2, z3, z4, z5⟩ := sixC t2'
 have fz := frozen_of_block t2'
 clear hl3 HN v0 v1 v2 v3 v4 v5 x0 x1 x2 x3 x4 x5
 go_wp2_with fail
 (try simp only [Exit.inBlock, Exit.then])
 refine bodyPost_ret (v := .tuple #[.agg #[.int .i64 ek, .bool eb, .int .i64 ei, .string es, .slice eal enl ecl, .slice eam enm ecm], .int .i64 0]) ?_ rfl ?_
 rotate_left
 ·exact ⟨[.int .i64 ek, .bool eb, .int .i64 ei, .string es, .slice eal enl ecl, .slice eam enm ecm], rfl, HE.out.1, HE.out.2⟩
 ·rw [results_cell_tmp rfl]
  go_simp
set_option maxHeartbeats 8000000 in
set_option maxRecDepth 100000 in
theorem addV_no (b : Bool) (i : Int) (s : ByteArray) (l : List V) (m : List Mem) (t : ByteArray) (x : V) (S : Nat → Prop) (al : Option Addr) (cl bl ol : Nat) (am : Option Addr) (cm bm om : Nat) (ds : List Value) (w : World) (tg : Tg w) (hx : x.lies false w S ds) (hS : ∀ b, S b → b < w.heap.size) (hts : t.size ≤ 281474976710656) (hll : l.length ≤ 1114112) (hg : gapF t l.length = none) :
 Calls Tryz.prog 42 #[.agg #[.int .i64 4, .bool b, .int .i64 i, .string s, .slice al l.length cl, .slice am m.length cm], .string t, .agg ds.toArray] w (AdPost (nullV, 42) S w) := by
 have HX : Hid (∀ W, Below w.heap.size w W → x.lies false W S ds) := fun W hb => lies_below hx hS hb
 obtain ⟨xk, xb, xi, xs, xal, xnl, xcl, xam, xnm, xcm, rfl⟩ := V.ten hx
 clear hx
 have b2 : Below w.heap.size w ((w.alloc (.cells #[.int .i64 4, .bool b, .int .i64 i, .string s, .slice al l.length cl, .slice am m.length cm] 25)).alloc (.cells #[.int .i64 xk, .bool xb, .int .i64 xi, .string xs, .slice xal xnl xcl, .slice xam xnm xcm] 25)) := two_below w _ _
 have hz2 : ((w.alloc (.cells #[.int .i64 4, .bool b, .int .i64 i, .string s, .slice al l.length cl, .slice am m.length cm] 25)).alloc (.cells #[.int .i64 xk, .bool xb, .int .i64 xi, .string xs, .slice xal xnl xcl, .slice xam xnm xcm] 25)).heap.size = w.heap.size + 2 := by rw [alloc_size, alloc_size]
 have b3 : Below ((w.alloc (.cells #[.int .i64 4, .bool b, .int .i64 i, .string s, .slice al l.length cl, .slice am m.length cm] 25)).alloc (.cells #[.int .i64 xk, .bool xb, .int .i64 xi, .string xs, .slice xal xnl xcl, .slice xam xnm xcm] 25)).heap.size ((w.alloc (.cells #[.int .i64 4, .bool b, .int .i64 i, .string s, .slice al l.length cl, .slice am m.length cm] 25)).alloc (.cells #[.int .i64 xk, .bool xb, .int .i64 xi, .string xs, .slice xal xnl xcl, .slice xam xnm xcm] 25)) (((w.alloc (.cells #[.int .i64 4, .bool b, .int .i64 i, .string s, .slice al l.length cl, .slice am m.length cm] 25)).alloc (.cells #[.int .i64 xk, .bool xb, .int .i64 xi, .string xs, .slice xal xnl xcl, .slice xam xnm xcm] 25)).alloc (.cells #[.int .i64 0, .bool false, .int .i64 0, .string ⟨#[]⟩, .slice none 0 0, .slice none 0 0] 25)) := one_belowG _ _
 have B3_ : Below w.heap.size w (((w.alloc (.cells #[.int .i64 4, .bool b, .int .i64 i, .string s, .slice al l.length cl, .slice am m.length cm] 25)).alloc (.cells #[.int .i64 xk, .bool xb, .int .i64 xi, .string xs, .slice xal xnl xcl, .slice xam xnm xcm] 25)).alloc (.cells #[.int .i64 0, .bool false, .int .i64 0, .string ⟨#[]⟩, .slice none 0 0, .slice none 0 0] 25)) := b2.trans (b3.mono (by omega))
 have h0 := (b3.block w.heap.size (by omega)).trans (alloc2_keep1 w (.cells #[.int .i64 4, .bool b, .int .i64 i, .string s, .slice al l.length cl, .slice am m.length cm] 25) (.cells #[.int .i64 xk, .bool xb, .int .i64 xi, .string xs, .slice xal xnl xcl, .slice xam xnm xcm] 25))
 have h1 := (b3.block (w.heap.size + 1) (by omega)).trans (alloc2_new w (.cells #[.int .i64 4, .bool b, .int .i64 i, .string s, .slice al l.length cl, .slice am m.length cm] 25) (.cells #[.int .i64 xk, .bool xb, .int .i64 xi, .string xs, .slice xal xnl xcl, .slice xam xnm xcm] 25))
 have h2 := heap_alloc_new ((w.alloc (.cells #[.int .i64 4, .bool b, .int .i64 i, .string s, .slice al l.length cl, .slice am m.length cm] 25)).alloc (.cells #[.int .i64 xk, .bool xb, .int .i64 xi, .string xs, .slice xal xnl xcl, .slice xam xnm xcm] 25)) (.cells #[.int .i64 0, .bool false, .int .i64 0, .string ⟨#[]⟩, .slice none 0 0, .slice none 0 0] 25)
 rw [hz2] at h2
 have hz3 : w.heap.size + 3 ≤ (((w.alloc (.cells #[.int .i64 4, .bool b, .int .i64 i, .string s, .slice al l.length cl, .slice am m.length cm] 25)).alloc (.cells #[.int .i64 xk, .bool xb, .int .i64 xi, .string xs, .slice xal xnl xcl, .slice xam xnm xcm] 25)).alloc (.cells #[.int .i64 0, .bool false, .int .i64 0, .string ⟨#[]⟩, .slice none 0 0, .slice none 0 0] 25)).heap.size := by rw [alloc_size, hz2]; omega
 have r0 : (((w.alloc (.cells #[.int .i64 4, .bool b, .int .i64 i, .string s, .slice al l.length cl, .slice am m.length cm] 25)).alloc (.cells #[.int .i64 xk, .bool xb, .int .i64 xi, .string xs, .slice xal xnl xcl, .slice xam xnm xcm] 25)).alloc (.cells #[.int .i64 0, .bool false, .int .i64 0, .string ⟨#[]⟩, .slice none 0 0, .slice none 0 0] 25)).cell? ⟨w.heap.size, 0, none⟩ = some (.int .i64 4) := by rw [cell_of_block h0]; rfl
 have r4 : (((w.alloc (.cells #[.int .i64 4, .bool b, .int .i64 i, .string s, .slice al l.length cl, .slice am m.length cm] 25)).alloc (.cells #[.int .i64 xk, .bool xb, .int .i64 xi, .string xs, .slice xal xnl xcl, .slice xam xnm xcm] 25)).alloc (.cells #[.int .i64 0, .bool false, .int .i64 0, .string ⟨#[]⟩, .slice none 0 0, .slice none 0 0] 25)).cell? ⟨w.heap.size, 4, none⟩ = some (.slice al l.length cl) := by rw [cell_of_block h0]; rfl
 have CM := hmk (gap_any t l.length (((w.alloc (.cells #[.int .i64 4, .bool b, .int .i64 i, .string s, .slice al l.length cl, .slice am m.length cm] 25)).alloc (.cells #[.int .i64 xk, .bool xb, .int .i64 xi, .string xs, .slice xal xnl xcl, .slice xam xnm xcm] 25)).alloc (.cells #[.int .i64 0, .bool false, .int .i64 0, .string ⟨#[]⟩, .slice none 0 0, .slice none 0 0] 25)) hts (by omega) (tg.below B3_ tg.z))
 rw [hg] at CM
 go_enter Tryz.func42, Tryz.ntmps42
 go_wp2_with fail
 clear r0 r4
 generalize (((w.alloc (.cells #[.int .i64 4, .bool b, .int .i64 i, .string s, .slice al l.length cl, .slice am m.length cm] 25)).alloc (.cells #[.int .i64 xk, .bool xb, .int .i64 xi, .string xs, .slice xal xnl xcl, .slice xam xnm xcm] 25)).alloc (.cells #[.int .i64 0, .bool false, .int .i64 0, .string ⟨#[]⟩, .slice none 0 0, .slice none 0 0] 25)) = w0 at *
 refine CM.out.mono ?_
 rintro e w1 ⟨rfl, b1⟩
 have hz1 := b1.size
 have B1 := B3_.trans (b1.mono (by omega))
 have t2 := (b1.block (w.heap.size + 2) (by omega)).trans h2
 obtain ⟨z0, z1, z2, z3, z4, z5⟩ := sixC t2
 have fz := frozen_of_block t2
 go_wp2_with fail
 (try simp only [Exit.inBlock, Exit.then])
 refine bodyPost_ret (v := .tuple #[.agg #[.int .i64 0, .bool false, .int .i64 0, .string ⟨#[]⟩, .slice none 0 0, .slice none 0 0], .int .i64 42]) ?_ rfl ?_
 rotate_left
 ·exact ⟨[.int .i64 0, .bool false, .int .i64 0, .string ⟨#[]⟩, .slice none 0 0, .slice none 0 0], rfl, null_lies _ _, by first | exact B1 | exact Below.set6 B1 (by omega) _ _ _ _ _ _ _ _ _ _ _ _⟩
 ·rw [results_cell_tmp rfl]
  go_simp
set_option maxHeartbeats 8000000 in
set_option maxRecDepth 100000 in
theorem addO_no (k : Int) (b : Bool) (i : Int) (s : ByteArray) (l : List V) (m : List Mem) (t : ByteArray) (x : V) (S : Nat → Prop) (al : Option Addr) (cl bl ol : Nat) (am : Option Addr) (cm bm om : Nat) (ds : List Value) (w : World) (tg : Tg w) (hx : x.lies false w S ds) (hS : ∀ b, S b → b < w.heap.size) (hk5 : ¬ k = 5) (hk4 : ¬ k = 4) :
 Calls Tryz.prog 42 #[.agg #[.int .i64 k, .bool b, .int .i64 i, .string s, .slice al l.length cl, .slice am m.length cm], .string t, .agg ds.toArray] w (AdPost (nullV, 41) S w) := by
 have HX : Hid (∀ W, Below w.heap.size w W → x.lies false W S ds) := fun W hb => lies_below hx hS hb
 obtain ⟨xk, xb, xi, xs, xal, xnl, xcl, xam, xnm, xcm, rfl⟩ := V.ten hx
 clear hx
 have b2 : Below w.heap.size w ((w.alloc (.cells #[.int .i64 k, .bool b, .int .i64 i, .string s, .slice al l.length cl, .slice am m.length cm] 25)).alloc (.cells #[.int .i64 xk, .bool xb, .int .i64 xi, .string xs, .slice xal xnl xcl, .slice xam xnm xcm] 25)) := two_below w _ _
 have hz2 : ((w.alloc (.cells #[.int .i64 k, .bool b, .int .i64 i, .string s, .slice al l.length cl, .slice am m.length cm] 25)).alloc (.cells #[.int .i64 xk, .bool xb, .int .i64 xi, .string xs, .slice xal xnl xcl, .slice xam xnm xcm] 25)).heap.size = w.heap.size + 2 := by rw [alloc_size, alloc_size]
 have b3 : Below ((w.alloc (.cells #[.int .i64 k, .bool b, .int .i64 i, .string s, .slice al l.length cl, .slice am m.length cm] 25)).alloc (.cells #[.int .i64 xk, .bool xb, .int .i64 xi, .string xs, .slice xal xnl xcl, .slice xam xnm xcm] 25)).heap.size ((w.alloc (.cells #[.int .i64 k, .bool b, .int .i64 i, .string s, .slice al l.length cl, .slice am m.length cm] 25)).alloc (.cells #[.int .i64 xk, .bool xb, .int .i64 xi, .string xs, .slice xal xnl xcl, .slice xam xnm xcm] 25)) (((w.alloc (.cells #[.int .i64 k, .bool b, .int .i64 i, .string s, .slice al l.length cl, .slice am m.length cm] 25)).alloc (.cells #[.int .i64 xk, .bool xb, .int .i64 xi, .string xs, .slice xal xnl xcl, .slice xam xnm xcm] 25)).alloc (.cells #[.int .i64 0, .bool false, .int .i64 0, .string ⟨#[]⟩, .slice none 0 0, .slice none 0 0] 25)) := one_belowG _ _
 have B3_ : Below w.heap.size w (((w.alloc (.cells #[.int .i64 k, .bool b, .int .i64 i, .string s, .slice al l.length cl, .slice am m.length cm] 25)).alloc (.cells #[.int .i64 xk, .bool xb, .int .i64 xi, .string xs, .slice xal xnl xcl, .slice xam xnm xcm] 25)).alloc (.cells #[.int .i64 0, .bool false, .int .i64 0, .string ⟨#[]⟩, .slice none 0 0, .slice none 0 0] 25)) := b2.trans (b3.mono (by omega))
 have h0 := (b3.block w.heap.size (by omega)).trans (alloc2_keep1 w (.cells #[.int .i64 k, .bool b, .int .i64 i, .string s, .slice al l.length cl, .slice am m.length cm] 25) (.cells #[.int .i64 xk, .bool xb, .int .i64 xi, .string xs, .slice xal xnl xcl, .slice xam xnm xcm] 25))
 have h1 := (b3.block (w.heap.size + 1) (by omega)).trans (alloc2_new w (.cells #[.int .i64 k, .bool b, .int .i64 i, .string s, .slice al l.length cl, .slice am m.length cm] 25) (.cells #[.int .i64 xk, .bool xb, .int .i64 xi, .string xs, .slice xal xnl xcl, .slice xam xnm xcm] 25))
 have h2 := heap_alloc_new ((w.alloc (.cells #[.int .i64 k, .bool b, .int .i64 i, .string s, .slice al l.length cl, .slice am m.length cm] 25)).alloc (.cells #[.int .i64 xk, .bool xb, .int .i64 xi, .string xs, .slice xal xnl xcl, .slice xam xnm xcm] 25)) (.cells #[.int .i64 0, .bool false, .int .i64 0, .string ⟨#[]⟩, .slice none 0 0, .slice none 0 0] 25)
 rw [hz2] at h2
 have hz3 : w.heap.size + 3 ≤ (((w.alloc (.cells #[.int .i64 k, .bool b, .int .i64 i, .string s, .slice al l.length cl, .slice am m.length cm] 25)).alloc (.cells #[.int .i64 xk, .bool xb, .int .i64 xi, .string xs, .slice xal xnl xcl, .slice xam xnm xcm] 25)).alloc (.cells #[.int .i64 0, .bool false, .int .i64 0, .string ⟨#[]⟩, .slice none 0 0, .slice none 0 0] 25)).heap.size := by rw [alloc_size, hz2]; omega
 have r0 : (((w.alloc (.cells #[.int .i64 k, .bool b, .int .i64 i, .string s, .slice al l.length cl, .slice am m.length cm] 25)).alloc (.cells #[.int .i64 xk, .bool xb, .int .i64 xi, .string xs, .slice xal xnl xcl, .slice xam xnm xcm] 25)).alloc (.cells #[.int .i64 0, .bool false, .int .i64 0, .string ⟨#[]⟩, .slice none 0 0, .slice none 0 0] 25)).cell? ⟨w.heap.size, 0, none⟩ = some (.int .i64 k) := by rw [cell_of_block h0]; rfl
 have y5 : (k == 5) = false := by rw [beq_eq_false_iff_ne]; exact hk5
 have y4 : (k == 4) = false := by rw [beq_eq_false_iff_ne]; exact hk4
 obtain ⟨z0, z1, z2, z3, z4, z5⟩ := sixC h2
 have fz : ∀ i', (((w.alloc (.cells #[.int .i64 k, .bool b, .int .i64 i, .string s, .slice al l.length cl, .slice am m.length cm] 25)).alloc (.cells #[.int .i64 xk, .bool xb, .int .i64 xi, .string xs, .slice xal xnl xcl, .slice xam xnm xcm] 25)).alloc (.cells #[.int .i64 0, .bool false, .int .i64 0, .string ⟨#[]⟩, .slice none 0 0, .slice none 0 0] 25)).frozen? ⟨w.heap.size + 2, i', none⟩ = false := frozen_of_block h2
 go_enter Tryz.func42, Tryz.ntmps42
 go_wp2_with fail
 (try simp only [Exit.inBlock, Exit.then])
 refine bodyPost_ret (v := .tuple #[.agg #[.int .i64 0, .bool false, .int .i64 0, .string ⟨#[]⟩, .slice none 0 0, .slice none 0 0], .int .i64 41]) ?_ rfl ?_
 rotate_left
 ·exact ⟨[.int .i64 0, .bool false, .int .i64 0, .string ⟨#[]⟩, .slice none 0 0, .slice none 0 0], rfl, null_lies _ _, by first | exact B3_ | exact Below.set6 B3_ (by omega) _ _ _ _ _ _ _ _ _ _ _ _⟩
 ·rw [results_cell_tmp rfl]
  go_simp
theorem added_any (v : V) (t : ByteArray) (x : V) (S : Nat → Prop) (cs ds : List Value) (w : World) (tg : Tg w) (hv : v.lies false w S cs) (hx : x.lies false w S ds) (hS : ∀ b, S b → b < w.heap.size) (hts : t.size ≤ 281474976710656) (hwt : v.wt ≤ 1114112) (hsr : Srt (memsOf v)) :
 Calls Tryz.prog 42 #[.agg cs.toArray, .string t, .agg ds.toArray] w (AdPost (addF v t x) S w) := by
 have hv0 := hv
 have htm : t.size ≤ maxLen := by unfold maxLen; omega
 obtain ⟨k, b, i, s, l, m⟩ := v
 rw [V.lies] at hv
 obtain ⟨al, cl, bl, ol, am, cm, bm, om, rfl, ik, ii, is, hal, ham, hl, hm, _⟩ := hv
 have hml : m.length ≤ 1114112 := by have := wtM_len m; simp only [V.wt] at hwt; omega
 have hll : l.length ≤ 1114112 := by have := wtL_len l; simp only [V.wt] at hwt; omega
 rw [addF]
 by_cases hk5 : k = 5
 ·subst hk5
  rw [if_pos rfl]
  by_cases hq : keyIs t m[posF m t]? = true
  ·rw [if_pos hq]
   exact addM_there b i s l m t x S al cl bl ol am cm bm om ds w tg hv0 ham hm hx hS (by omega) hml hq hsr
  ·rw [if_neg hq]
   have hq' : keyIs t m[posF m t]? = false := by simpa using hq
   by_cases h0 : 0 < m.length
   ·exact addM_full b i s l m t x S al cl bl ol am cm bm om ds w tg ik ii is hal ham hl hm hx hS hts htm hll hml hq' hsr h0
   ·cases am with
    | none => exact addM_none b i s l m t x S al cl bl ol none cm bm om ds w tg ik ii is hal ham hl hm hx hS hts htm hll hml hq' hsr rfl
    | some ad => exact addM_some b i s l m t x S al cl bl ol (some ad) cm bm om ds w tg ik ii is hal ham hl hm hx hS hts htm hll hml hq' hsr (by omega) ⟨ad, rfl⟩
 ·rw [if_neg hk5]
  by_cases hk4 : k = 4
  ·subst hk4
   rw [if_pos rfl]
   cases hg : gapF t l.length with
   | none => exact addV_no b i s l m t x S al cl bl ol am cm bm om ds w tg hx hS hts hll hg
   | some p =>
    show Calls _ _ _ _ (AdPost (.mk 4 b i s (insL l p x) m, 0) S w)
    by_cases h0 : 0 < l.length
    ·exact addV_full b i s l m t x S al cl bl ol am cm bm om ds w tg ik ii is hal ham hl hm hx hS hts htm hll hml p hg h0
    ·cases al with
     | none => exact addV_none b i s l m t x S none cl bl ol am cm bm om ds w tg ik ii is hal ham hl hm hx hS hts htm hll hml p hg rfl
     | some ad => exact addV_some b i s l m t x S (some ad) cl bl ol am cm bm om ds w tg ik ii is hal ham hl hm hx hS hts htm hll hml p hg (by omega) ⟨ad, rfl⟩
  ·rw [if_neg hk4]
   exact addO_no k b i s l m t x S al cl bl ol am cm bm om ds w tg hx hS hk5 hk4
end Go.Proofs.YtgnofbigggmilaaGreatDoor
