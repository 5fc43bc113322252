/- joined: DonA DonS -/
import Derived.Test.YtnakligbogkmbaaGreatDoorRadA
import Derived.Test.YtnakligbogkmbaaGreatDoorTakA
set_option linter.unusedSimpArgs false
set_option linter.unusedVariables false
namespace Go.Proofs.YtnakligbogkmbaaGreatDoor
open Go.RowKit Go.Lib
def DnPost (r : V × V × Int) (S : Nat → Prop) (w : World) (e : Ending) (w' : World) : Prop := ∃ cs ds : List Value, e = .returned (.tuple #[.agg cs.toArray, .agg ds.toArray, .int .i64 r.2.2]) ∧ r.1.lies false w' (OrNew S w w') cs ∧ r.2.1.lies false w' (OrNew S w w') ds ∧ Below w.heap.size w w'
theorem five_below (w : World) (o1 o2 o3 o4 o5 : Obj) : Below w.heap.size w (((((w.alloc o1).alloc o2).alloc o3).alloc o4).alloc o5) := (four_below w o1 o2 o3 o4).trans ((oBw _ o5).mono (four_below w o1 o2 o3 o4).size)
theorem null_liesS (w : World) (S : Nat → Prop) : nullV.lies false w S [.int .i64 0, .bool false, .int .i64 0, .string ⟨#[]⟩, .slice none 0 0, .slice none 0 0] := by
 rw [nullV, V.lies]
 exact ⟨none, 0, 0, 0, none, 0, 0, 0, rfl, ⟨by decide, by decide⟩, ⟨by decide, by decide⟩, by decide, headed_none, headed_none, by simp [liesL], by simp [liesM], fun h => by cases h⟩
set_option maxHeartbeats 8000000 in
set_option maxRecDepth 100000 in
theorem done_nil3 (v x : V) (S : Nat → Prop) (k : Int) (b : Bool) (i : Int) (s : ByteArray) (al : Option Addr) (nl cl : Nat) (am : Option Addr) (nm cm : Nat) (xk : Int) (xb : Bool) (xi : Int) (xs : ByteArray) (xal : Option Addr) (xnl xcl : Nat) (xam : Option Addr) (xnm xcm : Nat) (ta : Option Addr) (tc : Nat) (w : World) (hv : v.lies false w S [.int .i64 k, .bool b, .int .i64 i, .string s, .slice al nl cl, .slice am nm cm]) (hx : x.lies false w S [.int .i64 xk, .bool xb, .int .i64 xi, .string xs, .slice xal xnl xcl, .slice xam xnm xcm]) (hS : ∀ b, S b → b < w.heap.size) :
 Calls Tryz.prog 28 #[.int .i64 3, .agg #[.int .i64 k, .bool b, .int .i64 i, .string s, .slice al nl cl, .slice am nm cm], .slice ta 0 tc, .agg #[.int .i64 xk, .bool xb, .int .i64 xi, .string xs, .slice xal xnl xcl, .slice xam xnm xcm]] w (DnPost (nullV, nullV, 41) S w) := by
 have HV : Hid (∀ W, Below w.heap.size w W → v.lies false W S [.int .i64 k, .bool b, .int .i64 i, .string s, .slice al nl cl, .slice am nm cm]) := fun W hb => lBw hv hS hb
 have HX : Hid (∀ W, Below w.heap.size w W → x.lies false W S [.int .i64 xk, .bool xb, .int .i64 xi, .string xs, .slice xal xnl xcl, .slice xam xnm xcm]) := fun W hb => lBw hx hS hb
 have BE : Hid (∀ o1 o2 o3 o4 o5, Below w.heap.size w (((((w.alloc o1).alloc o2).alloc o3).alloc o4).alloc o5).drew) := fun _ _ _ _ _ => (five_below w _ _ _ _ _).drew
 clear hv hx
 go_enter Tryz.func28, Tryz.ntmps28
 go_wp2_with fail
 go_region
 go_wp2_with fail
 (try simp only [Exit.inBlock, Exit.then])
 refine bodyPost_ret (v := .tuple #[.agg #[.int .i64 0, .bool false, .int .i64 0, .string ⟨#[]⟩, .slice none 0 0, .slice none 0 0], .agg #[.int .i64 0, .bool false, .int .i64 0, .string ⟨#[]⟩, .slice none 0 0, .slice none 0 0], .int .i64 41]) ?_ rfl ?_
 rotate_left
 ·exact ⟨[.int .i64 0, .bool false, .int .i64 0, .string ⟨#[]⟩, .slice none 0 0, .slice none 0 0], [.int .i64 0, .bool false, .int .i64 0, .string ⟨#[]⟩, .slice none 0 0, .slice none 0 0], rfl, null_liesS _ _, null_liesS _ _, BE.out _ _ _ _ _⟩
 ·rw [results_cell2_tmp rfl]
  go_simp
set_option maxHeartbeats 8000000 in
set_option maxRecDepth 100000 in
theorem done_nil (what : Int) (h3_ : ¬ what = 3) (v x : V) (S : Nat → Prop) (k : Int) (b : Bool) (i : Int) (s : ByteArray) (al : Option Addr) (nl cl : Nat) (am : Option Addr) (nm cm : Nat) (xk : Int) (xb : Bool) (xi : Int) (xs : ByteArray) (xal : Option Addr) (xnl xcl : Nat) (xam : Option Addr) (xnm xcm : Nat) (ta : Option Addr) (tc : Nat) (w : World) (hv : v.lies false w S [.int .i64 k, .bool b, .int .i64 i, .string s, .slice al nl cl, .slice am nm cm]) (hx : x.lies false w S [.int .i64 xk, .bool xb, .int .i64 xi, .string xs, .slice xal xnl xcl, .slice xam xnm xcm]) (hS : ∀ b, S b → b < w.heap.size) :
 Calls Tryz.prog 28 #[.int .i64 what, .agg #[.int .i64 k, .bool b, .int .i64 i, .string s, .slice al nl cl, .slice am nm cm], .slice ta 0 tc, .agg #[.int .i64 xk, .bool xb, .int .i64 xi, .string xs, .slice xal xnl xcl, .slice xam xnm xcm]] w (DnPost (x, v, 0) S w) := by
 have HV : Hid (∀ W, Below w.heap.size w W → v.lies false W S [.int .i64 k, .bool b, .int .i64 i, .string s, .slice al nl cl, .slice am nm cm]) := fun W hb => lBw hv hS hb
 have HX : Hid (∀ W, Below w.heap.size w W → x.lies false W S [.int .i64 xk, .bool xb, .int .i64 xi, .string xs, .slice xal xnl xcl, .slice xam xnm xcm]) := fun W hb => lBw hx hS hb
 have BE : Hid (∀ o1 o2 o3 o4 o5, Below w.heap.size w (((((w.alloc o1).alloc o2).alloc o3).alloc o4).alloc o5).drew) := fun _ _ _ _ _ => (five_below w _ _ _ _ _).drew
 have y3 : (what == 3) = false := by simpa using h3_
 clear hv hx
 go_enter Tryz.func28, Tryz.ntmps28
 go_wp2_with fail
 go_region
 go_wp2_with fail
 (try simp only [Exit.inBlock, Exit.then])
 refine bodyPost_ret (v := .tuple #[.agg #[.int .i64 xk, .bool xb, .int .i64 xi, .string xs, .slice xal xnl xcl, .slice xam xnm xcm], .agg #[.int .i64 k, .bool b, .int .i64 i, .string s, .slice al nl cl, .slice am nm cm], .int .i64 0]) ?_ rfl ?_
 rotate_left
 ·exact ⟨[.int .i64 xk, .bool xb, .int .i64 xi, .string xs, .slice xal xnl xcl, .slice xam xnm xcm], [.int .i64 k, .bool b, .int .i64 i, .string s, .slice al nl cl, .slice am nm cm], rfl, V.lies_keep (fun h => h) (fun _ _ => rfl) (fun y hy => .inl hy) _ (HX.out _ (BE.out _ _ _ _ _)), V.lies_keep (fun h => h) (fun _ _ => rfl) (fun y hy => .inl hy) _ (HV.out _ (BE.out _ _ _ _ _)), BE.out _ _ _ _ _⟩
 ·rw [results_cell2_tmp rfl]
  go_simp
theorem dn_fin {S : Nat → Prop} {w w5 : World} {x y : V} {c0 c1 c2 c3 c4 c5 d0 d1 d2 d3 d4 d5 : Value} (hS : ∀ b, S b → b < w.heap.size) (B5 : Below w.heap.size w w5) (hz : w.heap.size + 5 ≤ w5.heap.size) (hx : x.lies false w5 (fun y => S y ∨ (w.heap.size + 5 ≤ y ∧ y < w5.heap.size)) [c0, c1, c2, c3, c4, c5]) (hy : y.lies false w5 (fun y => S y ∨ (w.heap.size + 5 ≤ y ∧ y < w5.heap.size)) [d0, d1, d2, d3, d4, d5]) :
 x.lies false ((((((((((((w5.setCell ⟨w.heap.size + 2, 0, none⟩ (c0)).setCell ⟨w.heap.size + 2, 1, none⟩ (c1)).setCell ⟨w.heap.size + 2, 2, none⟩ (c2)).setCell ⟨w.heap.size + 2, 3, none⟩ (c3)).setCell ⟨w.heap.size + 2, 4, none⟩ (c4)).setCell ⟨w.heap.size + 2, 5, none⟩ (c5)).setCell ⟨w.heap.size + 3, 0, none⟩ (d0)).setCell ⟨w.heap.size + 3, 1, none⟩ (d1)).setCell ⟨w.heap.size + 3, 2, none⟩ (d2)).setCell ⟨w.heap.size + 3, 3, none⟩ (d3)).setCell ⟨w.heap.size + 3, 4, none⟩ (d4)).setCell ⟨w.heap.size + 3, 5, none⟩ (d5)).drew (OrNew S w ((((((((((((w5.setCell ⟨w.heap.size + 2, 0, none⟩ (c0)).setCell ⟨w.heap.size + 2, 1, none⟩ (c1)).setCell ⟨w.heap.size + 2, 2, none⟩ (c2)).setCell ⟨w.heap.size + 2, 3, none⟩ (c3)).setCell ⟨w.heap.size + 2, 4, none⟩ (c4)).setCell ⟨w.heap.size + 2, 5, none⟩ (c5)).setCell ⟨w.heap.size + 3, 0, none⟩ (d0)).setCell ⟨w.heap.size + 3, 1, none⟩ (d1)).setCell ⟨w.heap.size + 3, 2, none⟩ (d2)).setCell ⟨w.heap.size + 3, 3, none⟩ (d3)).setCell ⟨w.heap.size + 3, 4, none⟩ (d4)).setCell ⟨w.heap.size + 3, 5, none⟩ (d5)).drew) [c0, c1, c2, c3, c4, c5] ∧ y.lies false ((((((((((((w5.setCell ⟨w.heap.size + 2, 0, none⟩ (c0)).setCell ⟨w.heap.size + 2, 1, none⟩ (c1)).setCell ⟨w.heap.size + 2, 2, none⟩ (c2)).setCell ⟨w.heap.size + 2, 3, none⟩ (c3)).setCell ⟨w.heap.size + 2, 4, none⟩ (c4)).setCell ⟨w.heap.size + 2, 5, none⟩ (c5)).setCell ⟨w.heap.size + 3, 0, none⟩ (d0)).setCell ⟨w.heap.size + 3, 1, none⟩ (d1)).setCell ⟨w.heap.size + 3, 2, none⟩ (d2)).setCell ⟨w.heap.size + 3, 3, none⟩ (d3)).setCell ⟨w.heap.size + 3, 4, none⟩ (d4)).setCell ⟨w.heap.size + 3, 5, none⟩ (d5)).drew (OrNew S w ((((((((((((w5.setCell ⟨w.heap.size + 2, 0, none⟩ (c0)).setCell ⟨w.heap.size + 2, 1, none⟩ (c1)).setCell ⟨w.heap.size + 2, 2, none⟩ (c2)).setCell ⟨w.heap.size + 2, 3, none⟩ (c3)).setCell ⟨w.heap.size + 2, 4, none⟩ (c4)).setCell ⟨w.heap.size + 2, 5, none⟩ (c5)).setCell ⟨w.heap.size + 3, 0, none⟩ (d0)).setCell ⟨w.heap.size + 3, 1, none⟩ (d1)).setCell ⟨w.heap.size + 3, 2, none⟩ (d2)).setCell ⟨w.heap.size + 3, 3, none⟩ (d3)).setCell ⟨w.heap.size + 3, 4, none⟩ (d4)).setCell ⟨w.heap.size + 3, 5, none⟩ (d5)).drew) [d0, d1, d2, d3, d4, d5] ∧ Below w.heap.size w ((((((((((((w5.setCell ⟨w.heap.size + 2, 0, none⟩ (c0)).setCell ⟨w.heap.size + 2, 1, none⟩ (c1)).setCell ⟨w.heap.size + 2, 2, none⟩ (c2)).setCell ⟨w.heap.size + 2, 3, none⟩ (c3)).setCell ⟨w.heap.size + 2, 4, none⟩ (c4)).setCell ⟨w.heap.size + 2, 5, none⟩ (c5)).setCell ⟨w.heap.size + 3, 0, none⟩ (d0)).setCell ⟨w.heap.size + 3, 1, none⟩ (d1)).setCell ⟨w.heap.size + 3, 2, none⟩ (d2)).setCell ⟨w.heap.size + 3, 3, none⟩ (d3)).setCell ⟨w.heap.size + 3, 4, none⟩ (d4)).setCell ⟨w.heap.size + 3, 5, none⟩ (d5)).drew := by
 have hot1 : ∀ z, z ≠ w.heap.size + 2 → ((((((w5.setCell ⟨w.heap.size + 2, 0, none⟩ (c0)).setCell ⟨w.heap.size + 2, 1, none⟩ (c1)).setCell ⟨w.heap.size + 2, 2, none⟩ (c2)).setCell ⟨w.heap.size + 2, 3, none⟩ (c3)).setCell ⟨w.heap.size + 2, 4, none⟩ (c4)).setCell ⟨w.heap.size + 2, 5, none⟩ (c5)).heap[z]? = w5.heap[z]? := fun z hz => by
  repeat (rw [sOt hz])
 have g1 : w5.grownBy ((((((w5.setCell ⟨w.heap.size + 2, 0, none⟩ (c0)).setCell ⟨w.heap.size + 2, 1, none⟩ (c1)).setCell ⟨w.heap.size + 2, 2, none⟩ (c2)).setCell ⟨w.heap.size + 2, 3, none⟩ (c3)).setCell ⟨w.heap.size + 2, 4, none⟩ (c4)).setCell ⟨w.heap.size + 2, 5, none⟩ (c5)) (some (w.heap.size + 2)) := gSt (gSt (gSt (gSt (gSt (gSt (World.grownBy.refl w5 _) 0 c0) 1 c1) 2 c2) 3 c3) 4 c4) 5 c5
 have s1 : ((((((w5.setCell ⟨w.heap.size + 2, 0, none⟩ (c0)).setCell ⟨w.heap.size + 2, 1, none⟩ (c1)).setCell ⟨w.heap.size + 2, 2, none⟩ (c2)).setCell ⟨w.heap.size + 2, 3, none⟩ (c3)).setCell ⟨w.heap.size + 2, 4, none⟩ (c4)).setCell ⟨w.heap.size + 2, 5, none⟩ (c5)).heap.size = w5.heap.size := by simp only [sz1]
 generalize ((((((w5.setCell ⟨w.heap.size + 2, 0, none⟩ (c0)).setCell ⟨w.heap.size + 2, 1, none⟩ (c1)).setCell ⟨w.heap.size + 2, 2, none⟩ (c2)).setCell ⟨w.heap.size + 2, 3, none⟩ (c3)).setCell ⟨w.heap.size + 2, 4, none⟩ (c4)).setCell ⟨w.heap.size + 2, 5, none⟩ (c5)) = w6 at *
 have hot2 : ∀ z, z ≠ w.heap.size + 3 → ((((((w6.setCell ⟨w.heap.size + 3, 0, none⟩ (d0)).setCell ⟨w.heap.size + 3, 1, none⟩ (d1)).setCell ⟨w.heap.size + 3, 2, none⟩ (d2)).setCell ⟨w.heap.size + 3, 3, none⟩ (d3)).setCell ⟨w.heap.size + 3, 4, none⟩ (d4)).setCell ⟨w.heap.size + 3, 5, none⟩ (d5)).heap[z]? = w6.heap[z]? := fun z hz => by
  repeat (rw [sOt hz])
 have g2 : w6.grownBy ((((((w6.setCell ⟨w.heap.size + 3, 0, none⟩ (d0)).setCell ⟨w.heap.size + 3, 1, none⟩ (d1)).setCell ⟨w.heap.size + 3, 2, none⟩ (d2)).setCell ⟨w.heap.size + 3, 3, none⟩ (d3)).setCell ⟨w.heap.size + 3, 4, none⟩ (d4)).setCell ⟨w.heap.size + 3, 5, none⟩ (d5)) (some (w.heap.size + 3)) := gSt (gSt (gSt (gSt (gSt (gSt (World.grownBy.refl w6 _) 0 d0) 1 d1) 2 d2) 3 d3) 4 d4) 5 d5
 have s2 : ((((((w6.setCell ⟨w.heap.size + 3, 0, none⟩ (d0)).setCell ⟨w.heap.size + 3, 1, none⟩ (d1)).setCell ⟨w.heap.size + 3, 2, none⟩ (d2)).setCell ⟨w.heap.size + 3, 3, none⟩ (d3)).setCell ⟨w.heap.size + 3, 4, none⟩ (d4)).setCell ⟨w.heap.size + 3, 5, none⟩ (d5)).heap.size = w6.heap.size := by simp only [sz1]
 generalize ((((((w6.setCell ⟨w.heap.size + 3, 0, none⟩ (d0)).setCell ⟨w.heap.size + 3, 1, none⟩ (d1)).setCell ⟨w.heap.size + 3, 2, none⟩ (d2)).setCell ⟨w.heap.size + 3, 3, none⟩ (d3)).setCell ⟨w.heap.size + 3, 4, none⟩ (d4)).setCell ⟨w.heap.size + 3, 5, none⟩ (d5)) = wf at *
 have key : ∀ z, z ≠ w.heap.size + 2 → z ≠ w.heap.size + 3 → wf.heap[z]? = w5.heap[z]? := fun z h1 h2 => (hot2 z h2).trans (hot1 z h1)
 have kf : ∀ z, (S z ∨ (w.heap.size + 5 ≤ z ∧ z < w5.heap.size)) → wf.heap[z]? = w5.heap[z]? := fun z hz => by
  rcases hz with hz | hz
  ·have := hS z hz; exact key z (by omega) (by omega)
  ·exact key z (by omega) (by omega)
 have kn : ∀ z, (S z ∨ (w.heap.size + 5 ≤ z ∧ z < w5.heap.size)) → OrNew S w wf z := fun z hz => by
  rcases hz with hz | hz
  ·exact .inl hz
  ·exact .inr ⟨by omega, by omega⟩
 have BF : Below w.heap.size w wf := ⟨g2.os.trans (g1.os.trans B5.os), g2.tape.trans (g1.tape.trans B5.tape), g2.output.trans (g1.output.trans B5.output), by have := B5.size; omega, fun q hq => (key q (by omega) (by omega)).trans (B5.block q hq)⟩
 have kf' : ∀ z, (S z ∨ (w.heap.size + 5 ≤ z ∧ z < w5.heap.size)) → wf.drew.heap[z]? = w5.heap[z]? := kf
 have kn' : ∀ z, (S z ∨ (w.heap.size + 5 ≤ z ∧ z < w5.heap.size)) → OrNew S w wf.drew z := kn
 exact ⟨V.lies_keep (fun h => h) kf' kn' _ hx, V.lies_keep (fun h => h) kf' kn' _ hy, BF.drew⟩
theorem dn_fin0 {S : Nat → Prop} {w w5 : World} {x y : V} {c0 c1 c2 c3 c4 c5 d0 d1 d2 d3 d4 d5 : Value} (hS : ∀ b, S b → b < w.heap.size) (B5 : Below w.heap.size w w5) (hz : w.heap.size + 5 ≤ w5.heap.size) (hx : x.lies false w5 (fun y => S y ∨ (w.heap.size + 5 ≤ y ∧ y < w5.heap.size)) [c0, c1, c2, c3, c4, c5]) (hy : y.lies false w5 (fun y => S y ∨ (w.heap.size + 5 ≤ y ∧ y < w5.heap.size)) [d0, d1, d2, d3, d4, d5]) :
 x.lies false ((((((((((((w5.setCell ⟨w.heap.size + 2, 0, none⟩ (c0)).setCell ⟨w.heap.size + 2, 1, none⟩ (c1)).setCell ⟨w.heap.size + 2, 2, none⟩ (c2)).setCell ⟨w.heap.size + 2, 3, none⟩ (c3)).setCell ⟨w.heap.size + 2, 4, none⟩ (c4)).setCell ⟨w.heap.size + 2, 5, none⟩ (c5)).setCell ⟨w.heap.size + 3, 0, none⟩ (d0)).setCell ⟨w.heap.size + 3, 1, none⟩ (d1)).setCell ⟨w.heap.size + 3, 2, none⟩ (d2)).setCell ⟨w.heap.size + 3, 3, none⟩ (d3)).setCell ⟨w.heap.size + 3, 4, none⟩ (d4)).setCell ⟨w.heap.size + 3, 5, none⟩ (d5)) (OrNew S w ((((((((((((w5.setCell ⟨w.heap.size + 2, 0, none⟩ (c0)).setCell ⟨w.heap.size + 2, 1, none⟩ (c1)).setCell ⟨w.heap.size + 2, 2, none⟩ (c2)).setCell ⟨w.heap.size + 2, 3, none⟩ (c3)).setCell ⟨w.heap.size + 2, 4, none⟩ (c4)).setCell ⟨w.heap.size + 2, 5, none⟩ (c5)).setCell ⟨w.heap.size + 3, 0, none⟩ (d0)).setCell ⟨w.heap.size + 3, 1, none⟩ (d1)).setCell ⟨w.heap.size + 3, 2, none⟩ (d2)).setCell ⟨w.heap.size + 3, 3, none⟩ (d3)).setCell ⟨w.heap.size + 3, 4, none⟩ (d4)).setCell ⟨w.heap.size + 3, 5, none⟩ (d5))) [c0, c1, c2, c3, c4, c5] ∧ y.lies false ((((((((((((w5.setCell ⟨w.heap.size + 2, 0, none⟩ (c0)).setCell ⟨w.heap.size + 2, 1, none⟩ (c1)).setCell ⟨w.heap.size + 2, 2, none⟩ (c2)).setCell ⟨w.heap.size + 2, 3, none⟩ (c3)).setCell ⟨w.heap.size + 2, 4, none⟩ (c4)).setCell ⟨w.heap.size + 2, 5, none⟩ (c5)).setCell ⟨w.heap.size + 3, 0, none⟩ (d0)).setCell ⟨w.heap.size + 3, 1, none⟩ (d1)).setCell ⟨w.heap.size + 3, 2, none⟩ (d2)).setCell ⟨w.heap.size + 3, 3, none⟩ (d3)).setCell ⟨w.heap.size + 3, 4, none⟩ (d4)).setCell ⟨w.heap.size + 3, 5, none⟩ (d5)) (OrNew S w ((((((((((((w5.setCell ⟨w.heap.size + 2, 0, none⟩ (c0)).setCell ⟨w.heap.size + 2, 1, none⟩ (c1)).setCell ⟨w.heap.size + 2, 2, none⟩ (c2)).setCell ⟨w.heap.size + 2, 3, none⟩ (c3)).setCell ⟨w.heap.size + 2, 4, none⟩ (c4)).setCell ⟨w.heap.size + 2, 5, none⟩ (c5)).setCell ⟨w.heap.size + 3, 0, none⟩ (d0)).setCell ⟨w.heap.size + 3, 1, none⟩ (d1)).setCell ⟨w.heap.size + 3, 2, none⟩ (d2)).setCell ⟨w.heap.size + 3, 3, none⟩ (d3)).setCell ⟨w.heap.size + 3, 4, none⟩ (d4)).setCell ⟨w.heap.size + 3, 5, none⟩ (d5))) [d0, d1, d2, d3, d4, d5] ∧ Below w.heap.size w ((((((((((((w5.setCell ⟨w.heap.size + 2, 0, none⟩ (c0)).setCell ⟨w.heap.size + 2, 1, none⟩ (c1)).setCell ⟨w.heap.size + 2, 2, none⟩ (c2)).setCell ⟨w.heap.size + 2, 3, none⟩ (c3)).setCell ⟨w.heap.size + 2, 4, none⟩ (c4)).setCell ⟨w.heap.size + 2, 5, none⟩ (c5)).setCell ⟨w.heap.size + 3, 0, none⟩ (d0)).setCell ⟨w.heap.size + 3, 1, none⟩ (d1)).setCell ⟨w.heap.size + 3, 2, none⟩ (d2)).setCell ⟨w.heap.size + 3, 3, none⟩ (d3)).setCell ⟨w.heap.size + 3, 4, none⟩ (d4)).setCell ⟨w.heap.size + 3, 5, none⟩ (d5)) := by
 have hot1 : ∀ z, z ≠ w.heap.size + 2 → ((((((w5.setCell ⟨w.heap.size + 2, 0, none⟩ (c0)).setCell ⟨w.heap.size + 2, 1, none⟩ (c1)).setCell ⟨w.heap.size + 2, 2, none⟩ (c2)).setCell ⟨w.heap.size + 2, 3, none⟩ (c3)).setCell ⟨w.heap.size + 2, 4, none⟩ (c4)).setCell ⟨w.heap.size + 2, 5, none⟩ (c5)).heap[z]? = w5.heap[z]? := fun z hz => by
  repeat (rw [sOt hz])
 have g1 : w5.grownBy ((((((w5.setCell ⟨w.heap.size + 2, 0, none⟩ (c0)).setCell ⟨w.heap.size + 2, 1, none⟩ (c1)).setCell ⟨w.heap.size + 2, 2, none⟩ (c2)).setCell ⟨w.heap.size + 2, 3, none⟩ (c3)).setCell ⟨w.heap.size + 2, 4, none⟩ (c4)).setCell ⟨w.heap.size + 2, 5, none⟩ (c5)) (some (w.heap.size + 2)) := gSt (gSt (gSt (gSt (gSt (gSt (World.grownBy.refl w5 _) 0 c0) 1 c1) 2 c2) 3 c3) 4 c4) 5 c5
 have s1 : ((((((w5.setCell ⟨w.heap.size + 2, 0, none⟩ (c0)).setCell ⟨w.heap.size + 2, 1, none⟩ (c1)).setCell ⟨w.heap.size + 2, 2, none⟩ (c2)).setCell ⟨w.heap.size + 2, 3, none⟩ (c3)).setCell ⟨w.heap.size + 2, 4, none⟩ (c4)).setCell ⟨w.heap.size + 2, 5, none⟩ (c5)).heap.size = w5.heap.size := by simp only [sz1]
 generalize ((((((w5.setCell ⟨w.heap.size + 2, 0, none⟩ (c0)).setCell ⟨w.heap.size + 2, 1, none⟩ (c1)).setCell ⟨w.heap.size + 2, 2, none⟩ (c2)).setCell ⟨w.heap.size + 2, 3, none⟩ (c3)).setCell ⟨w.heap.size + 2, 4, none⟩ (c4)).setCell ⟨w.heap.size + 2, 5, none⟩ (c5)) = w6 at *
 have hot2 : ∀ z, z ≠ w.heap.size + 3 → ((((((w6.setCell ⟨w.heap.size + 3, 0, none⟩ (d0)).setCell ⟨w.heap.size + 3, 1, none⟩ (d1)).setCell ⟨w.heap.size + 3, 2, none⟩ (d2)).setCell ⟨w.heap.size + 3, 3, none⟩ (d3)).setCell ⟨w.heap.size + 3, 4, none⟩ (d4)).setCell ⟨w.heap.size + 3, 5, none⟩ (d5)).heap[z]? = w6.heap[z]? := fun z hz => by
  repeat (rw [sOt hz])
 have g2 : w6.grownBy ((((((w6.setCell ⟨w.heap.size + 3, 0, none⟩ (d0)).setCell ⟨w.heap.size + 3, 1, none⟩ (d1)).setCell ⟨w.heap.size + 3, 2, none⟩ (d2)).setCell ⟨w.heap.size + 3, 3, none⟩ (d3)).setCell ⟨w.heap.size + 3, 4, none⟩ (d4)).setCell ⟨w.heap.size + 3, 5, none⟩ (d5)) (some (w.heap.size + 3)) := gSt (gSt (gSt (gSt (gSt (gSt (World.grownBy.refl w6 _) 0 d0) 1 d1) 2 d2) 3 d3) 4 d4) 5 d5
 have s2 : ((((((w6.setCell ⟨w.heap.size + 3, 0, none⟩ (d0)).setCell ⟨w.heap.size + 3, 1, none⟩ (d1)).setCell ⟨w.heap.size + 3, 2, none⟩ (d2)).setCell ⟨w.heap.size + 3, 3, none⟩ (d3)).setCell ⟨w.heap.size + 3, 4, none⟩ (d4)).setCell ⟨w.heap.size + 3, 5, none⟩ (d5)).heap.size = w6.heap.size := by simp only [sz1]
 generalize ((((((w6.setCell ⟨w.heap.size + 3, 0, none⟩ (d0)).setCell ⟨w.heap.size + 3, 1, none⟩ (d1)).setCell ⟨w.heap.size + 3, 2, none⟩ (d2)).setCell ⟨w.heap.size + 3, 3, none⟩ (d3)).setCell ⟨w.heap.size + 3, 4, none⟩ (d4)).setCell ⟨w.heap.size + 3, 5, none⟩ (d5)) = wf at *
 have key : ∀ z, z ≠ w.heap.size + 2 → z ≠ w.heap.size + 3 → wf.heap[z]? = w5.heap[z]? := fun z h1 h2 => (hot2 z h2).trans (hot1 z h1)
 have kf : ∀ z, (S z ∨ (w.heap.size + 5 ≤ z ∧ z < w5.heap.size)) → wf.heap[z]? = w5.heap[z]? := fun z hz => by
  rcases hz with hz | hz
  ·have := hS z hz; exact key z (by omega) (by omega)
  ·exact key z (by omega) (by omega)
 have kn : ∀ z, (S z ∨ (w.heap.size + 5 ≤ z ∧ z < w5.heap.size)) → OrNew S w wf z := fun z hz => by
  rcases hz with hz | hz
  ·exact .inl hz
  ·exact .inr ⟨by omega, by omega⟩
 have BF : Below w.heap.size w wf := ⟨g2.os.trans (g1.os.trans B5.os), g2.tape.trans (g1.tape.trans B5.tape), g2.output.trans (g1.output.trans B5.output), by have := B5.size; omega, fun q hq => (key q (by omega) (by omega)).trans (B5.block q hq)⟩
 have kf' : ∀ z, (S z ∨ (w.heap.size + 5 ≤ z ∧ z < w5.heap.size)) → wf.heap[z]? = w5.heap[z]? := kf
 have kn' : ∀ z, (S z ∨ (w.heap.size + 5 ≤ z ∧ z < w5.heap.size)) → OrNew S w wf z := kn
 exact ⟨V.lies_keep (fun h => h) kf' kn' _ hx, V.lies_keep (fun h => h) kf' kn' _ hy, BF⟩
end Go.Proofs.YtnakligbogkmbaaGreatDoor
