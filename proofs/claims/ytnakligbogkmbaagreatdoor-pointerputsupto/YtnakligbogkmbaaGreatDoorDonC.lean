import Derived.Test.YtnakligbogkmbaaGreatDoorDonB
import Derived.Deep.DeepCutAuto
set_option linter.unusedSimpArgs false
set_option linter.unusedVariables false
namespace Go.Proofs.YtnakligbogkmbaaGreatDoor
open Go.RowKit Go.Lib
structure StpMid (S : Nat → Prop) (w w5 wx : World) (y : V) (A : Nat) (ek : Int) (eb : Bool) (ei : Int) (es : ByteArray) (eal : Option Addr) (enl ecl : Nat) (eam : Option Addr) (enm ecm : Nat) : Prop where
 bel : Below (w.heap.size + 5) w5 wx
 lo : w.heap.size + 5 ≤ A
 hi : A < wx.heap.size
 box : wx.heap[A]? = some (.cells #[.int .i64 ek, .bool eb, .int .i64 ei, .string es, .slice eal enl ecl, .slice eam enm ecm] 25)
 lies : y.lies false wx S [.int .i64 ek, .bool eb, .int .i64 ei, .string es, .slice eal enl ecl, .slice eam enm ecm]
set_option maxHeartbeats 8000000 in
set_option maxRecDepth 100000 in
theorem done_fail_a (v x : V) (S : Nat → Prop) (k : Int) (b : Bool) (i : Int) (s : ByteArray) (al : Option Addr) (nl cl : Nat) (am : Option Addr) (nm cm : Nat) (xk : Int) (xb : Bool) (xi : Int) (xs : ByteArray) (xal : Option Addr) (xnl xcl : Nat) (xam : Option Addr) (xnm xcm : Nat) (t : ByteArray) (tg_ tof tc : Nat) (w : World) (hv : v.lies false w S [.int .i64 k, .bool b, .int .i64 i, .string s, .slice al nl cl, .slice am nm cm]) (hx : x.lies false w S [.int .i64 xk, .bool xb, .int .i64 xi, .string xs, .slice xal xnl xcl, .slice xam xnm xcm]) (hS : ∀ b, S b → b < w.heap.size) (htg : tg_ < w.heap.size) (htok : w.cell? ⟨tg_, tof, none⟩ = some (.string t)) (hts : t.size ≤ 281474976710656) (hwt : v.wt ≤ 1114112) (hsr : Srt (memsOf v)) (what : Int) (tn : Nat) (htn : 2 ≤ tn) (htc : tn ≤ tc) (hl0 : ¬ (ledF v t).2 = 0) :
 Calls Tryz.prog 28 #[.int .i64 what, .agg #[.int .i64 k, .bool b, .int .i64 i, .string s, .slice al nl cl, .slice am nm cm], .slice (some ⟨tg_, tof, none⟩) tn tc, .agg #[.int .i64 xk, .bool xb, .int .i64 xi, .string xs, .slice xal xnl xcl, .slice xam xnm xcm]] w (DnPost (nullV, nullV, (ledF v t).2) S w) := by
 have HCS : Hid (∀ W, Below w.heap.size w W → Calls Tryz.prog 43 #[.agg #[.int .i64 k, .bool b, .int .i64 i, .string s, .slice al nl cl, .slice am nm cm], .string t] W (SpPost (stpF v t) S W)) := fun W hb => step_any v t S _ W (lBw hv hS hb) (fun y hy => Nat.lt_of_lt_of_le (hS y hy) hb.size) hwt hsr
 have HV : Hid (∀ W, Below w.heap.size w W → v.lies false W S [.int .i64 k, .bool b, .int .i64 i, .string s, .slice al nl cl, .slice am nm cm]) := fun W hb => lBw hv hS hb
 have HX : Hid (∀ W, Below w.heap.size w W → x.lies false W S [.int .i64 xk, .bool xb, .int .i64 xi, .string xs, .slice xal xnl xcl, .slice xam xnm xcm]) := fun W hb => lBw hx hS hb
 have b2 : Below w.heap.size w ((w.alloc (oV k b i s al nl cl am nm cm)).alloc (oV xk xb xi xs xal xnl xcl xam xnm xcm)) := tBw w _ _
 have hz2 : ((w.alloc (oV k b i s al nl cl am nm cm)).alloc (oV xk xb xi xs xal xnl xcl xam xnm xcm)).heap.size = w.heap.size + 2 := by rw [aSz, aSz]
 have hz2 := hz2; dsimp only [oV, oN] at hz2
 have b4 : Below ((w.alloc (oV k b i s al nl cl am nm cm)).alloc (oV xk xb xi xs xal xnl xcl xam xnm xcm)).heap.size ((w.alloc (oV k b i s al nl cl am nm cm)).alloc (oV xk xb xi xs xal xnl xcl xam xnm xcm)) ((((w.alloc (oV k b i s al nl cl am nm cm)).alloc (oV xk xb xi xs xal xnl xcl xam xnm xcm)).alloc oN).alloc oN) := tBw _ _ _
 have hz4 : ((((w.alloc (oV k b i s al nl cl am nm cm)).alloc (oV xk xb xi xs xal xnl xcl xam xnm xcm)).alloc oN).alloc oN).heap.size = w.heap.size + 4 := by rw [aSz, aSz, hz2]
 have hz4 := hz4; dsimp only [oV, oN] at hz4
 have b5 : Below ((((w.alloc (oV k b i s al nl cl am nm cm)).alloc (oV xk xb xi xs xal xnl xcl xam xnm xcm)).alloc oN).alloc oN).heap.size ((((w.alloc (oV k b i s al nl cl am nm cm)).alloc (oV xk xb xi xs xal xnl xcl xam xnm xcm)).alloc oN).alloc oN) (((((w.alloc (oV k b i s al nl cl am nm cm)).alloc (oV xk xb xi xs xal xnl xcl xam xnm xcm)).alloc oN).alloc oN).alloc oN) := oBw _ _
 have hz5 : (((((w.alloc (oV k b i s al nl cl am nm cm)).alloc (oV xk xb xi xs xal xnl xcl xam xnm xcm)).alloc oN).alloc oN).alloc oN).heap.size = w.heap.size + 5 := by rw [aSz, hz4]
 have hz5 := hz5; dsimp only [oV, oN] at hz5
 have b25 : Below ((w.alloc (oV k b i s al nl cl am nm cm)).alloc (oV xk xb xi xs xal xnl xcl xam xnm xcm)).heap.size ((w.alloc (oV k b i s al nl cl am nm cm)).alloc (oV xk xb xi xs xal xnl xcl xam xnm xcm)) (((((w.alloc (oV k b i s al nl cl am nm cm)).alloc (oV xk xb xi xs xal xnl xcl xam xnm xcm)).alloc oN).alloc oN).alloc oN) := b4.trans (b5.mono (by omega))
 have B5 : Below w.heap.size w (((((w.alloc (oV k b i s al nl cl am nm cm)).alloc (oV xk xb xi xs xal xnl xcl xam xnm xcm)).alloc oN).alloc oN).alloc oN) := five_below w _ _ _ _ _
 have h0 := (b25.block w.heap.size (by omega)).trans (a2k w (oV k b i s al nl cl am nm cm) (oV xk xb xi xs xal xnl xcl xam xnm xcm))
 have h1 := (b25.block (w.heap.size + 1) (by omega)).trans (a2n w (oV k b i s al nl cl am nm cm) (oV xk xb xi xs xal xnl xcl xam xnm xcm))
 have q2 := a2k ((w.alloc (oV k b i s al nl cl am nm cm)).alloc (oV xk xb xi xs xal xnl xcl xam xnm xcm)) oN oN
 rw [hz2] at q2
 have h2 := (b5.block (w.heap.size + 2) (by omega)).trans q2
 have q3 := a2n ((w.alloc (oV k b i s al nl cl am nm cm)).alloc (oV xk xb xi xs xal xnl xcl xam xnm xcm)) oN oN
 rw [hz2] at q3
 have h3 := (b5.block (w.heap.size + 3) (by omega)).trans q3
 have h4 := heap_alloc_new ((((w.alloc (oV k b i s al nl cl am nm cm)).alloc (oV xk xb xi xs xal xnl xcl xam xnm xcm)).alloc oN).alloc oN) oN
 rw [hz4] at h4
 have tk5 := (B5.cell (p := ⟨tg_, tof, none⟩) htg).trans htok
 clear b2 b4 b5 b25 hz2 hz4 q2 q3
 have yp0 : 0 < tn := by omega
 have yp1 : (0 : Int) < (tn : Int) := by omega
 have yl0 : ¬ (tn : Int) = 0 := by omega
 have yl1 : ¬ (tn : Int) = 1 := by omega
 have yb0 : ((tn : Int) == 0) = false := by simpa using yl0
 have yb1 : ((tn : Int) == 1) = false := by simpa using yl1
 clear hv hx
 go_enter Tryz.func28, Tryz.ntmps28
 go_wp2_with fail
 generalize (((((w.alloc (oV k b i s al nl cl am nm cm)).alloc (oV xk xb xi xs xal xnl xcl xam xnm xcm)).alloc oN).alloc oN).alloc oN) = w5 at *
 go_cut [14, 15, 16] (fun e14 e15 e16 wx => ∃ (A : Nat) (ek : Int) (eb : Bool) (ei : Int) (es : ByteArray) (eal : Option Addr) (enl ecl : Nat) (eam : Option Addr) (enm ecm : Nat), e14 = .pointer (some ⟨A, 0, none⟩) ∧ e15 = .int .i64 ((stpF v t).2.1 : Int) ∧ e16 = .int .i64 (stpF v t).2.2 ∧ StpMid S w w5 wx (stpF v t).1 A ek eb ei es eal enl ecl eam enm ecm)
 case first =>
  refine wp_region_held_drew (S := (fun W => W.heap[w.heap.size]? = some (oV k b i s al nl cl am nm cm) ∧ W.cell? ⟨tg_, tof, none⟩ = some (.string t))) (by kernel_rfl) ⟨h0, tk5⟩ (fun hHeld => ?_)
  (refine tkA 0 ?_ ?_ ?_; rotate_left 1; (intro W0 hSw; (have o0 : W0.cell? ⟨w.heap.size, 0, none⟩ = some (.int .i64 k) := (by rw [cBk hSw.1]; rfl); have o1 : W0.cell? ⟨w.heap.size, 1, none⟩ = some (.bool b) := (by rw [cBk hSw.1]; rfl); have o2 : W0.cell? ⟨w.heap.size, 2, none⟩ = some (.int .i64 i) := (by rw [cBk hSw.1]; rfl); have o3 : W0.cell? ⟨w.heap.size, 3, none⟩ = some (.string s) := (by rw [cBk hSw.1]; rfl); have o4 : W0.cell? ⟨w.heap.size, 4, none⟩ = some (.slice al nl cl) := (by rw [cBk hSw.1]; rfl); have o5 : W0.cell? ⟨w.heap.size, 5, none⟩ = some (.slice am nm cm) := (by rw [cBk hSw.1]; rfl)); go_simp; (try with_reducible rfl)); (try simp only [Act.put, zA, zB, zC]))
  (refine tjA 1 ?_; (try simp only [Act.put, zA, zB, zC]))
  (refine tjA 2 ?_; (try simp only [Act.put, zA, zB, zC]))
  (refine tkA 3 ?_ ?_ ?_; rotate_left 1; (intro W0 hSw; (have o9 := hSw.2); go_simp; (try with_reducible rfl)); (try simp only [Act.put, zA, zB, zC]))
  refine ryA [4, 9] ?_
  refine rA2 (fun K hK => ?_) fun K hK => ?_
  focus
   skip
   go_simp
   refine (HCS.out w5.drew (B5.drew)).mono ?_
   rintro e w6 ⟨cs_, rfl, hl6, b6⟩
   obtain ⟨ek, eb, ei, es, eal, enl, ecl, eam, enm, ecm, rfl⟩ := V.ten hl6
   replace b6 : Below w5.heap.size w5 w6 := (Below.refl _ w5).drew.trans b6
   have hz6 := b6.size
   have t0 := (b6.block w.heap.size (by omega)).trans h0
   have tt := (b6.cell (p := ⟨tg_, tof, none⟩) (show tg_ < w5.heap.size by omega)).trans tk5
   refine hK.out _ _ ⟨t0, tt⟩ (fun hHeld => ?_)
   clear hK K
   (try simp only [Act.put, zA, zB, zC])
   (refine tjA 5 ?_; (try simp only [Act.put, zA, zB, zC]))
   (refine tjA 6 ?_; (try simp only [Act.put, zA, zB, zC]))
   (refine tjA 7 ?_; (try simp only [Act.put, zA, zB, zC]))
   (refine tjA 8 ?_; (try simp only [Act.put, zA, zB, zC]))
   refine ryA [9] ?_
   refine rA1 fun K hK => ?_
   go_simp
   have bq : Below w6.heap.size w6 (w6.alloc oN) := oBw _ _
   refine hK.out _ _ ⟨(bq.block _ (by omega)).trans t0, (bq.cell (p := ⟨tg_, tof, none⟩) (show tg_ < w6.heap.size by omega)).trans tt⟩ (fun hHeld => ?_)
   clear hK K
   (try simp only [Act.put, zA, zB, zC])
   refine ryA [10] ?_
   refine rA1 fun K hK => ?_
   go_simp
   have br : Below w6.heap.size w6 (w6.alloc (oV ek eb ei es eal enl ecl eam enm ecm)) := oBw _ _
   have MM : StpMid S w w5 (w6.alloc (oV ek eb ei es eal enl ecl eam enm ecm)) (stpF v t).1 w6.heap.size ek eb ei es eal enl ecl eam enm ecm := ⟨(b6.mono (by omega)).trans (br.mono (by omega)), by omega, by rw [aSz]; omega, heap_alloc_new w6 (oV ek eb ei es eal enl ecl eam enm ecm), lBw hl6 (fun y hy => by have := hS y hy; omega) br⟩
   generalize w6.heap.size = A at MM ⊢
   generalize (w6.alloc (oV ek eb ei es eal enl ecl eam enm ecm)) = wm at MM ⊢
  rotate_left 1
  focus
   skip
   have bz : Below w5.heap.size w5 (w5.alloc oN).drew := ((Below.refl _ _).alloc (Nat.le_refl _) _).drew
   have hzd : (w5.alloc oN).drew.heap.size = w5.heap.size + 1 := aSz w5 oN
   have hzd := hzd; dsimp only [oV, oN] at hzd
   have mz : (w5.alloc oN).drew.heap[w.heap.size + 5]? = some oN := by have q := heap_alloc_new w5 oN; rw [hz5] at q; exact q
   go_simp
   refine hK.out _ _ ⟨(bz.block _ (by omega)).trans h0, (bz.cell (p := ⟨tg_, tof, none⟩) (show tg_ < w5.heap.size by omega)).trans tk5⟩ (fun hHeld => ?_)
   clear hK K
   (try simp only [Act.put, zA, zB, zC])
   refine ryA [4] ?_
   refine rA1 fun K hK => ?_
   go_simp
   refine (HCS.out (w5.alloc oN).drew (B5.trans (bz.mono (by omega)))).mono ?_
   rintro e w6 ⟨cs_, rfl, hl6, b6⟩
   obtain ⟨ek, eb, ei, es, eal, enl, ecl, eam, enm, ecm, rfl⟩ := V.ten hl6
   have mz6 := (b6.block (w.heap.size + 5) (by omega)).trans mz
   have hzq := b6.size
   replace b6 : Below w5.heap.size w5 w6 := bz.trans (b6.mono bz.size)
   have hz6 := b6.size
   have t0 := (b6.block w.heap.size (by omega)).trans h0
   have tt := (b6.cell (p := ⟨tg_, tof, none⟩) (show tg_ < w5.heap.size by omega)).trans tk5
   refine hK.out _ _ ⟨t0, tt⟩ (fun hHeld => ?_)
   clear hK K
   (try simp only [Act.put, zA, zB, zC])
   (refine tjA 5 ?_; (try simp only [Act.put, zA, zB, zC]))
   (refine tjA 6 ?_; (try simp only [Act.put, zA, zB, zC]))
   (refine tjA 7 ?_; (try simp only [Act.put, zA, zB, zC]))
   (refine tjA 8 ?_; (try simp only [Act.put, zA, zB, zC]))
   obtain ⟨q0, q1, q2, q3, q4, q5⟩ := sixC mz6
   have fq := fBk mz6
   refine ryA [10] ?_
   refine rA1 fun K hK => ?_
   go_simp
   have mA := box_six mz6 (.int .i64 ek) (.bool eb) (.int .i64 ei) (.string es) (.slice eal enl ecl) (.slice eam enm ecm)
   have ho := six_o w6 (w.heap.size + 5) (.int .i64 ek) (.bool eb) (.int .i64 ei) (.string es) (.slice eal enl ecl) (.slice eam enm ecm)
   have gq : w6.grownBy ((((((w6.setCell ⟨w.heap.size + 5, 0, none⟩ (.int .i64 ek)).setCell ⟨w.heap.size + 5, 1, none⟩ (.bool eb)).setCell ⟨w.heap.size + 5, 2, none⟩ (.int .i64 ei)).setCell ⟨w.heap.size + 5, 3, none⟩ (.string es)).setCell ⟨w.heap.size + 5, 4, none⟩ (.slice eal enl ecl)).setCell ⟨w.heap.size + 5, 5, none⟩ (.slice eam enm ecm)) (some (w.heap.size + 5)) := gSt (gSt (gSt (gSt (gSt (gSt (World.grownBy.refl w6 _) 0 _) 1 _) 2 _) 3 _) 4 _) 5 _
   have sq : ((((((w6.setCell ⟨w.heap.size + 5, 0, none⟩ (.int .i64 ek)).setCell ⟨w.heap.size + 5, 1, none⟩ (.bool eb)).setCell ⟨w.heap.size + 5, 2, none⟩ (.int .i64 ei)).setCell ⟨w.heap.size + 5, 3, none⟩ (.string es)).setCell ⟨w.heap.size + 5, 4, none⟩ (.slice eal enl ecl)).setCell ⟨w.heap.size + 5, 5, none⟩ (.slice eam enm ecm)).heap.size = w6.heap.size := by simp only [sz1]
   have MM : StpMid S w w5 ((((((w6.setCell ⟨w.heap.size + 5, 0, none⟩ (.int .i64 ek)).setCell ⟨w.heap.size + 5, 1, none⟩ (.bool eb)).setCell ⟨w.heap.size + 5, 2, none⟩ (.int .i64 ei)).setCell ⟨w.heap.size + 5, 3, none⟩ (.string es)).setCell ⟨w.heap.size + 5, 4, none⟩ (.slice eal enl ecl)).setCell ⟨w.heap.size + 5, 5, none⟩ (.slice eam enm ecm)) (stpF v t).1 (w.heap.size + 5) ek eb ei es eal enl ecl eam enm ecm := ⟨⟨gq.os.trans b6.os, gq.tape.trans b6.tape, gq.output.trans b6.output, by omega, fun z hz => (ho z (by omega)).trans (b6.block z (by omega))⟩, by omega, by omega, mA, V.lies_keep (fun h => h) (fun y hy => ho y (by have := hS y hy; omega)) (fun _ h => h) _ hl6⟩
   generalize ((((((w6.setCell ⟨w.heap.size + 5, 0, none⟩ (.int .i64 ek)).setCell ⟨w.heap.size + 5, 1, none⟩ (.bool eb)).setCell ⟨w.heap.size + 5, 2, none⟩ (.int .i64 ei)).setCell ⟨w.heap.size + 5, 3, none⟩ (.string es)).setCell ⟨w.heap.size + 5, 4, none⟩ (.slice eal enl ecl)).setCell ⟨w.heap.size + 5, 5, none⟩ (.slice eam enm ecm)) = wm at MM ⊢
  rotate_left 1
  all_goals
   refine hK.out _ _ ⟨(MM.bel.block _ (by omega)).trans h0, (MM.bel.cell (p := ⟨tg_, tof, none⟩) (show tg_ < w.heap.size + 5 by omega)).trans tk5⟩ (fun hHeld => ?_)
   clear hK K
   (try simp only [Act.put, zA, zB, zC])
   (refine tjA 11 ?_; (try simp only [Act.put, zA, zB, zC]))
   (refine tjA 12 ?_; (try simp only [Act.put, zA, zB, zC]))
   refine wpAnyH_done (by kernel_rfl) ?_ _
   (try dsimp only [Act.put, List.getElem_toArray, List.getElem_cons_succ, List.getElem_cons_zero, List.setIfInBounds_toArray, List.set_cons_zero, List.set_cons_succ])
   clear hHeld
   (try go_wp2_with fail)
   go_meet
   case rel => exact ⟨_, _, _, _, _, _, _, _, _, _, _, rfl, rfl, rfl, MM⟩
 case rest =>
  obtain ⟨A, ek, eb, ei, es, eal, enl, ecl, eam, enm, ecm, rfl, rfl, rfl, MM⟩ := hcut
  have BB : Below w.heap.size w wc := B5.trans (MM.bel.mono (by omega))
  have m2 := (MM.bel.block (w.heap.size + 2) (by omega)).trans h2
  have m3 := (MM.bel.block (w.heap.size + 3) (by omega)).trans h3
  have m4 := (MM.bel.block (w.heap.size + 4) (by omega)).trans h4
  obtain ⟨z0, z1, z2, z3, z4, z5⟩ := sixC m2
  obtain ⟨y0, y1, y2, y3, y4, y5⟩ := sixC m3
  obtain ⟨n0, n1, n2, n3, n4, n5⟩ := sixC m4
  have fz := fBk m2
  have fy := fBk m3
  have n12 : ¬ w.heap.size + 2 = w.heap.size + 3 := by omega
  have n21 : ¬ w.heap.size + 3 = w.heap.size + 2 := by omega
  have HF := hmk (dn_fin (S := S) (x := nullV) (y := nullV) hS BB (by have := MM.bel.size; omega) (null_liesS _ _) (null_liesS _ _))
  have hst : (stpF v t).2.2 = (ledF v t).2 := by rw [stpF, if_neg hl0]
  rw [hst]
  generalize (ledF v t).2 = er at *
  have hb0 : (er != 0) = true := by simpa using hl0
  go_wp2_with fail
  go_region
  go_wp2_with fail
  (try simp only [Exit.inBlock, Exit.then])
  refine bodyPost_ret (v := .tuple #[.agg #[.int .i64 0, .bool false, .int .i64 0, .string ⟨#[]⟩, .slice none 0 0, .slice none 0 0], .agg #[.int .i64 0, .bool false, .int .i64 0, .string ⟨#[]⟩, .slice none 0 0, .slice none 0 0], .int .i64 er]) ?_ rfl ?_
  rotate_left
  ·exact ⟨[.int .i64 0, .bool false, .int .i64 0, .string ⟨#[]⟩, .slice none 0 0, .slice none 0 0], [.int .i64 0, .bool false, .int .i64 0, .string ⟨#[]⟩, .slice none 0 0, .slice none 0 0], rfl, HF.out.1, HF.out.2.1, HF.out.2.2⟩
  ·rw [results_cell2_tmp rfl]
   go_simp
set_option maxHeartbeats 8000000 in
set_option maxRecDepth 100000 in
theorem done_fail_b (v x : V) (S : Nat → Prop) (k : Int) (b : Bool) (i : Int) (s : ByteArray) (al : Option Addr) (nl cl : Nat) (am : Option Addr) (nm cm : Nat) (xk : Int) (xb : Bool) (xi : Int) (xs : ByteArray) (xal : Option Addr) (xnl xcl : Nat) (xam : Option Addr) (xnm xcm : Nat) (t : ByteArray) (tg_ tof tc : Nat) (w : World) (hv : v.lies false w S [.int .i64 k, .bool b, .int .i64 i, .string s, .slice al nl cl, .slice am nm cm]) (hx : x.lies false w S [.int .i64 xk, .bool xb, .int .i64 xi, .string xs, .slice xal xnl xcl, .slice xam xnm xcm]) (hS : ∀ b, S b → b < w.heap.size) (htg : tg_ < w.heap.size) (htok : w.cell? ⟨tg_, tof, none⟩ = some (.string t)) (hts : t.size ≤ 281474976710656) (hwt : v.wt ≤ 1114112) (hsr : Srt (memsOf v)) (what : Int) (hw2 : ¬ what = 2) (htc : 1 ≤ tc) (hl0 : ¬ (ledF v t).2 = 0) :
 Calls Tryz.prog 28 #[.int .i64 what, .agg #[.int .i64 k, .bool b, .int .i64 i, .string s, .slice al nl cl, .slice am nm cm], .slice (some ⟨tg_, tof, none⟩) 1 tc, .agg #[.int .i64 xk, .bool xb, .int .i64 xi, .string xs, .slice xal xnl xcl, .slice xam xnm xcm]] w (DnPost (nullV, nullV, (ledF v t).2) S w) := by
 have HCS : Hid (∀ W, Below w.heap.size w W → Calls Tryz.prog 43 #[.agg #[.int .i64 k, .bool b, .int .i64 i, .string s, .slice al nl cl, .slice am nm cm], .string t] W (SpPost (stpF v t) S W)) := fun W hb => step_any v t S _ W (lBw hv hS hb) (fun y hy => Nat.lt_of_lt_of_le (hS y hy) hb.size) hwt hsr
 have HV : Hid (∀ W, Below w.heap.size w W → v.lies false W S [.int .i64 k, .bool b, .int .i64 i, .string s, .slice al nl cl, .slice am nm cm]) := fun W hb => lBw hv hS hb
 have HX : Hid (∀ W, Below w.heap.size w W → x.lies false W S [.int .i64 xk, .bool xb, .int .i64 xi, .string xs, .slice xal xnl xcl, .slice xam xnm xcm]) := fun W hb => lBw hx hS hb
 have b2 : Below w.heap.size w ((w.alloc (oV k b i s al nl cl am nm cm)).alloc (oV xk xb xi xs xal xnl xcl xam xnm xcm)) := tBw w _ _
 have hz2 : ((w.alloc (oV k b i s al nl cl am nm cm)).alloc (oV xk xb xi xs xal xnl xcl xam xnm xcm)).heap.size = w.heap.size + 2 := by rw [aSz, aSz]
 have hz2 := hz2; dsimp only [oV, oN] at hz2
 have b4 : Below ((w.alloc (oV k b i s al nl cl am nm cm)).alloc (oV xk xb xi xs xal xnl xcl xam xnm xcm)).heap.size ((w.alloc (oV k b i s al nl cl am nm cm)).alloc (oV xk xb xi xs xal xnl xcl xam xnm xcm)) ((((w.alloc (oV k b i s al nl cl am nm cm)).alloc (oV xk xb xi xs xal xnl xcl xam xnm xcm)).alloc oN).alloc oN) := tBw _ _ _
 have hz4 : ((((w.alloc (oV k b i s al nl cl am nm cm)).alloc (oV xk xb xi xs xal xnl xcl xam xnm xcm)).alloc oN).alloc oN).heap.size = w.heap.size + 4 := by rw [aSz, aSz, hz2]
 have hz4 := hz4; dsimp only [oV, oN] at hz4
 have b5 : Below ((((w.alloc (oV k b i s al nl cl am nm cm)).alloc (oV xk xb xi xs xal xnl xcl xam xnm xcm)).alloc oN).alloc oN).heap.size ((((w.alloc (oV k b i s al nl cl am nm cm)).alloc (oV xk xb xi xs xal xnl xcl xam xnm xcm)).alloc oN).alloc oN) (((((w.alloc (oV k b i s al nl cl am nm cm)).alloc (oV xk xb xi xs xal xnl xcl xam xnm xcm)).alloc oN).alloc oN).alloc oN) := oBw _ _
 have hz5 : (((((w.alloc (oV k b i s al nl cl am nm cm)).alloc (oV xk xb xi xs xal xnl xcl xam xnm xcm)).alloc oN).alloc oN).alloc oN).heap.size = w.heap.size + 5 := by rw [aSz, hz4]
 have hz5 := hz5; dsimp only [oV, oN] at hz5
 have b25 : Below ((w.alloc (oV k b i s al nl cl am nm cm)).alloc (oV xk xb xi xs xal xnl xcl xam xnm xcm)).heap.size ((w.alloc (oV k b i s al nl cl am nm cm)).alloc (oV xk xb xi xs xal xnl xcl xam xnm xcm)) (((((w.alloc (oV k b i s al nl cl am nm cm)).alloc (oV xk xb xi xs xal xnl xcl xam xnm xcm)).alloc oN).alloc oN).alloc oN) := b4.trans (b5.mono (by omega))
 have B5 : Below w.heap.size w (((((w.alloc (oV k b i s al nl cl am nm cm)).alloc (oV xk xb xi xs xal xnl xcl xam xnm xcm)).alloc oN).alloc oN).alloc oN) := five_below w _ _ _ _ _
 have h0 := (b25.block w.heap.size (by omega)).trans (a2k w (oV k b i s al nl cl am nm cm) (oV xk xb xi xs xal xnl xcl xam xnm xcm))
 have h1 := (b25.block (w.heap.size + 1) (by omega)).trans (a2n w (oV k b i s al nl cl am nm cm) (oV xk xb xi xs xal xnl xcl xam xnm xcm))
 have q2 := a2k ((w.alloc (oV k b i s al nl cl am nm cm)).alloc (oV xk xb xi xs xal xnl xcl xam xnm xcm)) oN oN
 rw [hz2] at q2
 have h2 := (b5.block (w.heap.size + 2) (by omega)).trans q2
 have q3 := a2n ((w.alloc (oV k b i s al nl cl am nm cm)).alloc (oV xk xb xi xs xal xnl xcl xam xnm xcm)) oN oN
 rw [hz2] at q3
 have h3 := (b5.block (w.heap.size + 3) (by omega)).trans q3
 have h4 := heap_alloc_new ((((w.alloc (oV k b i s al nl cl am nm cm)).alloc (oV xk xb xi xs xal xnl xcl xam xnm xcm)).alloc oN).alloc oN) oN
 rw [hz4] at h4
 have tk5 := (B5.cell (p := ⟨tg_, tof, none⟩) htg).trans htok
 clear b2 b4 b5 b25 hz2 hz4 q2 q3
 have yw2 : (what == 2) = false := by simpa using hw2
 clear hv hx
 go_enter Tryz.func28, Tryz.ntmps28
 go_wp2_with fail
 generalize (((((w.alloc (oV k b i s al nl cl am nm cm)).alloc (oV xk xb xi xs xal xnl xcl xam xnm xcm)).alloc oN).alloc oN).alloc oN) = w5 at *
 go_cut [14, 15, 16] (fun e14 e15 e16 wx => ∃ (A : Nat) (ek : Int) (eb : Bool) (ei : Int) (es : ByteArray) (eal : Option Addr) (enl ecl : Nat) (eam : Option Addr) (enm ecm : Nat), e14 = .pointer (some ⟨A, 0, none⟩) ∧ e15 = .int .i64 ((stpF v t).2.1 : Int) ∧ e16 = .int .i64 (stpF v t).2.2 ∧ StpMid S w w5 wx (stpF v t).1 A ek eb ei es eal enl ecl eam enm ecm)
 case first =>
  refine wp_region_held_drew (S := (fun W => W.heap[w.heap.size]? = some (oV k b i s al nl cl am nm cm) ∧ W.cell? ⟨tg_, tof, none⟩ = some (.string t))) (by kernel_rfl) ⟨h0, tk5⟩ (fun hHeld => ?_)
  (refine tkA 0 ?_ ?_ ?_; rotate_left 1; (intro W0 hSw; (have o0 : W0.cell? ⟨w.heap.size, 0, none⟩ = some (.int .i64 k) := (by rw [cBk hSw.1]; rfl); have o1 : W0.cell? ⟨w.heap.size, 1, none⟩ = some (.bool b) := (by rw [cBk hSw.1]; rfl); have o2 : W0.cell? ⟨w.heap.size, 2, none⟩ = some (.int .i64 i) := (by rw [cBk hSw.1]; rfl); have o3 : W0.cell? ⟨w.heap.size, 3, none⟩ = some (.string s) := (by rw [cBk hSw.1]; rfl); have o4 : W0.cell? ⟨w.heap.size, 4, none⟩ = some (.slice al nl cl) := (by rw [cBk hSw.1]; rfl); have o5 : W0.cell? ⟨w.heap.size, 5, none⟩ = some (.slice am nm cm) := (by rw [cBk hSw.1]; rfl)); go_simp; (try with_reducible rfl)); (try simp only [Act.put, zA, zB, zC]))
  (refine tjA 1 ?_; (try simp only [Act.put, zA, zB, zC]))
  (refine tjA 2 ?_; (try simp only [Act.put, zA, zB, zC]))
  (refine tkA 3 ?_ ?_ ?_; rotate_left 1; (intro W0 hSw; (have o9 := hSw.2); go_simp; (try with_reducible rfl)); (try simp only [Act.put, zA, zB, zC]))
  refine ryA [4, 9] ?_
  refine rA2 (fun K hK => ?_) fun K hK => ?_
  focus
   skip
   go_simp
   refine (HCS.out w5.drew (B5.drew)).mono ?_
   rintro e w6 ⟨cs_, rfl, hl6, b6⟩
   obtain ⟨ek, eb, ei, es, eal, enl, ecl, eam, enm, ecm, rfl⟩ := V.ten hl6
   replace b6 : Below w5.heap.size w5 w6 := (Below.refl _ w5).drew.trans b6
   have hz6 := b6.size
   have t0 := (b6.block w.heap.size (by omega)).trans h0
   have tt := (b6.cell (p := ⟨tg_, tof, none⟩) (show tg_ < w5.heap.size by omega)).trans tk5
   refine hK.out _ _ ⟨t0, tt⟩ (fun hHeld => ?_)
   clear hK K
   (try simp only [Act.put, zA, zB, zC])
   (refine tjA 5 ?_; (try simp only [Act.put, zA, zB, zC]))
   (refine tjA 6 ?_; (try simp only [Act.put, zA, zB, zC]))
   (refine tjA 7 ?_; (try simp only [Act.put, zA, zB, zC]))
   (refine tjA 8 ?_; (try simp only [Act.put, zA, zB, zC]))
   refine ryA [9] ?_
   refine rA1 fun K hK => ?_
   go_simp
   have bq : Below w6.heap.size w6 (w6.alloc oN) := oBw _ _
   refine hK.out _ _ ⟨(bq.block _ (by omega)).trans t0, (bq.cell (p := ⟨tg_, tof, none⟩) (show tg_ < w6.heap.size by omega)).trans tt⟩ (fun hHeld => ?_)
   clear hK K
   (try simp only [Act.put, zA, zB, zC])
   refine ryA [10] ?_
   refine rA1 fun K hK => ?_
   go_simp
   have br : Below w6.heap.size w6 (w6.alloc (oV ek eb ei es eal enl ecl eam enm ecm)) := oBw _ _
   have MM : StpMid S w w5 (w6.alloc (oV ek eb ei es eal enl ecl eam enm ecm)) (stpF v t).1 w6.heap.size ek eb ei es eal enl ecl eam enm ecm := ⟨(b6.mono (by omega)).trans (br.mono (by omega)), by omega, by rw [aSz]; omega, heap_alloc_new w6 (oV ek eb ei es eal enl ecl eam enm ecm), lBw hl6 (fun y hy => by have := hS y hy; omega) br⟩
   generalize w6.heap.size = A at MM ⊢
   generalize (w6.alloc (oV ek eb ei es eal enl ecl eam enm ecm)) = wm at MM ⊢
  rotate_left 1
  focus
   skip
   have bz : Below w5.heap.size w5 (w5.alloc oN).drew := ((Below.refl _ _).alloc (Nat.le_refl _) _).drew
   have hzd : (w5.alloc oN).drew.heap.size = w5.heap.size + 1 := aSz w5 oN
   have hzd := hzd; dsimp only [oV, oN] at hzd
   have mz : (w5.alloc oN).drew.heap[w.heap.size + 5]? = some oN := by have q := heap_alloc_new w5 oN; rw [hz5] at q; exact q
   go_simp
   refine hK.out _ _ ⟨(bz.block _ (by omega)).trans h0, (bz.cell (p := ⟨tg_, tof, none⟩) (show tg_ < w5.heap.size by omega)).trans tk5⟩ (fun hHeld => ?_)
   clear hK K
   (try simp only [Act.put, zA, zB, zC])
   refine ryA [4] ?_
   refine rA1 fun K hK => ?_
   go_simp
   refine (HCS.out (w5.alloc oN).drew (B5.trans (bz.mono (by omega)))).mono ?_
   rintro e w6 ⟨cs_, rfl, hl6, b6⟩
   obtain ⟨ek, eb, ei, es, eal, enl, ecl, eam, enm, ecm, rfl⟩ := V.ten hl6
   have mz6 := (b6.block (w.heap.size + 5) (by omega)).trans mz
   have hzq := b6.size
   replace b6 : Below w5.heap.size w5 w6 := bz.trans (b6.mono bz.size)
   have hz6 := b6.size
   have t0 := (b6.block w.heap.size (by omega)).trans h0
   have tt := (b6.cell (p := ⟨tg_, tof, none⟩) (show tg_ < w5.heap.size by omega)).trans tk5
   refine hK.out _ _ ⟨t0, tt⟩ (fun hHeld => ?_)
   clear hK K
   (try simp only [Act.put, zA, zB, zC])
   (refine tjA 5 ?_; (try simp only [Act.put, zA, zB, zC]))
   (refine tjA 6 ?_; (try simp only [Act.put, zA, zB, zC]))
   (refine tjA 7 ?_; (try simp only [Act.put, zA, zB, zC]))
   (refine tjA 8 ?_; (try simp only [Act.put, zA, zB, zC]))
   obtain ⟨q0, q1, q2, q3, q4, q5⟩ := sixC mz6
   have fq := fBk mz6
   refine ryA [10] ?_
   refine rA1 fun K hK => ?_
   go_simp
   have mA := box_six mz6 (.int .i64 ek) (.bool eb) (.int .i64 ei) (.string es) (.slice eal enl ecl) (.slice eam enm ecm)
   have ho := six_o w6 (w.heap.size + 5) (.int .i64 ek) (.bool eb) (.int .i64 ei) (.string es) (.slice eal enl ecl) (.slice eam enm ecm)
   have gq : w6.grownBy ((((((w6.setCell ⟨w.heap.size + 5, 0, none⟩ (.int .i64 ek)).setCell ⟨w.heap.size + 5, 1, none⟩ (.bool eb)).setCell ⟨w.heap.size + 5, 2, none⟩ (.int .i64 ei)).setCell ⟨w.heap.size + 5, 3, none⟩ (.string es)).setCell ⟨w.heap.size + 5, 4, none⟩ (.slice eal enl ecl)).setCell ⟨w.heap.size + 5, 5, none⟩ (.slice eam enm ecm)) (some (w.heap.size + 5)) := gSt (gSt (gSt (gSt (gSt (gSt (World.grownBy.refl w6 _) 0 _) 1 _) 2 _) 3 _) 4 _) 5 _
   have sq : ((((((w6.setCell ⟨w.heap.size + 5, 0, none⟩ (.int .i64 ek)).setCell ⟨w.heap.size + 5, 1, none⟩ (.bool eb)).setCell ⟨w.heap.size + 5, 2, none⟩ (.int .i64 ei)).setCell ⟨w.heap.size + 5, 3, none⟩ (.string es)).setCell ⟨w.heap.size + 5, 4, none⟩ (.slice eal enl ecl)).setCell ⟨w.heap.size + 5, 5, none⟩ (.slice eam enm ecm)).heap.size = w6.heap.size := by simp only [sz1]
   have MM : StpMid S w w5 ((((((w6.setCell ⟨w.heap.size + 5, 0, none⟩ (.int .i64 ek)).setCell ⟨w.heap.size + 5, 1, none⟩ (.bool eb)).setCell ⟨w.heap.size + 5, 2, none⟩ (.int .i64 ei)).setCell ⟨w.heap.size + 5, 3, none⟩ (.string es)).setCell ⟨w.heap.size + 5, 4, none⟩ (.slice eal enl ecl)).setCell ⟨w.heap.size + 5, 5, none⟩ (.slice eam enm ecm)) (stpF v t).1 (w.heap.size + 5) ek eb ei es eal enl ecl eam enm ecm := ⟨⟨gq.os.trans b6.os, gq.tape.trans b6.tape, gq.output.trans b6.output, by omega, fun z hz => (ho z (by omega)).trans (b6.block z (by omega))⟩, by omega, by omega, mA, V.lies_keep (fun h => h) (fun y hy => ho y (by have := hS y hy; omega)) (fun _ h => h) _ hl6⟩
   generalize ((((((w6.setCell ⟨w.heap.size + 5, 0, none⟩ (.int .i64 ek)).setCell ⟨w.heap.size + 5, 1, none⟩ (.bool eb)).setCell ⟨w.heap.size + 5, 2, none⟩ (.int .i64 ei)).setCell ⟨w.heap.size + 5, 3, none⟩ (.string es)).setCell ⟨w.heap.size + 5, 4, none⟩ (.slice eal enl ecl)).setCell ⟨w.heap.size + 5, 5, none⟩ (.slice eam enm ecm)) = wm at MM ⊢
  rotate_left 1
  all_goals
   refine hK.out _ _ ⟨(MM.bel.block _ (by omega)).trans h0, (MM.bel.cell (p := ⟨tg_, tof, none⟩) (show tg_ < w.heap.size + 5 by omega)).trans tk5⟩ (fun hHeld => ?_)
   clear hK K
   (try simp only [Act.put, zA, zB, zC])
   (refine tjA 11 ?_; (try simp only [Act.put, zA, zB, zC]))
   (refine tjA 12 ?_; (try simp only [Act.put, zA, zB, zC]))
   refine wpAnyH_done (by kernel_rfl) ?_ _
   (try dsimp only [Act.put, List.getElem_toArray, List.getElem_cons_succ, List.getElem_cons_zero, List.setIfInBounds_toArray, List.set_cons_zero, List.set_cons_succ])
   clear hHeld
   (try go_wp2_with fail)
   go_meet
   case rel => exact ⟨_, _, _, _, _, _, _, _, _, _, _, rfl, rfl, rfl, MM⟩
 case rest =>
  obtain ⟨A, ek, eb, ei, es, eal, enl, ecl, eam, enm, ecm, rfl, rfl, rfl, MM⟩ := hcut
  have BB : Below w.heap.size w wc := B5.trans (MM.bel.mono (by omega))
  have m2 := (MM.bel.block (w.heap.size + 2) (by omega)).trans h2
  have m3 := (MM.bel.block (w.heap.size + 3) (by omega)).trans h3
  have m4 := (MM.bel.block (w.heap.size + 4) (by omega)).trans h4
  obtain ⟨z0, z1, z2, z3, z4, z5⟩ := sixC m2
  obtain ⟨y0, y1, y2, y3, y4, y5⟩ := sixC m3
  obtain ⟨n0, n1, n2, n3, n4, n5⟩ := sixC m4
  have fz := fBk m2
  have fy := fBk m3
  have n12 : ¬ w.heap.size + 2 = w.heap.size + 3 := by omega
  have n21 : ¬ w.heap.size + 3 = w.heap.size + 2 := by omega
  have HF := hmk (dn_fin (S := S) (x := nullV) (y := nullV) hS BB (by have := MM.bel.size; omega) (null_liesS _ _) (null_liesS _ _))
  have hst : (stpF v t).2.2 = (ledF v t).2 := by rw [stpF, if_neg hl0]
  rw [hst]
  generalize (ledF v t).2 = er at *
  have hb0 : (er != 0) = true := by simpa using hl0
  go_wp2_with fail
  go_region
  go_wp2_with fail
  (try simp only [Exit.inBlock, Exit.then])
  refine bodyPost_ret (v := .tuple #[.agg #[.int .i64 0, .bool false, .int .i64 0, .string ⟨#[]⟩, .slice none 0 0, .slice none 0 0], .agg #[.int .i64 0, .bool false, .int .i64 0, .string ⟨#[]⟩, .slice none 0 0, .slice none 0 0], .int .i64 er]) ?_ rfl ?_
  rotate_left
  ·exact ⟨[.int .i64 0, .bool false, .int .i64 0, .string ⟨#[]⟩, .slice none 0 0, .slice none 0 0], [.int .i64 0, .bool false, .int .i64 0, .string ⟨#[]⟩, .slice none 0 0, .slice none 0 0], rfl, HF.out.1, HF.out.2.1, HF.out.2.2⟩
  ·rw [results_cell2_tmp rfl]
   go_simp
end Go.Proofs.YtnakligbogkmbaaGreatDoor
