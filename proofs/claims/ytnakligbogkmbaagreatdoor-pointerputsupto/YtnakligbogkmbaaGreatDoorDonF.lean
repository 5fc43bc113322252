import Derived.Test.YtnakligbogkmbaaGreatDoorDonE
set_option linter.unusedSimpArgs false
set_option linter.unusedVariables false
namespace Go.Proofs.YtnakligbogkmbaaGreatDoor
open Go.RowKit Go.Lib
set_option maxHeartbeats 8000000 in
set_option maxRecDepth 100000 in
theorem done_more_b (v x : V) (S : Nat → Prop) (k : Int) (b : Bool) (i : Int) (s : ByteArray) (al : Option Addr) (nl cl : Nat) (am : Option Addr) (nm cm : Nat) (xk : Int) (xb : Bool) (xi : Int) (xs : ByteArray) (xal : Option Addr) (xnl xcl : Nat) (xam : Option Addr) (xnm xcm : Nat) (t : ByteArray) (tg_ tof tc : Nat) (w : World) (hv : v.lies false w S [.int .i64 k, .bool b, .int .i64 i, .string s, .slice al nl cl, .slice am nm cm]) (hx : x.lies false w S [.int .i64 xk, .bool xb, .int .i64 xi, .string xs, .slice xal xnl xcl, .slice xam xnm xcm]) (hS : ∀ b, S b → b < w.heap.size) (htg : tg_ < w.heap.size) (htok : w.cell? ⟨tg_, tof, none⟩ = some (.string t)) (hts : t.size ≤ 281474976710656) (hwt : v.wt ≤ 1114112) (hsr : Srt (memsOf v)) (what : Int) (hw2 : ¬ what = 2) (hw3 : ¬ what = 3) (htc : 1 ≤ tc) (hl0 : (ledF v t).2 = 0) (hj : (ledF v t).1 ≤ 2000000) (R Q : V × V × Int) (hQ : Q = if R.2.2 = 0 then (withR v (ledF v t).1 R.1, R.2.1, 0) else (nullV, nullV, R.2.2)) (IH : ∀ W, Below w.heap.size w W → ∀ cs, (kid v (ledF v t).1).lies false W S cs → Calls Tryz.prog 28 #[.int .i64 what, .agg cs.toArray, .slice (if tc = 1 then some ⟨tg_, tof, none⟩ else some ⟨tg_, tof + 1, none⟩) 0 (tc - 1), .agg #[.int .i64 xk, .bool xb, .int .i64 xi, .string xs, .slice xal xnl xcl, .slice xam xnm xcm]] W (DnPost R S W)) :
 Calls Tryz.prog 28 #[.int .i64 what, .agg #[.int .i64 k, .bool b, .int .i64 i, .string s, .slice al nl cl, .slice am nm cm], .slice (some ⟨tg_, tof, none⟩) 1 tc, .agg #[.int .i64 xk, .bool xb, .int .i64 xi, .string xs, .slice xal xnl xcl, .slice xam xnm xcm]] w (DnPost Q S w) := by
 have HCS : Hid (∀ W, Below w.heap.size w W → Calls Tryz.prog 43 #[.agg #[.int .i64 k, .bool b, .int .i64 i, .string s, .slice al nl cl, .slice am nm cm], .string t] W (SpPost (stpF v t) S W)) := fun W hb => step_any v t S _ W (lBw hv hS hb) (fun y hy => Nat.lt_of_lt_of_le (hS y hy) hb.size) hwt hsr
 have HV : Hid (∀ W, Below w.heap.size w W → v.lies false W S [.int .i64 k, .bool b, .int .i64 i, .string s, .slice al nl cl, .slice am nm cm]) := fun W hb => lBw hv hS hb
 have HX : Hid (∀ W, Below w.heap.size w W → x.lies false W S [.int .i64 xk, .bool xb, .int .i64 xi, .string xs, .slice xal xnl xcl, .slice xam xnm xcm]) := fun W hb => lBw hx hS hb
 have b2 : Below w.heap.size w ((w.alloc (oV k b i s al nl cl am nm cm)).alloc (oV xk xb xi xs xal xnl xcl xam xnm xcm)) := tBw w _ _
 have hz2 : ((w.alloc (oV k b i s al nl cl am nm cm)).alloc (oV xk xb xi xs xal xnl xcl xam xnm xcm)).heap.size = w.heap.size + 2 := by rw [aSz, aSz]
 have hz2 := hz2; dsimp only [oV, oN] at hz2
 have b4 : Below ((w.alloc (oV k b i s al nl cl am nm cm)).alloc (oV xk xb xi xs xal xnl xcl xam xnm xcm)).heap.size ((w.alloc (oV k b i s al nl cl am nm cm)).alloc (oV xk xb xi xs xal xnl xcl xam xnm xcm)) ((((w.alloc (oV k b i s al nl cl am nm cm)).alloc (oV xk xb xi xs xal xnl xcl xam xnm xcm)).alloc oN).alloc oN) := tBw _ _ _
 have hz4 : ((((w.alloc (oV k b i s al nl cl am nm cm)).alloc (oV xk xb xi xs xal xnl xcl xam xnm xcm)).alloc oN).alloc oN).heap.size = w.heap.size + 4 := by rw [aSz, aSz, hz2]
 have hz4 := hz4; dsimp only [oV, oN] at hz4
 have b5 : Below ((((w.alloc (oV k b i s al nl cl am nm cm)).alloc (oV xk xb xi xs xal xnl xcl xam xnm xcm)).alloc oN).alloc oN).heap.size ((((w.alloc (oV k b i s al nl cl am nm cm)).alloc (oV xk xb xi xs xal xnl xcl xam xnm xcm)).alloc oN).alloc oN) (((((w.alloc (oV k b i s al nl cl am nm cm)).alloc (oV xk xb xi xs xal xnl xcl xam xnm xcm)).alloc oN).alloc oN).alloc oN) := oBw _ _
 have hz5 : (((((w.alloc (oV k b i s al nl cl am nm cm)).alloc (oV xk xb xi xs xal xnl xcl xam xnm xcm)).alloc oN).alloc oN).alloc oN).heap.size = w.heap.size + 5 := by rw [aSz, hz4]
 have hz5 := hz5; dsimp only [oV, oN] at hz5
 have b25 : Below ((w.alloc (oV k b i s al nl cl am nm cm)).alloc (oV xk xb xi xs xal xnl xcl xam xnm xcm)).heap.size ((w.alloc (oV k b i s al nl cl am nm cm)).alloc (oV xk xb xi xs xal xnl xcl xam xnm xcm)) (((((w.alloc (oV k b i s al nl cl am nm cm)).alloc (oV xk xb xi xs xal xnl xcl xam xnm xcm)).alloc oN).alloc oN).alloc oN) := b4.trans (b5.mono (by omega))
 have B5 : Below w.heap.size w (((((w.alloc (oV k b i s al nl cl am nm cm)).alloc (oV xk xb xi xs xal xnl xcl xam xnm xcm)).alloc oN).alloc oN).alloc oN) := five_below w _ _ _ _ _
 have h0 := (b25.block w.heap.size (by omega)).trans (a2k w (oV k b i s al nl cl am nm cm) (oV xk xb xi xs xal xnl xcl xam xnm xcm))
 have h1 := (b25.block (w.heap.size + 1) (by omega)).trans (a2n w (oV k b i s al nl cl am nm cm) (oV xk xb xi xs xal xnl xcl xam xnm xcm))
 have q2 := a2k ((w.alloc (oV k b i s al nl cl am nm cm)).alloc (oV xk xb xi xs xal xnl xcl xam xnm xcm)) oN oN
 rw [hz2] at q2
 have h2 := (b5.block (w.heap.size + 2) (by omega)).trans q2
 have q3 := a2n ((w.alloc (oV k b i s al nl cl am nm cm)).alloc (oV xk xb xi xs xal xnl xcl xam xnm xcm)) oN oN
 rw [hz2] at q3
 have h3 := (b5.block (w.heap.size + 3) (by omega)).trans q3
 have h4 := heap_alloc_new ((((w.alloc (oV k b i s al nl cl am nm cm)).alloc (oV xk xb xi xs xal xnl xcl xam xnm xcm)).alloc oN).alloc oN) oN
 rw [hz4] at h4
 have tk5 := (B5.cell (p := ⟨tg_, tof, none⟩) htg).trans htok
 clear b2 b4 b5 b25 hz2 hz4 q2 q3
 have yw2 : (what == 2) = false := by simpa using hw2
 obtain ⟨TA, hTA⟩ : ∃ TA, (if tc = 1 then some ⟨tg_, tof, none⟩ else some ⟨tg_, tof + 1, none⟩ : Option Addr) = TA := ⟨_, rfl⟩
 rw [hTA] at IH
 have HI := hmk IH
 have HQ := hmk hQ
 clear IH hQ
 have yt3 : (1 : Int) ≤ (tc : Int) := by omega
 have yw3 : (what == 3) = false := by simpa using hw3
 clear hv hx
 go_enter Tryz.func28, Tryz.ntmps28
 go_wp2_with fail
 generalize (((((w.alloc (oV k b i s al nl cl am nm cm)).alloc (oV xk xb xi xs xal xnl xcl xam xnm xcm)).alloc oN).alloc oN).alloc oN) = w5 at *
 go_cut [14, 15, 16] (fun e14 e15 e16 wx => ∃ (A : Nat) (ek : Int) (eb : Bool) (ei : Int) (es : ByteArray) (eal : Option Addr) (enl ecl : Nat) (eam : Option Addr) (enm ecm : Nat), e14 = .pointer (some ⟨A, 0, none⟩) ∧ e15 = .int .i64 ((stpF v t).2.1 : Int) ∧ e16 = .int .i64 (stpF v t).2.2 ∧ StpMid S w w5 wx (stpF v t).1 A ek eb ei es eal enl ecl eam enm ecm)
 case first =>
  refine wp_region_held_drew (S := (fun W => W.heap[w.heap.size]? = some (oV k b i s al nl cl am nm cm) ∧ W.cell? ⟨tg_, tof, none⟩ = some (.string t))) (by kernel_rfl) ⟨h0, tk5⟩ (fun hHeld => ?_)
  (refine tkA 0 ?_ ?_ ?_; rotate_left 1; (intro W0 hSw; (have o0 : W0.cell? ⟨w.heap.size, 0, none⟩ = some (.int .i64 k) := (by rw [cBk hSw.1]; rfl); have o1 : W0.cell? ⟨w.heap.size, 1, none⟩ = some (.bool b) := (by rw [cBk hSw.1]; rfl); have o2 : W0.cell? ⟨w.heap.size, 2, none⟩ = some (.int .i64 i) := (by rw [cBk hSw.1]; rfl); have o3 : W0.cell? ⟨w.heap.size, 3, none⟩ = some (.string s) := (by rw [cBk hSw.1]; rfl); have o4 : W0.cell? ⟨w.heap.size, 4, none⟩ = some (.slice al nl cl) := (by rw [cBk hSw.1]; rfl); have o5 : W0.cell? ⟨w.heap.size, 5, none⟩ = some (.slice am nm cm) := (by rw [cBk hSw.1]; rfl)); go_simp; (try with_reducible rfl)); (try simp only [Act.put, zA, zB, zC]))
  (refine tjA 1 ?_; (try simp only [Act.put, zA, zB, zC]))
  (refine tjA 2 ?_; (try simp only [Act.put, zA, zB, zC]))
  (refine tkA 3 ?_ ?_ ?_; rotate_left 1; (intro W0 hSw; (have o9 := hSw.2); go_simp; (try with_reducible rfl)); (try simp only [Act.put, zA, zB, zC]))
  refine ryA [4, 9] ?_
  refine rA2 (fun K hK => ?_) fun K hK => ?_
  focus
   skip
   go_simp
   refine (HCS.out w5.drew (B5.drew)).mono ?_
   rintro e w6 ⟨cs_, rfl, hl6, b6⟩
   obtain ⟨ek, eb, ei, es, eal, enl, ecl, eam, enm, ecm, rfl⟩ := V.ten hl6
   replace b6 : Below w5.heap.size w5 w6 := (Below.refl _ w5).drew.trans b6
   have hz6 := b6.size
   have t0 := (b6.block w.heap.size (by omega)).trans h0
   have tt := (b6.cell (p := ⟨tg_, tof, none⟩) (show tg_ < w5.heap.size by omega)).trans tk5
   refine hK.out _ _ ⟨t0, tt⟩ (fun hHeld => ?_)
   clear hK K
   (try simp only [Act.put, zA, zB, zC])
   (refine tjA 5 ?_; (try simp only [Act.put, zA, zB, zC]))
   (refine tjA 6 ?_; (try simp only [Act.put, zA, zB, zC]))
   (refine tjA 7 ?_; (try simp only [Act.put, zA, zB, zC]))
   (refine tjA 8 ?_; (try simp only [Act.put, zA, zB, zC]))
   refine ryA [9] ?_
   refine rA1 fun K hK => ?_
   go_simp
   have bq : Below w6.heap.size w6 (w6.alloc oN) := oBw _ _
   refine hK.out _ _ ⟨(bq.block _ (by omega)).trans t0, (bq.cell (p := ⟨tg_, tof, none⟩) (show tg_ < w6.heap.size by omega)).trans tt⟩ (fun hHeld => ?_)
   clear hK K
   (try simp only [Act.put, zA, zB, zC])
   refine ryA [10] ?_
   refine rA1 fun K hK => ?_
   go_simp
   have br : Below w6.heap.size w6 (w6.alloc (oV ek eb ei es eal enl ecl eam enm ecm)) := oBw _ _
   have MM : StpMid S w w5 (w6.alloc (oV ek eb ei es eal enl ecl eam enm ecm)) (stpF v t).1 w6.heap.size ek eb ei es eal enl ecl eam enm ecm := ⟨(b6.mono (by omega)).trans (br.mono (by omega)), by omega, by rw [aSz]; omega, heap_alloc_new w6 (oV ek eb ei es eal enl ecl eam enm ecm), lBw hl6 (fun y hy => by have := hS y hy; omega) br⟩
   generalize w6.heap.size = A at MM ⊢
   generalize (w6.alloc (oV ek eb ei es eal enl ecl eam enm ecm)) = wm at MM ⊢
  rotate_left 1
  focus
   skip
   have bz : Below w5.heap.size w5 (w5.alloc oN).drew := ((Below.refl _ _).alloc (Nat.le_refl _) _).drew
   have hzd : (w5.alloc oN).drew.heap.size = w5.heap.size + 1 := aSz w5 oN
   have hzd := hzd; dsimp only [oV, oN] at hzd
   have mz : (w5.alloc oN).drew.heap[w.heap.size + 5]? = some oN := by have q := heap_alloc_new w5 oN; rw [hz5] at q; exact q
   go_simp
   refine hK.out _ _ ⟨(bz.block _ (by omega)).trans h0, (bz.cell (p := ⟨tg_, tof, none⟩) (show tg_ < w5.heap.size by omega)).trans tk5⟩ (fun hHeld => ?_)
   clear hK K
   (try simp only [Act.put, zA, zB, zC])
   refine ryA [4] ?_
   refine rA1 fun K hK => ?_
   go_simp
   refine (HCS.out (w5.alloc oN).drew (B5.trans (bz.mono (by omega)))).mono ?_
   rintro e w6 ⟨cs_, rfl, hl6, b6⟩
   obtain ⟨ek, eb, ei, es, eal, enl, ecl, eam, enm, ecm, rfl⟩ := V.ten hl6
   have mz6 := (b6.block (w.heap.size + 5) (by omega)).trans mz
   have hzq := b6.size
   replace b6 : Below w5.heap.size w5 w6 := bz.trans (b6.mono bz.size)
   have hz6 := b6.size
   have t0 := (b6.block w.heap.size (by omega)).trans h0
   have tt := (b6.cell (p := ⟨tg_, tof, none⟩) (show tg_ < w5.heap.size by omega)).trans tk5
   refine hK.out _ _ ⟨t0, tt⟩ (fun hHeld => ?_)
   clear hK K
   (try simp only [Act.put, zA, zB, zC])
   (refine tjA 5 ?_; (try simp only [Act.put, zA, zB, zC]))
   (refine tjA 6 ?_; (try simp only [Act.put, zA, zB, zC]))
   (refine tjA 7 ?_; (try simp only [Act.put, zA, zB, zC]))
   (refine tjA 8 ?_; (try simp only [Act.put, zA, zB, zC]))
   obtain ⟨q0, q1, q2, q3, q4, q5⟩ := sixC mz6
   have fq := fBk mz6
   refine ryA [10] ?_
   refine rA1 fun K hK => ?_
   go_simp
   have mA := box_six mz6 (.int .i64 ek) (.bool eb) (.int .i64 ei) (.string es) (.slice eal enl ecl) (.slice eam enm ecm)
   have ho := six_o w6 (w.heap.size + 5) (.int .i64 ek) (.bool eb) (.int .i64 ei) (.string es) (.slice eal enl ecl) (.slice eam enm ecm)
   have gq : w6.grownBy ((((((w6.setCell ⟨w.heap.size + 5, 0, none⟩ (.int .i64 ek)).setCell ⟨w.heap.size + 5, 1, none⟩ (.bool eb)).setCell ⟨w.heap.size + 5, 2, none⟩ (.int .i64 ei)).setCell ⟨w.heap.size + 5, 3, none⟩ (.string es)).setCell ⟨w.heap.size + 5, 4, none⟩ (.slice eal enl ecl)).setCell ⟨w.heap.size + 5, 5, none⟩ (.slice eam enm ecm)) (some (w.heap.size + 5)) := gSt (gSt (gSt (gSt (gSt (gSt (World.grownBy.refl w6 _) 0 _) 1 _) 2 _) 3 _) 4 _) 5 _
   have sq : ((((((w6.setCell ⟨w.heap.size + 5, 0, none⟩ (.int .i64 ek)).setCell ⟨w.heap.size + 5, 1, none⟩ (.bool eb)).setCell ⟨w.heap.size + 5, 2, none⟩ (.int .i64 ei)).setCell ⟨w.heap.size + 5, 3, none⟩ (.string es)).setCell ⟨w.heap.size + 5, 4, none⟩ (.slice eal enl ecl)).setCell ⟨w.heap.size + 5, 5, none⟩ (.slice eam enm ecm)).heap.size = w6.heap.size := by simp only [sz1]
   have MM : StpMid S w w5 ((((((w6.setCell ⟨w.heap.size + 5, 0, none⟩ (.int .i64 ek)).setCell ⟨w.heap.size + 5, 1, none⟩ (.bool eb)).setCell ⟨w.heap.size + 5, 2, none⟩ (.int .i64 ei)).setCell ⟨w.heap.size + 5, 3, none⟩ (.string es)).setCell ⟨w.heap.size + 5, 4, none⟩ (.slice eal enl ecl)).setCell ⟨w.heap.size + 5, 5, none⟩ (.slice eam enm ecm)) (stpF v t).1 (w.heap.size + 5) ek eb ei es eal enl ecl eam enm ecm := ⟨⟨gq.os.trans b6.os, gq.tape.trans b6.tape, gq.output.trans b6.output, by omega, fun z hz => (ho z (by omega)).trans (b6.block z (by omega))⟩, by omega, by omega, mA, V.lies_keep (fun h => h) (fun y hy => ho y (by have := hS y hy; omega)) (fun _ h => h) _ hl6⟩
   generalize ((((((w6.setCell ⟨w.heap.size + 5, 0, none⟩ (.int .i64 ek)).setCell ⟨w.heap.size + 5, 1, none⟩ (.bool eb)).setCell ⟨w.heap.size + 5, 2, none⟩ (.int .i64 ei)).setCell ⟨w.heap.size + 5, 3, none⟩ (.string es)).setCell ⟨w.heap.size + 5, 4, none⟩ (.slice eal enl ecl)).setCell ⟨w.heap.size + 5, 5, none⟩ (.slice eam enm ecm)) = wm at MM ⊢
  rotate_left 1
  all_goals
   refine hK.out _ _ ⟨(MM.bel.block _ (by omega)).trans h0, (MM.bel.cell (p := ⟨tg_, tof, none⟩) (show tg_ < w.heap.size + 5 by omega)).trans tk5⟩ (fun hHeld => ?_)
   clear hK K
   (try simp only [Act.put, zA, zB, zC])
   (refine tjA 11 ?_; (try simp only [Act.put, zA, zB, zC]))
   (refine tjA 12 ?_; (try simp only [Act.put, zA, zB, zC]))
   refine wpAnyH_done (by kernel_rfl) ?_ _
   (try dsimp only [Act.put, List.getElem_toArray, List.getElem_cons_succ, List.getElem_cons_zero, List.setIfInBounds_toArray, List.set_cons_zero, List.set_cons_succ])
   clear hHeld
   (try go_wp2_with fail)
   go_meet
   case rel => exact ⟨_, _, _, _, _, _, _, _, _, _, _, rfl, rfl, rfl, MM⟩
 case rest =>
  obtain ⟨A, ek, eb, ei, es, eal, enl, ecl, eam, enm, ecm, rfl, rfl, rfl, MM⟩ := hcut
  have hst : stpF v t = (kid v (ledF v t).1, (ledF v t).1, 0) := by rw [stpF, if_pos hl0]
  rw [hst] at MM ⊢
  clear hst
  generalize kid v (ledF v t).1 = ky at *
  generalize (ledF v t).1 = j at *
  have hzc := MM.bel.size
  have hAlo := MM.lo
  have hAhi := MM.hi
  have BB : Below w.heap.size w wc := B5.trans (MM.bel.mono (by omega))
  have m0 := (MM.bel.block w.heap.size (by omega)).trans h0
  have m1 := (MM.bel.block (w.heap.size + 1) (by omega)).trans h1
  go_wp2_with fail
  go_cut [17, 18, 19] (fun e17 e18 e19 wx => ∃ (A17 A18 : Nat) (gk : Int) (gb : Bool) (gi : Int) (gs : ByteArray) (gal : Option Addr) (gnl gcl : Nat) (gam : Option Addr) (gnm gcm : Nat) (fk : Int) (fb : Bool) (fi : Int) (fs : ByteArray) (fal : Option Addr) (fnl fcl : Nat) (fam : Option Addr) (fnm fcm : Nat), e17 = .pointer (some ⟨A17, 0, none⟩) ∧ e18 = .pointer (some ⟨A18, 0, none⟩) ∧ e19 = .int .i64 R.2.2 ∧ RecMid S w wc wx R A17 A18 gk gb gi gs gal gnl gcl gam gnm gcm fk fb fi fs fal fnl fcl fam fnm fcm)
  case first =>
   refine wp_region_held_drew (S := (fun W => W.heap[A]? = some (oV ek eb ei es eal enl ecl eam enm ecm) ∧ W.heap[w.heap.size + 1]? = some (oV xk xb xi xs xal xnl xcl xam xnm xcm))) (by kernel_rfl) ⟨MM.box, m1⟩ (fun hHeld => ?_)
   (refine tjA 0 ?_; (try simp only [Act.put, zA, zB, zC]))
   (refine tkA 1 ?_ ?_ ?_; rotate_left 1; (intro W0 hSw; (have o0 : W0.cell? ⟨A, 0, none⟩ = some (.int .i64 ek) := (by rw [cBk hSw.1]; rfl); have o1 : W0.cell? ⟨A, 1, none⟩ = some (.bool eb) := (by rw [cBk hSw.1]; rfl); have o2 : W0.cell? ⟨A, 2, none⟩ = some (.int .i64 ei) := (by rw [cBk hSw.1]; rfl); have o3 : W0.cell? ⟨A, 3, none⟩ = some (.string es) := (by rw [cBk hSw.1]; rfl); have o4 : W0.cell? ⟨A, 4, none⟩ = some (.slice eal enl ecl) := (by rw [cBk hSw.1]; rfl); have o5 : W0.cell? ⟨A, 5, none⟩ = some (.slice eam enm ecm) := (by rw [cBk hSw.1]; rfl)); go_simp; (try with_reducible rfl)); (try simp only [Act.put, zA, zB, zC]))
   (refine tjA 2 ?_; (try simp only [Act.put, zA, zB, zC]))
   (refine tjA 3 ?_; (try simp only [Act.put, zA, zB, zC]))
   (refine tkA 4 ?_ ?_ ?_; rotate_left 1; (intro W0 hSw; (have o0 : W0.cell? ⟨w.heap.size + 1, 0, none⟩ = some (.int .i64 xk) := (by rw [cBk hSw.2]; rfl); have o1 : W0.cell? ⟨w.heap.size + 1, 1, none⟩ = some (.bool xb) := (by rw [cBk hSw.2]; rfl); have o2 : W0.cell? ⟨w.heap.size + 1, 2, none⟩ = some (.int .i64 xi) := (by rw [cBk hSw.2]; rfl); have o3 : W0.cell? ⟨w.heap.size + 1, 3, none⟩ = some (.string xs) := (by rw [cBk hSw.2]; rfl); have o4 : W0.cell? ⟨w.heap.size + 1, 4, none⟩ = some (.slice xal xnl xcl) := (by rw [cBk hSw.2]; rfl); have o5 : W0.cell? ⟨w.heap.size + 1, 5, none⟩ = some (.slice xam xnm xcm) := (by rw [cBk hSw.2]; rfl)); go_simp; (try with_reducible rfl)); (try simp only [Act.put, zA, zB, zC]))
   (try rw [hTA])
   refine ryA [5, 10, 11] ?_
   refine rA3 (fun K hK => ?_) (fun K hK => ?_) fun K hK => ?_
   focus
    skip
    go_simp
    refine (HI.out wc.drew (BB.drew) _ (V.lies_keep (w := wc) (w' := wc.drew) (fun h => h) (fun y hy => rfl) (fun _ h => h) _ MM.lies)).mono ?_
    rintro e wz1 ⟨cs1, cs2, rfl, hl1, hl2, b7⟩
    obtain ⟨gk, gb, gi, gs, gal, gnl, gcl, gam, gnm, gcm, rfl⟩ := V.ten hl1
    obtain ⟨fk, fb, fi, fs, fal, fnl, fcl, fam, fnm, fcm, rfl⟩ := V.ten hl2
    have hltwz1 : wc.heap.size ≤ wz1.heap.size := b7.size
    have Bwz1 : Below wc.heap.size wc wz1 := (Below.refl _ wc).drew.trans b7
    have l1wz1 : R.1.lies false wz1 (fun y => S y ∨ (wc.heap.size ≤ y ∧ y < wz1.heap.size)) [.int .i64 gk, .bool gb, .int .i64 gi, .string gs, .slice gal gnl gcl, .slice gam gnm gcm] := hl1
    have l2wz1 : R.2.1.lies false wz1 (fun y => S y ∨ (wc.heap.size ≤ y ∧ y < wz1.heap.size)) [.int .i64 fk, .bool fb, .int .i64 fi, .string fs, .slice fal fnl fcl, .slice fam fnm fcm] := hl2
    refine hK.out _ _ ⟨(Bwz1.block A hAhi).trans MM.box, (Bwz1.block _ (by omega)).trans m1⟩ (fun hHeld => ?_)
    clear hK K hl1 hl2 b7
    (try simp only [Act.put, zA, zB, zC])
    (refine tjA 6 ?_; (try simp only [Act.put, zA, zB, zC]))
    (refine tjA 7 ?_; (try simp only [Act.put, zA, zB, zC]))
    (refine tjA 8 ?_; (try simp only [Act.put, zA, zB, zC]))
    (refine tjA 9 ?_; (try simp only [Act.put, zA, zB, zC]))
    refine ryA [10, 11] ?_
    refine rA2 (fun K hK => ?_) fun K hK => ?_
    focus
     skip
     have bz : Below wz1.heap.size wz1 (wz1.alloc oN) := (Below.refl _ _).alloc (Nat.le_refl _) _
     have hltwz2 : wz1.heap.size < (wz1.alloc oN).heap.size := by rw [aSz]; omega
     have hltwz2 := hltwz2; dsimp only [oV, oN] at hltwz2
     have m17wz2 : (wz1.alloc oN).heap[wz1.heap.size]? = some oN := heap_alloc_new wz1 oN
     have Bwz2 : Below wc.heap.size wc (wz1.alloc oN) := Bwz1.trans (bz.mono (by omega))
     have l1wz2 : R.1.lies false (wz1.alloc oN) (fun y => S y ∨ (wc.heap.size ≤ y ∧ y < wz1.heap.size)) [.int .i64 gk, .bool gb, .int .i64 gi, .string gs, .slice gal gnl gcl, .slice gam gnm gcm] := V.lies_keep (fun h => h) (fun y hy => bz.block y (hy.elim (fun hy => by have := hS y hy; omega) (fun hy => by omega))) (fun _ h => h) _ l1wz1
     have l2wz2 : R.2.1.lies false (wz1.alloc oN) (fun y => S y ∨ (wc.heap.size ≤ y ∧ y < wz1.heap.size)) [.int .i64 fk, .bool fb, .int .i64 fi, .string fs, .slice fal fnl fcl, .slice fam fnm fcm] := V.lies_keep (fun h => h) (fun y hy => bz.block y (hy.elim (fun hy => by have := hS y hy; omega) (fun hy => by omega))) (fun _ h => h) _ l2wz1
     go_simp
     refine hK.out _ _ ⟨(Bwz2.block A hAhi).trans MM.box, (Bwz2.block _ (by omega)).trans m1⟩ (fun hHeld => ?_)
     clear hK K bz
     (try simp only [Act.put, zA, zB, zC])
     generalize (wz1.alloc oN) = wz2 at *
     refine ryA [11] ?_
     refine rA1 fun K hK => ?_
     focus
      skip
      have bz : Below wz2.heap.size wz2 (wz2.alloc oN) := (Below.refl _ _).alloc (Nat.le_refl _) _
      have hltwz3 : wz2.heap.size < (wz2.alloc oN).heap.size := by rw [aSz]; omega
      have hltwz3 := hltwz3; dsimp only [oV, oN] at hltwz3
      have m18wz3 : (wz2.alloc oN).heap[wz2.heap.size]? = some oN := heap_alloc_new wz2 oN
      have m17wz3 := (bz.block wz1.heap.size (by omega)).trans m17wz2
      have Bwz3 : Below wc.heap.size wc (wz2.alloc oN) := Bwz2.trans (bz.mono (by omega))
      have l1wz3 : R.1.lies false (wz2.alloc oN) (fun y => S y ∨ (wc.heap.size ≤ y ∧ y < wz1.heap.size)) [.int .i64 gk, .bool gb, .int .i64 gi, .string gs, .slice gal gnl gcl, .slice gam gnm gcm] := V.lies_keep (fun h => h) (fun y hy => bz.block y (hy.elim (fun hy => by have := hS y hy; omega) (fun hy => by omega))) (fun _ h => h) _ l1wz2
      have l2wz3 : R.2.1.lies false (wz2.alloc oN) (fun y => S y ∨ (wc.heap.size ≤ y ∧ y < wz1.heap.size)) [.int .i64 fk, .bool fb, .int .i64 fi, .string fs, .slice fal fnl fcl, .slice fam fnm fcm] := V.lies_keep (fun h => h) (fun y hy => bz.block y (hy.elim (fun hy => by have := hS y hy; omega) (fun hy => by omega))) (fun _ h => h) _ l2wz2
      go_simp
      refine hK.out _ _ ⟨(Bwz3.block A hAhi).trans MM.box, (Bwz3.block _ (by omega)).trans m1⟩ (fun hHeld => ?_)
      clear hK K bz
      (try simp only [Act.put, zA, zB, zC])
      generalize (wz2.alloc oN) = wz3 at *
      have RM := rec_mid hS (by omega) Bwz3 (A := wz1.heap.size) (B := wz2.heap.size) (by omega) (by omega) (by omega) (by omega) (by omega) (by omega) (by omega) m17wz3 m18wz3 l1wz3 l2wz3
      have nAB : ¬ wz1.heap.size = wz2.heap.size := by omega
      have nBA : ¬ wz2.heap.size = wz1.heap.size := by omega
      have nAA : wz1.heap.size ≠ A := by omega
      have nBB : wz2.heap.size ≠ A := by omega
      have nA1 : wz1.heap.size ≠ w.heap.size + 1 := by omega
      have nB1 : wz2.heap.size ≠ w.heap.size + 1 := by omega
      have sA := (Bwz3.block A hAhi).trans MM.box
      have s1 := (Bwz3.block (w.heap.size + 1) (by omega)).trans m1
      have k17 := m17wz3
      have k18 := m18wz3
      generalize wz1.heap.size = A17 at RM nAB nBA nAA nBB nA1 nB1 k17 k18 ⊢
      generalize wz2.heap.size = A18 at RM nAB nBA nAA nBB nA1 nB1 k17 k18 ⊢
     rotate_left 1
    rotate_left 1
    focus
     skip
     have bz : Below wz1.heap.size wz1 (wz1.alloc oN) := (Below.refl _ _).alloc (Nat.le_refl _) _
     have hltwz2 : wz1.heap.size < (wz1.alloc oN).heap.size := by rw [aSz]; omega
     have hltwz2 := hltwz2; dsimp only [oV, oN] at hltwz2
     have m18wz2 : (wz1.alloc oN).heap[wz1.heap.size]? = some oN := heap_alloc_new wz1 oN
     have Bwz2 : Below wc.heap.size wc (wz1.alloc oN) := Bwz1.trans (bz.mono (by omega))
     have l1wz2 : R.1.lies false (wz1.alloc oN) (fun y => S y ∨ (wc.heap.size ≤ y ∧ y < wz1.heap.size)) [.int .i64 gk, .bool gb, .int .i64 gi, .string gs, .slice gal gnl gcl, .slice gam gnm gcm] := V.lies_keep (fun h => h) (fun y hy => bz.block y (hy.elim (fun hy => by have := hS y hy; omega) (fun hy => by omega))) (fun _ h => h) _ l1wz1
     have l2wz2 : R.2.1.lies false (wz1.alloc oN) (fun y => S y ∨ (wc.heap.size ≤ y ∧ y < wz1.heap.size)) [.int .i64 fk, .bool fb, .int .i64 fi, .string fs, .slice fal fnl fcl, .slice fam fnm fcm] := V.lies_keep (fun h => h) (fun y hy => bz.block y (hy.elim (fun hy => by have := hS y hy; omega) (fun hy => by omega))) (fun _ h => h) _ l2wz1
     go_simp
     refine hK.out _ _ ⟨(Bwz2.block A hAhi).trans MM.box, (Bwz2.block _ (by omega)).trans m1⟩ (fun hHeld => ?_)
     clear hK K bz
     (try simp only [Act.put, zA, zB, zC])
     generalize (wz1.alloc oN) = wz2 at *
     refine ryA [10] ?_
     refine rA1 fun K hK => ?_
     focus
      skip
      have bz : Below wz2.heap.size wz2 (wz2.alloc oN) := (Below.refl _ _).alloc (Nat.le_refl _) _
      have hltwz3 : wz2.heap.size < (wz2.alloc oN).heap.size := by rw [aSz]; omega
      have hltwz3 := hltwz3; dsimp only [oV, oN] at hltwz3
      have m17wz3 : (wz2.alloc oN).heap[wz2.heap.size]? = some oN := heap_alloc_new wz2 oN
      have m18wz3 := (bz.block wz1.heap.size (by omega)).trans m18wz2
      have Bwz3 : Below wc.heap.size wc (wz2.alloc oN) := Bwz2.trans (bz.mono (by omega))
      have l1wz3 : R.1.lies false (wz2.alloc oN) (fun y => S y ∨ (wc.heap.size ≤ y ∧ y < wz1.heap.size)) [.int .i64 gk, .bool gb, .int .i64 gi, .string gs, .slice gal gnl gcl, .slice gam gnm gcm] := V.lies_keep (fun h => h) (fun y hy => bz.block y (hy.elim (fun hy => by have := hS y hy; omega) (fun hy => by omega))) (fun _ h => h) _ l1wz2
      have l2wz3 : R.2.1.lies false (wz2.alloc oN) (fun y => S y ∨ (wc.heap.size ≤ y ∧ y < wz1.heap.size)) [.int .i64 fk, .bool fb, .int .i64 fi, .string fs, .slice fal fnl fcl, .slice fam fnm fcm] := V.lies_keep (fun h => h) (fun y hy => bz.block y (hy.elim (fun hy => by have := hS y hy; omega) (fun hy => by omega))) (fun _ h => h) _ l2wz2
      go_simp
      refine hK.out _ _ ⟨(Bwz3.block A hAhi).trans MM.box, (Bwz3.block _ (by omega)).trans m1⟩ (fun hHeld => ?_)
      clear hK K bz
      (try simp only [Act.put, zA, zB, zC])
      generalize (wz2.alloc oN) = wz3 at *
      have RM := rec_mid hS (by omega) Bwz3 (A := wz2.heap.size) (B := wz1.heap.size) (by omega) (by omega) (by omega) (by omega) (by omega) (by omega) (by omega) m17wz3 m18wz3 l1wz3 l2wz3
      have nAB : ¬ wz2.heap.size = wz1.heap.size := by omega
      have nBA : ¬ wz1.heap.size = wz2.heap.size := by omega
      have nAA : wz2.heap.size ≠ A := by omega
      have nBB : wz1.heap.size ≠ A := by omega
      have nA1 : wz2.heap.size ≠ w.heap.size + 1 := by omega
      have nB1 : wz1.heap.size ≠ w.heap.size + 1 := by omega
      have sA := (Bwz3.block A hAhi).trans MM.box
      have s1 := (Bwz3.block (w.heap.size + 1) (by omega)).trans m1
      have k17 := m17wz3
      have k18 := m18wz3
      generalize wz2.heap.size = A17 at RM nAB nBA nAA nBB nA1 nB1 k17 k18 ⊢
      generalize wz1.heap.size = A18 at RM nAB nBA nAA nBB nA1 nB1 k17 k18 ⊢
     rotate_left 1
    rotate_left 1
   rotate_left 2
   focus
    skip
    have bz : Below wc.heap.size wc (wc.alloc oN).drew := ((Below.refl _ _).alloc (Nat.le_refl _) _).drew
    have hltwz1 : wc.heap.size < (wc.alloc oN).drew.heap.size := by show _ < (wc.alloc _).heap.size; rw [aSz]; omega
    have hltwz1 := hltwz1; dsimp only [oV, oN] at hltwz1
    have m17wz1 : (wc.alloc oN).drew.heap[wc.heap.size]? = some oN := heap_alloc_new wc oN
    have Bwz1 : Below wc.heap.size wc (wc.alloc oN).drew := bz
    go_simp
    refine hK.out _ _ ⟨(Bwz1.block A hAhi).trans MM.box, (Bwz1.block _ (by omega)).trans m1⟩ (fun hHeld => ?_)
    clear hK K bz
    (try simp only [Act.put, zA, zB, zC])
    generalize (wc.alloc oN).drew = wz1 at *
    refine ryA [5, 11] ?_
    refine rA2 (fun K hK => ?_) fun K hK => ?_
    focus
     skip
     go_simp
     refine (HI.out wz1 (BB.trans (Bwz1.mono (by omega))) _ (V.lies_keep (fun h => h) (fun y hy => Bwz1.block y (by have := hS y hy; omega)) (fun _ h => h) _ MM.lies)).mono ?_
     rintro e wz2 ⟨cs1, cs2, rfl, hl1, hl2, b7⟩
     obtain ⟨gk, gb, gi, gs, gal, gnl, gcl, gam, gnm, gcm, rfl⟩ := V.ten hl1
     obtain ⟨fk, fb, fi, fs, fal, fnl, fcl, fam, fnm, fcm, rfl⟩ := V.ten hl2
     have hltwz2 : wz1.heap.size ≤ wz2.heap.size := b7.size
     have m17wz2 := (b7.block wc.heap.size (by omega)).trans m17wz1
     have Bwz2 : Below wc.heap.size wc wz2 := Bwz1.trans (b7.mono (by omega))
     have l1wz2 : R.1.lies false wz2 (fun y => S y ∨ (wz1.heap.size ≤ y ∧ y < wz2.heap.size)) [.int .i64 gk, .bool gb, .int .i64 gi, .string gs, .slice gal gnl gcl, .slice gam gnm gcm] := hl1
     have l2wz2 : R.2.1.lies false wz2 (fun y => S y ∨ (wz1.heap.size ≤ y ∧ y < wz2.heap.size)) [.int .i64 fk, .bool fb, .int .i64 fi, .string fs, .slice fal fnl fcl, .slice fam fnm fcm] := hl2
     refine hK.out _ _ ⟨(Bwz2.block A hAhi).trans MM.box, (Bwz2.block _ (by omega)).trans m1⟩ (fun hHeld => ?_)
     clear hK K hl1 hl2 b7
     (try simp only [Act.put, zA, zB, zC])
     (refine tjA 6 ?_; (try simp only [Act.put, zA, zB, zC]))
     (refine tjA 7 ?_; (try simp only [Act.put, zA, zB, zC]))
     (refine tjA 8 ?_; (try simp only [Act.put, zA, zB, zC]))
     (refine tjA 9 ?_; (try simp only [Act.put, zA, zB, zC]))
     refine ryA [11] ?_
     refine rA1 fun K hK => ?_
     focus
      skip
      have bz : Below wz2.heap.size wz2 (wz2.alloc oN) := (Below.refl _ _).alloc (Nat.le_refl _) _
      have hltwz3 : wz2.heap.size < (wz2.alloc oN).heap.size := by rw [aSz]; omega
      have hltwz3 := hltwz3; dsimp only [oV, oN] at hltwz3
      have m18wz3 : (wz2.alloc oN).heap[wz2.heap.size]? = some oN := heap_alloc_new wz2 oN
      have m17wz3 := (bz.block wc.heap.size (by omega)).trans m17wz2
      have Bwz3 : Below wc.heap.size wc (wz2.alloc oN) := Bwz2.trans (bz.mono (by omega))
      have l1wz3 : R.1.lies false (wz2.alloc oN) (fun y => S y ∨ (wz1.heap.size ≤ y ∧ y < wz2.heap.size)) [.int .i64 gk, .bool gb, .int .i64 gi, .string gs, .slice gal gnl gcl, .slice gam gnm gcm] := V.lies_keep (fun h => h) (fun y hy => bz.block y (hy.elim (fun hy => by have := hS y hy; omega) (fun hy => by omega))) (fun _ h => h) _ l1wz2
      have l2wz3 : R.2.1.lies false (wz2.alloc oN) (fun y => S y ∨ (wz1.heap.size ≤ y ∧ y < wz2.heap.size)) [.int .i64 fk, .bool fb, .int .i64 fi, .string fs, .slice fal fnl fcl, .slice fam fnm fcm] := V.lies_keep (fun h => h) (fun y hy => bz.block y (hy.elim (fun hy => by have := hS y hy; omega) (fun hy => by omega))) (fun _ h => h) _ l2wz2
      go_simp
      refine hK.out _ _ ⟨(Bwz3.block A hAhi).trans MM.box, (Bwz3.block _ (by omega)).trans m1⟩ (fun hHeld => ?_)
      clear hK K bz
      (try simp only [Act.put, zA, zB, zC])
      generalize (wz2.alloc oN) = wz3 at *
      have RM := rec_mid hS (by omega) Bwz3 (A := wc.heap.size) (B := wz2.heap.size) (by omega) (by omega) (by omega) (by omega) (by omega) (by omega) (by omega) m17wz3 m18wz3 l1wz3 l2wz3
      have nAB : ¬ wc.heap.size = wz2.heap.size := by omega
      have nBA : ¬ wz2.heap.size = wc.heap.size := by omega
      have nAA : wc.heap.size ≠ A := by omega
      have nBB : wz2.heap.size ≠ A := by omega
      have nA1 : wc.heap.size ≠ w.heap.size + 1 := by omega
      have nB1 : wz2.heap.size ≠ w.heap.size + 1 := by omega
      have sA := (Bwz3.block A hAhi).trans MM.box
      have s1 := (Bwz3.block (w.heap.size + 1) (by omega)).trans m1
      have k17 := m17wz3
      have k18 := m18wz3
      generalize wc.heap.size = A17 at RM nAB nBA nAA nBB nA1 nB1 k17 k18 ⊢
      generalize wz2.heap.size = A18 at RM nAB nBA nAA nBB nA1 nB1 k17 k18 ⊢
     rotate_left 1
    rotate_left 1
    focus
     skip
     have bz : Below wz1.heap.size wz1 (wz1.alloc oN) := (Below.refl _ _).alloc (Nat.le_refl _) _
     have hltwz2 : wz1.heap.size < (wz1.alloc oN).heap.size := by rw [aSz]; omega
     have hltwz2 := hltwz2; dsimp only [oV, oN] at hltwz2
     have m18wz2 : (wz1.alloc oN).heap[wz1.heap.size]? = some oN := heap_alloc_new wz1 oN
     have m17wz2 := (bz.block wc.heap.size (by omega)).trans m17wz1
     have Bwz2 : Below wc.heap.size wc (wz1.alloc oN) := Bwz1.trans (bz.mono (by omega))
     go_simp
     refine hK.out _ _ ⟨(Bwz2.block A hAhi).trans MM.box, (Bwz2.block _ (by omega)).trans m1⟩ (fun hHeld => ?_)
     clear hK K bz
     (try simp only [Act.put, zA, zB, zC])
     generalize (wz1.alloc oN) = wz2 at *
     refine ryA [5] ?_
     refine rA1 fun K hK => ?_
     focus
      skip
      go_simp
      refine (HI.out wz2 (BB.trans (Bwz2.mono (by omega))) _ (V.lies_keep (fun h => h) (fun y hy => Bwz2.block y (by have := hS y hy; omega)) (fun _ h => h) _ MM.lies)).mono ?_
      rintro e wz3 ⟨cs1, cs2, rfl, hl1, hl2, b7⟩
      obtain ⟨gk, gb, gi, gs, gal, gnl, gcl, gam, gnm, gcm, rfl⟩ := V.ten hl1
      obtain ⟨fk, fb, fi, fs, fal, fnl, fcl, fam, fnm, fcm, rfl⟩ := V.ten hl2
      have hltwz3 : wz2.heap.size ≤ wz3.heap.size := b7.size
      have m17wz3 := (b7.block wc.heap.size (by omega)).trans m17wz2
      have m18wz3 := (b7.block wz1.heap.size (by omega)).trans m18wz2
      have Bwz3 : Below wc.heap.size wc wz3 := Bwz2.trans (b7.mono (by omega))
      have l1wz3 : R.1.lies false wz3 (fun y => S y ∨ (wz2.heap.size ≤ y ∧ y < wz3.heap.size)) [.int .i64 gk, .bool gb, .int .i64 gi, .string gs, .slice gal gnl gcl, .slice gam gnm gcm] := hl1
      have l2wz3 : R.2.1.lies false wz3 (fun y => S y ∨ (wz2.heap.size ≤ y ∧ y < wz3.heap.size)) [.int .i64 fk, .bool fb, .int .i64 fi, .string fs, .slice fal fnl fcl, .slice fam fnm fcm] := hl2
      refine hK.out _ _ ⟨(Bwz3.block A hAhi).trans MM.box, (Bwz3.block _ (by omega)).trans m1⟩ (fun hHeld => ?_)
      clear hK K hl1 hl2 b7
      (try simp only [Act.put, zA, zB, zC])
      (refine tjA 6 ?_; (try simp only [Act.put, zA, zB, zC]))
      (refine tjA 7 ?_; (try simp only [Act.put, zA, zB, zC]))
      (refine tjA 8 ?_; (try simp only [Act.put, zA, zB, zC]))
      (refine tjA 9 ?_; (try simp only [Act.put, zA, zB, zC]))
      have RM := rec_mid hS (by omega) Bwz3 (A := wc.heap.size) (B := wz1.heap.size) (by omega) (by omega) (by omega) (by omega) (by omega) (by omega) (by omega) m17wz3 m18wz3 l1wz3 l2wz3
      have nAB : ¬ wc.heap.size = wz1.heap.size := by omega
      have nBA : ¬ wz1.heap.size = wc.heap.size := by omega
      have nAA : wc.heap.size ≠ A := by omega
      have nBB : wz1.heap.size ≠ A := by omega
      have nA1 : wc.heap.size ≠ w.heap.size + 1 := by omega
      have nB1 : wz1.heap.size ≠ w.heap.size + 1 := by omega
      have sA := (Bwz3.block A hAhi).trans MM.box
      have s1 := (Bwz3.block (w.heap.size + 1) (by omega)).trans m1
      have k17 := m17wz3
      have k18 := m18wz3
      generalize wc.heap.size = A17 at RM nAB nBA nAA nBB nA1 nB1 k17 k18 ⊢
      generalize wz1.heap.size = A18 at RM nAB nBA nAA nBB nA1 nB1 k17 k18 ⊢
     rotate_left 1
    rotate_left 1
   rotate_left 2
   focus
    skip
    have bz : Below wc.heap.size wc (wc.alloc oN).drew := ((Below.refl _ _).alloc (Nat.le_refl _) _).drew
    have hltwz1 : wc.heap.size < (wc.alloc oN).drew.heap.size := by show _ < (wc.alloc _).heap.size; rw [aSz]; omega
    have hltwz1 := hltwz1; dsimp only [oV, oN] at hltwz1
    have m18wz1 : (wc.alloc oN).drew.heap[wc.heap.size]? = some oN := heap_alloc_new wc oN
    have Bwz1 : Below wc.heap.size wc (wc.alloc oN).drew := bz
    go_simp
    refine hK.out _ _ ⟨(Bwz1.block A hAhi).trans MM.box, (Bwz1.block _ (by omega)).trans m1⟩ (fun hHeld => ?_)
    clear hK K bz
    (try simp only [Act.put, zA, zB, zC])
    generalize (wc.alloc oN).drew = wz1 at *
    refine ryA [5, 10] ?_
    refine rA2 (fun K hK => ?_) fun K hK => ?_
    focus
     skip
     go_simp
     refine (HI.out wz1 (BB.trans (Bwz1.mono (by omega))) _ (V.lies_keep (fun h => h) (fun y hy => Bwz1.block y (by have := hS y hy; omega)) (fun _ h => h) _ MM.lies)).mono ?_
     rintro e wz2 ⟨cs1, cs2, rfl, hl1, hl2, b7⟩
     obtain ⟨gk, gb, gi, gs, gal, gnl, gcl, gam, gnm, gcm, rfl⟩ := V.ten hl1
     obtain ⟨fk, fb, fi, fs, fal, fnl, fcl, fam, fnm, fcm, rfl⟩ := V.ten hl2
     have hltwz2 : wz1.heap.size ≤ wz2.heap.size := b7.size
     have m18wz2 := (b7.block wc.heap.size (by omega)).trans m18wz1
     have Bwz2 : Below wc.heap.size wc wz2 := Bwz1.trans (b7.mono (by omega))
     have l1wz2 : R.1.lies false wz2 (fun y => S y ∨ (wz1.heap.size ≤ y ∧ y < wz2.heap.size)) [.int .i64 gk, .bool gb, .int .i64 gi, .string gs, .slice gal gnl gcl, .slice gam gnm gcm] := hl1
     have l2wz2 : R.2.1.lies false wz2 (fun y => S y ∨ (wz1.heap.size ≤ y ∧ y < wz2.heap.size)) [.int .i64 fk, .bool fb, .int .i64 fi, .string fs, .slice fal fnl fcl, .slice fam fnm fcm] := hl2
     refine hK.out _ _ ⟨(Bwz2.block A hAhi).trans MM.box, (Bwz2.block _ (by omega)).trans m1⟩ (fun hHeld => ?_)
     clear hK K hl1 hl2 b7
     (try simp only [Act.put, zA, zB, zC])
     (refine tjA 6 ?_; (try simp only [Act.put, zA, zB, zC]))
     (refine tjA 7 ?_; (try simp only [Act.put, zA, zB, zC]))
     (refine tjA 8 ?_; (try simp only [Act.put, zA, zB, zC]))
     (refine tjA 9 ?_; (try simp only [Act.put, zA, zB, zC]))
     refine ryA [10] ?_
     refine rA1 fun K hK => ?_
     focus
      skip
      have bz : Below wz2.heap.size wz2 (wz2.alloc oN) := (Below.refl _ _).alloc (Nat.le_refl _) _
      have hltwz3 : wz2.heap.size < (wz2.alloc oN).heap.size := by rw [aSz]; omega
      have hltwz3 := hltwz3; dsimp only [oV, oN] at hltwz3
      have m17wz3 : (wz2.alloc oN).heap[wz2.heap.size]? = some oN := heap_alloc_new wz2 oN
      have m18wz3 := (bz.block wc.heap.size (by omega)).trans m18wz2
      have Bwz3 : Below wc.heap.size wc (wz2.alloc oN) := Bwz2.trans (bz.mono (by omega))
      have l1wz3 : R.1.lies false (wz2.alloc oN) (fun y => S y ∨ (wz1.heap.size ≤ y ∧ y < wz2.heap.size)) [.int .i64 gk, .bool gb, .int .i64 gi, .string gs, .slice gal gnl gcl, .slice gam gnm gcm] := V.lies_keep (fun h => h) (fun y hy => bz.block y (hy.elim (fun hy => by have := hS y hy; omega) (fun hy => by omega))) (fun _ h => h) _ l1wz2
      have l2wz3 : R.2.1.lies false (wz2.alloc oN) (fun y => S y ∨ (wz1.heap.size ≤ y ∧ y < wz2.heap.size)) [.int .i64 fk, .bool fb, .int .i64 fi, .string fs, .slice fal fnl fcl, .slice fam fnm fcm] := V.lies_keep (fun h => h) (fun y hy => bz.block y (hy.elim (fun hy => by have := hS y hy; omega) (fun hy => by omega))) (fun _ h => h) _ l2wz2
      go_simp
      refine hK.out _ _ ⟨(Bwz3.block A hAhi).trans MM.box, (Bwz3.block _ (by omega)).trans m1⟩ (fun hHeld => ?_)
      clear hK K bz
      (try simp only [Act.put, zA, zB, zC])
      generalize (wz2.alloc oN) = wz3 at *
      have RM := rec_mid hS (by omega) Bwz3 (A := wz2.heap.size) (B := wc.heap.size) (by omega) (by omega) (by omega) (by omega) (by omega) (by omega) (by omega) m17wz3 m18wz3 l1wz3 l2wz3
      have nAB : ¬ wz2.heap.size = wc.heap.size := by omega
      have nBA : ¬ wc.heap.size = wz2.heap.size := by omega
      have nAA : wz2.heap.size ≠ A := by omega
      have nBB : wc.heap.size ≠ A := by omega
      have nA1 : wz2.heap.size ≠ w.heap.size + 1 := by omega
      have nB1 : wc.heap.size ≠ w.heap.size + 1 := by omega
      have sA := (Bwz3.block A hAhi).trans MM.box
      have s1 := (Bwz3.block (w.heap.size + 1) (by omega)).trans m1
      have k17 := m17wz3
      have k18 := m18wz3
      generalize wz2.heap.size = A17 at RM nAB nBA nAA nBB nA1 nB1 k17 k18 ⊢
      generalize wc.heap.size = A18 at RM nAB nBA nAA nBB nA1 nB1 k17 k18 ⊢
     rotate_left 1
    rotate_left 1
    focus
     skip
     have bz : Below wz1.heap.size wz1 (wz1.alloc oN) := (Below.refl _ _).alloc (Nat.le_refl _) _
     have hltwz2 : wz1.heap.size < (wz1.alloc oN).heap.size := by rw [aSz]; omega
     have hltwz2 := hltwz2; dsimp only [oV, oN] at hltwz2
     have m17wz2 : (wz1.alloc oN).heap[wz1.heap.size]? = some oN := heap_alloc_new wz1 oN
     have m18wz2 := (bz.block wc.heap.size (by omega)).trans m18wz1
     have Bwz2 : Below wc.heap.size wc (wz1.alloc oN) := Bwz1.trans (bz.mono (by omega))
     go_simp
     refine hK.out _ _ ⟨(Bwz2.block A hAhi).trans MM.box, (Bwz2.block _ (by omega)).trans m1⟩ (fun hHeld => ?_)
     clear hK K bz
     (try simp only [Act.put, zA, zB, zC])
     generalize (wz1.alloc oN) = wz2 at *
     refine ryA [5] ?_
     refine rA1 fun K hK => ?_
     focus
      skip
      go_simp
      refine (HI.out wz2 (BB.trans (Bwz2.mono (by omega))) _ (V.lies_keep (fun h => h) (fun y hy => Bwz2.block y (by have := hS y hy; omega)) (fun _ h => h) _ MM.lies)).mono ?_
      rintro e wz3 ⟨cs1, cs2, rfl, hl1, hl2, b7⟩
      obtain ⟨gk, gb, gi, gs, gal, gnl, gcl, gam, gnm, gcm, rfl⟩ := V.ten hl1
      obtain ⟨fk, fb, fi, fs, fal, fnl, fcl, fam, fnm, fcm, rfl⟩ := V.ten hl2
      have hltwz3 : wz2.heap.size ≤ wz3.heap.size := b7.size
      have m18wz3 := (b7.block wc.heap.size (by omega)).trans m18wz2
      have m17wz3 := (b7.block wz1.heap.size (by omega)).trans m17wz2
      have Bwz3 : Below wc.heap.size wc wz3 := Bwz2.trans (b7.mono (by omega))
      have l1wz3 : R.1.lies false wz3 (fun y => S y ∨ (wz2.heap.size ≤ y ∧ y < wz3.heap.size)) [.int .i64 gk, .bool gb, .int .i64 gi, .string gs, .slice gal gnl gcl, .slice gam gnm gcm] := hl1
      have l2wz3 : R.2.1.lies false wz3 (fun y => S y ∨ (wz2.heap.size ≤ y ∧ y < wz3.heap.size)) [.int .i64 fk, .bool fb, .int .i64 fi, .string fs, .slice fal fnl fcl, .slice fam fnm fcm] := hl2
      refine hK.out _ _ ⟨(Bwz3.block A hAhi).trans MM.box, (Bwz3.block _ (by omega)).trans m1⟩ (fun hHeld => ?_)
      clear hK K hl1 hl2 b7
      (try simp only [Act.put, zA, zB, zC])
      (refine tjA 6 ?_; (try simp only [Act.put, zA, zB, zC]))
      (refine tjA 7 ?_; (try simp only [Act.put, zA, zB, zC]))
      (refine tjA 8 ?_; (try simp only [Act.put, zA, zB, zC]))
      (refine tjA 9 ?_; (try simp only [Act.put, zA, zB, zC]))
      have RM := rec_mid hS (by omega) Bwz3 (A := wz1.heap.size) (B := wc.heap.size) (by omega) (by omega) (by omega) (by omega) (by omega) (by omega) (by omega) m17wz3 m18wz3 l1wz3 l2wz3
      have nAB : ¬ wz1.heap.size = wc.heap.size := by omega
      have nBA : ¬ wc.heap.size = wz1.heap.size := by omega
      have nAA : wz1.heap.size ≠ A := by omega
      have nBB : wc.heap.size ≠ A := by omega
      have nA1 : wz1.heap.size ≠ w.heap.size + 1 := by omega
      have nB1 : wc.heap.size ≠ w.heap.size + 1 := by omega
      have sA := (Bwz3.block A hAhi).trans MM.box
      have s1 := (Bwz3.block (w.heap.size + 1) (by omega)).trans m1
      have k17 := m17wz3
      have k18 := m18wz3
      generalize wz1.heap.size = A17 at RM nAB nBA nAA nBB nA1 nB1 k17 k18 ⊢
      generalize wc.heap.size = A18 at RM nAB nBA nAA nBB nA1 nB1 k17 k18 ⊢
     rotate_left 1
    rotate_left 1
   rotate_left 2
   all_goals
    obtain ⟨p0, p1, p2, p3, p4, p5⟩ := sixC k17
    obtain ⟨q0, q1, q2, q3, q4, q5⟩ := sixC k18
    have fp := fBk k17
    have fq := fBk k18
    have oA := six_o wz3 A17 (.int .i64 gk) (.bool gb) (.int .i64 gi) (.string gs) (.slice gal gnl gcl) (.slice gam gnm gcm)
    have oB := six_o ((((((wz3.setCell ⟨A17, 0, none⟩ (.int .i64 gk)).setCell ⟨A17, 1, none⟩ (.bool gb)).setCell ⟨A17, 2, none⟩ (.int .i64 gi)).setCell ⟨A17, 3, none⟩ (.string gs)).setCell ⟨A17, 4, none⟩ (.slice gal gnl gcl)).setCell ⟨A17, 5, none⟩ (.slice gam gnm gcm)) A18 (.int .i64 fk) (.bool fb) (.int .i64 fi) (.string fs) (.slice fal fnl fcl) (.slice fam fnm fcm)
    have u1 := (oA A (fun e => nAA e.symm)).trans sA
    have u2 := (oA (w.heap.size + 1) (fun e => nA1 e.symm)).trans s1
    have v1 := (oB A (fun e => nBB e.symm)).trans u1
    have v2 := (oB (w.heap.size + 1) (fun e => nB1 e.symm)).trans u2
    refine ryA [12] ?_
    refine rA1 fun K hK => ?_
    go_simp
    refine hK.out _ _ ⟨u1, u2⟩ (fun hHeld => ?_)
    clear hK K
    (try simp only [Act.put, zA, zB, zC])
    refine ryA [13] ?_
    refine rA1 fun K hK => ?_
    go_simp
    refine hK.out _ _ ⟨v1, v2⟩ (fun hHeld => ?_)
    clear hK K
    (try simp only [Act.put, zA, zB, zC])
    (refine tjA 14 ?_; (try simp only [Act.put, zA, zB, zC]))
    refine wpAnyH_done (by kernel_rfl) ?_ _
    (try dsimp only [Act.put, List.getElem_toArray, List.getElem_cons_succ, List.getElem_cons_zero, List.setIfInBounds_toArray, List.set_cons_zero, List.set_cons_succ])
    clear hHeld u1 u2 v1 v2 oA oB
    (try go_wp2_with fail)
    go_meet
    case rel => exact ⟨_, _, _, _, _, _, _, _, _, _, _, _, _, _, _, _, _, _, _, _, _, _, rfl, rfl, rfl, RM⟩
  case rest =>
   obtain ⟨A17, A18, gk, gb, gi, gs, gal, gnl, gcl, gam, gnm, gcm, fk, fb, fi, fs, fal, fnl, fcl, fam, fnm, fcm, rfl, rfl, rfl, RM⟩ := hcut
   have hzr := RM.bel.size
   have BX : Below w.heap.size w wc := BB.trans (RM.bel.mono (by omega))
   have n0 := (RM.bel.block w.heap.size (by omega)).trans m0
   have n2 := (RM.bel.block (w.heap.size + 2) (by omega)).trans ((MM.bel.block (w.heap.size + 2) (by omega)).trans h2)
   have n3 := (RM.bel.block (w.heap.size + 3) (by omega)).trans ((MM.bel.block (w.heap.size + 3) (by omega)).trans h3)
   have n4 := (RM.bel.block (w.heap.size + 4) (by omega)).trans ((MM.bel.block (w.heap.size + 4) (by omega)).trans h4)
   have n12 : ¬ w.heap.size + 2 = w.heap.size + 3 := by omega
   have n21 : ¬ w.heap.size + 3 = w.heap.size + 2 := by omega
   by_cases hr : R.2.2 = 0
   ·have HQ1 : Hid (Q = (withR v j R.1, R.2.1, 0)) := by show _ = _; rw [HQ.out, if_pos hr]
    have HCW : Hid (∀ W, Below w.heap.size w W → R.1.lies false W (fun y => S y ∨ (w.heap.size + 5 ≤ y ∧ y < wc.heap.size)) [.int .i64 gk, .bool gb, .int .i64 gi, .string gs, .slice gal gnl gcl, .slice gam gnm gcm] → wc.heap.size ≤ W.heap.size → Calls Tryz.prog 45 #[.agg #[.int .i64 k, .bool b, .int .i64 i, .string s, .slice al nl cl, .slice am nm cm], .int .i64 (j : Int), .agg #[.int .i64 gk, .bool gb, .int .i64 gi, .string gs, .slice gal gnl gcl, .slice gam gnm gcm]] W (RpPost (withR v j R.1) (fun y => S y ∨ (w.heap.size + 5 ≤ y ∧ y < wc.heap.size)) W)) := fun W hb hr1 hzw => rwith_any v j R.1 (fun y => S y ∨ (w.heap.size + 5 ≤ y ∧ y < wc.heap.size)) _ _ W (V.lies_keep (fun h => h) (fun _ _ => rfl) (fun y hy => Or.inl hy) _ (HV.out W hb)) hr1 (fun y hy => by
     rcases hy with hy | hy
     ·exact Nat.lt_of_lt_of_le (hS y hy) hb.size
     ·omega) hwt hj
    have HL2 := hmk RM.l2
    have HL1 := hmk RM.l1
    have bx17 := RM.bx
    have bx18 := RM.by_
    have hA17 : A17 < wc.heap.size := (Array.getElem?_eq_some_iff.1 bx17).1
    have hA18 : A18 < wc.heap.size := (Array.getElem?_eq_some_iff.1 bx18).1
    have nn : A17 ≠ w.heap.size + 2 ∧ A17 ≠ w.heap.size + 3 ∧ A18 ≠ w.heap.size + 2 ∧ A18 ≠ w.heap.size + 3 := RM.far
    rw [hr]
    clear HQ
    go_wp2_with fail
    refine wp_region_held_drew (S := (fun W => W.heap[w.heap.size]? = some (oV k b i s al nl cl am nm cm) ∧ W.heap[A17]? = some (oV gk gb gi gs gal gnl gcl gam gnm gcm) ∧ W.heap[A18]? = some (oV fk fb fi fs fal fnl fcl fam fnm fcm))) (by kernel_rfl) ⟨n0, bx17, bx18⟩ (fun hHeld => ?_)
    (refine tkA 0 ?_ ?_ ?_; rotate_left 1; (intro W0 hSw; (have o0 : W0.cell? ⟨w.heap.size, 0, none⟩ = some (.int .i64 k) := (by rw [cBk hSw.1]; rfl); have o1 : W0.cell? ⟨w.heap.size, 1, none⟩ = some (.bool b) := (by rw [cBk hSw.1]; rfl); have o2 : W0.cell? ⟨w.heap.size, 2, none⟩ = some (.int .i64 i) := (by rw [cBk hSw.1]; rfl); have o3 : W0.cell? ⟨w.heap.size, 3, none⟩ = some (.string s) := (by rw [cBk hSw.1]; rfl); have o4 : W0.cell? ⟨w.heap.size, 4, none⟩ = some (.slice al nl cl) := (by rw [cBk hSw.1]; rfl); have o5 : W0.cell? ⟨w.heap.size, 5, none⟩ = some (.slice am nm cm) := (by rw [cBk hSw.1]; rfl)); go_simp; (try with_reducible rfl)); (try simp only [Act.put, zA, zB, zC]))
    (refine tjA 1 ?_; (try simp only [Act.put, zA, zB, zC]))
    (refine tkA 2 ?_ ?_ ?_; rotate_left 1; (intro W0 hSw; (have o0 : W0.cell? ⟨A17, 0, none⟩ = some (.int .i64 gk) := (by rw [cBk hSw.2.1]; rfl); have o1 : W0.cell? ⟨A17, 1, none⟩ = some (.bool gb) := (by rw [cBk hSw.2.1]; rfl); have o2 : W0.cell? ⟨A17, 2, none⟩ = some (.int .i64 gi) := (by rw [cBk hSw.2.1]; rfl); have o3 : W0.cell? ⟨A17, 3, none⟩ = some (.string gs) := (by rw [cBk hSw.2.1]; rfl); have o4 : W0.cell? ⟨A17, 4, none⟩ = some (.slice gal gnl gcl) := (by rw [cBk hSw.2.1]; rfl); have o5 : W0.cell? ⟨A17, 5, none⟩ = some (.slice gam gnm gcm) := (by rw [cBk hSw.2.1]; rfl)); go_simp; (try with_reducible rfl)); (try simp only [Act.put, zA, zB, zC]))
    (refine tkA 4 ?_ ?_ ?_; rotate_left 1; (intro W0 hSw; (have o0 : W0.cell? ⟨A18, 0, none⟩ = some (.int .i64 fk) := (by rw [cBk hSw.2.2]; rfl); have o1 : W0.cell? ⟨A18, 1, none⟩ = some (.bool fb) := (by rw [cBk hSw.2.2]; rfl); have o2 : W0.cell? ⟨A18, 2, none⟩ = some (.int .i64 fi) := (by rw [cBk hSw.2.2]; rfl); have o3 : W0.cell? ⟨A18, 3, none⟩ = some (.string fs) := (by rw [cBk hSw.2.2]; rfl); have o4 : W0.cell? ⟨A18, 4, none⟩ = some (.slice fal fnl fcl) := (by rw [cBk hSw.2.2]; rfl); have o5 : W0.cell? ⟨A18, 5, none⟩ = some (.slice fam fnm fcm) := (by rw [cBk hSw.2.2]; rfl)); go_simp; (try with_reducible rfl)); (try simp only [Act.put, zA, zB, zC]))
    refine ryA [3] ?_
    refine rA1 fun K hK => ?_
    go_simp
    refine (HCW.out wc.drew BX.drew (V.lies_keep (w := wc) (w' := wc.drew) (fun h => h) (fun _ _ => rfl) (fun _ h => h) _ HL1.out) (Nat.le_refl _)).mono ?_
    rintro e w7 ⟨cs_, rfl, hl7, b7⟩
    obtain ⟨hk, hb, hi, hs, hal, hnl, hcl, ham, hnm, hcm, rfl⟩ := V.ten hl7
    replace b7 : Below wc.heap.size wc w7 := (Below.refl _ wc).drew.trans b7
    have hz7 := b7.size
    have k2 := (b7.block (w.heap.size + 2) (by omega)).trans n2
    have k3 := (b7.block (w.heap.size + 3) (by omega)).trans n3
    obtain ⟨z0, z1, z2, z3, z4, z5⟩ := sixC k2
    obtain ⟨y0, y1, y2, y3, y4, y5⟩ := sixC k3
    have fz := fBk k2
    have fy := fBk k3
    have HG : Hid ((withR v j R.1).lies false w7 (fun y => S y ∨ (w.heap.size + 5 ≤ y ∧ y < w7.heap.size)) [.int .i64 hk, .bool hb, .int .i64 hi, .string hs, .slice hal hnl hcl, .slice ham hnm hcm]) := by
     refine V.lies_keep (fun h => h) (fun _ _ => rfl) (fun y hy => ?_) _ hl7
     rcases hy with hy | hy
     ·rcases hy with hy | hy
      ·exact .inl hy
      ·exact .inr ⟨hy.1, by omega⟩
     ·exact .inr ⟨by have := hy.1; have e5 : wc.drew.heap.size = wc.heap.size := rfl; omega, hy.2⟩
    have HK : Hid (R.2.1.lies false w7 (fun y => S y ∨ (w.heap.size + 5 ≤ y ∧ y < w7.heap.size)) [.int .i64 fk, .bool fb, .int .i64 fi, .string fs, .slice fal fnl fcl, .slice fam fnm fcm]) := V.lies_keep (fun h => h) (fun y hy => b7.block y (hy.elim (fun hy => by have := hS y hy; omega) (fun hy => hy.2))) (fun y hy => hy.elim .inl (fun hy => .inr ⟨hy.1, by omega⟩)) _ HL2.out
    have HF := hmk (dn_fin0 hS (BX.trans (b7.mono (by omega))) (by omega) HG.out HK.out)
    have k0 := (b7.block w.heap.size (by omega)).trans n0
    have k17 := (b7.block A17 hA17).trans bx17
    have k18 := (b7.block A18 hA18).trans bx18
    refine hK.out _ _ ⟨k0, k17, k18⟩ (fun hHeld => ?_)
    clear hK K HG HK hl7
    (try simp only [Act.put, zA, zB, zC])
    have so := six_o w7 (w.heap.size + 2) (.int .i64 hk) (.bool hb) (.int .i64 hi) (.string hs) (.slice hal hnl hcl) (.slice ham hnm hcm)
    have u0 := (so w.heap.size (by omega)).trans k0
    have u17 := (so A17 nn.1).trans k17
    have u18 := (so A18 nn.2.2.1).trans k18
    have so2 := six_o ((((((w7.setCell ⟨w.heap.size + 2, 0, none⟩ (.int .i64 hk)).setCell ⟨w.heap.size + 2, 1, none⟩ (.bool hb)).setCell ⟨w.heap.size + 2, 2, none⟩ (.int .i64 hi)).setCell ⟨w.heap.size + 2, 3, none⟩ (.string hs)).setCell ⟨w.heap.size + 2, 4, none⟩ (.slice hal hnl hcl)).setCell ⟨w.heap.size + 2, 5, none⟩ (.slice ham hnm hcm)) (w.heap.size + 3) (.int .i64 fk) (.bool fb) (.int .i64 fi) (.string fs) (.slice fal fnl fcl) (.slice fam fnm fcm)
    have x0 := (so2 w.heap.size (by omega)).trans u0
    have x17 := (so2 A17 nn.2.1).trans u17
    have x18 := (so2 A18 nn.2.2.2).trans u18
    refine ryA [5] ?_
    refine rA1 fun K hK => ?_
    go_simp
    refine hK.out _ _ ⟨u0, u17, u18⟩ (fun hHeld => ?_)
    clear hK K
    (try simp only [Act.put, zA, zB, zC])
    refine ryA [6] ?_
    refine rA1 fun K hK => ?_
    go_simp
    refine hK.out _ _ ⟨x0, x17, x18⟩ (fun hHeld => ?_)
    clear hK K
    (try simp only [Act.put, zA, zB, zC])
    (refine tjA 7 ?_; (try simp only [Act.put, zA, zB, zC]))
    refine wpAnyH_done (by kernel_rfl) ?_ _
    (try dsimp only [Act.put, List.getElem_toArray, List.getElem_cons_succ, List.getElem_cons_zero, List.setIfInBounds_toArray, List.set_cons_zero, List.set_cons_succ])
    clear hHeld so so2 u0 u17 u18 x0 x17 x18
    go_wp2_with fail
    (try simp only [Exit.inBlock, Exit.then])
    refine bodyPost_ret (v := .tuple #[.agg #[.int .i64 hk, .bool hb, .int .i64 hi, .string hs, .slice hal hnl hcl, .slice ham hnm hcm], .agg #[.int .i64 fk, .bool fb, .int .i64 fi, .string fs, .slice fal fnl fcl, .slice fam fnm fcm], .int .i64 0]) ?_ rfl ?_
    rotate_left
    ·rw [HQ1.out]
     exact ⟨[.int .i64 hk, .bool hb, .int .i64 hi, .string hs, .slice hal hnl hcl, .slice ham hnm hcm], [.int .i64 fk, .bool fb, .int .i64 fi, .string fs, .slice fal fnl fcl, .slice fam fnm fcm], rfl, HF.out.1, HF.out.2.1, HF.out.2.2⟩
    ·rw [results_cell2_tmp rfl]
     go_simp
   ·have HQ1 : Hid (Q = (nullV, nullV, R.2.2)) := by show _ = _; rw [HQ.out, if_neg hr]
    obtain ⟨z0, z1, z2, z3, z4, z5⟩ := sixC n2
    obtain ⟨y0, y1, y2, y3, y4, y5⟩ := sixC n3
    obtain ⟨nu0, nu1, nu2, nu3, nu4, nu5⟩ := sixC n4
    have fz := fBk n2
    have fy := fBk n3
    have HF := hmk (dn_fin (S := S) (x := nullV) (y := nullV) hS BX (by omega) (null_liesS _ _) (null_liesS _ _))
    clear RM HQ
    generalize R.2.2 = er at *
    have hb0 : (er != 0) = true := by simpa using hr
    go_wp2_with fail
    go_region
    go_wp2_with fail
    (try simp only [Exit.inBlock, Exit.then])
    refine bodyPost_ret (v := .tuple #[.agg #[.int .i64 0, .bool false, .int .i64 0, .string ⟨#[]⟩, .slice none 0 0, .slice none 0 0], .agg #[.int .i64 0, .bool false, .int .i64 0, .string ⟨#[]⟩, .slice none 0 0, .slice none 0 0], .int .i64 er]) ?_ rfl ?_
    rotate_left
    ·rw [HQ1.out]
     exact ⟨[.int .i64 0, .bool false, .int .i64 0, .string ⟨#[]⟩, .slice none 0 0, .slice none 0 0], [.int .i64 0, .bool false, .int .i64 0, .string ⟨#[]⟩, .slice none 0 0, .slice none 0 0], rfl, HF.out.1, HF.out.2.1, HF.out.2.2⟩
    ·rw [results_cell2_tmp rfl]
     go_simp
end Go.Proofs.YtnakligbogkmbaaGreatDoor
