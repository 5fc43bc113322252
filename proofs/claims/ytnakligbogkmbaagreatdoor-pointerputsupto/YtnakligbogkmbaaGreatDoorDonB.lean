import Derived.Test.YtnakligbogkmbaaGreatDoorG41
set_option linter.unusedSimpArgs false
set_option linter.unusedVariables false
namespace Go.Proofs.YtnakligbogkmbaaGreatDoor
open Go.RowKit Go.Lib
set_option maxHeartbeats 8000000 in
set_option maxRecDepth 100000 in
theorem donA_ (v x : V) (S : Nat → Prop) (k : Int) (b : Bool) (i : Int) (s : ByteArray) (al : Option Addr) (nl cl : Nat) (am : Option Addr) (nm cm : Nat) (xk : Int) (xb : Bool) (xi : Int) (xs : ByteArray) (xal : Option Addr) (xnl xcl : Nat) (xam : Option Addr) (xnm xcm : Nat) (t : ByteArray) (tg_ tof tc : Nat) (w : World) (hv : v.lies false w S [.int .i64 k, .bool b, .int .i64 i, .string s, .slice al nl cl, .slice am nm cm]) (hx : x.lies false w S [.int .i64 xk, .bool xb, .int .i64 xi, .string xs, .slice xal xnl xcl, .slice xam xnm xcm]) (hS : ∀ b, S b → b < w.heap.size) (htg : tg_ < w.heap.size) (htok : w.cell? ⟨tg_, tof, none⟩ = some (.string t)) (hts : t.size ≤ 281474976710656) (hwt : v.wt ≤ 1114112) (hsr : Srt (memsOf v)) (htc : 1 ≤ tc) :
 Calls Tryz.prog 28 #[.int .i64 2, .agg #[.int .i64 k, .bool b, .int .i64 i, .string s, .slice al nl cl, .slice am nm cm], .slice (some ⟨tg_, tof, none⟩) 1 tc, .agg #[.int .i64 xk, .bool xb, .int .i64 xi, .string xs, .slice xal xnl xcl, .slice xam xnm xcm]] w (DnPost ((addR v t x).1, nullV, (addR v t x).2) S w) := by
 have HCA : Hid (∀ W, Below w.heap.size w W → Calls Tryz.prog 42 #[.agg #[.int .i64 k, .bool b, .int .i64 i, .string s, .slice al nl cl, .slice am nm cm], .string t, .agg #[.int .i64 xk, .bool xb, .int .i64 xi, .string xs, .slice xal xnl xcl, .slice xam xnm xcm]] W (AdPost (addR v t x) S W)) := fun W hb => radded_any v t x S _ _ W (lBw hv hS hb) (lBw hx hS hb) (fun y hy => Nat.lt_of_lt_of_le (hS y hy) hb.size) hts hwt hsr
 have b2 : Below w.heap.size w ((w.alloc (oV k b i s al nl cl am nm cm)).alloc (oV xk xb xi xs xal xnl xcl xam xnm xcm)) := tBw w _ _
 have hz2 : ((w.alloc (oV k b i s al nl cl am nm cm)).alloc (oV xk xb xi xs xal xnl xcl xam xnm xcm)).heap.size = w.heap.size + 2 := by rw [aSz, aSz]
 have hz2 := hz2; dsimp only [oV, oN] at hz2
 have b4 : Below ((w.alloc (oV k b i s al nl cl am nm cm)).alloc (oV xk xb xi xs xal xnl xcl xam xnm xcm)).heap.size ((w.alloc (oV k b i s al nl cl am nm cm)).alloc (oV xk xb xi xs xal xnl xcl xam xnm xcm)) ((((w.alloc (oV k b i s al nl cl am nm cm)).alloc (oV xk xb xi xs xal xnl xcl xam xnm xcm)).alloc oN).alloc oN) := tBw _ _ _
 have hz4 : ((((w.alloc (oV k b i s al nl cl am nm cm)).alloc (oV xk xb xi xs xal xnl xcl xam xnm xcm)).alloc oN).alloc oN).heap.size = w.heap.size + 4 := by rw [aSz, aSz, hz2]
 have hz4 := hz4; dsimp only [oV, oN] at hz4
 have b5 : Below ((((w.alloc (oV k b i s al nl cl am nm cm)).alloc (oV xk xb xi xs xal xnl xcl xam xnm xcm)).alloc oN).alloc oN).heap.size ((((w.alloc (oV k b i s al nl cl am nm cm)).alloc (oV xk xb xi xs xal xnl xcl xam xnm xcm)).alloc oN).alloc oN) (((((w.alloc (oV k b i s al nl cl am nm cm)).alloc (oV xk xb xi xs xal xnl xcl xam xnm xcm)).alloc oN).alloc oN).alloc oN) := oBw _ _
 have hz5 : (((((w.alloc (oV k b i s al nl cl am nm cm)).alloc (oV xk xb xi xs xal xnl xcl xam xnm xcm)).alloc oN).alloc oN).alloc oN).heap.size = w.heap.size + 5 := by rw [aSz, hz4]
 have hz5 := hz5; dsimp only [oV, oN] at hz5
 have b25 : Below ((w.alloc (oV k b i s al nl cl am nm cm)).alloc (oV xk xb xi xs xal xnl xcl xam xnm xcm)).heap.size ((w.alloc (oV k b i s al nl cl am nm cm)).alloc (oV xk xb xi xs xal xnl xcl xam xnm xcm)) (((((w.alloc (oV k b i s al nl cl am nm cm)).alloc (oV xk xb xi xs xal xnl xcl xam xnm xcm)).alloc oN).alloc oN).alloc oN) := b4.trans (b5.mono (by omega))
 have B5 : Below w.heap.size w (((((w.alloc (oV k b i s al nl cl am nm cm)).alloc (oV xk xb xi xs xal xnl xcl xam xnm xcm)).alloc oN).alloc oN).alloc oN) := five_below w _ _ _ _ _
 have h0 := (b25.block w.heap.size (by omega)).trans (a2k w (oV k b i s al nl cl am nm cm) (oV xk xb xi xs xal xnl xcl xam xnm xcm))
 have h1 := (b25.block (w.heap.size + 1) (by omega)).trans (a2n w (oV k b i s al nl cl am nm cm) (oV xk xb xi xs xal xnl xcl xam xnm xcm))
 have q2 := a2k ((w.alloc (oV k b i s al nl cl am nm cm)).alloc (oV xk xb xi xs xal xnl xcl xam xnm xcm)) oN oN
 rw [hz2] at q2
 have h2 := (b5.block (w.heap.size + 2) (by omega)).trans q2
 have q3 := a2n ((w.alloc (oV k b i s al nl cl am nm cm)).alloc (oV xk xb xi xs xal xnl xcl xam xnm xcm)) oN oN
 rw [hz2] at q3
 have h3 := (b5.block (w.heap.size + 3) (by omega)).trans q3
 have h4 := heap_alloc_new ((((w.alloc (oV k b i s al nl cl am nm cm)).alloc (oV xk xb xi xs xal xnl xcl xam xnm xcm)).alloc oN).alloc oN) oN
 rw [hz4] at h4
 have tk5 := (B5.cell (p := ⟨tg_, tof, none⟩) htg).trans htok
 clear b2 b4 b5 b25 hz2 hz4 q2 q3
 clear hv hx
 go_enter Tryz.func28, Tryz.ntmps28
 go_wp2_with fail
 generalize (((((w.alloc (oV k b i s al nl cl am nm cm)).alloc (oV xk xb xi xs xal xnl xcl xam xnm xcm)).alloc oN).alloc oN).alloc oN) = w5 at *
 refine wp_region_held_drew (S := (fun W => W.heap[w.heap.size]? = some (oV k b i s al nl cl am nm cm) ∧ W.heap[w.heap.size + 1]? = some (oV xk xb xi xs xal xnl xcl xam xnm xcm) ∧ W.cell? ⟨tg_, tof, none⟩ = some (.string t))) (by kernel_rfl) ⟨h0, h1, tk5⟩ (fun hHeld => ?_)
 (refine tkA 0 ?_ ?_ ?_; rotate_left 1; (intro W0 hSw; (have o0 : W0.cell? ⟨w.heap.size, 0, none⟩ = some (.int .i64 k) := (by rw [cBk hSw.1]; rfl); have o1 : W0.cell? ⟨w.heap.size, 1, none⟩ = some (.bool b) := (by rw [cBk hSw.1]; rfl); have o2 : W0.cell? ⟨w.heap.size, 2, none⟩ = some (.int .i64 i) := (by rw [cBk hSw.1]; rfl); have o3 : W0.cell? ⟨w.heap.size, 3, none⟩ = some (.string s) := (by rw [cBk hSw.1]; rfl); have o4 : W0.cell? ⟨w.heap.size, 4, none⟩ = some (.slice al nl cl) := (by rw [cBk hSw.1]; rfl); have o5 : W0.cell? ⟨w.heap.size, 5, none⟩ = some (.slice am nm cm) := (by rw [cBk hSw.1]; rfl)); go_simp; (try with_reducible rfl)); (try simp only [Act.put, zA, zB, zC]))
 (refine tjA 1 ?_; (try simp only [Act.put, zA, zB, zC]))
 (refine tjA 2 ?_; (try simp only [Act.put, zA, zB, zC]))
 (refine tkA 3 ?_ ?_ ?_; rotate_left 1; (intro W0 hSw; (have o9 := hSw.2.2); go_simp; (try with_reducible rfl)); (try simp only [Act.put, zA, zB, zC]))
 (refine tkA 4 ?_ ?_ ?_; rotate_left 1; (intro W0 hSw; (have o0 : W0.cell? ⟨w.heap.size + 1, 0, none⟩ = some (.int .i64 xk) := (by rw [cBk hSw.2.1]; rfl); have o1 : W0.cell? ⟨w.heap.size + 1, 1, none⟩ = some (.bool xb) := (by rw [cBk hSw.2.1]; rfl); have o2 : W0.cell? ⟨w.heap.size + 1, 2, none⟩ = some (.int .i64 xi) := (by rw [cBk hSw.2.1]; rfl); have o3 : W0.cell? ⟨w.heap.size + 1, 3, none⟩ = some (.string xs) := (by rw [cBk hSw.2.1]; rfl); have o4 : W0.cell? ⟨w.heap.size + 1, 4, none⟩ = some (.slice xal xnl xcl) := (by rw [cBk hSw.2.1]; rfl); have o5 : W0.cell? ⟨w.heap.size + 1, 5, none⟩ = some (.slice xam xnm xcm) := (by rw [cBk hSw.2.1]; rfl)); go_simp; (try with_reducible rfl)); (try simp only [Act.put, zA, zB, zC]))
 refine ryA [5, 9] ?_
 refine rA2 (fun K hK => ?_) fun K hK => ?_
 focus
  skip
  go_simp
  refine (HCA.out w5.drew (B5.drew)).mono ?_
  rintro e w6 ⟨cs_, rfl, hl6, b6⟩
  obtain ⟨ek, eb, ei, es, eal, enl, ecl, eam, enm, ecm, rfl⟩ := V.ten hl6
  have e6 : Hid (w5.drew.heap.size ≤ w6.heap.size ∧ w5.drew.heap.size = w5.heap.size) := ⟨b6.size, rfl⟩
  replace b6 : Below w5.heap.size w5 w6 := (Below.refl _ w5).drew.trans b6
  have hz6 := b6.size
  have t0 := (b6.block w.heap.size (by omega)).trans h0
  have t1 := (b6.block (w.heap.size + 1) (by omega)).trans h1
  have tt := (b6.cell (p := ⟨tg_, tof, none⟩) (show tg_ < w5.heap.size by omega)).trans tk5
  refine hK.out _ _ ⟨t0, t1, tt⟩ (fun hHeld => ?_)
  clear hK K
  (try simp only [Act.put, zA, zB, zC])
  (refine tjA 6 ?_; (try simp only [Act.put, zA, zB, zC]))
  (refine tjA 7 ?_; (try simp only [Act.put, zA, zB, zC]))
  (refine tjA 8 ?_; (try simp only [Act.put, zA, zB, zC]))
  have hz6' : w5.heap.size ≤ w6.heap.size := hz6
  refine ryA [9] ?_
  refine rA1 fun K hK => ?_
  go_simp
  have bq : Below w6.heap.size w6 (w6.alloc oN) := oBw _ _
  refine hK.out _ _ ⟨(bq.block _ (by omega)).trans t0, (bq.block _ (by omega)).trans t1, (bq.cell (p := ⟨tg_, tof, none⟩) (show tg_ < w6.heap.size by omega)).trans tt⟩ (fun hHeld => ?_)
  clear hK K
  (try simp only [Act.put, zA, zB, zC])
  refine ryA [10] ?_
  refine rA1 fun K hK => ?_
  go_simp
  have br : Below w6.heap.size w6 (w6.alloc (oV ek eb ei es eal enl ecl eam enm ecm)) := oBw _ _
  have mA := heap_alloc_new w6 (oV ek eb ei es eal enl ecl eam enm ecm)
  have hzm : (w6.alloc (oV ek eb ei es eal enl ecl eam enm ecm)).heap.size = w6.heap.size + 1 := aSz _ _
  have hzm := hzm; dsimp only [oV, oN] at hzm
  have Bm : Below (w.heap.size + 5) w5 (w6.alloc (oV ek eb ei es eal enl ecl eam enm ecm)) := (show Below (w.heap.size + 5) w5 w6 from (b6.mono (by omega))).trans (br.mono (by omega))
  have HL : Hid ((addR v t x).1.lies false (w6.alloc (oV ek eb ei es eal enl ecl eam enm ecm)) (fun y => S y ∨ (w.heap.size + 5 ≤ y ∧ y < (w6.alloc (oV ek eb ei es eal enl ecl eam enm ecm)).heap.size)) [.int .i64 ek, .bool eb, .int .i64 ei, .string es, .slice eal enl ecl, .slice eam enm ecm]) := by
   refine V.lies_keep (fun h => h) (fun y hy => br.block y ?_) (fun y hy => ?_) _ hl6
   ·rcases hy with hy | hy
    ·have := hS y hy; omega
    ·exact hy.2
   ·rcases hy with hy | hy
    ·exact .inl hy
    ·exact .inr ⟨by have := hy.1; have := e6.out.2; omega, by have := hy.2; omega⟩
  generalize hA : w6.heap.size = A at *
  generalize (w6.alloc (oV ek eb ei es eal enl ecl eam enm ecm)) = wm at *
  have hAn : w.heap.size + 5 ≤ A := by omega
  refine hK.out _ _ ⟨(Bm.block _ (by omega)).trans h0, (Bm.block _ (by omega)).trans h1, (Bm.cell (p := ⟨tg_, tof, none⟩) (show tg_ < w.heap.size + 5 by omega)).trans tk5⟩ (fun hHeld => ?_)
  clear hK K
  (try simp only [Act.put, zA, zB, zC])
  (refine tjA 11 ?_; (try simp only [Act.put, zA, zB, zC]))
  refine wpAnyH_done (by kernel_rfl) ?_ _
  (try dsimp only [Act.put, List.getElem_toArray, List.getElem_cons_succ, List.getElem_cons_zero, List.setIfInBounds_toArray, List.set_cons_zero, List.set_cons_succ])
  clear hHeld t0 t1 tt bq br hl6 b6 hzm hz6 hz6'
  have BB : Below w.heap.size w wm := B5.trans (Bm.mono (by omega))
  have m2 := (Bm.block (w.heap.size + 2) (by omega)).trans h2
  have m3 := (Bm.block (w.heap.size + 3) (by omega)).trans h3
  have m4 := (Bm.block (w.heap.size + 4) (by omega)).trans h4
  obtain ⟨z0, z1, z2, z3, z4, z5⟩ := sixC m2
  obtain ⟨y0, y1, y2, y3, y4, y5⟩ := sixC m3
  obtain ⟨n0, n1, n2, n3, n4, n5⟩ := sixC m4
  obtain ⟨a0, a1, a2, a3, a4, a5⟩ := sixC mA
 rotate_left 1
 focus
  skip
  have bz : Below w5.heap.size w5 (w5.alloc oN).drew := ((Below.refl _ _).alloc (Nat.le_refl _) _).drew
  have hzd : (w5.alloc oN).drew.heap.size = w5.heap.size + 1 := aSz w5 oN
  have hzd := hzd; dsimp only [oV, oN] at hzd
  have mz : (w5.alloc oN).drew.heap[w.heap.size + 5]? = some oN := by have q := heap_alloc_new w5 oN; rw [hz5] at q; exact q
  go_simp
  refine hK.out _ _ ⟨(bz.block _ (by omega)).trans h0, (bz.block _ (by omega)).trans h1, (bz.cell (p := ⟨tg_, tof, none⟩) (show tg_ < w5.heap.size by omega)).trans tk5⟩ (fun hHeld => ?_)
  clear hK K
  (try simp only [Act.put, zA, zB, zC])
  refine ryA [5] ?_
  refine rA1 fun K hK => ?_
  go_simp
  refine (HCA.out (w5.alloc oN).drew (B5.trans (bz.mono (by omega)))).mono ?_
  rintro e w6 ⟨cs_, rfl, hl6, b6⟩
  obtain ⟨ek, eb, ei, es, eal, enl, ecl, eam, enm, ecm, rfl⟩ := V.ten hl6
  have e6 : Hid ((w5.alloc oN).drew.heap.size ≤ w6.heap.size ∧ (w5.alloc oN).drew.heap.size = w5.heap.size + 1) := ⟨b6.size, hzd⟩
  have mz6 := (b6.block (w.heap.size + 5) (by omega)).trans mz
  replace b6 : Below w5.heap.size w5 w6 := bz.trans (b6.mono bz.size)
  have hz6 := b6.size
  have t0 := (b6.block w.heap.size (by omega)).trans h0
  have t1 := (b6.block (w.heap.size + 1) (by omega)).trans h1
  have tt := (b6.cell (p := ⟨tg_, tof, none⟩) (show tg_ < w5.heap.size by omega)).trans tk5
  refine hK.out _ _ ⟨t0, t1, tt⟩ (fun hHeld => ?_)
  clear hK K
  (try simp only [Act.put, zA, zB, zC])
  (refine tjA 6 ?_; (try simp only [Act.put, zA, zB, zC]))
  (refine tjA 7 ?_; (try simp only [Act.put, zA, zB, zC]))
  (refine tjA 8 ?_; (try simp only [Act.put, zA, zB, zC]))
  obtain ⟨q0, q1, q2, q3, q4, q5⟩ := sixC mz6
  have fq := fBk mz6
  refine ryA [10] ?_
  refine rA1 fun K hK => ?_
  go_simp
  have mA := box_six mz6 (.int .i64 ek) (.bool eb) (.int .i64 ei) (.string es) (.slice eal enl ecl) (.slice eam enm ecm)
  have ho := six_o w6 (w.heap.size + 5) (.int .i64 ek) (.bool eb) (.int .i64 ei) (.string es) (.slice eal enl ecl) (.slice eam enm ecm)
  have gq : w6.grownBy ((((((w6.setCell ⟨w.heap.size + 5, 0, none⟩ (.int .i64 ek)).setCell ⟨w.heap.size + 5, 1, none⟩ (.bool eb)).setCell ⟨w.heap.size + 5, 2, none⟩ (.int .i64 ei)).setCell ⟨w.heap.size + 5, 3, none⟩ (.string es)).setCell ⟨w.heap.size + 5, 4, none⟩ (.slice eal enl ecl)).setCell ⟨w.heap.size + 5, 5, none⟩ (.slice eam enm ecm)) (some (w.heap.size + 5)) := gSt (gSt (gSt (gSt (gSt (gSt (World.grownBy.refl w6 _) 0 _) 1 _) 2 _) 3 _) 4 _) 5 _
  have sq : ((((((w6.setCell ⟨w.heap.size + 5, 0, none⟩ (.int .i64 ek)).setCell ⟨w.heap.size + 5, 1, none⟩ (.bool eb)).setCell ⟨w.heap.size + 5, 2, none⟩ (.int .i64 ei)).setCell ⟨w.heap.size + 5, 3, none⟩ (.string es)).setCell ⟨w.heap.size + 5, 4, none⟩ (.slice eal enl ecl)).setCell ⟨w.heap.size + 5, 5, none⟩ (.slice eam enm ecm)).heap.size = w6.heap.size := by simp only [sz1]
  have Bm : Below (w.heap.size + 5) w5 ((((((w6.setCell ⟨w.heap.size + 5, 0, none⟩ (.int .i64 ek)).setCell ⟨w.heap.size + 5, 1, none⟩ (.bool eb)).setCell ⟨w.heap.size + 5, 2, none⟩ (.int .i64 ei)).setCell ⟨w.heap.size + 5, 3, none⟩ (.string es)).setCell ⟨w.heap.size + 5, 4, none⟩ (.slice eal enl ecl)).setCell ⟨w.heap.size + 5, 5, none⟩ (.slice eam enm ecm)) := ⟨gq.os.trans b6.os, gq.tape.trans b6.tape, gq.output.trans b6.output, by omega, fun z hz => (ho z (by omega)).trans (b6.block z (by omega))⟩
  have HL : Hid ((addR v t x).1.lies false ((((((w6.setCell ⟨w.heap.size + 5, 0, none⟩ (.int .i64 ek)).setCell ⟨w.heap.size + 5, 1, none⟩ (.bool eb)).setCell ⟨w.heap.size + 5, 2, none⟩ (.int .i64 ei)).setCell ⟨w.heap.size + 5, 3, none⟩ (.string es)).setCell ⟨w.heap.size + 5, 4, none⟩ (.slice eal enl ecl)).setCell ⟨w.heap.size + 5, 5, none⟩ (.slice eam enm ecm)) (fun y => S y ∨ (w.heap.size + 5 ≤ y ∧ y < ((((((w6.setCell ⟨w.heap.size + 5, 0, none⟩ (.int .i64 ek)).setCell ⟨w.heap.size + 5, 1, none⟩ (.bool eb)).setCell ⟨w.heap.size + 5, 2, none⟩ (.int .i64 ei)).setCell ⟨w.heap.size + 5, 3, none⟩ (.string es)).setCell ⟨w.heap.size + 5, 4, none⟩ (.slice eal enl ecl)).setCell ⟨w.heap.size + 5, 5, none⟩ (.slice eam enm ecm)).heap.size)) [.int .i64 ek, .bool eb, .int .i64 ei, .string es, .slice eal enl ecl, .slice eam enm ecm]) := by
   have e61 := e6.out.2
   refine V.lies_keep (fun h => h) (fun y hy => ho y ?_) (fun y hy => ?_) _ hl6
   ·rcases hy with hy | hy
    ·have := hS y hy; omega
    ·have := hy.1; omega
   ·rcases hy with hy | hy
    ·exact .inl hy
    ·exact .inr ⟨by have := hy.1; omega, by have := hy.2; omega⟩
  generalize ((((((w6.setCell ⟨w.heap.size + 5, 0, none⟩ (.int .i64 ek)).setCell ⟨w.heap.size + 5, 1, none⟩ (.bool eb)).setCell ⟨w.heap.size + 5, 2, none⟩ (.int .i64 ei)).setCell ⟨w.heap.size + 5, 3, none⟩ (.string es)).setCell ⟨w.heap.size + 5, 4, none⟩ (.slice eal enl ecl)).setCell ⟨w.heap.size + 5, 5, none⟩ (.slice eam enm ecm)) = wm at *
  refine hK.out _ _ ⟨(Bm.block _ (by omega)).trans h0, (Bm.block _ (by omega)).trans h1, (Bm.cell (p := ⟨tg_, tof, none⟩) (show tg_ < w.heap.size + 5 by omega)).trans tk5⟩ (fun hHeld => ?_)
  clear hK K
  (try simp only [Act.put, zA, zB, zC])
  (refine tjA 11 ?_; (try simp only [Act.put, zA, zB, zC]))
  refine wpAnyH_done (by kernel_rfl) ?_ _
  (try dsimp only [Act.put, List.getElem_toArray, List.getElem_cons_succ, List.getElem_cons_zero, List.setIfInBounds_toArray, List.set_cons_zero, List.set_cons_succ])
  clear hHeld t0 t1 tt hl6 b6 hz6 ho gq sq q0 q1 q2 q3 q4 q5 fq mz6 mz bz hzd
  have BB : Below w.heap.size w wm := B5.trans (Bm.mono (by omega))
  have m2 := (Bm.block (w.heap.size + 2) (by omega)).trans h2
  have m3 := (Bm.block (w.heap.size + 3) (by omega)).trans h3
  have m4 := (Bm.block (w.heap.size + 4) (by omega)).trans h4
  obtain ⟨z0, z1, z2, z3, z4, z5⟩ := sixC m2
  obtain ⟨y0, y1, y2, y3, y4, y5⟩ := sixC m3
  obtain ⟨n0, n1, n2, n3, n4, n5⟩ := sixC m4
  obtain ⟨a0, a1, a2, a3, a4, a5⟩ := sixC mA
 rotate_left 1
 all_goals
  have fz := fBk m2
  have fy := fBk m3
  have n12 : ¬ w.heap.size + 2 = w.heap.size + 3 := by omega
  have n21 : ¬ w.heap.size + 3 = w.heap.size + 2 := by omega
  have HF := hmk (dn_fin hS BB (by have := Bm.size; omega) HL.out (null_liesS _ _))
  clear HL
  go_wp2_with fail
  go_region
  go_wp2_with fail
  (try simp only [Exit.inBlock, Exit.then])
  refine bodyPost_ret (v := .tuple #[.agg #[.int .i64 ek, .bool eb, .int .i64 ei, .string es, .slice eal enl ecl, .slice eam enm ecm], .agg #[.int .i64 0, .bool false, .int .i64 0, .string ⟨#[]⟩, .slice none 0 0, .slice none 0 0], .int .i64 (addR v t x).2]) ?_ rfl ?_
  rotate_left
  ·exact ⟨[.int .i64 ek, .bool eb, .int .i64 ei, .string es, .slice eal enl ecl, .slice eam enm ecm], [.int .i64 0, .bool false, .int .i64 0, .string ⟨#[]⟩, .slice none 0 0, .slice none 0 0], rfl, HF.out.1, HF.out.2.1, HF.out.2.2⟩
  ·rw [results_cell2_tmp rfl]
   go_simp
end Go.Proofs.YtnakligbogkmbaaGreatDoor
