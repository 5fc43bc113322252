import Derived.Test.YtgnofbigggmilaaGreatDoorG33
set_option linter.unusedSimpArgs false
set_option linter.unusedVariables false
namespace Go.Proofs.YtgnofbigggmilaaGreatDoor
open Go.RowKit Go.Lib
set_option maxHeartbeats 8000000 in
set_option maxRecDepth 100000 in
theorem add_any (v : V) (p : ByteArray) (x : V) (S : Nat → Prop) (cs ds : List Value) (w : World) (tg : Tg w) (hv : v.lies false w S cs) (hx : x.lies false w S ds) (hS : ∀ b, S b → b < w.heap.size) (hwt : v.wt ≤ 2147483648) (hwx : x.wt ≤ 2147483648) (hp : p.size ≤ 3900000) : Calls Tryz.prog 11 #[.agg cs.toArray, .string p, .agg ds.toArray] w (NwPost (addPF v p x) w) := by
 have HV := hmk hv
 have HX := hmk hx
 obtain ⟨k, b, i, s, al, nl, cl, am, nm, cm, rfl⟩ := V.ten hv
 obtain ⟨xk, xb, xi, xs, xal, xnl, xcl, xam, xnm, xcm, rfl⟩ := V.ten hx
 clear hv hx
 have b2 : Below w.heap.size w ((w.alloc (.cells #[.int .i64 k, .bool b, .int .i64 i, .string s, .slice al nl cl, .slice am nm cm] 25)).alloc (.cells #[.int .i64 xk, .bool xb, .int .i64 xi, .string xs, .slice xal xnl xcl, .slice xam xnm xcm] 25)) := two_below w _ _
 have hz2 : ((w.alloc (.cells #[.int .i64 k, .bool b, .int .i64 i, .string s, .slice al nl cl, .slice am nm cm] 25)).alloc (.cells #[.int .i64 xk, .bool xb, .int .i64 xi, .string xs, .slice xal xnl xcl, .slice xam xnm xcm] 25)).heap.size = w.heap.size + 2 := by rw [alloc_size, alloc_size]
 have b3 : Below ((w.alloc (.cells #[.int .i64 k, .bool b, .int .i64 i, .string s, .slice al nl cl, .slice am nm cm] 25)).alloc (.cells #[.int .i64 xk, .bool xb, .int .i64 xi, .string xs, .slice xal xnl xcl, .slice xam xnm xcm] 25)).heap.size ((w.alloc (.cells #[.int .i64 k, .bool b, .int .i64 i, .string s, .slice al nl cl, .slice am nm cm] 25)).alloc (.cells #[.int .i64 xk, .bool xb, .int .i64 xi, .string xs, .slice xal xnl xcl, .slice xam xnm xcm] 25)) (((w.alloc (.cells #[.int .i64 k, .bool b, .int .i64 i, .string s, .slice al nl cl, .slice am nm cm] 25)).alloc (.cells #[.int .i64 xk, .bool xb, .int .i64 xi, .string xs, .slice xal xnl xcl, .slice xam xnm xcm] 25)).alloc (.cells #[.int .i64 0, .bool false, .int .i64 0, .string ⟨#[]⟩, .slice none 0 0, .slice none 0 0] 25)) := one_belowG _ _
 have hz3 : (((w.alloc (.cells #[.int .i64 k, .bool b, .int .i64 i, .string s, .slice al nl cl, .slice am nm cm] 25)).alloc (.cells #[.int .i64 xk, .bool xb, .int .i64 xi, .string xs, .slice xal xnl xcl, .slice xam xnm xcm] 25)).alloc (.cells #[.int .i64 0, .bool false, .int .i64 0, .string ⟨#[]⟩, .slice none 0 0, .slice none 0 0] 25)).heap.size = w.heap.size + 3 := by rw [alloc_size, hz2]
 have b4 : Below (((w.alloc (.cells #[.int .i64 k, .bool b, .int .i64 i, .string s, .slice al nl cl, .slice am nm cm] 25)).alloc (.cells #[.int .i64 xk, .bool xb, .int .i64 xi, .string xs, .slice xal xnl xcl, .slice xam xnm xcm] 25)).alloc (.cells #[.int .i64 0, .bool false, .int .i64 0, .string ⟨#[]⟩, .slice none 0 0, .slice none 0 0] 25)).heap.size (((w.alloc (.cells #[.int .i64 k, .bool b, .int .i64 i, .string s, .slice al nl cl, .slice am nm cm] 25)).alloc (.cells #[.int .i64 xk, .bool xb, .int .i64 xi, .string xs, .slice xal xnl xcl, .slice xam xnm xcm] 25)).alloc (.cells #[.int .i64 0, .bool false, .int .i64 0, .string ⟨#[]⟩, .slice none 0 0, .slice none 0 0] 25)) ((((w.alloc (.cells #[.int .i64 k, .bool b, .int .i64 i, .string s, .slice al nl cl, .slice am nm cm] 25)).alloc (.cells #[.int .i64 xk, .bool xb, .int .i64 xi, .string xs, .slice xal xnl xcl, .slice xam xnm xcm] 25)).alloc (.cells #[.int .i64 0, .bool false, .int .i64 0, .string ⟨#[]⟩, .slice none 0 0, .slice none 0 0] 25)).alloc (.cells #[.int .i64 xk, .bool xb, .int .i64 xi, .string xs, .slice xal xnl xcl, .slice xam xnm xcm] 25)) := one_belowG _ _
 have hz4 : ((((w.alloc (.cells #[.int .i64 k, .bool b, .int .i64 i, .string s, .slice al nl cl, .slice am nm cm] 25)).alloc (.cells #[.int .i64 xk, .bool xb, .int .i64 xi, .string xs, .slice xal xnl xcl, .slice xam xnm xcm] 25)).alloc (.cells #[.int .i64 0, .bool false, .int .i64 0, .string ⟨#[]⟩, .slice none 0 0, .slice none 0 0] 25)).alloc (.cells #[.int .i64 xk, .bool xb, .int .i64 xi, .string xs, .slice xal xnl xcl, .slice xam xnm xcm] 25)).heap.size = w.heap.size + 4 := by rw [alloc_size, hz3]
 have B3 : Below w.heap.size w (((w.alloc (.cells #[.int .i64 k, .bool b, .int .i64 i, .string s, .slice al nl cl, .slice am nm cm] 25)).alloc (.cells #[.int .i64 xk, .bool xb, .int .i64 xi, .string xs, .slice xal xnl xcl, .slice xam xnm xcm] 25)).alloc (.cells #[.int .i64 0, .bool false, .int .i64 0, .string ⟨#[]⟩, .slice none 0 0, .slice none 0 0] 25)) := b2.trans (b3.mono (by omega))
 have B4 : Below w.heap.size w ((((w.alloc (.cells #[.int .i64 k, .bool b, .int .i64 i, .string s, .slice al nl cl, .slice am nm cm] 25)).alloc (.cells #[.int .i64 xk, .bool xb, .int .i64 xi, .string xs, .slice xal xnl xcl, .slice xam xnm xcm] 25)).alloc (.cells #[.int .i64 0, .bool false, .int .i64 0, .string ⟨#[]⟩, .slice none 0 0, .slice none 0 0] 25)).alloc (.cells #[.int .i64 xk, .bool xb, .int .i64 xi, .string xs, .slice xal xnl xcl, .slice xam xnm xcm] 25)) := B3.trans (b4.mono (by omega))
 have h0 := (b4.block w.heap.size (by omega)).trans ((b3.block w.heap.size (by omega)).trans (alloc2_keep1 w (.cells #[.int .i64 k, .bool b, .int .i64 i, .string s, .slice al nl cl, .slice am nm cm] 25) (.cells #[.int .i64 xk, .bool xb, .int .i64 xi, .string xs, .slice xal xnl xcl, .slice xam xnm xcm] 25)))
 have h1 := (b4.block (w.heap.size + 1) (by omega)).trans ((b3.block (w.heap.size + 1) (by omega)).trans (alloc2_new w (.cells #[.int .i64 k, .bool b, .int .i64 i, .string s, .slice al nl cl, .slice am nm cm] 25) (.cells #[.int .i64 xk, .bool xb, .int .i64 xi, .string xs, .slice xal xnl xcl, .slice xam xnm xcm] 25)))
 have h2 := heap_alloc_new ((w.alloc (.cells #[.int .i64 k, .bool b, .int .i64 i, .string s, .slice al nl cl, .slice am nm cm] 25)).alloc (.cells #[.int .i64 xk, .bool xb, .int .i64 xi, .string xs, .slice xal xnl xcl, .slice xam xnm xcm] 25)) (.cells #[.int .i64 0, .bool false, .int .i64 0, .string ⟨#[]⟩, .slice none 0 0, .slice none 0 0] 25)
 rw [hz2] at h2
 have h2 := (b4.block (w.heap.size + 2) (by omega)).trans h2
 have h3 := heap_alloc_new (((w.alloc (.cells #[.int .i64 k, .bool b, .int .i64 i, .string s, .slice al nl cl, .slice am nm cm] 25)).alloc (.cells #[.int .i64 xk, .bool xb, .int .i64 xi, .string xs, .slice xal xnl xcl, .slice xam xnm xcm] 25)).alloc (.cells #[.int .i64 0, .bool false, .int .i64 0, .string ⟨#[]⟩, .slice none 0 0, .slice none 0 0] 25)) (.cells #[.int .i64 xk, .bool xb, .int .i64 xi, .string xs, .slice xal xnl xcl, .slice xam xnm xcm] 25)
 rw [hz3] at h3
 have g0 := (b3.block w.heap.size (by omega)).trans (alloc2_keep1 w (.cells #[.int .i64 k, .bool b, .int .i64 i, .string s, .slice al nl cl, .slice am nm cm] 25) (.cells #[.int .i64 xk, .bool xb, .int .i64 xi, .string xs, .slice xal xnl xcl, .slice xam xnm xcm] 25))
 have g1 := (b3.block (w.heap.size + 1) (by omega)).trans (alloc2_new w (.cells #[.int .i64 k, .bool b, .int .i64 i, .string s, .slice al nl cl, .slice am nm cm] 25) (.cells #[.int .i64 xk, .bool xb, .int .i64 xi, .string xs, .slice xal xnl xcl, .slice xam xnm xcm] 25))
 have r0 : (((w.alloc (.cells #[.int .i64 k, .bool b, .int .i64 i, .string s, .slice al nl cl, .slice am nm cm] 25)).alloc (.cells #[.int .i64 xk, .bool xb, .int .i64 xi, .string xs, .slice xal xnl xcl, .slice xam xnm xcm] 25)).alloc (.cells #[.int .i64 0, .bool false, .int .i64 0, .string ⟨#[]⟩, .slice none 0 0, .slice none 0 0] 25)).cell? ⟨w.heap.size, 0, none⟩ = some (.int .i64 k) := by rw [cell_of_block g0]; rfl
 have r1 : (((w.alloc (.cells #[.int .i64 k, .bool b, .int .i64 i, .string s, .slice al nl cl, .slice am nm cm] 25)).alloc (.cells #[.int .i64 xk, .bool xb, .int .i64 xi, .string xs, .slice xal xnl xcl, .slice xam xnm xcm] 25)).alloc (.cells #[.int .i64 0, .bool false, .int .i64 0, .string ⟨#[]⟩, .slice none 0 0, .slice none 0 0] 25)).cell? ⟨w.heap.size, 1, none⟩ = some (.bool b) := by rw [cell_of_block g0]; rfl
 have r2 : (((w.alloc (.cells #[.int .i64 k, .bool b, .int .i64 i, .string s, .slice al nl cl, .slice am nm cm] 25)).alloc (.cells #[.int .i64 xk, .bool xb, .int .i64 xi, .string xs, .slice xal xnl xcl, .slice xam xnm xcm] 25)).alloc (.cells #[.int .i64 0, .bool false, .int .i64 0, .string ⟨#[]⟩, .slice none 0 0, .slice none 0 0] 25)).cell? ⟨w.heap.size, 2, none⟩ = some (.int .i64 i) := by rw [cell_of_block g0]; rfl
 have r3 : (((w.alloc (.cells #[.int .i64 k, .bool b, .int .i64 i, .string s, .slice al nl cl, .slice am nm cm] 25)).alloc (.cells #[.int .i64 xk, .bool xb, .int .i64 xi, .string xs, .slice xal xnl xcl, .slice xam xnm xcm] 25)).alloc (.cells #[.int .i64 0, .bool false, .int .i64 0, .string ⟨#[]⟩, .slice none 0 0, .slice none 0 0] 25)).cell? ⟨w.heap.size, 3, none⟩ = some (.string s) := by rw [cell_of_block g0]; rfl
 have r4 : (((w.alloc (.cells #[.int .i64 k, .bool b, .int .i64 i, .string s, .slice al nl cl, .slice am nm cm] 25)).alloc (.cells #[.int .i64 xk, .bool xb, .int .i64 xi, .string xs, .slice xal xnl xcl, .slice xam xnm xcm] 25)).alloc (.cells #[.int .i64 0, .bool false, .int .i64 0, .string ⟨#[]⟩, .slice none 0 0, .slice none 0 0] 25)).cell? ⟨w.heap.size, 4, none⟩ = some (.slice al nl cl) := by rw [cell_of_block g0]; rfl
 have r5 : (((w.alloc (.cells #[.int .i64 k, .bool b, .int .i64 i, .string s, .slice al nl cl, .slice am nm cm] 25)).alloc (.cells #[.int .i64 xk, .bool xb, .int .i64 xi, .string xs, .slice xal xnl xcl, .slice xam xnm xcm] 25)).alloc (.cells #[.int .i64 0, .bool false, .int .i64 0, .string ⟨#[]⟩, .slice none 0 0, .slice none 0 0] 25)).cell? ⟨w.heap.size, 5, none⟩ = some (.slice am nm cm) := by rw [cell_of_block g0]; rfl
 have e0 : (((w.alloc (.cells #[.int .i64 k, .bool b, .int .i64 i, .string s, .slice al nl cl, .slice am nm cm] 25)).alloc (.cells #[.int .i64 xk, .bool xb, .int .i64 xi, .string xs, .slice xal xnl xcl, .slice xam xnm xcm] 25)).alloc (.cells #[.int .i64 0, .bool false, .int .i64 0, .string ⟨#[]⟩, .slice none 0 0, .slice none 0 0] 25)).cell? ⟨w.heap.size + 1, 0, none⟩ = some (.int .i64 xk) := by rw [cell_of_block g1]; rfl
 have e1 : (((w.alloc (.cells #[.int .i64 k, .bool b, .int .i64 i, .string s, .slice al nl cl, .slice am nm cm] 25)).alloc (.cells #[.int .i64 xk, .bool xb, .int .i64 xi, .string xs, .slice xal xnl xcl, .slice xam xnm xcm] 25)).alloc (.cells #[.int .i64 0, .bool false, .int .i64 0, .string ⟨#[]⟩, .slice none 0 0, .slice none 0 0] 25)).cell? ⟨w.heap.size + 1, 1, none⟩ = some (.bool xb) := by rw [cell_of_block g1]; rfl
 have e2 : (((w.alloc (.cells #[.int .i64 k, .bool b, .int .i64 i, .string s, .slice al nl cl, .slice am nm cm] 25)).alloc (.cells #[.int .i64 xk, .bool xb, .int .i64 xi, .string xs, .slice xal xnl xcl, .slice xam xnm xcm] 25)).alloc (.cells #[.int .i64 0, .bool false, .int .i64 0, .string ⟨#[]⟩, .slice none 0 0, .slice none 0 0] 25)).cell? ⟨w.heap.size + 1, 2, none⟩ = some (.int .i64 xi) := by rw [cell_of_block g1]; rfl
 have e3 : (((w.alloc (.cells #[.int .i64 k, .bool b, .int .i64 i, .string s, .slice al nl cl, .slice am nm cm] 25)).alloc (.cells #[.int .i64 xk, .bool xb, .int .i64 xi, .string xs, .slice xal xnl xcl, .slice xam xnm xcm] 25)).alloc (.cells #[.int .i64 0, .bool false, .int .i64 0, .string ⟨#[]⟩, .slice none 0 0, .slice none 0 0] 25)).cell? ⟨w.heap.size + 1, 3, none⟩ = some (.string xs) := by rw [cell_of_block g1]; rfl
 have e4 : (((w.alloc (.cells #[.int .i64 k, .bool b, .int .i64 i, .string s, .slice al nl cl, .slice am nm cm] 25)).alloc (.cells #[.int .i64 xk, .bool xb, .int .i64 xi, .string xs, .slice xal xnl xcl, .slice xam xnm xcm] 25)).alloc (.cells #[.int .i64 0, .bool false, .int .i64 0, .string ⟨#[]⟩, .slice none 0 0, .slice none 0 0] 25)).cell? ⟨w.heap.size + 1, 4, none⟩ = some (.slice xal xnl xcl) := by rw [cell_of_block g1]; rfl
 have e5 : (((w.alloc (.cells #[.int .i64 k, .bool b, .int .i64 i, .string s, .slice al nl cl, .slice am nm cm] 25)).alloc (.cells #[.int .i64 xk, .bool xb, .int .i64 xi, .string xs, .slice xal xnl xcl, .slice xam xnm xcm] 25)).alloc (.cells #[.int .i64 0, .bool false, .int .i64 0, .string ⟨#[]⟩, .slice none 0 0, .slice none 0 0] 25)).cell? ⟨w.heap.size + 1, 5, none⟩ = some (.slice xam xnm xcm) := by rw [cell_of_block g1]; rfl
 have HT : Hid (∀ W, Below w.heap.size w W → Tg W) := fun W hb => tg.below hb tg.z
 have HRd := hmk (ready2_any v p x S _ _ (w.heap.size + 3) ((((w.alloc (.cells #[.int .i64 k, .bool b, .int .i64 i, .string s, .slice al nl cl, .slice am nm cm] 25)).alloc (.cells #[.int .i64 xk, .bool xb, .int .i64 xi, .string xs, .slice xal xnl xcl, .slice xam xnm xcm] 25)).alloc (.cells #[.int .i64 0, .bool false, .int .i64 0, .string ⟨#[]⟩, .slice none 0 0, .slice none 0 0] 25)).alloc (.cells #[.int .i64 xk, .bool xb, .int .i64 xi, .string xs, .slice xal xnl xcl, .slice xam xnm xcm] 25)) ⟨(tg.below B4 tg.z).t.u, by have := (tg.below B4 tg.z).z; omega⟩ (tg.below B4 tg.z).t (lies_below HV.out hS B4) (lies_below HX.out hS B4) (fun q u hu => by rw [Nat.zero_add, cell_of_block h3]; simpa using hu) (by omega) (fun x hx => Nat.lt_of_lt_of_le (hS x hx) B4.size) (by omega) (by omega) hp)
 have hmf : ∀ (fn : Fn) (first cap : Array Value) (w : World), (Instr.makeFunc fn first cap).run Tryz.prog w = .ok (.func fn first cap) w := fun _ _ _ _ => rfl
 clear b2 b3 b4 hz2 g0 g1 B3
 go_enter Tryz.func11, Tryz.ntmps11
 go_wp2_with fail
 clear r0 r1 r2 r3 r4 r5 e0 e1 e2 e3 e4 e5 hz3
 generalize ((((w.alloc (.cells #[.int .i64 k, .bool b, .int .i64 i, .string s, .slice al nl cl, .slice am nm cm] 25)).alloc (.cells #[.int .i64 xk, .bool xb, .int .i64 xi, .string xs, .slice xal xnl xcl, .slice xam xnm xcm] 25)).alloc (.cells #[.int .i64 0, .bool false, .int .i64 0, .string ⟨#[]⟩, .slice none 0 0, .slice none 0 0] 25)).alloc (.cells #[.int .i64 xk, .bool xb, .int .i64 xi, .string xs, .slice xal xnl xcl, .slice xam xnm xcm] 25)) = w0 at *
 refine HRd.out.mono ?_
 rintro e w1 ⟨tv, l, rfl, hd, hn, hl, b1⟩
 have hz1 := b1.size
 have B1 := B4.trans (b1.mono (by omega))
 have t0 := (b1.block w.heap.size (by omega)).trans h0
 have t1 := (b1.block (w.heap.size + 1) (by omega)).trans h1
 have t2 := (b1.block (w.heap.size + 2) (by omega)).trans h2
 have z0 : w1.cell? ⟨w.heap.size + 2, 0, none⟩ = some (.int .i64 0) := by rw [cell_of_block t2]; rfl
 have z1 : w1.cell? ⟨w.heap.size + 2, 1, none⟩ = some (.bool false) := by rw [cell_of_block t2]; rfl
 have z2 : w1.cell? ⟨w.heap.size + 2, 2, none⟩ = some (.int .i64 0) := by rw [cell_of_block t2]; rfl
 have z3 : w1.cell? ⟨w.heap.size + 2, 3, none⟩ = some (.string ⟨#[]⟩) := by rw [cell_of_block t2]; rfl
 have z4 : w1.cell? ⟨w.heap.size + 2, 4, none⟩ = some (.slice none 0 0) := by rw [cell_of_block t2]; rfl
 have z5 : w1.cell? ⟨w.heap.size + 2, 5, none⟩ = some (.slice none 0 0) := by rw [cell_of_block t2]; rfl
 have rf := frozen_of_block t2
 by_cases hrd : rd2F v p x = 0
 ·obtain ⟨hrv, hcx⟩ := rd2_zero hrd
  obtain ⟨hce, o, ho⟩ := rd_zero hrv
  have hG : allG v := rd_allG hrv
  have hdo : dat l = o := by have := hd hrd; rw [ho] at this; exact this
  have htl : l = toksOf p := by rw [toksOf, ho]; exact toks_of hdo
  have hbd := tok_len ho hdo
  rw [hrd]
  by_cases hne : l = []
  ·have HF : Hid (addPF v p x = nweF x 0) := by show _ = _; rw [addPF, if_pos hrd, ← htl, if_pos hne]
   subst hne
   obtain ⟨⟨ta, tc, rfl⟩, _⟩ := hl
   have a0 : w1.cell? ⟨w.heap.size + 1, 0, none⟩ = some (.int .i64 xk) := by rw [cell_of_block t1]; rfl
   have a1 : w1.cell? ⟨w.heap.size + 1, 1, none⟩ = some (.bool xb) := by rw [cell_of_block t1]; rfl
   have a2 : w1.cell? ⟨w.heap.size + 1, 2, none⟩ = some (.int .i64 xi) := by rw [cell_of_block t1]; rfl
   have a3 : w1.cell? ⟨w.heap.size + 1, 3, none⟩ = some (.string xs) := by rw [cell_of_block t1]; rfl
   have a4 : w1.cell? ⟨w.heap.size + 1, 4, none⟩ = some (.slice xal xnl xcl) := by rw [cell_of_block t1]; rfl
   have a5 : w1.cell? ⟨w.heap.size + 1, 5, none⟩ = some (.slice xam xnm xcm) := by rw [cell_of_block t1]; rfl
   have hnw := nwe_any x 0 S _ w1 ⟨(HT.out w1 B1).t.u, by have := (HT.out w1 B1).z; omega⟩ (lies_below HX.out hS B1) (fun y hy => Nat.lt_of_lt_of_le (hS y hy) B1.size) (by omega)
   clear hd hn hbd hdo htl ho hce hG hcx hrv z0 z1 z2 z3 z4 z5 rf
   go_wp2_with fail
   refine hnw.mono ?_
   rintro e wf ⟨csu, rfl, hlu, bu⟩
   obtain ⟨uk, ub, ui, us, ual, unl, ucl, uam, unm, ucm, rfl⟩ := V.ten hlu
   have hzf := bu.size
   have Bf := B1.trans (bu.mono B1.size)
   have x1 := (bu.block (w.heap.size + 2) (by omega)).trans t2
   have HU : Hid ((nweF x 0).1.lies false wf (From (w.heap.size + 3) wf) [.int .i64 uk, .bool ub, .int .i64 ui, .string us, .slice ual unl ucl, .slice uam unm ucm]) := V.lies_keep (fun h => h) (fun _ _ => rfl) (fun x hx => ⟨by have := hx.1; omega, hx.2⟩) _ hlu
   clear hlu bu hnw a0 a1 a2 a3 a4 a5
   generalize nweF x 0 = NF at *
   obtain ⟨ny, ne⟩ := NF
   have y0 : wf.cell? ⟨w.heap.size + 2, 0, none⟩ = some (.int .i64 0) := by rw [cell_of_block x1]; rfl
   have y1 : wf.cell? ⟨w.heap.size + 2, 1, none⟩ = some (.bool false) := by rw [cell_of_block x1]; rfl
   have y2 : wf.cell? ⟨w.heap.size + 2, 2, none⟩ = some (.int .i64 0) := by rw [cell_of_block x1]; rfl
   have y3 : wf.cell? ⟨w.heap.size + 2, 3, none⟩ = some (.string ⟨#[]⟩) := by rw [cell_of_block x1]; rfl
   have y4 : wf.cell? ⟨w.heap.size + 2, 4, none⟩ = some (.slice none 0 0) := by rw [cell_of_block x1]; rfl
   have y5 : wf.cell? ⟨w.heap.size + 2, 5, none⟩ = some (.slice none 0 0) := by rw [cell_of_block x1]; rfl
   have fr := frozen_of_block x1
   go_wp2_with fail
   (try simp only [Exit.inBlock, Exit.then])
   refine bodyPost_ret (v := .tuple #[.agg #[.int .i64 uk, .bool ub, .int .i64 ui, .string us, .slice ual unl ucl, .slice uam unm ucm], .int .i64 ne]) ?_ rfl ?_
   rotate_left
   ·rw [HF.out]
    exact ⟨[.int .i64 uk, .bool ub, .int .i64 ui, .string us, .slice ual unl ucl, .slice uam unm ucm], rfl, V.lies_keep (fun h => h) (fun _ _ => rfl) (fun x hx => ⟨by have := hx.1; omega, hx.2⟩) _ (lies_set6A HU.out (by omega) _ _ _ _ _ _ _ _ _ _ _ _), Below.set6 Bf (by omega) _ _ _ _ _ _ _ _ _ _ _ _⟩
   ·rw [results_cell_tmp rfl]
    go_simp
  ·have HF : Hid (addPF v p x = nweF (wkV (fun y => addF y (lastT l) x) v l.dropLast).1 (wkV (fun y => addF y (lastT l) x) v l.dropLast).2.1) := by show _ = _; rw [addPF, if_pos hrd, ← htl, if_neg hne]
   have CS := hmk (psplit_any l tv w1 hl hne (by omega))
   have hlt : (lastT l).size ≤ 3900000 := by
    have hm : lastT l ∈ l := by
     rw [lastT, List.getLastD_eq_getLast?, List.getLast?_eq_some_getLast hne]
     exact List.getLast_mem hne
    exact Nat.le_trans (hbd.2 _ hm) hp
   have hdl : ∀ t ∈ l.dropLast, t.size ≤ 281474976710656 := fun t ht => by have := hbd.2 t (List.dropLast_subset l ht); omega
   have hdn : l.dropLast.length ≤ 4000000 := by rw [List.length_dropLast]; omega
   have hln : ¬ (l.length : Int) = 0 := by have := List.length_pos_iff.2 hne; omega
   obtain ⟨⟨ta, tc, rfl⟩, _⟩ := hl
   have hwv : v.wt ≤ 1114112 := wt_of_chk (by rw [← chkE40]; exact hce)
   have HWt := hmk (wk_heavy (fun y => addF y (lastT l) x) ((lastT l).size + x.wt) (fun y => add_heavy _ _ _) l.dropLast v)
   clear hd hn hbd hdo htl ho hce hcx hrv
   go_wp2_with fail
   refine CS.out.mono ?_
   rintro e w2 ⟨tb, rfl, htk, c2⟩
   have hzc := c2.size
   have C2 := B1.trans (c2.mono B1.size)
   generalize lastT l = la at *
   generalize l.dropLast = ld at *
   have d1 : Below w2.heap.size w2 (w2.alloc (.cells #[.string la] 9)) := one_belowG _ _
   have hd1 := heap_alloc_new w2 (.cells #[.string la] 9)
   have md1 : (w2.alloc (.cells #[.string la] 9)).heap.size = w2.heap.size + 1 := alloc_size _ _
   have D1 := C2.trans (d1.mono C2.size)
   have s0 := (d1.block w.heap.size (by omega)).trans ((c2.block w.heap.size (by omega)).trans t0)
   have s1 := (d1.block (w.heap.size + 1) (by omega)).trans ((c2.block (w.heap.size + 1) (by omega)).trans t1)
   have s2 := (d1.block (w.heap.size + 2) (by omega)).trans ((c2.block (w.heap.size + 2) (by omega)).trans t2)
   have a0 : (w2.alloc (.cells #[.string la] 9)).cell? ⟨w.heap.size, 0, none⟩ = some (.int .i64 k) := by rw [cell_of_block s0]; rfl
   have a1 : (w2.alloc (.cells #[.string la] 9)).cell? ⟨w.heap.size, 1, none⟩ = some (.bool b) := by rw [cell_of_block s0]; rfl
   have a2 : (w2.alloc (.cells #[.string la] 9)).cell? ⟨w.heap.size, 2, none⟩ = some (.int .i64 i) := by rw [cell_of_block s0]; rfl
   have a3 : (w2.alloc (.cells #[.string la] 9)).cell? ⟨w.heap.size, 3, none⟩ = some (.string s) := by rw [cell_of_block s0]; rfl
   have a4 : (w2.alloc (.cells #[.string la] 9)).cell? ⟨w.heap.size, 4, none⟩ = some (.slice al nl cl) := by rw [cell_of_block s0]; rfl
   have a5 : (w2.alloc (.cells #[.string la] 9)).cell? ⟨w.heap.size, 5, none⟩ = some (.slice am nm cm) := by rw [cell_of_block s0]; rfl
   have htk' := htk.below d1
   have hSz : ∀ y, S y → y < (w2.alloc (.cells #[.string la] 9)).heap.size := fun y hy => Nat.lt_of_lt_of_le (hS y hy) D1.size
   have hSG : ¬ S (w.heap.size + 1) := fun h => by have := hS _ h; omega
   have eg : ∀ args w, (callFunc 41 args).run Tryz.prog w = .ok (.enter 41 args) w := enters_of Tryz.func41 (by kernel_rfl) rfl
   have hwk := walk_any2 41 (.pointer (some ⟨w2.heap.size, 0, none⟩)) (.pointer (some ⟨w.heap.size + 1, 0, none⟩)) (fun y => addF y la x) S (w.heap.size + 1) (fun _ _ _ => True) eg hSG ld hdl hdn v _ tb (w2.alloc (.cells #[.string la] 9)) (HT.out _ D1) (lies_below HV.out hS D1) hSz (by omega) hwv hG htk' (adddo S (w.heap.size + 1) w2.heap.size (w2.alloc (.cells #[.string la] 9)) (HT.out _ D1) la x xk xb xi xs xal xnl xcl xam xnm xcm hSz (by omega) (by omega) hd1 (by omega) s1 (lies_below HX.out hS D1))
   clear CS hdl htk htk' hG z0 z1 z2 z3 z4 z5 rf
   generalize wkV (fun y => addF y la x) v ld = R3 at *
   obtain ⟨ry, re, rx⟩ := R3
   go_wp2_with fail
   clear a0 a1 a2 a3 a4 a5
   generalize (w2.alloc (.cells #[.string la] 9)) = w3 at *
   refine hwk.mono ?_
   rintro e ww ⟨cw, rfl, hlw, gw, _, _⟩
   have hzw := gw.size
   obtain ⟨yk, yb, yi, ys, yal, ynl, ycl, yam, ynm, ycm, rfl⟩ := V.ten hlw
   have Bw : Below w.heap.size w ww := ⟨gw.os.trans D1.os, gw.tape.trans D1.tape, gw.output.trans D1.output, Nat.le_trans D1.size gw.size, fun q hq => (gw.block q (by omega) (fun e => by have := Option.some.inj e; omega)).trans (D1.block q hq)⟩
   have v2 := (gw.block (w.heap.size + 2) (by omega) (fun e => by have := Option.some.inj e; omega)).trans s2
   have hnw := nwe_any ry re (OrNew S w3 ww) _ ww ⟨(HT.out ww Bw).t.u, by have := (HT.out ww Bw).z; omega⟩ hlw (fun y hy => by rcases hy with hy | hy; exact Nat.lt_of_lt_of_le (hS y hy) Bw.size; exact hy.2) (Nat.le_trans HWt.out (by omega))
   clear hwk hlw
   go_wp2_with fail
   refine hnw.mono ?_
   rintro e wf ⟨csu, rfl, hlu, bu⟩
   obtain ⟨uk, ub, ui, us, ual, unl, ucl, uam, unm, ucm, rfl⟩ := V.ten hlu
   have hzf := bu.size
   have Bf := Bw.trans (bu.mono Bw.size)
   have x1 := (bu.block (w.heap.size + 2) (by omega)).trans v2
   have HU : Hid ((nweF ry re).1.lies false wf (From (w.heap.size + 3) wf) [.int .i64 uk, .bool ub, .int .i64 ui, .string us, .slice ual unl ucl, .slice uam unm ucm]) := V.lies_keep (fun h => h) (fun _ _ => rfl) (fun x hx => ⟨by have := hx.1; omega, hx.2⟩) _ hlu
   clear hlu bu hnw
   generalize nweF ry re = NF at *
   obtain ⟨ny, ne⟩ := NF
   have y0 : wf.cell? ⟨w.heap.size + 2, 0, none⟩ = some (.int .i64 0) := by rw [cell_of_block x1]; rfl
   have y1 : wf.cell? ⟨w.heap.size + 2, 1, none⟩ = some (.bool false) := by rw [cell_of_block x1]; rfl
   have y2 : wf.cell? ⟨w.heap.size + 2, 2, none⟩ = some (.int .i64 0) := by rw [cell_of_block x1]; rfl
   have y3 : wf.cell? ⟨w.heap.size + 2, 3, none⟩ = some (.string ⟨#[]⟩) := by rw [cell_of_block x1]; rfl
   have y4 : wf.cell? ⟨w.heap.size + 2, 4, none⟩ = some (.slice none 0 0) := by rw [cell_of_block x1]; rfl
   have y5 : wf.cell? ⟨w.heap.size + 2, 5, none⟩ = some (.slice none 0 0) := by rw [cell_of_block x1]; rfl
   have fr := frozen_of_block x1
   go_wp2_with fail
   (try simp only [Exit.inBlock, Exit.then])
   refine bodyPost_ret (v := .tuple #[.agg #[.int .i64 uk, .bool ub, .int .i64 ui, .string us, .slice ual unl ucl, .slice uam unm ucm], .int .i64 ne]) ?_ rfl ?_
   rotate_left
   ·rw [HF.out]
    exact ⟨[.int .i64 uk, .bool ub, .int .i64 ui, .string us, .slice ual unl ucl, .slice uam unm ucm], rfl, V.lies_keep (fun h => h) (fun _ _ => rfl) (fun x hx => ⟨by have := hx.1; omega, hx.2⟩) _ (lies_set6A HU.out (by omega) _ _ _ _ _ _ _ _ _ _ _ _), Below.set6 Bf (by omega) _ _ _ _ _ _ _ _ _ _ _ _⟩
   ·rw [results_cell_tmp rfl]
    go_simp
 ·have HN : Hid (addPF v p x = (nullV, rd2F v p x)) := by show _ = _; rw [addPF, if_neg hrd]
  obtain ⟨rfl, rfl⟩ := hn hrd
  generalize rd2F v p x = rd at *
  go_wp2_with fail
  (try simp only [Exit.inBlock, Exit.then])
  refine bodyPost_ret (v := .tuple #[.agg #[.int .i64 0, .bool false, .int .i64 0, .string ⟨#[]⟩, .slice none 0 0, .slice none 0 0], .int .i64 rd]) ?_ rfl ?_
  rotate_left
  ·rw [HN.out]
   exact ⟨[.int .i64 0, .bool false, .int .i64 0, .string ⟨#[]⟩, .slice none 0 0, .slice none 0 0], rfl, null_lies _ _, by first | exact B1 | exact Below.set6 B1 (by omega) _ _ _ _ _ _ _ _ _ _ _ _⟩
  ·rw [results_cell_tmp rfl]
   go_simp
end Go.Proofs.YtgnofbigggmilaaGreatDoor
