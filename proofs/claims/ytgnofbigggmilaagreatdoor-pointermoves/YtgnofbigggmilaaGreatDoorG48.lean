/- joined: SetA CvsA -/
import Derived.Test.YtgnofbigggmilaaGreatDoorG32
set_option linter.unusedSimpArgs false
set_option linter.unusedVariables false
namespace Go.Proofs.YtgnofbigggmilaaGreatDoor
open Go.RowKit Go.Lib
theorem set_heavy (v x : V) (ts : List ByteArray) : (wkV (fun _ => (x, 0)) v ts).1.wt ≤ v.wt + x.wt := wk_heavy _ x.wt (fun y => by have := V.wt_pos y; show x.wt ≤ _; omega) ts v
set_option maxHeartbeats 8000000 in
set_option maxRecDepth 100000 in
theorem set_any (v : V) (p : ByteArray) (x : V) (S : Nat → Prop) (cs ds : List Value) (w : World) (tg : Tg w) (hv : v.lies false w S cs) (hx : x.lies false w S ds) (hS : ∀ b, S b → b < w.heap.size) (hwt : v.wt ≤ 2147483648) (hwx : x.wt ≤ 2147483648) (hp : p.size ≤ 3900000) : Calls Tryz.prog 10 #[.agg cs.toArray, .string p, .agg ds.toArray] w (NwPost (setF v p x) w) := by
 have HV := hmk hv
 have HX := hmk hx
 obtain ⟨k, b, i, s, al, nl, cl, am, nm, cm, rfl⟩ := V.ten hv
 obtain ⟨xk, xb, xi, xs, xal, xnl, xcl, xam, xnm, xcm, rfl⟩ := V.ten hx
 clear hv hx
 have b2 : Below w.heap.size w ((w.alloc (.cells #[.int .i64 k, .bool b, .int .i64 i, .string s, .slice al nl cl, .slice am nm cm] 25)).alloc (.cells #[.int .i64 xk, .bool xb, .int .i64 xi, .string xs, .slice xal xnl xcl, .slice xam xnm xcm] 25)) := two_below w _ _
 have hz2 : ((w.alloc (.cells #[.int .i64 k, .bool b, .int .i64 i, .string s, .slice al nl cl, .slice am nm cm] 25)).alloc (.cells #[.int .i64 xk, .bool xb, .int .i64 xi, .string xs, .slice xal xnl xcl, .slice xam xnm xcm] 25)).heap.size = w.heap.size + 2 := by rw [alloc_size, alloc_size]
 have b3 : Below ((w.alloc (.cells #[.int .i64 k, .bool b, .int .i64 i, .string s, .slice al nl cl, .slice am nm cm] 25)).alloc (.cells #[.int .i64 xk, .bool xb, .int .i64 xi, .string xs, .slice xal xnl xcl, .slice xam xnm xcm] 25)).heap.size ((w.alloc (.cells #[.int .i64 k, .bool b, .int .i64 i, .string s, .slice al nl cl, .slice am nm cm] 25)).alloc (.cells #[.int .i64 xk, .bool xb, .int .i64 xi, .string xs, .slice xal xnl xcl, .slice xam xnm xcm] 25)) (((w.alloc (.cells #[.int .i64 k, .bool b, .int .i64 i, .string s, .slice al nl cl, .slice am nm cm] 25)).alloc (.cells #[.int .i64 xk, .bool xb, .int .i64 xi, .string xs, .slice xal xnl xcl, .slice xam xnm xcm] 25)).alloc (.cells #[.int .i64 0, .bool false, .int .i64 0, .string ⟨#[]⟩, .slice none 0 0, .slice none 0 0] 25)) := one_belowG _ _
 have hz3 : (((w.alloc (.cells #[.int .i64 k, .bool b, .int .i64 i, .string s, .slice al nl cl, .slice am nm cm] 25)).alloc (.cells #[.int .i64 xk, .bool xb, .int .i64 xi, .string xs, .slice xal xnl xcl, .slice xam xnm xcm] 25)).alloc (.cells #[.int .i64 0, .bool false, .int .i64 0, .string ⟨#[]⟩, .slice none 0 0, .slice none 0 0] 25)).heap.size = w.heap.size + 3 := by rw [alloc_size, hz2]
 have b4 : Below (((w.alloc (.cells #[.int .i64 k, .bool b, .int .i64 i, .string s, .slice al nl cl, .slice am nm cm] 25)).alloc (.cells #[.int .i64 xk, .bool xb, .int .i64 xi, .string xs, .slice xal xnl xcl, .slice xam xnm xcm] 25)).alloc (.cells #[.int .i64 0, .bool false, .int .i64 0, .string ⟨#[]⟩, .slice none 0 0, .slice none 0 0] 25)).heap.size (((w.alloc (.cells #[.int .i64 k, .bool b, .int .i64 i, .string s, .slice al nl cl, .slice am nm cm] 25)).alloc (.cells #[.int .i64 xk, .bool xb, .int .i64 xi, .string xs, .slice xal xnl xcl, .slice xam xnm xcm] 25)).alloc (.cells #[.int .i64 0, .bool false, .int .i64 0, .string ⟨#[]⟩, .slice none 0 0, .slice none 0 0] 25)) ((((w.alloc (.cells #[.int .i64 k, .bool b, .int .i64 i, .string s, .slice al nl cl, .slice am nm cm] 25)).alloc (.cells #[.int .i64 xk, .bool xb, .int .i64 xi, .string xs, .slice xal xnl xcl, .slice xam xnm xcm] 25)).alloc (.cells #[.int .i64 0, .bool false, .int .i64 0, .string ⟨#[]⟩, .slice none 0 0, .slice none 0 0] 25)).alloc (.cells #[.int .i64 xk, .bool xb, .int .i64 xi, .string xs, .slice xal xnl xcl, .slice xam xnm xcm] 25)) := one_belowG _ _
 have hz4 : ((((w.alloc (.cells #[.int .i64 k, .bool b, .int .i64 i, .string s, .slice al nl cl, .slice am nm cm] 25)).alloc (.cells #[.int .i64 xk, .bool xb, .int .i64 xi, .string xs, .slice xal xnl xcl, .slice xam xnm xcm] 25)).alloc (.cells #[.int .i64 0, .bool false, .int .i64 0, .string ⟨#[]⟩, .slice none 0 0, .slice none 0 0] 25)).alloc (.cells #[.int .i64 xk, .bool xb, .int .i64 xi, .string xs, .slice xal xnl xcl, .slice xam xnm xcm] 25)).heap.size = w.heap.size + 4 := by rw [alloc_size, hz3]
 have B3 : Below w.heap.size w (((w.alloc (.cells #[.int .i64 k, .bool b, .int .i64 i, .string s, .slice al nl cl, .slice am nm cm] 25)).alloc (.cells #[.int .i64 xk, .bool xb, .int .i64 xi, .string xs, .slice xal xnl xcl, .slice xam xnm xcm] 25)).alloc (.cells #[.int .i64 0, .bool false, .int .i64 0, .string ⟨#[]⟩, .slice none 0 0, .slice none 0 0] 25)) := b2.trans (b3.mono (by omega))
 have B4 : Below w.heap.size w ((((w.alloc (.cells #[.int .i64 k, .bool b, .int .i64 i, .string s, .slice al nl cl, .slice am nm cm] 25)).alloc (.cells #[.int .i64 xk, .bool xb, .int .i64 xi, .string xs, .slice xal xnl xcl, .slice xam xnm xcm] 25)).alloc (.cells #[.int .i64 0, .bool false, .int .i64 0, .string ⟨#[]⟩, .slice none 0 0, .slice none 0 0] 25)).alloc (.cells #[.int .i64 xk, .bool xb, .int .i64 xi, .string xs, .slice xal xnl xcl, .slice xam xnm xcm] 25)) := B3.trans (b4.mono (by omega))
 have h0 := (b4.block w.heap.size (by omega)).trans ((b3.block w.heap.size (by omega)).trans (alloc2_keep1 w (.cells #[.int .i64 k, .bool b, .int .i64 i, .string s, .slice al nl cl, .slice am nm cm] 25) (.cells #[.int .i64 xk, .bool xb, .int .i64 xi, .string xs, .slice xal xnl xcl, .slice xam xnm xcm] 25)))
 have h1 := (b4.block (w.heap.size + 1) (by omega)).trans ((b3.block (w.heap.size + 1) (by omega)).trans (alloc2_new w (.cells #[.int .i64 k, .bool b, .int .i64 i, .string s, .slice al nl cl, .slice am nm cm] 25) (.cells #[.int .i64 xk, .bool xb, .int .i64 xi, .string xs, .slice xal xnl xcl, .slice xam xnm xcm] 25)))
 have h2 := heap_alloc_new ((w.alloc (.cells #[.int .i64 k, .bool b, .int .i64 i, .string s, .slice al nl cl, .slice am nm cm] 25)).alloc (.cells #[.int .i64 xk, .bool xb, .int .i64 xi, .string xs, .slice xal xnl xcl, .slice xam xnm xcm] 25)) (.cells #[.int .i64 0, .bool false, .int .i64 0, .string ⟨#[]⟩, .slice none 0 0, .slice none 0 0] 25)
 rw [hz2] at h2
 have h2 := (b4.block (w.heap.size + 2) (by omega)).trans h2
 have h3 := heap_alloc_new (((w.alloc (.cells #[.int .i64 k, .bool b, .int .i64 i, .string s, .slice al nl cl, .slice am nm cm] 25)).alloc (.cells #[.int .i64 xk, .bool xb, .int .i64 xi, .string xs, .slice xal xnl xcl, .slice xam xnm xcm] 25)).alloc (.cells #[.int .i64 0, .bool false, .int .i64 0, .string ⟨#[]⟩, .slice none 0 0, .slice none 0 0] 25)) (.cells #[.int .i64 xk, .bool xb, .int .i64 xi, .string xs, .slice xal xnl xcl, .slice xam xnm xcm] 25)
 rw [hz3] at h3
 have g0 := (b3.block w.heap.size (by omega)).trans (alloc2_keep1 w (.cells #[.int .i64 k, .bool b, .int .i64 i, .string s, .slice al nl cl, .slice am nm cm] 25) (.cells #[.int .i64 xk, .bool xb, .int .i64 xi, .string xs, .slice xal xnl xcl, .slice xam xnm xcm] 25))
 have g1 := (b3.block (w.heap.size + 1) (by omega)).trans (alloc2_new w (.cells #[.int .i64 k, .bool b, .int .i64 i, .string s, .slice al nl cl, .slice am nm cm] 25) (.cells #[.int .i64 xk, .bool xb, .int .i64 xi, .string xs, .slice xal xnl xcl, .slice xam xnm xcm] 25))
 have r0 : (((w.alloc (.cells #[.int .i64 k, .bool b, .int .i64 i, .string s, .slice al nl cl, .slice am nm cm] 25)).alloc (.cells #[.int .i64 xk, .bool xb, .int .i64 xi, .string xs, .slice xal xnl xcl, .slice xam xnm xcm] 25)).alloc (.cells #[.int .i64 0, .bool false, .int .i64 0, .string ⟨#[]⟩, .slice none 0 0, .slice none 0 0] 25)).cell? ⟨w.heap.size, 0, none⟩ = some (.int .i64 k) := by rw [cell_of_block g0]; rfl
 have r1 : (((w.alloc (.cells #[.int .i64 k, .bool b, .int .i64 i, .string s, .slice al nl cl, .slice am nm cm] 25)).alloc (.cells #[.int .i64 xk, .bool xb, .int .i64 xi, .string xs, .slice xal xnl xcl, .slice xam xnm xcm] 25)).alloc (.cells #[.int .i64 0, .bool false, .int .i64 0, .string ⟨#[]⟩, .slice none 0 0, .slice none 0 0] 25)).cell? ⟨w.heap.size, 1, none⟩ = some (.bool b) := by rw [cell_of_block g0]; rfl
 have r2 : (((w.alloc (.cells #[.int .i64 k, .bool b, .int .i64 i, .string s, .slice al nl cl, .slice am nm cm] 25)).alloc (.cells #[.int .i64 xk, .bool xb, .int .i64 xi, .string xs, .slice xal xnl xcl, .slice xam xnm xcm] 25)).alloc (.cells #[.int .i64 0, .bool false, .int .i64 0, .string ⟨#[]⟩, .slice none 0 0, .slice none 0 0] 25)).cell? ⟨w.heap.size, 2, none⟩ = some (.int .i64 i) := by rw [cell_of_block g0]; rfl
 have r3 : (((w.alloc (.cells #[.int .i64 k, .bool b, .int .i64 i, .string s, .slice al nl cl, .slice am nm cm] 25)).alloc (.cells #[.int .i64 xk, .bool xb, .int .i64 xi, .string xs, .slice xal xnl xcl, .slice xam xnm xcm] 25)).alloc (.cells #[.int .i64 0, .bool false, .int .i64 0, .string ⟨#[]⟩, .slice none 0 0, .slice none 0 0] 25)).cell? ⟨w.heap.size, 3, none⟩ = some (.string s) := by rw [cell_of_block g0]; rfl
 have r4 : (((w.alloc (.cells #[.int .i64 k, .bool b, .int .i64 i, .string s, .slice al nl cl, .slice am nm cm] 25)).alloc (.cells #[.int .i64 xk, .bool xb, .int .i64 xi, .string xs, .slice xal xnl xcl, .slice xam xnm xcm] 25)).alloc (.cells #[.int .i64 0, .bool false, .int .i64 0, .string ⟨#[]⟩, .slice none 0 0, .slice none 0 0] 25)).cell? ⟨w.heap.size, 4, none⟩ = some (.slice al nl cl) := by rw [cell_of_block g0]; rfl
 have r5 : (((w.alloc (.cells #[.int .i64 k, .bool b, .int .i64 i, .string s, .slice al nl cl, .slice am nm cm] 25)).alloc (.cells #[.int .i64 xk, .bool xb, .int .i64 xi, .string xs, .slice xal xnl xcl, .slice xam xnm xcm] 25)).alloc (.cells #[.int .i64 0, .bool false, .int .i64 0, .string ⟨#[]⟩, .slice none 0 0, .slice none 0 0] 25)).cell? ⟨w.heap.size, 5, none⟩ = some (.slice am nm cm) := by rw [cell_of_block g0]; rfl
 have e0 : (((w.alloc (.cells #[.int .i64 k, .bool b, .int .i64 i, .string s, .slice al nl cl, .slice am nm cm] 25)).alloc (.cells #[.int .i64 xk, .bool xb, .int .i64 xi, .string xs, .slice xal xnl xcl, .slice xam xnm xcm] 25)).alloc (.cells #[.int .i64 0, .bool false, .int .i64 0, .string ⟨#[]⟩, .slice none 0 0, .slice none 0 0] 25)).cell? ⟨w.heap.size + 1, 0, none⟩ = some (.int .i64 xk) := by rw [cell_of_block g1]; rfl
 have e1 : (((w.alloc (.cells #[.int .i64 k, .bool b, .int .i64 i, .string s, .slice al nl cl, .slice am nm cm] 25)).alloc (.cells #[.int .i64 xk, .bool xb, .int .i64 xi, .string xs, .slice xal xnl xcl, .slice xam xnm xcm] 25)).alloc (.cells #[.int .i64 0, .bool false, .int .i64 0, .string ⟨#[]⟩, .slice none 0 0, .slice none 0 0] 25)).cell? ⟨w.heap.size + 1, 1, none⟩ = some (.bool xb) := by rw [cell_of_block g1]; rfl
 have e2 : (((w.alloc (.cells #[.int .i64 k, .bool b, .int .i64 i, .string s, .slice al nl cl, .slice am nm cm] 25)).alloc (.cells #[.int .i64 xk, .bool xb, .int .i64 xi, .string xs, .slice xal xnl xcl, .slice xam xnm xcm] 25)).alloc (.cells #[.int .i64 0, .bool false, .int .i64 0, .string ⟨#[]⟩, .slice none 0 0, .slice none 0 0] 25)).cell? ⟨w.heap.size + 1, 2, none⟩ = some (.int .i64 xi) := by rw [cell_of_block g1]; rfl
 have e3 : (((w.alloc (.cells #[.int .i64 k, .bool b, .int .i64 i, .string s, .slice al nl cl, .slice am nm cm] 25)).alloc (.cells #[.int .i64 xk, .bool xb, .int .i64 xi, .string xs, .slice xal xnl xcl, .slice xam xnm xcm] 25)).alloc (.cells #[.int .i64 0, .bool false, .int .i64 0, .string ⟨#[]⟩, .slice none 0 0, .slice none 0 0] 25)).cell? ⟨w.heap.size + 1, 3, none⟩ = some (.string xs) := by rw [cell_of_block g1]; rfl
 have e4 : (((w.alloc (.cells #[.int .i64 k, .bool b, .int .i64 i, .string s, .slice al nl cl, .slice am nm cm] 25)).alloc (.cells #[.int .i64 xk, .bool xb, .int .i64 xi, .string xs, .slice xal xnl xcl, .slice xam xnm xcm] 25)).alloc (.cells #[.int .i64 0, .bool false, .int .i64 0, .string ⟨#[]⟩, .slice none 0 0, .slice none 0 0] 25)).cell? ⟨w.heap.size + 1, 4, none⟩ = some (.slice xal xnl xcl) := by rw [cell_of_block g1]; rfl
 have e5 : (((w.alloc (.cells #[.int .i64 k, .bool b, .int .i64 i, .string s, .slice al nl cl, .slice am nm cm] 25)).alloc (.cells #[.int .i64 xk, .bool xb, .int .i64 xi, .string xs, .slice xal xnl xcl, .slice xam xnm xcm] 25)).alloc (.cells #[.int .i64 0, .bool false, .int .i64 0, .string ⟨#[]⟩, .slice none 0 0, .slice none 0 0] 25)).cell? ⟨w.heap.size + 1, 5, none⟩ = some (.slice xam xnm xcm) := by rw [cell_of_block g1]; rfl
 have HT : Hid (∀ W, Below w.heap.size w W → Tg W) := fun W hb => tg.below hb tg.z
 have HRd := hmk (ready2_any v p x S _ _ (w.heap.size + 3) ((((w.alloc (.cells #[.int .i64 k, .bool b, .int .i64 i, .string s, .slice al nl cl, .slice am nm cm] 25)).alloc (.cells #[.int .i64 xk, .bool xb, .int .i64 xi, .string xs, .slice xal xnl xcl, .slice xam xnm xcm] 25)).alloc (.cells #[.int .i64 0, .bool false, .int .i64 0, .string ⟨#[]⟩, .slice none 0 0, .slice none 0 0] 25)).alloc (.cells #[.int .i64 xk, .bool xb, .int .i64 xi, .string xs, .slice xal xnl xcl, .slice xam xnm xcm] 25)) ⟨(tg.below B4 tg.z).t.u, by have := (tg.below B4 tg.z).z; omega⟩ (tg.below B4 tg.z).t (lies_below HV.out hS B4) (lies_below HX.out hS B4) (fun q u hu => by rw [Nat.zero_add, cell_of_block h3]; simpa using hu) (by omega) (fun x hx => Nat.lt_of_lt_of_le (hS x hx) B4.size) (by omega) (by omega) hp)
 have hmf : ∀ (fn : Fn) (first cap : Array Value) (w : World), (Instr.makeFunc fn first cap).run Tryz.prog w = .ok (.func fn first cap) w := fun _ _ _ _ => rfl
 clear b2 b3 b4 hz2 g0 g1 B3
 go_enter Tryz.func10, Tryz.ntmps10
 go_wp2_with fail
 clear r0 r1 r2 r3 r4 r5 e0 e1 e2 e3 e4 e5 hz3
 generalize ((((w.alloc (.cells #[.int .i64 k, .bool b, .int .i64 i, .string s, .slice al nl cl, .slice am nm cm] 25)).alloc (.cells #[.int .i64 xk, .bool xb, .int .i64 xi, .string xs, .slice xal xnl xcl, .slice xam xnm xcm] 25)).alloc (.cells #[.int .i64 0, .bool false, .int .i64 0, .string ⟨#[]⟩, .slice none 0 0, .slice none 0 0] 25)).alloc (.cells #[.int .i64 xk, .bool xb, .int .i64 xi, .string xs, .slice xal xnl xcl, .slice xam xnm xcm] 25)) = w0 at *
 refine HRd.out.mono ?_
 rintro e w1 ⟨tv, l, rfl, hd, hn, hl, b1⟩
 have hz1 := b1.size
 have B1 := B4.trans (b1.mono (by omega))
 have t0 := (b1.block w.heap.size (by omega)).trans h0
 have t1 := (b1.block (w.heap.size + 1) (by omega)).trans h1
 have t2 := (b1.block (w.heap.size + 2) (by omega)).trans h2
 have z0 : w1.cell? ⟨w.heap.size + 2, 0, none⟩ = some (.int .i64 0) := by rw [cell_of_block t2]; rfl
 have z1 : w1.cell? ⟨w.heap.size + 2, 1, none⟩ = some (.bool false) := by rw [cell_of_block t2]; rfl
 have z2 : w1.cell? ⟨w.heap.size + 2, 2, none⟩ = some (.int .i64 0) := by rw [cell_of_block t2]; rfl
 have z3 : w1.cell? ⟨w.heap.size + 2, 3, none⟩ = some (.string ⟨#[]⟩) := by rw [cell_of_block t2]; rfl
 have z4 : w1.cell? ⟨w.heap.size + 2, 4, none⟩ = some (.slice none 0 0) := by rw [cell_of_block t2]; rfl
 have z5 : w1.cell? ⟨w.heap.size + 2, 5, none⟩ = some (.slice none 0 0) := by rw [cell_of_block t2]; rfl
 have rf := frozen_of_block t2
 by_cases hrd : rd2F v p x = 0
 ·obtain ⟨hrv, hcx⟩ := rd2_zero hrd
  obtain ⟨hce, o, ho⟩ := rd_zero hrv
  have hG : allG v := rd_allG hrv
  have hdo : dat l = o := by have := hd hrd; rw [ho] at this; exact this
  have htl : l = toksOf p := by rw [toksOf, ho]; exact toks_of hdo
  have hbd := tok_len ho hdo
  have HF : Hid (setF v p x = nweF (wkV (fun _ => (x, 0)) v l).1 (wkV (fun _ => (x, 0)) v l).2.1) := by show _ = _; rw [setF, if_pos hrd, htl]
  have hSz : ∀ y, S y → y < w1.heap.size := fun y hy => Nat.lt_of_lt_of_le (hS y hy) B1.size
  have hSG : ¬ S (w.heap.size + 1) := fun h => by have := hS _ h; omega
  have eg : ∀ args w, (callFunc 39 args).run Tryz.prog w = .ok (.enter 39 args) w := enters_of Tryz.func39 (by kernel_rfl) rfl
  have hwk := walk_any 39 (.pointer (some ⟨w.heap.size + 1, 0, none⟩)) (fun _ => (x, 0)) S (w.heap.size + 1) (fun _ _ _ => True) eg hSG l (fun t ht => by have := hbd.2 t ht; omega) (by omega) v _ tv w1 (HT.out _ B1) (lies_below HV.out hS B1) hSz (by omega) (wt_of_chk (by rw [← chkE40]; exact hce)) hG (TokAt.of_lies hl) (setdo S (w.heap.size + 1) w1 x xk xb xi xs xal xnl xcl xam xnm xcm hSz (by omega) t1 (lies_below HX.out hS B1))
  have HW := hmk (set_heavy v x l)
  rw [hrd]
  have a0 : w1.cell? ⟨w.heap.size, 0, none⟩ = some (.int .i64 k) := by rw [cell_of_block t0]; rfl
  have a1 : w1.cell? ⟨w.heap.size, 1, none⟩ = some (.bool b) := by rw [cell_of_block t0]; rfl
  have a2 : w1.cell? ⟨w.heap.size, 2, none⟩ = some (.int .i64 i) := by rw [cell_of_block t0]; rfl
  have a3 : w1.cell? ⟨w.heap.size, 3, none⟩ = some (.string s) := by rw [cell_of_block t0]; rfl
  have a4 : w1.cell? ⟨w.heap.size, 4, none⟩ = some (.slice al nl cl) := by rw [cell_of_block t0]; rfl
  have a5 : w1.cell? ⟨w.heap.size, 5, none⟩ = some (.slice am nm cm) := by rw [cell_of_block t0]; rfl
  clear hd hn hl hbd hdo htl ho hce hG hcx hrv
  generalize wkV (fun _ => (x, 0)) v l = R3 at *
  obtain ⟨ry, re, rx⟩ := R3
  go_wp2_with fail
  clear a0 a1 a2 a3 a4 a5 z0 z1 z2 z3 z4 z5 rf
  refine hwk.mono ?_
  rintro e ww ⟨cw, rfl, hlw, gw, _, _⟩
  have hzw := gw.size
  obtain ⟨yk, yb, yi, ys, yal, ynl, ycl, yam, ynm, ycm, rfl⟩ := V.ten hlw
  have Bw : Below w.heap.size w ww := ⟨gw.os.trans B1.os, gw.tape.trans B1.tape, gw.output.trans B1.output, Nat.le_trans B1.size gw.size, fun q hq => (gw.block q (by omega) (fun e => by have := Option.some.inj e; omega)).trans (B1.block q hq)⟩
  have v2 := (gw.block (w.heap.size + 2) (by omega) (fun e => by have := Option.some.inj e; omega)).trans t2
  have hnw := nwe_any ry re (OrNew S w1 ww) _ ww ⟨(HT.out ww Bw).t.u, by have := (HT.out ww Bw).z; omega⟩ hlw (fun y hy => by rcases hy with hy | hy; exact Nat.lt_of_lt_of_le (hS y hy) Bw.size; exact hy.2) (Nat.le_trans HW.out (by omega))
  clear hwk hlw
  go_wp2_with fail
  refine hnw.mono ?_
  rintro e wf ⟨csu, rfl, hlu, bu⟩
  obtain ⟨uk, ub, ui, us, ual, unl, ucl, uam, unm, ucm, rfl⟩ := V.ten hlu
  have hzf := bu.size
  have Bf := Bw.trans (bu.mono Bw.size)
  have x1 := (bu.block (w.heap.size + 2) (by omega)).trans v2
  have HU : Hid ((nweF ry re).1.lies false wf (From (w.heap.size + 3) wf) [.int .i64 uk, .bool ub, .int .i64 ui, .string us, .slice ual unl ucl, .slice uam unm ucm]) := V.lies_keep (fun h => h) (fun _ _ => rfl) (fun x hx => ⟨by have := hx.1; omega, hx.2⟩) _ hlu
  clear hlu bu hnw
  generalize nweF ry re = NF at *
  obtain ⟨ny, ne⟩ := NF
  have y0 : wf.cell? ⟨w.heap.size + 2, 0, none⟩ = some (.int .i64 0) := by rw [cell_of_block x1]; rfl
  have y1 : wf.cell? ⟨w.heap.size + 2, 1, none⟩ = some (.bool false) := by rw [cell_of_block x1]; rfl
  have y2 : wf.cell? ⟨w.heap.size + 2, 2, none⟩ = some (.int .i64 0) := by rw [cell_of_block x1]; rfl
  have y3 : wf.cell? ⟨w.heap.size + 2, 3, none⟩ = some (.string ⟨#[]⟩) := by rw [cell_of_block x1]; rfl
  have y4 : wf.cell? ⟨w.heap.size + 2, 4, none⟩ = some (.slice none 0 0) := by rw [cell_of_block x1]; rfl
  have y5 : wf.cell? ⟨w.heap.size + 2, 5, none⟩ = some (.slice none 0 0) := by rw [cell_of_block x1]; rfl
  have fr := frozen_of_block x1
  go_wp2_with fail
  (try simp only [Exit.inBlock, Exit.then])
  refine bodyPost_ret (v := .tuple #[.agg #[.int .i64 uk, .bool ub, .int .i64 ui, .string us, .slice ual unl ucl, .slice uam unm ucm], .int .i64 ne]) ?_ rfl ?_
  rotate_left
  ·rw [HF.out]
   exact ⟨[.int .i64 uk, .bool ub, .int .i64 ui, .string us, .slice ual unl ucl, .slice uam unm ucm], rfl, V.lies_keep (fun h => h) (fun _ _ => rfl) (fun x hx => ⟨by have := hx.1; omega, hx.2⟩) _ (lies_set6A HU.out (by omega) _ _ _ _ _ _ _ _ _ _ _ _), Below.set6 Bf (by omega) _ _ _ _ _ _ _ _ _ _ _ _⟩
  ·rw [results_cell_tmp rfl]
   go_simp
 ·have HN : Hid (setF v p x = (nullV, rd2F v p x)) := by show _ = _; rw [setF, if_neg hrd]
  obtain ⟨rfl, rfl⟩ := hn hrd
  generalize rd2F v p x = rd at *
  go_wp2_with fail
  (try simp only [Exit.inBlock, Exit.then])
  refine bodyPost_ret (v := .tuple #[.agg #[.int .i64 0, .bool false, .int .i64 0, .string ⟨#[]⟩, .slice none 0 0, .slice none 0 0], .int .i64 rd]) ?_ rfl ?_
  rotate_left
  ·rw [HN.out]
   exact ⟨[.int .i64 0, .bool false, .int .i64 0, .string ⟨#[]⟩, .slice none 0 0, .slice none 0 0], rfl, null_lies _ _, by first | exact B1 | exact Below.set6 B1 (by omega) _ _ _ _ _ _ _ _ _ _ _ _⟩
  ·rw [results_cell_tmp rfl]
   go_simp
set_option maxHeartbeats 8000000 in
set_option maxRecDepth 100000 in
theorem cvals_any (l : List V) (B n : Nat) (S : Nat → Prop) (al : Option Addr) (cl bl ol : Nat) (w : World) (hal : Headed al l.length cl bl ol) (hl : liesL false w S l bl ol) (hS : ∀ b, S b → b ≠ B ∧ b < w.heap.size) (hc : Cnt B n w) (hn : n ≤ 2147483647) :
 Calls Tryz.prog 35 #[.pointer (some ⟨B, 0, none⟩), .slice al l.length cl] w (CntPost B n (wtL l) w) := by
 have HL := hmk hl
 have hll : l.length ≤ 9223372036854775807 := Nat.le_trans hal.le hal.max
 have hkeep : ∀ wr : World, w.grownBy wr (some B) → ∀ b, S b → wr.heap[b]? = w.heap[b]? := fun wr g b hb => g.block b (hS b hb).2 (fun e => (hS b hb).1 (Option.some.inj e))
 have e5 : ((65520 : Nat) : Int) = 65520 := rfl
 clear hl
 go_enter Tryz.func35, Tryz.ntmps35
 go_wp2_with fail
 go_loopw [5] (fun e wr => ∃ j : Nat, j ≤ l.length ∧ e = .int .i64 (j : Int) ∧ n + wtL (l.take j) ≤ 2147483647 ∧ Cnt B (n + wtL (l.take j)) wr ∧ w.grownBy wr (some B)) (fun e _ => l.length - (RowKit.intOf e).toNat)
 case atStart => exact ⟨0, by omega, rfl, by simpa [wtL] using hn, by simpa [wtL] using hc, World.grownBy.refl _ _⟩
 case round =>
  obtain ⟨j, hj, rfl, hnj, hcj, gj⟩ := hrel
  by_cases hjl : j < l.length
  ·have y1 : (j : Int) < l.length := by omega
   obtain ⟨hSb, csj, hrow, hlj⟩ := liesL_get HL.out j hjl
   obtain rfl : al = some ⟨bl, ol, none⟩ := hal.at_.resolve_left (by omega)
   have hlr : (l[j]).lies false wr S csj := V.lies_keep (fun h => h) (fun b hb => hkeep wr gj b hb) (fun _ h => h) _ hlj
   have CV := hmk (cval_any l[j] B (n + wtL (l.take j)) 65520 S csj wr hlr (fun b hb => ⟨(hS b hb).1, Nat.lt_of_lt_of_le (hS b hb).2 gj.size⟩) hcj hnj (by omega))
   rw [e5] at CV
   have HW : Hid (n + wtL (l.take (j + 1)) = n + wtL (l.take j) + (l[j]).wt) := by show _ = _; rw [take_succ_wtL hjl]; omega
   obtain ⟨ek, eb, ei, es, eal, enl, ecl, eam, enm, ecm, rfl⟩ := V.ten hlj
   obtain ⟨q0, q1, q2, q3, q4, q5⟩ := row6 (hrow.keep (hkeep wr gj bl hSb))
   clear hlj hlr hrow e5
   go_wp2_with fail
   refine CV.out.mono ?_
   rintro e w1 ⟨r, rfl, g1, h1⟩
   cases r
   ·obtain ⟨hn1, hc1⟩ := h1 rfl
    go_wp2_with fail
    go_roundw
    case rel => exact ⟨j + 1, by omega, by go_num, by rw [HW.out]; exact hn1, by rw [HW.out]; exact hc1, grown_trans gj g1⟩
    case measure => simp [RowKit.intOf]; omega
   ·go_wp2_with fail
    go_ret
    exact ⟨true, rfl, grown_trans gj g1, fun h => by cases h⟩
  ·obtain rfl : j = l.length := by omega
   have y1 : ¬ (l.length : Int) < l.length := by omega
   rw [List.take_length] at hnj hcj
   go_wp2_with fail
   go_ret
   exact ⟨false, rfl, gj, fun _ => ⟨hnj, hcj⟩⟩
set_option maxHeartbeats 8000000 in
set_option maxRecDepth 100000 in
theorem values_any (l : List V) (S : Nat → Prop) (al : Option Addr) (cl bl ol : Nat) (w : World) (hal : Headed al l.length cl bl ol) (hl : liesL false w S l bl ol) (hS : ∀ b, S b → b < w.heap.size) :
 Calls Tryz.prog 7 #[.slice al l.length cl] w (fun e w' => ∃ r, e = .returned (.bool r) ∧ (r = false → wtL l ≤ 2147483647) ∧ Below w.heap.size w w') := by
 have ga : w.grownBy (w.alloc (.cells #[.int .i64 0] 62)) none := World.grownBy_alloc _ _ _
 have hn := heap_alloc_new w (.cells #[.int .i64 0] 62)
 have hC : Cnt w.heap.size 0 (w.alloc (.cells #[.int .i64 0] 62)) := ⟨by rw [cell_of_block hn]; rfl, frozen_of_block hn 0⟩
 have c := hmk (cvals_any l w.heap.size 0 S al cl bl ol (w.alloc (.cells #[.int .i64 0] 62)) hal (liesL_keep (fun h => h) (fun x hx => ga.block x (hS x hx) (by simp)) (fun _ h => h) _ hl) (fun x hx => ⟨by have := hS x hx; omega, Nat.lt_of_lt_of_le (hS x hx) ga.size⟩) hC (by omega))
 clear hl hn hC
 go_enter Tryz.func7, Tryz.ntmps7
 go_wp2_with fail
 refine c.out.mono ?_
 rintro e w1 ⟨r, rfl, g1, h1⟩
 go_wp2_with fail
 go_ret
 exact ⟨r, rfl, fun h => by have := (h1 h).1; omega, (below_of_grown ga).grown g1 ga.size (fun q e => by cases e; omega)⟩
end Go.Proofs.YtgnofbigggmilaaGreatDoor
