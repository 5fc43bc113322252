import Derived.Test.YtgnofbigggmilaaGreatDoorG23
set_option linter.unusedSimpArgs false
set_option linter.unusedVariables false
namespace Go.Proofs.YtgnofbigggmilaaGreatDoor
open Go.RowKit Go.Lib
set_option maxHeartbeats 8000000 in
set_option maxRecDepth 100000 in
theorem getdo (S : Nat → Prop) (G : Nat) (w : World) (hS : ∀ b, S b → b < w.heap.size) (hSG : ¬ S G) (hG : G < w.heap.size) (hbox : w.heap[G]? = some (.cells #[.int .i64 0, .bool false, .int .i64 0, .string ⟨#[]⟩, .slice none 0 0, .slice none 0 0] 25)) : DoC 48 (.pointer (some ⟨G, 0, none⟩)) (fun x => (x, 0)) S G (Got S G) w := by
 intro W x cs hb hwx hga hx
 clear hwx hga
 have HV := hmk hx
 have hGW : W.heap[G]? = _ := (hb.block G hG).trans hbox
 have hzW := hb.size
 obtain ⟨k, b, i, s, al, nl, cl, am, nm, cm, rfl⟩ := V.ten hx
 clear hx
 have B0 : Below W.heap.size W ((W.alloc (.cells #[.int .i64 k, .bool b, .int .i64 i, .string s, .slice al nl cl, .slice am nm cm] 25)).alloc (.cells #[.int .i64 0, .bool false, .int .i64 0, .string ⟨#[]⟩, .slice none 0 0, .slice none 0 0] 25)) := two_below W _ _
 have hG2 := (B0.block G (by omega)).trans hGW
 have c0 := cell_of_block hG2 0
 have c1 := cell_of_block hG2 1
 have c2 := cell_of_block hG2 2
 have c3 := cell_of_block hG2 3
 have c4 := cell_of_block hG2 4
 have c5 := cell_of_block hG2 5
 have fG := frozen_of_block hG2
 have n0 : ¬ G = W.heap.size := by omega
 have n1 : ¬ G = W.heap.size + 1 := by omega
 go_enter Tryz.func48, Tryz.ntmps48
 go_wp2_with fail
 have h1 := alloc2_new W (.cells #[.int .i64 k, .bool b, .int .i64 i, .string s, .slice al nl cl, .slice am nm cm] 25) (.cells #[.int .i64 0, .bool false, .int .i64 0, .string ⟨#[]⟩, .slice none 0 0, .slice none 0 0] 25)
 have z0 : ((W.alloc (.cells #[.int .i64 k, .bool b, .int .i64 i, .string s, .slice al nl cl, .slice am nm cm] 25)).alloc (.cells #[.int .i64 0, .bool false, .int .i64 0, .string ⟨#[]⟩, .slice none 0 0, .slice none 0 0] 25)).cell? ⟨W.heap.size + 1, 0, none⟩ = some (.int .i64 0) := by rw [cell_of_block h1]; rfl
 have z1 : ((W.alloc (.cells #[.int .i64 k, .bool b, .int .i64 i, .string s, .slice al nl cl, .slice am nm cm] 25)).alloc (.cells #[.int .i64 0, .bool false, .int .i64 0, .string ⟨#[]⟩, .slice none 0 0, .slice none 0 0] 25)).cell? ⟨W.heap.size + 1, 1, none⟩ = some (.bool false) := by rw [cell_of_block h1]; rfl
 have z2 : ((W.alloc (.cells #[.int .i64 k, .bool b, .int .i64 i, .string s, .slice al nl cl, .slice am nm cm] 25)).alloc (.cells #[.int .i64 0, .bool false, .int .i64 0, .string ⟨#[]⟩, .slice none 0 0, .slice none 0 0] 25)).cell? ⟨W.heap.size + 1, 2, none⟩ = some (.int .i64 0) := by rw [cell_of_block h1]; rfl
 have z3 : ((W.alloc (.cells #[.int .i64 k, .bool b, .int .i64 i, .string s, .slice al nl cl, .slice am nm cm] 25)).alloc (.cells #[.int .i64 0, .bool false, .int .i64 0, .string ⟨#[]⟩, .slice none 0 0, .slice none 0 0] 25)).cell? ⟨W.heap.size + 1, 3, none⟩ = some (.string ⟨#[]⟩) := by rw [cell_of_block h1]; rfl
 have z4 : ((W.alloc (.cells #[.int .i64 k, .bool b, .int .i64 i, .string s, .slice al nl cl, .slice am nm cm] 25)).alloc (.cells #[.int .i64 0, .bool false, .int .i64 0, .string ⟨#[]⟩, .slice none 0 0, .slice none 0 0] 25)).cell? ⟨W.heap.size + 1, 4, none⟩ = some (.slice none 0 0) := by rw [cell_of_block h1]; rfl
 have z5 : ((W.alloc (.cells #[.int .i64 k, .bool b, .int .i64 i, .string s, .slice al nl cl, .slice am nm cm] 25)).alloc (.cells #[.int .i64 0, .bool false, .int .i64 0, .string ⟨#[]⟩, .slice none 0 0, .slice none 0 0] 25)).cell? ⟨W.heap.size + 1, 5, none⟩ = some (.slice none 0 0) := by rw [cell_of_block h1]; rfl
 clear h1
 have HE := hmk (get_end (c0 := .int .i64 k) (c1 := .bool b) (c2 := .int .i64 i) (c3 := .string s) (c4 := .slice al nl cl) (c5 := .slice am nm cm) (fun y hy => Nat.lt_of_lt_of_le (hS y hy) hzW) hSG (Nat.lt_of_lt_of_le hG hzW) B0 (by rw [alloc_size, alloc_size]) hG2 HV.out)
 generalize ((W.alloc (.cells #[.int .i64 k, .bool b, .int .i64 i, .string s, .slice al nl cl, .slice am nm cm] 25)).alloc (.cells #[.int .i64 0, .bool false, .int .i64 0, .string ⟨#[]⟩, .slice none 0 0, .slice none 0 0] 25)) = W0 at *
 (try simp only [Exit.inBlock, Exit.then])
 refine bodyPost_ret (v := .tuple #[.agg #[.int .i64 k, .bool b, .int .i64 i, .string s, .slice al nl cl, .slice am nm cm], .int .i64 0]) ?_ rfl ?_
 rotate_left
 ·exact ⟨[.int .i64 k, .bool b, .int .i64 i, .string s, .slice al nl cl, .slice am nm cm], rfl, HE.out.1, HE.out.2.1, HE.out.2.2⟩
 ·rw [results_cell_tmp rfl]
  go_simp
set_option maxHeartbeats 8000000 in
set_option maxRecDepth 100000 in
theorem get_any (v : V) (p : ByteArray) (S : Nat → Prop) (cs : List Value) (w : World) (tg : Tg w) (hv : v.lies false w S cs) (hS : ∀ b, S b → b < w.heap.size) (hwt : v.wt ≤ 1099511627776) (hp : p.size ≤ 3900000) : Calls Tryz.prog 13 #[.agg cs.toArray, .string p] w (NwPost (getF v p) w) := by
 have HV := hmk hv
 obtain ⟨k, b, i, s, al, nl, cl, am, nm, cm, rfl⟩ := V.ten hv
 clear hv
 have B0 : Below w.heap.size w ((w.alloc (.cells #[.int .i64 k, .bool b, .int .i64 i, .string s, .slice al nl cl, .slice am nm cm] 25)).alloc (.cells #[.int .i64 0, .bool false, .int .i64 0, .string ⟨#[]⟩, .slice none 0 0, .slice none 0 0] 25)) := two_below w _ _
 have hz0 : ((w.alloc (.cells #[.int .i64 k, .bool b, .int .i64 i, .string s, .slice al nl cl, .slice am nm cm] 25)).alloc (.cells #[.int .i64 0, .bool false, .int .i64 0, .string ⟨#[]⟩, .slice none 0 0, .slice none 0 0] 25)).heap.size = w.heap.size + 2 := by rw [alloc_size, alloc_size]
 have h0 := alloc2_keep1 w (.cells #[.int .i64 k, .bool b, .int .i64 i, .string s, .slice al nl cl, .slice am nm cm] 25) (.cells #[.int .i64 0, .bool false, .int .i64 0, .string ⟨#[]⟩, .slice none 0 0, .slice none 0 0] 25)
 have h1 := alloc2_new w (.cells #[.int .i64 k, .bool b, .int .i64 i, .string s, .slice al nl cl, .slice am nm cm] 25) (.cells #[.int .i64 0, .bool false, .int .i64 0, .string ⟨#[]⟩, .slice none 0 0, .slice none 0 0] 25)
 have HT : Hid (∀ W, Below w.heap.size w W → Tg W) := fun W hb => tg.below hb tg.z
 have HRd := hmk (ready_any v p S _ ((w.alloc (.cells #[.int .i64 k, .bool b, .int .i64 i, .string s, .slice al nl cl, .slice am nm cm] 25)).alloc (.cells #[.int .i64 0, .bool false, .int .i64 0, .string ⟨#[]⟩, .slice none 0 0, .slice none 0 0] 25)) ⟨(tg.below B0 tg.z).t.u, by have := (tg.below B0 tg.z).z; omega⟩ (tg.below B0 tg.z).t (lies_below HV.out hS B0) (fun x hx => Nat.lt_of_lt_of_le (hS x hx) B0.size) hwt hp)
 have hmf : ∀ (fn : Fn) (first cap : Array Value) (w : World), (Instr.makeFunc fn first cap).run Tryz.prog w = .ok (.func fn first cap) w := fun _ _ _ _ => rfl
 have r0 : ((w.alloc (.cells #[.int .i64 k, .bool b, .int .i64 i, .string s, .slice al nl cl, .slice am nm cm] 25)).alloc (.cells #[.int .i64 0, .bool false, .int .i64 0, .string ⟨#[]⟩, .slice none 0 0, .slice none 0 0] 25)).cell? ⟨w.heap.size, 0, none⟩ = some (.int .i64 k) := by rw [cell_of_block h0]; rfl
 have r1 : ((w.alloc (.cells #[.int .i64 k, .bool b, .int .i64 i, .string s, .slice al nl cl, .slice am nm cm] 25)).alloc (.cells #[.int .i64 0, .bool false, .int .i64 0, .string ⟨#[]⟩, .slice none 0 0, .slice none 0 0] 25)).cell? ⟨w.heap.size, 1, none⟩ = some (.bool b) := by rw [cell_of_block h0]; rfl
 have r2 : ((w.alloc (.cells #[.int .i64 k, .bool b, .int .i64 i, .string s, .slice al nl cl, .slice am nm cm] 25)).alloc (.cells #[.int .i64 0, .bool false, .int .i64 0, .string ⟨#[]⟩, .slice none 0 0, .slice none 0 0] 25)).cell? ⟨w.heap.size, 2, none⟩ = some (.int .i64 i) := by rw [cell_of_block h0]; rfl
 have r3 : ((w.alloc (.cells #[.int .i64 k, .bool b, .int .i64 i, .string s, .slice al nl cl, .slice am nm cm] 25)).alloc (.cells #[.int .i64 0, .bool false, .int .i64 0, .string ⟨#[]⟩, .slice none 0 0, .slice none 0 0] 25)).cell? ⟨w.heap.size, 3, none⟩ = some (.string s) := by rw [cell_of_block h0]; rfl
 have r4 : ((w.alloc (.cells #[.int .i64 k, .bool b, .int .i64 i, .string s, .slice al nl cl, .slice am nm cm] 25)).alloc (.cells #[.int .i64 0, .bool false, .int .i64 0, .string ⟨#[]⟩, .slice none 0 0, .slice none 0 0] 25)).cell? ⟨w.heap.size, 4, none⟩ = some (.slice al nl cl) := by rw [cell_of_block h0]; rfl
 have r5 : ((w.alloc (.cells #[.int .i64 k, .bool b, .int .i64 i, .string s, .slice al nl cl, .slice am nm cm] 25)).alloc (.cells #[.int .i64 0, .bool false, .int .i64 0, .string ⟨#[]⟩, .slice none 0 0, .slice none 0 0] 25)).cell? ⟨w.heap.size, 5, none⟩ = some (.slice am nm cm) := by rw [cell_of_block h0]; rfl
 have z0 : ((w.alloc (.cells #[.int .i64 k, .bool b, .int .i64 i, .string s, .slice al nl cl, .slice am nm cm] 25)).alloc (.cells #[.int .i64 0, .bool false, .int .i64 0, .string ⟨#[]⟩, .slice none 0 0, .slice none 0 0] 25)).cell? ⟨w.heap.size + 1, 0, none⟩ = some (.int .i64 0) := by rw [cell_of_block h1]; rfl
 have z1 : ((w.alloc (.cells #[.int .i64 k, .bool b, .int .i64 i, .string s, .slice al nl cl, .slice am nm cm] 25)).alloc (.cells #[.int .i64 0, .bool false, .int .i64 0, .string ⟨#[]⟩, .slice none 0 0, .slice none 0 0] 25)).cell? ⟨w.heap.size + 1, 1, none⟩ = some (.bool false) := by rw [cell_of_block h1]; rfl
 have z2 : ((w.alloc (.cells #[.int .i64 k, .bool b, .int .i64 i, .string s, .slice al nl cl, .slice am nm cm] 25)).alloc (.cells #[.int .i64 0, .bool false, .int .i64 0, .string ⟨#[]⟩, .slice none 0 0, .slice none 0 0] 25)).cell? ⟨w.heap.size + 1, 2, none⟩ = some (.int .i64 0) := by rw [cell_of_block h1]; rfl
 have z3 : ((w.alloc (.cells #[.int .i64 k, .bool b, .int .i64 i, .string s, .slice al nl cl, .slice am nm cm] 25)).alloc (.cells #[.int .i64 0, .bool false, .int .i64 0, .string ⟨#[]⟩, .slice none 0 0, .slice none 0 0] 25)).cell? ⟨w.heap.size + 1, 3, none⟩ = some (.string ⟨#[]⟩) := by rw [cell_of_block h1]; rfl
 have z4 : ((w.alloc (.cells #[.int .i64 k, .bool b, .int .i64 i, .string s, .slice al nl cl, .slice am nm cm] 25)).alloc (.cells #[.int .i64 0, .bool false, .int .i64 0, .string ⟨#[]⟩, .slice none 0 0, .slice none 0 0] 25)).cell? ⟨w.heap.size + 1, 4, none⟩ = some (.slice none 0 0) := by rw [cell_of_block h1]; rfl
 have z5 : ((w.alloc (.cells #[.int .i64 k, .bool b, .int .i64 i, .string s, .slice al nl cl, .slice am nm cm] 25)).alloc (.cells #[.int .i64 0, .bool false, .int .i64 0, .string ⟨#[]⟩, .slice none 0 0, .slice none 0 0] 25)).cell? ⟨w.heap.size + 1, 5, none⟩ = some (.slice none 0 0) := by rw [cell_of_block h1]; rfl
 go_enter Tryz.func13, Tryz.ntmps13
 go_wp2_with fail
 clear r0 r1 r2 r3 r4 r5 z0 z1 z2 z3 z4 z5
 generalize ((w.alloc (.cells #[.int .i64 k, .bool b, .int .i64 i, .string s, .slice al nl cl, .slice am nm cm] 25)).alloc (.cells #[.int .i64 0, .bool false, .int .i64 0, .string ⟨#[]⟩, .slice none 0 0, .slice none 0 0] 25)) = w0 at *
 refine HRd.out.mono ?_
 rintro e w1 ⟨tv, l, rfl, hd, hn, hl, b1⟩
 have hz1 := b1.size
 have B1 := B0.trans (b1.mono (by omega))
 have t0 := (b1.block w.heap.size (by omega)).trans h0
 have t1 := (b1.block (w.heap.size + 1) (by omega)).trans h1
 have r0 : w1.cell? ⟨w.heap.size, 0, none⟩ = some (.int .i64 k) := by rw [cell_of_block t0]; rfl
 have r1 : w1.cell? ⟨w.heap.size, 1, none⟩ = some (.bool b) := by rw [cell_of_block t0]; rfl
 have r2 : w1.cell? ⟨w.heap.size, 2, none⟩ = some (.int .i64 i) := by rw [cell_of_block t0]; rfl
 have r3 : w1.cell? ⟨w.heap.size, 3, none⟩ = some (.string s) := by rw [cell_of_block t0]; rfl
 have r4 : w1.cell? ⟨w.heap.size, 4, none⟩ = some (.slice al nl cl) := by rw [cell_of_block t0]; rfl
 have r5 : w1.cell? ⟨w.heap.size, 5, none⟩ = some (.slice am nm cm) := by rw [cell_of_block t0]; rfl
 have z0 : w1.cell? ⟨w.heap.size + 1, 0, none⟩ = some (.int .i64 0) := by rw [cell_of_block t1]; rfl
 have z1 : w1.cell? ⟨w.heap.size + 1, 1, none⟩ = some (.bool false) := by rw [cell_of_block t1]; rfl
 have z2 : w1.cell? ⟨w.heap.size + 1, 2, none⟩ = some (.int .i64 0) := by rw [cell_of_block t1]; rfl
 have z3 : w1.cell? ⟨w.heap.size + 1, 3, none⟩ = some (.string ⟨#[]⟩) := by rw [cell_of_block t1]; rfl
 have z4 : w1.cell? ⟨w.heap.size + 1, 4, none⟩ = some (.slice none 0 0) := by rw [cell_of_block t1]; rfl
 have z5 : w1.cell? ⟨w.heap.size + 1, 5, none⟩ = some (.slice none 0 0) := by rw [cell_of_block t1]; rfl
 have rf := frozen_of_block t1
 by_cases hrd : rdF v p = 0
 ·obtain ⟨hce, o, ho⟩ := rd_zero hrd
  have hG : allG v := chkV_allG 40 v 0 (0, 0, 0) (by rw [← chkE40]; exact hce)
  have hdo : dat l = o := by have := hd hrd; rw [ho] at this; exact this
  have htl : l = toksOf p := by rw [toksOf, ho]; exact toks_of hdo
  have hbd := tok_len ho hdo
  have HF : Hid (getF v p = nweF ((wkV (fun x => (x, 0)) v l).2.2.getD nullV) (wkV (fun x => (x, 0)) v l).2.1) := by show _ = _; rw [getF, if_pos hrd, htl]
  have b2 : Below w1.heap.size w1 (w1.alloc (.cells #[.int .i64 0, .bool false, .int .i64 0, .string ⟨#[]⟩, .slice none 0 0, .slice none 0 0] 25)) := one_belowG _ _
  have hz2 : (w1.alloc (.cells #[.int .i64 0, .bool false, .int .i64 0, .string ⟨#[]⟩, .slice none 0 0, .slice none 0 0] 25)).heap.size = w1.heap.size + 1 := alloc_size _ _
  have hbx := heap_alloc_new w1 (.cells #[.int .i64 0, .bool false, .int .i64 0, .string ⟨#[]⟩, .slice none 0 0, .slice none 0 0] 25)
  have B2 := B1.trans (b2.mono (by omega))
  have u0 := (b2.block w.heap.size (by omega)).trans t0
  have u1 := (b2.block (w.heap.size + 1) (by omega)).trans t1
  have a0 : (w1.alloc (.cells #[.int .i64 0, .bool false, .int .i64 0, .string ⟨#[]⟩, .slice none 0 0, .slice none 0 0] 25)).cell? ⟨w.heap.size, 0, none⟩ = some (.int .i64 k) := by rw [cell_of_block u0]; rfl
  have a1 : (w1.alloc (.cells #[.int .i64 0, .bool false, .int .i64 0, .string ⟨#[]⟩, .slice none 0 0, .slice none 0 0] 25)).cell? ⟨w.heap.size, 1, none⟩ = some (.bool b) := by rw [cell_of_block u0]; rfl
  have a2 : (w1.alloc (.cells #[.int .i64 0, .bool false, .int .i64 0, .string ⟨#[]⟩, .slice none 0 0, .slice none 0 0] 25)).cell? ⟨w.heap.size, 2, none⟩ = some (.int .i64 i) := by rw [cell_of_block u0]; rfl
  have a3 : (w1.alloc (.cells #[.int .i64 0, .bool false, .int .i64 0, .string ⟨#[]⟩, .slice none 0 0, .slice none 0 0] 25)).cell? ⟨w.heap.size, 3, none⟩ = some (.string s) := by rw [cell_of_block u0]; rfl
  have a4 : (w1.alloc (.cells #[.int .i64 0, .bool false, .int .i64 0, .string ⟨#[]⟩, .slice none 0 0, .slice none 0 0] 25)).cell? ⟨w.heap.size, 4, none⟩ = some (.slice al nl cl) := by rw [cell_of_block u0]; rfl
  have a5 : (w1.alloc (.cells #[.int .i64 0, .bool false, .int .i64 0, .string ⟨#[]⟩, .slice none 0 0, .slice none 0 0] 25)).cell? ⟨w.heap.size, 5, none⟩ = some (.slice am nm cm) := by rw [cell_of_block u0]; rfl
  have hS2 : ∀ x, S x → x < (w1.alloc (.cells #[.int .i64 0, .bool false, .int .i64 0, .string ⟨#[]⟩, .slice none 0 0, .slice none 0 0] 25)).heap.size := fun x hx => Nat.lt_of_lt_of_le (hS x hx) B2.size
  have hSG : ¬ S w1.heap.size := fun h => by have := hS _ h; omega
  have eg : ∀ args w, (callFunc 48 args).run Tryz.prog w = .ok (.enter 48 args) w := enters_of Tryz.func48 (by kernel_rfl) rfl
  have hwk := walk_any 48 (.pointer (some ⟨w1.heap.size, 0, none⟩)) (fun x => (x, 0)) S w1.heap.size (Got S w1.heap.size) eg hSG l (fun t ht => by have := hbd.2 t ht; omega) (by omega) v _ tv (w1.alloc (.cells #[.int .i64 0, .bool false, .int .i64 0, .string ⟨#[]⟩, .slice none 0 0, .slice none 0 0] 25)) (HT.out _ B2) (lies_below HV.out hS B2) hS2 (by omega) (wt_of_chk (by rw [← chkE40]; exact hce)) hG (TokAt.of_lies (hl.below b2)) (getdo S w1.heap.size _ hS2 hSG (by omega) hbx)
  have HX := hmk (fun x => wk_wt (fun x => (x, 0)) l v x)
  rw [hrd]
  clear hd hn hl hbd hdo htl ho hce hG
  generalize wkV (fun x => (x, 0)) v l = R3 at *
  obtain ⟨ry, re, rx⟩ := R3
  go_wp2_with fail
  clear a0 a1 a2 a3 a4 a5 r0 r1 r2 r3 r4 r5 z0 z1 z2 z3 z4 z5 rf
  generalize (w1.alloc (.cells #[.int .i64 0, .bool false, .int .i64 0, .string ⟨#[]⟩, .slice none 0 0, .slice none 0 0] 25)) = w2 at *
  generalize hG : w1.heap.size = G at *
  refine hwk.mono ?_
  rintro e ww ⟨cw, rfl, _, gw, lw, nw⟩
  have hzw := gw.size
  obtain ⟨csx, hrx, hlx⟩ : ∃ csx, rowAt ww G 0 csx ∧ (rx.getD nullV).lies false ww S csx := by
   cases rx with
   | none =>
    have hb := (nw rfl).block G (by omega)
    exact ⟨[.int .i64 0, .bool false, .int .i64 0, .string ⟨#[]⟩, .slice none 0 0, .slice none 0 0], fun q u hu => by rw [Nat.zero_add, cell_of_block (hb.trans hbx)]; simpa using hu, null_lies _ _⟩
   | some x =>
    obtain ⟨W0, W1, _, ⟨csx, d1, d2⟩, _, hb⟩ := lw x rfl
    exact ⟨csx, d1.keep (hb G (.inr (.inl rfl))), V.lies_keep (fun h => h) (fun y hy => hb y (.inl hy)) (fun _ h => h) _ d2⟩
  have hxw : (rx.getD nullV).wt ≤ 1099511627776 := by
   cases rx with
   | none => decide
   | some x => exact Nat.le_trans (HX.out x rfl) hwt
  have Bw : Below w.heap.size w ww := ⟨gw.os.trans B2.os, gw.tape.trans B2.tape, gw.output.trans B2.output, Nat.le_trans B2.size gw.size, fun q hq => (gw.block q (by omega) (fun e => by have := Option.some.inj e; omega)).trans (B2.block q hq)⟩
  have v1 := (gw.block (w.heap.size + 1) (by omega) (fun e => by have := Option.some.inj e; omega)).trans u1
  obtain ⟨xk, xb, xi, xs, xal, xnl, xcl, xam, xnm, xcm, rfl⟩ := V.ten hlx
  obtain ⟨g0, g1, g2, g3, g4, g5⟩ := row6z hrx
  have hnw := nwe_any (rx.getD nullV) re S _ ww ⟨(HT.out ww Bw).t.u, by have := (HT.out ww Bw).z; omega⟩ hlx (fun x hx => Nat.lt_of_lt_of_le (hS x hx) Bw.size) hxw
  clear hwk lw nw hlx hrx
  go_wp2_with fail
  refine hnw.mono ?_
  rintro e wf ⟨csu, rfl, hlu, bu⟩
  obtain ⟨uk, ub, ui, us, ual, unl, ucl, uam, unm, ucm, rfl⟩ := V.ten hlu
  have hzf := bu.size
  have Bf := Bw.trans (bu.mono Bw.size)
  have x1 := (bu.block (w.heap.size + 1) (by omega)).trans v1
  have HU : Hid ((nweF (rx.getD nullV) re).1.lies false wf (From (w.heap.size + 2) wf) [.int .i64 uk, .bool ub, .int .i64 ui, .string us, .slice ual unl ucl, .slice uam unm ucm]) := V.lies_keep (fun h => h) (fun _ _ => rfl) (fun x hx => ⟨by have := hx.1; omega, hx.2⟩) _ hlu
  clear hlu bu hnw g0 g1 g2 g3 g4 g5
  generalize nweF (rx.getD nullV) re = NF at *
  obtain ⟨ny, ne⟩ := NF
  have y0 : wf.cell? ⟨w.heap.size + 1, 0, none⟩ = some (.int .i64 0) := by rw [cell_of_block x1]; rfl
  have y1 : wf.cell? ⟨w.heap.size + 1, 1, none⟩ = some (.bool false) := by rw [cell_of_block x1]; rfl
  have y2 : wf.cell? ⟨w.heap.size + 1, 2, none⟩ = some (.int .i64 0) := by rw [cell_of_block x1]; rfl
  have y3 : wf.cell? ⟨w.heap.size + 1, 3, none⟩ = some (.string ⟨#[]⟩) := by rw [cell_of_block x1]; rfl
  have y4 : wf.cell? ⟨w.heap.size + 1, 4, none⟩ = some (.slice none 0 0) := by rw [cell_of_block x1]; rfl
  have y5 : wf.cell? ⟨w.heap.size + 1, 5, none⟩ = some (.slice none 0 0) := by rw [cell_of_block x1]; rfl
  have fr := frozen_of_block x1
  go_wp2_with fail
  (try simp only [Exit.inBlock, Exit.then])
  refine bodyPost_ret (v := .tuple #[.agg #[.int .i64 uk, .bool ub, .int .i64 ui, .string us, .slice ual unl ucl, .slice uam unm ucm], .int .i64 ne]) ?_ rfl ?_
  rotate_left
  ·rw [HF.out]
   exact ⟨[.int .i64 uk, .bool ub, .int .i64 ui, .string us, .slice ual unl ucl, .slice uam unm ucm], rfl, V.lies_keep (fun h => h) (fun _ _ => rfl) (fun x hx => ⟨by have := hx.1; omega, hx.2⟩) _ (lies_set6A HU.out (by omega) _ _ _ _ _ _ _ _ _ _ _ _), Below.set6 Bf (by omega) _ _ _ _ _ _ _ _ _ _ _ _⟩
  ·rw [results_cell_tmp rfl]
   go_simp
 ·have HN : Hid (getF v p = (nullV, rdF v p)) := by show _ = _; rw [getF, if_neg hrd]
  obtain ⟨rfl, rfl⟩ := hn hrd
  generalize rdF v p = rd at *
  go_wp2_with fail
  (try simp only [Exit.inBlock, Exit.then])
  refine bodyPost_ret (v := .tuple #[.agg #[.int .i64 0, .bool false, .int .i64 0, .string ⟨#[]⟩, .slice none 0 0, .slice none 0 0], .int .i64 rd]) ?_ rfl ?_
  rotate_left
  ·rw [HN.out]
   exact ⟨[.int .i64 0, .bool false, .int .i64 0, .string ⟨#[]⟩, .slice none 0 0, .slice none 0 0], rfl, null_lies _ _, Below.set6 B1 (by omega) _ _ _ _ _ _ _ _ _ _ _ _⟩
  ·rw [results_cell_tmp rfl]
   go_simp
end Go.Proofs.YtgnofbigggmilaaGreatDoor
