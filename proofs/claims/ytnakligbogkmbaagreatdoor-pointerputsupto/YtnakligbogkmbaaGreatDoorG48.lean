/- joined: RptA RstA -/
import Derived.Test.YtnakligbogkmbaaGreatDoorG47
set_option linter.unusedSimpArgs false
set_option linter.unusedVariables false
namespace Go.Proofs.YtnakligbogkmbaaGreatDoor
open Go.RowKit Go.Lib
set_option maxHeartbeats 8000000 in
set_option maxRecDepth 100000 in
theorem rput_any (what : Nat) (v x : V) (p : ByteArray) (S : Nat → Prop) (cs ds : List Value) (w : World) (hv : v.lies false w S cs) (hx : x.lies false w S ds) (hS : ∀ b, S b → b < w.heap.size) (hwt : v.wt ≤ 1099511627776) (hxt : x.wt ≤ 1099511627776) (hp : p.size ≤ 1100000) (hwd : rdF v p = 0 → chkE x 40 = 0 → (doneF what x v (toksOf p)).2.2 = 0 → (doneF what x v (toksOf p)).1.wt ≤ 1099511627776) :
 Calls Tryz.prog 18 #[.int .i64 (what : Int), .agg cs.toArray, .string p, .agg ds.toArray] w (AdPost (putR what v p x) S w) := by
 have HV : Hid (∀ W, Below w.heap.size w W → v.lies false W S cs) := fun W hb => lBw hv hS hb
 have HX : Hid (∀ W, Below w.heap.size w W → x.lies false W S ds) := fun W hb => lBw hx hS hb
 obtain ⟨k, b, i, s, al, nl, cl, am, nm, cm, rfl⟩ := V.ten hv
 obtain ⟨xk, xb, xi, xs, xal, xnl, xcl, xam, xnm, xcm, rfl⟩ := V.ten hx
 have b2 : Below w.heap.size w ((w.alloc (oV k b i s al nl cl am nm cm)).alloc (oV xk xb xi xs xal xnl xcl xam xnm xcm)) := tBw w _ _
 have hz2 : ((w.alloc (oV k b i s al nl cl am nm cm)).alloc (oV xk xb xi xs xal xnl xcl xam xnm xcm)).heap.size = w.heap.size + 2 := by rw [aSz, aSz]
 have hz2 := hz2; dsimp only [oV, oN] at hz2
 have b4 : Below ((w.alloc (oV k b i s al nl cl am nm cm)).alloc (oV xk xb xi xs xal xnl xcl xam xnm xcm)).heap.size ((w.alloc (oV k b i s al nl cl am nm cm)).alloc (oV xk xb xi xs xal xnl xcl xam xnm xcm)) ((((w.alloc (oV k b i s al nl cl am nm cm)).alloc (oV xk xb xi xs xal xnl xcl xam xnm xcm)).alloc oN).alloc oN) := tBw _ _ _
 have hz4 : ((((w.alloc (oV k b i s al nl cl am nm cm)).alloc (oV xk xb xi xs xal xnl xcl xam xnm xcm)).alloc oN).alloc oN).heap.size = w.heap.size + 4 := by rw [aSz, aSz, hz2]
 have hz4 := hz4; dsimp only [oV, oN] at hz4
 have B4 : Below w.heap.size w ((((w.alloc (oV k b i s al nl cl am nm cm)).alloc (oV xk xb xi xs xal xnl xcl xam xnm xcm)).alloc oN).alloc oN) := b2.trans (b4.mono (by omega))
 have h0 := (b4.block w.heap.size (by omega)).trans (a2k w (oV k b i s al nl cl am nm cm) (oV xk xb xi xs xal xnl xcl xam xnm xcm))
 have h1 := (b4.block (w.heap.size + 1) (by omega)).trans (a2n w (oV k b i s al nl cl am nm cm) (oV xk xb xi xs xal xnl xcl xam xnm xcm))
 have h2 := a2k ((w.alloc (oV k b i s al nl cl am nm cm)).alloc (oV xk xb xi xs xal xnl xcl xam xnm xcm)) oN oN
 rw [hz2] at h2
 have h3 := a2n ((w.alloc (oV k b i s al nl cl am nm cm)).alloc (oV xk xb xi xs xal xnl xcl xam xnm xcm)) oN oN
 rw [hz2] at h3
 obtain ⟨r0, r1, r2, r3, r4, r5⟩ := sixC h0
 have HAk := hmk (asked_any v p S _ ((((w.alloc (oV k b i s al nl cl am nm cm)).alloc (oV xk xb xi xs xal xnl xcl xam xnm xcm)).alloc oN).alloc oN) (HV.out _ B4) (fun y hy => Nat.lt_of_lt_of_le (hS y hy) B4.size) hwt hp)
 have HCx : Hid (∀ W, Below w.heap.size w W → Calls Tryz.prog 33 #[.agg #[.int .i64 xk, .bool xb, .int .i64 xi, .string xs, .slice xal xnl xcl, .slice xam xnm xcm], .int .i64 40] W (NPost (chkE x 40) W)) := fun W hb => rcheck_any false x 40 S _ W (HX.out W hb) (fun y hy => Nat.lt_of_lt_of_le (hS y hy) hb.size) hxt
 have HWD := hmk hwd
 clear hv hx b2 b4 hz2 hwd
 go_enter Tryz.func18, Tryz.ntmps18
 go_wp2_with fail
 clear r0 r1 r2 r3 r4 r5
 generalize ((((w.alloc (oV k b i s al nl cl am nm cm)).alloc (oV xk xb xi xs xal xnl xcl xam xnm xcm)).alloc oN).alloc oN) = w4 at *
 refine HAk.out.mono ?_
 rintro e w1 ⟨B, tv, l, hB, rfl, hd, ho, b1⟩
 have hz1 := b1.size
 have B1 := B4.trans (b1.mono (by omega))
 by_cases hrd : rdF v p = 0
 ·obtain ⟨hce, o, hoo⟩ := rd_zero hrd
  have hG : allG v := rd_allG hrd
  have hdo : dat l = o := by have := hd hrd; rw [hoo] at this; exact this
  have htl : l = toksOf p := by rw [toksOf, hoo]; exact toks_of hdo
  have hbd := tok_len hoo hdo
  have hvw : v.wt ≤ 1114112 := wt_of_chk (by rw [← chkE40]; exact hce)
  have hTok : Hid (∀ W, Below w1.heap.size w1 W → TokAt W tv l) := fun W hb => (TokAt.of_lies ho.lies).below hb
  have htz : ∀ t ∈ l, t.size ≤ 281474976710656 := fun t ht => by have := hbd.2 t ht; omega
  have hPR : putR what v p x = if chkE x 40 = 0 then nweF (doneF what x v l).1 (doneF what x v l).2.2 else (nullV, (chkE x 40 : Int)) := by
   rw [putR, rd2F, if_pos hrd, ← htl]
   by_cases h : chkE x 40 = 0
   ·rw [if_pos (by omega), if_pos h]
   ·rw [if_neg (by omega), if_neg h]
  have HWD2 : Hid (chkE x 40 = 0 → (doneF what x v l).2.2 = 0 → (doneF what x v l).1.wt ≤ 1099511627776) := by rw [htl]; exact HWD.out hrd
  have HPR := hmk hPR
  rw [hrd]
  clear hd hPR htl HWD ho hdo hoo hce hbd HAk hp
  have m1 := (b1.block (w.heap.size + 1) (by omega)).trans h1
  obtain ⟨x0, x1, x2, x3, x4, x5⟩ := sixC m1
  obtain ⟨ta, tn_, tc_, rfl⟩ : ∃ a n c, tv = .slice a n c := by
   rcases hTok.out w1 (Below.refl _ _) with h | h
   ·obtain ⟨a, c, h⟩ := h.2; exact ⟨_, _, _, h⟩
   ·obtain ⟨g, o, c, h, _⟩ := h.2; exact ⟨_, _, _, h⟩
  go_wp2_with fail
  clear x0 x1 x2 x3 x4 x5
  refine (HCx.out w1 B1).mono ?_
  rintro e w2 ⟨rfl, c2⟩
  have hz2 := c2.size
  have B2 := B1.trans (c2.mono (by omega))
  have Q2 : Below (w.heap.size + 4) w4 w2 := (b1.mono (by omega)).trans (c2.mono (by omega))
  by_cases hcx : chkE x 40 = 0
  ·have HP2 : Hid (putR what v p x = nweF (doneF what x v l).1 (doneF what x v l).2.2) := by show _ = _; rw [HPR.out, if_pos hcx]
   have HW3 : Hid ((doneF what x v l).2.2 = 0 → (doneF what x v l).1.wt ≤ 1099511627776) := HWD2.out hcx
   rw [hcx]
   clear HPR HWD2
   have HD := hmk (done_any what x S _ l v _ (.slice ta tn_ tc_) w2 (HV.out w2 B2) (HX.out w2 B2) (fun y hy => Nat.lt_of_lt_of_le (hS y hy) B2.size) hvw hG (hTok.out w2 c2) htz)
   generalize doneF what x v l = R at *
   obtain ⟨Ry, Rk, Re⟩ := R
   simp only at HP2 HW3 HD
   have k0 := (Q2.block w.heap.size (by omega)).trans h0
   have k1 := (Q2.block (w.heap.size + 1) (by omega)).trans h1
   obtain ⟨v0, v1, v2, v3, v4, v5⟩ := sixC k0
   obtain ⟨x0, x1, x2, x3, x4, x5⟩ := sixC k1
   go_wp2_with fail
   clear v0 v1 v2 v3 v4 v5 x0 x1 x2 x3 x4 x5
   refine HD.out.mono ?_
   rintro e w3 ⟨cs1, cs2, rfl, hl1, hl2, b3⟩
   obtain ⟨gk, gb, gi, gs, gal, gnl, gcl, gam, gnm, gcm, rfl⟩ := V.ten hl1
   obtain ⟨fk, fb, fi, fs, fal, fnl, fcl, fam, fnm, fcm, rfl⟩ := V.ten hl2
   have hz3 := b3.size
   have d6 : Below w3.heap.size w3 ((w3.alloc (oV gk gb gi gs gal gnl gcl gam gnm gcm)).alloc (oV fk fb fi fs fal fnl fcl fam fnm fcm)) := tBw _ _ _
   have hz6 : ((w3.alloc (oV gk gb gi gs gal gnl gcl gam gnm gcm)).alloc (oV fk fb fi fs fal fnl fcl fam fnm fcm)).heap.size = w3.heap.size + 2 := by rw [aSz, aSz]
   have hz6 := hz6; dsimp only [oV, oN] at hz6
   have Q6 : Below (w.heap.size + 4) w4 ((w3.alloc (oV gk gb gi gs gal gnl gcl gam gnm gcm)).alloc (oV fk fb fi fs fal fnl fcl fam fnm fcm)) := Q2.trans ((b3.mono (by omega)).trans (d6.mono (by omega)))
   have B6 : Below w.heap.size w ((w3.alloc (oV gk gb gi gs gal gnl gcl gam gnm gcm)).alloc (oV fk fb fi fs fal fnl fcl fam fnm fcm)) := B4.trans (Q6.mono (by omega))
   have bx := a2k w3 (oV gk gb gi gs gal gnl gcl gam gnm gcm) (oV fk fb fi fs fal fnl fcl fam fnm fcm)
   have HL6 : Hid (Ry.lies false ((w3.alloc (oV gk gb gi gs gal gnl gcl gam gnm gcm)).alloc (oV fk fb fi fs fal fnl fcl fam fnm fcm)) (fun y => S y ∨ (w2.heap.size ≤ y ∧ y < w3.heap.size)) [.int .i64 gk, .bool gb, .int .i64 gi, .string gs, .slice gal gnl gcl, .slice gam gnm gcm]) := V.lies_keep (fun h => h) (fun y hy => d6.block y (hy.elim (fun hy => by have := hS y hy; omega) (fun hy => hy.2))) (fun _ h => h) _ hl1
   have hz6' : w3.heap.size + 2 ≤ ((w3.alloc (oV gk gb gi gs gal gnl gcl gam gnm gcm)).alloc (oV fk fb fi fs fal fnl fcl fam fnm fcm)).heap.size := by omega
   clear hl1 hl2 HD hz6
   by_cases hre : Re = 0
   ·have HP3 : Hid (putR what v p x = if chkE Ry 40 = 0 then (Ry, 0) else (nullV, (chkE Ry 40 : Int))) := by show _ = _; rw [HP2.out, nweF, if_pos hre]
    have HC6 : Hid (Calls Tryz.prog 33 #[.agg #[.int .i64 gk, .bool gb, .int .i64 gi, .string gs, .slice gal gnl gcl, .slice gam gnm gcm], .int .i64 40] ((w3.alloc (oV gk gb gi gs gal gnl gcl gam gnm gcm)).alloc (oV fk fb fi fs fal fnl fcl fam fnm fcm)) (NPost (chkE Ry 40) ((w3.alloc (oV gk gb gi gs gal gnl gcl gam gnm gcm)).alloc (oV fk fb fi fs fal fnl fcl fam fnm fcm)))) := rcheck_any false Ry 40 _ _ ((w3.alloc (oV gk gb gi gs gal gnl gcl gam gnm gcm)).alloc (oV fk fb fi fs fal fnl fcl fam fnm fcm)) HL6.out (fun y hy => hy.elim (fun hy => by have := hS y hy; have := B6.size; omega) (fun hy => by omega)) (HW3.out hre)
    rw [hre]
    clear HP2 HW3
    obtain ⟨g0, g1, g2, g3, g4, g5⟩ := sixC bx
    go_wp2_with fail
    clear g0 g1 g2 g3 g4 g5
    generalize ((w3.alloc (oV gk gb gi gs gal gnl gcl gam gnm gcm)).alloc (oV fk fb fi fs fal fnl fcl fam fnm fcm)) = w6 at *
    refine HC6.out.mono ?_
    rintro e w8 ⟨rfl, c8⟩
    have hz8 := c8.size
    have Q8 : Below (w.heap.size + 4) w4 w8 := Q6.trans (c8.mono (by omega))
    have B8 : Below w.heap.size w w8 := B4.trans (Q8.mono (by omega))
    by_cases hcr : chkE Ry 40 = 0
    ·have HP4 : Hid (putR what v p x = (Ry, 0)) := by show _ = _; rw [HP3.out, if_pos hcr]
     rw [hcr]
     have m2 := (Q8.block (w.heap.size + 2) (by omega)).trans h2
     have mb := (c8.block w3.heap.size (by omega)).trans bx
     obtain ⟨z0, z1, z2, z3, z4, z5⟩ := sixC m2
     obtain ⟨g0, g1, g2, g3, g4, g5⟩ := sixC mb
     have fz := fBk m2
     have HN : Hid (Ry.lies false w8 (fun y => S y ∨ (w.heap.size + 3 ≤ y ∧ y < w8.heap.size)) [.int .i64 gk, .bool gb, .int .i64 gi, .string gs, .slice gal gnl gcl, .slice gam gnm gcm]) := V.lies_keep (fun h => h) (fun y hy => c8.block y (hy.elim (fun hy => by have := hS y hy; omega) (fun hy => by omega))) (fun y hy => hy.elim .inl (fun hy => .inr ⟨by omega, by omega⟩)) _ HL6.out
     have HF := hmk (wi_fin hS B8 (by omega) HN.out)
     clear HN HL6 HP3 HC6
     go_wp2_with fail
     (try simp only [Exit.inBlock, Exit.then])
     refine bodyPost_ret (v := .tuple #[.agg #[.int .i64 gk, .bool gb, .int .i64 gi, .string gs, .slice gal gnl gcl, .slice gam gnm gcm], .int .i64 0]) ?_ rfl ?_
     rotate_left
     ·rw [HP4.out]
      exact ⟨[.int .i64 gk, .bool gb, .int .i64 gi, .string gs, .slice gal gnl gcl, .slice gam gnm gcm], rfl, HF.out.1, HF.out.2⟩
     ·rw [results_cell_tmp rfl]
      go_simp
    ·have HP4 : Hid (putR what v p x = (nullV, (chkE Ry 40 : Int))) := by show _ = _; rw [HP3.out, if_neg hcr]
     clear HP3 HC6 HL6
     generalize chkE Ry 40 = ce at *
     have hci : ¬ (ce : Int) = 0 := by omega
     have hb0 : ((ce : Int) != 0) = true := by simpa using hci
     have m2 := (Q8.block (w.heap.size + 2) (by omega)).trans h2
     have m3 := (Q8.block (w.heap.size + 3) (by omega)).trans h3
     obtain ⟨z0, z1, z2, z3, z4, z5⟩ := sixC m2
     obtain ⟨nu0, nu1, nu2, nu3, nu4, nu5⟩ := sixC m3
     have fz := fBk m2
     have HF := hmk (wi_fin (x := nullV) hS B8 (by have := Q8.size; omega) (null_liesS _ _))
     go_wp2_with fail
     (try simp only [Exit.inBlock, Exit.then])
     refine bodyPost_ret (v := .tuple #[.agg #[.int .i64 0, .bool false, .int .i64 0, .string ⟨#[]⟩, .slice none 0 0, .slice none 0 0], .int .i64 ce]) ?_ rfl ?_
     rotate_left
     ·rw [HP4.out]
      exact ⟨[.int .i64 0, .bool false, .int .i64 0, .string ⟨#[]⟩, .slice none 0 0, .slice none 0 0], rfl, HF.out.1, HF.out.2⟩
     ·rw [results_cell_tmp rfl]
      go_simp
   ·have HP3 : Hid (putR what v p x = (nullV, Re)) := by show _ = _; rw [HP2.out, nweF, if_neg hre]
    have hb0 : (Re != 0) = true := by simpa using hre
    clear HP2 HW3
    have m2 := (Q6.block (w.heap.size + 2) (by omega)).trans h2
    have m3 := (Q6.block (w.heap.size + 3) (by omega)).trans h3
    obtain ⟨z0, z1, z2, z3, z4, z5⟩ := sixC m2
    obtain ⟨nu0, nu1, nu2, nu3, nu4, nu5⟩ := sixC m3
    have fz := fBk m2
    have HF := hmk (wi_fin (x := nullV) hS B6 (by have := Q6.size; omega) (null_liesS _ _))
    go_wp2_with fail
    (try simp only [Exit.inBlock, Exit.then])
    refine bodyPost_ret (v := .tuple #[.agg #[.int .i64 0, .bool false, .int .i64 0, .string ⟨#[]⟩, .slice none 0 0, .slice none 0 0], .int .i64 Re]) ?_ rfl ?_
    rotate_left
    ·rw [HP3.out]
     exact ⟨[.int .i64 0, .bool false, .int .i64 0, .string ⟨#[]⟩, .slice none 0 0, .slice none 0 0], rfl, HF.out.1, HF.out.2⟩
    ·rw [results_cell_tmp rfl]
     go_simp
  ·have HP2 : Hid (putR what v p x = (nullV, (chkE x 40 : Int))) := by show _ = _; rw [HPR.out, if_neg hcx]
   clear HPR HWD2
   generalize chkE x 40 = ce at *
   have hci : ¬ (ce : Int) = 0 := by omega
   have hb0 : ((ce : Int) != 0) = true := by simpa using hci
   have m2 := (Q2.block (w.heap.size + 2) (by omega)).trans h2
   have m3 := (Q2.block (w.heap.size + 3) (by omega)).trans h3
   obtain ⟨z0, z1, z2, z3, z4, z5⟩ := sixC m2
   obtain ⟨nu0, nu1, nu2, nu3, nu4, nu5⟩ := sixC m3
   have fz := fBk m2
   have HF := hmk (wi_fin (x := nullV) hS B2 (by have := Q2.size; omega) (null_liesS _ _))
   go_wp2_with fail
   (try simp only [Exit.inBlock, Exit.then])
   refine bodyPost_ret (v := .tuple #[.agg #[.int .i64 0, .bool false, .int .i64 0, .string ⟨#[]⟩, .slice none 0 0, .slice none 0 0], .int .i64 ce]) ?_ rfl ?_
   rotate_left
   ·rw [HP2.out]
    exact ⟨[.int .i64 0, .bool false, .int .i64 0, .string ⟨#[]⟩, .slice none 0 0, .slice none 0 0], rfl, HF.out.1, HF.out.2⟩
   ·rw [results_cell_tmp rfl]
    go_simp
 ·have HP2 : Hid (putR what v p x = (nullV, rdF v p)) := by show _ = _; rw [putR, rd2F, if_neg hrd, if_neg hrd]
  have Q1 : Below (w.heap.size + 4) w4 w1 := b1.mono (by omega)
  clear HWD HAk hd ho
  generalize rdF v p = rd at *
  have hb0 : (rd != 0) = true := by simpa using hrd
  have m2 := (Q1.block (w.heap.size + 2) (by omega)).trans h2
  have m3 := (Q1.block (w.heap.size + 3) (by omega)).trans h3
  obtain ⟨z0, z1, z2, z3, z4, z5⟩ := sixC m2
  obtain ⟨nu0, nu1, nu2, nu3, nu4, nu5⟩ := sixC m3
  have fz := fBk m2
  have HF := hmk (wi_fin (x := nullV) hS B1 (by have := Q1.size; omega) (null_liesS _ _))
  go_wp2_with fail
  (try simp only [Exit.inBlock, Exit.then])
  refine bodyPost_ret (v := .tuple #[.agg #[.int .i64 0, .bool false, .int .i64 0, .string ⟨#[]⟩, .slice none 0 0, .slice none 0 0], .int .i64 rd]) ?_ rfl ?_
  rotate_left
  ·rw [HP2.out]
   exact ⟨[.int .i64 0, .bool false, .int .i64 0, .string ⟨#[]⟩, .slice none 0 0, .slice none 0 0], rfl, HF.out.1, HF.out.2⟩
  ·rw [results_cell_tmp rfl]
   go_simp
theorem dat_map (o : List (List UInt8)) : dat (o.map (fun t => (⟨t.toArray⟩ : ByteArray))) = o := by
 induction o with
 | nil => rfl
 | cons t o ih => simp only [dat, List.map_cons] at ih ⊢; rw [ih]
set_option maxHeartbeats 8000000 in
set_option maxRecDepth 100000 in
theorem rset_any (v x : V) (p : ByteArray) (S : Nat → Prop) (cs ds : List Value) (w : World) (hv : v.lies false w S cs) (hx : x.lies false w S ds) (hS : ∀ b, S b → b < w.heap.size) (hwt : v.wt ≤ 2147483648) (hxt : x.wt ≤ 2147483648) (hp : p.size ≤ 1100000) :
 Calls Tryz.prog 7 #[.agg cs.toArray, .string p, .agg ds.toArray] w (AdPost (putR 1 v p x) S w) := by
 have hwd : rdF v p = 0 → chkE x 40 = 0 → (doneF 1 x v (toksOf p)).2.2 = 0 → (doneF 1 x v (toksOf p)).1.wt ≤ 1099511627776 := fun hr _ h0 => by
  have h := done_set x (toksOf p) v (rd_allG hr)
  rw [h.2 h0]
  have := wk_heavy (fun _ => (x, 0)) x.wt (fun y => Nat.le_add_left _ _) (toksOf p) v
  omega
 have HP : Hid (∀ W, Below w.heap.size w W → Calls Tryz.prog 18 #[.int .i64 1, .agg cs.toArray, .string p, .agg ds.toArray] W (AdPost (putR 1 v p x) S W)) := fun W hb => rput_any 1 v x p S cs ds W (lBw hv hS hb) (lBw hx hS hb) (fun y hy => Nat.lt_of_lt_of_le (hS y hy) hb.size) (by omega) (by omega) hp hwd
 obtain ⟨k, b, i, s, al, nl, cl, am, nm, cm, rfl⟩ := V.ten hv
 obtain ⟨xk, xb, xi, xs, xal, xnl, xcl, xam, xnm, xcm, rfl⟩ := V.ten hx
 have B3 : Below w.heap.size w (((w.alloc (oV k b i s al nl cl am nm cm)).alloc (oV xk xb xi xs xal xnl xcl xam xnm xcm)).alloc oN) := (tBw w _ _).trans ((oBw _ _).mono (tBw w _ _).size)
 have hz2 : ((w.alloc (oV k b i s al nl cl am nm cm)).alloc (oV xk xb xi xs xal xnl xcl xam xnm xcm)).heap.size = w.heap.size + 2 := by rw [aSz, aSz]
 have hz2 := hz2; dsimp only [oV, oN] at hz2
 have hz3 : (((w.alloc (oV k b i s al nl cl am nm cm)).alloc (oV xk xb xi xs xal xnl xcl xam xnm xcm)).alloc oN).heap.size = w.heap.size + 3 := by rw [aSz, hz2]
 have hz3 := hz3; dsimp only [oV, oN] at hz3
 have h2 := heap_alloc_new ((w.alloc (oV k b i s al nl cl am nm cm)).alloc (oV xk xb xi xs xal xnl xcl xam xnm xcm)) oN
 rw [hz2] at h2
 have h0 : (((w.alloc (oV k b i s al nl cl am nm cm)).alloc (oV xk xb xi xs xal xnl xcl xam xnm xcm)).alloc oN).heap[w.heap.size]? = some (oV k b i s al nl cl am nm cm) := (Below.heap_alloc _ _ w.heap.size (by omega)).trans (a2k w (oV k b i s al nl cl am nm cm) (oV xk xb xi xs xal xnl xcl xam xnm xcm))
 have h1 : (((w.alloc (oV k b i s al nl cl am nm cm)).alloc (oV xk xb xi xs xal xnl xcl xam xnm xcm)).alloc oN).heap[w.heap.size + 1]? = some (oV xk xb xi xs xal xnl xcl xam xnm xcm) := (Below.heap_alloc _ _ (w.heap.size + 1) (by omega)).trans (a2n w (oV k b i s al nl cl am nm cm) (oV xk xb xi xs xal xnl xcl xam xnm xcm))
 obtain ⟨v0, v1, v2, v3, v4, v5⟩ := sixC h0
 obtain ⟨x0, x1, x2, x3, x4, x5⟩ := sixC h1
 clear hv hx hwd hz2
 generalize putR 1 v p x = R at *
 obtain ⟨Ry, Re⟩ := R
 go_enter Tryz.func7, Tryz.ntmps7
 go_wp2_with fail
 clear v0 v1 v2 v3 v4 v5 x0 x1 x2 x3 x4 x5
 generalize (((w.alloc (oV k b i s al nl cl am nm cm)).alloc (oV xk xb xi xs xal xnl xcl xam xnm xcm)).alloc oN) = w3 at *
 refine (HP.out w3 B3).mono ?_
 rintro e w4 ⟨es_, rfl, hl4, b4⟩
 obtain ⟨gk, gb, gi, gs, gal, gnl, gcl, gam, gnm, gcm, rfl⟩ := V.ten hl4
 have hz4 := b4.size
 have m2 := (b4.block (w.heap.size + 2) (by omega)).trans h2
 obtain ⟨z0, z1, z2, z3, z4, z5⟩ := sixC m2
 have fz := fBk m2
 have HN : Hid (Ry.lies false w4 (fun y => S y ∨ (w.heap.size + 3 ≤ y ∧ y < w4.heap.size)) [.int .i64 gk, .bool gb, .int .i64 gi, .string gs, .slice gal gnl gcl, .slice gam gnm gcm]) := V.lies_keep (fun h => h) (fun _ _ => rfl) (fun y hy => hy.elim .inl (fun hy => .inr ⟨by have := hy.1; omega, hy.2⟩)) _ hl4
 have HF := hmk (wi_fin hS (B3.trans (b4.mono (by omega))) (by omega) HN.out)
 clear HN hl4 HP
 go_wp2_with fail
 (try simp only [Exit.inBlock, Exit.then])
 refine bodyPost_ret (v := .tuple #[.agg #[.int .i64 gk, .bool gb, .int .i64 gi, .string gs, .slice gal gnl gcl, .slice gam gnm gcm], .int .i64 Re]) ?_ rfl ?_
 rotate_left
 ·exact ⟨[.int .i64 gk, .bool gb, .int .i64 gi, .string gs, .slice gal gnl gcl, .slice gam gnm gcm], rfl, HF.out.1, HF.out.2⟩
 ·rw [results_cell_tmp rfl]
  go_simp
set_option maxHeartbeats 8000000 in
set_option maxRecDepth 100000 in
theorem radd_any (v x : V) (p : ByteArray) (S : Nat → Prop) (cs ds : List Value) (w : World) (hv : v.lies false w S cs) (hx : x.lies false w S ds) (hS : ∀ b, S b → b < w.heap.size) (hwt : v.wt ≤ 2147483648) (hxt : x.wt ≤ 2147483648) (hp : p.size ≤ 1100000) :
 Calls Tryz.prog 10 #[.agg cs.toArray, .string p, .agg ds.toArray] w (AdPost (putR 2 v p x) S w) := by
 have hwd : rdF v p = 0 → chkE x 40 = 0 → (doneF 2 x v (toksOf p)).2.2 = 0 → (doneF 2 x v (toksOf p)).1.wt ≤ 1099511627776 := fun hr hc h0 => by
  by_cases hn : toksOf p = []
  ·rw [hn, doneF, if_neg (by decide)]
   show x.wt ≤ _
   omega
  ·have h := done_add x (toksOf p) v hn (rd_allG hr)
   rw [h.2 h0]
   have h1 := wk_heavy (fun w => addF w (lastT (toksOf p)) x) ((lastT (toksOf p)).size + x.wt) (fun y => add_heavy _ x y) (toksOf p).dropLast v
   have hl : (lastT (toksOf p)).size ≤ 1100000 := by
    obtain ⟨_, o, ho⟩ := rd_zero hr
    have htl : toksOf p = o.map (fun t => ⟨t.toArray⟩) := by rw [toksOf, ho]; rfl
    have hdo : dat (toksOf p) = o := by rw [htl]; exact dat_map o
    have hbd := tok_len ho hdo
    have hm : lastT (toksOf p) ∈ toksOf p := by
     rw [lastT, List.getLastD_eq_getLast?, List.getLast?_eq_some_getLast hn]
     exact List.getLast_mem hn
    exact Nat.le_trans (hbd.2 _ hm) hp
   omega
 have HP : Hid (∀ W, Below w.heap.size w W → Calls Tryz.prog 18 #[.int .i64 2, .agg cs.toArray, .string p, .agg ds.toArray] W (AdPost (putR 2 v p x) S W)) := fun W hb => rput_any 2 v x p S cs ds W (lBw hv hS hb) (lBw hx hS hb) (fun y hy => Nat.lt_of_lt_of_le (hS y hy) hb.size) (by omega) (by omega) hp hwd
 obtain ⟨k, b, i, s, al, nl, cl, am, nm, cm, rfl⟩ := V.ten hv
 obtain ⟨xk, xb, xi, xs, xal, xnl, xcl, xam, xnm, xcm, rfl⟩ := V.ten hx
 have B3 : Below w.heap.size w (((w.alloc (oV k b i s al nl cl am nm cm)).alloc (oV xk xb xi xs xal xnl xcl xam xnm xcm)).alloc oN) := (tBw w _ _).trans ((oBw _ _).mono (tBw w _ _).size)
 have hz2 : ((w.alloc (oV k b i s al nl cl am nm cm)).alloc (oV xk xb xi xs xal xnl xcl xam xnm xcm)).heap.size = w.heap.size + 2 := by rw [aSz, aSz]
 have hz2 := hz2; dsimp only [oV, oN] at hz2
 have hz3 : (((w.alloc (oV k b i s al nl cl am nm cm)).alloc (oV xk xb xi xs xal xnl xcl xam xnm xcm)).alloc oN).heap.size = w.heap.size + 3 := by rw [aSz, hz2]
 have hz3 := hz3; dsimp only [oV, oN] at hz3
 have h2 := heap_alloc_new ((w.alloc (oV k b i s al nl cl am nm cm)).alloc (oV xk xb xi xs xal xnl xcl xam xnm xcm)) oN
 rw [hz2] at h2
 have h0 : (((w.alloc (oV k b i s al nl cl am nm cm)).alloc (oV xk xb xi xs xal xnl xcl xam xnm xcm)).alloc oN).heap[w.heap.size]? = some (oV k b i s al nl cl am nm cm) := (Below.heap_alloc _ _ w.heap.size (by omega)).trans (a2k w (oV k b i s al nl cl am nm cm) (oV xk xb xi xs xal xnl xcl xam xnm xcm))
 have h1 : (((w.alloc (oV k b i s al nl cl am nm cm)).alloc (oV xk xb xi xs xal xnl xcl xam xnm xcm)).alloc oN).heap[w.heap.size + 1]? = some (oV xk xb xi xs xal xnl xcl xam xnm xcm) := (Below.heap_alloc _ _ (w.heap.size + 1) (by omega)).trans (a2n w (oV k b i s al nl cl am nm cm) (oV xk xb xi xs xal xnl xcl xam xnm xcm))
 obtain ⟨v0, v1, v2, v3, v4, v5⟩ := sixC h0
 obtain ⟨x0, x1, x2, x3, x4, x5⟩ := sixC h1
 clear hv hx hwd hz2
 generalize putR 2 v p x = R at *
 obtain ⟨Ry, Re⟩ := R
 go_enter Tryz.func10, Tryz.ntmps10
 go_wp2_with fail
 clear v0 v1 v2 v3 v4 v5 x0 x1 x2 x3 x4 x5
 generalize (((w.alloc (oV k b i s al nl cl am nm cm)).alloc (oV xk xb xi xs xal xnl xcl xam xnm xcm)).alloc oN) = w3 at *
 refine (HP.out w3 B3).mono ?_
 rintro e w4 ⟨es_, rfl, hl4, b4⟩
 obtain ⟨gk, gb, gi, gs, gal, gnl, gcl, gam, gnm, gcm, rfl⟩ := V.ten hl4
 have hz4 := b4.size
 have m2 := (b4.block (w.heap.size + 2) (by omega)).trans h2
 obtain ⟨z0, z1, z2, z3, z4, z5⟩ := sixC m2
 have fz := fBk m2
 have HN : Hid (Ry.lies false w4 (fun y => S y ∨ (w.heap.size + 3 ≤ y ∧ y < w4.heap.size)) [.int .i64 gk, .bool gb, .int .i64 gi, .string gs, .slice gal gnl gcl, .slice gam gnm gcm]) := V.lies_keep (fun h => h) (fun _ _ => rfl) (fun y hy => hy.elim .inl (fun hy => .inr ⟨by have := hy.1; omega, hy.2⟩)) _ hl4
 have HF := hmk (wi_fin hS (B3.trans (b4.mono (by omega))) (by omega) HN.out)
 clear HN hl4 HP
 go_wp2_with fail
 (try simp only [Exit.inBlock, Exit.then])
 refine bodyPost_ret (v := .tuple #[.agg #[.int .i64 gk, .bool gb, .int .i64 gi, .string gs, .slice gal gnl gcl, .slice gam gnm gcm], .int .i64 Re]) ?_ rfl ?_
 rotate_left
 ·exact ⟨[.int .i64 gk, .bool gb, .int .i64 gi, .string gs, .slice gal gnl gcl, .slice gam gnm gcm], rfl, HF.out.1, HF.out.2⟩
 ·rw [results_cell_tmp rfl]
  go_simp
end Go.Proofs.YtnakligbogkmbaaGreatDoor
