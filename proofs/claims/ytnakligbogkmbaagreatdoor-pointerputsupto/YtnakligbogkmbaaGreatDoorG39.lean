/- joined: RdyB SdoS SdoA TdoA -/
import Derived.Test.YtnakligbogkmbaaGreatDoorG38
import Derived.Test.YtnakligbogkmbaaGreatDoorAddA
set_option linter.unusedSimpArgs false
set_option linter.unusedVariables false
namespace Go.Proofs.YtnakligbogkmbaaGreatDoor
open Go.RowKit Go.Lib
def Rd2Post (rd : Int) (o : Option (List (List UInt8))) (w : World) (e : Ending) (w' : World) : Prop := ∃ (tv : Value) (l : List ByteArray), e = .returned (.tuple #[tv, .int .i64 rd]) ∧ (rd = 0 → dat l = o.getD []) ∧ (rd ≠ 0 → tv = .slice none 0 0 ∧ l = []) ∧ LiesS w' tv l ∧ Below w.heap.size w w'
set_option maxHeartbeats 8000000 in
set_option maxRecDepth 100000 in
theorem ready2_any (v : V) (p : ByteArray) (x : V) (S : Nat → Prop) (cs ds : List Value) (M : Nat) (w : World) (tb : Tb w) (tp : Tp w) (hv : v.lies false w S cs) (hx : x.lies false w S ds) (hrow : rowAt w M 0 ds) (hM : M < w.heap.size) (hS : ∀ b, S b → b < w.heap.size) (hwt : v.wt ≤ 1099511627776) (hwx : x.wt ≤ 1099511627776) (hp : p.size ≤ 1100000) : Calls Tryz.prog 14 #[.agg cs.toArray, .string p, .slice (some ⟨M, 0, none⟩) 1 1] w (Rd2Post (rd2F v p x) (parF p.data.toList) w) := by
 have HV := hmk hv
 have HX : Hid (∀ W, Below w.heap.size w W → Calls Tryz.prog 30 #[.agg ds.toArray, .int .i64 40] W (NPost (chkE x 40) W)) := fun W hb => check_any false x 40 S _ W (tb.below hb tb.z) (lBw hx hS hb) (fun y hy => Nat.lt_of_lt_of_le (hS y hy) hb.size) hwx
 obtain ⟨k, b, i, s, al, nl, cl, am, nm, cm, rfl⟩ := V.ten hv
 obtain ⟨xk, xb, xi, xs, xal, xnl, xcl, xam, xnm, xcm, rfl⟩ := V.ten hx
 clear hv hx
 have B0 : Below w.heap.size w (w.alloc (oV k b i s al nl cl am nm cm)) := oBw w _
 have hz0 : w.heap.size < (w.alloc (oV k b i s al nl cl am nm cm)).heap.size := by rw [aSz]; omega
 have hz0 := hz0; dsimp only [oV, oN] at hz0
 have h0 : (w.alloc (oV k b i s al nl cl am nm cm)).heap[w.heap.size]? = _ := heap_alloc_new w _
 have HC := hmk (check_any false v 40 S _ (w.alloc (oV k b i s al nl cl am nm cm)) (tb.below B0 tb.z) (lBw HV.out hS B0) (fun x hx => Nat.lt_of_lt_of_le (hS x hx) B0.size) hwt)
 have HP : Hid (∀ W, Below w.heap.size w W → Calls Tryz.prog 31 #[.string p] W (PaPost (parF p.data.toList) W)) := fun W hb => pparse_any p W hp (tp.below hb tp.z)
 have HR : Hid (rd2F v p x = if (if chkE v 40 = 0 then (if (parF p.data.toList).isSome then 0 else 40) else (chkE v 40 : Int)) = 0 then (chkE x 40 : Int) else (if chkE v 40 = 0 then (if (parF p.data.toList).isSome then 0 else 40) else (chkE v 40 : Int))) := by show _ = _; rfl
 generalize rd2F v p x = rd at *
 generalize chkE v 40 = ce at *
 generalize chkE x 40 = cx at *
 generalize parF p.data.toList = O at *
 clear tb tp hwt
 obtain ⟨r0, r1, r2, r3, r4, r5⟩ := sixC h0
 go_enter Tryz.func14, Tryz.ntmps14
 go_wp2_with fail
 clear r0 r1 r2 r3 r4 r5
 generalize (w.alloc (oV k b i s al nl cl am nm cm)) = w0 at *
 refine HC.out.mono ?_
 rintro e w1 ⟨rfl, b1⟩
 have hz1 := b1.size
 have B1 := B0.trans (b1.mono (by omega))
 by_cases hce : ce = 0
 ·subst hce
  go_wp2_with fail
  refine (HP.out w1 B1).mono ?_
  rintro e w2 ⟨tv, l, rfl, hd, hl, b2⟩
  have hz2 := b2.size
  have B2 := B1.trans (b2.mono (by omega))
  cases O with
  | none =>
   have HN : Hid (rd = 40) := by show _ = _; rw [HR.out]; simp
   go_wp2_with fail
   go_ret2
   exact ⟨_, [], by rw [HN.out]; rfl, (fun h => by rw [HN.out] at h; omega), (fun _ => ⟨rfl, rfl⟩), liesS_nil _, B2⟩
  | some o =>
   have HN : Hid (rd = (cx : Int)) := by show _ = _; rw [HR.out]; simp
   obtain ⟨c0, c1, c2, c3, c4, c5⟩ := row6z (fun q u hu => (B2.cell (p := ⟨M, _, none⟩) hM).trans (hrow q u hu))
   have bX : Below w2.heap.size w2 (w2.alloc (oV xk xb xi xs xal xnl xcl xam xnm xcm)) := oBw _ _
   have BX := B2.trans (bX.mono B2.size)
   have hX := heap_alloc_new w2 (oV xk xb xi xs xal xnl xcl xam xnm xcm)
   obtain ⟨e0, e1, e2, e3, e4, e5⟩ := sixC hX
   have CX := hmk (HX.out _ BX)
   have hzX : w2.heap.size < (w2.alloc (oV xk xb xi xs xal xnl xcl xam xnm xcm)).heap.size := by rw [aSz]; omega
   have hzX := hzX; dsimp only [oV, oN] at hzX
   go_wp2_with fail
   refine wp_loop_rounds 2 ?_
   rw [rounds_succ]
   go_wp2_with fail
   clear c0 c1 c2 c3 c4 c5 e0 e1 e2 e3 e4 e5 hX
   generalize (w2.alloc (oV xk xb xi xs xal xnl xcl xam xnm xcm)) = w3 at *
   refine CX.out.mono ?_
   rintro e w4 ⟨rfl, b4⟩
   have hz4 := b4.size
   have B4 := BX.trans (b4.mono BX.size)
   have b24 := bX.trans (b4.mono (by omega))
   by_cases hcx : cx = 0
   ·subst hcx
    have HL := hmk (hl.below b24)
    go_wp2_with fail
    rw [rounds_succ]
    go_wp2_with fail
    go_ret2
    exact ⟨tv, l, by rw [HN.out]; rfl, (fun _ => hd), (fun h => absurd HN.out h), HL.out, B4⟩
   ·have y1 : ¬ (cx : Int) = 0 := by omega
    go_wp2_with fail
    go_ret2
    exact ⟨_, [], by rw [HN.out]; rfl, (fun h => by rw [HN.out] at h; omega), (fun _ => ⟨rfl, rfl⟩), liesS_nil _, B4⟩
 ·have HN : Hid (rd = (ce : Int)) := by show _ = _; rw [HR.out, if_neg hce, if_neg (by omega)]
  have y1 : ¬ (ce : Int) = 0 := by omega
  go_wp2_with fail
  go_ret2
  exact ⟨_, [], by rw [HN.out]; rfl, (fun h => by rw [HN.out] at h; omega), (fun _ => ⟨rfl, rfl⟩), liesS_nil _, B1⟩
theorem psplit_any (ts : List ByteArray) (tv : Value) (w : World) (hl : LiesS w tv ts) (hn : ts ≠ []) (hlen : ts.length ≤ 4000000) : Calls Tryz.prog 19 #[tv] w (fun e w' => ∃ ta : Value, e = .returned (.tuple #[ta, .string (lastT ts)]) ∧ TokAt w' ta ts.dropLast ∧ Below w.heap.size w w') := by
 obtain ⟨⟨_, _, _⟩, h2⟩ := hl
 have hpos : 0 < ts.length := List.length_pos_iff.2 hn
 obtain ⟨g, o, c, rfl, hc, hg, hcell⟩ := h2 hpos
 have x := hcell (ts.length - 1) (by omega)
 have e1 : ts[ts.length - 1]'(by omega) = lastT ts := by
  rw [lastT, List.getLastD_eq_getLast?, List.getLast?_eq_getElem?, List.getElem?_eq_getElem (by omega)]; rfl
 rw [e1] at x
 have HT : Hid (∀ W, Below w.heap.size w W → TokAt W (.slice (some ⟨g, o, none⟩) (ts.length - 1) c) ts.dropLast) := fun W hb => by
  by_cases h1 : ts.length = 1
  ·refine .inl ⟨List.length_eq_zero_iff.1 (by rw [List.length_dropLast]; omega), some ⟨g, o, none⟩, c, by rw [h1]⟩
  ·refine .inr ⟨by rw [List.length_dropLast]; omega, g, o, c, by rw [List.length_dropLast], by rw [List.length_dropLast]; omega, Nat.lt_of_lt_of_le hg hb.size, fun j hj => ?_⟩
   rw [List.length_dropLast] at hj
   rw [List.getElem_dropLast]
   exact (hb.cell (p := ⟨g, o + j, none⟩) hg).trans (hcell j (by omega))
 obtain ⟨n, hn'⟩ : ∃ n, ts.length = n + 1 := ⟨ts.length - 1, by omega⟩
 rw [hn'] at x HT hc ⊢
 simp only [Nat.add_sub_cancel] at x HT
 generalize lastT ts = la at *
 have y1 : (n : Int) ≤ c := by omega
 have y2 : ((n + 1 : Nat) : Int) - 1 = (n : Int) := by omega
 have y3 : (n : Int) < ((n + 1 : Nat) : Int) := by omega
 have y4 : ((n + 1 : Nat) : Int) = (n : Int) + 1 := by omega
 clear hcell
 go_enter Tryz.func19, Tryz.ntmps19
 go_wp2_with fail
 go_quiet (fail)
 go_wp2_with fail
 go_ret2
 exact ⟨_, rfl, HT.out _ (below_drewN _ _ _), below_drewN _ _ _⟩
theorem do_fin {S : Nat → Prop} {W w3 : World} {B G : Nat} {x : V} {c0 c1 c2 c3 c4 c5 : Value} (hS : ∀ b, S b → b < W.heap.size) (B3 : W.grownBy w3 (some G)) (hB : W.heap.size + 2 ≤ B) (hz : W.heap.size + 2 ≤ w3.heap.size) (hG : G < W.heap.size) (hx : x.lies false w3 (fun y => S y ∨ (B ≤ y ∧ y < w3.heap.size)) [c0, c1, c2, c3, c4, c5]) :
 x.lies false ((((((w3.setCell ⟨W.heap.size + 1, 0, none⟩ (c0)).setCell ⟨W.heap.size + 1, 1, none⟩ (c1)).setCell ⟨W.heap.size + 1, 2, none⟩ (c2)).setCell ⟨W.heap.size + 1, 3, none⟩ (c3)).setCell ⟨W.heap.size + 1, 4, none⟩ (c4)).setCell ⟨W.heap.size + 1, 5, none⟩ (c5)) (OrNew S W ((((((w3.setCell ⟨W.heap.size + 1, 0, none⟩ (c0)).setCell ⟨W.heap.size + 1, 1, none⟩ (c1)).setCell ⟨W.heap.size + 1, 2, none⟩ (c2)).setCell ⟨W.heap.size + 1, 3, none⟩ (c3)).setCell ⟨W.heap.size + 1, 4, none⟩ (c4)).setCell ⟨W.heap.size + 1, 5, none⟩ (c5))) [c0, c1, c2, c3, c4, c5] ∧ W.grownBy ((((((w3.setCell ⟨W.heap.size + 1, 0, none⟩ (c0)).setCell ⟨W.heap.size + 1, 1, none⟩ (c1)).setCell ⟨W.heap.size + 1, 2, none⟩ (c2)).setCell ⟨W.heap.size + 1, 3, none⟩ (c3)).setCell ⟨W.heap.size + 1, 4, none⟩ (c4)).setCell ⟨W.heap.size + 1, 5, none⟩ (c5)) (some G) ∧ (∀ y, y ≠ W.heap.size + 1 → ((((((w3.setCell ⟨W.heap.size + 1, 0, none⟩ (c0)).setCell ⟨W.heap.size + 1, 1, none⟩ (c1)).setCell ⟨W.heap.size + 1, 2, none⟩ (c2)).setCell ⟨W.heap.size + 1, 3, none⟩ (c3)).setCell ⟨W.heap.size + 1, 4, none⟩ (c4)).setCell ⟨W.heap.size + 1, 5, none⟩ (c5)).heap[y]? = w3.heap[y]?) := by
 have hot : ∀ y, y ≠ W.heap.size + 1 → ((((((w3.setCell ⟨W.heap.size + 1, 0, none⟩ (c0)).setCell ⟨W.heap.size + 1, 1, none⟩ (c1)).setCell ⟨W.heap.size + 1, 2, none⟩ (c2)).setCell ⟨W.heap.size + 1, 3, none⟩ (c3)).setCell ⟨W.heap.size + 1, 4, none⟩ (c4)).setCell ⟨W.heap.size + 1, 5, none⟩ (c5)).heap[y]? = w3.heap[y]? := fun y hy => by
  repeat (rw [sOt hy])
 have g2 : w3.grownBy ((((((w3.setCell ⟨W.heap.size + 1, 0, none⟩ (c0)).setCell ⟨W.heap.size + 1, 1, none⟩ (c1)).setCell ⟨W.heap.size + 1, 2, none⟩ (c2)).setCell ⟨W.heap.size + 1, 3, none⟩ (c3)).setCell ⟨W.heap.size + 1, 4, none⟩ (c4)).setCell ⟨W.heap.size + 1, 5, none⟩ (c5)) (some (W.heap.size + 1)) := gSt (gSt (gSt (gSt (gSt (gSt (World.grownBy.refl w3 _) 0 c0) 1 c1) 2 c2) 3 c3) 4 c4) 5 c5
 have s2 : ((((((w3.setCell ⟨W.heap.size + 1, 0, none⟩ (c0)).setCell ⟨W.heap.size + 1, 1, none⟩ (c1)).setCell ⟨W.heap.size + 1, 2, none⟩ (c2)).setCell ⟨W.heap.size + 1, 3, none⟩ (c3)).setCell ⟨W.heap.size + 1, 4, none⟩ (c4)).setCell ⟨W.heap.size + 1, 5, none⟩ (c5)).heap.size = w3.heap.size := by simp only [sz1]
 generalize ((((((w3.setCell ⟨W.heap.size + 1, 0, none⟩ (c0)).setCell ⟨W.heap.size + 1, 1, none⟩ (c1)).setCell ⟨W.heap.size + 1, 2, none⟩ (c2)).setCell ⟨W.heap.size + 1, 3, none⟩ (c3)).setCell ⟨W.heap.size + 1, 4, none⟩ (c4)).setCell ⟨W.heap.size + 1, 5, none⟩ (c5)) = wf at *
 refine ⟨V.lies_keep (fun h => h) (fun y hy => ?_) (fun y hy => ?_) _ hx, ⟨g2.os.trans B3.os, g2.tape.trans B3.tape, g2.output.trans B3.output, by have := B3.size; omega, fun q hq hne => (hot q (by omega)).trans (B3.block q hq hne)⟩, hot⟩
 ·rcases hy with hy | hy
  ·have := hS y hy; exact hot y (by omega)
  ·exact hot y (by omega)
 ·rcases hy with hy | hy
  ·exact .inl hy
  ·exact .inr ⟨by omega, by omega⟩
set_option maxHeartbeats 8000000 in
set_option maxRecDepth 100000 in
theorem setdo (S : Nat → Prop) (G : Nat) (w : World) (x : V) (xk : Int) (xb : Bool) (xi : Int) (xs : ByteArray) (xal : Option Addr) (xnl xcl : Nat) (xam : Option Addr) (xnm xcm : Nat) (hS : ∀ b, S b → b < w.heap.size) (hG : G < w.heap.size) (hbox : w.heap[G]? = some (.cells #[.int .i64 xk, .bool xb, .int .i64 xi, .string xs, .slice xal xnl xcl, .slice xam xnm xcm] 25)) (hx : x.lies false w S [.int .i64 xk, .bool xb, .int .i64 xi, .string xs, .slice xal xnl xcl, .slice xam xnm xcm]) : DoC 17 (.pointer (some ⟨G, 0, none⟩)) (fun _ => (x, 0)) S G (fun _ _ _ => True) w := by
 intro W y cs hb hwx hga hy
 have hGW : W.heap[G]? = _ := (hb.block G hG).trans hbox
 have hzW := hb.size
 obtain ⟨k, b, i, s, al, nl, cl, am, nm, cm, rfl⟩ := V.ten hy
 clear hy hga hwx
 have hSW : ∀ y, S y → y < W.heap.size := fun y hy => Nat.lt_of_lt_of_le (hS y hy) hzW
 have B0 : Below W.heap.size W ((W.alloc (oV k b i s al nl cl am nm cm)).alloc oN) := tBw W _ _
 have hz0 : ((W.alloc (oV k b i s al nl cl am nm cm)).alloc oN).heap.size = W.heap.size + 2 := by rw [aSz, aSz]
 have hz0 := hz0; dsimp only [oV, oN] at hz0
 have h1 := a2n W (oV k b i s al nl cl am nm cm) oN
 have hG0 := (B0.block G (by omega)).trans hGW
 obtain ⟨x0, x1, x2, x3, x4, x5⟩ := sixC hG0
 have HX : Hid (∀ o1 o2, x.lies false ((W.alloc o1).alloc o2) (OrNew S W ((W.alloc o1).alloc o2)) [.int .i64 xk, .bool xb, .int .i64 xi, .string xs, .slice xal xnl xcl, .slice xam xnm xcm]) := fun o1 o2 => V.lies_keep (fun h => h) (fun y hy => ((tBw W o1 o2).block y (hSW y hy)).trans (hb.block y (hS y hy))) (fun y hy => .inl hy) _ hx
 clear hx h1
 go_enter Tryz.func17, Tryz.ntmps17
 go_wp2_with fail
 (try simp only [Exit.inBlock, Exit.then])
 refine bodyPost_ret (v := .tuple #[.agg #[.int .i64 xk, .bool xb, .int .i64 xi, .string xs, .slice xal xnl xcl, .slice xam xnm xcm], .int .i64 0]) ?_ rfl ?_
 rotate_left
 ·exact ⟨[.int .i64 xk, .bool xb, .int .i64 xi, .string xs, .slice xal xnl xcl, .slice xam xnm xcm], rfl, HX.out _ _, grown_below (tBw W _ _), trivial⟩
 ·rw [results_cell_tmp rfl]
  go_simp
set_option maxHeartbeats 8000000 in
set_option maxRecDepth 100000 in
theorem adddo (S : Nat → Prop) (G LB : Nat) (w : World) (tg : Tg w) (last : ByteArray) (x : V) (xk : Int) (xb : Bool) (xi : Int) (xs : ByteArray) (xal : Option Addr) (xnl xcl : Nat) (xam : Option Addr) (xnm xcm : Nat) (hS : ∀ b, S b → b < w.heap.size) (hG : G < w.heap.size) (hLB : LB < w.heap.size) (hlast : w.heap[LB]? = some (.cells #[.string last] 9)) (hts : last.size ≤ 281474976710656) (hbox : w.heap[G]? = some (.cells #[.int .i64 xk, .bool xb, .int .i64 xi, .string xs, .slice xal xnl xcl, .slice xam xnm xcm] 25)) (hx : x.lies false w S [.int .i64 xk, .bool xb, .int .i64 xi, .string xs, .slice xal xnl xcl, .slice xam xnm xcm]) : DoC2 20 (.pointer (some ⟨LB, 0, none⟩)) (.pointer (some ⟨G, 0, none⟩)) (fun y => addF y last x) S G (fun _ _ _ => True) w := by
 intro W y cs hb hwx hga hy
 have hGW : W.heap[G]? = _ := (hb.block G hG).trans hbox
 have hLW : W.heap[LB]? = _ := (hb.block LB hLB).trans hlast
 have hzW := hb.size
 have hSW : ∀ y, S y → y < W.heap.size := fun y hy => Nat.lt_of_lt_of_le (hS y hy) hzW
 have HY := hmk hy
 obtain ⟨k, b, i, s, al, nl, cl, am, nm, cm, rfl⟩ := V.ten hy
 clear hy
 have B0 : Below W.heap.size W ((W.alloc (oV k b i s al nl cl am nm cm)).alloc oN) := tBw W _ _
 have hz0 : ((W.alloc (oV k b i s al nl cl am nm cm)).alloc oN).heap.size = W.heap.size + 2 := by rw [aSz, aSz]
 have hz0 := hz0; dsimp only [oV, oN] at hz0
 have h0 := a2k W (oV k b i s al nl cl am nm cm) oN
 have h1 := a2n W (oV k b i s al nl cl am nm cm) oN
 have hG0 := (B0.block G (by omega)).trans hGW
 have hL0 := (B0.block LB (by omega)).trans hLW
 obtain ⟨v0, v1, v2, v3, v4, v5⟩ := sixC h0
 obtain ⟨x0, x1, x2, x3, x4, x5⟩ := sixC hG0
 have l0 : ((W.alloc (oV k b i s al nl cl am nm cm)).alloc oN).cell? ⟨LB, 0, none⟩ = some (.string last) := by rw [cBk hL0]; rfl
 have CA := hmk (added_any y last x S _ _ ((W.alloc (oV k b i s al nl cl am nm cm)).alloc oN) (tg.below (hb.trans (B0.mono hzW)) tg.z) (lBw HY.out hSW B0) (V.lies_keep (fun h => h) (fun y hy => (B0.block y (hSW y hy)).trans (hb.block y (hS y hy))) (fun _ h => h) _ hx) (fun y hy => Nat.lt_of_lt_of_le (hSW y hy) B0.size) hts hwx (allG_srt hga))
 clear hx hga HY
 dsimp only
 generalize addF y last x = AR at *
 obtain ⟨ay, ae⟩ := AR
 go_enter Tryz.func20, Tryz.ntmps20
 go_wp2_with fail
 clear v0 v1 v2 v3 v4 v5 x0 x1 x2 x3 x4 x5 l0
 generalize ((W.alloc (oV k b i s al nl cl am nm cm)).alloc oN) = w0 at *
 refine CA.out.mono ?_
 rintro e w3 ⟨es_, rfl, hl3, b3⟩
 have hz3 := b3.size
 have B3 := B0.trans (b3.mono (by omega))
 obtain ⟨ek, eb, ei, es, eal, enl, ecl, eam, enm, ecm, rfl⟩ := V.ten hl3
 have t1 := (b3.block (W.heap.size + 1) (by omega)).trans h1
 have HN : Hid (ay.lies false w3 (fun y => S y ∨ (w0.heap.size ≤ y ∧ y < w3.heap.size)) [.int .i64 ek, .bool eb, .int .i64 ei, .string es, .slice eal enl ecl, .slice eam enm ecm]) := hl3
 have HE := hmk (do_fin (G := G) hSW (grown_below B3) (show W.heap.size + 2 ≤ w0.heap.size by omega) (by omega) (by omega) HN.out)
 obtain ⟨z0, z1, z2, z3, z4, z5⟩ := sixC t1
 have f1 := fBk t1
 clear hl3 HN CA
 go_wp2_with fail
 (try simp only [Exit.inBlock, Exit.then])
 refine bodyPost_ret (v := .tuple #[.agg #[.int .i64 ek, .bool eb, .int .i64 ei, .string es, .slice eal enl ecl, .slice eam enm ecm], .int .i64 ae]) ?_ rfl ?_
 rotate_left
 ·exact ⟨[.int .i64 ek, .bool eb, .int .i64 ei, .string es, .slice eal enl ecl, .slice eam enm ecm], rfl, HE.out.1, HE.out.2.1, trivial⟩
 ·rw [results_cell_tmp rfl]
  go_simp
def Tot (S : Nat → Prop) (G : Nat) (last : ByteArray) (y : V) (W0 W1 : World) : Prop := ((ledF y last).2 = 0 → ∃ cs : List Value, rowAt W1 G 0 cs ∧ (kid y (ledF y last).1).lies false W1 S cs) ∧ (¬ (ledF y last).2 = 0 → W1.heap[G]? = W0.heap[G]?)
set_option maxHeartbeats 8000000 in
set_option maxRecDepth 100000 in
theorem takdo (S : Nat → Prop) (G LB : Nat) (w : World) (tg : Tg w) (last : ByteArray) (hS : ∀ b, S b → b < w.heap.size) (hSG : ¬ S G) (hG : G < w.heap.size) (hLB : LB < w.heap.size) (hlast : w.heap[LB]? = some (.cells #[.string last] 9)) (hts : last.size ≤ 281474976710656) (hbox : w.heap[G]? = some (.cells #[.int .i64 0, .bool false, .int .i64 0, .string ⟨#[]⟩, .slice none 0 0, .slice none 0 0] 25)) : DoC2 22 (.pointer (some ⟨LB, 0, none⟩)) (.pointer (some ⟨G, 0, none⟩)) (takFn last) S G (Tot S G last) w := by
 intro W y cs hb hwx hga hy
 have hGW : W.heap[G]? = _ := (hb.block G hG).trans hbox
 have hLW : W.heap[LB]? = _ := (hb.block LB hLB).trans hlast
 have hzW := hb.size
 have hSW : ∀ y, S y → y < W.heap.size := fun y hy => Nat.lt_of_lt_of_le (hS y hy) hzW
 have HY := hmk hy
 obtain ⟨k, b, i, s, al, nl, cl, am, nm, cm, rfl⟩ := V.ten hy
 clear hy
 have B0 : Below W.heap.size W ((W.alloc (oV k b i s al nl cl am nm cm)).alloc oN) := tBw W _ _
 have hz0 : ((W.alloc (oV k b i s al nl cl am nm cm)).alloc oN).heap.size = W.heap.size + 2 := by rw [aSz, aSz]
 have hz0 := hz0; dsimp only [oV, oN] at hz0
 have h0 := a2k W (oV k b i s al nl cl am nm cm) oN
 have h1 := a2n W (oV k b i s al nl cl am nm cm) oN
 have hG0 := (B0.block G (by omega)).trans hGW
 have hL0 := (B0.block LB (by omega)).trans hLW
 obtain ⟨v0, v1, v2, v3, v4, v5⟩ := sixC h0
 have l0 : ((W.alloc (oV k b i s al nl cl am nm cm)).alloc oN).cell? ⟨LB, 0, none⟩ = some (.string last) := by rw [cBk hL0]; rfl
 have CL := hmk (lead_any y last S _ ((W.alloc (oV k b i s al nl cl am nm cm)).alloc oN) (tg.below (hb.trans (B0.mono hzW)) tg.z) (lBw HY.out hSW B0) (fun y hy => Nat.lt_of_lt_of_le (hSW y hy) B0.size) (by omega) hts (allG_srt hga))
 have HK : Hid ((ledF y last).2 = 0 → kidAt y (ledF y last).1) := fun h => led_kid h
 have HTF : Hid (takFn last y = if (ledF y last).2 = 0 then (remV y (ledF y last).1, 0) else (nullV, (ledF y last).2)) := rfl
 have HTot : Hid (∀ W1, Tot S G last y W W1 = (((ledF y last).2 = 0 → ∃ cs : List Value, rowAt W1 G 0 cs ∧ (kid y (ledF y last).1).lies false W1 S cs) ∧ (¬ (ledF y last).2 = 0 → W1.heap[G]? = W.heap[G]?))) := fun _ => rfl
 generalize Tot S G last y W = TT at *
 generalize takFn last y = TF at *
 generalize ledF y last = LF at *
 obtain ⟨p, er⟩ := LF
 simp only at HK HTF HTot
 go_enter Tryz.func22, Tryz.ntmps22
 go_wp2_with fail
 clear v0 v1 v2 v3 v4 v5 l0
 generalize ((W.alloc (oV k b i s al nl cl am nm cm)).alloc oN) = w0 at *
 refine CL.out.mono ?_
 rintro e w1 ⟨rfl, b1⟩
 have hz1 := b1.size
 have B1 := B0.trans (b1.mono (by omega))
 have t0 := (b1.block W.heap.size (by omega)).trans h0
 have t1 := (b1.block (W.heap.size + 1) (by omega)).trans h1
 have tG := (b1.block G (by omega)).trans hG0
 clear CL
 by_cases her : er = 0
 ·subst her
  have hkd := HK.out rfl
  have HR : Hid (TF = (remV y p, 0)) := by show _ = _; rw [HTF.out, if_pos rfl]
  obtain ⟨v0, v1, v2, v3, v4, v5⟩ := sixC t0
  have CH := hmk (held_any y p S _ w1 (lBw HY.out hSW B1) (fun y hy => Nat.lt_of_lt_of_le (hSW y hy) B1.size) (by omega) hkd)
  go_wp2_with fail
  clear v0 v1 v2 v3 v4 v5
  refine CH.out.mono ?_
  rintro e w3 ⟨es_, rfl, hl3, b3⟩
  have hz3 := b3.size
  have B3 := B1.trans (b3.mono B1.size)
  obtain ⟨ek, eb, ei, es, eal, enl, ecl, eam, enm, ecm, rfl⟩ := V.ten hl3
  have u0 := (b3.block W.heap.size (by omega)).trans t0
  have u1 := (b3.block (W.heap.size + 1) (by omega)).trans t1
  have uG := (b3.block G (by omega)).trans tG
  obtain ⟨c0, c1, c2, c3, c4, c5⟩ := sixC uG
  have fG := fBk uG
  obtain ⟨v0, v1, v2, v3, v4, v5⟩ := sixC u0
  have n0 : ¬ G = W.heap.size := by omega
  have n1 : ¬ W.heap.size = G := by omega
  have hot : ∀ y, y ≠ G → ((((((w3.setCell ⟨G, 0, none⟩ (.int .i64 ek)).setCell ⟨G, 1, none⟩ (.bool eb)).setCell ⟨G, 2, none⟩ (.int .i64 ei)).setCell ⟨G, 3, none⟩ (.string es)).setCell ⟨G, 4, none⟩ (.slice eal enl ecl)).setCell ⟨G, 5, none⟩ (.slice eam enm ecm)).heap[y]? = w3.heap[y]? := fun y hy => by
   repeat (rw [sOt hy])
  have g4 : w3.grownBy ((((((w3.setCell ⟨G, 0, none⟩ (.int .i64 ek)).setCell ⟨G, 1, none⟩ (.bool eb)).setCell ⟨G, 2, none⟩ (.int .i64 ei)).setCell ⟨G, 3, none⟩ (.string es)).setCell ⟨G, 4, none⟩ (.slice eal enl ecl)).setCell ⟨G, 5, none⟩ (.slice eam enm ecm)) (some G) := gSt (gSt (gSt (gSt (gSt (gSt (World.grownBy.refl w3 _) 0 (.int .i64 ek)) 1 (.bool eb)) 2 (.int .i64 ei)) 3 (.string es)) 4 (.slice eal enl ecl)) 5 (.slice eam enm ecm)
  have s4 : ((((((w3.setCell ⟨G, 0, none⟩ (.int .i64 ek)).setCell ⟨G, 1, none⟩ (.bool eb)).setCell ⟨G, 2, none⟩ (.int .i64 ei)).setCell ⟨G, 3, none⟩ (.string es)).setCell ⟨G, 4, none⟩ (.slice eal enl ecl)).setCell ⟨G, 5, none⟩ (.slice eam enm ecm)).heap.size = w3.heap.size := by simp only [sz1]
  obtain ⟨arr', e1, e2, _, e4, _, _⟩ := set6_row (o := 0) uG (by decide) (.int .i64 ek) (.bool eb) (.int .i64 ei) (.string es) (.slice eal enl ecl) (.slice eam enm ecm)
  simp only [Nat.zero_add] at e4
  have HK4 : Hid ((kid y p).lies false ((((((w3.setCell ⟨G, 0, none⟩ (.int .i64 ek)).setCell ⟨G, 1, none⟩ (.bool eb)).setCell ⟨G, 2, none⟩ (.int .i64 ei)).setCell ⟨G, 3, none⟩ (.string es)).setCell ⟨G, 4, none⟩ (.slice eal enl ecl)).setCell ⟨G, 5, none⟩ (.slice eam enm ecm)) S [.int .i64 ek, .bool eb, .int .i64 ei, .string es, .slice eal enl ecl, .slice eam enm ecm]) := V.lies_keep (fun h => h) (fun z hz => hot z (fun e => hSG (e ▸ hz))) (fun _ h => h) _ hl3
  have HY4 : Hid (y.lies false ((((((w3.setCell ⟨G, 0, none⟩ (.int .i64 ek)).setCell ⟨G, 1, none⟩ (.bool eb)).setCell ⟨G, 2, none⟩ (.int .i64 ei)).setCell ⟨G, 3, none⟩ (.string es)).setCell ⟨G, 4, none⟩ (.slice eal enl ecl)).setCell ⟨G, 5, none⟩ (.slice eam enm ecm)) S [.int .i64 k, .bool b, .int .i64 i, .string s, .slice al nl cl, .slice am nm cm]) := V.lies_keep (fun h => h) (fun z hz => (hot z (fun e => hSG (e ▸ hz))).trans (B3.block z (hSW z hz))) (fun _ h => h) _ HY.out
  have CR := hmk (removed_any y p S _ ((((((w3.setCell ⟨G, 0, none⟩ (.int .i64 ek)).setCell ⟨G, 1, none⟩ (.bool eb)).setCell ⟨G, 2, none⟩ (.int .i64 ei)).setCell ⟨G, 3, none⟩ (.string es)).setCell ⟨G, 4, none⟩ (.slice eal enl ecl)).setCell ⟨G, 5, none⟩ (.slice eam enm ecm)) HY4.out (fun z hz => by rw [s4]; have := hSW z hz; omega) hwx hkd)
  have q0 := (hot W.heap.size (by omega)).trans u0
  have q1 := (hot (W.heap.size + 1) (by omega)).trans u1
  clear e1 e2 hl3 CH HY HY4
  go_wp2_with fail
  clear c0 c1 c2 c3 c4 c5 fG v0 v1 v2 v3 v4 v5
  generalize ((((((w3.setCell ⟨G, 0, none⟩ (.int .i64 ek)).setCell ⟨G, 1, none⟩ (.bool eb)).setCell ⟨G, 2, none⟩ (.int .i64 ei)).setCell ⟨G, 3, none⟩ (.string es)).setCell ⟨G, 4, none⟩ (.slice eal enl ecl)).setCell ⟨G, 5, none⟩ (.slice eam enm ecm)) = w4 at *
  refine CR.out.mono ?_
  rintro e w5 ⟨fs_, rfl, hl5, b5⟩
  have hz5 := b5.size
  obtain ⟨fk, fb, fi, fs, fal, fnl, fcl, fam, fnm, fcm, rfl⟩ := V.ten hl5
  have G5 : W.grownBy w5 (some G) := ⟨b5.os.trans (g4.os.trans B3.os), b5.tape.trans (g4.tape.trans B3.tape), b5.output.trans (g4.output.trans B3.output), by omega, fun q hq hne => (b5.block q (by omega)).trans ((hot q (fun e => hne (by rw [e]))).trans (B3.block q hq))⟩
  have r1 := (b5.block (W.heap.size + 1) (by omega)).trans q1
  have HN : Hid ((remV y p).lies false w5 (fun z => S z ∨ (w4.heap.size ≤ z ∧ z < w5.heap.size)) [.int .i64 fk, .bool fb, .int .i64 fi, .string fs, .slice fal fnl fcl, .slice fam fnm fcm]) := hl5
  have HE := hmk (do_fin (G := G) hSW G5 (show W.heap.size + 2 ≤ w4.heap.size by omega) (by omega) (by omega) HN.out)
  obtain ⟨z0, z1, z2, z3, z4, z5⟩ := sixC r1
  have f1 := fBk r1
  have hE4 : rowAt w5 G 0 [.int .i64 ek, .bool eb, .int .i64 ei, .string es, .slice eal enl ecl, .slice eam enm ecm] := e4.keep (b5.block G (by omega))
  have HK5 : Hid ((kid y p).lies false w5 S [.int .i64 ek, .bool eb, .int .i64 ei, .string es, .slice eal enl ecl, .slice eam enm ecm]) := V.lies_keep (fun h => h) (fun z hz => b5.block z (by have := hSW z hz; omega)) (fun _ h => h) _ HK4.out
  clear hl5 HN CR e4
  go_wp2_with fail
  (try simp only [Exit.inBlock, Exit.then])
  refine bodyPost_ret (v := .tuple #[.agg #[.int .i64 fk, .bool fb, .int .i64 fi, .string fs, .slice fal fnl fcl, .slice fam fnm fcm], .int .i64 0]) ?_ rfl ?_
  rotate_left
  ·rw [HR.out]
   refine ⟨[.int .i64 fk, .bool fb, .int .i64 fi, .string fs, .slice fal fnl fcl, .slice fam fnm fcm], rfl, HE.out.1, HE.out.2.1, ?_⟩
   rw [HTot.out]
   exact ⟨fun _ => ⟨[.int .i64 ek, .bool eb, .int .i64 ei, .string es, .slice eal enl ecl, .slice eam enm ecm], hE4.keep (HE.out.2.2 G (by omega)), V.lies_keep (fun h => h) (fun z hz => HE.out.2.2 z (by have := hSW z hz; omega)) (fun _ h => h) _ HK5.out⟩, fun h => by simp at h⟩
  ·rw [results_cell_tmp rfl]
   go_simp
 ·have HR : Hid (TF = (nullV, er)) := by show _ = _; rw [HTF.out, if_neg her]
  obtain ⟨z0, z1, z2, z3, z4, z5⟩ := sixC t1
  have f1 := fBk t1
  have HE := hmk (do_fin (G := G) (x := nullV) hSW (grown_below B1) (show W.heap.size + 2 ≤ w1.heap.size by omega) (by omega) (by omega) (null_lies w1 (fun z => S z ∨ (w1.heap.size ≤ z ∧ z < w1.heap.size))))
  have hGG : w1.heap[G]? = W.heap[G]? := B1.block G (by omega)
  go_wp2_with fail
  (try simp only [Exit.inBlock, Exit.then])
  refine bodyPost_ret (v := .tuple #[.agg #[.int .i64 0, .bool false, .int .i64 0, .string ⟨#[]⟩, .slice none 0 0, .slice none 0 0], .int .i64 er]) ?_ rfl ?_
  rotate_left
  ·rw [HR.out]
   refine ⟨[.int .i64 0, .bool false, .int .i64 0, .string ⟨#[]⟩, .slice none 0 0, .slice none 0 0], rfl, HE.out.1, HE.out.2.1, ?_⟩
   rw [HTot.out]
   exact ⟨fun h => absurd h her, fun _ => (HE.out.2.2 G (by omega)).trans hGG⟩
  ·rw [results_cell_tmp rfl]
   go_simp
end Go.Proofs.YtnakligbogkmbaaGreatDoor
