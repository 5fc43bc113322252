import Derived.Test.YtjfldbmopjojdaaDoorAnsX
import Derived.Test.YtjfldbmopjojdaaDoorG46
import Derived.Test.YtjfldbmopjojdaaDoorG39
set_option linter.unusedSimpArgs false
set_option linter.unusedVariables false
namespace Go.Proofs.YtjfldbmopjojdaaDoor
open Go Go.RowKit Go.Lib
set_option maxHeartbeats 8000000 in
set_option maxRecDepth 100000 in
theorem lawnew_any (low : Addr) (t p : V) (S : Nat → Prop) (cs ds : List Value) (w : World) (tb : Tb w) (hE : ErrAt low w) (hv : t.lies false w S cs) (hx : p.lies false w S ds) (hS : ∀ b, S b → b < w.heap.size) (hwt : t.wt ≤ 2147483648) (hwp : p.wt ≤ 2147483648) :
 Calls Tryd.prog 30 #[.agg cs.toArray, .agg ds.toArray] w (BPost true w) := by
 obtain ⟨tk, tbb, ti, ts, tal, tnl, tcl, tam, tnm, tcm, rfl⟩ := V.ten hv
 obtain ⟨pk, pb, pi, ps, pal, pnl, pcl, pam, pnm, pcm, rfl⟩ := V.ten hx
 have B0 : Below w.heap.size w ((w.alloc (.cells #[.int .i64 tk, .bool tbb, .int .i64 ti, .string ts, .slice tal tnl tcl, .slice tam tnm tcm] 25)).alloc (.cells #[.int .i64 pk, .bool pb, .int .i64 pi, .string ps, .slice pal pnl pcl, .slice pam pnm pcm] 25)) := two_below w _ _
 have XT : Bx ((w.alloc (.cells #[.int .i64 tk, .bool tbb, .int .i64 ti, .string ts, .slice tal tnl tcl, .slice tam tnm tcm] 25)).alloc (.cells #[.int .i64 pk, .bool pb, .int .i64 pi, .string ps, .slice pal pnl pcl, .slice pam pnm pcm] 25)) w.heap.size t [.int .i64 tk, .bool tbb, .int .i64 ti, .string ts, .slice tal tnl tcl, .slice tam tnm tcm] := (Bx.new hv hS).below ((Below.refl _ _).alloc (Nat.le_refl _) _)
 have hx1 : p.lies false (w.alloc (.cells #[.int .i64 tk, .bool tbb, .int .i64 ti, .string ts, .slice tal tnl tcl, .slice tam tnm tcm] 25)) (Old (w.alloc (.cells #[.int .i64 tk, .bool tbb, .int .i64 ti, .string ts, .slice tal tnl tcl, .slice tam tnm tcm] 25))) [.int .i64 pk, .bool pb, .int .i64 pi, .string ps, .slice pal pnl pcl, .slice pam pnm pcm] := V.lies_keep (fun h => h) (fun y hy => Below.heap_alloc w _ y (hS y hy)) (fun y hy => by show y < _; rw [alloc_size]; exact Nat.lt_succ_of_lt (hS y hy)) _ hx
 have XP : Bx ((w.alloc (.cells #[.int .i64 tk, .bool tbb, .int .i64 ti, .string ts, .slice tal tnl tcl, .slice tam tnm tcm] 25)).alloc (.cells #[.int .i64 pk, .bool pb, .int .i64 pi, .string ps, .slice pal pnl pcl, .slice pam pnm pcm] 25)) (w.heap.size + 1) p [.int .i64 pk, .bool pb, .int .i64 pi, .string ps, .slice pal pnl pcl, .slice pam pnm pcm] := by
  have h := Bx.new hx1 (fun _ h => h)
  rw [alloc_size] at h
  exact h
 have HT : Hid (∀ W, Below w.heap.size w W → Tb W) := fun W hB => tb.below hB tb.z
 have HE : Hid (∀ W, Below w.heap.size w W → ErrAt low W) := fun W hB => hE.below hB hE.z
 have hz0 := B0.size
 clear hv hx hx1 tb hE
 obtain ⟨d0, d1, d2, d3, d4, d5⟩ := row6z XT.row
 go_enter Tryd.func30, Tryd.ntmps30
 go_wp2_with fail
 clear d0 d1 d2 d3 d4 d5
 generalize ((w.alloc (.cells #[.int .i64 tk, .bool tbb, .int .i64 ti, .string ts, .slice tal tnl tcl, .slice tam tnm tcm] 25)).alloc (.cells #[.int .i64 pk, .bool pb, .int .i64 pi, .string ps, .slice pal pnl pcl, .slice pam pnm pcm] 25)) = w0 at *
 refine (twin_un t (Old w0) _ w0 XT.lies (fun _ h => h) hwt).mono ?_
 rintro e_ w1 ⟨cx_, rfl, bw1, lx_, ux_⟩
 obtain ⟨xk, xb, xi, xs, xal, xnl, xcl, xam, xnm, xcm, rfl⟩ := V.ten lx_
 replace XT := XT.below bw1
 replace XP := XP.below bw1
 have hzw1 := bw1.size
 have Bw1 := B0.trans (bw1.mono (by omega))
 clear bw1
 have bzwa2 : Below w1.heap.size w1 (w1.alloc (.cells #[.int .i64 xk, .bool xb, .int .i64 xi, .string xs, .slice xal xnl xcl, .slice xam xnm xcm] 25)) := one_belowG _ _
 have hltwa2 : w1.heap.size < (w1.alloc (.cells #[.int .i64 xk, .bool xb, .int .i64 xi, .string xs, .slice xal xnl xcl, .slice xam xnm xcm] 25)).heap.size := by rw [alloc_size]; omega
 have XX : Tw (w1.alloc (.cells #[.int .i64 xk, .bool xb, .int .i64 xi, .string xs, .slice xal xnl xcl, .slice xam xnm xcm] 25)) w1.heap.size w0.heap.size w1.heap.size t [.int .i64 xk, .bool xb, .int .i64 xi, .string xs, .slice xal xnl xcl, .slice xam xnm xcm] := Tw.new lx_ ux_ (Nat.le_refl _)
 replace XT := XT.below bzwa2
 replace XP := XP.below bzwa2
 have hzwa2 := bzwa2.size
 have Bwa2 := Bw1.trans (bzwa2.mono (by omega))
 obtain ⟨d0, d1, d2, d3, d4, d5⟩ := row6z XP.row
 go_wp2_with fail
 clear d0 d1 d2 d3 d4 d5
 generalize (w1.alloc (.cells #[.int .i64 xk, .bool xb, .int .i64 xi, .string xs, .slice xal xnl xcl, .slice xam xnm xcm] 25)) = wa2 at *
 clear bzwa2
 clear lx_ ux_
 refine (twin_un p (Old wa2) _ wa2 XP.lies (fun _ h => h) hwp).mono ?_
 rintro e_ w3 ⟨cy_, rfl, bw3, ly_, uy_⟩
 obtain ⟨yk, yb, yi, ys, yal, ynl, ycl, yam, ynm, ycm, rfl⟩ := V.ten ly_
 replace XP := XP.below bw3
 replace XX := XX.below bw3
 have hzw3 := bw3.size
 have Bw3 := Bwa2.trans (bw3.mono (by omega))
 clear bw3
 have bzwa4 : Below w3.heap.size w3 (w3.alloc (.cells #[.int .i64 yk, .bool yb, .int .i64 yi, .string ys, .slice yal ynl ycl, .slice yam ynm ycm] 25)) := one_belowG _ _
 have hltwa4 : w3.heap.size < (w3.alloc (.cells #[.int .i64 yk, .bool yb, .int .i64 yi, .string ys, .slice yal ynl ycl, .slice yam ynm ycm] 25)).heap.size := by rw [alloc_size]; omega
 have XY : Tw (w3.alloc (.cells #[.int .i64 yk, .bool yb, .int .i64 yi, .string ys, .slice yal ynl ycl, .slice yam ynm ycm] 25)) w3.heap.size wa2.heap.size w3.heap.size p [.int .i64 yk, .bool yb, .int .i64 yi, .string ys, .slice yal ynl ycl, .slice yam ynm ycm] := Tw.new ly_ uy_ (Nat.le_refl _)
 replace XP := XP.below bzwa4
 replace XX := XX.below bzwa4
 have hzwa4 := bzwa4.size
 have Bwa4 := Bw3.trans (bzwa4.mono (by omega))
 obtain ⟨d0, d1, d2, d3, d4, d5⟩ := row6z XX.row
 obtain ⟨f0, f1, f2, f3, f4, f5⟩ := row6z XY.row
 go_wp2_with fail
 clear d0 d1 d2 d3 d4 d5
 clear f0 f1 f2 f3 f4 f5
 generalize (w3.alloc (.cells #[.int .i64 yk, .bool yb, .int .i64 yi, .string ys, .slice yal ynl ycl, .slice yam ynm ycm] 25)) = wa4 at *
 clear bzwa4
 clear ly_ uy_
 clear XT XP
 refine (answers_ap low t p (Old wa4) _ _ wa4 (HT.out _ Bwa4) (HE.out _ Bwa4) XX.bx.lies XY.bx.lies (fun _ h => h) hwt hwp).mono ?_
 rintro e_ w5 ⟨g_, e1_, e2_, rfl, _, _, _, _, _, _, bw5⟩
 replace XX := XX.below bw5
 replace XY := XY.below bw5
 have hzw5 := bw5.size
 have Bw5 := Bwa4.trans (bw5.mono (by omega))
 obtain ⟨d0, d1, d2, d3, d4, d5⟩ := row6z XX.row
 obtain ⟨f0, f1, f2, f3, f4, f5⟩ := row6z XY.row
 clear bw5
 go_wp2_with fail
 clear d0 d1 d2 d3 d4 d5
 clear f0 f1 f2 f3 f4 f5
 have CA := diff_any low t p (Old w5) _ _ w5 (HT.out _ Bw5) (HE.out _ Bw5) XX.bx.lies XY.bx.lies (fun _ h => h) hwt hwp
 generalize dffF t p = RD at CA
 refine CA.mono ?_
 clear CA
 rintro e_ w6 ⟨cq_, rfl, lq_, bw6⟩
 obtain ⟨qk, qb, qi, qs, qal, qnl, qcl, qam, qnm, qcm, rfl⟩ := V.ten lq_
 clear lq_
 replace XX := XX.below bw6
 replace XY := XY.below bw6
 have hzw6 := bw6.size
 have Bw6 := Bw5.trans (bw6.mono (by omega))
 obtain ⟨d0, d1, d2, d3, d4, d5⟩ := row6z XX.row
 clear bw6
 go_wp2_with fail
 clear d0 d1 d2 d3 d4 d5
 obtain ⟨F_, sp_, nd_, hF_⟩ := XX.sp
 have hlt_ := XX.lt
 have hhi_ := XX.hb
 have row_ := XX.row
 have olt_ := XY.lt
 have ohi_ := XY.hb
 refine (spun_any t _ F_ w6 sp_ nd_ (fun y hy => by have := hF_ y hy; omega) hwt).mono ?_
 rintro e_ w7 ⟨rfl, ch_, T, hwT, lT⟩
 replace hwT : T.wt ≤ 2147483648 := by rw [hwT]; exact hwt
 have hzw7 := ch_.size
 have Bw7 := Ch.bel Bw6 ch_ (fun y hy => by have := hF_ y hy; omega) (by omega)
 have ZT : Bx w7 w1.heap.size T _ := ⟨row_.keep (ch_.blk _ hlt_ (fun q => by have := hF_ _ q; omega)), by omega, V.lies_keep (fun h => h) (fun _ _ => rfl) (fun y hy => by have := hF_ y hy; show y < _; omega) _ lT⟩
 have RT : T.lies false w7 (fun y => w0.heap.size ≤ y ∧ y < w1.heap.size) _ := V.lies_keep (fun h => h) (fun _ _ => rfl) (fun y hy => hF_ y hy) _ lT
 replace XY := XY.ch ch_ (fun y hy => by have := hF_ y hy; omega)
 clear sp_ nd_ ch_ hlt_ hhi_ row_ olt_ ohi_ lT XX
 clear hF_
 obtain ⟨d0, d1, d2, d3, d4, d5⟩ := row6z XY.row
 go_wp2_with fail
 clear d0 d1 d2 d3 d4 d5
 obtain ⟨G_, sp_, nd_, hF_⟩ := XY.sp
 have hlt_ := XY.lt
 have hhi_ := XY.hb
 have row_ := XY.row
 have hxl_ := ZT.lt
 refine (spun_any p _ G_ w7 sp_ nd_ (fun y hy => by have := hF_ y hy; omega) hwp).mono ?_
 rintro e_ w8 ⟨rfl, ch_, Q, hwQ, lQ⟩
 replace hwQ : Q.wt ≤ 2147483648 := by rw [hwQ]; exact hwp
 have hzw8 := ch_.size
 have Bw8 := Ch.bel Bw7 ch_ (fun y hy => by have := hF_ y hy; omega) (by omega)
 have YY : Bx w8 w3.heap.size Q _ := ⟨row_.keep (ch_.blk _ hlt_ (fun q => by have := hF_ _ q; omega)), by omega, V.lies_keep (fun h => h) (fun _ _ => rfl) (fun y hy => by have := hF_ y hy; show y < _; omega) _ lQ⟩
 have YX : Bx w8 w1.heap.size T _ := Bx.ch ZT.row ZT.lt (Nat.le_refl _) RT ch_ (fun y hy => by have := hF_ y hy; omega)
 clear sp_ nd_ ch_ hlt_ hhi_ row_ hxl_ lQ XY ZT RT hF_
 obtain ⟨d0, d1, d2, d3, d4, d5⟩ := row6z YX.row
 go_wp2_with fail
 clear d0 d1 d2 d3 d4 d5
 refine (twin_un T (Old w8) _ w8 YX.lies (fun _ h => h) hwT).mono ?_
 rintro e_ w9 ⟨cv_, rfl, bw9, lv_, uv_⟩
 obtain ⟨vk, vb, vi, vs, val, vnl, vcl, vam, vnm, vcm, rfl⟩ := V.ten lv_
 replace YX := YX.below bw9
 replace YY := YY.below bw9
 have hzw9 := bw9.size
 have Bw9 := Bw8.trans (bw9.mono (by omega))
 clear bw9
 have bzwa10 : Below w9.heap.size w9 (w9.alloc (.cells #[.int .i64 vk, .bool vb, .int .i64 vi, .string vs, .slice val vnl vcl, .slice vam vnm vcm] 25)) := one_belowG _ _
 have hltwa10 : w9.heap.size < (w9.alloc (.cells #[.int .i64 vk, .bool vb, .int .i64 vi, .string vs, .slice val vnl vcl, .slice vam vnm vcm] 25)).heap.size := by rw [alloc_size]; omega
 have YV : Bx (w9.alloc (.cells #[.int .i64 vk, .bool vb, .int .i64 vi, .string vs, .slice val vnl vcl, .slice vam vnm vcm] 25)) w9.heap.size T [.int .i64 vk, .bool vb, .int .i64 vi, .string vs, .slice val vnl vcl, .slice vam vnm vcm] := Bx.new lv_ (fun y hy => hy.2)
 replace YX := YX.below bzwa10
 replace YY := YY.below bzwa10
 have hzwa10 := bzwa10.size
 have Bwa10 := Bw9.trans (bzwa10.mono (by omega))
 obtain ⟨d0, d1, d2, d3, d4, d5⟩ := row6z YY.row
 go_wp2_with fail
 clear d0 d1 d2 d3 d4 d5
 generalize (w9.alloc (.cells #[.int .i64 vk, .bool vb, .int .i64 vi, .string vs, .slice val vnl vcl, .slice vam vnm vcm] 25)) = wa10 at *
 clear bzwa10
 clear lv_ uv_
 refine (twin_un Q (Old wa10) _ wa10 YY.lies (fun _ h => h) hwQ).mono ?_
 rintro e_ w11 ⟨cu_, rfl, bw11, lu_, uu_⟩
 obtain ⟨uk, ub, ui, us, ual, unl, ucl, uam, unm, ucm, rfl⟩ := V.ten lu_
 replace YX := YX.below bw11
 replace YY := YY.below bw11
 replace YV := YV.below bw11
 have hzw11 := bw11.size
 have Bw11 := Bwa10.trans (bw11.mono (by omega))
 clear bw11
 have bzwa12 : Below w11.heap.size w11 (w11.alloc (.cells #[.int .i64 uk, .bool ub, .int .i64 ui, .string us, .slice ual unl ucl, .slice uam unm ucm] 25)) := one_belowG _ _
 have hltwa12 : w11.heap.size < (w11.alloc (.cells #[.int .i64 uk, .bool ub, .int .i64 ui, .string us, .slice ual unl ucl, .slice uam unm ucm] 25)).heap.size := by rw [alloc_size]; omega
 have YU : Bx (w11.alloc (.cells #[.int .i64 uk, .bool ub, .int .i64 ui, .string us, .slice ual unl ucl, .slice uam unm ucm] 25)) w11.heap.size Q [.int .i64 uk, .bool ub, .int .i64 ui, .string us, .slice ual unl ucl, .slice uam unm ucm] := Bx.new lu_ (fun y hy => hy.2)
 replace YX := YX.below bzwa12
 replace YY := YY.below bzwa12
 replace YV := YV.below bzwa12
 have hzwa12 := bzwa12.size
 have Bwa12 := Bw11.trans (bzwa12.mono (by omega))
 obtain ⟨d0, d1, d2, d3, d4, d5⟩ := row6z YX.row
 obtain ⟨f0, f1, f2, f3, f4, f5⟩ := row6z YY.row
 go_wp2_with fail
 clear d0 d1 d2 d3 d4 d5
 clear f0 f1 f2 f3 f4 f5
 generalize (w11.alloc (.cells #[.int .i64 uk, .bool ub, .int .i64 ui, .string us, .slice ual unl ucl, .slice uam unm ucm] 25)) = wa12 at *
 clear bzwa12
 clear lu_ uu_
 clear F_ G_
 have CA := apply_any T Q (Old wa12) _ _ wa12 (HT.out _ Bwa12) YX.lies YY.lies (fun _ h => h) hwT hwQ
 obtain ⟨⟨fa, ea⟩, hfa⟩ : ∃ q, aplF T Q = q := ⟨_, rfl⟩
 have HFA := hmk hfa
 clear hfa
 rw [HFA.out] at CA
 refine CA.mono ?_
 clear CA
 rintro e_ w13 ⟨cq_, rfl, lq_, bw13⟩
 obtain ⟨gk, gb, gi, gs, gal, gnl, gcl, gam, gnm, gcm, rfl⟩ := V.ten lq_
 clear lq_
 replace YX := YX.below bw13
 replace YY := YY.below bw13
 replace YV := YV.below bw13
 replace YU := YU.below bw13
 have hzw13 := bw13.size
 have Bw13 := Bwa12.trans (bw13.mono (by omega))
 clear bw13
 have bzwa14 : Below w13.heap.size w13 (w13.alloc (.cells #[.int .i64 gk, .bool gb, .int .i64 gi, .string gs, .slice gal gnl gcl, .slice gam gnm gcm] 25)) := one_belowG _ _
 have hltwa14 : w13.heap.size < (w13.alloc (.cells #[.int .i64 gk, .bool gb, .int .i64 gi, .string gs, .slice gal gnl gcl, .slice gam gnm gcm] 25)).heap.size := by rw [alloc_size]; omega
 replace YX := YX.below bzwa14
 replace YY := YY.below bzwa14
 replace YV := YV.below bzwa14
 replace YU := YU.below bzwa14
 have hzwa14 := bzwa14.size
 have Bwa14 := Bw13.trans (bzwa14.mono (by omega))
 obtain ⟨d0, d1, d2, d3, d4, d5⟩ := row6z YV.row
 obtain ⟨f0, f1, f2, f3, f4, f5⟩ := row6z YU.row
 go_wp2_with fail
 clear d0 d1 d2 d3 d4 d5
 clear f0 f1 f2 f3 f4 f5
 generalize (w13.alloc (.cells #[.int .i64 gk, .bool gb, .int .i64 gi, .string gs, .slice gal gnl gcl, .slice gam gnm gcm] 25)) = wa14 at *
 clear bzwa14
 have CA := apply_any T Q (Old wa14) _ _ wa14 (HT.out _ Bwa14) YV.lies YU.lies (fun _ h => h) hwT hwQ
 rw [HFA.out] at CA
 refine CA.mono ?_
 clear CA
 rintro e_ w15 ⟨cq_, rfl, lq_, bw15⟩
 obtain ⟨hk, hb, hi, hs, hal, hnl, hcl, ham, hnm, hcm, rfl⟩ := V.ten lq_
 clear lq_
 replace YX := YX.below bw15
 replace YY := YY.below bw15
 replace YV := YV.below bw15
 replace YU := YU.below bw15
 have hzw15 := bw15.size
 have Bw15 := Bwa14.trans (bw15.mono (by omega))
 clear bw15
 have bzwa16 : Below w15.heap.size w15 (w15.alloc (.cells #[.int .i64 hk, .bool hb, .int .i64 hi, .string hs, .slice hal hnl hcl, .slice ham hnm hcm] 25)) := one_belowG _ _
 have hltwa16 : w15.heap.size < (w15.alloc (.cells #[.int .i64 hk, .bool hb, .int .i64 hi, .string hs, .slice hal hnl hcl, .slice ham hnm hcm] 25)).heap.size := by rw [alloc_size]; omega
 replace YX := YX.below bzwa16
 replace YY := YY.below bzwa16
 replace YV := YV.below bzwa16
 replace YU := YU.below bzwa16
 have hzwa16 := bzwa16.size
 have Bwa16 := Bw15.trans (bzwa16.mono (by omega))
 obtain ⟨d0, d1, d2, d3, d4, d5⟩ := row6z YX.row
 obtain ⟨f0, f1, f2, f3, f4, f5⟩ := row6z YY.row
 go_wp2_with fail
 clear d0 d1 d2 d3 d4 d5
 clear f0 f1 f2 f3 f4 f5
 generalize (w15.alloc (.cells #[.int .i64 hk, .bool hb, .int .i64 hi, .string hs, .slice hal hnl hcl, .slice ham hnm hcm] 25)) = wa16 at *
 clear bzwa16
 have CA := diff_any low T Q (Old wa16) _ _ wa16 (HT.out _ Bwa16) (HE.out _ Bwa16) YX.lies YY.lies (fun _ h => h) hwT hwQ
 obtain ⟨⟨fc, tc, ec⟩, hfa⟩ : ∃ q, dffF T Q = q := ⟨_, rfl⟩
 have HFD := hmk hfa
 clear hfa
 rw [HFD.out] at CA
 refine CA.mono ?_
 clear CA
 rintro e_ w17 ⟨cq_, rfl, lq_, bw17⟩
 obtain ⟨jk, jb, ji, js, jal, jnl, jcl, jam, jnm, jcm, rfl⟩ := V.ten lq_
 clear lq_
 replace YX := YX.below bw17
 replace YY := YY.below bw17
 replace YV := YV.below bw17
 replace YU := YU.below bw17
 have hzw17 := bw17.size
 have Bw17 := Bwa16.trans (bw17.mono (by omega))
 clear bw17
 have bzwa18 : Below w17.heap.size w17 (w17.alloc (.cells #[.int .i64 jk, .bool jb, .int .i64 ji, .string js, .slice jal jnl jcl, .slice jam jnm jcm] 25)) := one_belowG _ _
 have hltwa18 : w17.heap.size < (w17.alloc (.cells #[.int .i64 jk, .bool jb, .int .i64 ji, .string js, .slice jal jnl jcl, .slice jam jnm jcm] 25)).heap.size := by rw [alloc_size]; omega
 replace YX := YX.below bzwa18
 replace YY := YY.below bzwa18
 replace YV := YV.below bzwa18
 replace YU := YU.below bzwa18
 have hzwa18 := bzwa18.size
 have Bwa18 := Bw17.trans (bzwa18.mono (by omega))
 obtain ⟨d0, d1, d2, d3, d4, d5⟩ := row6z YV.row
 obtain ⟨f0, f1, f2, f3, f4, f5⟩ := row6z YU.row
 go_wp2_with fail
 clear d0 d1 d2 d3 d4 d5
 clear f0 f1 f2 f3 f4 f5
 generalize (w17.alloc (.cells #[.int .i64 jk, .bool jb, .int .i64 ji, .string js, .slice jal jnl jcl, .slice jam jnm jcm] 25)) = wa18 at *
 clear bzwa18
 have HRL : Hid ((ansL T Q).length ≤ maxLen) := by show 4 ≤ maxLen; decide
 have CA := diff_any low T Q (Old wa18) _ _ wa18 (HT.out _ Bwa18) (HE.out _ Bwa18) YV.lies YU.lies (fun _ h => h) hwT hwQ
 rw [HFD.out] at CA
 refine CA.mono ?_
 clear CA
 rintro e_ w19 ⟨cq_, rfl, lq_, bw19⟩
 obtain ⟨nk, nb, ni, ns, nal, nnl, ncl, nam, nnm, ncm, rfl⟩ := V.ten lq_
 clear lq_
 replace YX := YX.below bw19
 replace YY := YY.below bw19
 replace YV := YV.below bw19
 replace YU := YU.below bw19
 have hzw19 := bw19.size
 have Bw19 := Bwa18.trans (bw19.mono (by omega))
 clear bw19
 have bzwa20 : Below w19.heap.size w19 (w19.alloc (.cells #[.int .i64 nk, .bool nb, .int .i64 ni, .string ns, .slice nal nnl ncl, .slice nam nnm ncm] 25)) := one_belowG _ _
 have hltwa20 : w19.heap.size < (w19.alloc (.cells #[.int .i64 nk, .bool nb, .int .i64 ni, .string ns, .slice nal nnl ncl, .slice nam nnm ncm] 25)).heap.size := by rw [alloc_size]; omega
 replace YX := YX.below bzwa20
 replace YY := YY.below bzwa20
 replace YV := YV.below bzwa20
 replace YU := YU.below bzwa20
 have hzwa20 := bzwa20.size
 have Bwa20 := Bw19.trans (bzwa20.mono (by omega))
 go_wp2_with fail
 generalize (w19.alloc (.cells #[.int .i64 nk, .bool nb, .int .i64 ni, .string ns, .slice nal nnl ncl, .slice nam nnm ncm] 25)) = wa20 at *
 clear bzwa20
 clear HFA HFD
 have HAN : Hid (∀ (W : World) (S1 : Nat → Prop) (c1 c2 : List Value), Below wa20.heap.size wa20 W → T.lies false W S1 c1 → Q.lies false W S1 c2 → (∀ b, S1 b → b < W.heap.size) → Calls Tryd.prog 25 #[.agg c1.toArray, .agg c2.toArray] W (AnsPost (ansL T Q) W)) := fun W S1 c1 c2 hb h1 h2 h3 => answers_ap low T Q S1 c1 c2 W (HT.out _ (Bwa20.trans (hb.mono Bwa20.size))) (HE.out _ (Bwa20.trans (hb.mono Bwa20.size))) h1 h2 h3 hwT hwQ
 generalize ansL T Q = RR at *
 have yee : (ea == ea) = true := beq_self_eq_true ea
 have yec : (ec == ec) = true := beq_self_eq_true ec
 have ytt : (tc == tc) = true := by cases tc <;> rfl
 refine wp_region_held_drew (S := fun W => Below wa20.heap.size wa20 W) (by kernel_rfl) ((Below.refl _ _).drew) (fun hHeld => ?_)
 (refine tjA 0 ?_; (try simp only [Act.put, zA, zB, zC]))
 (refine tjA 2 ?_; (try simp only [Act.put, zA, zB, zC]))
 refine ryA [1] ?_
 refine rA1 fun K hK => ?_
 go_simp
 refine (num_any ea wa20.drew).mono ?_
 rintro e wk1 ⟨rfl, bu⟩
 have bk1 : Below wa20.heap.size wa20 wk1 := ((Below.refl wa20.heap.size wa20).drew).trans (bu.mono (((Below.refl wa20.heap.size wa20).drew)).size)
 clear bu
 go_simp
 refine hK.out _ _ bk1 (fun hHeld => ?_)
 clear hK K
 (try simp only [Act.put, zA, zB, zC])
 refine ryA [3] ?_
 refine rA1 fun K hK => ?_
 go_simp
 refine (num_any ea wk1).mono ?_
 rintro e wk2 ⟨rfl, bu⟩
 have bk2 : Below wa20.heap.size wa20 wk2 := bk1.trans (bu.mono (bk1).size)
 clear bu
 go_simp
 refine hK.out _ _ bk2 (fun hHeld => ?_)
 clear hK K
 (try simp only [Act.put, zA, zB, zC])
 (refine wpAnyH_take (i := 4) (v := .bool true) rfl (by kernel_rfl) (by kernel_rfl) (by kernel_rfl) (fun _ _ _ h => h) (Or.inl ⟨by kernel_rfl, ?_⟩) (by assumption) ?_; (intro W0 hSw; go_simp; (try simp)); (try simp only [Act.put, zA, zB, zC]))
 (refine tjA 5 ?_; (try simp only [Act.put, zA, zB, zC]))
 (refine tjA 6 ?_; (try simp only [Act.put, zA, zB, zC]))
 (refine tjA 8 ?_; (try simp only [Act.put, zA, zB, zC]))
 refine ryA [7] ?_
 refine rA1 fun K hK => ?_
 go_simp
 refine (num_any ec wk2).mono ?_
 rintro e wk3 ⟨rfl, bu⟩
 have bk3 : Below wa20.heap.size wa20 wk3 := bk2.trans (bu.mono (bk2).size)
 clear bu
 go_simp
 refine hK.out _ _ bk3 (fun hHeld => ?_)
 clear hK K
 (try simp only [Act.put, zA, zB, zC])
 refine ryA [9] ?_
 refine rA1 fun K hK => ?_
 go_simp
 refine (num_any ec wk3).mono ?_
 rintro e wk4 ⟨rfl, bu⟩
 have bk4 : Below wa20.heap.size wa20 wk4 := bk3.trans (bu.mono (bk3).size)
 clear bu
 go_simp
 refine hK.out _ _ bk4 (fun hHeld => ?_)
 clear hK K
 (try simp only [Act.put, zA, zB, zC])
 (refine wpAnyH_take (i := 10) (v := .bool true) rfl (by kernel_rfl) (by kernel_rfl) (by kernel_rfl) (fun _ _ _ h => h) (Or.inl ⟨by kernel_rfl, ?_⟩) (by assumption) ?_; (intro W0 hSw; go_simp; (try simp)); (try simp only [Act.put, zA, zB, zC]))
 (refine tjA 11 ?_; (try simp only [Act.put, zA, zB, zC]))
 (refine tjA 12 ?_; (try simp only [Act.put, zA, zB, zC]))
 (refine tjA 13 ?_; (try simp only [Act.put, zA, zB, zC]))
 (refine tjA 14 ?_; (try simp only [Act.put, zA, zB, zC]))
 (refine wpAnyH_take (i := 15) (v := .bool true) rfl (by kernel_rfl) (by kernel_rfl) (by kernel_rfl) (fun _ _ _ h => h) (Or.inl ⟨by kernel_rfl, ?_⟩) (by assumption) ?_; (intro W0 hSw; go_simp; (try simp)); (try simp only [Act.put, zA, zB, zC]))
 (refine tjA 16 ?_; (try simp only [Act.put, zA, zB, zC]))
 (refine tjA 17 ?_; (try simp only [Act.put, zA, zB, zC]))
 (refine tkA 18 ?_ ?_ ?_; rotate_left 1; (intro W0 hSw; obtain ⟨z0, z1, z2, z3, z4, z5⟩ := row6z (YX.below hSw).row; go_simp; (try with_reducible rfl)); (try simp only [Act.put, zA, zB, zC]))
 (refine tkA 19 ?_ ?_ ?_; rotate_left 1; (intro W0 hSw; obtain ⟨z0, z1, z2, z3, z4, z5⟩ := row6z (YY.below hSw).row; go_simp; (try with_reducible rfl)); (try simp only [Act.put, zA, zB, zC]))
 (refine tkA 21 ?_ ?_ ?_; rotate_left 1; (intro W0 hSw; obtain ⟨z0, z1, z2, z3, z4, z5⟩ := row6z (YV.below hSw).row; go_simp; (try with_reducible rfl)); (try simp only [Act.put, zA, zB, zC]))
 (refine tkA 22 ?_ ?_ ?_; rotate_left 1; (intro W0 hSw; obtain ⟨z0, z1, z2, z3, z4, z5⟩ := row6z (YU.below hSw).row; go_simp; (try with_reducible rfl)); (try simp only [Act.put, zA, zB, zC]))
 refine ryA [20] ?_
 refine rA1 fun K hK => ?_
 go_simp
 refine (HAN.out wk4 (Old wk4) _ _ bk4 (YX.below bk4).lies (YY.below bk4).lies (fun _ h => h)).mono ?_
 rintro e wk5 ⟨g1, a1, a2, rfl, o1, o2, o3, o4, ap1, _, bu⟩
 have bk5 : Below wa20.heap.size wa20 wk5 := bk4.trans (bu.mono (bk4).size)
 have HR1 : Hid (∀ W, Below wk5.heap.size wk5 W → liesL false W (Old W) RR g1 0) := fun W hb => rowL_keep ap1 o3 o4 hb
 clear ap1
 clear bu
 go_simp
 refine hK.out _ _ bk5 (fun hHeld => ?_)
 clear hK K
 (try simp only [Act.put, zA, zB, zC])
 refine ryA [23] ?_
 refine rA1 fun K hK => ?_
 go_simp
 refine (HAN.out wk5 (Old wk5) _ _ bk5 (YV.below bk5).lies (YU.below bk5).lies (fun _ h => h)).mono ?_
 rintro e wk6 ⟨g2, a3, a4, rfl, o5, o6, o7, o8, ap2, _, bu⟩
 have bk6 : Below wa20.heap.size wa20 wk6 := bk5.trans (bu.mono (bk5).size)
 have HR2 : Hid (liesL false wk6 (Old wk6) RR g1 0 ∧ liesL false wk6 (Old wk6) RR g2 0) := ⟨HR1.out wk6 bu, rowL_keep ap2 o7 o8 (Below.refl _ _)⟩
 clear ap2
 clear bu
 go_simp
 refine hK.out _ _ bk6 (fun hHeld => ?_)
 clear hK K
 (try simp only [Act.put, zA, zB, zC])
 have C28 := samerow_any RR RR false false (Old wk6) (Old wk6) (some ⟨g1, 0, none⟩) (some ⟨g2, 0, none⟩) RR.length g1 0 RR.length g2 0 wk6 ⟨Nat.le_refl _, HRL.out, .inr rfl, fun h => by cases h⟩ ⟨Nat.le_refl _, HRL.out, .inr rfl, fun h => by cases h⟩ HR2.out.1 HR2.out.2 (fun _ h => h) (fun _ h => h)
 rw [rowB_refl] at C28
 generalize RR.length = RL at *
 refine ryA [24] ?_
 refine rA1 fun K hK => ?_
 go_simp
 refine C28.mono ?_
 rintro e wk7 ⟨rfl, bu⟩
 have bk7 : Below wa20.heap.size wa20 wk7 := bk6.trans (bu.mono (bk6).size)
 clear bu
 go_simp
 refine hK.out _ _ bk7 (fun hHeld => ?_)
 clear hK K
 (try simp only [Act.put, zA, zB, zC])
 (refine tjA 25 ?_; (try simp only [Act.put, zA, zB, zC]))
 (refine tjA 26 ?_; (try simp only [Act.put, zA, zB, zC]))
 refine wpAnyH_done (by kernel_rfl) ?_ _
 (try dsimp only [Act.put, List.getElem_toArray, List.getElem_cons_succ, List.getElem_cons_zero, List.setIfInBounds_toArray, List.set_cons_zero, List.set_cons_succ])
 have cf := Bwa20.trans (bk7.mono Bwa20.size)
 clear hHeld
 go_wp2_with fail
 go_ret
 exact ⟨rfl, cf⟩
end Go.Proofs.YtjfldbmopjojdaaDoor
