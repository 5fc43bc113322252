import Derived.Test.YthgfomblodhoaaaDoorNewV
import Derived.Test.YthgfomblodhoaaaDoorG46
/- ValueOwn: the law's own walk. -/
set_option linter.unusedSimpArgs false
set_option linter.unusedVariables false
namespace Go.Proofs.YthgfomblodhoaaaDoor
open Go Go.RowKit Go.Lib
set_option maxHeartbeats 16000000 in
set_option maxRecDepth 100000 in
theorem own_walk (t p : V) (key : ByteArray) (cs ds : List Value) (w : World) (tb : Tb w) (hv : t.lies false w (Old w) cs) (hx : p.lies false w (Old w) ds) (hkey : key.size ≤ 140737488351232) :
    Calls Tryd.prog 5 #[.agg cs.toArray, .string key, .agg ds.toArray] w (BPost true w) := by
  obtain ⟨tk, tbb, ti, ts, tal, tnl, tcl, tam, tnm, tcm, rfl⟩ := V.ten hv
  obtain ⟨pk, pb, pi, ps, pal, pnl, pcl, pam, pnm, pcm, rfl⟩ := V.ten hx
  have B0 : Below w.heap.size w ((w.alloc (.cells #[.int .i64 tk, .bool tbb, .int .i64 ti, .string ts, .slice tal tnl tcl, .slice tam tnm tcm] 25)).alloc (.cells #[.int .i64 pk, .bool pb, .int .i64 pi, .string ps, .slice pal pnl pcl, .slice pam pnm pcm] 25)) := two_below w _ _
  have XT : Bx ((w.alloc (.cells #[.int .i64 tk, .bool tbb, .int .i64 ti, .string ts, .slice tal tnl tcl, .slice tam tnm tcm] 25)).alloc (.cells #[.int .i64 pk, .bool pb, .int .i64 pi, .string ps, .slice pal pnl pcl, .slice pam pnm pcm] 25)) w.heap.size t [.int .i64 tk, .bool tbb, .int .i64 ti, .string ts, .slice tal tnl tcl, .slice tam tnm tcm] := (Bx.new hv (fun _ h => h)).below ((Below.refl _ _).alloc (Nat.le_refl _) _)
  have hx1 : p.lies false (w.alloc (.cells #[.int .i64 tk, .bool tbb, .int .i64 ti, .string ts, .slice tal tnl tcl, .slice tam tnm tcm] 25)) (Old (w.alloc (.cells #[.int .i64 tk, .bool tbb, .int .i64 ti, .string ts, .slice tal tnl tcl, .slice tam tnm tcm] 25))) [.int .i64 pk, .bool pb, .int .i64 pi, .string ps, .slice pal pnl pcl, .slice pam pnm pcm] := V.lies_keep (fun h => h) (fun y hy => Below.heap_alloc w _ y hy) (fun y hy => by show y < _; rw [alloc_size]; exact Nat.lt_succ_of_lt hy) _ hx
  have XP : Bx ((w.alloc (.cells #[.int .i64 tk, .bool tbb, .int .i64 ti, .string ts, .slice tal tnl tcl, .slice tam tnm tcm] 25)).alloc (.cells #[.int .i64 pk, .bool pb, .int .i64 pi, .string ps, .slice pal pnl pcl, .slice pam pnm pcm] 25)) (w.heap.size + 1) p [.int .i64 pk, .bool pb, .int .i64 pi, .string ps, .slice pal pnl pcl, .slice pam pnm pcm] := by
    have h := Bx.new hx1 (fun _ h => h)
    rw [alloc_size] at h
    exact h
  have hz0 := B0.size
  have HTX : Hid (∀ W, Below (((w.alloc (.cells #[.int .i64 tk, .bool tbb, .int .i64 ti, .string ts, .slice tal tnl tcl, .slice tam tnm tcm] 25)).alloc (.cells #[.int .i64 pk, .bool pb, .int .i64 pi, .string ps, .slice pal pnl pcl, .slice pam pnm pcm] 25))).heap.size ((w.alloc (.cells #[.int .i64 tk, .bool tbb, .int .i64 ti, .string ts, .slice tal tnl tcl, .slice tam tnm tcm] 25)).alloc (.cells #[.int .i64 pk, .bool pb, .int .i64 pi, .string ps, .slice pal pnl pcl, .slice pam pnm pcm] 25)) W → Bx W w.heap.size t [.int .i64 tk, .bool tbb, .int .i64 ti, .string ts, .slice tal tnl tcl, .slice tam tnm tcm]) := fun W hb => XT.below hb
  have HPX : Hid (∀ W, Below (((w.alloc (.cells #[.int .i64 tk, .bool tbb, .int .i64 ti, .string ts, .slice tal tnl tcl, .slice tam tnm tcm] 25)).alloc (.cells #[.int .i64 pk, .bool pb, .int .i64 pi, .string ps, .slice pal pnl pcl, .slice pam pnm pcm] 25))).heap.size ((w.alloc (.cells #[.int .i64 tk, .bool tbb, .int .i64 ti, .string ts, .slice tal tnl tcl, .slice tam tnm tcm] 25)).alloc (.cells #[.int .i64 pk, .bool pb, .int .i64 pi, .string ps, .slice pal pnl pcl, .slice pam pnm pcm] 25)) W → Bx W (w.heap.size + 1) p [.int .i64 pk, .bool pb, .int .i64 pi, .string ps, .slice pal pnl pcl, .slice pam pnm pcm]) := fun W hb => XP.below hb
  have HT : Hid (∀ W, Below (((w.alloc (.cells #[.int .i64 tk, .bool tbb, .int .i64 ti, .string ts, .slice tal tnl tcl, .slice tam tnm tcm] 25)).alloc (.cells #[.int .i64 pk, .bool pb, .int .i64 pi, .string ps, .slice pal pnl pcl, .slice pam pnm pcm] 25))).heap.size ((w.alloc (.cells #[.int .i64 tk, .bool tbb, .int .i64 ti, .string ts, .slice tal tnl tcl, .slice tam tnm tcm] 25)).alloc (.cells #[.int .i64 pk, .bool pb, .int .i64 pi, .string ps, .slice pal pnl pcl, .slice pam pnm pcm] 25)) W → Tb W) := fun W hb => tb.below (B0.trans (hb.mono hz0)) tb.z
  have HEND : Hid (∀ W, Below (((w.alloc (.cells #[.int .i64 tk, .bool tbb, .int .i64 ti, .string ts, .slice tal tnl tcl, .slice tam tnm tcm] 25)).alloc (.cells #[.int .i64 pk, .bool pb, .int .i64 pi, .string ps, .slice pal pnl pcl, .slice pam pnm pcm] 25))).heap.size ((w.alloc (.cells #[.int .i64 tk, .bool tbb, .int .i64 ti, .string ts, .slice tal tnl tcl, .slice tam tnm tcm] 25)).alloc (.cells #[.int .i64 pk, .bool pb, .int .i64 pi, .string ps, .slice pal pnl pcl, .slice pam pnm pcm] 25)) W → BPost true w (.returned (.bool true)) W) := fun W hb => ⟨rfl, B0.trans (hb.mono hz0)⟩
  clear hv hx hx1 tb XP
  obtain ⟨d0, d1, d2, d3, d4, d5⟩ := row6z XT.row
  go_enter Tryd.func5, Tryd.ntmps5
  go_wp2_with fail
  clear d0 d1 d2 d3 d4 d5
  clear XT B0
  generalize ((w.alloc (.cells #[.int .i64 tk, .bool tbb, .int .i64 ti, .string ts, .slice tal tnl tcl, .slice tam tnm tcm] 25)).alloc (.cells #[.int .i64 pk, .bool pb, .int .i64 pi, .string ps, .slice pal pnl pcl, .slice pam pnm pcm] 25)) = w0 at *
  have BZ : Below w0.heap.size w0 w0 := Below.refl _ _
  refine (beyond_any t (Old w0) _ w0 (HTX.out _ BZ).lies (fun _ h => h)).mono ?_
  rintro e_ w1 ⟨r, rfl, hr, bw1⟩
  have hzw1 := bw1.size
  have Bw1 := BZ.trans (bw1.mono (by omega))
  cases r with
  | true =>
    go_wp2_with fail
    go_ret
    exact HEND.out _ Bw1
  | false =>
    have hwt := hr rfl
    clear hr bw1
    obtain ⟨d0, d1, d2, d3, d4, d5⟩ := row6z (HPX.out _ Bw1).row
    go_wp2_with fail
    clear d0 d1 d2 d3 d4 d5
    refine (beyond_any p (Old w1) _ w1 (HPX.out _ Bw1).lies (fun _ h => h)).mono ?_
    rintro e_ w2 ⟨r, rfl, hr, bw2⟩
    have hzw2 := bw2.size
    have Bw2 := Bw1.trans (bw2.mono (by omega))
    cases r with
    | true =>
      go_wp2_with fail
      go_ret
      exact HEND.out _ Bw2
    | false =>
      have hwp := hr rfl
      clear hr bw2
      go_wp2_with fail
      refine (awake_any w2 (HT.out _ Bw2)).mono ?_
      rintro e_ w3 ⟨rfl, bw3⟩
      have hzw3 := bw3.size
      have Bw3 := Bw2.trans (bw3.mono (by omega))
      clear bw3
      obtain ⟨d0, d1, d2, d3, d4, d5⟩ := row6z (HTX.out _ Bw3).row
      go_wp2_with fail
      clear d0 d1 d2 d3 d4 d5
      have hwt : t.wt ≤ 2147483648 := by omega
      have hwp : p.wt ≤ 2147483648 := by omega
      have HRW : Hid (wtL (ansL t key p) ≤ 20000000) := ans_wt t key p
      have HRL : Hid ((ansL t key p).length ≤ maxLen) := by show 5 ≤ maxLen; decide
      have hRn : (ansL t key p).length ≤ 5000000 := by show 5 ≤ 5000000; decide
      have HAN : Hid (∀ (W : World) (S1 : Nat → Prop) (c1 c2 : List Value), Below w0.heap.size w0 W → t.lies false W S1 c1 → p.lies false W S1 c2 → (∀ b, S1 b → b < W.heap.size) → Calls Tryd.prog 19 #[.agg c1.toArray, .string key, .agg c2.toArray] W (AnsPost (ansL t key p) W)) := fun W S1 c1 c2 hb h1 h2 h3 => answers_ap t p key S1 c1 c2 W (HT.out _ hb) h1 h2 h3 hkey hwt hwp
      have HNW : Hid (∀ (W : World), Below w0.heap.size w0 W → Calls Tryd.prog 23 #[.agg [.int .i64 tk, .bool tbb, .int .i64 ti, .string ts, .slice tal tnl tcl, .slice tam tnm tcm].toArray, .string key, .agg [.int .i64 pk, .bool pb, .int .i64 pi, .string ps, .slice pal pnl pcl, .slice pam pnm pcm].toArray] W (BPost true W)) := fun W hb => lawnew_any t p key (Old W) _ _ W (HT.out _ hb) (HTX.out _ hb).lies (HPX.out _ hb).lies (fun _ h => h) hkey hwt hwp
      generalize ansL t key p = RR at *
      refine (twin_un t (Old w3) _ w3 (HTX.out _ Bw3).lies (fun _ h => h) hwt).mono ?_
      rintro e_ w4 ⟨cx_, rfl, bw4, lx_, ux_⟩
      obtain ⟨xk, xb, xi, xs, xal, xnl, xcl, xam, xnm, xcm, rfl⟩ := V.ten lx_
      have hzw4 := bw4.size
      have Bw4 := Bw3.trans (bw4.mono (by omega))
      clear bw4
      have bzwa5 : Below w4.heap.size w4 (w4.alloc (.cells #[.int .i64 xk, .bool xb, .int .i64 xi, .string xs, .slice xal xnl xcl, .slice xam xnm xcm] 25)) := one_belowG _ _
      have hltwa5 : w4.heap.size < (w4.alloc (.cells #[.int .i64 xk, .bool xb, .int .i64 xi, .string xs, .slice xal xnl xcl, .slice xam xnm xcm] 25)).heap.size := by rw [alloc_size]; omega
      have XX : Tw (w4.alloc (.cells #[.int .i64 xk, .bool xb, .int .i64 xi, .string xs, .slice xal xnl xcl, .slice xam xnm xcm] 25)) w4.heap.size w3.heap.size w4.heap.size t [.int .i64 xk, .bool xb, .int .i64 xi, .string xs, .slice xal xnl xcl, .slice xam xnm xcm] := Tw.new lx_ ux_ (Nat.le_refl _)
      have hzwa5 := bzwa5.size
      have Bwa5 := Bw4.trans (bzwa5.mono (by omega))
      obtain ⟨d0, d1, d2, d3, d4, d5⟩ := row6z (HPX.out _ Bwa5).row
      go_wp2_with fail
      clear d0 d1 d2 d3 d4 d5
      generalize (w4.alloc (.cells #[.int .i64 xk, .bool xb, .int .i64 xi, .string xs, .slice xal xnl xcl, .slice xam xnm xcm] 25)) = wa5 at *
      clear bzwa5 lx_ ux_
      refine (twin_un p (Old wa5) _ wa5 (HPX.out _ Bwa5).lies (fun _ h => h) hwp).mono ?_
      rintro e_ w6 ⟨cy_, rfl, bw6, ly_, uy_⟩
      obtain ⟨yk, yb, yi, ys, yal, ynl, ycl, yam, ynm, ycm, rfl⟩ := V.ten ly_
      replace XX := XX.below bw6
      have hzw6 := bw6.size
      have Bw6 := Bwa5.trans (bw6.mono (by omega))
      clear bw6
      have bzwa7 : Below w6.heap.size w6 (w6.alloc (.cells #[.int .i64 yk, .bool yb, .int .i64 yi, .string ys, .slice yal ynl ycl, .slice yam ynm ycm] 25)) := one_belowG _ _
      have hltwa7 : w6.heap.size < (w6.alloc (.cells #[.int .i64 yk, .bool yb, .int .i64 yi, .string ys, .slice yal ynl ycl, .slice yam ynm ycm] 25)).heap.size := by rw [alloc_size]; omega
      have XY : Tw (w6.alloc (.cells #[.int .i64 yk, .bool yb, .int .i64 yi, .string ys, .slice yal ynl ycl, .slice yam ynm ycm] 25)) w6.heap.size wa5.heap.size w6.heap.size p [.int .i64 yk, .bool yb, .int .i64 yi, .string ys, .slice yal ynl ycl, .slice yam ynm ycm] := Tw.new ly_ uy_ (Nat.le_refl _)
      replace XX := XX.below bzwa7
      have hzwa7 := bzwa7.size
      have Bwa7 := Bw6.trans (bzwa7.mono (by omega))
      obtain ⟨d0, d1, d2, d3, d4, d5⟩ := row6z XX.row
      obtain ⟨f0, f1, f2, f3, f4, f5⟩ := row6z XY.row
      go_wp2_with fail
      clear d0 d1 d2 d3 d4 d5
      clear f0 f1 f2 f3 f4 f5
      generalize (w6.alloc (.cells #[.int .i64 yk, .bool yb, .int .i64 yi, .string ys, .slice yal ynl ycl, .slice yam ynm ycm] 25)) = wa7 at *
      clear bzwa7 ly_ uy_
      refine (HAN.out wa7 (Old wa7) _ _ Bwa7 XX.bx.lies XY.bx.lies (fun _ h => h)).mono ?_
      rintro e_ w8 ⟨g1, e1_, e2_, rfl, o1_, o2_, o3_, o4_, ap_, _, bw8⟩
      obtain ⟨X1, Y1, A1⟩ := AR.of ap_ o1_ o2_ o3_ o4_ (by have := HRW.out; omega)
      clear o1_ o2_ o3_ o4_ ap_
      replace XX := XX.below bw8
      replace XY := XY.below bw8
      have hzw8 := bw8.size
      have Bw8 := Bwa7.trans (bw8.mono (by omega))
      clear bw8
      obtain ⟨d0, d1, d2, d3, d4, d5⟩ := row6z XX.row
      obtain ⟨f0, f1, f2, f3, f4, f5⟩ := row6z XY.row
      go_wp2_with fail
      clear d0 d1 d2 d3 d4 d5
      clear f0 f1 f2 f3 f4 f5
      refine (HAN.out w8 (Old w8) _ _ Bw8 XX.bx.lies XY.bx.lies (fun _ h => h)).mono ?_
      rintro e_ w9 ⟨g2, e1_, e2_, rfl, o1_, o2_, o3_, o4_, ap_, _, bw9⟩
      obtain ⟨X2, Y2, A2⟩ := AR.of ap_ o1_ o2_ o3_ o4_ (by have := HRW.out; omega)
      clear o1_ o2_ o3_ o4_ ap_
      replace XX := XX.below bw9
      replace XY := XY.below bw9
      replace A1 := A1.below bw9
      have hzw9 := bw9.size
      have Bw9 := Bw8.trans (bw9.mono (by omega))
      clear bw9
      go_wp2_with fail
      obtain ⟨i0, hi0, hz0_⟩ := Option.map_eq_some_iff.1 info25
      have hI : Hid (Tryd.prog.info? 25 = some i0 ∧ i0.zero = some (.agg #[.int .i64 0, .bool false, .int .i64 0, .string ⟨#[]⟩, .slice none 0 0, .slice none 0 0]) ∧ i0.size = 6 ∧ i0.bytes = 88) := by
        simp only [Prod.mk.injEq] at hz0_
        exact ⟨hi0, hz0_.1, hz0_.2.1, hz0_.2.2⟩
      clear hi0 hz0_
      have HA1 := hmk A1
      have O0 : Hid (OwnL false w9 w9.heap.size (fun _ => False) (.slice none 0 0) ((RR.map some).take 0)) := by show OwnL _ _ _ _ _ _; simpa using OwnR.nil _ _
      clear A1
      go_loopw [12, 13] (fun e10 e11 wr => ∃ (j : Nat) (SL : Nat → Prop), j ≤ RR.length ∧ e11 = .int .i64 (j : Int) ∧ Hid (Below w9.heap.size w9 wr) ∧ Hid (OwnL false wr w9.heap.size SL e10 ((RR.map some).take j))) (fun _ e11 _ => RR.length - (RowKit.intOf e11).toNat)
      case atStart => exact ⟨0, _, by omega, rfl, Below.refl _ _, O0⟩
      case round =>
        clear O0
        obtain ⟨j, SL, hj, rfl, bj, oj⟩ := hrel
        by_cases hjl : j < RR.length
        · have y1 : (j : Int) < RR.length := by omega
          have A1 := HA1.out.below bj.out
          obtain ⟨hSb, csj, hrow, hlj⟩ := liesL_get A1.lies j hjl
          have hlt1 := A1.lt
          have hwj : (RR[j]).wt ≤ 2147483648 := by have := wtL_mem (List.getElem_mem hjl); have := HRW.out; omega
          have CT10 := twin_un RR[j] (fun y => wa7.heap.size ≤ y ∧ y < w8.heap.size) csj wr hlj (fun y hy => by have := hy.2; omega) hwj
          have HTk : Hid ((RR.map some).take (j + 1) = (RR.map some).take j ++ [some RR[j]]) := by show _ = _; rw [List.take_succ_eq_append_getElem (by simpa using hjl), List.getElem_map]
          obtain ⟨ek, eb, ei, es, eal, enl, ecl, eam, enm, ecm, rfl⟩ := V.ten hlj
          rw [Nat.zero_add] at hrow
          obtain ⟨q0, q1, q2, q3, q4, q5⟩ := row6 hrow
          have hll : ((RR.map some).take j).length = j := by simp; omega
          obtain ⟨xv, hxv⟩ : ∃ xv, RR[j] = xv := ⟨_, rfl⟩
          rw [hxv] at CT10 HTk
          clear hlj hrow hxv hwj A1
          go_wp2_with fail
          refine CT10.mono ?_
          rintro e w3 ⟨csu, rfl, bl3, hx3, _⟩
          obtain ⟨uk, ub, ui, us, ual, unl, ucl, uam, unm, ucm, rfl⟩ := V.ten hx3
          have o3 := oj.out.below (keepL false) bl3
          have hzr := bj.out.size
          have hz3 := bl3.size
          have hown : ∀ r, u12.ownBlock = some r → w9.heap.size ≤ r ∧ r < wr.heap.size := fun r hr => oj.out.lt hr
          have HK : Hid (∀ b, wr.heap.size ≤ b ∧ b < w3.heap.size → w9.heap.size ≤ b ∧ b < w3.heap.size ∧ some b ≠ u12.ownBlock) := fun b hb => ⟨by omega, hb.2, fun e => by have := (hown b e.symm).2; omega⟩
          have HB3 := hmk (bj.out.trans (bl3.mono hzr))
          have HX3 := hmk hx3
          have HO3 := hmk o3
          clear q0 q1 q2 q3 q4 q5 CT10 oj bj bl3 hx3 o3
          have e0 : (w3.alloc (.cells #[.int .i64 uk, .bool ub, .int .i64 ui, .string us, .slice ual unl ucl, .slice uam unm ucm] 25)).heap[w3.heap.size]? = some (.cells #[.int .i64 uk, .bool ub, .int .i64 ui, .string us, .slice ual unl ucl, .slice uam unm ucm] 25) := heap_alloc_new _ _
          have z0 : (w3.alloc (.cells #[.int .i64 uk, .bool ub, .int .i64 ui, .string us, .slice ual unl ucl, .slice uam unm ucm] 25)).cell? ⟨w3.heap.size, 0, none⟩ = some (.int .i64 uk) := by rw [cell_of_block e0]; rfl
          have z1 : (w3.alloc (.cells #[.int .i64 uk, .bool ub, .int .i64 ui, .string us, .slice ual unl ucl, .slice uam unm ucm] 25)).cell? ⟨w3.heap.size, 1, none⟩ = some (.bool ub) := by rw [cell_of_block e0]; rfl
          have z2 : (w3.alloc (.cells #[.int .i64 uk, .bool ub, .int .i64 ui, .string us, .slice ual unl ucl, .slice uam unm ucm] 25)).cell? ⟨w3.heap.size, 2, none⟩ = some (.int .i64 ui) := by rw [cell_of_block e0]; rfl
          have z3 : (w3.alloc (.cells #[.int .i64 uk, .bool ub, .int .i64 ui, .string us, .slice ual unl ucl, .slice uam unm ucm] 25)).cell? ⟨w3.heap.size, 3, none⟩ = some (.string us) := by rw [cell_of_block e0]; rfl
          have z4 : (w3.alloc (.cells #[.int .i64 uk, .bool ub, .int .i64 ui, .string us, .slice ual unl ucl, .slice uam unm ucm] 25)).cell? ⟨w3.heap.size, 4, none⟩ = some (.slice ual unl ucl) := by rw [cell_of_block e0]; rfl
          have z5 : (w3.alloc (.cells #[.int .i64 uk, .bool ub, .int .i64 ui, .string us, .slice ual unl ucl, .slice uam unm ucm] 25)).cell? ⟨w3.heap.size, 5, none⟩ = some (.slice uam unm ucm) := by rw [cell_of_block e0]; rfl
          clear e0
          go_wp2_with (at_builtin; go_loud (refine wpl_push (keepL false) _ rfl (.tmp 55) (.tmp 57) 22 rfl w9.heap.size i0 _ 88 Tryd.underlying22 hI.out.1 hI.out.2.1 hI.out.2.2.1 hI.out.2.2.2 rfl (by decide) (by decide) u12 (some xv) rfl ((HO3.out.alloc (keepL false) _).alloc (keepL false) _) (w3.heap.size + 1) 1 (0, 0) rfl (alloc2_new w3 _ _) rfl one6 (keepL false _ _ _ _ _ _ (fun b hb => alloc2_keep w3 _ _ hb.2) (fun _ h => h) HX3.out) (fun b hb => alloc2_off (HK.out b hb)) (by rw [hll]; omega) (by rw [alloc_size, alloc_size]; omega) ?_))
          intro g cap w5 o5 g5 e5
          have B5 : Hid (Below w9.heap.size w9 w5) := (HB3.out.trans ((two_below w3 _ _).mono (by have := HB3.out.size; omega))).trans (below_grown g5 (by rw [alloc_size, alloc_size]; omega) (fun r e => (hown r e).1))
          have O5 := hmk o5
          rw [← HTk.out] at O5
          clear o5 g5 e5 z0 z1 z2 z3 z4 z5
          go_wp2_with fail
          go_roundw
          case rel => exact ⟨j + 1, _, by omega, by go_num, B5, O5⟩
          case measure => simp [RowKit.intOf]; omega
        · obtain rfl : j = RR.length := by omega
          have y1 : ¬ (RR.length : Int) < RR.length := by omega
          have hlt : (RR.map some).take RR.length = RR.map some := by rw [List.take_of_length_le (by simp)]
          have oj2 := oj.out
          rw [hlt] at oj2
          obtain ⟨aw, cw, bw, ow, rfl, hdw, llw⟩ := own_listL oj2
          have WS : Wa wr RR aw cw bw w9.heap.size wr.heap.size := ⟨⟨ow, hdw, llw⟩, Nat.le_refl _⟩
          have A1 := HA1.out
          clear HA1 oj oj2 hlt hdw llw hI hj hjl
          have bwr := bj.out
          clear bj
          generalize wr = wl at *
          replace XX := XX.below bwr
          replace XY := XY.below bwr
          replace A1 := A1.below bwr
          replace A2 := A2.below bwr
          have hzwl := bwr.size
          have Bwl := Bw9.trans (bwr.mono (by omega))
          clear bwr
          have bzwa10 : Below wl.heap.size wl (wl.alloc (.cells #[.slice none 0 0, .slice none 0 0] 49)) := one_belowG _ _
          have hltwa10 : wl.heap.size < (wl.alloc (.cells #[.slice none 0 0, .slice none 0 0] 49)).heap.size := by rw [alloc_size]; omega
          have RG := rows_new wl (wl.alloc (.cells #[.slice none 0 0, .slice none 0 0] 49)).heap.size
          replace XX := XX.below bzwa10
          replace XY := XY.below bzwa10
          replace A1 := A1.below bzwa10
          replace A2 := A2.below bzwa10
          replace WS := WS.below bzwa10
          have hzwa10 := bzwa10.size
          have Bwa10 := Bwl.trans (bzwa10.mono (by omega))
          obtain ⟨d0, d1, d2, d3, d4, d5⟩ := row6z XX.row
          go_wp2_with fail
          clear d0 d1 d2 d3 d4 d5
          generalize (wl.alloc (.cells #[.slice none 0 0, .slice none 0 0] 49)) = wa10 at *
          clear bzwa10
          have hxl := XX.hb
          have hyl := XY.hb
          have hxt := XX.lt
          have hyt := XY.lt
          have hg1 := A1.hg
          have hg2 := A2.hg
          obtain ⟨xa, ya, tk_, un1⟩ := XX.un
          have tl_ := tk_len _ tk_
          have ul_ := un1.len
          have hhb_ := XX.hb
          have hlt_ := XX.lt
          have CK := take_any t wl.heap.size wa10.heap.size _ _ xa ya [] [] (.slice none 0 0) (.slice none 0 0) wa10 tk_ (fun y hy => by have := hy.2; omega) (by omega) (by omega) RG (by simp; omega) (by simp; omega)
          refine CK.mono ?_
          clear CK
          rintro e_ w11 ⟨rfl, sl1, sm1, RG1, kr1⟩
          have ch1 := kr1.ch RG
          clear kr1 tk_ hhb_ hlt_ RG
          have RG := RG1
          clear RG1
          replace XX := XX.ch ch1 (fun y hy => by rcases hy with rfl | hy <;> omega)
          replace XY := XY.ch ch1 (fun y hy => by rcases hy with rfl | hy <;> omega)
          replace A1 := A1.ch ch1 (fun y hy => by rcases hy with rfl | hy <;> omega)
          replace A2 := A2.ch ch1 (fun y hy => by rcases hy with rfl | hy <;> omega)
          replace WS := WS.ch ch1 (fun y hy => by rcases hy with rfl | hy <;> omega)
          have hzw11 := ch1.size
          have Bw11 := Ch.bel Bwa10 ch1 (fun y hy => by rcases hy with rfl | hy <;> omega) (by omega)
          obtain ⟨d0, d1, d2, d3, d4, d5⟩ := row6z XY.row
          go_wp2_with fail
          clear d0 d1 d2 d3 d4 d5
          obtain ⟨xb, yb, tk_, un2⟩ := XY.un
          have tl_ := tk_len _ tk_
          have ul_ := un2.len
          have hhb_ := XY.hb
          have hlt_ := XY.lt
          have CK := take_any p wl.heap.size wa10.heap.size _ _ xb yb ([] ++ xa) ([] ++ ya) sl1 sm1 w11 tk_ (fun y hy => by have := hy.2; omega) (by omega) (by omega) RG (by simp; omega) (by simp; omega)
          refine CK.mono ?_
          clear CK
          rintro e_ w12 ⟨rfl, sl2, sm2, RG2, kr2⟩
          have ch2 := kr2.ch RG
          clear kr2 tk_ hhb_ hlt_ RG
          have RG := RG2
          clear RG2
          replace A1 := A1.ch ch2 (fun y hy => by rcases hy with rfl | hy <;> omega)
          replace A2 := A2.ch ch2 (fun y hy => by rcases hy with rfl | hy <;> omega)
          replace WS := WS.ch ch2 (fun y hy => by rcases hy with rfl | hy <;> omega)
          have hzw12 := ch2.size
          have Bw12 := Ch.bel Bw11 ch2 (fun y hy => by rcases hy with rfl | hy <;> omega) (by omega)
          have U1 : Unl w12 (fun y => w3.heap.size ≤ y ∧ y < w4.heap.size) xa ya := (un1.keep (fun y hy => ch1.blk y (by have := hy.2; omega) (fun q => by have := hy.2; rcases q with q | q <;> omega))).keep (fun y hy => ch2.blk y (by have := hy.2; omega) (fun q => by have := hy.2; rcases q with q | q <;> omega))
          have U2 : Unl w12 (fun y => wa5.heap.size ≤ y ∧ y < w6.heap.size) xb yb := un2.keep (fun y hy => ch2.blk y (by have := hy.2; omega) (fun q => by have := hy.2; rcases q with q | q <;> omega))
          have UG := U1.app U2 (fun b p q => by omega)
          have ulg := UG.len
          rw [List.nil_append, List.nil_append] at RG
          have CK := apart_any wl.heap.size wa10.heap.size sl2 sm2 (xa ++ xb) (ya ++ yb) w12 RG ulg (by rw [List.length_append]; omega) (by omega) UG.dst (UG.fl (fun b q => by omega)) (UG.fm (fun b q => by omega))
          have hUr := UG.r
          go_wp2_with fail
          refine CK.mono ?_
          clear CK U1 U2 un1 un2 ch1 ch2 XX XY
          rintro e_ wf ⟨rfl, os_, tp_, ot_, sz_, fr_⟩
          have chf : Ch (· ∈ blks (xa ++ xb) (ya ++ yb)) w12 wf := ⟨os_, tp_, ot_, sz_, fr_⟩
          clear os_ tp_ ot_ sz_ fr_ RG
          replace A1 := A1.ch chf (fun y hy => by have := hUr y hy; omega)
          replace A2 := A2.ch chf (fun y hy => by have := hUr y hy; omega)
          replace WS := WS.ch chf (fun y hy => by have := hUr y hy; omega)
          have hzwf := chf.size
          have Bwf := Ch.bel Bw12 chf (fun y hy => by have := hUr y hy; omega) (by omega)
          clear chf hUr UG ulg
          go_wp2_with fail
          obtain ⟨ow_, hd_, lw_⟩ := WS.hd
          have hl1_ := A1.lt
          have hl2_ := WS.lt
          have CK := samerow_any RR RR false false _ _ (some ⟨g1, 0, none⟩) aw RR.length g1 0 cw bw ow_ wf ⟨Nat.le_refl _, HRL.out, .inr rfl, fun h => by cases h⟩ hd_ A1.lies lw_ (fun y hy => by have := hy.2; omega) (fun y hy => by have := hy.2; omega)
          rw [rowB_refl] at CK
          refine CK.mono ?_
          clear CK hd_ lw_ hl1_ hl2_
          rintro e_ w13 ⟨rfl, bw13⟩
          replace A1 := A1.below bw13
          replace A2 := A2.below bw13
          replace WS := WS.below bw13
          have hzw13 := bw13.size
          have Bw13 := Bwf.trans (bw13.mono (by omega))
          clear bw13
          go_wp2_with fail
          obtain ⟨ow_, hd_, lw_⟩ := WS.hd
          have hl1_ := A2.lt
          have hl2_ := WS.lt
          have CK := samerow_any RR RR false false _ _ (some ⟨g2, 0, none⟩) aw RR.length g2 0 cw bw ow_ w13 ⟨Nat.le_refl _, HRL.out, .inr rfl, fun h => by cases h⟩ hd_ A2.lies lw_ (fun y hy => by have := hy.2; omega) (fun y hy => by have := hy.2; omega)
          rw [rowB_refl] at CK
          refine CK.mono ?_
          clear CK hd_ lw_ hl1_ hl2_
          rintro e_ w14 ⟨rfl, bw14⟩
          replace A1 := A1.below bw14
          replace A2 := A2.below bw14
          replace WS := WS.below bw14
          have hzw14 := bw14.size
          have Bw14 := Bw13.trans (bw14.mono (by omega))
          clear bw14
          have bz1 : Below w14.heap.size w14 ((w14.alloc (.cells #[.slice none 0 0, .slice none 0 0] 49)).alloc (.cells #[.slice none 0 0, .slice none 0 0] 49)) := two_below _ _ _
          have hs2 : ((w14.alloc (.cells #[.slice none 0 0, .slice none 0 0] 49)).alloc (.cells #[.slice none 0 0, .slice none 0 0] 49)).heap.size = w14.heap.size + 2 := by rw [alloc_size, alloc_size]
          have hlt2 : w14.heap.size + 1 < ((w14.alloc (.cells #[.slice none 0 0, .slice none 0 0] 49)).alloc (.cells #[.slice none 0 0, .slice none 0 0] 49)).heap.size := by omega
          have r1_ := rows_new w14 ((w14.alloc (.cells #[.slice none 0 0, .slice none 0 0] 49)).alloc (.cells #[.slice none 0 0, .slice none 0 0] 49)).heap.size
          have r1_ : RowsAt w14.heap.size ((w14.alloc (.cells #[.slice none 0 0, .slice none 0 0] 49)).alloc (.cells #[.slice none 0 0, .slice none 0 0] 49)).heap.size (.slice none 0 0) (.slice none 0 0) [] [] ((w14.alloc (.cells #[.slice none 0 0, .slice none 0 0] 49)).alloc (.cells #[.slice none 0 0, .slice none 0 0] 49)) := r1_.below (one_belowG _ _)
          have r2_ := rows_new (w14.alloc (.cells #[.slice none 0 0, .slice none 0 0] 49)) ((w14.alloc (.cells #[.slice none 0 0, .slice none 0 0] 49)).alloc (.cells #[.slice none 0 0, .slice none 0 0] 49)).heap.size
          rw [alloc_size] at r2_
          have TT0 : T2 w14.heap.size (w14.heap.size + 1) ((w14.alloc (.cells #[.slice none 0 0, .slice none 0 0] 49)).alloc (.cells #[.slice none 0 0, .slice none 0 0] 49)).heap.size (.slice none 0 0) (.slice none 0 0) (.slice none 0 0) (.slice none 0 0) [] [] [] [] ((w14.alloc (.cells #[.slice none 0 0, .slice none 0 0] 49)).alloc (.cells #[.slice none 0 0, .slice none 0 0] 49)) := ⟨r1_, r2_, fun g e => (by cases e), fun g e => (by cases e)⟩
          clear hs2 r1_ r2_
          replace A1 := A1.below bz1
          replace A2 := A2.below bz1
          replace WS := WS.below bz1
          have hzwq := bz1.size
          have Bwq := Bw14.trans (bz1.mono (by omega))
          go_wp2_with fail
          clear bz1
          generalize ((w14.alloc (.cells #[.slice none 0 0, .slice none 0 0] 49)).alloc (.cells #[.slice none 0 0, .slice none 0 0] 49)) = wq at *
          have LP0 : Hid (Lp RR wq w14.heap.size (w14.heap.size + 1) wq.heap.size g1 wa7.heap.size w8.heap.size g2 w8.heap.size w9.heap.size X1 Y1 X2 Y2 0 (.slice none 0 0) (.slice none 0 0) (.slice none 0 0) (.slice none 0 0) [] [] [] [] wq) := ⟨TT0, Ch.refl _ _, ⟨X1, Y1, by simpa using A1.tk, rfl, rfl⟩, ⟨X2, Y2, by simpa using A2.tk, rfl, rfl⟩⟩
          have hX1 := tkE_len _ A1.tk
          have hX2 := tkE_len _ A2.tk
          have hV1 := A1.un.len
          have hV2 := A2.un.len
          have hRW := HRW.out
          have HA1 := hmk A1
          have HA2 := hmk A2
          have HWS := hmk WS
          have hg1' := A1.hg
          have hg2' := A2.hg
          clear TT0 A1 A2 WS
          go_loopw [19] (fun e16 wr2 => ∃ (j : Nat) (s1 s2 s3 s4 : Value) (a1 b1 a2 b2 : List Value), j ≤ RR.length ∧ e16 = .int .i64 (j : Int) ∧ Hid (Lp RR wq w14.heap.size (w14.heap.size + 1) wq.heap.size g1 wa7.heap.size w8.heap.size g2 w8.heap.size w9.heap.size X1 Y1 X2 Y2 j s1 s2 s3 s4 a1 b1 a2 b2 wr2)) (fun e16 _ => RR.length - (RowKit.intOf e16).toNat)
          case atStart => exact ⟨0, _, _, _, _, _, _, _, _, by omega, rfl, LP0⟩
          case round =>
            clear LP0
            obtain ⟨j, s1, s2, s3, s4, a1, b1, a2, b2, hj, rfl, LP⟩ := hrel
            by_cases hjl : j < RR.length
            · have y1 : (j : Int) < RR.length := by omega
              obtain ⟨x_, y_, tk1, eX1, eY1⟩ := LP.out.k1
              obtain ⟨x2_, y2_, tk2, eX2, eY2⟩ := LP.out.k2
              obtain ⟨hS1, cs1, p1, q1, p1', q1', ro1, kk1, tk1', rfl, rfl⟩ := tkE_next hjl tk1
              obtain ⟨hS2, cs2, p2, q2, p2', q2', ro2, kk2, tk2', rfl, rfl⟩ := tkE_next hjl tk2
              have c0_ := LP.out.c
              have t0_ := LP.out.t
              have hzc := c0_.size
              have l1_ : X1.length = a1.length + (p1.length + p1'.length) := by rw [eX1, List.length_append, List.length_append]
              have l2_ : X2.length = a2.length + (p2.length + p2'.length) := by rw [eX2, List.length_append, List.length_append]
              have m1_ : Y1.length = b1.length + (q1.length + q1'.length) := by rw [eY1, List.length_append, List.length_append]
              have m2_ : Y2.length = b2.length + (q2.length + q2'.length) := by rw [eY2, List.length_append, List.length_append]
              have K1 : ∀ y, wa7.heap.size ≤ y ∧ y < w8.heap.size → wr.heap[y]? = wq.heap[y]? := fun y hy => c0_.blk y (by omega) (fun q => by rcases q with q | q | q <;> omega)
              have CK := take_any RR[j] w14.heap.size wq.heap.size _ cs1 p1 q1 a1 b1 s1 s2 wr (V.tk_keep K1 (fun _ h => h) _ kk1) (fun y hy => by have := hy.2; omega) (by omega) hzc t0_.r1 (by omega) (by omega)
              obtain ⟨ek, eb, ei, es, eal, enl, ecl, eam, enm, ecm, rfl⟩ := tk_ten kk1
              obtain ⟨fk, fb, fi, fs, fal, fnl, fcl, fam, fnm, fcm, rfl⟩ := tk_ten kk2
              obtain ⟨z0, z1, z2, z3, z4, z5⟩ := row6 (ro1.keep (K1 _ hS1))
              have HZ := hmk (And.intro eX1 (And.intro eY1 (And.intro eX2 (And.intro eY2 (And.intro l2_ m2_)))))
              clear LP tk1 tk2 K1 eX1 eY1 eX2 eY2 l1_ m1_ l2_ m2_
              go_wp2_with fail
              refine CK.mono ?_
              rintro e_ wx ⟨rfl, sl_, sm_, RR_, kr_⟩
              have t1_ := t0_.take (by omega) (by omega) (by omega) kr_ RR_
              have c1_ := c0_.trans ((kr_.ch t0_.r1).mono (fun y hy => hy.elim .inl (fun h => .inr (.inr h))))
              clear z0 z1 z2 z3 z4 z5 CK kr_ RR_ t0_ c0_ ro1
              have hzc1 := c1_.size
              have K2 : ∀ y, w8.heap.size ≤ y ∧ y < w9.heap.size → wx.heap[y]? = wq.heap[y]? := fun y hy => c1_.blk y (by omega) (fun q => by rcases q with q | q | q <;> omega)
              have CK := take_any RR[j] (w14.heap.size + 1) wq.heap.size _ [.int .i64 fk, .bool fb, .int .i64 fi, .string fs, .slice fal fnl fcl, .slice fam fnm fcm] p2 q2 a2 b2 s3 s4 wx (V.tk_keep K2 (fun _ h => h) _ kk2) (fun y hy => by have := hy.2; omega) (by omega) hzc1 t1_.r2 (by have := HZ.out.2.2.2.2; omega) (by have := HZ.out.2.2.2.2; omega)
              obtain ⟨z0, z1, z2, z3, z4, z5⟩ := row6 (ro2.keep (K2 _ hS2))
              clear K2
              go_wp2_with fail
              refine CK.mono ?_
              rintro e_ wy ⟨rfl, sl2_, sm2_, RR2_, kr2_⟩
              have t2_ := (t1_.swap.take (by omega) (by omega) (by omega) kr2_ RR2_).swap
              have c2_ := c1_.trans ((kr2_.ch t1_.r2).mono (fun y hy => hy.elim (fun h => .inr (.inl h)) (fun h => .inr (.inr h))))
              have LP2 : Hid (Lp RR wq w14.heap.size (w14.heap.size + 1) wq.heap.size g1 wa7.heap.size w8.heap.size g2 w8.heap.size w9.heap.size X1 Y1 X2 Y2 (j + 1) sl_ sm_ sl2_ sm2_ (a1 ++ p1) (b1 ++ q1) (a2 ++ p2) (b2 ++ q2) wy) := ⟨t2_, c2_, ⟨p1', q1', by rw [Nat.add_mul]; exact tk1', by rw [List.append_assoc]; exact HZ.out.1, by rw [List.append_assoc]; exact HZ.out.2.1⟩, ⟨p2', q2', by rw [Nat.add_mul]; exact tk2', by rw [List.append_assoc]; exact HZ.out.2.2.1, by rw [List.append_assoc]; exact HZ.out.2.2.2.1⟩⟩
              clear z0 z1 z2 z3 z4 z5 CK kr2_ RR2_ t1_ c1_ ro2 t2_ c2_ tk1' tk2' kk1 kk2
              go_wp2_with fail
              go_roundw
              case rel => exact ⟨j + 1, _, _, _, _, _, _, _, _, by omega, by go_num, LP2⟩
              case measure => simp [RowKit.intOf]; omega
            · obtain rfl : j = RR.length := by omega
              have y1 : ¬ (RR.length : Int) < RR.length := by omega
              obtain ⟨x_, y_, tk1, eX1, eY1⟩ := LP.out.k1
              obtain ⟨x2_, y2_, tk2, eX2, eY2⟩ := LP.out.k2
              obtain ⟨rfl, rfl⟩ := tkE_none tk1
              obtain ⟨rfl, rfl⟩ := tkE_none tk2
              rw [List.append_nil] at eX1 eY1 eX2 eY2
              subst eX1 eY1 eX2 eY2
              have c0_ := LP.out.c
              have t0_ := LP.out.t
              have A1 := HA1.out
              have A2 := HA2.out
              have WS := HWS.out
              clear LP HA1 HA2 HWS tk1 tk2 hj hjl
              have hgw := WS.lt
              replace A1 := A1.ch c0_ (fun y hy => by rcases hy with rfl | rfl | hy <;> omega)
              replace A2 := A2.ch c0_ (fun y hy => by rcases hy with rfl | rfl | hy <;> omega)
              replace WS := WS.ch c0_ (fun y hy => by rcases hy with rfl | rfl | hy <;> omega)
              have hzwr := c0_.size
              have Bwr := Ch.bel Bwq c0_ (fun y hy => by rcases hy with rfl | rfl | hy <;> omega) (by omega)
              have hU1 := A1.un.r
              have CK := apart_any w14.heap.size wq.heap.size s1 s2 X1 Y1 wr t0_.r1 hV1 (by omega) (by omega) A1.un.dst (A1.un.fl (fun b q => by omega)) (A1.un.fm (fun b q => by omega))
              go_wp2_with fail
              refine CK.mono ?_
              clear CK
              rintro e_ wp ⟨rfl, os_, tp_, ot_, sz_, fr_⟩
              have chp : Ch (· ∈ blks X1 Y1) wr wp := ⟨os_, tp_, ot_, sz_, fr_⟩
              have RB := t0_.r2.ch chp (fun y hy => by have := hU1 y hy; omega)
              clear os_ tp_ ot_ sz_ fr_ t0_ c0_ A1
              replace A2 := A2.ch chp (fun y hy => by have := hU1 y hy; omega)
              replace WS := WS.ch chp (fun y hy => by have := hU1 y hy; omega)
              have hzwp := chp.size
              have Bwp := Ch.bel Bwr chp (fun y hy => by have := hU1 y hy; omega) (by omega)
              clear chp hU1
              go_wp2_with fail
              obtain ⟨ow_, hd_, lw_⟩ := WS.hd
              have hl1_ := A2.lt
              have hl2_ := WS.lt
              have CK := samerow_any RR RR false false _ _ (some ⟨g2, 0, none⟩) aw RR.length g2 0 cw bw ow_ wp ⟨Nat.le_refl _, HRL.out, .inr rfl, fun h => by cases h⟩ hd_ A2.lies lw_ (fun y hy => by have := hy.2; omega) (fun y hy => by have := hy.2; omega)
              rw [rowB_refl] at CK
              refine CK.mono ?_
              clear CK hd_ lw_ hl1_ hl2_
              rintro e_ w15 ⟨rfl, bw15⟩
              replace A2 := A2.below bw15
              replace WS := WS.below bw15
              replace RB := RB.below bw15
              have hzw15 := bw15.size
              have Bw15 := Bwp.trans (bw15.mono (by omega))
              clear bw15
              go_wp2_with fail
              have hU2 := A2.un.r
              have CK := apart_any (w14.heap.size + 1) wq.heap.size s3 s4 X2 Y2 w15 RB hV2 (by omega) (by omega) A2.un.dst (A2.un.fl (fun b q => by omega)) (A2.un.fm (fun b q => by omega))
              refine CK.mono ?_
              clear CK
              rintro e_ wu ⟨rfl, os_, tp_, ot_, sz_, fr_⟩
              have chp : Ch (· ∈ blks X2 Y2) w15 wu := ⟨os_, tp_, ot_, sz_, fr_⟩
              clear os_ tp_ ot_ sz_ fr_ RB A2
              replace WS := WS.ch chp (fun y hy => by have := hU2 y hy; omega)
              have hzwu := chp.size
              have Bwu := Ch.bel Bw15 chp (fun y hy => by have := hU2 y hy; omega) (by omega)
              clear chp hU2
              go_wp2_with fail
              have XTz := (HTX.out _ Bwu)
              have XPz := (HPX.out _ Bwu)
              refine wp_region_held_drew (S := fun W => Below wu.heap.size wu W) (by kernel_rfl) ((Below.refl _ _).drew) (fun hHeld => ?_)
              (refine wpAnyH_take (i := 0) (v := ?_) rfl (by kernel_rfl) (by kernel_rfl) (by kernel_rfl) (fun _ _ _ h => h) (Or.inl ⟨by kernel_rfl, ?_⟩) (by assumption) ?_; rotate_left 1; (intro W0 hSw; obtain ⟨z0, z1, z2, z3, z4, z5⟩ := row6z (XTz.below hSw).row; go_simp; (try with_reducible rfl)); (try simp only [Act.put, List.setIfInBounds_toArray, List.set_cons_zero, List.set_cons_succ]))
              (refine wpAnyH_take (i := 2) (v := ?_) rfl (by kernel_rfl) (by kernel_rfl) (by kernel_rfl) (fun _ _ _ h => h) (Or.inl ⟨by kernel_rfl, ?_⟩) (by assumption) ?_; rotate_left 1; (intro W0 hSw; (try dsimp only at hSw); go_simp; (try with_reducible rfl)); (try simp only [Act.put, List.setIfInBounds_toArray, List.set_cons_zero, List.set_cons_succ]))
              (refine wpAnyH_take (i := 3) (v := ?_) rfl (by kernel_rfl) (by kernel_rfl) (by kernel_rfl) (fun _ _ _ h => h) (Or.inl ⟨by kernel_rfl, ?_⟩) (by assumption) ?_; rotate_left 1; (intro W0 hSw; obtain ⟨z0, z1, z2, z3, z4, z5⟩ := row6z (XPz.below hSw).row; go_simp; (try with_reducible rfl)); (try simp only [Act.put, List.setIfInBounds_toArray, List.set_cons_zero, List.set_cons_succ]))
              refine wpAnyH_ready (rs := [1]) (by kernel_rfl) (by simp) ?_
              refine AllReadyH.cons rfl (fun K hK => ?_) AllReadyH.nil
              go_simp
              refine (twin_un t (Old wu.drew) _ wu.drew (XTz.below ((Below.refl wu.heap.size wu).drew)).lies (fun _ h => h) hwt).mono ?_
              rintro e wk1 ⟨csu, rfl, bu, lu_, _⟩
              have bk1 : Below wu.heap.size wu wk1 := ((Below.refl wu.heap.size wu).drew).trans (bu.mono (((Below.refl wu.heap.size wu).drew)).size)
              obtain ⟨mk, mb, mi, ms, mal, mnl, mcl, mam, mnm, mcm, rfl⟩ := V.ten lu_
              have HL1 : Hid (∀ W, Below wk1.heap.size wk1 W → t.lies false W (Old W) [.int .i64 mk, .bool mb, .int .i64 mi, .string ms, .slice mal mnl mcl, .slice mam mnm mcm]) := fun W hb => V.lies_keep (fun h => h) (fun y hy => hb.block y hy.2) (fun y hy => Nat.lt_of_lt_of_le hy.2 hb.size) _ lu_
              clear lu_
              clear bu
              go_simp
              refine hK.out _ _ bk1 (fun hHeld => ?_)
              clear hK K
              (try simp only [Act.put, List.setIfInBounds_toArray, List.set_cons_zero, List.set_cons_succ])
              refine wpAnyH_ready (rs := [4]) (by kernel_rfl) (by simp) ?_
              refine AllReadyH.cons rfl (fun K hK => ?_) AllReadyH.nil
              go_simp
              refine (twin_un p (Old wk1) _ wk1 (XPz.below bk1).lies (fun _ h => h) hwp).mono ?_
              rintro e wk2 ⟨csu, rfl, bu, lu_, _⟩
              have bk2 : Below wu.heap.size wu wk2 := bk1.trans (bu.mono (bk1).size)
              obtain ⟨nk, nb, ni, ns, nal, nnl, ncl, nam, nnm, ncm, rfl⟩ := V.ten lu_
              have HL2 : Hid (t.lies false wk2 (Old wk2) [.int .i64 mk, .bool mb, .int .i64 mi, .string ms, .slice mal mnl mcl, .slice mam mnm mcm] ∧ p.lies false wk2 (Old wk2) [.int .i64 nk, .bool nb, .int .i64 ni, .string ns, .slice nal nnl ncl, .slice nam nnm ncm]) := ⟨HL1.out wk2 bu, V.lies_keep (fun h => h) (fun _ _ => rfl) (fun y hy => hy.2) _ lu_⟩
              clear lu_
              clear bu
              go_simp
              refine hK.out _ _ bk2 (fun hHeld => ?_)
              clear hK K
              (try simp only [Act.put, List.setIfInBounds_toArray, List.set_cons_zero, List.set_cons_succ])
              refine wpAnyH_ready (rs := [5]) (by kernel_rfl) (by simp) ?_
              refine AllReadyH.cons rfl (fun K hK => ?_) AllReadyH.nil
              go_simp
              refine (HAN.out wk2 (Old wk2) _ _ (Bwu.trans (bk2.mono Bwu.size)) HL2.out.1 HL2.out.2 (fun _ h => h)).mono ?_
              rintro e wk3 ⟨g3, a1_, a2_, rfl, o1_, o2_, o3_, o4_, ap3, _, bu⟩
              have bk3 : Below wu.heap.size wu wk3 := bk2.trans (bu.mono (bk2).size)
              have HR3 : Hid (liesL false wk3 (Old wk3) RR g3 0) := rowL_keep ap3 o3_ o4_ (Below.refl _ _)
              clear ap3 o1_ o2_ o3_ o4_
              clear bu
              go_simp
              refine hK.out _ _ bk3 (fun hHeld => ?_)
              clear hK K
              (try simp only [Act.put, List.setIfInBounds_toArray, List.set_cons_zero, List.set_cons_succ])
              (refine wpAnyH_take (i := 6) (v := ?_) rfl (by kernel_rfl) (by kernel_rfl) (by kernel_rfl) (fun _ _ _ h => h) (Or.inl ⟨by kernel_rfl, ?_⟩) (by assumption) ?_; rotate_left 1; (intro W0 hSw; (try dsimp only at hSw); go_simp; (try with_reducible rfl)); (try simp only [Act.put, List.setIfInBounds_toArray, List.set_cons_zero, List.set_cons_succ]))
              refine wpAnyH_done (by kernel_rfl) ?_ _
              (try dsimp only [Act.put, List.getElem_toArray, List.getElem_cons_succ, List.getElem_cons_zero, List.setIfInBounds_toArray, List.set_cons_zero, List.set_cons_succ])
              clear hHeld HL1 HL2 XTz XPz
              replace WS := WS.below bk3
              have hzwk3 := bk3.size
              have Bwk3 := Bwu.trans (bk3.mono (by omega))
              clear bk1 bk2 bk3
              go_wp2_with fail
              obtain ⟨ow_, hd_, lw_⟩ := WS.hd
              have hl2_ := WS.lt
              have CK := samerow_any RR RR false false _ _ (some ⟨g3, 0, none⟩) aw RR.length g3 0 cw bw ow_ wk3 ⟨Nat.le_refl _, HRL.out, .inr rfl, fun h => by cases h⟩ hd_ HR3.out lw_ (fun _ h => h) (fun y hy => by have := hy.2; omega)
              rw [rowB_refl] at CK
              refine CK.mono ?_
              clear CK hd_ lw_ hl2_ HR3
              rintro e_ w16 ⟨rfl, bw16⟩
              have hzw16 := bw16.size
              have Bw16 := Bwk3.trans (bw16.mono (by omega))
              obtain ⟨d0, d1, d2, d3, d4, d5⟩ := row6z (HTX.out _ Bw16).row
              obtain ⟨f0, f1, f2, f3, f4, f5⟩ := row6z (HPX.out _ Bw16).row
              go_wp2_with fail
              clear d0 d1 d2 d3 d4 d5
              clear f0 f1 f2 f3 f4 f5
              refine (HNW.out w16 Bw16).mono ?_
              rintro e_ w17 ⟨rfl, bw17⟩
              have hzw17 := bw17.size
              have Bw17 := Bw16.trans (bw17.mono (by omega))
              go_wp2_with fail
              go_ret
              exact HEND.out _ Bw17
end Go.Proofs.YthgfomblodhoaaaDoor
