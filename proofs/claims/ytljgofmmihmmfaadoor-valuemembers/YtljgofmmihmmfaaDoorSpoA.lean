import Derived.Test.YtljgofmmihmmfaaDoorWitA
import Derived.Test.YtljgofmmihmmfaaDoorRwtB
import Derived.Test.YtljgofmmihmmfaaDoorFauA
/- the law's spoilt. -/
set_option linter.unusedSimpArgs false
set_option linter.unusedVariables false
namespace Go.Proofs.YtljgofmmihmmfaaDoor
open Go.RowKit Go.Lib

/-- a value in a box of its own -/
structure Bx (W : World) (B : Nat) (v : V) (cs : List Value) : Prop where
  row : rowAt W B 0 cs
  lt : B < W.heap.size
  lies : v.lies false W (Old W) cs
theorem Bx.below {W W' : World} {B : Nat} {v : V} {cs : List Value} (h : Bx W B v cs) (hb : Below W.heap.size W W') : Bx W' B v cs :=
  ⟨h.row.keep (hb.block _ h.lt), Nat.lt_of_lt_of_le h.lt hb.size, V.lies_keep (fun h => h) (fun x hx => hb.block x hx) (fun x hx => Nat.lt_of_lt_of_le hx hb.size) _ h.lies⟩
theorem Bx.new {W : World} {S : Nat → Prop} {v : V} {cs : List Value} (h : v.lies false W S cs) (hS : ∀ b, S b → b < W.heap.size) : Bx (W.alloc (.cells cs.toArray 25)) W.heap.size v cs :=
  ⟨box_row W cs 25, by rw [alloc_size]; exact Nat.lt_succ_self _, V.lies_keep (fun h => h) (fun x hx => Below.heap_alloc W _ x (hS x hx)) (fun x hx => by show x < _; rw [alloc_size]; exact Nat.lt_succ_of_lt (hS x hx)) _ h⟩

set_option maxHeartbeats 8000000 in
set_option maxRecDepth 100000 in
theorem spoilt_any (v x : V) (key : ByteArray) (cs cx : List Value) (w : World) (tb : Tb w) (hv : v.lies false w (Old w) cs) (hx : x.lies false w (Old w) cx) (hkey : key.size ≤ 140737488355328) (hwv : v.wt ≤ 500000000) (hwx : x.wt ≤ 500000000) :
    Calls Tryd.prog 27 #[.agg cs.toArray, .string key, .agg cx.toArray] w (BPost true w) := by
  obtain ⟨vk, vb, vi, vs, val, vnl, vcl, vam, vnm, vcm, rfl⟩ := V.ten hv
  obtain ⟨xk, xb, xi, xs, xal, xnl, xcl, xam, xnm, xcm, rfl⟩ := V.ten hx
  have B0 : Below w.heap.size w ((w.alloc (.cells #[.int .i64 vk, .bool vb, .int .i64 vi, .string vs, .slice val vnl vcl, .slice vam vnm vcm] 25)).alloc (.cells #[.int .i64 xk, .bool xb, .int .i64 xi, .string xs, .slice xal xnl xcl, .slice xam xnm xcm] 25)) := two_below w _ _
  have XV : Bx ((w.alloc (.cells #[.int .i64 vk, .bool vb, .int .i64 vi, .string vs, .slice val vnl vcl, .slice vam vnm vcm] 25)).alloc (.cells #[.int .i64 xk, .bool xb, .int .i64 xi, .string xs, .slice xal xnl xcl, .slice xam xnm xcm] 25)) w.heap.size v [.int .i64 vk, .bool vb, .int .i64 vi, .string vs, .slice val vnl vcl, .slice vam vnm vcm] := (Bx.new hv (fun _ h => h)).below ((Below.refl _ _).alloc (Nat.le_refl _) _)
  have hx1 : x.lies false (w.alloc (.cells #[.int .i64 vk, .bool vb, .int .i64 vi, .string vs, .slice val vnl vcl, .slice vam vnm vcm] 25)) (Old (w.alloc (.cells #[.int .i64 vk, .bool vb, .int .i64 vi, .string vs, .slice val vnl vcl, .slice vam vnm vcm] 25))) [.int .i64 xk, .bool xb, .int .i64 xi, .string xs, .slice xal xnl xcl, .slice xam xnm xcm] := V.lies_keep (fun h => h) (fun y hy => Below.heap_alloc w _ y hy) (fun y hy => by show y < _; rw [alloc_size]; exact Nat.lt_succ_of_lt hy) _ hx
  have XX : Bx ((w.alloc (.cells #[.int .i64 vk, .bool vb, .int .i64 vi, .string vs, .slice val vnl vcl, .slice vam vnm vcm] 25)).alloc (.cells #[.int .i64 xk, .bool xb, .int .i64 xi, .string xs, .slice xal xnl xcl, .slice xam xnm xcm] 25)) (w.heap.size + 1) x [.int .i64 xk, .bool xb, .int .i64 xi, .string xs, .slice xal xnl xcl, .slice xam xnm xcm] := by
    have h := Bx.new hx1 (fun _ h => h)
    rw [alloc_size] at h
    exact h
  have HT : Hid (∀ W, Below w.heap.size w W → Tb W) := fun W hB => tb.below hB tb.z
  clear hv hx hx1 tb
  go_enter Tryd.func27, Tryd.ntmps27
  go_wp2_with fail
  generalize ((w.alloc (.cells #[.int .i64 vk, .bool vb, .int .i64 vi, .string vs, .slice val vnl vcl, .slice vam vnm vcm] 25)).alloc (.cells #[.int .i64 xk, .bool xb, .int .i64 xi, .string xs, .slice xal xnl xcl, .slice xam xnm xcm] 25)) = w0 at *
  go_loopw [7] (fun e wr => ∃ n : Nat, n ≤ 14 ∧ e = .int .i64 (n : Int) ∧ Hid (Below w0.heap.size w0 wr)) (fun e _ => 14 - (RowKit.intOf e).toNat)
  case atStart => exact ⟨0, by omega, rfl, Below.refl _ _⟩
  case round =>
    obtain ⟨n, hn, rfl, cn⟩ := hrel
    replace XV := XV.below cn.out
    replace XX := XX.below cn.out
    have Br : Hid (Below w.heap.size w wr) := B0.trans (cn.out.mono B0.size)
    by_cases h14 : n < 14
    · have y1 : (n : Int) < 14 := by omega
      obtain ⟨d0, d1, d2, d3, d4, d5⟩ := row6z XV.row
      go_wp2_with fail
      refine (faulty_any v n _ wr XV.lies h14 (by omega)).mono ?_
      rintro e wa ⟨p, csu, rfl, hlu, hwp, bu⟩
      obtain ⟨pk, pb, pi, ps, pal, pnl, pcl, pam, pnm, pcm, rfl⟩ := V.ten hlu
      clear d0 d1 d2 d3 d4 d5
      have bA : Below wr.heap.size wr (wa.alloc (.cells #[.int .i64 pk, .bool pb, .int .i64 pi, .string ps, .slice pal pnl pcl, .slice pam pnm pcm] 25)) := bu.alloc bu.size _
      replace XV := XV.below bA
      replace XX := XX.below bA
      have XP : Bx (wa.alloc (.cells #[.int .i64 pk, .bool pb, .int .i64 pi, .string ps, .slice pal pnl pcl, .slice pam pnm pcm] 25)) wa.heap.size p [.int .i64 pk, .bool pb, .int .i64 pi, .string ps, .slice pal pnl pcl, .slice pam pnm pcm] := Bx.new hlu (fun _ h => h)
      replace cn : Hid (Below w0.heap.size w0 (wa.alloc (.cells #[.int .i64 pk, .bool pb, .int .i64 pi, .string ps, .slice pal pnl pcl, .slice pam pnm pcm] 25))) := cn.out.trans (bA.mono cn.out.size)
      replace Br : Hid (Below w.heap.size w (wa.alloc (.cells #[.int .i64 pk, .bool pb, .int .i64 pi, .string ps, .slice pal pnl pcl, .slice pam pnm pcm] 25))) := Br.out.trans (bA.mono Br.out.size)
      clear bA bu hlu
      have hpw : p.wt ≤ 2147483648 := by omega
      obtain ⟨f0, f1, f2, f3, f4, f5⟩ := row6z XX.row
      go_wp2_with fail
      generalize (wa.alloc (.cells #[.int .i64 pk, .bool pb, .int .i64 pi, .string ps, .slice pal pnl pcl, .slice pam pnm pcm] 25)) = wXP at *
      refine (faulty_any x n _ wXP XX.lies h14 (by omega)).mono ?_
      rintro e wb ⟨q, csu, rfl, hlu, hwq, bu⟩
      obtain ⟨qk, qb, qi, qs, qal, qnl, qcl, qam, qnm, qcm, rfl⟩ := V.ten hlu
      clear f0 f1 f2 f3 f4 f5
      have bA : Below wXP.heap.size wXP (wb.alloc (.cells #[.int .i64 qk, .bool qb, .int .i64 qi, .string qs, .slice qal qnl qcl, .slice qam qnm qcm] 25)) := bu.alloc bu.size _
      replace XV := XV.below bA
      replace XX := XX.below bA
      replace XP := XP.below bA
      have XQ : Bx (wb.alloc (.cells #[.int .i64 qk, .bool qb, .int .i64 qi, .string qs, .slice qal qnl qcl, .slice qam qnm qcm] 25)) wb.heap.size q [.int .i64 qk, .bool qb, .int .i64 qi, .string qs, .slice qal qnl qcl, .slice qam qnm qcm] := Bx.new hlu (fun _ h => h)
      replace cn : Hid (Below w0.heap.size w0 (wb.alloc (.cells #[.int .i64 qk, .bool qb, .int .i64 qi, .string qs, .slice qal qnl qcl, .slice qam qnm qcm] 25))) := cn.out.trans (bA.mono cn.out.size)
      replace Br : Hid (Below w.heap.size w (wb.alloc (.cells #[.int .i64 qk, .bool qb, .int .i64 qi, .string qs, .slice qal qnl qcl, .slice qam qnm qcm] 25))) := Br.out.trans (bA.mono Br.out.size)
      clear bA bu hlu
      have hqw : q.wt ≤ 2147483648 := by omega
      obtain ⟨gp, hgp⟩ : ∃ gp, getV p key = gp := ⟨_, rfl⟩
      obtain ⟨wv, hwv1⟩ : ∃ wv, withV p key x = wv := ⟨_, rfl⟩
      obtain ⟨we, hwe1⟩ : ∃ we, withE p key x = we := ⟨_, rfl⟩
      obtain ⟨wv', hwv2⟩ : ∃ wv', withV v key q = wv' := ⟨_, rfl⟩
      obtain ⟨we', hwe2⟩ : ∃ we', withE v key q = we' := ⟨_, rfl⟩
      have C30 : Hid (∀ W B cs, Below w.heap.size w W → Bx W B p cs → Calls Tryd.prog 30 #[.agg cs.toArray, .string key] W (GtPost gp W)) := fun W B cs hb h => by rw [← hgp]; exact get_any p key false (Old W) cs W (HT.out W hb) h.lies (fun _ h => h) (by omega)
      have C31 : Hid (∀ W B cs, Bx W B p cs → Calls Tryd.prog 31 #[.agg cs.toArray, .string key] W (GtPost gp W)) := fun W B cs h => by rw [← hgp]; exact rget_any p key false (Old W) cs W h.lies (fun _ h => h) (by omega)
      have C32 : Hid (∀ W B cs B' cs', Below w.heap.size w W → Bx W B p cs → Bx W B' x cs' → Calls Tryd.prog 32 #[.agg cs.toArray, .string key, .agg cs'.toArray] W (VePost wv we W)) := fun W B cs B' cs' hb h h' => by rw [← hwv1, ← hwe1]; exact with_any p x key false false (Old W) (Old W) cs cs' W (HT.out W hb) h.lies h'.lies (fun _ h => h) (fun _ h => h) hkey (by omega) (by omega)
      have C33 : Hid (∀ W B cs B' cs', Bx W B p cs → Bx W B' x cs' → Calls Tryd.prog 33 #[.agg cs.toArray, .string key, .agg cs'.toArray] W (VePost wv we W)) := fun W B cs B' cs' h h' => by rw [← hwv1, ← hwe1]; exact rwith_any p x key false false (Old W) (Old W) cs cs' W h.lies h'.lies (fun _ h => h) (fun _ h => h) hkey (by omega) (by omega)
      have C42 : Hid (∀ W B cs B' cs', Below w.heap.size w W → Bx W B v cs → Bx W B' q cs' → Calls Tryd.prog 32 #[.agg cs.toArray, .string key, .agg cs'.toArray] W (VePost wv' we' W)) := fun W B cs B' cs' hb h h' => by rw [← hwv2, ← hwe2]; exact with_any v q key false false (Old W) (Old W) cs cs' W (HT.out W hb) h.lies h'.lies (fun _ h => h) (fun _ h => h) hkey (by omega) (by omega)
      have C43 : Hid (∀ W B cs B' cs', Bx W B v cs → Bx W B' q cs' → Calls Tryd.prog 33 #[.agg cs.toArray, .string key, .agg cs'.toArray] W (VePost wv' we' W)) := fun W B cs B' cs' h h' => by rw [← hwv2, ← hwe2]; exact rwith_any v q key false false (Old W) (Old W) cs cs' W h.lies h'.lies (fun _ h => h) (fun _ h => h) hkey (by omega) (by omega)
      have C29 : Hid (∀ W B cs, Below w.heap.size w W → Bx W B p cs → Calls Tryd.prog 29 #[.agg cs.toArray] W (AnPost (clnV p) W)) := fun W B cs hb h => clone_any p false (Old W) cs W (HT.out W hb) h.lies (fun _ h => h) (by omega)
      have C36 : Hid (∀ W B cs, Bx W B p cs → Calls Tryd.prog 36 #[.agg cs.toArray] W (AnPost (clnV p) W)) := fun W B cs h => rclone36_any p false (Old W) cs W h.lies (fun _ h => h) (by omega)
      have C34 : Hid (∀ W B cs, Below w.heap.size w W → Bx W B p cs → Calls Tryd.prog 34 #[.agg cs.toArray, .string key] W (AnPost (woutV p key) W)) := fun W B cs hb h => without_any p key false (Old W) cs W (HT.out W hb) h.lies (fun _ h => h) (by omega)
      have C37 : Hid (∀ W B cs, Bx W B p cs → Calls Tryd.prog 37 #[.agg cs.toArray, .string key] W (AnPost (woutV p key) W)) := fun W B cs h => rwithout_any p key false (Old W) cs W h.lies (fun _ h => h) (by omega)
      have C35 : Hid (∀ W u S S' cs cs', V.lies false W S u cs → V.lies false W S' u cs' → (∀ b, S b → b < W.heap.size) → (∀ b, S' b → b < W.heap.size) → Calls Tryd.prog 35 #[.agg cs.toArray, .agg cs'.toArray] W (BPost true W)) := fun W u S S' cs cs' h h' k k' => by
        have := same_any u false false u S S' cs cs' W h h' k k'
        rwa [V.eqB_refl] at this
      clear hgp hwv1 hwe1 hwv2 hwe2
      generalize clnV p = cp at *
      generalize woutV p key = op at *
      obtain ⟨gv, gb⟩ := gp
      obtain ⟨d0, d1, d2, d3, d4, d5⟩ := row6z XP.row
      go_wp2_with fail
      generalize (wb.alloc (.cells #[.int .i64 qk, .bool qb, .int .i64 qi, .string qs, .slice qal qnl qcl, .slice qam qnm qcm] 25)) = wXQ at *
      refine (C30.out wXQ _ _ Br.out XP).mono ?_
      rintro e wc ⟨csu, rfl, hlu, bu⟩
      obtain ⟨gk, gb, gi, gs, gal, gnl, gcl, gam, gnm, gcm, rfl⟩ := V.ten hlu
      clear d0 d1 d2 d3 d4 d5
      have bA : Below wXQ.heap.size wXQ (wc.alloc (.cells #[.int .i64 gk, .bool gb, .int .i64 gi, .string gs, .slice gal gnl gcl, .slice gam gnm gcm] 25)) := bu.alloc bu.size _
      replace XV := XV.below bA
      replace XX := XX.below bA
      replace XP := XP.below bA
      replace XQ := XQ.below bA
      have XG : Bx (wc.alloc (.cells #[.int .i64 gk, .bool gb, .int .i64 gi, .string gs, .slice gal gnl gcl, .slice gam gnm gcm] 25)) wc.heap.size gv [.int .i64 gk, .bool gb, .int .i64 gi, .string gs, .slice gal gnl gcl, .slice gam gnm gcm] := Bx.new hlu (fun _ h => h.2)
      replace cn : Hid (Below w0.heap.size w0 (wc.alloc (.cells #[.int .i64 gk, .bool gb, .int .i64 gi, .string gs, .slice gal gnl gcl, .slice gam gnm gcm] 25))) := cn.out.trans (bA.mono cn.out.size)
      replace Br : Hid (Below w.heap.size w (wc.alloc (.cells #[.int .i64 gk, .bool gb, .int .i64 gi, .string gs, .slice gal gnl gcl, .slice gam gnm gcm] 25))) := Br.out.trans (bA.mono Br.out.size)
      clear bA bu hlu
      obtain ⟨d0, d1, d2, d3, d4, d5⟩ := row6z XP.row
      go_wp2_with fail
      generalize (wc.alloc (.cells #[.int .i64 gk, .bool gb, .int .i64 gi, .string gs, .slice gal gnl gcl, .slice gam gnm gcm] 25)) = wXG at *
      refine (C31.out wXG _ _ XP).mono ?_
      rintro e wd ⟨csu, rfl, hlu, bu⟩
      obtain ⟨hk, hb, hi, hs, hal, hnl, hcl, ham, hnm, hcm, rfl⟩ := V.ten hlu
      clear d0 d1 d2 d3 d4 d5
      have bA : Below wXG.heap.size wXG (wd.alloc (.cells #[.int .i64 hk, .bool hb, .int .i64 hi, .string hs, .slice hal hnl hcl, .slice ham hnm hcm] 25)) := bu.alloc bu.size _
      replace XV := XV.below bA
      replace XX := XX.below bA
      replace XP := XP.below bA
      replace XQ := XQ.below bA
      replace XG := XG.below bA
      have XH : Bx (wd.alloc (.cells #[.int .i64 hk, .bool hb, .int .i64 hi, .string hs, .slice hal hnl hcl, .slice ham hnm hcm] 25)) wd.heap.size gv [.int .i64 hk, .bool hb, .int .i64 hi, .string hs, .slice hal hnl hcl, .slice ham hnm hcm] := Bx.new hlu (fun _ h => h.2)
      replace cn : Hid (Below w0.heap.size w0 (wd.alloc (.cells #[.int .i64 hk, .bool hb, .int .i64 hi, .string hs, .slice hal hnl hcl, .slice ham hnm hcm] 25))) := cn.out.trans (bA.mono cn.out.size)
      replace Br : Hid (Below w.heap.size w (wd.alloc (.cells #[.int .i64 hk, .bool hb, .int .i64 hi, .string hs, .slice hal hnl hcl, .slice ham hnm hcm] 25))) := Br.out.trans (bA.mono Br.out.size)
      clear bA bu hlu
      obtain ⟨d0, d1, d2, d3, d4, d5⟩ := row6z XP.row
      obtain ⟨f0, f1, f2, f3, f4, f5⟩ := row6z XX.row
      go_wp2_with fail
      generalize (wd.alloc (.cells #[.int .i64 hk, .bool hb, .int .i64 hi, .string hs, .slice hal hnl hcl, .slice ham hnm hcm] 25)) = wXH at *
      refine (C32.out wXH _ _ _ _ Br.out XP XX).mono ?_
      rintro e we1 ⟨csu, rfl, hlu, bu⟩
      obtain ⟨yk, yb, yi, ys, yal, ynl, ycl, yam, ynm, ycm, rfl⟩ := V.ten hlu
      clear d0 d1 d2 d3 d4 d5
      clear f0 f1 f2 f3 f4 f5
      have bA : Below wXH.heap.size wXH (we1.alloc (.cells #[.int .i64 yk, .bool yb, .int .i64 yi, .string ys, .slice yal ynl ycl, .slice yam ynm ycm] 25)) := bu.alloc bu.size _
      replace XV := XV.below bA
      replace XX := XX.below bA
      replace XP := XP.below bA
      replace XQ := XQ.below bA
      replace XG := XG.below bA
      replace XH := XH.below bA
      have XA : Bx (we1.alloc (.cells #[.int .i64 yk, .bool yb, .int .i64 yi, .string ys, .slice yal ynl ycl, .slice yam ynm ycm] 25)) we1.heap.size wv [.int .i64 yk, .bool yb, .int .i64 yi, .string ys, .slice yal ynl ycl, .slice yam ynm ycm] := Bx.new hlu (fun _ h => h.2)
      replace cn : Hid (Below w0.heap.size w0 (we1.alloc (.cells #[.int .i64 yk, .bool yb, .int .i64 yi, .string ys, .slice yal ynl ycl, .slice yam ynm ycm] 25))) := cn.out.trans (bA.mono cn.out.size)
      replace Br : Hid (Below w.heap.size w (we1.alloc (.cells #[.int .i64 yk, .bool yb, .int .i64 yi, .string ys, .slice yal ynl ycl, .slice yam ynm ycm] 25))) := Br.out.trans (bA.mono Br.out.size)
      clear bA bu hlu
      obtain ⟨d0, d1, d2, d3, d4, d5⟩ := row6z XP.row
      obtain ⟨f0, f1, f2, f3, f4, f5⟩ := row6z XX.row
      go_wp2_with fail
      generalize (we1.alloc (.cells #[.int .i64 yk, .bool yb, .int .i64 yi, .string ys, .slice yal ynl ycl, .slice yam ynm ycm] 25)) = wXA at *
      refine (C33.out wXA _ _ _ _ XP XX).mono ?_
      rintro e wf ⟨csu, rfl, hlu, bu⟩
      obtain ⟨uk, ub, ui, us, ual, unl, ucl, uam, unm, ucm, rfl⟩ := V.ten hlu
      clear d0 d1 d2 d3 d4 d5
      clear f0 f1 f2 f3 f4 f5
      have bA : Below wXA.heap.size wXA (wf.alloc (.cells #[.int .i64 uk, .bool ub, .int .i64 ui, .string us, .slice ual unl ucl, .slice uam unm ucm] 25)) := bu.alloc bu.size _
      replace XV := XV.below bA
      replace XX := XX.below bA
      replace XP := XP.below bA
      replace XQ := XQ.below bA
      replace XG := XG.below bA
      replace XH := XH.below bA
      replace XA := XA.below bA
      have XU : Bx (wf.alloc (.cells #[.int .i64 uk, .bool ub, .int .i64 ui, .string us, .slice ual unl ucl, .slice uam unm ucm] 25)) wf.heap.size wv [.int .i64 uk, .bool ub, .int .i64 ui, .string us, .slice ual unl ucl, .slice uam unm ucm] := Bx.new hlu (fun _ h => h.2)
      replace cn : Hid (Below w0.heap.size w0 (wf.alloc (.cells #[.int .i64 uk, .bool ub, .int .i64 ui, .string us, .slice ual unl ucl, .slice uam unm ucm] 25))) := cn.out.trans (bA.mono cn.out.size)
      replace Br : Hid (Below w.heap.size w (wf.alloc (.cells #[.int .i64 uk, .bool ub, .int .i64 ui, .string us, .slice ual unl ucl, .slice uam unm ucm] 25))) := Br.out.trans (bA.mono Br.out.size)
      clear bA bu hlu
      obtain ⟨d0, d1, d2, d3, d4, d5⟩ := row6z XV.row
      obtain ⟨f0, f1, f2, f3, f4, f5⟩ := row6z XQ.row
      go_wp2_with fail
      generalize (wf.alloc (.cells #[.int .i64 uk, .bool ub, .int .i64 ui, .string us, .slice ual unl ucl, .slice uam unm ucm] 25)) = wXU at *
      refine (C42.out wXU _ _ _ _ Br.out XV XQ).mono ?_
      rintro e wg ⟨csu, rfl, hlu, bu⟩
      obtain ⟨rk, rb, ri, rs, ral, rnl, rcl, ram, rnm, rcm, rfl⟩ := V.ten hlu
      clear d0 d1 d2 d3 d4 d5
      clear f0 f1 f2 f3 f4 f5
      have bA : Below wXU.heap.size wXU (wg.alloc (.cells #[.int .i64 rk, .bool rb, .int .i64 ri, .string rs, .slice ral rnl rcl, .slice ram rnm rcm] 25)) := bu.alloc bu.size _
      replace XV := XV.below bA
      replace XX := XX.below bA
      replace XP := XP.below bA
      replace XQ := XQ.below bA
      replace XG := XG.below bA
      replace XH := XH.below bA
      replace XA := XA.below bA
      replace XU := XU.below bA
      have XR : Bx (wg.alloc (.cells #[.int .i64 rk, .bool rb, .int .i64 ri, .string rs, .slice ral rnl rcl, .slice ram rnm rcm] 25)) wg.heap.size wv' [.int .i64 rk, .bool rb, .int .i64 ri, .string rs, .slice ral rnl rcl, .slice ram rnm rcm] := Bx.new hlu (fun _ h => h.2)
      replace cn : Hid (Below w0.heap.size w0 (wg.alloc (.cells #[.int .i64 rk, .bool rb, .int .i64 ri, .string rs, .slice ral rnl rcl, .slice ram rnm rcm] 25))) := cn.out.trans (bA.mono cn.out.size)
      replace Br : Hid (Below w.heap.size w (wg.alloc (.cells #[.int .i64 rk, .bool rb, .int .i64 ri, .string rs, .slice ral rnl rcl, .slice ram rnm rcm] 25))) := Br.out.trans (bA.mono Br.out.size)
      clear bA bu hlu
      obtain ⟨d0, d1, d2, d3, d4, d5⟩ := row6z XV.row
      obtain ⟨f0, f1, f2, f3, f4, f5⟩ := row6z XQ.row
      go_wp2_with fail
      generalize (wg.alloc (.cells #[.int .i64 rk, .bool rb, .int .i64 ri, .string rs, .slice ral rnl rcl, .slice ram rnm rcm] 25)) = wXR at *
      refine (C43.out wXR _ _ _ _ XV XQ).mono ?_
      rintro e wh ⟨csu, rfl, hlu, bu⟩
      obtain ⟨tk, tb, ti, ts, tal, tnl, tcl, tam, tnm, tcm, rfl⟩ := V.ten hlu
      clear d0 d1 d2 d3 d4 d5
      clear f0 f1 f2 f3 f4 f5
      have bA : Below wXR.heap.size wXR (wh.alloc (.cells #[.int .i64 tk, .bool tb, .int .i64 ti, .string ts, .slice tal tnl tcl, .slice tam tnm tcm] 25)) := bu.alloc bu.size _
      replace XV := XV.below bA
      replace XX := XX.below bA
      replace XP := XP.below bA
      replace XQ := XQ.below bA
      replace XG := XG.below bA
      replace XH := XH.below bA
      replace XA := XA.below bA
      replace XU := XU.below bA
      replace XR := XR.below bA
      have XT : Bx (wh.alloc (.cells #[.int .i64 tk, .bool tb, .int .i64 ti, .string ts, .slice tal tnl tcl, .slice tam tnm tcm] 25)) wh.heap.size wv' [.int .i64 tk, .bool tb, .int .i64 ti, .string ts, .slice tal tnl tcl, .slice tam tnm tcm] := Bx.new hlu (fun _ h => h.2)
      replace cn : Hid (Below w0.heap.size w0 (wh.alloc (.cells #[.int .i64 tk, .bool tb, .int .i64 ti, .string ts, .slice tal tnl tcl, .slice tam tnm tcm] 25))) := cn.out.trans (bA.mono cn.out.size)
      replace Br : Hid (Below w.heap.size w (wh.alloc (.cells #[.int .i64 tk, .bool tb, .int .i64 ti, .string ts, .slice tal tnl tcl, .slice tam tnm tcm] 25))) := Br.out.trans (bA.mono Br.out.size)
      clear bA bu hlu
      go_wp2_with fail
      generalize (wh.alloc (.cells #[.int .i64 tk, .bool tb, .int .i64 ti, .string ts, .slice tal tnl tcl, .slice tam tnm tcm] 25)) = wz at *
      clear C30 C31 C32 C33 C42 C43
      refine wp_region_held_drew (S := fun W => Below wz.heap.size wz W) (by kernel_rfl) ((Below.refl _ _).drew) (fun hHeld => ?_)
      (refine wpAnyH_take (i := 0) (v := ?_) rfl (by kernel_rfl) (by kernel_rfl) (by kernel_rfl) (fun _ _ _ h => h) (Or.inl ⟨by kernel_rfl, ?_⟩) (by assumption) ?_; rotate_left 1; (intro W0 hSw; obtain ⟨z0, z1, z2, z3, z4, z5⟩ := row6z (XP.below hSw).row; go_simp; (try with_reducible rfl)); (try simp only [Act.put, List.setIfInBounds_toArray, List.set_cons_zero, List.set_cons_succ]))
      (refine wpAnyH_take (i := 2) (v := ?_) rfl (by kernel_rfl) (by kernel_rfl) (by kernel_rfl) (fun _ _ _ h => h) (Or.inl ⟨by kernel_rfl, ?_⟩) (by assumption) ?_; rotate_left 1; (intro W0 hSw; obtain ⟨z0, z1, z2, z3, z4, z5⟩ := row6z (XP.below hSw).row; go_simp; (try with_reducible rfl)); (try simp only [Act.put, List.setIfInBounds_toArray, List.set_cons_zero, List.set_cons_succ]))
      refine wpAnyH_ready (rs := [1]) (by kernel_rfl) (by simp) ?_
      refine AllReadyH.cons rfl (fun K hK => ?_) AllReadyH.nil
      go_simp
      refine (C29.out wz.drew _ _ (Br.out.trans (((Below.refl wz.heap.size wz).drew).mono Br.out.size)) (XP.below ((Below.refl wz.heap.size wz).drew))).mono ?_
      rintro e wk1 ⟨csu, rfl, hlu, bu⟩
      have bk1 : Below wz.heap.size wz wk1 := ((Below.refl wz.heap.size wz).drew).trans (bu.mono (((Below.refl wz.heap.size wz).drew)).size)
      obtain ⟨ik, ib, ii, is, ial, inl, icl, iam, inm, icm, rfl⟩ := V.ten hlu
      have HI : Hid (∀ W, Below wk1.heap.size wk1 W → cp.lies false W (Old W) [.int .i64 ik, .bool ib, .int .i64 ii, .string is, .slice ial inl icl, .slice iam inm icm]) := fun W hb => V.lies_keep (fun h => h) (fun y hy => hb.block y hy.2) (fun y hy => Nat.lt_of_lt_of_le hy.2 hb.size) _ hlu
      clear hlu
      clear bu
      go_simp
      refine hK.out _ _ bk1 (fun hHeld => ?_)
      clear hK K
      (try simp only [Act.put, List.setIfInBounds_toArray, List.set_cons_zero, List.set_cons_succ])
      refine wpAnyH_ready (rs := [3]) (by kernel_rfl) (by simp) ?_
      refine AllReadyH.cons rfl (fun K hK => ?_) AllReadyH.nil
      go_simp
      refine (C36.out wk1 _ _ (XP.below bk1)).mono ?_
      rintro e wk2 ⟨csu, rfl, hlu, bu⟩
      have bk2 : Below wz.heap.size wz wk2 := bk1.trans (bu.mono (bk1).size)
      obtain ⟨jk, jb, ji, js, jal, jnl, jcl, jam, jnm, jcm, rfl⟩ := V.ten hlu
      have HI2 : Hid (cp.lies false wk2 (Old wk2) [.int .i64 ik, .bool ib, .int .i64 ii, .string is, .slice ial inl icl, .slice iam inm icm] ∧ cp.lies false wk2 (Old wk2) [.int .i64 jk, .bool jb, .int .i64 ji, .string js, .slice jal jnl jcl, .slice jam jnm jcm]) := ⟨HI.out wk2 bu, V.lies_keep (fun h => h) (fun _ _ => rfl) (fun y hy => hy.2) _ hlu⟩
      clear hlu
      clear bu
      go_simp
      refine hK.out _ _ bk2 (fun hHeld => ?_)
      clear hK K
      (try simp only [Act.put, List.setIfInBounds_toArray, List.set_cons_zero, List.set_cons_succ])
      refine wpAnyH_ready (rs := [4]) (by kernel_rfl) (by simp) ?_
      refine AllReadyH.cons rfl (fun K hK => ?_) AllReadyH.nil
      go_simp
      refine (C35.out wk2 cp _ _ _ _ HI2.out.1 HI2.out.2 (fun _ h => h) (fun _ h => h)).mono ?_
      rintro e wk3 ⟨rfl, bu⟩
      have bk3 : Below wz.heap.size wz wk3 := bk2.trans (bu.mono (bk2).size)
      clear bu
      go_simp
      refine hK.out _ _ bk3 (fun hHeld => ?_)
      clear hK K
      (try simp only [Act.put, List.setIfInBounds_toArray, List.set_cons_zero, List.set_cons_succ])
      (refine wpAnyH_take (i := 5) (v := ?_) rfl (by kernel_rfl) (by kernel_rfl) (by kernel_rfl) (fun _ _ _ h => h) (Or.inl ⟨by kernel_rfl, ?_⟩) (by assumption) ?_; rotate_left 1; (intro W0 hSw; (try dsimp only at hSw); go_simp; (try with_reducible rfl)); (try simp only [Act.put, List.setIfInBounds_toArray, List.set_cons_zero, List.set_cons_succ]))
      (refine wpAnyH_take (i := 6) (v := ?_) rfl (by kernel_rfl) (by kernel_rfl) (by kernel_rfl) (fun _ _ _ h => h) (Or.inl ⟨by kernel_rfl, ?_⟩) (by assumption) ?_; rotate_left 1; (intro W0 hSw; (try dsimp only at hSw); go_simp; (try with_reducible rfl)); (try simp only [Act.put, List.setIfInBounds_toArray, List.set_cons_zero, List.set_cons_succ]))
      (refine wpAnyH_take (i := 7) (v := ?_) rfl (by kernel_rfl) (by kernel_rfl) (by kernel_rfl) (fun _ _ _ h => h) (Or.inl ⟨by kernel_rfl, ?_⟩) (by assumption) ?_; rotate_left 1; (intro W0 hSw; obtain ⟨z0, z1, z2, z3, z4, z5⟩ := row6z (XG.below hSw).row; go_simp; (try with_reducible rfl)); (try simp only [Act.put, List.setIfInBounds_toArray, List.set_cons_zero, List.set_cons_succ]))
      (refine wpAnyH_take (i := 8) (v := ?_) rfl (by kernel_rfl) (by kernel_rfl) (by kernel_rfl) (fun _ _ _ h => h) (Or.inl ⟨by kernel_rfl, ?_⟩) (by assumption) ?_; rotate_left 1; (intro W0 hSw; obtain ⟨z0, z1, z2, z3, z4, z5⟩ := row6z (XH.below hSw).row; go_simp; (try with_reducible rfl)); (try simp only [Act.put, List.setIfInBounds_toArray, List.set_cons_zero, List.set_cons_succ]))
      refine wpAnyH_ready (rs := [9]) (by kernel_rfl) (by simp) ?_
      refine AllReadyH.cons rfl (fun K hK => ?_) AllReadyH.nil
      go_simp
      refine (C35.out wk3 gv _ _ _ _ (XG.below bk3).lies (XH.below bk3).lies (fun _ h => h) (fun _ h => h)).mono ?_
      rintro e wk4 ⟨rfl, bu⟩
      have bk4 : Below wz.heap.size wz wk4 := bk3.trans (bu.mono (bk3).size)
      clear bu
      go_simp
      refine hK.out _ _ bk4 (fun hHeld => ?_)
      clear hK K
      (try simp only [Act.put, List.setIfInBounds_toArray, List.set_cons_zero, List.set_cons_succ])
      (refine wpAnyH_take (i := 10) (v := ?_) rfl (by kernel_rfl) (by kernel_rfl) (by kernel_rfl) (fun _ _ _ h => h) (Or.inl ⟨by kernel_rfl, ?_⟩) (by assumption) ?_; rotate_left 1; (intro W0 hSw; (try dsimp only at hSw); go_simp; (try with_reducible rfl)); (try simp only [Act.put, List.setIfInBounds_toArray, List.set_cons_zero, List.set_cons_succ]))
      (refine wpAnyH_take (i := 11) (v := ?_) rfl (by kernel_rfl) (by kernel_rfl) (by kernel_rfl) (fun _ _ _ h => h) (Or.inl ⟨by kernel_rfl, ?_⟩) (by assumption) ?_; rotate_left 1; (intro W0 hSw; (try dsimp only at hSw); go_simp; (try with_reducible rfl)); (try simp only [Act.put, List.setIfInBounds_toArray, List.set_cons_zero, List.set_cons_succ]))
      (refine wpAnyH_take (i := 12) (v := ?_) rfl (by kernel_rfl) (by kernel_rfl) (by kernel_rfl) (fun _ _ _ h => h) (Or.inl ⟨by kernel_rfl, ?_⟩) (by assumption) ?_; rotate_left 1; (intro W0 hSw; (try dsimp only at hSw); go_simp; (try with_reducible rfl)); (try simp only [Act.put, List.setIfInBounds_toArray, List.set_cons_zero, List.set_cons_succ]))
      (refine wpAnyH_take (i := 13) (v := ?_) rfl (by kernel_rfl) (by kernel_rfl) (by kernel_rfl) (fun _ _ _ h => h) (Or.inl ⟨by kernel_rfl, ?_⟩) (by assumption) ?_; rotate_left 1; (intro W0 hSw; (try dsimp only at hSw); go_simp; (try with_reducible rfl)); (try simp only [Act.put, List.setIfInBounds_toArray, List.set_cons_zero, List.set_cons_succ]))
      (refine wpAnyH_take (i := 14) (v := ?_) rfl (by kernel_rfl) (by kernel_rfl) (by kernel_rfl) (fun _ _ _ h => h) (Or.inl ⟨by kernel_rfl, ?_⟩) (by assumption) ?_; rotate_left 1; (intro W0 hSw; (try dsimp only at hSw); go_simp; (try with_reducible rfl)); (try simp only [Act.put, List.setIfInBounds_toArray, List.set_cons_zero, List.set_cons_succ]))
      (refine wpAnyH_take (i := 15) (v := .bool false) rfl (by kernel_rfl) (by kernel_rfl) (by kernel_rfl) (fun _ _ _ h => h) (Or.inl ⟨by kernel_rfl, ?_⟩) (by assumption) ?_; (intro W0 hSw; cases gb <;> go_simp); (try simp only [Act.put, List.setIfInBounds_toArray, List.set_cons_zero, List.set_cons_succ]))
      (refine wpAnyH_take (i := 16) (v := ?_) rfl (by kernel_rfl) (by kernel_rfl) (by kernel_rfl) (fun _ _ _ h => h) (Or.inl ⟨by kernel_rfl, ?_⟩) (by assumption) ?_; rotate_left 1; (intro W0 hSw; (try dsimp only at hSw); go_simp; (try with_reducible rfl)); (try simp only [Act.put, List.setIfInBounds_toArray, List.set_cons_zero, List.set_cons_succ]))
      (refine wpAnyH_take (i := 17) (v := ?_) rfl (by kernel_rfl) (by kernel_rfl) (by kernel_rfl) (fun _ _ _ h => h) (Or.inl ⟨by kernel_rfl, ?_⟩) (by assumption) ?_; rotate_left 1; (intro W0 hSw; (try dsimp only at hSw); go_simp; (try with_reducible rfl)); (try simp only [Act.put, List.setIfInBounds_toArray, List.set_cons_zero, List.set_cons_succ]))
      (refine wpAnyH_take (i := 18) (v := ?_) rfl (by kernel_rfl) (by kernel_rfl) (by kernel_rfl) (fun _ _ _ h => h) (Or.inl ⟨by kernel_rfl, ?_⟩) (by assumption) ?_; rotate_left 1; (intro W0 hSw; obtain ⟨z0, z1, z2, z3, z4, z5⟩ := row6z (XA.below hSw).row; go_simp; (try with_reducible rfl)); (try simp only [Act.put, List.setIfInBounds_toArray, List.set_cons_zero, List.set_cons_succ]))
      (refine wpAnyH_take (i := 19) (v := ?_) rfl (by kernel_rfl) (by kernel_rfl) (by kernel_rfl) (fun _ _ _ h => h) (Or.inl ⟨by kernel_rfl, ?_⟩) (by assumption) ?_; rotate_left 1; (intro W0 hSw; obtain ⟨z0, z1, z2, z3, z4, z5⟩ := row6z (XU.below hSw).row; go_simp; (try with_reducible rfl)); (try simp only [Act.put, List.setIfInBounds_toArray, List.set_cons_zero, List.set_cons_succ]))
      refine wpAnyH_ready (rs := [20]) (by kernel_rfl) (by simp) ?_
      refine AllReadyH.cons rfl (fun K hK => ?_) AllReadyH.nil
      go_simp
      refine (C35.out wk4 wv _ _ _ _ (XA.below bk4).lies (XU.below bk4).lies (fun _ h => h) (fun _ h => h)).mono ?_
      rintro e wk5 ⟨rfl, bu⟩
      have bk5 : Below wz.heap.size wz wk5 := bk4.trans (bu.mono (bk4).size)
      clear bu
      go_simp
      refine hK.out _ _ bk5 (fun hHeld => ?_)
      clear hK K
      (try simp only [Act.put, List.setIfInBounds_toArray, List.set_cons_zero, List.set_cons_succ])
      (refine wpAnyH_take (i := 21) (v := ?_) rfl (by kernel_rfl) (by kernel_rfl) (by kernel_rfl) (fun _ _ _ h => h) (Or.inl ⟨by kernel_rfl, ?_⟩) (by assumption) ?_; rotate_left 1; (intro W0 hSw; (try dsimp only at hSw); go_simp; (try with_reducible rfl)); (try simp only [Act.put, List.setIfInBounds_toArray, List.set_cons_zero, List.set_cons_succ]))
      (refine wpAnyH_take (i := 22) (v := ?_) rfl (by kernel_rfl) (by kernel_rfl) (by kernel_rfl) (fun _ _ _ h => h) (Or.inl ⟨by kernel_rfl, ?_⟩) (by assumption) ?_; rotate_left 1; (intro W0 hSw; (try dsimp only at hSw); go_simp; (try with_reducible rfl)); (try simp only [Act.put, List.setIfInBounds_toArray, List.set_cons_zero, List.set_cons_succ]))
      (refine wpAnyH_take (i := 23) (v := ?_) rfl (by kernel_rfl) (by kernel_rfl) (by kernel_rfl) (fun _ _ _ h => h) (Or.inl ⟨by kernel_rfl, ?_⟩) (by assumption) ?_; rotate_left 1; (intro W0 hSw; (try dsimp only at hSw); go_simp; (try with_reducible rfl)); (try simp only [Act.put, List.setIfInBounds_toArray, List.set_cons_zero, List.set_cons_succ]))
      (refine wpAnyH_take (i := 24) (v := ?_) rfl (by kernel_rfl) (by kernel_rfl) (by kernel_rfl) (fun _ _ _ h => h) (Or.inl ⟨by kernel_rfl, ?_⟩) (by assumption) ?_; rotate_left 1; (intro W0 hSw; (try dsimp only at hSw); go_simp; (try with_reducible rfl)); (try simp only [Act.put, List.setIfInBounds_toArray, List.set_cons_zero, List.set_cons_succ]))
      (refine wpAnyH_take (i := 25) (v := ?_) rfl (by kernel_rfl) (by kernel_rfl) (by kernel_rfl) (fun _ _ _ h => h) (Or.inl ⟨by kernel_rfl, ?_⟩) (by assumption) ?_; rotate_left 1; (intro W0 hSw; (try dsimp only at hSw); go_simp; (try with_reducible rfl)); (try simp only [Act.put, List.setIfInBounds_toArray, List.set_cons_zero, List.set_cons_succ]))
      (refine wpAnyH_take (i := 26) (v := .bool false) rfl (by kernel_rfl) (by kernel_rfl) (by kernel_rfl) (fun _ _ _ h => h) (Or.inl ⟨by kernel_rfl, ?_⟩) (by assumption) ?_; (intro W0 hSw; go_simp); (try simp only [Act.put, List.setIfInBounds_toArray, List.set_cons_zero, List.set_cons_succ]))
      (refine wpAnyH_take (i := 27) (v := ?_) rfl (by kernel_rfl) (by kernel_rfl) (by kernel_rfl) (fun _ _ _ h => h) (Or.inl ⟨by kernel_rfl, ?_⟩) (by assumption) ?_; rotate_left 1; (intro W0 hSw; (try dsimp only at hSw); go_simp; (try with_reducible rfl)); (try simp only [Act.put, List.setIfInBounds_toArray, List.set_cons_zero, List.set_cons_succ]))
      (refine wpAnyH_take (i := 28) (v := ?_) rfl (by kernel_rfl) (by kernel_rfl) (by kernel_rfl) (fun _ _ _ h => h) (Or.inl ⟨by kernel_rfl, ?_⟩) (by assumption) ?_; rotate_left 1; (intro W0 hSw; (try dsimp only at hSw); go_simp; (try with_reducible rfl)); (try simp only [Act.put, List.setIfInBounds_toArray, List.set_cons_zero, List.set_cons_succ]))
      (refine wpAnyH_take (i := 29) (v := ?_) rfl (by kernel_rfl) (by kernel_rfl) (by kernel_rfl) (fun _ _ _ h => h) (Or.inl ⟨by kernel_rfl, ?_⟩) (by assumption) ?_; rotate_left 1; (intro W0 hSw; obtain ⟨z0, z1, z2, z3, z4, z5⟩ := row6z (XR.below hSw).row; go_simp; (try with_reducible rfl)); (try simp only [Act.put, List.setIfInBounds_toArray, List.set_cons_zero, List.set_cons_succ]))
      (refine wpAnyH_take (i := 30) (v := ?_) rfl (by kernel_rfl) (by kernel_rfl) (by kernel_rfl) (fun _ _ _ h => h) (Or.inl ⟨by kernel_rfl, ?_⟩) (by assumption) ?_; rotate_left 1; (intro W0 hSw; obtain ⟨z0, z1, z2, z3, z4, z5⟩ := row6z (XT.below hSw).row; go_simp; (try with_reducible rfl)); (try simp only [Act.put, List.setIfInBounds_toArray, List.set_cons_zero, List.set_cons_succ]))
      refine wpAnyH_ready (rs := [31]) (by kernel_rfl) (by simp) ?_
      refine AllReadyH.cons rfl (fun K hK => ?_) AllReadyH.nil
      go_simp
      refine (C35.out wk5 wv' _ _ _ _ (XR.below bk5).lies (XT.below bk5).lies (fun _ h => h) (fun _ h => h)).mono ?_
      rintro e wk6 ⟨rfl, bu⟩
      have bk6 : Below wz.heap.size wz wk6 := bk5.trans (bu.mono (bk5).size)
      clear bu
      go_simp
      refine hK.out _ _ bk6 (fun hHeld => ?_)
      clear hK K
      (try simp only [Act.put, List.setIfInBounds_toArray, List.set_cons_zero, List.set_cons_succ])
      (refine wpAnyH_take (i := 32) (v := ?_) rfl (by kernel_rfl) (by kernel_rfl) (by kernel_rfl) (fun _ _ _ h => h) (Or.inl ⟨by kernel_rfl, ?_⟩) (by assumption) ?_; rotate_left 1; (intro W0 hSw; (try dsimp only at hSw); go_simp; (try with_reducible rfl)); (try simp only [Act.put, List.setIfInBounds_toArray, List.set_cons_zero, List.set_cons_succ]))
      (refine wpAnyH_take (i := 33) (v := ?_) rfl (by kernel_rfl) (by kernel_rfl) (by kernel_rfl) (fun _ _ _ h => h) (Or.inl ⟨by kernel_rfl, ?_⟩) (by assumption) ?_; rotate_left 1; (intro W0 hSw; (try dsimp only at hSw); go_simp; (try with_reducible rfl)); (try simp only [Act.put, List.setIfInBounds_toArray, List.set_cons_zero, List.set_cons_succ]))
      (refine wpAnyH_take (i := 34) (v := ?_) rfl (by kernel_rfl) (by kernel_rfl) (by kernel_rfl) (fun _ _ _ h => h) (Or.inl ⟨by kernel_rfl, ?_⟩) (by assumption) ?_; rotate_left 1; (intro W0 hSw; (try dsimp only at hSw); go_simp; (try with_reducible rfl)); (try simp only [Act.put, List.setIfInBounds_toArray, List.set_cons_zero, List.set_cons_succ]))
      (refine wpAnyH_take (i := 35) (v := ?_) rfl (by kernel_rfl) (by kernel_rfl) (by kernel_rfl) (fun _ _ _ h => h) (Or.inl ⟨by kernel_rfl, ?_⟩) (by assumption) ?_; rotate_left 1; (intro W0 hSw; (try dsimp only at hSw); go_simp; (try with_reducible rfl)); (try simp only [Act.put, List.setIfInBounds_toArray, List.set_cons_zero, List.set_cons_succ]))
      (refine wpAnyH_take (i := 36) (v := ?_) rfl (by kernel_rfl) (by kernel_rfl) (by kernel_rfl) (fun _ _ _ h => h) (Or.inl ⟨by kernel_rfl, ?_⟩) (by assumption) ?_; rotate_left 1; (intro W0 hSw; (try dsimp only at hSw); go_simp; (try with_reducible rfl)); (try simp only [Act.put, List.setIfInBounds_toArray, List.set_cons_zero, List.set_cons_succ]))
      (refine wpAnyH_take (i := 37) (v := .bool false) rfl (by kernel_rfl) (by kernel_rfl) (by kernel_rfl) (fun _ _ _ h => h) (Or.inl ⟨by kernel_rfl, ?_⟩) (by assumption) ?_; (intro W0 hSw; go_simp); (try simp only [Act.put, List.setIfInBounds_toArray, List.set_cons_zero, List.set_cons_succ]))
      (refine wpAnyH_take (i := 38) (v := ?_) rfl (by kernel_rfl) (by kernel_rfl) (by kernel_rfl) (fun _ _ _ h => h) (Or.inl ⟨by kernel_rfl, ?_⟩) (by assumption) ?_; rotate_left 1; (intro W0 hSw; (try dsimp only at hSw); go_simp; (try with_reducible rfl)); (try simp only [Act.put, List.setIfInBounds_toArray, List.set_cons_zero, List.set_cons_succ]))
      (refine wpAnyH_take (i := 39) (v := ?_) rfl (by kernel_rfl) (by kernel_rfl) (by kernel_rfl) (fun _ _ _ h => h) (Or.inl ⟨by kernel_rfl, ?_⟩) (by assumption) ?_; rotate_left 1; (intro W0 hSw; (try dsimp only at hSw); go_simp; (try with_reducible rfl)); (try simp only [Act.put, List.setIfInBounds_toArray, List.set_cons_zero, List.set_cons_succ]))
      (refine wpAnyH_take (i := 40) (v := ?_) rfl (by kernel_rfl) (by kernel_rfl) (by kernel_rfl) (fun _ _ _ h => h) (Or.inl ⟨by kernel_rfl, ?_⟩) (by assumption) ?_; rotate_left 1; (intro W0 hSw; obtain ⟨z0, z1, z2, z3, z4, z5⟩ := row6z (XP.below hSw).row; go_simp; (try with_reducible rfl)); (try simp only [Act.put, List.setIfInBounds_toArray, List.set_cons_zero, List.set_cons_succ]))
      (refine wpAnyH_take (i := 41) (v := ?_) rfl (by kernel_rfl) (by kernel_rfl) (by kernel_rfl) (fun _ _ _ h => h) (Or.inl ⟨by kernel_rfl, ?_⟩) (by assumption) ?_; rotate_left 1; (intro W0 hSw; (try dsimp only at hSw); go_simp; (try with_reducible rfl)); (try simp only [Act.put, List.setIfInBounds_toArray, List.set_cons_zero, List.set_cons_succ]))
      (refine wpAnyH_take (i := 43) (v := ?_) rfl (by kernel_rfl) (by kernel_rfl) (by kernel_rfl) (fun _ _ _ h => h) (Or.inl ⟨by kernel_rfl, ?_⟩) (by assumption) ?_; rotate_left 1; (intro W0 hSw; obtain ⟨z0, z1, z2, z3, z4, z5⟩ := row6z (XP.below hSw).row; go_simp; (try with_reducible rfl)); (try simp only [Act.put, List.setIfInBounds_toArray, List.set_cons_zero, List.set_cons_succ]))
      (refine wpAnyH_take (i := 44) (v := ?_) rfl (by kernel_rfl) (by kernel_rfl) (by kernel_rfl) (fun _ _ _ h => h) (Or.inl ⟨by kernel_rfl, ?_⟩) (by assumption) ?_; rotate_left 1; (intro W0 hSw; (try dsimp only at hSw); go_simp; (try with_reducible rfl)); (try simp only [Act.put, List.setIfInBounds_toArray, List.set_cons_zero, List.set_cons_succ]))
      refine wpAnyH_ready (rs := [42]) (by kernel_rfl) (by simp) ?_
      refine AllReadyH.cons rfl (fun K hK => ?_) AllReadyH.nil
      go_simp
      refine (C34.out wk6 _ _ (Br.out.trans (bk6.mono Br.out.size)) (XP.below bk6)).mono ?_
      rintro e wk7 ⟨csu, rfl, hlu, bu⟩
      have bk7 : Below wz.heap.size wz wk7 := bk6.trans (bu.mono (bk6).size)
      obtain ⟨kk, kb, ki, ks, kal, knl, kcl, kam, knm, kcm, rfl⟩ := V.ten hlu
      have HO : Hid (∀ W, Below wk7.heap.size wk7 W → op.lies false W (Old W) [.int .i64 kk, .bool kb, .int .i64 ki, .string ks, .slice kal knl kcl, .slice kam knm kcm]) := fun W hb => V.lies_keep (fun h => h) (fun y hy => hb.block y hy.2) (fun y hy => Nat.lt_of_lt_of_le hy.2 hb.size) _ hlu
      clear hlu
      clear bu
      go_simp
      refine hK.out _ _ bk7 (fun hHeld => ?_)
      clear hK K
      (try simp only [Act.put, List.setIfInBounds_toArray, List.set_cons_zero, List.set_cons_succ])
      refine wpAnyH_ready (rs := [45]) (by kernel_rfl) (by simp) ?_
      refine AllReadyH.cons rfl (fun K hK => ?_) AllReadyH.nil
      go_simp
      refine (C37.out wk7 _ _ (XP.below bk7)).mono ?_
      rintro e wk8 ⟨csu, rfl, hlu, bu⟩
      have bk8 : Below wz.heap.size wz wk8 := bk7.trans (bu.mono (bk7).size)
      obtain ⟨mk, mb, mi, ms, mal, mnl, mcl, mam, mnm, mcm, rfl⟩ := V.ten hlu
      have HO2 : Hid (op.lies false wk8 (Old wk8) [.int .i64 kk, .bool kb, .int .i64 ki, .string ks, .slice kal knl kcl, .slice kam knm kcm] ∧ op.lies false wk8 (Old wk8) [.int .i64 mk, .bool mb, .int .i64 mi, .string ms, .slice mal mnl mcl, .slice mam mnm mcm]) := ⟨HO.out wk8 bu, V.lies_keep (fun h => h) (fun _ _ => rfl) (fun y hy => hy.2) _ hlu⟩
      clear hlu
      clear bu
      go_simp
      refine hK.out _ _ bk8 (fun hHeld => ?_)
      clear hK K
      (try simp only [Act.put, List.setIfInBounds_toArray, List.set_cons_zero, List.set_cons_succ])
      refine wpAnyH_ready (rs := [46]) (by kernel_rfl) (by simp) ?_
      refine AllReadyH.cons rfl (fun K hK => ?_) AllReadyH.nil
      go_simp
      refine (C35.out wk8 op _ _ _ _ HO2.out.1 HO2.out.2 (fun _ h => h) (fun _ h => h)).mono ?_
      rintro e wk9 ⟨rfl, bu⟩
      have bk9 : Below wz.heap.size wz wk9 := bk8.trans (bu.mono (bk8).size)
      clear bu
      go_simp
      refine hK.out _ _ bk9 (fun hHeld => ?_)
      clear hK K
      (try simp only [Act.put, List.setIfInBounds_toArray, List.set_cons_zero, List.set_cons_succ])
      (refine wpAnyH_take (i := 47) (v := ?_) rfl (by kernel_rfl) (by kernel_rfl) (by kernel_rfl) (fun _ _ _ h => h) (Or.inl ⟨by kernel_rfl, ?_⟩) (by assumption) ?_; rotate_left 1; (intro W0 hSw; (try dsimp only at hSw); go_simp; (try with_reducible rfl)); (try simp only [Act.put, List.setIfInBounds_toArray, List.set_cons_zero, List.set_cons_succ]))
      (refine wpAnyH_take (i := 48) (v := ?_) rfl (by kernel_rfl) (by kernel_rfl) (by kernel_rfl) (fun _ _ _ h => h) (Or.inl ⟨by kernel_rfl, ?_⟩) (by assumption) ?_; rotate_left 1; (intro W0 hSw; (try dsimp only at hSw); go_simp; (try with_reducible rfl)); (try simp only [Act.put, List.setIfInBounds_toArray, List.set_cons_zero, List.set_cons_succ]))
      refine wpAnyH_done (by kernel_rfl) ?_ _
      (try dsimp only [Act.put, List.getElem_toArray, List.getElem_cons_succ, List.getElem_cons_zero, List.setIfInBounds_toArray, List.set_cons_zero, List.set_cons_succ])
      have cf := cn.out.trans (bk9.mono cn.out.size)
      clear hHeld
      go_wp2_with fail
      go_roundw
      case rel => exact ⟨n + 1, by omega, by go_num, cf⟩
      case measure => simp [RowKit.intOf]; omega
    · obtain rfl : n = 14 := by omega
      have y1 : ¬ ((14 : Nat) : Int) < 14 := by omega
      go_wp2_with fail
      go_ret
      exact ⟨rfl, Br.out⟩
end Go.Proofs.YtljgofmmihmmfaaDoor
