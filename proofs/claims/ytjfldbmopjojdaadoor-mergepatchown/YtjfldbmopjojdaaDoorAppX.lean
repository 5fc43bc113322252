import Derived.Test.YtjfldbmopjojdaaDoorG28
set_option linter.unusedSimpArgs false
set_option linter.unusedVariables false
namespace Go.Proofs.YtjfldbmopjojdaaDoor
open Go.RowKit Go.Lib
set_option maxHeartbeats 8000000 in
set_option maxRecDepth 100000 in
theorem apply_ap (t p : V) (S : Nat → Prop) (cs ds : List Value) (w : World) (hT : Tb w) (hv : t.lies false w S cs) (hx : p.lies false w S ds) (hS : ∀ b, S b → b < w.heap.size) (hwt : t.wt ≤ 2147483648) (hwp : p.wt ≤ 2147483648) :
 Calls Tryd.prog 11 #[.agg cs.toArray, .agg ds.toArray] w (NaPost (aplF t p) w) := by
 obtain ⟨tk, tb, ti, ts, tal, tnl, tcl, tam, tnm, tcm, rfl⟩ := V.ten hv
 obtain ⟨pk, pb, pi, ps, pal, pnl, pcl, pam, pnm, pcm, rfl⟩ := V.ten hx
 have HL : Hid (∀ W, Below w.heap.size w W → t.lies false W S [.int .i64 tk, .bool tb, .int .i64 ti, .string ts, .slice tal tnl tcl, .slice tam tnm tcm] ∧ p.lies false W S [.int .i64 pk, .bool pb, .int .i64 pi, .string ps, .slice pal pnl pcl, .slice pam pnm pcm] ∧ (∀ b, S b → b < W.heap.size)) := fun W hB => ⟨V.lies_keep (fun h => h) (fun x hx => hB.block x (hS x hx)) (fun x hx => hx) _ hv, V.lies_keep (fun h => h) (fun x hx => hB.block x (hS x hx)) (fun x hx => hx) _ hx, fun x hx => Nat.lt_of_lt_of_le (hS x hx) hB.size⟩
 have HT : Hid (∀ W, Below w.heap.size w W → Tb W) := fun W hb => hT.below hb hT.z
 have Bww3 : Below w.heap.size w (((w.alloc (.cells #[.int .i64 tk, .bool tb, .int .i64 ti, .string ts, .slice tal tnl tcl, .slice tam tnm tcm] 25)).alloc (.cells #[.int .i64 pk, .bool pb, .int .i64 pi, .string ps, .slice pal pnl pcl, .slice pam pnm pcm] 25)).alloc (.cells #[.int .i64 0, .bool false, .int .i64 0, .string ⟨#[]⟩, .slice none 0 0, .slice none 0 0] 25)) := three_below w _ _ _
 have hz3 : (((w.alloc (.cells #[.int .i64 tk, .bool tb, .int .i64 ti, .string ts, .slice tal tnl tcl, .slice tam tnm tcm] 25)).alloc (.cells #[.int .i64 pk, .bool pb, .int .i64 pi, .string ps, .slice pal pnl pcl, .slice pam pnm pcm] 25)).alloc (.cells #[.int .i64 0, .bool false, .int .i64 0, .string ⟨#[]⟩, .slice none 0 0, .slice none 0 0] 25)).heap.size = w.heap.size + 3 := by rw [alloc_size, alloc_size, alloc_size]
 obtain ⟨htw3, hpw3, hzw3⟩ := three_allocs w (.cells #[.int .i64 tk, .bool tb, .int .i64 ti, .string ts, .slice tal tnl tcl, .slice tam tnm tcm] 25) (.cells #[.int .i64 pk, .bool pb, .int .i64 pi, .string ps, .slice pal pnl pcl, .slice pam pnm pcm] 25) (.cells #[.int .i64 0, .bool false, .int .i64 0, .string ⟨#[]⟩, .slice none 0 0, .slice none 0 0] 25)
 have C1 : Hid (∀ W, Below w.heap.size w W → Calls Tryd.prog 32 #[.agg #[.int .i64 tk, .bool tb, .int .i64 ti, .string ts, .slice tal tnl tcl, .slice tam tnm tcm], .agg #[.int .i64 pk, .bool pb, .int .i64 pi, .string ps, .slice pal pnl pcl, .slice pam pnm pcm]] W (NPost (bothE t p) W)) := fun W hb => both_any t p S _ _ W (HT.out W hb) (HL.out W hb).1 (HL.out W hb).2.1 (HL.out W hb).2.2 hwt hwp
 clear hv hx
 by_cases h1 : bothE t p = 0
 rotate_left
 ·have HF : Hid (aplF t p = (nullV, (bothE t p : Int))) := apl_both h1
  generalize bothE t p = c1 at *
  have y1 : ¬ (c1 : Int) = 0 := by omega
  have yb1 : ((c1 : Int) != 0) = true := by simp; omega
  obtain ⟨ck0, ck1, ck2, ck3, ck4, ck5⟩ := sixC htw3
  obtain ⟨cl0, cl1, cl2, cl3, cl4, cl5⟩ := sixC hpw3
  go_enter Tryd.func11, Tryd.ntmps11
  go_wp2_with fail
  clear ck0 ck1 ck2 ck3 ck4 ck5 cl0 cl1 cl2 cl3 cl4 cl5
  generalize (((w.alloc (.cells #[.int .i64 tk, .bool tb, .int .i64 ti, .string ts, .slice tal tnl tcl, .slice tam tnm tcm] 25)).alloc (.cells #[.int .i64 pk, .bool pb, .int .i64 pi, .string ps, .slice pal pnl pcl, .slice pam pnm pcm] 25)).alloc (.cells #[.int .i64 0, .bool false, .int .i64 0, .string ⟨#[]⟩, .slice none 0 0, .slice none 0 0] 25)) = w3 at *
  refine (C1.out w3 Bww3).mono ?_
  rintro e w4 ⟨rfl, b4⟩
  have hzw4 := b4.size
  have htw4 := (b4.block (w.heap.size) (by omega)).trans htw3
  have hpw4 := (b4.block (w.heap.size + 1) (by omega)).trans hpw3
  have hzw4 := (b4.block (w.heap.size + 2) (by omega)).trans hzw3
  have Bww4 := Bww3.trans (b4.mono (by omega))
  have HE := hmk (ap_fin (M := w.heap.size + 2) (lo := w.heap.size + 3) (by omega) (by omega) Bww4 (null_ap _ (by have := b4.size; omega)))
  obtain ⟨cz0, cz1, cz2, cz3, cz4, cz5⟩ := sixC hzw4
  have fz := frozen_of_block hzw4
  go_wp2_with fail
  (try simp only [Exit.inBlock, Exit.then])
  refine bodyPost_ret (v := .tuple #[.agg #[.int .i64 0, .bool false, .int .i64 0, .string ⟨#[]⟩, .slice none 0 0, .slice none 0 0], .int .i64 (c1 : Int)]) ?_ rfl ?_
  rotate_left
  ·rw [HF.out]
   exact ⟨[.int .i64 0, .bool false, .int .i64 0, .string ⟨#[]⟩, .slice none 0 0, .slice none 0 0], rfl, HE.out.1, HE.out.2⟩
  ·rw [results_cell_tmp rfl]
   go_simp
 obtain ⟨k1, k2⟩ := both_two h1
 have ot : Ok t := ok_chk (D := 32) (by omega) k1
 have op : Ok p := ok_chk (D := 32) (by omega) k2
 have hpw := pch_wt2 ot op
 have HF : Hid (aplF t p = finF (pchV t p)) := apl_fin h1
 rw [h1] at C1
 clear h1 k1 k2
 obtain ⟨ck0, ck1, ck2, ck3, ck4, ck5⟩ := sixC htw3
 obtain ⟨cl0, cl1, cl2, cl3, cl4, cl5⟩ := sixC hpw3
 go_enter Tryd.func11, Tryd.ntmps11
 go_wp2_with fail
 clear ck0 ck1 ck2 ck3 ck4 ck5 cl0 cl1 cl2 cl3 cl4 cl5
 generalize (((w.alloc (.cells #[.int .i64 tk, .bool tb, .int .i64 ti, .string ts, .slice tal tnl tcl, .slice tam tnm tcm] 25)).alloc (.cells #[.int .i64 pk, .bool pb, .int .i64 pi, .string ps, .slice pal pnl pcl, .slice pam pnm pcm] 25)).alloc (.cells #[.int .i64 0, .bool false, .int .i64 0, .string ⟨#[]⟩, .slice none 0 0, .slice none 0 0] 25)) = w3 at *
 refine (C1.out w3 Bww3).mono ?_
 rintro e w4 ⟨rfl, b4⟩
 have hzw4 := b4.size
 have htw4 := (b4.block (w.heap.size) (by omega)).trans htw3
 have hpw4 := (b4.block (w.heap.size + 1) (by omega)).trans hpw3
 have hzw4 := (b4.block (w.heap.size + 2) (by omega)).trans hzw3
 have Bww4 := Bww3.trans (b4.mono (by omega))
 obtain ⟨ct0, ct1, ct2, ct3, ct4, ct5⟩ := sixC htw4
 obtain ⟨cp0, cp1, cp2, cp3, cp4, cp5⟩ := sixC hpw4
 go_wp2_with fail
 clear ct0 ct1 ct2 ct3 ct4 ct5 cp0 cp1 cp2 cp3 cp4 cp5
 refine (patched_any p t S _ _ w4 ot op (HL.out w4 Bww4).1 (HL.out w4 Bww4).2.1 (HL.out w4 Bww4).2.2).mono ?_
 rintro e w5 ⟨csr, rfl, hlr, b5⟩
 obtain ⟨rk, rb, ri, rs, ral, rnl, rcl, ram, rnm, rcm, rfl⟩ := V.ten hlr
 have hS4 := (HL.out w4 Bww4).2.2
 have hzw5 := b5.size
 have htw5 := (b5.block (w.heap.size) (by omega)).trans htw4
 have hpw5 := (b5.block (w.heap.size + 1) (by omega)).trans hpw4
 have hzw5 := (b5.block (w.heap.size + 2) (by omega)).trans hzw4
 have Bww5 := Bww4.trans (b5.mono (by omega))
 have CF := finished_ap (pchV t p) _ _ w5 (HT.out w5 Bww5) hlr (fun y hy => by rcases hy with h | h <;> first | exact h.2 | (have := hS4 y h; omega)) (by omega)
 obtain ⟨⟨fv, fe⟩, hF⟩ : ∃ q, finF (pchV t p) = q := ⟨_, rfl⟩
 rw [hF] at CF
 rw [hF] at HF
 clear hlr hF
 go_wp2_with fail
 refine CF.mono ?_
 rintro e w6 ⟨csn, rfl, hln, b6⟩
 clear CF
 simp only at hln
 obtain ⟨nk, nb, ni, ns, nal, nnl, ncl, nam, nnm, ncm, rfl⟩ := V.ten (V.ap_lies _ hln)
 have hzw6 := b6.size
 have htw6 := (b6.block (w.heap.size) (by omega)).trans htw5
 have hpw6 := (b6.block (w.heap.size + 1) (by omega)).trans hpw5
 have hzw6 := (b6.block (w.heap.size + 2) (by omega)).trans hzw5
 have Bww6 := Bww5.trans (b6.mono (by omega))
 have HE := hmk (ap_fin (M := w.heap.size + 2) (lo := w.heap.size + 3) (by omega) (by omega) Bww6 (V.ap_wide hln (by have := b5.size; have := b4.size; omega) (Nat.le_refl _)))
 obtain ⟨cz0, cz1, cz2, cz3, cz4, cz5⟩ := sixC hzw6
 have fz := frozen_of_block hzw6
 go_wp2_with fail
 (try simp only [Exit.inBlock, Exit.then])
 refine bodyPost_ret (v := .tuple #[.agg #[.int .i64 nk, .bool nb, .int .i64 ni, .string ns, .slice nal nnl ncl, .slice nam nnm ncm], .int .i64 fe]) ?_ rfl ?_
 rotate_left
 ·rw [HF.out]
  exact ⟨[.int .i64 nk, .bool nb, .int .i64 ni, .string ns, .slice nal nnl ncl, .slice nam nnm ncm], rfl, HE.out.1, HE.out.2⟩
 ·rw [results_cell_tmp rfl]
  go_simp
set_option maxHeartbeats 8000000 in
set_option maxRecDepth 100000 in
theorem clean_ap (v : V) (S : Nat → Prop) (cs : List Value) (w : World) (tb : Tb w) (hv : v.lies false w S cs) (hS : ∀ b, S b → b < w.heap.size) (hwt : v.wt ≤ 2147483648) :
 Calls Tryd.prog 17 #[.agg cs.toArray] w (NaPost (clnF v) w) := by
 obtain ⟨vk, vb, vi, vs, val, vnl, vcl, vam, vnm, vcm, rfl⟩ := V.ten hv
 have HL : Hid (∀ W, Below w.heap.size w W → v.lies false W S [.int .i64 vk, .bool vb, .int .i64 vi, .string vs, .slice val vnl vcl, .slice vam vnm vcm] ∧ (∀ b, S b → b < W.heap.size)) := fun W hB => ⟨V.lies_keep (fun h => h) (fun x hx => hB.block x (hS x hx)) (fun x hx => hx) _ hv, fun x hx => Nat.lt_of_lt_of_le (hS x hx) hB.size⟩
 have HT : Hid (∀ W, Below w.heap.size w W → Tb W) := fun W hb => tb.below hb tb.z
 have Bww2 : Below w.heap.size w ((w.alloc (.cells #[.int .i64 vk, .bool vb, .int .i64 vi, .string vs, .slice val vnl vcl, .slice vam vnm vcm] 25)).alloc (.cells #[.int .i64 0, .bool false, .int .i64 0, .string ⟨#[]⟩, .slice none 0 0, .slice none 0 0] 25)) := two_below w _ _
 have hz2 : ((w.alloc (.cells #[.int .i64 vk, .bool vb, .int .i64 vi, .string vs, .slice val vnl vcl, .slice vam vnm vcm] 25)).alloc (.cells #[.int .i64 0, .bool false, .int .i64 0, .string ⟨#[]⟩, .slice none 0 0, .slice none 0 0] 25)).heap.size = w.heap.size + 2 := by rw [alloc_size, alloc_size]
 have hvw2 := alloc2_keep1 w (.cells #[.int .i64 vk, .bool vb, .int .i64 vi, .string vs, .slice val vnl vcl, .slice vam vnm vcm] 25) (.cells #[.int .i64 0, .bool false, .int .i64 0, .string ⟨#[]⟩, .slice none 0 0, .slice none 0 0] 25)
 have hzw2 := alloc2_new w (.cells #[.int .i64 vk, .bool vb, .int .i64 vi, .string vs, .slice val vnl vcl, .slice vam vnm vcm] 25) (.cells #[.int .i64 0, .bool false, .int .i64 0, .string ⟨#[]⟩, .slice none 0 0, .slice none 0 0] 25)
 have C1 : Hid (∀ W, Below w.heap.size w W → Calls Tryd.prog 38 #[.agg #[.int .i64 vk, .bool vb, .int .i64 vi, .string vs, .slice val vnl vcl, .slice vam vnm vcm], .int .i64 32] W (NPost (chkE v 32) W)) := fun W hb => check_any false v 32 S _ W (HT.out W hb) (HL.out W hb).1 (HL.out W hb).2 (by omega)
 clear hv
 by_cases h1 : chkE v 32 = 0
 rotate_left
 ·have HF : Hid (clnF v = (nullV, (chkE v 32 : Int))) := by show _ = _; rw [clnF, if_neg h1]
  generalize chkE v 32 = c1 at *
  have y1 : ¬ (c1 : Int) = 0 := by omega
  have yb1 : ((c1 : Int) != 0) = true := by simp; omega
  obtain ⟨ck0, ck1, ck2, ck3, ck4, ck5⟩ := sixC hvw2
  go_enter Tryd.func17, Tryd.ntmps17
  go_wp2_with fail
  clear ck0 ck1 ck2 ck3 ck4 ck5
  generalize ((w.alloc (.cells #[.int .i64 vk, .bool vb, .int .i64 vi, .string vs, .slice val vnl vcl, .slice vam vnm vcm] 25)).alloc (.cells #[.int .i64 0, .bool false, .int .i64 0, .string ⟨#[]⟩, .slice none 0 0, .slice none 0 0] 25)) = w2 at *
  refine (C1.out w2 Bww2).mono ?_
  rintro e w3 ⟨rfl, b3⟩
  have hzw3 := b3.size
  have hvw3 := (b3.block (w.heap.size) (by omega)).trans hvw2
  have hzw3 := (b3.block (w.heap.size + 1) (by omega)).trans hzw2
  have Bww3 := Bww2.trans (b3.mono (by omega))
  have HE := hmk (ap_fin (M := w.heap.size + 1) (lo := w.heap.size + 2) (by omega) (by omega) Bww3 (null_ap _ (by have := b3.size; omega)))
  obtain ⟨cz0, cz1, cz2, cz3, cz4, cz5⟩ := sixC hzw3
  have fz := frozen_of_block hzw3
  go_wp2_with fail
  (try simp only [Exit.inBlock, Exit.then])
  refine bodyPost_ret (v := .tuple #[.agg #[.int .i64 0, .bool false, .int .i64 0, .string ⟨#[]⟩, .slice none 0 0, .slice none 0 0], .int .i64 (c1 : Int)]) ?_ rfl ?_
  rotate_left
  ·rw [HF.out]
   exact ⟨[.int .i64 0, .bool false, .int .i64 0, .string ⟨#[]⟩, .slice none 0 0, .slice none 0 0], rfl, HE.out.1, HE.out.2⟩
  ·rw [results_cell_tmp rfl]
   go_simp
 have HF : Hid (clnF v = finF (pchV nullV v)) := cln_fin h1
 have ov : Ok v := ok_chk (D := 32) (by omega) h1
 have hpw := pch_wt2 null_ok ov
 rw [h1] at C1
 clear h1
 obtain ⟨ck0, ck1, ck2, ck3, ck4, ck5⟩ := sixC hvw2
 go_enter Tryd.func17, Tryd.ntmps17
 go_wp2_with fail
 clear ck0 ck1 ck2 ck3 ck4 ck5
 generalize ((w.alloc (.cells #[.int .i64 vk, .bool vb, .int .i64 vi, .string vs, .slice val vnl vcl, .slice vam vnm vcm] 25)).alloc (.cells #[.int .i64 0, .bool false, .int .i64 0, .string ⟨#[]⟩, .slice none 0 0, .slice none 0 0] 25)) = w2 at *
 refine (C1.out w2 Bww2).mono ?_
 rintro e w3 ⟨rfl, b3⟩
 have hzw3 := b3.size
 have hvw3 := (b3.block (w.heap.size) (by omega)).trans hvw2
 have hzw3 := (b3.block (w.heap.size + 1) (by omega)).trans hzw2
 have Bww3 := Bww2.trans (b3.mono (by omega))
 obtain ⟨cv0, cv1, cv2, cv3, cv4, cv5⟩ := sixC hvw3
 go_wp2_with fail
 clear cv0 cv1 cv2 cv3 cv4 cv5
 refine (patched_any v nullV S [.int .i64 0, .bool false, .int .i64 0, .string ⟨#[]⟩, .slice none 0 0, .slice none 0 0] _ w3 null_ok ov (null_lies _ _) (HL.out w3 Bww3).1 (HL.out w3 Bww3).2).mono ?_
 rintro e w4 ⟨csr, rfl, hlr, b4⟩
 obtain ⟨rk, rb, ri, rs, ral, rnl, rcl, ram, rnm, rcm, rfl⟩ := V.ten hlr
 have hS4 := (HL.out w3 Bww3).2
 have hzw4 := b4.size
 have hvw4 := (b4.block (w.heap.size) (by omega)).trans hvw3
 have hzw4 := (b4.block (w.heap.size + 1) (by omega)).trans hzw3
 have Bww4 := Bww3.trans (b4.mono (by omega))
 have CF := finished_ap (pchV nullV v) _ _ w4 (HT.out w4 Bww4) hlr (fun y hy => by rcases hy with h | h <;> first | exact h.2 | (have := hS4 y h; omega)) (by omega)
 obtain ⟨⟨fv, fe⟩, hF⟩ : ∃ q, finF (pchV nullV v) = q := ⟨_, rfl⟩
 rw [hF] at CF
 rw [hF] at HF
 clear hlr hF
 go_wp2_with fail
 refine CF.mono ?_
 rintro e w5 ⟨csn, rfl, hln, b5⟩
 clear CF
 simp only at hln
 obtain ⟨nk, nb, ni, ns, nal, nnl, ncl, nam, nnm, ncm, rfl⟩ := V.ten (V.ap_lies _ hln)
 have hzw5 := b5.size
 have hvw5 := (b5.block (w.heap.size) (by omega)).trans hvw4
 have hzw5 := (b5.block (w.heap.size + 1) (by omega)).trans hzw4
 have Bww5 := Bww4.trans (b5.mono (by omega))
 have HE := hmk (ap_fin (M := w.heap.size + 1) (lo := w.heap.size + 2) (by omega) (by omega) Bww5 (V.ap_wide hln (by have := b4.size; have := b3.size; omega) (Nat.le_refl _)))
 obtain ⟨cz0, cz1, cz2, cz3, cz4, cz5⟩ := sixC hzw5
 have fz := frozen_of_block hzw5
 go_wp2_with fail
 (try simp only [Exit.inBlock, Exit.then])
 refine bodyPost_ret (v := .tuple #[.agg #[.int .i64 nk, .bool nb, .int .i64 ni, .string ns, .slice nal nnl ncl, .slice nam nnm ncm], .int .i64 fe]) ?_ rfl ?_
 rotate_left
 ·rw [HF.out]
  exact ⟨[.int .i64 nk, .bool nb, .int .i64 ni, .string ns, .slice nal nnl ncl, .slice nam nnm ncm], rfl, HE.out.1, HE.out.2⟩
 ·rw [results_cell_tmp rfl]
  go_simp
theorem apply_any (t p : V) (S : Nat → Prop) (cs ds : List Value) (w : World) (hT : Tb w) (hv : t.lies false w S cs) (hx : p.lies false w S ds) (hS : ∀ b, S b → b < w.heap.size) (hwt : t.wt ≤ 2147483648) (hwp : p.wt ≤ 2147483648) :
 Calls Tryd.prog 11 #[.agg cs.toArray, .agg ds.toArray] w (NwPost (aplF t p) w) :=
 (apply_ap t p S cs ds w hT hv hx hS hwt hwp).mono fun e w' ⟨c, he, ha, hb⟩ => ⟨c, he, V.ap_lies _ ha, hb⟩
end Go.Proofs.YtjfldbmopjojdaaDoor
