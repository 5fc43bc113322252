/- joined: RcnX AplX -/
import Derived.Test.YtjfldbmopjojdabDoorG24
set_option linter.unusedSimpArgs false
set_option linter.unusedVariables false
namespace Go.Proofs.YtjfldbmopjojdabDoor
open Go.RowKit Go.Lib
def finF (v : V) : V × Int := if chkE v 32 = 0 then (v, 0) else (nullV, (chkE v 32 : Int))
set_option maxHeartbeats 8000000 in
set_option maxRecDepth 100000 in
theorem finished_any (v : V) (S : Nat → Prop) (cs : List Value) (w : World) (tb : Tb w) (hv : v.lies false w S cs) (hS : ∀ b, S b → b < w.heap.size) (hwt : v.wt ≤ 2147483648) :
 Calls Tryd.prog 15 #[.agg cs.toArray] w (NwPost (finF v) w) := by
 obtain ⟨vk, vb, vi, vs, val, vnl, vcl, vam, vnm, vcm, rfl⟩ := V.ten hv
 have HL : Hid (∀ W, Below w.heap.size w W → v.lies false W S [.int .i64 vk, .bool vb, .int .i64 vi, .string vs, .slice val vnl vcl, .slice vam vnm vcm] ∧ (∀ b, S b → b < W.heap.size)) := fun W hB => ⟨V.lies_keep (fun h => h) (fun x hx => hB.block x (hS x hx)) (fun x hx => hx) _ hv, fun x hx => Nat.lt_of_lt_of_le (hS x hx) hB.size⟩
 have HT : Hid (∀ W, Below w.heap.size w W → Tb W) := fun W hb => tb.below hb tb.z
 have Bww2 : Below w.heap.size w ((w.alloc (.cells #[.int .i64 vk, .bool vb, .int .i64 vi, .string vs, .slice val vnl vcl, .slice vam vnm vcm] 25)).alloc (.cells #[.int .i64 0, .bool false, .int .i64 0, .string ⟨#[]⟩, .slice none 0 0, .slice none 0 0] 25)) := two_below w _ _
 have hz2 : ((w.alloc (.cells #[.int .i64 vk, .bool vb, .int .i64 vi, .string vs, .slice val vnl vcl, .slice vam vnm vcm] 25)).alloc (.cells #[.int .i64 0, .bool false, .int .i64 0, .string ⟨#[]⟩, .slice none 0 0, .slice none 0 0] 25)).heap.size = w.heap.size + 2 := by rw [alloc_size, alloc_size]
 have hvw2 := alloc2_keep1 w (.cells #[.int .i64 vk, .bool vb, .int .i64 vi, .string vs, .slice val vnl vcl, .slice vam vnm vcm] 25) (.cells #[.int .i64 0, .bool false, .int .i64 0, .string ⟨#[]⟩, .slice none 0 0, .slice none 0 0] 25)
 have hzw2 := alloc2_new w (.cells #[.int .i64 vk, .bool vb, .int .i64 vi, .string vs, .slice val vnl vcl, .slice vam vnm vcm] 25) (.cells #[.int .i64 0, .bool false, .int .i64 0, .string ⟨#[]⟩, .slice none 0 0, .slice none 0 0] 25)
 have C1 : Hid (∀ W, Below w.heap.size w W → Calls Tryd.prog 22 #[.agg #[.int .i64 vk, .bool vb, .int .i64 vi, .string vs, .slice val vnl vcl, .slice vam vnm vcm], .int .i64 32] W (NPost (chkE v 32) W)) := fun W hb => check_any false v 32 S _ W (HT.out W hb) (HL.out W hb).1 (HL.out W hb).2 (by omega)
 clear hv
 by_cases h1 : chkE v 32 = 0
 rotate_left
 ·have HF : Hid (finF v = (nullV, (chkE v 32 : Int))) := by show _ = _; rw [finF, if_neg h1]
  generalize chkE v 32 = c1 at *
  have y1 : ¬ (c1 : Int) = 0 := by omega
  have yb1 : ((c1 : Int) != 0) = true := by simp; omega
  have ck0 : ((w.alloc (.cells #[.int .i64 vk, .bool vb, .int .i64 vi, .string vs, .slice val vnl vcl, .slice vam vnm vcm] 25)).alloc (.cells #[.int .i64 0, .bool false, .int .i64 0, .string ⟨#[]⟩, .slice none 0 0, .slice none 0 0] 25)).cell? ⟨w.heap.size, 0, none⟩ = some (.int .i64 vk) := by rw [cell_of_block hvw2]; rfl
  have ck1 : ((w.alloc (.cells #[.int .i64 vk, .bool vb, .int .i64 vi, .string vs, .slice val vnl vcl, .slice vam vnm vcm] 25)).alloc (.cells #[.int .i64 0, .bool false, .int .i64 0, .string ⟨#[]⟩, .slice none 0 0, .slice none 0 0] 25)).cell? ⟨w.heap.size, 1, none⟩ = some (.bool vb) := by rw [cell_of_block hvw2]; rfl
  have ck2 : ((w.alloc (.cells #[.int .i64 vk, .bool vb, .int .i64 vi, .string vs, .slice val vnl vcl, .slice vam vnm vcm] 25)).alloc (.cells #[.int .i64 0, .bool false, .int .i64 0, .string ⟨#[]⟩, .slice none 0 0, .slice none 0 0] 25)).cell? ⟨w.heap.size, 2, none⟩ = some (.int .i64 vi) := by rw [cell_of_block hvw2]; rfl
  have ck3 : ((w.alloc (.cells #[.int .i64 vk, .bool vb, .int .i64 vi, .string vs, .slice val vnl vcl, .slice vam vnm vcm] 25)).alloc (.cells #[.int .i64 0, .bool false, .int .i64 0, .string ⟨#[]⟩, .slice none 0 0, .slice none 0 0] 25)).cell? ⟨w.heap.size, 3, none⟩ = some (.string vs) := by rw [cell_of_block hvw2]; rfl
  have ck4 : ((w.alloc (.cells #[.int .i64 vk, .bool vb, .int .i64 vi, .string vs, .slice val vnl vcl, .slice vam vnm vcm] 25)).alloc (.cells #[.int .i64 0, .bool false, .int .i64 0, .string ⟨#[]⟩, .slice none 0 0, .slice none 0 0] 25)).cell? ⟨w.heap.size, 4, none⟩ = some (.slice val vnl vcl) := by rw [cell_of_block hvw2]; rfl
  have ck5 : ((w.alloc (.cells #[.int .i64 vk, .bool vb, .int .i64 vi, .string vs, .slice val vnl vcl, .slice vam vnm vcm] 25)).alloc (.cells #[.int .i64 0, .bool false, .int .i64 0, .string ⟨#[]⟩, .slice none 0 0, .slice none 0 0] 25)).cell? ⟨w.heap.size, 5, none⟩ = some (.slice vam vnm vcm) := by rw [cell_of_block hvw2]; rfl
  go_enter Tryd.func15, Tryd.ntmps15
  go_wp2_with fail
  clear ck0 ck1 ck2 ck3 ck4 ck5
  generalize ((w.alloc (.cells #[.int .i64 vk, .bool vb, .int .i64 vi, .string vs, .slice val vnl vcl, .slice vam vnm vcm] 25)).alloc (.cells #[.int .i64 0, .bool false, .int .i64 0, .string ⟨#[]⟩, .slice none 0 0, .slice none 0 0] 25)) = w2 at *
  refine (C1.out w2 Bww2).mono ?_
  rintro e w3 ⟨rfl, b3⟩
  have hzw3 := b3.size
  have hvw3 := (b3.block (w.heap.size) (by omega)).trans hvw2
  have hzw3 := (b3.block (w.heap.size + 1) (by omega)).trans hzw2
  have Bww3 := Bww2.trans (b3.mono (by omega))
  have HE := hmk (wn_fin (M := w.heap.size + 1) (by omega) Bww3 (null_lies _ _))
  have cz0 : w3.cell? ⟨w.heap.size + 1, 0, none⟩ = some (.int .i64 0) := by rw [cell_of_block hzw3]; rfl
  have cz1 : w3.cell? ⟨w.heap.size + 1, 1, none⟩ = some (.bool false) := by rw [cell_of_block hzw3]; rfl
  have cz2 : w3.cell? ⟨w.heap.size + 1, 2, none⟩ = some (.int .i64 0) := by rw [cell_of_block hzw3]; rfl
  have cz3 : w3.cell? ⟨w.heap.size + 1, 3, none⟩ = some (.string ⟨#[]⟩) := by rw [cell_of_block hzw3]; rfl
  have cz4 : w3.cell? ⟨w.heap.size + 1, 4, none⟩ = some (.slice none 0 0) := by rw [cell_of_block hzw3]; rfl
  have cz5 : w3.cell? ⟨w.heap.size + 1, 5, none⟩ = some (.slice none 0 0) := by rw [cell_of_block hzw3]; rfl
  have fz := frozen_of_block hzw3
  go_wp2_with fail
  (try simp only [Exit.inBlock, Exit.then])
  refine bodyPost_ret (v := .tuple #[.agg #[.int .i64 0, .bool false, .int .i64 0, .string ⟨#[]⟩, .slice none 0 0, .slice none 0 0], .int .i64 (c1 : Int)]) ?_ rfl ?_
  rotate_left
  ·rw [HF.out]
   exact ⟨[.int .i64 0, .bool false, .int .i64 0, .string ⟨#[]⟩, .slice none 0 0, .slice none 0 0], rfl, HE.out.1, HE.out.2⟩
  ·rw [results_cell_tmp rfl]
   go_simp
 have HF : Hid (finF v = (v, 0)) := by show _ = _; rw [finF, if_pos h1]
 have hcl := (ok_chk (D := 32) (by omega) h1).cln
 rw [h1] at C1
 clear h1
 have ck0 : ((w.alloc (.cells #[.int .i64 vk, .bool vb, .int .i64 vi, .string vs, .slice val vnl vcl, .slice vam vnm vcm] 25)).alloc (.cells #[.int .i64 0, .bool false, .int .i64 0, .string ⟨#[]⟩, .slice none 0 0, .slice none 0 0] 25)).cell? ⟨w.heap.size, 0, none⟩ = some (.int .i64 vk) := by rw [cell_of_block hvw2]; rfl
 have ck1 : ((w.alloc (.cells #[.int .i64 vk, .bool vb, .int .i64 vi, .string vs, .slice val vnl vcl, .slice vam vnm vcm] 25)).alloc (.cells #[.int .i64 0, .bool false, .int .i64 0, .string ⟨#[]⟩, .slice none 0 0, .slice none 0 0] 25)).cell? ⟨w.heap.size, 1, none⟩ = some (.bool vb) := by rw [cell_of_block hvw2]; rfl
 have ck2 : ((w.alloc (.cells #[.int .i64 vk, .bool vb, .int .i64 vi, .string vs, .slice val vnl vcl, .slice vam vnm vcm] 25)).alloc (.cells #[.int .i64 0, .bool false, .int .i64 0, .string ⟨#[]⟩, .slice none 0 0, .slice none 0 0] 25)).cell? ⟨w.heap.size, 2, none⟩ = some (.int .i64 vi) := by rw [cell_of_block hvw2]; rfl
 have ck3 : ((w.alloc (.cells #[.int .i64 vk, .bool vb, .int .i64 vi, .string vs, .slice val vnl vcl, .slice vam vnm vcm] 25)).alloc (.cells #[.int .i64 0, .bool false, .int .i64 0, .string ⟨#[]⟩, .slice none 0 0, .slice none 0 0] 25)).cell? ⟨w.heap.size, 3, none⟩ = some (.string vs) := by rw [cell_of_block hvw2]; rfl
 have ck4 : ((w.alloc (.cells #[.int .i64 vk, .bool vb, .int .i64 vi, .string vs, .slice val vnl vcl, .slice vam vnm vcm] 25)).alloc (.cells #[.int .i64 0, .bool false, .int .i64 0, .string ⟨#[]⟩, .slice none 0 0, .slice none 0 0] 25)).cell? ⟨w.heap.size, 4, none⟩ = some (.slice val vnl vcl) := by rw [cell_of_block hvw2]; rfl
 have ck5 : ((w.alloc (.cells #[.int .i64 vk, .bool vb, .int .i64 vi, .string vs, .slice val vnl vcl, .slice vam vnm vcm] 25)).alloc (.cells #[.int .i64 0, .bool false, .int .i64 0, .string ⟨#[]⟩, .slice none 0 0, .slice none 0 0] 25)).cell? ⟨w.heap.size, 5, none⟩ = some (.slice vam vnm vcm) := by rw [cell_of_block hvw2]; rfl
 go_enter Tryd.func15, Tryd.ntmps15
 go_wp2_with fail
 clear ck0 ck1 ck2 ck3 ck4 ck5
 generalize ((w.alloc (.cells #[.int .i64 vk, .bool vb, .int .i64 vi, .string vs, .slice val vnl vcl, .slice vam vnm vcm] 25)).alloc (.cells #[.int .i64 0, .bool false, .int .i64 0, .string ⟨#[]⟩, .slice none 0 0, .slice none 0 0] 25)) = w2 at *
 refine (C1.out w2 Bww2).mono ?_
 rintro e w3 ⟨rfl, b3⟩
 have hzw3 := b3.size
 have hvw3 := (b3.block (w.heap.size) (by omega)).trans hvw2
 have hzw3 := (b3.block (w.heap.size + 1) (by omega)).trans hzw2
 have Bww3 := Bww2.trans (b3.mono (by omega))
 have cv0 : w3.cell? ⟨w.heap.size, 0, none⟩ = some (.int .i64 vk) := by rw [cell_of_block hvw3]; rfl
 have cv1 : w3.cell? ⟨w.heap.size, 1, none⟩ = some (.bool vb) := by rw [cell_of_block hvw3]; rfl
 have cv2 : w3.cell? ⟨w.heap.size, 2, none⟩ = some (.int .i64 vi) := by rw [cell_of_block hvw3]; rfl
 have cv3 : w3.cell? ⟨w.heap.size, 3, none⟩ = some (.string vs) := by rw [cell_of_block hvw3]; rfl
 have cv4 : w3.cell? ⟨w.heap.size, 4, none⟩ = some (.slice val vnl vcl) := by rw [cell_of_block hvw3]; rfl
 have cv5 : w3.cell? ⟨w.heap.size, 5, none⟩ = some (.slice vam vnm vcm) := by rw [cell_of_block hvw3]; rfl
 go_wp2_with fail
 clear cv0 cv1 cv2 cv3 cv4 cv5
 have CC := clone_any v false S _ w3 (HT.out w3 Bww3) (HL.out w3 Bww3).1 (HL.out w3 Bww3).2 (by omega)
 rw [hcl] at CC
 refine CC.mono ?_
 rintro e w4 ⟨csn, rfl, hln, b4⟩
 clear CC
 obtain ⟨nk, nb, ni, ns, nal, nnl, ncl, nam, nnm, ncm, rfl⟩ := V.ten hln
 have hzw4 := b4.size
 have hvw4 := (b4.block (w.heap.size) (by omega)).trans hvw3
 have hzw4 := (b4.block (w.heap.size + 1) (by omega)).trans hzw3
 have Bww4 := Bww3.trans (b4.mono (by omega))
 have HE := hmk (wn_fin (M := w.heap.size + 1) (by omega) Bww4 (V.lies_keep (fun h => h) (fun _ _ => rfl) (fun y hy => ⟨by have := hy.1; omega, by have := hy.1; omega, hy.2⟩) _ hln))
 have cz0 : w4.cell? ⟨w.heap.size + 1, 0, none⟩ = some (.int .i64 0) := by rw [cell_of_block hzw4]; rfl
 have cz1 : w4.cell? ⟨w.heap.size + 1, 1, none⟩ = some (.bool false) := by rw [cell_of_block hzw4]; rfl
 have cz2 : w4.cell? ⟨w.heap.size + 1, 2, none⟩ = some (.int .i64 0) := by rw [cell_of_block hzw4]; rfl
 have cz3 : w4.cell? ⟨w.heap.size + 1, 3, none⟩ = some (.string ⟨#[]⟩) := by rw [cell_of_block hzw4]; rfl
 have cz4 : w4.cell? ⟨w.heap.size + 1, 4, none⟩ = some (.slice none 0 0) := by rw [cell_of_block hzw4]; rfl
 have cz5 : w4.cell? ⟨w.heap.size + 1, 5, none⟩ = some (.slice none 0 0) := by rw [cell_of_block hzw4]; rfl
 have fz := frozen_of_block hzw4
 go_wp2_with fail
 (try simp only [Exit.inBlock, Exit.then])
 refine bodyPost_ret (v := .tuple #[.agg #[.int .i64 nk, .bool nb, .int .i64 ni, .string ns, .slice nal nnl ncl, .slice nam nnm ncm], .int .i64 0]) ?_ rfl ?_
 rotate_left
 ·rw [HF.out]
  exact ⟨[.int .i64 nk, .bool nb, .int .i64 ni, .string ns, .slice nal nnl ncl, .slice nam nnm ncm], rfl, HE.out.1, HE.out.2⟩
 ·rw [results_cell_tmp rfl]
  go_simp
def bothE (t p : V) : Nat := if chkE t 32 = 0 then chkE p 32 else chkE t 32
set_option maxHeartbeats 8000000 in
set_option maxRecDepth 100000 in
theorem both_any (t p : V) (S : Nat → Prop) (cs ds : List Value) (w : World) (hT : Tb w) (hv : t.lies false w S cs) (hx : p.lies false w S ds) (hS : ∀ b, S b → b < w.heap.size) (hwt : t.wt ≤ 2147483648) (hwp : p.wt ≤ 2147483648) :
 Calls Tryd.prog 13 #[.agg cs.toArray, .agg ds.toArray] w (NPost (bothE t p) w) := by
 obtain ⟨tk, tb, ti, ts, tal, tnl, tcl, tam, tnm, tcm, rfl⟩ := V.ten hv
 obtain ⟨pk, pb, pi, ps, pal, pnl, pcl, pam, pnm, pcm, rfl⟩ := V.ten hx
 have HL : Hid (∀ W, Below w.heap.size w W → t.lies false W S [.int .i64 tk, .bool tb, .int .i64 ti, .string ts, .slice tal tnl tcl, .slice tam tnm tcm] ∧ p.lies false W S [.int .i64 pk, .bool pb, .int .i64 pi, .string ps, .slice pal pnl pcl, .slice pam pnm pcm] ∧ (∀ b, S b → b < W.heap.size)) := fun W hB => ⟨V.lies_keep (fun h => h) (fun x hx => hB.block x (hS x hx)) (fun x hx => hx) _ hv, V.lies_keep (fun h => h) (fun x hx => hB.block x (hS x hx)) (fun x hx => hx) _ hx, fun x hx => Nat.lt_of_lt_of_le (hS x hx) hB.size⟩
 have HT : Hid (∀ W, Below w.heap.size w W → Tb W) := fun W hb => hT.below hb hT.z
 have Bww2 : Below w.heap.size w ((w.alloc (.cells #[.int .i64 tk, .bool tb, .int .i64 ti, .string ts, .slice tal tnl tcl, .slice tam tnm tcm] 25)).alloc (.cells #[.int .i64 pk, .bool pb, .int .i64 pi, .string ps, .slice pal pnl pcl, .slice pam pnm pcm] 25)) := two_below w _ _
 have hz2 : ((w.alloc (.cells #[.int .i64 tk, .bool tb, .int .i64 ti, .string ts, .slice tal tnl tcl, .slice tam tnm tcm] 25)).alloc (.cells #[.int .i64 pk, .bool pb, .int .i64 pi, .string ps, .slice pal pnl pcl, .slice pam pnm pcm] 25)).heap.size = w.heap.size + 2 := by rw [alloc_size, alloc_size]
 have htw2 := alloc2_keep1 w (.cells #[.int .i64 tk, .bool tb, .int .i64 ti, .string ts, .slice tal tnl tcl, .slice tam tnm tcm] 25) (.cells #[.int .i64 pk, .bool pb, .int .i64 pi, .string ps, .slice pal pnl pcl, .slice pam pnm pcm] 25)
 have hpw2 := alloc2_new w (.cells #[.int .i64 tk, .bool tb, .int .i64 ti, .string ts, .slice tal tnl tcl, .slice tam tnm tcm] 25) (.cells #[.int .i64 pk, .bool pb, .int .i64 pi, .string ps, .slice pal pnl pcl, .slice pam pnm pcm] 25)
 have C1 : Hid (∀ W, Below w.heap.size w W → Calls Tryd.prog 22 #[.agg #[.int .i64 tk, .bool tb, .int .i64 ti, .string ts, .slice tal tnl tcl, .slice tam tnm tcm], .int .i64 32] W (NPost (chkE t 32) W)) := fun W hb => check_any false t 32 S _ W (HT.out W hb) (HL.out W hb).1 (HL.out W hb).2.2 (by omega)
 have C2 : Hid (∀ W, Below w.heap.size w W → Calls Tryd.prog 22 #[.agg #[.int .i64 pk, .bool pb, .int .i64 pi, .string ps, .slice pal pnl pcl, .slice pam pnm pcm], .int .i64 32] W (NPost (chkE p 32) W)) := fun W hb => check_any false p 32 S _ W (HT.out W hb) (HL.out W hb).2.1 (HL.out W hb).2.2 (by omega)
 clear hv hx
 by_cases h1 : chkE t 32 = 0
 rotate_left
 ·have HF : Hid (bothE t p = chkE t 32) := by show _ = _; rw [bothE, if_neg h1]
  generalize chkE t 32 = c1 at *
  have y1 : ¬ (c1 : Int) = 0 := by omega
  have yb1 : ((c1 : Int) != 0) = true := by simp; omega
  have ck0 : ((w.alloc (.cells #[.int .i64 tk, .bool tb, .int .i64 ti, .string ts, .slice tal tnl tcl, .slice tam tnm tcm] 25)).alloc (.cells #[.int .i64 pk, .bool pb, .int .i64 pi, .string ps, .slice pal pnl pcl, .slice pam pnm pcm] 25)).cell? ⟨w.heap.size, 0, none⟩ = some (.int .i64 tk) := by rw [cell_of_block htw2]; rfl
  have ck1 : ((w.alloc (.cells #[.int .i64 tk, .bool tb, .int .i64 ti, .string ts, .slice tal tnl tcl, .slice tam tnm tcm] 25)).alloc (.cells #[.int .i64 pk, .bool pb, .int .i64 pi, .string ps, .slice pal pnl pcl, .slice pam pnm pcm] 25)).cell? ⟨w.heap.size, 1, none⟩ = some (.bool tb) := by rw [cell_of_block htw2]; rfl
  have ck2 : ((w.alloc (.cells #[.int .i64 tk, .bool tb, .int .i64 ti, .string ts, .slice tal tnl tcl, .slice tam tnm tcm] 25)).alloc (.cells #[.int .i64 pk, .bool pb, .int .i64 pi, .string ps, .slice pal pnl pcl, .slice pam pnm pcm] 25)).cell? ⟨w.heap.size, 2, none⟩ = some (.int .i64 ti) := by rw [cell_of_block htw2]; rfl
  have ck3 : ((w.alloc (.cells #[.int .i64 tk, .bool tb, .int .i64 ti, .string ts, .slice tal tnl tcl, .slice tam tnm tcm] 25)).alloc (.cells #[.int .i64 pk, .bool pb, .int .i64 pi, .string ps, .slice pal pnl pcl, .slice pam pnm pcm] 25)).cell? ⟨w.heap.size, 3, none⟩ = some (.string ts) := by rw [cell_of_block htw2]; rfl
  have ck4 : ((w.alloc (.cells #[.int .i64 tk, .bool tb, .int .i64 ti, .string ts, .slice tal tnl tcl, .slice tam tnm tcm] 25)).alloc (.cells #[.int .i64 pk, .bool pb, .int .i64 pi, .string ps, .slice pal pnl pcl, .slice pam pnm pcm] 25)).cell? ⟨w.heap.size, 4, none⟩ = some (.slice tal tnl tcl) := by rw [cell_of_block htw2]; rfl
  have ck5 : ((w.alloc (.cells #[.int .i64 tk, .bool tb, .int .i64 ti, .string ts, .slice tal tnl tcl, .slice tam tnm tcm] 25)).alloc (.cells #[.int .i64 pk, .bool pb, .int .i64 pi, .string ps, .slice pal pnl pcl, .slice pam pnm pcm] 25)).cell? ⟨w.heap.size, 5, none⟩ = some (.slice tam tnm tcm) := by rw [cell_of_block htw2]; rfl
  go_enter Tryd.func13, Tryd.ntmps13
  go_wp2_with fail
  clear ck0 ck1 ck2 ck3 ck4 ck5
  generalize ((w.alloc (.cells #[.int .i64 tk, .bool tb, .int .i64 ti, .string ts, .slice tal tnl tcl, .slice tam tnm tcm] 25)).alloc (.cells #[.int .i64 pk, .bool pb, .int .i64 pi, .string ps, .slice pal pnl pcl, .slice pam pnm pcm] 25)) = w2 at *
  refine (C1.out w2 Bww2).mono ?_
  rintro e w3 ⟨rfl, b3⟩
  have hzw3 := b3.size
  have htw3 := (b3.block (w.heap.size) (by omega)).trans htw2
  have hpw3 := (b3.block (w.heap.size + 1) (by omega)).trans hpw2
  have Bww3 := Bww2.trans (b3.mono (by omega))
  go_wp2_with fail
  go_ret
  rw [HF.out]
  exact ⟨rfl, Bww3⟩
 have HF : Hid (bothE t p = chkE p 32) := by show _ = _; rw [bothE, if_pos h1]
 rw [h1] at C1
 clear h1
 generalize chkE p 32 = c2 at *
 have ck0 : ((w.alloc (.cells #[.int .i64 tk, .bool tb, .int .i64 ti, .string ts, .slice tal tnl tcl, .slice tam tnm tcm] 25)).alloc (.cells #[.int .i64 pk, .bool pb, .int .i64 pi, .string ps, .slice pal pnl pcl, .slice pam pnm pcm] 25)).cell? ⟨w.heap.size, 0, none⟩ = some (.int .i64 tk) := by rw [cell_of_block htw2]; rfl
 have ck1 : ((w.alloc (.cells #[.int .i64 tk, .bool tb, .int .i64 ti, .string ts, .slice tal tnl tcl, .slice tam tnm tcm] 25)).alloc (.cells #[.int .i64 pk, .bool pb, .int .i64 pi, .string ps, .slice pal pnl pcl, .slice pam pnm pcm] 25)).cell? ⟨w.heap.size, 1, none⟩ = some (.bool tb) := by rw [cell_of_block htw2]; rfl
 have ck2 : ((w.alloc (.cells #[.int .i64 tk, .bool tb, .int .i64 ti, .string ts, .slice tal tnl tcl, .slice tam tnm tcm] 25)).alloc (.cells #[.int .i64 pk, .bool pb, .int .i64 pi, .string ps, .slice pal pnl pcl, .slice pam pnm pcm] 25)).cell? ⟨w.heap.size, 2, none⟩ = some (.int .i64 ti) := by rw [cell_of_block htw2]; rfl
 have ck3 : ((w.alloc (.cells #[.int .i64 tk, .bool tb, .int .i64 ti, .string ts, .slice tal tnl tcl, .slice tam tnm tcm] 25)).alloc (.cells #[.int .i64 pk, .bool pb, .int .i64 pi, .string ps, .slice pal pnl pcl, .slice pam pnm pcm] 25)).cell? ⟨w.heap.size, 3, none⟩ = some (.string ts) := by rw [cell_of_block htw2]; rfl
 have ck4 : ((w.alloc (.cells #[.int .i64 tk, .bool tb, .int .i64 ti, .string ts, .slice tal tnl tcl, .slice tam tnm tcm] 25)).alloc (.cells #[.int .i64 pk, .bool pb, .int .i64 pi, .string ps, .slice pal pnl pcl, .slice pam pnm pcm] 25)).cell? ⟨w.heap.size, 4, none⟩ = some (.slice tal tnl tcl) := by rw [cell_of_block htw2]; rfl
 have ck5 : ((w.alloc (.cells #[.int .i64 tk, .bool tb, .int .i64 ti, .string ts, .slice tal tnl tcl, .slice tam tnm tcm] 25)).alloc (.cells #[.int .i64 pk, .bool pb, .int .i64 pi, .string ps, .slice pal pnl pcl, .slice pam pnm pcm] 25)).cell? ⟨w.heap.size, 5, none⟩ = some (.slice tam tnm tcm) := by rw [cell_of_block htw2]; rfl
 go_enter Tryd.func13, Tryd.ntmps13
 go_wp2_with fail
 clear ck0 ck1 ck2 ck3 ck4 ck5
 generalize ((w.alloc (.cells #[.int .i64 tk, .bool tb, .int .i64 ti, .string ts, .slice tal tnl tcl, .slice tam tnm tcm] 25)).alloc (.cells #[.int .i64 pk, .bool pb, .int .i64 pi, .string ps, .slice pal pnl pcl, .slice pam pnm pcm] 25)) = w2 at *
 refine (C1.out w2 Bww2).mono ?_
 rintro e w3 ⟨rfl, b3⟩
 have hzw3 := b3.size
 have htw3 := (b3.block (w.heap.size) (by omega)).trans htw2
 have hpw3 := (b3.block (w.heap.size + 1) (by omega)).trans hpw2
 have Bww3 := Bww2.trans (b3.mono (by omega))
 have ck0 : w3.cell? ⟨w.heap.size + 1, 0, none⟩ = some (.int .i64 pk) := by rw [cell_of_block hpw3]; rfl
 have ck1 : w3.cell? ⟨w.heap.size + 1, 1, none⟩ = some (.bool pb) := by rw [cell_of_block hpw3]; rfl
 have ck2 : w3.cell? ⟨w.heap.size + 1, 2, none⟩ = some (.int .i64 pi) := by rw [cell_of_block hpw3]; rfl
 have ck3 : w3.cell? ⟨w.heap.size + 1, 3, none⟩ = some (.string ps) := by rw [cell_of_block hpw3]; rfl
 have ck4 : w3.cell? ⟨w.heap.size + 1, 4, none⟩ = some (.slice pal pnl pcl) := by rw [cell_of_block hpw3]; rfl
 have ck5 : w3.cell? ⟨w.heap.size + 1, 5, none⟩ = some (.slice pam pnm pcm) := by rw [cell_of_block hpw3]; rfl
 go_wp2_with fail
 clear ck0 ck1 ck2 ck3 ck4 ck5
 refine (C2.out w3 Bww3).mono ?_
 rintro e w4 ⟨rfl, b4⟩
 have hzw4 := b4.size
 have htw4 := (b4.block (w.heap.size) (by omega)).trans htw3
 have hpw4 := (b4.block (w.heap.size + 1) (by omega)).trans hpw3
 have Bww4 := Bww3.trans (b4.mono (by omega))
 go_wp2_with fail
 go_ret
 rw [HF.out]
 exact ⟨rfl, Bww4⟩
theorem both_two {t p : V} (h : bothE t p = 0) : chkE t 32 = 0 ∧ chkE p 32 = 0 := by
 unfold bothE at h
 by_cases h1 : chkE t 32 = 0
 ·rw [if_pos h1] at h; exact ⟨h1, h⟩
 ·rw [if_neg h1] at h; exact absurd h h1
end Go.Proofs.YtjfldbmopjojdabDoor
