import Derived.Test.YtjfldbmopjojdabDoorBtdD
set_option linter.unusedSimpArgs false
set_option linter.unusedVariables false
namespace Go.Proofs.YtjfldbmopjojdabDoor
open Go.RowKit Go.Lib
theorem results_ctt {fn : Func} {p q u : Tmp} {ty : TypeId} (h : fn.results = #[.cell p ty, .tmp q, .tmp u]) (tmps : Array Value) (P : Program) (w : World) :
 (results fn tmps).run P w =
  ((asAddr (tmps.getD p undef)).run P w).andThen fun a w₁ => ((loadVar ty a).run P w₁).andThen fun v w₂ => .ok (.tuple #[v, tmps.getD q undef, tmps.getD u undef]) w₂ := by
 simp only [results, h]
 simp [Sem.run_bind, Result.andThen]
theorem btw_ld {a b : V} (ha : chkE a 32 = 0) (hb : chkE b 32 = 0) : btwV 41 a b = if ldV a b = true then some (bwV a b) else none := by
 have ca := (chk32 a).1 ha
 have cb := (chk32 b).1 hb
 have oa : Ok a := ok_chk (D := 32) (by omega) ha
 have ob : Ok b := ok_chk (D := 32) (by omega) hb
 have ma : ∀ y ∈ memsOf a, Ok y.2 ∧ dpV y.2 < 40 := fun y hy => by
  have hd := ca.2.1
  obtain ⟨vk, vb, vi, vs, vl, vm⟩ := a
  have := memNd (m := vm) hy
  rw [dpV] at hd
  exact ⟨oa.mem hy, by omega⟩
 have mb : ∀ y ∈ memsOf b, Ok y.2 := fun y hy => by
  obtain ⟨vk, vb, vi, vs, vl, vm⟩ := b
  exact ob.mem hy
 by_cases h5 : kindOf a = 5 ∧ kindOf b = 5
 ·rw [btwV, if_pos h5, ldV_map h5.1 h5.2, bwV_map h5]
  have h1 := some_btw 40 (memsOf a) (memsOf b) (gm_mems ca.1) (gm_mems cb.1) ma mb
  cases hq : btwM 41 (memsOf a) (memsOf b) with
  | none =>
   rw [show stDs (btwM 40) (tgR (bare (memsOf a)) (bare (memsOf b))) = none from by rw [btwM] at hq; exact hq] at h1
   rw [← h1]
   rfl
  | some ms =>
   have e := btw_doc 41 _ _ _ (gm_mems ca.1) (gm_mems cb.1) (fun y hy => (ma y hy).1) mb hq
   rw [show stDs (btwM 40) (tgR (bare (memsOf a)) (bare (memsOf b))) = some ms from by rw [btwM] at hq; exact hq] at h1
   rw [← h1, e]
   rfl
 ·rw [btwV, if_neg h5, bwV_flat h5]
  by_cases h0 : kindOf b = 0
  ·rw [if_pos h0, ldV_flat (by omega), if_pos rfl]
  ·rw [if_neg h0]
   by_cases hb5 : kindOf b = 5
   ·rw [ldV_new (fun h => h5 ⟨h, hb5⟩) hb5]
   ·rw [ldV_flat hb5, cln_flat cb.1 hb5 h0]
theorem rdf_yes {a b : V} (ha : chkE a 32 = 0) (hb : chkE b 32 = 0) (h : ldV a b = true) : dffF a b = ((finF (bwV a b)).1, ((finF (bwV a b)).2 == 0), (finF (bwV a b)).2) := by
 have e : btwV 41 a b = some (bwV a b) := by rw [btw_ld ha hb, if_pos h]
 rw [dffF, if_pos (by rw [bothE, if_pos ha]; exact hb), e]
theorem rdf_no {a b : V} (ha : chkE a 32 = 0) (hb : chkE b 32 = 0) (h : ldV a b = false) : dffF a b = (nullV, false, 0) := by
 have e : btwV 41 a b = none := by rw [btw_ld ha hb, if_neg (by rw [h]; simp)]
 rw [dffF, if_pos (by rw [bothE, if_pos ha]; exact hb), e]
theorem bw_wt2 {a b : V} (ha : chkE a 32 = 0) (hb : chkE b 32 = 0) (h : ldV a b = true) : (bwV a b).wt ≤ 2228224 := by
 have e : btwV 41 a b = some (bwV a b) := by rw [btw_ld ha hb, if_pos h]
 have := btw_wt e
 have := (ok_chk (v := a) (D := 32) (by omega) ha).wt
 have := (ok_chk (v := b) (D := 32) (by omega) hb).wt
 omega
set_option maxHeartbeats 8000000 in
set_option maxRecDepth 100000 in
theorem rdiff_any (t p : V) (S : Nat → Prop) (cs ds : List Value) (w : World) (hv : t.lies false w S cs) (hx : p.lies false w S ds) (hS : ∀ b, S b → b < w.heap.size) (hwt : t.wt ≤ 2147483648) (hwp : p.wt ≤ 2147483648) :
 Calls Tryd.prog 7 #[.agg cs.toArray, .agg ds.toArray] w (DgPost (dffF t p) w) := by
 obtain ⟨tk, tb, ti, ts, tal, tnl, tcl, tam, tnm, tcm, rfl⟩ := V.ten hv
 obtain ⟨pk, pb, pi, ps, pal, pnl, pcl, pam, pnm, pcm, rfl⟩ := V.ten hx
 have HL : Hid (∀ W, Below w.heap.size w W → t.lies false W S [.int .i64 tk, .bool tb, .int .i64 ti, .string ts, .slice tal tnl tcl, .slice tam tnm tcm] ∧ p.lies false W S [.int .i64 pk, .bool pb, .int .i64 pi, .string ps, .slice pal pnl pcl, .slice pam pnm pcm] ∧ (∀ b, S b → b < W.heap.size)) := fun W hB => ⟨V.lies_keep (fun h => h) (fun x hx => hB.block x (hS x hx)) (fun x hx => hx) _ hv, V.lies_keep (fun h => h) (fun x hx => hB.block x (hS x hx)) (fun x hx => hx) _ hx, fun x hx => Nat.lt_of_lt_of_le (hS x hx) hB.size⟩
 have Bww3 : Below w.heap.size w (((w.alloc (.cells #[.int .i64 tk, .bool tb, .int .i64 ti, .string ts, .slice tal tnl tcl, .slice tam tnm tcm] 25)).alloc (.cells #[.int .i64 pk, .bool pb, .int .i64 pi, .string ps, .slice pal pnl pcl, .slice pam pnm pcm] 25)).alloc (.cells #[.int .i64 0, .bool false, .int .i64 0, .string ⟨#[]⟩, .slice none 0 0, .slice none 0 0] 25)) := three_below w _ _ _
 have hz3 : (((w.alloc (.cells #[.int .i64 tk, .bool tb, .int .i64 ti, .string ts, .slice tal tnl tcl, .slice tam tnm tcm] 25)).alloc (.cells #[.int .i64 pk, .bool pb, .int .i64 pi, .string ps, .slice pal pnl pcl, .slice pam pnm pcm] 25)).alloc (.cells #[.int .i64 0, .bool false, .int .i64 0, .string ⟨#[]⟩, .slice none 0 0, .slice none 0 0] 25)).heap.size = w.heap.size + 3 := by rw [alloc_size, alloc_size, alloc_size]
 obtain ⟨htw3, hpw3, hzw3⟩ := three_allocs w (.cells #[.int .i64 tk, .bool tb, .int .i64 ti, .string ts, .slice tal tnl tcl, .slice tam tnm tcm] 25) (.cells #[.int .i64 pk, .bool pb, .int .i64 pi, .string ps, .slice pal pnl pcl, .slice pam pnm pcm] 25) (.cells #[.int .i64 0, .bool false, .int .i64 0, .string ⟨#[]⟩, .slice none 0 0, .slice none 0 0] 25)
 have C1 : Hid (∀ W, Below w.heap.size w W → Calls Tryd.prog 17 #[.agg #[.int .i64 tk, .bool tb, .int .i64 ti, .string ts, .slice tal tnl tcl, .slice tam tnm tcm], .int .i64 32] W (NPost (chkE t 32) W)) := fun W hb => rcheck_any false t 32 S _ W (HL.out W hb).1 (HL.out W hb).2.2 (by omega)
 have C2 : Hid (∀ W, Below w.heap.size w W → Calls Tryd.prog 17 #[.agg #[.int .i64 pk, .bool pb, .int .i64 pi, .string ps, .slice pal pnl pcl, .slice pam pnm pcm], .int .i64 32] W (NPost (chkE p 32) W)) := fun W hb => rcheck_any false p 32 S _ W (HL.out W hb).2.1 (HL.out W hb).2.2 (by omega)
 clear hv hx
 by_cases h1 : chkE t 32 = 0
 rotate_left
 ·have HF : Hid (dffF t p = (nullV, false, (chkE t 32 : Int))) := by show _ = _; rw [dffF, if_neg (by rw [bothE, if_neg h1]; exact h1), bothE, if_neg h1]
  generalize chkE t 32 = c1 at *
  have y1 : ¬ (c1 : Int) = 0 := by omega
  have yb1 : ((c1 : Int) != 0) = true := by simp; omega
  have ck0 : (((w.alloc (.cells #[.int .i64 tk, .bool tb, .int .i64 ti, .string ts, .slice tal tnl tcl, .slice tam tnm tcm] 25)).alloc (.cells #[.int .i64 pk, .bool pb, .int .i64 pi, .string ps, .slice pal pnl pcl, .slice pam pnm pcm] 25)).alloc (.cells #[.int .i64 0, .bool false, .int .i64 0, .string ⟨#[]⟩, .slice none 0 0, .slice none 0 0] 25)).cell? ⟨w.heap.size, 0, none⟩ = some (.int .i64 tk) := by rw [cell_of_block htw3]; rfl
  have ck1 : (((w.alloc (.cells #[.int .i64 tk, .bool tb, .int .i64 ti, .string ts, .slice tal tnl tcl, .slice tam tnm tcm] 25)).alloc (.cells #[.int .i64 pk, .bool pb, .int .i64 pi, .string ps, .slice pal pnl pcl, .slice pam pnm pcm] 25)).alloc (.cells #[.int .i64 0, .bool false, .int .i64 0, .string ⟨#[]⟩, .slice none 0 0, .slice none 0 0] 25)).cell? ⟨w.heap.size, 1, none⟩ = some (.bool tb) := by rw [cell_of_block htw3]; rfl
  have ck2 : (((w.alloc (.cells #[.int .i64 tk, .bool tb, .int .i64 ti, .string ts, .slice tal tnl tcl, .slice tam tnm tcm] 25)).alloc (.cells #[.int .i64 pk, .bool pb, .int .i64 pi, .string ps, .slice pal pnl pcl, .slice pam pnm pcm] 25)).alloc (.cells #[.int .i64 0, .bool false, .int .i64 0, .string ⟨#[]⟩, .slice none 0 0, .slice none 0 0] 25)).cell? ⟨w.heap.size, 2, none⟩ = some (.int .i64 ti) := by rw [cell_of_block htw3]; rfl
  have ck3 : (((w.alloc (.cells #[.int .i64 tk, .bool tb, .int .i64 ti, .string ts, .slice tal tnl tcl, .slice tam tnm tcm] 25)).alloc (.cells #[.int .i64 pk, .bool pb, .int .i64 pi, .string ps, .slice pal pnl pcl, .slice pam pnm pcm] 25)).alloc (.cells #[.int .i64 0, .bool false, .int .i64 0, .string ⟨#[]⟩, .slice none 0 0, .slice none 0 0] 25)).cell? ⟨w.heap.size, 3, none⟩ = some (.string ts) := by rw [cell_of_block htw3]; rfl
  have ck4 : (((w.alloc (.cells #[.int .i64 tk, .bool tb, .int .i64 ti, .string ts, .slice tal tnl tcl, .slice tam tnm tcm] 25)).alloc (.cells #[.int .i64 pk, .bool pb, .int .i64 pi, .string ps, .slice pal pnl pcl, .slice pam pnm pcm] 25)).alloc (.cells #[.int .i64 0, .bool false, .int .i64 0, .string ⟨#[]⟩, .slice none 0 0, .slice none 0 0] 25)).cell? ⟨w.heap.size, 4, none⟩ = some (.slice tal tnl tcl) := by rw [cell_of_block htw3]; rfl
  have ck5 : (((w.alloc (.cells #[.int .i64 tk, .bool tb, .int .i64 ti, .string ts, .slice tal tnl tcl, .slice tam tnm tcm] 25)).alloc (.cells #[.int .i64 pk, .bool pb, .int .i64 pi, .string ps, .slice pal pnl pcl, .slice pam pnm pcm] 25)).alloc (.cells #[.int .i64 0, .bool false, .int .i64 0, .string ⟨#[]⟩, .slice none 0 0, .slice none 0 0] 25)).cell? ⟨w.heap.size, 5, none⟩ = some (.slice tam tnm tcm) := by rw [cell_of_block htw3]; rfl
  go_enter Tryd.func7, Tryd.ntmps7
  go_wp2_with fail
  clear ck0 ck1 ck2 ck3 ck4 ck5
  generalize (((w.alloc (.cells #[.int .i64 tk, .bool tb, .int .i64 ti, .string ts, .slice tal tnl tcl, .slice tam tnm tcm] 25)).alloc (.cells #[.int .i64 pk, .bool pb, .int .i64 pi, .string ps, .slice pal pnl pcl, .slice pam pnm pcm] 25)).alloc (.cells #[.int .i64 0, .bool false, .int .i64 0, .string ⟨#[]⟩, .slice none 0 0, .slice none 0 0] 25)) = w3 at *
  refine (C1.out w3 Bww3).mono ?_
  rintro e w4 ⟨rfl, b4⟩
  have hzw4 := b4.size
  have htw4 := (b4.block (w.heap.size) (by omega)).trans htw3
  have hpw4 := (b4.block (w.heap.size + 1) (by omega)).trans hpw3
  have hzw4 := (b4.block (w.heap.size + 2) (by omega)).trans hzw3
  have Bww4 := Bww3.trans (b4.mono (by omega))
  have HE := hmk (wn_fin (M := w.heap.size + 2) (by omega) Bww4 (null_lies _ _))
  have cz0 : w4.cell? ⟨w.heap.size + 2, 0, none⟩ = some (.int .i64 0) := by rw [cell_of_block hzw4]; rfl
  have cz1 : w4.cell? ⟨w.heap.size + 2, 1, none⟩ = some (.bool false) := by rw [cell_of_block hzw4]; rfl
  have cz2 : w4.cell? ⟨w.heap.size + 2, 2, none⟩ = some (.int .i64 0) := by rw [cell_of_block hzw4]; rfl
  have cz3 : w4.cell? ⟨w.heap.size + 2, 3, none⟩ = some (.string ⟨#[]⟩) := by rw [cell_of_block hzw4]; rfl
  have cz4 : w4.cell? ⟨w.heap.size + 2, 4, none⟩ = some (.slice none 0 0) := by rw [cell_of_block hzw4]; rfl
  have cz5 : w4.cell? ⟨w.heap.size + 2, 5, none⟩ = some (.slice none 0 0) := by rw [cell_of_block hzw4]; rfl
  have fz := frozen_of_block hzw4
  go_wp2_with fail
  (try simp only [Exit.inBlock, Exit.then])
  refine bodyPost_ret (v := .tuple #[.agg #[.int .i64 0, .bool false, .int .i64 0, .string ⟨#[]⟩, .slice none 0 0, .slice none 0 0], .bool false, .int .i64 (c1 : Int)]) ?_ rfl ?_
  rotate_left
  ·rw [HF.out]
   exact ⟨[.int .i64 0, .bool false, .int .i64 0, .string ⟨#[]⟩, .slice none 0 0, .slice none 0 0], rfl, HE.out.1, HE.out.2⟩
  ·rw [results_ctt rfl]
   go_simp
 rw [h1] at C1
 by_cases h2 : chkE p 32 = 0
 rotate_left
 ·have HF : Hid (dffF t p = (nullV, false, (chkE p 32 : Int))) := by show _ = _; rw [dffF, if_neg (by rw [bothE, if_pos h1]; exact h2), bothE, if_pos h1]
  generalize chkE p 32 = c2 at *
  have y2 : ¬ (c2 : Int) = 0 := by omega
  have yb2 : ((c2 : Int) != 0) = true := by simp; omega
  clear h1
  have ck0 : (((w.alloc (.cells #[.int .i64 tk, .bool tb, .int .i64 ti, .string ts, .slice tal tnl tcl, .slice tam tnm tcm] 25)).alloc (.cells #[.int .i64 pk, .bool pb, .int .i64 pi, .string ps, .slice pal pnl pcl, .slice pam pnm pcm] 25)).alloc (.cells #[.int .i64 0, .bool false, .int .i64 0, .string ⟨#[]⟩, .slice none 0 0, .slice none 0 0] 25)).cell? ⟨w.heap.size, 0, none⟩ = some (.int .i64 tk) := by rw [cell_of_block htw3]; rfl
  have ck1 : (((w.alloc (.cells #[.int .i64 tk, .bool tb, .int .i64 ti, .string ts, .slice tal tnl tcl, .slice tam tnm tcm] 25)).alloc (.cells #[.int .i64 pk, .bool pb, .int .i64 pi, .string ps, .slice pal pnl pcl, .slice pam pnm pcm] 25)).alloc (.cells #[.int .i64 0, .bool false, .int .i64 0, .string ⟨#[]⟩, .slice none 0 0, .slice none 0 0] 25)).cell? ⟨w.heap.size, 1, none⟩ = some (.bool tb) := by rw [cell_of_block htw3]; rfl
  have ck2 : (((w.alloc (.cells #[.int .i64 tk, .bool tb, .int .i64 ti, .string ts, .slice tal tnl tcl, .slice tam tnm tcm] 25)).alloc (.cells #[.int .i64 pk, .bool pb, .int .i64 pi, .string ps, .slice pal pnl pcl, .slice pam pnm pcm] 25)).alloc (.cells #[.int .i64 0, .bool false, .int .i64 0, .string ⟨#[]⟩, .slice none 0 0, .slice none 0 0] 25)).cell? ⟨w.heap.size, 2, none⟩ = some (.int .i64 ti) := by rw [cell_of_block htw3]; rfl
  have ck3 : (((w.alloc (.cells #[.int .i64 tk, .bool tb, .int .i64 ti, .string ts, .slice tal tnl tcl, .slice tam tnm tcm] 25)).alloc (.cells #[.int .i64 pk, .bool pb, .int .i64 pi, .string ps, .slice pal pnl pcl, .slice pam pnm pcm] 25)).alloc (.cells #[.int .i64 0, .bool false, .int .i64 0, .string ⟨#[]⟩, .slice none 0 0, .slice none 0 0] 25)).cell? ⟨w.heap.size, 3, none⟩ = some (.string ts) := by rw [cell_of_block htw3]; rfl
  have ck4 : (((w.alloc (.cells #[.int .i64 tk, .bool tb, .int .i64 ti, .string ts, .slice tal tnl tcl, .slice tam tnm tcm] 25)).alloc (.cells #[.int .i64 pk, .bool pb, .int .i64 pi, .string ps, .slice pal pnl pcl, .slice pam pnm pcm] 25)).alloc (.cells #[.int .i64 0, .bool false, .int .i64 0, .string ⟨#[]⟩, .slice none 0 0, .slice none 0 0] 25)).cell? ⟨w.heap.size, 4, none⟩ = some (.slice tal tnl tcl) := by rw [cell_of_block htw3]; rfl
  have ck5 : (((w.alloc (.cells #[.int .i64 tk, .bool tb, .int .i64 ti, .string ts, .slice tal tnl tcl, .slice tam tnm tcm] 25)).alloc (.cells #[.int .i64 pk, .bool pb, .int .i64 pi, .string ps, .slice pal pnl pcl, .slice pam pnm pcm] 25)).alloc (.cells #[.int .i64 0, .bool false, .int .i64 0, .string ⟨#[]⟩, .slice none 0 0, .slice none 0 0] 25)).cell? ⟨w.heap.size, 5, none⟩ = some (.slice tam tnm tcm) := by rw [cell_of_block htw3]; rfl
  go_enter Tryd.func7, Tryd.ntmps7
  go_wp2_with fail
  clear ck0 ck1 ck2 ck3 ck4 ck5
  generalize (((w.alloc (.cells #[.int .i64 tk, .bool tb, .int .i64 ti, .string ts, .slice tal tnl tcl, .slice tam tnm tcm] 25)).alloc (.cells #[.int .i64 pk, .bool pb, .int .i64 pi, .string ps, .slice pal pnl pcl, .slice pam pnm pcm] 25)).alloc (.cells #[.int .i64 0, .bool false, .int .i64 0, .string ⟨#[]⟩, .slice none 0 0, .slice none 0 0] 25)) = w3 at *
  refine (C1.out w3 Bww3).mono ?_
  rintro e w4 ⟨rfl, b4⟩
  have hzw4 := b4.size
  have htw4 := (b4.block (w.heap.size) (by omega)).trans htw3
  have hpw4 := (b4.block (w.heap.size + 1) (by omega)).trans hpw3
  have hzw4 := (b4.block (w.heap.size + 2) (by omega)).trans hzw3
  have Bww4 := Bww3.trans (b4.mono (by omega))
  have ck0 : w4.cell? ⟨w.heap.size + 1, 0, none⟩ = some (.int .i64 pk) := by rw [cell_of_block hpw4]; rfl
  have ck1 : w4.cell? ⟨w.heap.size + 1, 1, none⟩ = some (.bool pb) := by rw [cell_of_block hpw4]; rfl
  have ck2 : w4.cell? ⟨w.heap.size + 1, 2, none⟩ = some (.int .i64 pi) := by rw [cell_of_block hpw4]; rfl
  have ck3 : w4.cell? ⟨w.heap.size + 1, 3, none⟩ = some (.string ps) := by rw [cell_of_block hpw4]; rfl
  have ck4 : w4.cell? ⟨w.heap.size + 1, 4, none⟩ = some (.slice pal pnl pcl) := by rw [cell_of_block hpw4]; rfl
  have ck5 : w4.cell? ⟨w.heap.size + 1, 5, none⟩ = some (.slice pam pnm pcm) := by rw [cell_of_block hpw4]; rfl
  go_wp2_with fail
  clear ck0 ck1 ck2 ck3 ck4 ck5
  refine (C2.out w4 Bww4).mono ?_
  rintro e w5 ⟨rfl, b5⟩
  have hzw5 := b5.size
  have htw5 := (b5.block (w.heap.size) (by omega)).trans htw4
  have hpw5 := (b5.block (w.heap.size + 1) (by omega)).trans hpw4
  have hzw5 := (b5.block (w.heap.size + 2) (by omega)).trans hzw4
  have Bww5 := Bww4.trans (b5.mono (by omega))
  have HE := hmk (wn_fin (M := w.heap.size + 2) (by omega) Bww5 (null_lies _ _))
  have cz0 : w5.cell? ⟨w.heap.size + 2, 0, none⟩ = some (.int .i64 0) := by rw [cell_of_block hzw5]; rfl
  have cz1 : w5.cell? ⟨w.heap.size + 2, 1, none⟩ = some (.bool false) := by rw [cell_of_block hzw5]; rfl
  have cz2 : w5.cell? ⟨w.heap.size + 2, 2, none⟩ = some (.int .i64 0) := by rw [cell_of_block hzw5]; rfl
  have cz3 : w5.cell? ⟨w.heap.size + 2, 3, none⟩ = some (.string ⟨#[]⟩) := by rw [cell_of_block hzw5]; rfl
  have cz4 : w5.cell? ⟨w.heap.size + 2, 4, none⟩ = some (.slice none 0 0) := by rw [cell_of_block hzw5]; rfl
  have cz5 : w5.cell? ⟨w.heap.size + 2, 5, none⟩ = some (.slice none 0 0) := by rw [cell_of_block hzw5]; rfl
  have fz := frozen_of_block hzw5
  go_wp2_with fail
  (try simp only [Exit.inBlock, Exit.then])
  refine bodyPost_ret (v := .tuple #[.agg #[.int .i64 0, .bool false, .int .i64 0, .string ⟨#[]⟩, .slice none 0 0, .slice none 0 0], .bool false, .int .i64 (c2 : Int)]) ?_ rfl ?_
  rotate_left
  ·rw [HF.out]
   exact ⟨[.int .i64 0, .bool false, .int .i64 0, .string ⟨#[]⟩, .slice none 0 0, .slice none 0 0], rfl, HE.out.1, HE.out.2⟩
  ·rw [results_ctt rfl]
   go_simp
 rw [h2] at C2
 have ot : Ok t := ok_chk (D := 32) (by omega) h1
 have op : Ok p := ok_chk (D := 32) (by omega) h2
 cases hld : ldV t p with
 | false =>
  have HF : Hid (dffF t p = (nullV, false, 0)) := rdf_no h1 h2 hld
  clear h1 h2
  have ck0 : (((w.alloc (.cells #[.int .i64 tk, .bool tb, .int .i64 ti, .string ts, .slice tal tnl tcl, .slice tam tnm tcm] 25)).alloc (.cells #[.int .i64 pk, .bool pb, .int .i64 pi, .string ps, .slice pal pnl pcl, .slice pam pnm pcm] 25)).alloc (.cells #[.int .i64 0, .bool false, .int .i64 0, .string ⟨#[]⟩, .slice none 0 0, .slice none 0 0] 25)).cell? ⟨w.heap.size, 0, none⟩ = some (.int .i64 tk) := by rw [cell_of_block htw3]; rfl
  have ck1 : (((w.alloc (.cells #[.int .i64 tk, .bool tb, .int .i64 ti, .string ts, .slice tal tnl tcl, .slice tam tnm tcm] 25)).alloc (.cells #[.int .i64 pk, .bool pb, .int .i64 pi, .string ps, .slice pal pnl pcl, .slice pam pnm pcm] 25)).alloc (.cells #[.int .i64 0, .bool false, .int .i64 0, .string ⟨#[]⟩, .slice none 0 0, .slice none 0 0] 25)).cell? ⟨w.heap.size, 1, none⟩ = some (.bool tb) := by rw [cell_of_block htw3]; rfl
  have ck2 : (((w.alloc (.cells #[.int .i64 tk, .bool tb, .int .i64 ti, .string ts, .slice tal tnl tcl, .slice tam tnm tcm] 25)).alloc (.cells #[.int .i64 pk, .bool pb, .int .i64 pi, .string ps, .slice pal pnl pcl, .slice pam pnm pcm] 25)).alloc (.cells #[.int .i64 0, .bool false, .int .i64 0, .string ⟨#[]⟩, .slice none 0 0, .slice none 0 0] 25)).cell? ⟨w.heap.size, 2, none⟩ = some (.int .i64 ti) := by rw [cell_of_block htw3]; rfl
  have ck3 : (((w.alloc (.cells #[.int .i64 tk, .bool tb, .int .i64 ti, .string ts, .slice tal tnl tcl, .slice tam tnm tcm] 25)).alloc (.cells #[.int .i64 pk, .bool pb, .int .i64 pi, .string ps, .slice pal pnl pcl, .slice pam pnm pcm] 25)).alloc (.cells #[.int .i64 0, .bool false, .int .i64 0, .string ⟨#[]⟩, .slice none 0 0, .slice none 0 0] 25)).cell? ⟨w.heap.size, 3, none⟩ = some (.string ts) := by rw [cell_of_block htw3]; rfl
  have ck4 : (((w.alloc (.cells #[.int .i64 tk, .bool tb, .int .i64 ti, .string ts, .slice tal tnl tcl, .slice tam tnm tcm] 25)).alloc (.cells #[.int .i64 pk, .bool pb, .int .i64 pi, .string ps, .slice pal pnl pcl, .slice pam pnm pcm] 25)).alloc (.cells #[.int .i64 0, .bool false, .int .i64 0, .string ⟨#[]⟩, .slice none 0 0, .slice none 0 0] 25)).cell? ⟨w.heap.size, 4, none⟩ = some (.slice tal tnl tcl) := by rw [cell_of_block htw3]; rfl
  have ck5 : (((w.alloc (.cells #[.int .i64 tk, .bool tb, .int .i64 ti, .string ts, .slice tal tnl tcl, .slice tam tnm tcm] 25)).alloc (.cells #[.int .i64 pk, .bool pb, .int .i64 pi, .string ps, .slice pal pnl pcl, .slice pam pnm pcm] 25)).alloc (.cells #[.int .i64 0, .bool false, .int .i64 0, .string ⟨#[]⟩, .slice none 0 0, .slice none 0 0] 25)).cell? ⟨w.heap.size, 5, none⟩ = some (.slice tam tnm tcm) := by rw [cell_of_block htw3]; rfl
  go_enter Tryd.func7, Tryd.ntmps7
  go_wp2_with fail
  clear ck0 ck1 ck2 ck3 ck4 ck5
  generalize (((w.alloc (.cells #[.int .i64 tk, .bool tb, .int .i64 ti, .string ts, .slice tal tnl tcl, .slice tam tnm tcm] 25)).alloc (.cells #[.int .i64 pk, .bool pb, .int .i64 pi, .string ps, .slice pal pnl pcl, .slice pam pnm pcm] 25)).alloc (.cells #[.int .i64 0, .bool false, .int .i64 0, .string ⟨#[]⟩, .slice none 0 0, .slice none 0 0] 25)) = w3 at *
  refine (C1.out w3 Bww3).mono ?_
  rintro e w4 ⟨rfl, b4⟩
  have hzw4 := b4.size
  have htw4 := (b4.block (w.heap.size) (by omega)).trans htw3
  have hpw4 := (b4.block (w.heap.size + 1) (by omega)).trans hpw3
  have hzw4 := (b4.block (w.heap.size + 2) (by omega)).trans hzw3
  have Bww4 := Bww3.trans (b4.mono (by omega))
  have ck0 : w4.cell? ⟨w.heap.size + 1, 0, none⟩ = some (.int .i64 pk) := by rw [cell_of_block hpw4]; rfl
  have ck1 : w4.cell? ⟨w.heap.size + 1, 1, none⟩ = some (.bool pb) := by rw [cell_of_block hpw4]; rfl
  have ck2 : w4.cell? ⟨w.heap.size + 1, 2, none⟩ = some (.int .i64 pi) := by rw [cell_of_block hpw4]; rfl
  have ck3 : w4.cell? ⟨w.heap.size + 1, 3, none⟩ = some (.string ps) := by rw [cell_of_block hpw4]; rfl
  have ck4 : w4.cell? ⟨w.heap.size + 1, 4, none⟩ = some (.slice pal pnl pcl) := by rw [cell_of_block hpw4]; rfl
  have ck5 : w4.cell? ⟨w.heap.size + 1, 5, none⟩ = some (.slice pam pnm pcm) := by rw [cell_of_block hpw4]; rfl
  go_wp2_with fail
  clear ck0 ck1 ck2 ck3 ck4 ck5
  refine (C2.out w4 Bww4).mono ?_
  rintro e w5 ⟨rfl, b5⟩
  have hzw5 := b5.size
  have htw5 := (b5.block (w.heap.size) (by omega)).trans htw4
  have hpw5 := (b5.block (w.heap.size + 1) (by omega)).trans hpw4
  have hzw5 := (b5.block (w.heap.size + 2) (by omega)).trans hzw4
  have Bww5 := Bww4.trans (b5.mono (by omega))
  have ct0 : w5.cell? ⟨w.heap.size, 0, none⟩ = some (.int .i64 tk) := by rw [cell_of_block htw5]; rfl
  have ct1 : w5.cell? ⟨w.heap.size, 1, none⟩ = some (.bool tb) := by rw [cell_of_block htw5]; rfl
  have ct2 : w5.cell? ⟨w.heap.size, 2, none⟩ = some (.int .i64 ti) := by rw [cell_of_block htw5]; rfl
  have ct3 : w5.cell? ⟨w.heap.size, 3, none⟩ = some (.string ts) := by rw [cell_of_block htw5]; rfl
  have ct4 : w5.cell? ⟨w.heap.size, 4, none⟩ = some (.slice tal tnl tcl) := by rw [cell_of_block htw5]; rfl
  have ct5 : w5.cell? ⟨w.heap.size, 5, none⟩ = some (.slice tam tnm tcm) := by rw [cell_of_block htw5]; rfl
  have cp0 : w5.cell? ⟨w.heap.size + 1, 0, none⟩ = some (.int .i64 pk) := by rw [cell_of_block hpw5]; rfl
  have cp1 : w5.cell? ⟨w.heap.size + 1, 1, none⟩ = some (.bool pb) := by rw [cell_of_block hpw5]; rfl
  have cp2 : w5.cell? ⟨w.heap.size + 1, 2, none⟩ = some (.int .i64 pi) := by rw [cell_of_block hpw5]; rfl
  have cp3 : w5.cell? ⟨w.heap.size + 1, 3, none⟩ = some (.string ps) := by rw [cell_of_block hpw5]; rfl
  have cp4 : w5.cell? ⟨w.heap.size + 1, 4, none⟩ = some (.slice pal pnl pcl) := by rw [cell_of_block hpw5]; rfl
  have cp5 : w5.cell? ⟨w.heap.size + 1, 5, none⟩ = some (.slice pam pnm pcm) := by rw [cell_of_block hpw5]; rfl
  go_wp2_with fail
  clear ct0 ct1 ct2 ct3 ct4 ct5 cp0 cp1 cp2 cp3 cp4 cp5
  refine (leads_any p t S _ _ w5 ot op (HL.out w5 Bww5).1 (HL.out w5 Bww5).2.1 (HL.out w5 Bww5).2.2).mono ?_
  rintro e w6 ⟨rfl, b6⟩
  rw [hld]
  have hzw6 := b6.size
  have htw6 := (b6.block (w.heap.size) (by omega)).trans htw5
  have hpw6 := (b6.block (w.heap.size + 1) (by omega)).trans hpw5
  have hzw6 := (b6.block (w.heap.size + 2) (by omega)).trans hzw5
  have Bww6 := Bww5.trans (b6.mono (by omega))
  have HE := hmk (wn_fin (M := w.heap.size + 2) (by omega) Bww6 (null_lies _ _))
  have cz0 : w6.cell? ⟨w.heap.size + 2, 0, none⟩ = some (.int .i64 0) := by rw [cell_of_block hzw6]; rfl
  have cz1 : w6.cell? ⟨w.heap.size + 2, 1, none⟩ = some (.bool false) := by rw [cell_of_block hzw6]; rfl
  have cz2 : w6.cell? ⟨w.heap.size + 2, 2, none⟩ = some (.int .i64 0) := by rw [cell_of_block hzw6]; rfl
  have cz3 : w6.cell? ⟨w.heap.size + 2, 3, none⟩ = some (.string ⟨#[]⟩) := by rw [cell_of_block hzw6]; rfl
  have cz4 : w6.cell? ⟨w.heap.size + 2, 4, none⟩ = some (.slice none 0 0) := by rw [cell_of_block hzw6]; rfl
  have cz5 : w6.cell? ⟨w.heap.size + 2, 5, none⟩ = some (.slice none 0 0) := by rw [cell_of_block hzw6]; rfl
  have fz := frozen_of_block hzw6
  go_wp2_with fail
  (try simp only [Exit.inBlock, Exit.then])
  refine bodyPost_ret (v := .tuple #[.agg #[.int .i64 0, .bool false, .int .i64 0, .string ⟨#[]⟩, .slice none 0 0, .slice none 0 0], .bool false, .int .i64 0]) ?_ rfl ?_
  rotate_left
  ·rw [HF.out]
   exact ⟨[.int .i64 0, .bool false, .int .i64 0, .string ⟨#[]⟩, .slice none 0 0, .slice none 0 0], rfl, HE.out.1, HE.out.2⟩
  ·rw [results_ctt rfl]
   go_simp
 | true =>
  have hpw := bw_wt2 h1 h2 hld
  have HY := hmk (rdf_yes h1 h2 hld)
  clear h1 h2
  obtain ⟨U, hU⟩ : ∃ U, bwV t p = U := ⟨_, rfl⟩
  rw [hU] at hpw HY
  have CB : Hid (∀ W, Below w.heap.size w W → Calls Tryd.prog 19 #[.agg #[.int .i64 tk, .bool tb, .int .i64 ti, .string ts, .slice tal tnl tcl, .slice tam tnm tcm], .agg #[.int .i64 pk, .bool pb, .int .i64 pi, .string ps, .slice pal pnl pcl, .slice pam pnm pcm]] W (RpPost U S W)) := fun W hb => by
   have := rbetween_any p t S _ _ W ot op (HL.out W hb).1 (HL.out W hb).2.1 (HL.out W hb).2.2
   rw [hU] at this
   exact this
  clear hU
  by_cases h3 : chkE U 32 = 0
  rotate_left
  ·have HF : Hid (dffF t p = (nullV, false, (chkE U 32 : Int))) := by
    show _ = _
    rw [HY.out, finF, if_neg h3]
    have : ((chkE U 32 : Int) == 0) = false := by rw [beq_eq_false_iff_ne]; omega
    show (nullV, ((chkE U 32 : Int) == 0), (chkE U 32 : Int)) = _
    rw [this]
   obtain ⟨c3, H3⟩ : ∃ c3, chkE U 32 = c3 := ⟨_, rfl⟩
   rw [H3] at HF h3
   have y3 : ¬ (c3 : Int) = 0 := by omega
   have yb3 : ((c3 : Int) != 0) = true := by simp; omega
   have ck0 : (((w.alloc (.cells #[.int .i64 tk, .bool tb, .int .i64 ti, .string ts, .slice tal tnl tcl, .slice tam tnm tcm] 25)).alloc (.cells #[.int .i64 pk, .bool pb, .int .i64 pi, .string ps, .slice pal pnl pcl, .slice pam pnm pcm] 25)).alloc (.cells #[.int .i64 0, .bool false, .int .i64 0, .string ⟨#[]⟩, .slice none 0 0, .slice none 0 0] 25)).cell? ⟨w.heap.size, 0, none⟩ = some (.int .i64 tk) := by rw [cell_of_block htw3]; rfl
   have ck1 : (((w.alloc (.cells #[.int .i64 tk, .bool tb, .int .i64 ti, .string ts, .slice tal tnl tcl, .slice tam tnm tcm] 25)).alloc (.cells #[.int .i64 pk, .bool pb, .int .i64 pi, .string ps, .slice pal pnl pcl, .slice pam pnm pcm] 25)).alloc (.cells #[.int .i64 0, .bool false, .int .i64 0, .string ⟨#[]⟩, .slice none 0 0, .slice none 0 0] 25)).cell? ⟨w.heap.size, 1, none⟩ = some (.bool tb) := by rw [cell_of_block htw3]; rfl
   have ck2 : (((w.alloc (.cells #[.int .i64 tk, .bool tb, .int .i64 ti, .string ts, .slice tal tnl tcl, .slice tam tnm tcm] 25)).alloc (.cells #[.int .i64 pk, .bool pb, .int .i64 pi, .string ps, .slice pal pnl pcl, .slice pam pnm pcm] 25)).alloc (.cells #[.int .i64 0, .bool false, .int .i64 0, .string ⟨#[]⟩, .slice none 0 0, .slice none 0 0] 25)).cell? ⟨w.heap.size, 2, none⟩ = some (.int .i64 ti) := by rw [cell_of_block htw3]; rfl
   have ck3 : (((w.alloc (.cells #[.int .i64 tk, .bool tb, .int .i64 ti, .string ts, .slice tal tnl tcl, .slice tam tnm tcm] 25)).alloc (.cells #[.int .i64 pk, .bool pb, .int .i64 pi, .string ps, .slice pal pnl pcl, .slice pam pnm pcm] 25)).alloc (.cells #[.int .i64 0, .bool false, .int .i64 0, .string ⟨#[]⟩, .slice none 0 0, .slice none 0 0] 25)).cell? ⟨w.heap.size, 3, none⟩ = some (.string ts) := by rw [cell_of_block htw3]; rfl
   have ck4 : (((w.alloc (.cells #[.int .i64 tk, .bool tb, .int .i64 ti, .string ts, .slice tal tnl tcl, .slice tam tnm tcm] 25)).alloc (.cells #[.int .i64 pk, .bool pb, .int .i64 pi, .string ps, .slice pal pnl pcl, .slice pam pnm pcm] 25)).alloc (.cells #[.int .i64 0, .bool false, .int .i64 0, .string ⟨#[]⟩, .slice none 0 0, .slice none 0 0] 25)).cell? ⟨w.heap.size, 4, none⟩ = some (.slice tal tnl tcl) := by rw [cell_of_block htw3]; rfl
   have ck5 : (((w.alloc (.cells #[.int .i64 tk, .bool tb, .int .i64 ti, .string ts, .slice tal tnl tcl, .slice tam tnm tcm] 25)).alloc (.cells #[.int .i64 pk, .bool pb, .int .i64 pi, .string ps, .slice pal pnl pcl, .slice pam pnm pcm] 25)).alloc (.cells #[.int .i64 0, .bool false, .int .i64 0, .string ⟨#[]⟩, .slice none 0 0, .slice none 0 0] 25)).cell? ⟨w.heap.size, 5, none⟩ = some (.slice tam tnm tcm) := by rw [cell_of_block htw3]; rfl
   go_enter Tryd.func7, Tryd.ntmps7
   go_wp2_with fail
   clear ck0 ck1 ck2 ck3 ck4 ck5
   generalize (((w.alloc (.cells #[.int .i64 tk, .bool tb, .int .i64 ti, .string ts, .slice tal tnl tcl, .slice tam tnm tcm] 25)).alloc (.cells #[.int .i64 pk, .bool pb, .int .i64 pi, .string ps, .slice pal pnl pcl, .slice pam pnm pcm] 25)).alloc (.cells #[.int .i64 0, .bool false, .int .i64 0, .string ⟨#[]⟩, .slice none 0 0, .slice none 0 0] 25)) = w3 at *
   refine (C1.out w3 Bww3).mono ?_
   rintro e w4 ⟨rfl, b4⟩
   have hzw4 := b4.size
   have htw4 := (b4.block (w.heap.size) (by omega)).trans htw3
   have hpw4 := (b4.block (w.heap.size + 1) (by omega)).trans hpw3
   have hzw4 := (b4.block (w.heap.size + 2) (by omega)).trans hzw3
   have Bww4 := Bww3.trans (b4.mono (by omega))
   have ck0 : w4.cell? ⟨w.heap.size + 1, 0, none⟩ = some (.int .i64 pk) := by rw [cell_of_block hpw4]; rfl
   have ck1 : w4.cell? ⟨w.heap.size + 1, 1, none⟩ = some (.bool pb) := by rw [cell_of_block hpw4]; rfl
   have ck2 : w4.cell? ⟨w.heap.size + 1, 2, none⟩ = some (.int .i64 pi) := by rw [cell_of_block hpw4]; rfl
   have ck3 : w4.cell? ⟨w.heap.size + 1, 3, none⟩ = some (.string ps) := by rw [cell_of_block hpw4]; rfl
   have ck4 : w4.cell? ⟨w.heap.size + 1, 4, none⟩ = some (.slice pal pnl pcl) := by rw [cell_of_block hpw4]; rfl
   have ck5 : w4.cell? ⟨w.heap.size + 1, 5, none⟩ = some (.slice pam pnm pcm) := by rw [cell_of_block hpw4]; rfl
   go_wp2_with fail
   clear ck0 ck1 ck2 ck3 ck4 ck5
   refine (C2.out w4 Bww4).mono ?_
   rintro e w5 ⟨rfl, b5⟩
   have hzw5 := b5.size
   have htw5 := (b5.block (w.heap.size) (by omega)).trans htw4
   have hpw5 := (b5.block (w.heap.size + 1) (by omega)).trans hpw4
   have hzw5 := (b5.block (w.heap.size + 2) (by omega)).trans hzw4
   have Bww5 := Bww4.trans (b5.mono (by omega))
   have ct0 : w5.cell? ⟨w.heap.size, 0, none⟩ = some (.int .i64 tk) := by rw [cell_of_block htw5]; rfl
   have ct1 : w5.cell? ⟨w.heap.size, 1, none⟩ = some (.bool tb) := by rw [cell_of_block htw5]; rfl
   have ct2 : w5.cell? ⟨w.heap.size, 2, none⟩ = some (.int .i64 ti) := by rw [cell_of_block htw5]; rfl
   have ct3 : w5.cell? ⟨w.heap.size, 3, none⟩ = some (.string ts) := by rw [cell_of_block htw5]; rfl
   have ct4 : w5.cell? ⟨w.heap.size, 4, none⟩ = some (.slice tal tnl tcl) := by rw [cell_of_block htw5]; rfl
   have ct5 : w5.cell? ⟨w.heap.size, 5, none⟩ = some (.slice tam tnm tcm) := by rw [cell_of_block htw5]; rfl
   have cp0 : w5.cell? ⟨w.heap.size + 1, 0, none⟩ = some (.int .i64 pk) := by rw [cell_of_block hpw5]; rfl
   have cp1 : w5.cell? ⟨w.heap.size + 1, 1, none⟩ = some (.bool pb) := by rw [cell_of_block hpw5]; rfl
   have cp2 : w5.cell? ⟨w.heap.size + 1, 2, none⟩ = some (.int .i64 pi) := by rw [cell_of_block hpw5]; rfl
   have cp3 : w5.cell? ⟨w.heap.size + 1, 3, none⟩ = some (.string ps) := by rw [cell_of_block hpw5]; rfl
   have cp4 : w5.cell? ⟨w.heap.size + 1, 4, none⟩ = some (.slice pal pnl pcl) := by rw [cell_of_block hpw5]; rfl
   have cp5 : w5.cell? ⟨w.heap.size + 1, 5, none⟩ = some (.slice pam pnm pcm) := by rw [cell_of_block hpw5]; rfl
   go_wp2_with fail
   clear ct0 ct1 ct2 ct3 ct4 ct5 cp0 cp1 cp2 cp3 cp4 cp5
   refine (leads_any p t S _ _ w5 ot op (HL.out w5 Bww5).1 (HL.out w5 Bww5).2.1 (HL.out w5 Bww5).2.2).mono ?_
   rintro e w6 ⟨rfl, b6⟩
   rw [hld]
   have hzw6 := b6.size
   have htw6 := (b6.block (w.heap.size) (by omega)).trans htw5
   have hpw6 := (b6.block (w.heap.size + 1) (by omega)).trans hpw5
   have hzw6 := (b6.block (w.heap.size + 2) (by omega)).trans hzw5
   have Bww6 := Bww5.trans (b6.mono (by omega))
   have ct0 : w6.cell? ⟨w.heap.size, 0, none⟩ = some (.int .i64 tk) := by rw [cell_of_block htw6]; rfl
   have ct1 : w6.cell? ⟨w.heap.size, 1, none⟩ = some (.bool tb) := by rw [cell_of_block htw6]; rfl
   have ct2 : w6.cell? ⟨w.heap.size, 2, none⟩ = some (.int .i64 ti) := by rw [cell_of_block htw6]; rfl
   have ct3 : w6.cell? ⟨w.heap.size, 3, none⟩ = some (.string ts) := by rw [cell_of_block htw6]; rfl
   have ct4 : w6.cell? ⟨w.heap.size, 4, none⟩ = some (.slice tal tnl tcl) := by rw [cell_of_block htw6]; rfl
   have ct5 : w6.cell? ⟨w.heap.size, 5, none⟩ = some (.slice tam tnm tcm) := by rw [cell_of_block htw6]; rfl
   have cp0 : w6.cell? ⟨w.heap.size + 1, 0, none⟩ = some (.int .i64 pk) := by rw [cell_of_block hpw6]; rfl
   have cp1 : w6.cell? ⟨w.heap.size + 1, 1, none⟩ = some (.bool pb) := by rw [cell_of_block hpw6]; rfl
   have cp2 : w6.cell? ⟨w.heap.size + 1, 2, none⟩ = some (.int .i64 pi) := by rw [cell_of_block hpw6]; rfl
   have cp3 : w6.cell? ⟨w.heap.size + 1, 3, none⟩ = some (.string ps) := by rw [cell_of_block hpw6]; rfl
   have cp4 : w6.cell? ⟨w.heap.size + 1, 4, none⟩ = some (.slice pal pnl pcl) := by rw [cell_of_block hpw6]; rfl
   have cp5 : w6.cell? ⟨w.heap.size + 1, 5, none⟩ = some (.slice pam pnm pcm) := by rw [cell_of_block hpw6]; rfl
   go_wp2_with fail
   clear ct0 ct1 ct2 ct3 ct4 ct5 cp0 cp1 cp2 cp3 cp4 cp5
   refine (CB.out w6 Bww6).mono ?_
   rintro e w7 ⟨csr, rfl, hlr, b7⟩
   obtain ⟨rk, rb, ri, rs, ral, rnl, rcl, ram, rnm, rcm, rfl⟩ := V.ten hlr
   have hS6 := (HL.out w6 Bww6).2.2
   have hzw7 := b7.size
   have htw7 := (b7.block (w.heap.size) (by omega)).trans htw6
   have hpw7 := (b7.block (w.heap.size + 1) (by omega)).trans hpw6
   have hzw7 := (b7.block (w.heap.size + 2) (by omega)).trans hzw6
   have Bww7 := Bww6.trans (b7.mono (by omega))
   have HR : Hid (∀ W, Below w7.heap.size w7 W → U.lies false W (OrNew S w6 w7) [.int .i64 rk, .bool rb, .int .i64 ri, .string rs, .slice ral rnl rcl, .slice ram rnm rcm] ∧ (∀ y, OrNew S w6 w7 y → y < W.heap.size)) := fun W hb => ⟨V.lies_keep (fun h => h) (fun y hy => hb.block y (hy.elim (fun h => by have := hS6 y h; omega) (fun h => h.2))) (fun _ h => h) _ hlr, fun y hy => Nat.lt_of_lt_of_le (hy.elim (fun h => by have := hS6 y h; omega) (fun h => h.2)) hb.size⟩
   have Brw7 : Below w7.heap.size w7 w7 := Below.refl _ _
   clear hlr
   have bzw8 : Below w7.heap.size w7 (w7.alloc (.cells #[.int .i64 rk, .bool rb, .int .i64 ri, .string rs, .slice ral rnl rcl, .slice ram rnm rcm] 25)) := one_belowG _ _
   have hltw8 : w7.heap.size < (w7.alloc (.cells #[.int .i64 rk, .bool rb, .int .i64 ri, .string rs, .slice ral rnl rcl, .slice ram rnm rcm] 25)).heap.size := by rw [alloc_size]; omega
   have htw8 := (bzw8.block (w.heap.size) (by omega)).trans htw7
   have hpw8 := (bzw8.block (w.heap.size + 1) (by omega)).trans hpw7
   have hzw8 := (bzw8.block (w.heap.size + 2) (by omega)).trans hzw7
   have Bww8 := Bww7.trans (bzw8.mono (by omega))
   have Brw8 := Brw7.trans (bzw8.mono (by omega))
   have hrw8 := heap_alloc_new w7 (.cells #[.int .i64 rk, .bool rb, .int .i64 ri, .string rs, .slice ral rnl rcl, .slice ram rnm rcm] 25)
   have ck0 : (w7.alloc (.cells #[.int .i64 rk, .bool rb, .int .i64 ri, .string rs, .slice ral rnl rcl, .slice ram rnm rcm] 25)).cell? ⟨w7.heap.size, 0, none⟩ = some (.int .i64 rk) := by rw [cell_of_block hrw8]; rfl
   have ck1 : (w7.alloc (.cells #[.int .i64 rk, .bool rb, .int .i64 ri, .string rs, .slice ral rnl rcl, .slice ram rnm rcm] 25)).cell? ⟨w7.heap.size, 1, none⟩ = some (.bool rb) := by rw [cell_of_block hrw8]; rfl
   have ck2 : (w7.alloc (.cells #[.int .i64 rk, .bool rb, .int .i64 ri, .string rs, .slice ral rnl rcl, .slice ram rnm rcm] 25)).cell? ⟨w7.heap.size, 2, none⟩ = some (.int .i64 ri) := by rw [cell_of_block hrw8]; rfl
   have ck3 : (w7.alloc (.cells #[.int .i64 rk, .bool rb, .int .i64 ri, .string rs, .slice ral rnl rcl, .slice ram rnm rcm] 25)).cell? ⟨w7.heap.size, 3, none⟩ = some (.string rs) := by rw [cell_of_block hrw8]; rfl
   have ck4 : (w7.alloc (.cells #[.int .i64 rk, .bool rb, .int .i64 ri, .string rs, .slice ral rnl rcl, .slice ram rnm rcm] 25)).cell? ⟨w7.heap.size, 4, none⟩ = some (.slice ral rnl rcl) := by rw [cell_of_block hrw8]; rfl
   have ck5 : (w7.alloc (.cells #[.int .i64 rk, .bool rb, .int .i64 ri, .string rs, .slice ral rnl rcl, .slice ram rnm rcm] 25)).cell? ⟨w7.heap.size, 5, none⟩ = some (.slice ram rnm rcm) := by rw [cell_of_block hrw8]; rfl
   go_wp2_with fail
   clear ck0 ck1 ck2 ck3 ck4 ck5
   generalize (w7.alloc (.cells #[.int .i64 rk, .bool rb, .int .i64 ri, .string rs, .slice ral rnl rcl, .slice ram rnm rcm] 25)) = w8 at *
   have C3 := rcheck_any false U 32 _ _ w8 (HR.out w8 Brw8).1 (HR.out w8 Brw8).2 (by omega)
   rw [H3] at C3
   refine C3.mono ?_
   rintro e w9 ⟨rfl, b9⟩
   clear C3
   have hzw9 := b9.size
   have htw9 := (b9.block (w.heap.size) (by omega)).trans htw8
   have hpw9 := (b9.block (w.heap.size + 1) (by omega)).trans hpw8
   have hzw9 := (b9.block (w.heap.size + 2) (by omega)).trans hzw8
   have hrw9 := (b9.block (w7.heap.size) (by omega)).trans hrw8
   have Bww9 := Bww8.trans (b9.mono (by omega))
   have Brw9 := Brw8.trans (b9.mono (by omega))
   have HE := hmk (wn_fin (M := w.heap.size + 2) (by omega) Bww9 (null_lies _ _))
   have cz0 : w9.cell? ⟨w.heap.size + 2, 0, none⟩ = some (.int .i64 0) := by rw [cell_of_block hzw9]; rfl
   have cz1 : w9.cell? ⟨w.heap.size + 2, 1, none⟩ = some (.bool false) := by rw [cell_of_block hzw9]; rfl
   have cz2 : w9.cell? ⟨w.heap.size + 2, 2, none⟩ = some (.int .i64 0) := by rw [cell_of_block hzw9]; rfl
   have cz3 : w9.cell? ⟨w.heap.size + 2, 3, none⟩ = some (.string ⟨#[]⟩) := by rw [cell_of_block hzw9]; rfl
   have cz4 : w9.cell? ⟨w.heap.size + 2, 4, none⟩ = some (.slice none 0 0) := by rw [cell_of_block hzw9]; rfl
   have cz5 : w9.cell? ⟨w.heap.size + 2, 5, none⟩ = some (.slice none 0 0) := by rw [cell_of_block hzw9]; rfl
   have fz := frozen_of_block hzw9
   go_wp2_with fail
   (try simp only [Exit.inBlock, Exit.then])
   refine bodyPost_ret (v := .tuple #[.agg #[.int .i64 0, .bool false, .int .i64 0, .string ⟨#[]⟩, .slice none 0 0, .slice none 0 0], .bool false, .int .i64 (c3 : Int)]) ?_ rfl ?_
   rotate_left
   ·rw [HF.out]
    exact ⟨[.int .i64 0, .bool false, .int .i64 0, .string ⟨#[]⟩, .slice none 0 0, .slice none 0 0], rfl, HE.out.1, HE.out.2⟩
   ·rw [results_ctt rfl]
    go_simp
  have HF : Hid (dffF t p = (U, true, 0)) := by show _ = _; rw [HY.out, finF, if_pos h3]; rfl
  have H3 := h3
  have hcl := (ok_chk (D := 32) (by omega) h3).cln
  clear h3
  have ck0 : (((w.alloc (.cells #[.int .i64 tk, .bool tb, .int .i64 ti, .string ts, .slice tal tnl tcl, .slice tam tnm tcm] 25)).alloc (.cells #[.int .i64 pk, .bool pb, .int .i64 pi, .string ps, .slice pal pnl pcl, .slice pam pnm pcm] 25)).alloc (.cells #[.int .i64 0, .bool false, .int .i64 0, .string ⟨#[]⟩, .slice none 0 0, .slice none 0 0] 25)).cell? ⟨w.heap.size, 0, none⟩ = some (.int .i64 tk) := by rw [cell_of_block htw3]; rfl
  have ck1 : (((w.alloc (.cells #[.int .i64 tk, .bool tb, .int .i64 ti, .string ts, .slice tal tnl tcl, .slice tam tnm tcm] 25)).alloc (.cells #[.int .i64 pk, .bool pb, .int .i64 pi, .string ps, .slice pal pnl pcl, .slice pam pnm pcm] 25)).alloc (.cells #[.int .i64 0, .bool false, .int .i64 0, .string ⟨#[]⟩, .slice none 0 0, .slice none 0 0] 25)).cell? ⟨w.heap.size, 1, none⟩ = some (.bool tb) := by rw [cell_of_block htw3]; rfl
  have ck2 : (((w.alloc (.cells #[.int .i64 tk, .bool tb, .int .i64 ti, .string ts, .slice tal tnl tcl, .slice tam tnm tcm] 25)).alloc (.cells #[.int .i64 pk, .bool pb, .int .i64 pi, .string ps, .slice pal pnl pcl, .slice pam pnm pcm] 25)).alloc (.cells #[.int .i64 0, .bool false, .int .i64 0, .string ⟨#[]⟩, .slice none 0 0, .slice none 0 0] 25)).cell? ⟨w.heap.size, 2, none⟩ = some (.int .i64 ti) := by rw [cell_of_block htw3]; rfl
  have ck3 : (((w.alloc (.cells #[.int .i64 tk, .bool tb, .int .i64 ti, .string ts, .slice tal tnl tcl, .slice tam tnm tcm] 25)).alloc (.cells #[.int .i64 pk, .bool pb, .int .i64 pi, .string ps, .slice pal pnl pcl, .slice pam pnm pcm] 25)).alloc (.cells #[.int .i64 0, .bool false, .int .i64 0, .string ⟨#[]⟩, .slice none 0 0, .slice none 0 0] 25)).cell? ⟨w.heap.size, 3, none⟩ = some (.string ts) := by rw [cell_of_block htw3]; rfl
  have ck4 : (((w.alloc (.cells #[.int .i64 tk, .bool tb, .int .i64 ti, .string ts, .slice tal tnl tcl, .slice tam tnm tcm] 25)).alloc (.cells #[.int .i64 pk, .bool pb, .int .i64 pi, .string ps, .slice pal pnl pcl, .slice pam pnm pcm] 25)).alloc (.cells #[.int .i64 0, .bool false, .int .i64 0, .string ⟨#[]⟩, .slice none 0 0, .slice none 0 0] 25)).cell? ⟨w.heap.size, 4, none⟩ = some (.slice tal tnl tcl) := by rw [cell_of_block htw3]; rfl
  have ck5 : (((w.alloc (.cells #[.int .i64 tk, .bool tb, .int .i64 ti, .string ts, .slice tal tnl tcl, .slice tam tnm tcm] 25)).alloc (.cells #[.int .i64 pk, .bool pb, .int .i64 pi, .string ps, .slice pal pnl pcl, .slice pam pnm pcm] 25)).alloc (.cells #[.int .i64 0, .bool false, .int .i64 0, .string ⟨#[]⟩, .slice none 0 0, .slice none 0 0] 25)).cell? ⟨w.heap.size, 5, none⟩ = some (.slice tam tnm tcm) := by rw [cell_of_block htw3]; rfl
  go_enter Tryd.func7, Tryd.ntmps7
  go_wp2_with fail
  clear ck0 ck1 ck2 ck3 ck4 ck5
  generalize (((w.alloc (.cells #[.int .i64 tk, .bool tb, .int .i64 ti, .string ts, .slice tal tnl tcl, .slice tam tnm tcm] 25)).alloc (.cells #[.int .i64 pk, .bool pb, .int .i64 pi, .string ps, .slice pal pnl pcl, .slice pam pnm pcm] 25)).alloc (.cells #[.int .i64 0, .bool false, .int .i64 0, .string ⟨#[]⟩, .slice none 0 0, .slice none 0 0] 25)) = w3 at *
  refine (C1.out w3 Bww3).mono ?_
  rintro e w4 ⟨rfl, b4⟩
  have hzw4 := b4.size
  have htw4 := (b4.block (w.heap.size) (by omega)).trans htw3
  have hpw4 := (b4.block (w.heap.size + 1) (by omega)).trans hpw3
  have hzw4 := (b4.block (w.heap.size + 2) (by omega)).trans hzw3
  have Bww4 := Bww3.trans (b4.mono (by omega))
  have ck0 : w4.cell? ⟨w.heap.size + 1, 0, none⟩ = some (.int .i64 pk) := by rw [cell_of_block hpw4]; rfl
  have ck1 : w4.cell? ⟨w.heap.size + 1, 1, none⟩ = some (.bool pb) := by rw [cell_of_block hpw4]; rfl
  have ck2 : w4.cell? ⟨w.heap.size + 1, 2, none⟩ = some (.int .i64 pi) := by rw [cell_of_block hpw4]; rfl
  have ck3 : w4.cell? ⟨w.heap.size + 1, 3, none⟩ = some (.string ps) := by rw [cell_of_block hpw4]; rfl
  have ck4 : w4.cell? ⟨w.heap.size + 1, 4, none⟩ = some (.slice pal pnl pcl) := by rw [cell_of_block hpw4]; rfl
  have ck5 : w4.cell? ⟨w.heap.size + 1, 5, none⟩ = some (.slice pam pnm pcm) := by rw [cell_of_block hpw4]; rfl
  go_wp2_with fail
  clear ck0 ck1 ck2 ck3 ck4 ck5
  refine (C2.out w4 Bww4).mono ?_
  rintro e w5 ⟨rfl, b5⟩
  have hzw5 := b5.size
  have htw5 := (b5.block (w.heap.size) (by omega)).trans htw4
  have hpw5 := (b5.block (w.heap.size + 1) (by omega)).trans hpw4
  have hzw5 := (b5.block (w.heap.size + 2) (by omega)).trans hzw4
  have Bww5 := Bww4.trans (b5.mono (by omega))
  have ct0 : w5.cell? ⟨w.heap.size, 0, none⟩ = some (.int .i64 tk) := by rw [cell_of_block htw5]; rfl
  have ct1 : w5.cell? ⟨w.heap.size, 1, none⟩ = some (.bool tb) := by rw [cell_of_block htw5]; rfl
  have ct2 : w5.cell? ⟨w.heap.size, 2, none⟩ = some (.int .i64 ti) := by rw [cell_of_block htw5]; rfl
  have ct3 : w5.cell? ⟨w.heap.size, 3, none⟩ = some (.string ts) := by rw [cell_of_block htw5]; rfl
  have ct4 : w5.cell? ⟨w.heap.size, 4, none⟩ = some (.slice tal tnl tcl) := by rw [cell_of_block htw5]; rfl
  have ct5 : w5.cell? ⟨w.heap.size, 5, none⟩ = some (.slice tam tnm tcm) := by rw [cell_of_block htw5]; rfl
  have cp0 : w5.cell? ⟨w.heap.size + 1, 0, none⟩ = some (.int .i64 pk) := by rw [cell_of_block hpw5]; rfl
  have cp1 : w5.cell? ⟨w.heap.size + 1, 1, none⟩ = some (.bool pb) := by rw [cell_of_block hpw5]; rfl
  have cp2 : w5.cell? ⟨w.heap.size + 1, 2, none⟩ = some (.int .i64 pi) := by rw [cell_of_block hpw5]; rfl
  have cp3 : w5.cell? ⟨w.heap.size + 1, 3, none⟩ = some (.string ps) := by rw [cell_of_block hpw5]; rfl
  have cp4 : w5.cell? ⟨w.heap.size + 1, 4, none⟩ = some (.slice pal pnl pcl) := by rw [cell_of_block hpw5]; rfl
  have cp5 : w5.cell? ⟨w.heap.size + 1, 5, none⟩ = some (.slice pam pnm pcm) := by rw [cell_of_block hpw5]; rfl
  go_wp2_with fail
  clear ct0 ct1 ct2 ct3 ct4 ct5 cp0 cp1 cp2 cp3 cp4 cp5
  refine (leads_any p t S _ _ w5 ot op (HL.out w5 Bww5).1 (HL.out w5 Bww5).2.1 (HL.out w5 Bww5).2.2).mono ?_
  rintro e w6 ⟨rfl, b6⟩
  rw [hld]
  have hzw6 := b6.size
  have htw6 := (b6.block (w.heap.size) (by omega)).trans htw5
  have hpw6 := (b6.block (w.heap.size + 1) (by omega)).trans hpw5
  have hzw6 := (b6.block (w.heap.size + 2) (by omega)).trans hzw5
  have Bww6 := Bww5.trans (b6.mono (by omega))
  have ct0 : w6.cell? ⟨w.heap.size, 0, none⟩ = some (.int .i64 tk) := by rw [cell_of_block htw6]; rfl
  have ct1 : w6.cell? ⟨w.heap.size, 1, none⟩ = some (.bool tb) := by rw [cell_of_block htw6]; rfl
  have ct2 : w6.cell? ⟨w.heap.size, 2, none⟩ = some (.int .i64 ti) := by rw [cell_of_block htw6]; rfl
  have ct3 : w6.cell? ⟨w.heap.size, 3, none⟩ = some (.string ts) := by rw [cell_of_block htw6]; rfl
  have ct4 : w6.cell? ⟨w.heap.size, 4, none⟩ = some (.slice tal tnl tcl) := by rw [cell_of_block htw6]; rfl
  have ct5 : w6.cell? ⟨w.heap.size, 5, none⟩ = some (.slice tam tnm tcm) := by rw [cell_of_block htw6]; rfl
  have cp0 : w6.cell? ⟨w.heap.size + 1, 0, none⟩ = some (.int .i64 pk) := by rw [cell_of_block hpw6]; rfl
  have cp1 : w6.cell? ⟨w.heap.size + 1, 1, none⟩ = some (.bool pb) := by rw [cell_of_block hpw6]; rfl
  have cp2 : w6.cell? ⟨w.heap.size + 1, 2, none⟩ = some (.int .i64 pi) := by rw [cell_of_block hpw6]; rfl
  have cp3 : w6.cell? ⟨w.heap.size + 1, 3, none⟩ = some (.string ps) := by rw [cell_of_block hpw6]; rfl
  have cp4 : w6.cell? ⟨w.heap.size + 1, 4, none⟩ = some (.slice pal pnl pcl) := by rw [cell_of_block hpw6]; rfl
  have cp5 : w6.cell? ⟨w.heap.size + 1, 5, none⟩ = some (.slice pam pnm pcm) := by rw [cell_of_block hpw6]; rfl
  go_wp2_with fail
  clear ct0 ct1 ct2 ct3 ct4 ct5 cp0 cp1 cp2 cp3 cp4 cp5
  refine (CB.out w6 Bww6).mono ?_
  rintro e w7 ⟨csr, rfl, hlr, b7⟩
  obtain ⟨rk, rb, ri, rs, ral, rnl, rcl, ram, rnm, rcm, rfl⟩ := V.ten hlr
  have hS6 := (HL.out w6 Bww6).2.2
  have hzw7 := b7.size
  have htw7 := (b7.block (w.heap.size) (by omega)).trans htw6
  have hpw7 := (b7.block (w.heap.size + 1) (by omega)).trans hpw6
  have hzw7 := (b7.block (w.heap.size + 2) (by omega)).trans hzw6
  have Bww7 := Bww6.trans (b7.mono (by omega))
  have HR : Hid (∀ W, Below w7.heap.size w7 W → U.lies false W (OrNew S w6 w7) [.int .i64 rk, .bool rb, .int .i64 ri, .string rs, .slice ral rnl rcl, .slice ram rnm rcm] ∧ (∀ y, OrNew S w6 w7 y → y < W.heap.size)) := fun W hb => ⟨V.lies_keep (fun h => h) (fun y hy => hb.block y (hy.elim (fun h => by have := hS6 y h; omega) (fun h => h.2))) (fun _ h => h) _ hlr, fun y hy => Nat.lt_of_lt_of_le (hy.elim (fun h => by have := hS6 y h; omega) (fun h => h.2)) hb.size⟩
  have Brw7 : Below w7.heap.size w7 w7 := Below.refl _ _
  clear hlr
  have bzw8 : Below w7.heap.size w7 (w7.alloc (.cells #[.int .i64 rk, .bool rb, .int .i64 ri, .string rs, .slice ral rnl rcl, .slice ram rnm rcm] 25)) := one_belowG _ _
  have hltw8 : w7.heap.size < (w7.alloc (.cells #[.int .i64 rk, .bool rb, .int .i64 ri, .string rs, .slice ral rnl rcl, .slice ram rnm rcm] 25)).heap.size := by rw [alloc_size]; omega
  have htw8 := (bzw8.block (w.heap.size) (by omega)).trans htw7
  have hpw8 := (bzw8.block (w.heap.size + 1) (by omega)).trans hpw7
  have hzw8 := (bzw8.block (w.heap.size + 2) (by omega)).trans hzw7
  have Bww8 := Bww7.trans (bzw8.mono (by omega))
  have Brw8 := Brw7.trans (bzw8.mono (by omega))
  have hrw8 := heap_alloc_new w7 (.cells #[.int .i64 rk, .bool rb, .int .i64 ri, .string rs, .slice ral rnl rcl, .slice ram rnm rcm] 25)
  have ck0 : (w7.alloc (.cells #[.int .i64 rk, .bool rb, .int .i64 ri, .string rs, .slice ral rnl rcl, .slice ram rnm rcm] 25)).cell? ⟨w7.heap.size, 0, none⟩ = some (.int .i64 rk) := by rw [cell_of_block hrw8]; rfl
  have ck1 : (w7.alloc (.cells #[.int .i64 rk, .bool rb, .int .i64 ri, .string rs, .slice ral rnl rcl, .slice ram rnm rcm] 25)).cell? ⟨w7.heap.size, 1, none⟩ = some (.bool rb) := by rw [cell_of_block hrw8]; rfl
  have ck2 : (w7.alloc (.cells #[.int .i64 rk, .bool rb, .int .i64 ri, .string rs, .slice ral rnl rcl, .slice ram rnm rcm] 25)).cell? ⟨w7.heap.size, 2, none⟩ = some (.int .i64 ri) := by rw [cell_of_block hrw8]; rfl
  have ck3 : (w7.alloc (.cells #[.int .i64 rk, .bool rb, .int .i64 ri, .string rs, .slice ral rnl rcl, .slice ram rnm rcm] 25)).cell? ⟨w7.heap.size, 3, none⟩ = some (.string rs) := by rw [cell_of_block hrw8]; rfl
  have ck4 : (w7.alloc (.cells #[.int .i64 rk, .bool rb, .int .i64 ri, .string rs, .slice ral rnl rcl, .slice ram rnm rcm] 25)).cell? ⟨w7.heap.size, 4, none⟩ = some (.slice ral rnl rcl) := by rw [cell_of_block hrw8]; rfl
  have ck5 : (w7.alloc (.cells #[.int .i64 rk, .bool rb, .int .i64 ri, .string rs, .slice ral rnl rcl, .slice ram rnm rcm] 25)).cell? ⟨w7.heap.size, 5, none⟩ = some (.slice ram rnm rcm) := by rw [cell_of_block hrw8]; rfl
  go_wp2_with fail
  clear ck0 ck1 ck2 ck3 ck4 ck5
  generalize (w7.alloc (.cells #[.int .i64 rk, .bool rb, .int .i64 ri, .string rs, .slice ral rnl rcl, .slice ram rnm rcm] 25)) = w8 at *
  have C3 := rcheck_any false U 32 _ _ w8 (HR.out w8 Brw8).1 (HR.out w8 Brw8).2 (by omega)
  rw [H3] at C3
  refine C3.mono ?_
  rintro e w9 ⟨rfl, b9⟩
  clear C3
  have hzw9 := b9.size
  have htw9 := (b9.block (w.heap.size) (by omega)).trans htw8
  have hpw9 := (b9.block (w.heap.size + 1) (by omega)).trans hpw8
  have hzw9 := (b9.block (w.heap.size + 2) (by omega)).trans hzw8
  have hrw9 := (b9.block (w7.heap.size) (by omega)).trans hrw8
  have Bww9 := Bww8.trans (b9.mono (by omega))
  have Brw9 := Brw8.trans (b9.mono (by omega))
  have ck0 : w9.cell? ⟨w7.heap.size, 0, none⟩ = some (.int .i64 rk) := by rw [cell_of_block hrw9]; rfl
  have ck1 : w9.cell? ⟨w7.heap.size, 1, none⟩ = some (.bool rb) := by rw [cell_of_block hrw9]; rfl
  have ck2 : w9.cell? ⟨w7.heap.size, 2, none⟩ = some (.int .i64 ri) := by rw [cell_of_block hrw9]; rfl
  have ck3 : w9.cell? ⟨w7.heap.size, 3, none⟩ = some (.string rs) := by rw [cell_of_block hrw9]; rfl
  have ck4 : w9.cell? ⟨w7.heap.size, 4, none⟩ = some (.slice ral rnl rcl) := by rw [cell_of_block hrw9]; rfl
  have ck5 : w9.cell? ⟨w7.heap.size, 5, none⟩ = some (.slice ram rnm rcm) := by rw [cell_of_block hrw9]; rfl
  go_wp2_with fail
  clear ck0 ck1 ck2 ck3 ck4 ck5
  have CC := rclone36_any U false (OrNew S w6 w7) _ w9 (HR.out w9 Brw9).1 (HR.out w9 Brw9).2 (by omega)
  rw [hcl] at CC
  refine CC.mono ?_
  rintro e w10 ⟨csn, rfl, hln, b10⟩
  clear CC
  obtain ⟨nk, nb, ni, ns, nal, nnl, ncl, nam, nnm, ncm, rfl⟩ := V.ten hln
  have hzw10 := b10.size
  have htw10 := (b10.block (w.heap.size) (by omega)).trans htw9
  have hpw10 := (b10.block (w.heap.size + 1) (by omega)).trans hpw9
  have hzw10 := (b10.block (w.heap.size + 2) (by omega)).trans hzw9
  have hrw10 := (b10.block (w7.heap.size) (by omega)).trans hrw9
  have Bww10 := Bww9.trans (b10.mono (by omega))
  have Brw10 := Brw9.trans (b10.mono (by omega))
  have HE := hmk (wn_fin (M := w.heap.size + 2) (by omega) Bww10 (V.lies_keep (fun h => h) (fun _ _ => rfl) (fun y hy => ⟨by have := hy.1; omega, by have := hy.1; omega, hy.2⟩) _ hln))
  have cz0 : w10.cell? ⟨w.heap.size + 2, 0, none⟩ = some (.int .i64 0) := by rw [cell_of_block hzw10]; rfl
  have cz1 : w10.cell? ⟨w.heap.size + 2, 1, none⟩ = some (.bool false) := by rw [cell_of_block hzw10]; rfl
  have cz2 : w10.cell? ⟨w.heap.size + 2, 2, none⟩ = some (.int .i64 0) := by rw [cell_of_block hzw10]; rfl
  have cz3 : w10.cell? ⟨w.heap.size + 2, 3, none⟩ = some (.string ⟨#[]⟩) := by rw [cell_of_block hzw10]; rfl
  have cz4 : w10.cell? ⟨w.heap.size + 2, 4, none⟩ = some (.slice none 0 0) := by rw [cell_of_block hzw10]; rfl
  have cz5 : w10.cell? ⟨w.heap.size + 2, 5, none⟩ = some (.slice none 0 0) := by rw [cell_of_block hzw10]; rfl
  have fz := frozen_of_block hzw10
  go_wp2_with fail
  (try simp only [Exit.inBlock, Exit.then])
  refine bodyPost_ret (v := .tuple #[.agg #[.int .i64 nk, .bool nb, .int .i64 ni, .string ns, .slice nal nnl ncl, .slice nam nnm ncm], .bool true, .int .i64 0]) ?_ rfl ?_
  rotate_left
  ·rw [HF.out]
   exact ⟨[.int .i64 nk, .bool nb, .int .i64 ni, .string ns, .slice nal nnl ncl, .slice nam nnm ncm], rfl, HE.out.1, HE.out.2⟩
  ·rw [results_ctt rfl]
   go_simp
end Go.Proofs.YtjfldbmopjojdabDoor
