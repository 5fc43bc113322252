import Derived.Test.YtjfldbmopjojdabDoorBtwF
set_option linter.unusedSimpArgs false
set_option linter.unusedVariables false
namespace Go.Proofs.YtjfldbmopjojdabDoor
open Go.RowKit Go.Lib
set_option maxHeartbeats 8000000 in
set_option maxRecDepth 100000 in
theorem diff_any (low : Addr) (a b : V) (S : Nat → Prop) (cs ds : List Value) (w : World) (hT : Tb w) (hE : ErrAt low w) (hv : a.lies false w S cs) (hx : b.lies false w S ds) (hS : ∀ b, S b → b < w.heap.size) (hwt : a.wt ≤ 2147483648) (hwp : b.wt ≤ 2147483648) :
 Calls Tryd.prog 6 #[.agg cs.toArray, .agg ds.toArray] w (DgPost (dffF a b) w) := by
 obtain ⟨tk, tb, ti, ts, tal, tnl, tcl, tam, tnm, tcm, rfl⟩ := V.ten hv
 obtain ⟨pk, pb, pi, ps, pal, pnl, pcl, pam, pnm, pcm, rfl⟩ := V.ten hx
 have HL : Hid (∀ W, Below w.heap.size w W → a.lies false W S [.int .i64 tk, .bool tb, .int .i64 ti, .string ts, .slice tal tnl tcl, .slice tam tnm tcm] ∧ b.lies false W S [.int .i64 pk, .bool pb, .int .i64 pi, .string ps, .slice pal pnl pcl, .slice pam pnm pcm] ∧ (∀ b, S b → b < W.heap.size)) := fun W hB => ⟨V.lies_keep (fun h => h) (fun x hx => hB.block x (hS x hx)) (fun x hx => hx) _ hv, V.lies_keep (fun h => h) (fun x hx => hB.block x (hS x hx)) (fun x hx => hx) _ hx, fun b hb => Nat.lt_of_lt_of_le (hS b hb) hB.size⟩
 have HT : Hid (∀ W, Below w.heap.size w W → Tb W) := fun W hb => hT.below hb hT.z
 have HE0 : Hid (∀ W, Below w.heap.size w W → ErrAt low W) := fun W hb => hE.below hb hE.z
 have Bww3 : Below w.heap.size w (((w.alloc (.cells #[.int .i64 tk, .bool tb, .int .i64 ti, .string ts, .slice tal tnl tcl, .slice tam tnm tcm] 25)).alloc (.cells #[.int .i64 pk, .bool pb, .int .i64 pi, .string ps, .slice pal pnl pcl, .slice pam pnm pcm] 25)).alloc (.cells #[.int .i64 0, .bool false, .int .i64 0, .string ⟨#[]⟩, .slice none 0 0, .slice none 0 0] 25)) := three_below w _ _ _
 have hz3 : (((w.alloc (.cells #[.int .i64 tk, .bool tb, .int .i64 ti, .string ts, .slice tal tnl tcl, .slice tam tnm tcm] 25)).alloc (.cells #[.int .i64 pk, .bool pb, .int .i64 pi, .string ps, .slice pal pnl pcl, .slice pam pnm pcm] 25)).alloc (.cells #[.int .i64 0, .bool false, .int .i64 0, .string ⟨#[]⟩, .slice none 0 0, .slice none 0 0] 25)).heap.size = w.heap.size + 3 := by rw [alloc_size, alloc_size, alloc_size]
 obtain ⟨htw3, hpw3, hzw3⟩ := three_allocs w (.cells #[.int .i64 tk, .bool tb, .int .i64 ti, .string ts, .slice tal tnl tcl, .slice tam tnm tcm] 25) (.cells #[.int .i64 pk, .bool pb, .int .i64 pi, .string ps, .slice pal pnl pcl, .slice pam pnm pcm] 25) (.cells #[.int .i64 0, .bool false, .int .i64 0, .string ⟨#[]⟩, .slice none 0 0, .slice none 0 0] 25)
 have C1 : Hid (∀ W, Below w.heap.size w W → Calls Tryd.prog 13 #[.agg #[.int .i64 tk, .bool tb, .int .i64 ti, .string ts, .slice tal tnl tcl, .slice tam tnm tcm], .agg #[.int .i64 pk, .bool pb, .int .i64 pi, .string ps, .slice pal pnl pcl, .slice pam pnm pcm]] W (NPost (bothE a b) W)) := fun W hb => both_any a b S _ _ W (HT.out W hb) (HL.out W hb).1 (HL.out W hb).2.1 (HL.out W hb).2.2 hwt hwp
 clear hv hx hT hE
 by_cases h1 : bothE a b = 0
 rotate_left
 ·have HF : Hid (dffF a b = (nullV, false, (bothE a b : Int))) := by show _ = _; rw [dffF, if_neg h1]
  generalize bothE a b = c1 at *
  have y1 : ¬ (c1 : Int) = 0 := by omega
  have yb1 : ((c1 : Int) != 0) = true := by simp; omega
  have ck0 : (((w.alloc (.cells #[.int .i64 tk, .bool tb, .int .i64 ti, .string ts, .slice tal tnl tcl, .slice tam tnm tcm] 25)).alloc (.cells #[.int .i64 pk, .bool pb, .int .i64 pi, .string ps, .slice pal pnl pcl, .slice pam pnm pcm] 25)).alloc (.cells #[.int .i64 0, .bool false, .int .i64 0, .string ⟨#[]⟩, .slice none 0 0, .slice none 0 0] 25)).cell? ⟨w.heap.size, 0, none⟩ = some (.int .i64 tk) := by rw [cell_of_block htw3]; rfl
  have ck1 : (((w.alloc (.cells #[.int .i64 tk, .bool tb, .int .i64 ti, .string ts, .slice tal tnl tcl, .slice tam tnm tcm] 25)).alloc (.cells #[.int .i64 pk, .bool pb, .int .i64 pi, .string ps, .slice pal pnl pcl, .slice pam pnm pcm] 25)).alloc (.cells #[.int .i64 0, .bool false, .int .i64 0, .string ⟨#[]⟩, .slice none 0 0, .slice none 0 0] 25)).cell? ⟨w.heap.size, 1, none⟩ = some (.bool tb) := by rw [cell_of_block htw3]; rfl
  have ck2 : (((w.alloc (.cells #[.int .i64 tk, .bool tb, .int .i64 ti, .string ts, .slice tal tnl tcl, .slice tam tnm tcm] 25)).alloc (.cells #[.int .i64 pk, .bool pb, .int .i64 pi, .string ps, .slice pal pnl pcl, .slice pam pnm pcm] 25)).alloc (.cells #[.int .i64 0, .bool false, .int .i64 0, .string ⟨#[]⟩, .slice none 0 0, .slice none 0 0] 25)).cell? ⟨w.heap.size, 2, none⟩ = some (.int .i64 ti) := by rw [cell_of_block htw3]; rfl
  have ck3 : (((w.alloc (.cells #[.int .i64 tk, .bool tb, .int .i64 ti, .string ts, .slice tal tnl tcl, .slice tam tnm tcm] 25)).alloc (.cells #[.int .i64 pk, .bool pb, .int .i64 pi, .string ps, .slice pal pnl pcl, .slice pam pnm pcm] 25)).alloc (.cells #[.int .i64 0, .bool false, .int .i64 0, .string ⟨#[]⟩, .slice none 0 0, .slice none 0 0] 25)).cell? ⟨w.heap.size, 3, none⟩ = some (.string ts) := by rw [cell_of_block htw3]; rfl
  have ck4 : (((w.alloc (.cells #[.int .i64 tk, .bool tb, .int .i64 ti, .string ts, .slice tal tnl tcl, .slice tam tnm tcm] 25)).alloc (.cells #[.int .i64 pk, .bool pb, .int .i64 pi, .string ps, .slice pal pnl pcl, .slice pam pnm pcm] 25)).alloc (.cells #[.int .i64 0, .bool false, .int .i64 0, .string ⟨#[]⟩, .slice none 0 0, .slice none 0 0] 25)).cell? ⟨w.heap.size, 4, none⟩ = some (.slice tal tnl tcl) := by rw [cell_of_block htw3]; rfl
  have ck5 : (((w.alloc (.cells #[.int .i64 tk, .bool tb, .int .i64 ti, .string ts, .slice tal tnl tcl, .slice tam tnm tcm] 25)).alloc (.cells #[.int .i64 pk, .bool pb, .int .i64 pi, .string ps, .slice pal pnl pcl, .slice pam pnm pcm] 25)).alloc (.cells #[.int .i64 0, .bool false, .int .i64 0, .string ⟨#[]⟩, .slice none 0 0, .slice none 0 0] 25)).cell? ⟨w.heap.size, 5, none⟩ = some (.slice tam tnm tcm) := by rw [cell_of_block htw3]; rfl
  have cl0 : (((w.alloc (.cells #[.int .i64 tk, .bool tb, .int .i64 ti, .string ts, .slice tal tnl tcl, .slice tam tnm tcm] 25)).alloc (.cells #[.int .i64 pk, .bool pb, .int .i64 pi, .string ps, .slice pal pnl pcl, .slice pam pnm pcm] 25)).alloc (.cells #[.int .i64 0, .bool false, .int .i64 0, .string ⟨#[]⟩, .slice none 0 0, .slice none 0 0] 25)).cell? ⟨w.heap.size + 1, 0, none⟩ = some (.int .i64 pk) := by rw [cell_of_block hpw3]; rfl
  have cl1 : (((w.alloc (.cells #[.int .i64 tk, .bool tb, .int .i64 ti, .string ts, .slice tal tnl tcl, .slice tam tnm tcm] 25)).alloc (.cells #[.int .i64 pk, .bool pb, .int .i64 pi, .string ps, .slice pal pnl pcl, .slice pam pnm pcm] 25)).alloc (.cells #[.int .i64 0, .bool false, .int .i64 0, .string ⟨#[]⟩, .slice none 0 0, .slice none 0 0] 25)).cell? ⟨w.heap.size + 1, 1, none⟩ = some (.bool pb) := by rw [cell_of_block hpw3]; rfl
  have cl2 : (((w.alloc (.cells #[.int .i64 tk, .bool tb, .int .i64 ti, .string ts, .slice tal tnl tcl, .slice tam tnm tcm] 25)).alloc (.cells #[.int .i64 pk, .bool pb, .int .i64 pi, .string ps, .slice pal pnl pcl, .slice pam pnm pcm] 25)).alloc (.cells #[.int .i64 0, .bool false, .int .i64 0, .string ⟨#[]⟩, .slice none 0 0, .slice none 0 0] 25)).cell? ⟨w.heap.size + 1, 2, none⟩ = some (.int .i64 pi) := by rw [cell_of_block hpw3]; rfl
  have cl3 : (((w.alloc (.cells #[.int .i64 tk, .bool tb, .int .i64 ti, .string ts, .slice tal tnl tcl, .slice tam tnm tcm] 25)).alloc (.cells #[.int .i64 pk, .bool pb, .int .i64 pi, .string ps, .slice pal pnl pcl, .slice pam pnm pcm] 25)).alloc (.cells #[.int .i64 0, .bool false, .int .i64 0, .string ⟨#[]⟩, .slice none 0 0, .slice none 0 0] 25)).cell? ⟨w.heap.size + 1, 3, none⟩ = some (.string ps) := by rw [cell_of_block hpw3]; rfl
  have cl4 : (((w.alloc (.cells #[.int .i64 tk, .bool tb, .int .i64 ti, .string ts, .slice tal tnl tcl, .slice tam tnm tcm] 25)).alloc (.cells #[.int .i64 pk, .bool pb, .int .i64 pi, .string ps, .slice pal pnl pcl, .slice pam pnm pcm] 25)).alloc (.cells #[.int .i64 0, .bool false, .int .i64 0, .string ⟨#[]⟩, .slice none 0 0, .slice none 0 0] 25)).cell? ⟨w.heap.size + 1, 4, none⟩ = some (.slice pal pnl pcl) := by rw [cell_of_block hpw3]; rfl
  have cl5 : (((w.alloc (.cells #[.int .i64 tk, .bool tb, .int .i64 ti, .string ts, .slice tal tnl tcl, .slice tam tnm tcm] 25)).alloc (.cells #[.int .i64 pk, .bool pb, .int .i64 pi, .string ps, .slice pal pnl pcl, .slice pam pnm pcm] 25)).alloc (.cells #[.int .i64 0, .bool false, .int .i64 0, .string ⟨#[]⟩, .slice none 0 0, .slice none 0 0] 25)).cell? ⟨w.heap.size + 1, 5, none⟩ = some (.slice pam pnm pcm) := by rw [cell_of_block hpw3]; rfl
  go_enter_defers Tryd.func6, Tryd.ntmps6
  go_wp2_with fail
  clear ck0 ck1 ck2 ck3 ck4 ck5 cl0 cl1 cl2 cl3 cl4 cl5
  generalize (((w.alloc (.cells #[.int .i64 tk, .bool tb, .int .i64 ti, .string ts, .slice tal tnl tcl, .slice tam tnm tcm] 25)).alloc (.cells #[.int .i64 pk, .bool pb, .int .i64 pi, .string ps, .slice pal pnl pcl, .slice pam pnm pcm] 25)).alloc (.cells #[.int .i64 0, .bool false, .int .i64 0, .string ⟨#[]⟩, .slice none 0 0, .slice none 0 0] 25)) = w3 at *
  refine (C1.out w3 Bww3).mono ?_
  rintro e w4 ⟨rfl, b4⟩
  have hzw4 := b4.size
  have htw4 := (b4.block (w.heap.size) (by omega)).trans htw3
  have hpw4 := (b4.block (w.heap.size + 1) (by omega)).trans hpw3
  have hzw4 := (b4.block (w.heap.size + 2) (by omega)).trans hzw3
  have Bww4 := Bww3.trans (b4.mono (by omega))
  have cz0 : w4.cell? ⟨w.heap.size + 2, 0, none⟩ = some (.int .i64 0) := by rw [cell_of_block hzw4]; rfl
  have cz1 : w4.cell? ⟨w.heap.size + 2, 1, none⟩ = some (.bool false) := by rw [cell_of_block hzw4]; rfl
  have cz2 : w4.cell? ⟨w.heap.size + 2, 2, none⟩ = some (.int .i64 0) := by rw [cell_of_block hzw4]; rfl
  have cz3 : w4.cell? ⟨w.heap.size + 2, 3, none⟩ = some (.string ⟨#[]⟩) := by rw [cell_of_block hzw4]; rfl
  have cz4 : w4.cell? ⟨w.heap.size + 2, 4, none⟩ = some (.slice none 0 0) := by rw [cell_of_block hzw4]; rfl
  have cz5 : w4.cell? ⟨w.heap.size + 2, 5, none⟩ = some (.slice none 0 0) := by rw [cell_of_block hzw4]; rfl
  have fz := frozen_of_block hzw4
  have hz7 := box_six hzw4 (.int .i64 0) (.bool false) (.int .i64 0) (.string ⟨#[]⟩) (.slice none 0 0) (.slice none 0 0)
  have B7 := hmk (Below.set6 Bww4 (M := w.heap.size + 2) (by omega) 0 1 2 3 4 5 (.int .i64 0) (.bool false) (.int .i64 0) (.string ⟨#[]⟩) (.slice none 0 0) (.slice none 0 0))
  have cy0 : ((((((w4.setCell ⟨w.heap.size + 2, 0, none⟩ (.int .i64 0)).setCell ⟨w.heap.size + 2, 1, none⟩ (.bool false)).setCell ⟨w.heap.size + 2, 2, none⟩ (.int .i64 0)).setCell ⟨w.heap.size + 2, 3, none⟩ (.string ⟨#[]⟩)).setCell ⟨w.heap.size + 2, 4, none⟩ (.slice none 0 0)).setCell ⟨w.heap.size + 2, 5, none⟩ (.slice none 0 0)).cell? ⟨w.heap.size + 2, 0, none⟩ = some (.int .i64 0) := by rw [cell_of_block hz7]; rfl
  have cy1 : ((((((w4.setCell ⟨w.heap.size + 2, 0, none⟩ (.int .i64 0)).setCell ⟨w.heap.size + 2, 1, none⟩ (.bool false)).setCell ⟨w.heap.size + 2, 2, none⟩ (.int .i64 0)).setCell ⟨w.heap.size + 2, 3, none⟩ (.string ⟨#[]⟩)).setCell ⟨w.heap.size + 2, 4, none⟩ (.slice none 0 0)).setCell ⟨w.heap.size + 2, 5, none⟩ (.slice none 0 0)).cell? ⟨w.heap.size + 2, 1, none⟩ = some (.bool false) := by rw [cell_of_block hz7]; rfl
  have cy2 : ((((((w4.setCell ⟨w.heap.size + 2, 0, none⟩ (.int .i64 0)).setCell ⟨w.heap.size + 2, 1, none⟩ (.bool false)).setCell ⟨w.heap.size + 2, 2, none⟩ (.int .i64 0)).setCell ⟨w.heap.size + 2, 3, none⟩ (.string ⟨#[]⟩)).setCell ⟨w.heap.size + 2, 4, none⟩ (.slice none 0 0)).setCell ⟨w.heap.size + 2, 5, none⟩ (.slice none 0 0)).cell? ⟨w.heap.size + 2, 2, none⟩ = some (.int .i64 0) := by rw [cell_of_block hz7]; rfl
  have cy3 : ((((((w4.setCell ⟨w.heap.size + 2, 0, none⟩ (.int .i64 0)).setCell ⟨w.heap.size + 2, 1, none⟩ (.bool false)).setCell ⟨w.heap.size + 2, 2, none⟩ (.int .i64 0)).setCell ⟨w.heap.size + 2, 3, none⟩ (.string ⟨#[]⟩)).setCell ⟨w.heap.size + 2, 4, none⟩ (.slice none 0 0)).setCell ⟨w.heap.size + 2, 5, none⟩ (.slice none 0 0)).cell? ⟨w.heap.size + 2, 3, none⟩ = some (.string ⟨#[]⟩) := by rw [cell_of_block hz7]; rfl
  have cy4 : ((((((w4.setCell ⟨w.heap.size + 2, 0, none⟩ (.int .i64 0)).setCell ⟨w.heap.size + 2, 1, none⟩ (.bool false)).setCell ⟨w.heap.size + 2, 2, none⟩ (.int .i64 0)).setCell ⟨w.heap.size + 2, 3, none⟩ (.string ⟨#[]⟩)).setCell ⟨w.heap.size + 2, 4, none⟩ (.slice none 0 0)).setCell ⟨w.heap.size + 2, 5, none⟩ (.slice none 0 0)).cell? ⟨w.heap.size + 2, 4, none⟩ = some (.slice none 0 0) := by rw [cell_of_block hz7]; rfl
  have cy5 : ((((((w4.setCell ⟨w.heap.size + 2, 0, none⟩ (.int .i64 0)).setCell ⟨w.heap.size + 2, 1, none⟩ (.bool false)).setCell ⟨w.heap.size + 2, 2, none⟩ (.int .i64 0)).setCell ⟨w.heap.size + 2, 3, none⟩ (.string ⟨#[]⟩)).setCell ⟨w.heap.size + 2, 4, none⟩ (.slice none 0 0)).setCell ⟨w.heap.size + 2, 5, none⟩ (.slice none 0 0)).cell? ⟨w.heap.size + 2, 5, none⟩ = some (.slice none 0 0) := by rw [cell_of_block hz7]; rfl
  clear HL HT HE0 C1 htw3 hpw3 hzw3 Bww3 b4
  go_wp2_with fail
  have EE : DgPost (dffF a b) w (.returned (.tuple #[.agg #[.int .i64 0, .bool false, .int .i64 0, .string ⟨#[]⟩, .slice none 0 0, .slice none 0 0], .bool false, .int .i64 (c1 : Int)])) ((((((w4.setCell ⟨w.heap.size + 2, 0, none⟩ (.int .i64 0)).setCell ⟨w.heap.size + 2, 1, none⟩ (.bool false)).setCell ⟨w.heap.size + 2, 2, none⟩ (.int .i64 0)).setCell ⟨w.heap.size + 2, 3, none⟩ (.string ⟨#[]⟩)).setCell ⟨w.heap.size + 2, 4, none⟩ (.slice none 0 0)).setCell ⟨w.heap.size + 2, 5, none⟩ (.slice none 0 0)) := by
   rw [HF.out]
   exact ⟨[.int .i64 0, .bool false, .int .i64 0, .string ⟨#[]⟩, .slice none 0 0, .slice none 0 0], rfl, null_lies _ _, B7.out⟩
  first
  | (simp [Leaves, settle, results, Tryd.results20, go_sem, cy0, cy1, cy2, cy3, cy4, cy5]; exact EE)
  | (refine ⟨.tuple #[.agg #[.int .i64 0, .bool false, .int .i64 0, .string ⟨#[]⟩, .slice none 0 0, .slice none 0 0], .bool false, .int .i64 (c1 : Int)], ?_, EE⟩; simp [results, Tryd.results20, go_sem, cy0, cy1, cy2, cy3, cy4, cy5])
 obtain ⟨k1, k2⟩ := both_two h1
 have ot : Ok a := ok_chk (D := 32) (by omega) k1
 have op : Ok b := ok_chk (D := 32) (by omega) k2
 have CB : Hid (∀ W, Below w.heap.size w W → Calls Tryd.prog 16 #[.agg #[.int .i64 tk, .bool tb, .int .i64 ti, .string ts, .slice tal tnl tcl, .slice tam tnm tcm], .agg #[.int .i64 pk, .bool pb, .int .i64 pi, .string ps, .slice pal pnl pcl, .slice pam pnm pcm]] W (BvPost low (btwV 41 a b) S W)) := fun W hb => between_any low a b S _ _ W (HT.out W hb) (HE0.out W hb) ot op (HL.out W hb).1 (HL.out W hb).2.1 (HL.out W hb).2.2
 have HS : Hid (∀ W, Below w.heap.size w W → (∀ b, S b → b < W.heap.size)) := fun W hb => (HL.out W hb).2.2
 cases hb : btwV 41 a b with
 | none =>
  have HF : Hid (dffF a b = (nullV, false, 0)) := by show _ = _; rw [dffF, if_pos h1, hb]
  rw [hb] at CB
  rw [h1] at C1
  clear h1 k1 k2 hb ot op HL HT
  have ck0 : (((w.alloc (.cells #[.int .i64 tk, .bool tb, .int .i64 ti, .string ts, .slice tal tnl tcl, .slice tam tnm tcm] 25)).alloc (.cells #[.int .i64 pk, .bool pb, .int .i64 pi, .string ps, .slice pal pnl pcl, .slice pam pnm pcm] 25)).alloc (.cells #[.int .i64 0, .bool false, .int .i64 0, .string ⟨#[]⟩, .slice none 0 0, .slice none 0 0] 25)).cell? ⟨w.heap.size, 0, none⟩ = some (.int .i64 tk) := by rw [cell_of_block htw3]; rfl
  have ck1 : (((w.alloc (.cells #[.int .i64 tk, .bool tb, .int .i64 ti, .string ts, .slice tal tnl tcl, .slice tam tnm tcm] 25)).alloc (.cells #[.int .i64 pk, .bool pb, .int .i64 pi, .string ps, .slice pal pnl pcl, .slice pam pnm pcm] 25)).alloc (.cells #[.int .i64 0, .bool false, .int .i64 0, .string ⟨#[]⟩, .slice none 0 0, .slice none 0 0] 25)).cell? ⟨w.heap.size, 1, none⟩ = some (.bool tb) := by rw [cell_of_block htw3]; rfl
  have ck2 : (((w.alloc (.cells #[.int .i64 tk, .bool tb, .int .i64 ti, .string ts, .slice tal tnl tcl, .slice tam tnm tcm] 25)).alloc (.cells #[.int .i64 pk, .bool pb, .int .i64 pi, .string ps, .slice pal pnl pcl, .slice pam pnm pcm] 25)).alloc (.cells #[.int .i64 0, .bool false, .int .i64 0, .string ⟨#[]⟩, .slice none 0 0, .slice none 0 0] 25)).cell? ⟨w.heap.size, 2, none⟩ = some (.int .i64 ti) := by rw [cell_of_block htw3]; rfl
  have ck3 : (((w.alloc (.cells #[.int .i64 tk, .bool tb, .int .i64 ti, .string ts, .slice tal tnl tcl, .slice tam tnm tcm] 25)).alloc (.cells #[.int .i64 pk, .bool pb, .int .i64 pi, .string ps, .slice pal pnl pcl, .slice pam pnm pcm] 25)).alloc (.cells #[.int .i64 0, .bool false, .int .i64 0, .string ⟨#[]⟩, .slice none 0 0, .slice none 0 0] 25)).cell? ⟨w.heap.size, 3, none⟩ = some (.string ts) := by rw [cell_of_block htw3]; rfl
  have ck4 : (((w.alloc (.cells #[.int .i64 tk, .bool tb, .int .i64 ti, .string ts, .slice tal tnl tcl, .slice tam tnm tcm] 25)).alloc (.cells #[.int .i64 pk, .bool pb, .int .i64 pi, .string ps, .slice pal pnl pcl, .slice pam pnm pcm] 25)).alloc (.cells #[.int .i64 0, .bool false, .int .i64 0, .string ⟨#[]⟩, .slice none 0 0, .slice none 0 0] 25)).cell? ⟨w.heap.size, 4, none⟩ = some (.slice tal tnl tcl) := by rw [cell_of_block htw3]; rfl
  have ck5 : (((w.alloc (.cells #[.int .i64 tk, .bool tb, .int .i64 ti, .string ts, .slice tal tnl tcl, .slice tam tnm tcm] 25)).alloc (.cells #[.int .i64 pk, .bool pb, .int .i64 pi, .string ps, .slice pal pnl pcl, .slice pam pnm pcm] 25)).alloc (.cells #[.int .i64 0, .bool false, .int .i64 0, .string ⟨#[]⟩, .slice none 0 0, .slice none 0 0] 25)).cell? ⟨w.heap.size, 5, none⟩ = some (.slice tam tnm tcm) := by rw [cell_of_block htw3]; rfl
  have cl0 : (((w.alloc (.cells #[.int .i64 tk, .bool tb, .int .i64 ti, .string ts, .slice tal tnl tcl, .slice tam tnm tcm] 25)).alloc (.cells #[.int .i64 pk, .bool pb, .int .i64 pi, .string ps, .slice pal pnl pcl, .slice pam pnm pcm] 25)).alloc (.cells #[.int .i64 0, .bool false, .int .i64 0, .string ⟨#[]⟩, .slice none 0 0, .slice none 0 0] 25)).cell? ⟨w.heap.size + 1, 0, none⟩ = some (.int .i64 pk) := by rw [cell_of_block hpw3]; rfl
  have cl1 : (((w.alloc (.cells #[.int .i64 tk, .bool tb, .int .i64 ti, .string ts, .slice tal tnl tcl, .slice tam tnm tcm] 25)).alloc (.cells #[.int .i64 pk, .bool pb, .int .i64 pi, .string ps, .slice pal pnl pcl, .slice pam pnm pcm] 25)).alloc (.cells #[.int .i64 0, .bool false, .int .i64 0, .string ⟨#[]⟩, .slice none 0 0, .slice none 0 0] 25)).cell? ⟨w.heap.size + 1, 1, none⟩ = some (.bool pb) := by rw [cell_of_block hpw3]; rfl
  have cl2 : (((w.alloc (.cells #[.int .i64 tk, .bool tb, .int .i64 ti, .string ts, .slice tal tnl tcl, .slice tam tnm tcm] 25)).alloc (.cells #[.int .i64 pk, .bool pb, .int .i64 pi, .string ps, .slice pal pnl pcl, .slice pam pnm pcm] 25)).alloc (.cells #[.int .i64 0, .bool false, .int .i64 0, .string ⟨#[]⟩, .slice none 0 0, .slice none 0 0] 25)).cell? ⟨w.heap.size + 1, 2, none⟩ = some (.int .i64 pi) := by rw [cell_of_block hpw3]; rfl
  have cl3 : (((w.alloc (.cells #[.int .i64 tk, .bool tb, .int .i64 ti, .string ts, .slice tal tnl tcl, .slice tam tnm tcm] 25)).alloc (.cells #[.int .i64 pk, .bool pb, .int .i64 pi, .string ps, .slice pal pnl pcl, .slice pam pnm pcm] 25)).alloc (.cells #[.int .i64 0, .bool false, .int .i64 0, .string ⟨#[]⟩, .slice none 0 0, .slice none 0 0] 25)).cell? ⟨w.heap.size + 1, 3, none⟩ = some (.string ps) := by rw [cell_of_block hpw3]; rfl
  have cl4 : (((w.alloc (.cells #[.int .i64 tk, .bool tb, .int .i64 ti, .string ts, .slice tal tnl tcl, .slice tam tnm tcm] 25)).alloc (.cells #[.int .i64 pk, .bool pb, .int .i64 pi, .string ps, .slice pal pnl pcl, .slice pam pnm pcm] 25)).alloc (.cells #[.int .i64 0, .bool false, .int .i64 0, .string ⟨#[]⟩, .slice none 0 0, .slice none 0 0] 25)).cell? ⟨w.heap.size + 1, 4, none⟩ = some (.slice pal pnl pcl) := by rw [cell_of_block hpw3]; rfl
  have cl5 : (((w.alloc (.cells #[.int .i64 tk, .bool tb, .int .i64 ti, .string ts, .slice tal tnl tcl, .slice tam tnm tcm] 25)).alloc (.cells #[.int .i64 pk, .bool pb, .int .i64 pi, .string ps, .slice pal pnl pcl, .slice pam pnm pcm] 25)).alloc (.cells #[.int .i64 0, .bool false, .int .i64 0, .string ⟨#[]⟩, .slice none 0 0, .slice none 0 0] 25)).cell? ⟨w.heap.size + 1, 5, none⟩ = some (.slice pam pnm pcm) := by rw [cell_of_block hpw3]; rfl
  go_enter_defers Tryd.func6, Tryd.ntmps6
  go_wp2_with fail
  clear ck0 ck1 ck2 ck3 ck4 ck5 cl0 cl1 cl2 cl3 cl4 cl5
  generalize (((w.alloc (.cells #[.int .i64 tk, .bool tb, .int .i64 ti, .string ts, .slice tal tnl tcl, .slice tam tnm tcm] 25)).alloc (.cells #[.int .i64 pk, .bool pb, .int .i64 pi, .string ps, .slice pal pnl pcl, .slice pam pnm pcm] 25)).alloc (.cells #[.int .i64 0, .bool false, .int .i64 0, .string ⟨#[]⟩, .slice none 0 0, .slice none 0 0] 25)) = w3 at *
  refine (C1.out w3 Bww3).mono ?_
  rintro e w4 ⟨rfl, b4⟩
  have hzw4 := b4.size
  have htw4 := (b4.block (w.heap.size) (by omega)).trans htw3
  have hpw4 := (b4.block (w.heap.size + 1) (by omega)).trans hpw3
  have hzw4 := (b4.block (w.heap.size + 2) (by omega)).trans hzw3
  have Bww4 := Bww3.trans (b4.mono (by omega))
  have ct0 : w4.cell? ⟨w.heap.size, 0, none⟩ = some (.int .i64 tk) := by rw [cell_of_block htw4]; rfl
  have ct1 : w4.cell? ⟨w.heap.size, 1, none⟩ = some (.bool tb) := by rw [cell_of_block htw4]; rfl
  have ct2 : w4.cell? ⟨w.heap.size, 2, none⟩ = some (.int .i64 ti) := by rw [cell_of_block htw4]; rfl
  have ct3 : w4.cell? ⟨w.heap.size, 3, none⟩ = some (.string ts) := by rw [cell_of_block htw4]; rfl
  have ct4 : w4.cell? ⟨w.heap.size, 4, none⟩ = some (.slice tal tnl tcl) := by rw [cell_of_block htw4]; rfl
  have ct5 : w4.cell? ⟨w.heap.size, 5, none⟩ = some (.slice tam tnm tcm) := by rw [cell_of_block htw4]; rfl
  have cp0 : w4.cell? ⟨w.heap.size + 1, 0, none⟩ = some (.int .i64 pk) := by rw [cell_of_block hpw4]; rfl
  have cp1 : w4.cell? ⟨w.heap.size + 1, 1, none⟩ = some (.bool pb) := by rw [cell_of_block hpw4]; rfl
  have cp2 : w4.cell? ⟨w.heap.size + 1, 2, none⟩ = some (.int .i64 pi) := by rw [cell_of_block hpw4]; rfl
  have cp3 : w4.cell? ⟨w.heap.size + 1, 3, none⟩ = some (.string ps) := by rw [cell_of_block hpw4]; rfl
  have cp4 : w4.cell? ⟨w.heap.size + 1, 4, none⟩ = some (.slice pal pnl pcl) := by rw [cell_of_block hpw4]; rfl
  have cp5 : w4.cell? ⟨w.heap.size + 1, 5, none⟩ = some (.slice pam pnm pcm) := by rw [cell_of_block hpw4]; rfl
  go_wp2_with fail
  clear ct0 ct1 ct2 ct3 ct4 ct5 cp0 cp1 cp2 cp3 cp4 cp5
  refine (CB.out w4 Bww4).mono ?_
  rintro e w5 ⟨he, b5⟩
  subst he
  have hzw5 := b5.size
  have htw5 := (b5.block (w.heap.size) (by omega)).trans htw4
  have hpw5 := (b5.block (w.heap.size + 1) (by omega)).trans hpw4
  have hzw5 := (b5.block (w.heap.size + 2) (by omega)).trans hzw4
  have Bww5 := Bww4.trans (b5.mono (by omega))
  have hE5 := HE0.out w5 Bww5
  have cz0 : w5.cell? ⟨w.heap.size + 2, 0, none⟩ = some (.int .i64 0) := by rw [cell_of_block hzw5]; rfl
  have cz1 : w5.cell? ⟨w.heap.size + 2, 1, none⟩ = some (.bool false) := by rw [cell_of_block hzw5]; rfl
  have cz2 : w5.cell? ⟨w.heap.size + 2, 2, none⟩ = some (.int .i64 0) := by rw [cell_of_block hzw5]; rfl
  have cz3 : w5.cell? ⟨w.heap.size + 2, 3, none⟩ = some (.string ⟨#[]⟩) := by rw [cell_of_block hzw5]; rfl
  have cz4 : w5.cell? ⟨w.heap.size + 2, 4, none⟩ = some (.slice none 0 0) := by rw [cell_of_block hzw5]; rfl
  have cz5 : w5.cell? ⟨w.heap.size + 2, 5, none⟩ = some (.slice none 0 0) := by rw [cell_of_block hzw5]; rfl
  have HB5 := hmk Bww5
  clear CB C1 HE0 HS htw3 hpw3 hzw3 Bww3 Bww4 Bww5 b4 b5 htw4 hpw4 hzw4 htw5 hpw5 hzw5
  unfold errV
  go_wp2_with fail
  refine leaves_cons (f := 14) (args := #[]) (by simp) (by simp [go_sem]) ?_
  refine (diff_catch low w5 hE5).mono ?_
  rintro e u' w6 ⟨rfl, rfl, hw6⟩
  rw [hw6]
  clear hw6
  have EE : DgPost (dffF a b) w (.returned (.tuple #[.agg #[.int .i64 0, .bool false, .int .i64 0, .string ⟨#[]⟩, .slice none 0 0, .slice none 0 0], .bool false, .int .i64 0])) w5 := by
   rw [HF.out]
   exact ⟨[.int .i64 0, .bool false, .int .i64 0, .string ⟨#[]⟩, .slice none 0 0, .slice none 0 0], rfl, null_lies _ _, HB5.out⟩
  simp [Leaves, settle, results, Tryd.results20, go_sem, cz0, cz1, cz2, cz3, cz4, cz5]
  exact EE
 | some d =>
  have hwd : d.wt ≤ 2147483648 := by have := btw_wt hb; have := ot.wt; have := op.wt; omega
  have HF : Hid (dffF a b = ((finF d).1, ((finF d).2 == 0), (finF d).2)) := by show _ = _; rw [dffF, if_pos h1, hb]
  rw [hb] at CB
  rw [h1] at C1
  clear h1 k1 k2 hb ot op HL
  have ck0 : (((w.alloc (.cells #[.int .i64 tk, .bool tb, .int .i64 ti, .string ts, .slice tal tnl tcl, .slice tam tnm tcm] 25)).alloc (.cells #[.int .i64 pk, .bool pb, .int .i64 pi, .string ps, .slice pal pnl pcl, .slice pam pnm pcm] 25)).alloc (.cells #[.int .i64 0, .bool false, .int .i64 0, .string ⟨#[]⟩, .slice none 0 0, .slice none 0 0] 25)).cell? ⟨w.heap.size, 0, none⟩ = some (.int .i64 tk) := by rw [cell_of_block htw3]; rfl
  have ck1 : (((w.alloc (.cells #[.int .i64 tk, .bool tb, .int .i64 ti, .string ts, .slice tal tnl tcl, .slice tam tnm tcm] 25)).alloc (.cells #[.int .i64 pk, .bool pb, .int .i64 pi, .string ps, .slice pal pnl pcl, .slice pam pnm pcm] 25)).alloc (.cells #[.int .i64 0, .bool false, .int .i64 0, .string ⟨#[]⟩, .slice none 0 0, .slice none 0 0] 25)).cell? ⟨w.heap.size, 1, none⟩ = some (.bool tb) := by rw [cell_of_block htw3]; rfl
  have ck2 : (((w.alloc (.cells #[.int .i64 tk, .bool tb, .int .i64 ti, .string ts, .slice tal tnl tcl, .slice tam tnm tcm] 25)).alloc (.cells #[.int .i64 pk, .bool pb, .int .i64 pi, .string ps, .slice pal pnl pcl, .slice pam pnm pcm] 25)).alloc (.cells #[.int .i64 0, .bool false, .int .i64 0, .string ⟨#[]⟩, .slice none 0 0, .slice none 0 0] 25)).cell? ⟨w.heap.size, 2, none⟩ = some (.int .i64 ti) := by rw [cell_of_block htw3]; rfl
  have ck3 : (((w.alloc (.cells #[.int .i64 tk, .bool tb, .int .i64 ti, .string ts, .slice tal tnl tcl, .slice tam tnm tcm] 25)).alloc (.cells #[.int .i64 pk, .bool pb, .int .i64 pi, .string ps, .slice pal pnl pcl, .slice pam pnm pcm] 25)).alloc (.cells #[.int .i64 0, .bool false, .int .i64 0, .string ⟨#[]⟩, .slice none 0 0, .slice none 0 0] 25)).cell? ⟨w.heap.size, 3, none⟩ = some (.string ts) := by rw [cell_of_block htw3]; rfl
  have ck4 : (((w.alloc (.cells #[.int .i64 tk, .bool tb, .int .i64 ti, .string ts, .slice tal tnl tcl, .slice tam tnm tcm] 25)).alloc (.cells #[.int .i64 pk, .bool pb, .int .i64 pi, .string ps, .slice pal pnl pcl, .slice pam pnm pcm] 25)).alloc (.cells #[.int .i64 0, .bool false, .int .i64 0, .string ⟨#[]⟩, .slice none 0 0, .slice none 0 0] 25)).cell? ⟨w.heap.size, 4, none⟩ = some (.slice tal tnl tcl) := by rw [cell_of_block htw3]; rfl
  have ck5 : (((w.alloc (.cells #[.int .i64 tk, .bool tb, .int .i64 ti, .string ts, .slice tal tnl tcl, .slice tam tnm tcm] 25)).alloc (.cells #[.int .i64 pk, .bool pb, .int .i64 pi, .string ps, .slice pal pnl pcl, .slice pam pnm pcm] 25)).alloc (.cells #[.int .i64 0, .bool false, .int .i64 0, .string ⟨#[]⟩, .slice none 0 0, .slice none 0 0] 25)).cell? ⟨w.heap.size, 5, none⟩ = some (.slice tam tnm tcm) := by rw [cell_of_block htw3]; rfl
  have cl0 : (((w.alloc (.cells #[.int .i64 tk, .bool tb, .int .i64 ti, .string ts, .slice tal tnl tcl, .slice tam tnm tcm] 25)).alloc (.cells #[.int .i64 pk, .bool pb, .int .i64 pi, .string ps, .slice pal pnl pcl, .slice pam pnm pcm] 25)).alloc (.cells #[.int .i64 0, .bool false, .int .i64 0, .string ⟨#[]⟩, .slice none 0 0, .slice none 0 0] 25)).cell? ⟨w.heap.size + 1, 0, none⟩ = some (.int .i64 pk) := by rw [cell_of_block hpw3]; rfl
  have cl1 : (((w.alloc (.cells #[.int .i64 tk, .bool tb, .int .i64 ti, .string ts, .slice tal tnl tcl, .slice tam tnm tcm] 25)).alloc (.cells #[.int .i64 pk, .bool pb, .int .i64 pi, .string ps, .slice pal pnl pcl, .slice pam pnm pcm] 25)).alloc (.cells #[.int .i64 0, .bool false, .int .i64 0, .string ⟨#[]⟩, .slice none 0 0, .slice none 0 0] 25)).cell? ⟨w.heap.size + 1, 1, none⟩ = some (.bool pb) := by rw [cell_of_block hpw3]; rfl
  have cl2 : (((w.alloc (.cells #[.int .i64 tk, .bool tb, .int .i64 ti, .string ts, .slice tal tnl tcl, .slice tam tnm tcm] 25)).alloc (.cells #[.int .i64 pk, .bool pb, .int .i64 pi, .string ps, .slice pal pnl pcl, .slice pam pnm pcm] 25)).alloc (.cells #[.int .i64 0, .bool false, .int .i64 0, .string ⟨#[]⟩, .slice none 0 0, .slice none 0 0] 25)).cell? ⟨w.heap.size + 1, 2, none⟩ = some (.int .i64 pi) := by rw [cell_of_block hpw3]; rfl
  have cl3 : (((w.alloc (.cells #[.int .i64 tk, .bool tb, .int .i64 ti, .string ts, .slice tal tnl tcl, .slice tam tnm tcm] 25)).alloc (.cells #[.int .i64 pk, .bool pb, .int .i64 pi, .string ps, .slice pal pnl pcl, .slice pam pnm pcm] 25)).alloc (.cells #[.int .i64 0, .bool false, .int .i64 0, .string ⟨#[]⟩, .slice none 0 0, .slice none 0 0] 25)).cell? ⟨w.heap.size + 1, 3, none⟩ = some (.string ps) := by rw [cell_of_block hpw3]; rfl
  have cl4 : (((w.alloc (.cells #[.int .i64 tk, .bool tb, .int .i64 ti, .string ts, .slice tal tnl tcl, .slice tam tnm tcm] 25)).alloc (.cells #[.int .i64 pk, .bool pb, .int .i64 pi, .string ps, .slice pal pnl pcl, .slice pam pnm pcm] 25)).alloc (.cells #[.int .i64 0, .bool false, .int .i64 0, .string ⟨#[]⟩, .slice none 0 0, .slice none 0 0] 25)).cell? ⟨w.heap.size + 1, 4, none⟩ = some (.slice pal pnl pcl) := by rw [cell_of_block hpw3]; rfl
  have cl5 : (((w.alloc (.cells #[.int .i64 tk, .bool tb, .int .i64 ti, .string ts, .slice tal tnl tcl, .slice tam tnm tcm] 25)).alloc (.cells #[.int .i64 pk, .bool pb, .int .i64 pi, .string ps, .slice pal pnl pcl, .slice pam pnm pcm] 25)).alloc (.cells #[.int .i64 0, .bool false, .int .i64 0, .string ⟨#[]⟩, .slice none 0 0, .slice none 0 0] 25)).cell? ⟨w.heap.size + 1, 5, none⟩ = some (.slice pam pnm pcm) := by rw [cell_of_block hpw3]; rfl
  go_enter_defers Tryd.func6, Tryd.ntmps6
  go_wp2_with fail
  clear ck0 ck1 ck2 ck3 ck4 ck5 cl0 cl1 cl2 cl3 cl4 cl5
  generalize (((w.alloc (.cells #[.int .i64 tk, .bool tb, .int .i64 ti, .string ts, .slice tal tnl tcl, .slice tam tnm tcm] 25)).alloc (.cells #[.int .i64 pk, .bool pb, .int .i64 pi, .string ps, .slice pal pnl pcl, .slice pam pnm pcm] 25)).alloc (.cells #[.int .i64 0, .bool false, .int .i64 0, .string ⟨#[]⟩, .slice none 0 0, .slice none 0 0] 25)) = w3 at *
  refine (C1.out w3 Bww3).mono ?_
  rintro e w4 ⟨rfl, b4⟩
  have hzw4 := b4.size
  have htw4 := (b4.block (w.heap.size) (by omega)).trans htw3
  have hpw4 := (b4.block (w.heap.size + 1) (by omega)).trans hpw3
  have hzw4 := (b4.block (w.heap.size + 2) (by omega)).trans hzw3
  have Bww4 := Bww3.trans (b4.mono (by omega))
  have ct0 : w4.cell? ⟨w.heap.size, 0, none⟩ = some (.int .i64 tk) := by rw [cell_of_block htw4]; rfl
  have ct1 : w4.cell? ⟨w.heap.size, 1, none⟩ = some (.bool tb) := by rw [cell_of_block htw4]; rfl
  have ct2 : w4.cell? ⟨w.heap.size, 2, none⟩ = some (.int .i64 ti) := by rw [cell_of_block htw4]; rfl
  have ct3 : w4.cell? ⟨w.heap.size, 3, none⟩ = some (.string ts) := by rw [cell_of_block htw4]; rfl
  have ct4 : w4.cell? ⟨w.heap.size, 4, none⟩ = some (.slice tal tnl tcl) := by rw [cell_of_block htw4]; rfl
  have ct5 : w4.cell? ⟨w.heap.size, 5, none⟩ = some (.slice tam tnm tcm) := by rw [cell_of_block htw4]; rfl
  have cp0 : w4.cell? ⟨w.heap.size + 1, 0, none⟩ = some (.int .i64 pk) := by rw [cell_of_block hpw4]; rfl
  have cp1 : w4.cell? ⟨w.heap.size + 1, 1, none⟩ = some (.bool pb) := by rw [cell_of_block hpw4]; rfl
  have cp2 : w4.cell? ⟨w.heap.size + 1, 2, none⟩ = some (.int .i64 pi) := by rw [cell_of_block hpw4]; rfl
  have cp3 : w4.cell? ⟨w.heap.size + 1, 3, none⟩ = some (.string ps) := by rw [cell_of_block hpw4]; rfl
  have cp4 : w4.cell? ⟨w.heap.size + 1, 4, none⟩ = some (.slice pal pnl pcl) := by rw [cell_of_block hpw4]; rfl
  have cp5 : w4.cell? ⟨w.heap.size + 1, 5, none⟩ = some (.slice pam pnm pcm) := by rw [cell_of_block hpw4]; rfl
  go_wp2_with fail
  clear ct0 ct1 ct2 ct3 ct4 ct5 cp0 cp1 cp2 cp3 cp4 cp5
  refine (CB.out w4 Bww4).mono ?_
  rintro e w5 ⟨csr, rfl, hlr, b5⟩
  obtain ⟨rk, rb, ri, rs, ral, rnl, rcl, ram, rnm, rcm, rfl⟩ := V.ten hlr
  have hS4 := HS.out w4 Bww4
  have hzw5 := b5.size
  have htw5 := (b5.block (w.heap.size) (by omega)).trans htw4
  have hpw5 := (b5.block (w.heap.size + 1) (by omega)).trans hpw4
  have hzw5 := (b5.block (w.heap.size + 2) (by omega)).trans hzw4
  have Bww5 := Bww4.trans (b5.mono (by omega))
  have CF := finished_any d _ _ w5 (HT.out w5 Bww5) hlr (fun y hy => by rcases hy with h | h <;> first | exact h.2 | (have := hS4 y h; omega)) hwd
  obtain ⟨⟨fv, fe⟩, hF⟩ : ∃ q, finF d = q := ⟨_, rfl⟩
  rw [hF] at CF
  rw [hF] at HF
  clear hlr hF CB C1 HE0 HS HT
  go_wp2_with fail
  refine CF.mono ?_
  rintro e w6 ⟨csn, rfl, hln, b6⟩
  clear CF
  simp only at hln
  obtain ⟨nk, nb, ni, ns, nal, nnl, ncl, nam, nnm, ncm, rfl⟩ := V.ten hln
  have hzw6 := b6.size
  have htw6 := (b6.block (w.heap.size) (by omega)).trans htw5
  have hpw6 := (b6.block (w.heap.size + 1) (by omega)).trans hpw5
  have hzw6 := (b6.block (w.heap.size + 2) (by omega)).trans hzw5
  have Bww6 := Bww5.trans (b6.mono (by omega))
  have cz0 : w6.cell? ⟨w.heap.size + 2, 0, none⟩ = some (.int .i64 0) := by rw [cell_of_block hzw6]; rfl
  have cz1 : w6.cell? ⟨w.heap.size + 2, 1, none⟩ = some (.bool false) := by rw [cell_of_block hzw6]; rfl
  have cz2 : w6.cell? ⟨w.heap.size + 2, 2, none⟩ = some (.int .i64 0) := by rw [cell_of_block hzw6]; rfl
  have cz3 : w6.cell? ⟨w.heap.size + 2, 3, none⟩ = some (.string ⟨#[]⟩) := by rw [cell_of_block hzw6]; rfl
  have cz4 : w6.cell? ⟨w.heap.size + 2, 4, none⟩ = some (.slice none 0 0) := by rw [cell_of_block hzw6]; rfl
  have cz5 : w6.cell? ⟨w.heap.size + 2, 5, none⟩ = some (.slice none 0 0) := by rw [cell_of_block hzw6]; rfl
  have fz := frozen_of_block hzw6
  have hz7 := box_six hzw6 (.int .i64 nk) (.bool nb) (.int .i64 ni) (.string ns) (.slice nal nnl ncl) (.slice nam nnm ncm)
  have B7 := Below.set6 Bww6 (M := w.heap.size + 2) (by omega) 0 1 2 3 4 5 (.int .i64 nk) (.bool nb) (.int .i64 ni) (.string ns) (.slice nal nnl ncl) (.slice nam nnm ncm)
  have cy0 : ((((((w6.setCell ⟨w.heap.size + 2, 0, none⟩ (.int .i64 nk)).setCell ⟨w.heap.size + 2, 1, none⟩ (.bool nb)).setCell ⟨w.heap.size + 2, 2, none⟩ (.int .i64 ni)).setCell ⟨w.heap.size + 2, 3, none⟩ (.string ns)).setCell ⟨w.heap.size + 2, 4, none⟩ (.slice nal nnl ncl)).setCell ⟨w.heap.size + 2, 5, none⟩ (.slice nam nnm ncm)).cell? ⟨w.heap.size + 2, 0, none⟩ = some (.int .i64 nk) := by rw [cell_of_block hz7]; rfl
  have cy1 : ((((((w6.setCell ⟨w.heap.size + 2, 0, none⟩ (.int .i64 nk)).setCell ⟨w.heap.size + 2, 1, none⟩ (.bool nb)).setCell ⟨w.heap.size + 2, 2, none⟩ (.int .i64 ni)).setCell ⟨w.heap.size + 2, 3, none⟩ (.string ns)).setCell ⟨w.heap.size + 2, 4, none⟩ (.slice nal nnl ncl)).setCell ⟨w.heap.size + 2, 5, none⟩ (.slice nam nnm ncm)).cell? ⟨w.heap.size + 2, 1, none⟩ = some (.bool nb) := by rw [cell_of_block hz7]; rfl
  have cy2 : ((((((w6.setCell ⟨w.heap.size + 2, 0, none⟩ (.int .i64 nk)).setCell ⟨w.heap.size + 2, 1, none⟩ (.bool nb)).setCell ⟨w.heap.size + 2, 2, none⟩ (.int .i64 ni)).setCell ⟨w.heap.size + 2, 3, none⟩ (.string ns)).setCell ⟨w.heap.size + 2, 4, none⟩ (.slice nal nnl ncl)).setCell ⟨w.heap.size + 2, 5, none⟩ (.slice nam nnm ncm)).cell? ⟨w.heap.size + 2, 2, none⟩ = some (.int .i64 ni) := by rw [cell_of_block hz7]; rfl
  have cy3 : ((((((w6.setCell ⟨w.heap.size + 2, 0, none⟩ (.int .i64 nk)).setCell ⟨w.heap.size + 2, 1, none⟩ (.bool nb)).setCell ⟨w.heap.size + 2, 2, none⟩ (.int .i64 ni)).setCell ⟨w.heap.size + 2, 3, none⟩ (.string ns)).setCell ⟨w.heap.size + 2, 4, none⟩ (.slice nal nnl ncl)).setCell ⟨w.heap.size + 2, 5, none⟩ (.slice nam nnm ncm)).cell? ⟨w.heap.size + 2, 3, none⟩ = some (.string ns) := by rw [cell_of_block hz7]; rfl
  have cy4 : ((((((w6.setCell ⟨w.heap.size + 2, 0, none⟩ (.int .i64 nk)).setCell ⟨w.heap.size + 2, 1, none⟩ (.bool nb)).setCell ⟨w.heap.size + 2, 2, none⟩ (.int .i64 ni)).setCell ⟨w.heap.size + 2, 3, none⟩ (.string ns)).setCell ⟨w.heap.size + 2, 4, none⟩ (.slice nal nnl ncl)).setCell ⟨w.heap.size + 2, 5, none⟩ (.slice nam nnm ncm)).cell? ⟨w.heap.size + 2, 4, none⟩ = some (.slice nal nnl ncl) := by rw [cell_of_block hz7]; rfl
  have cy5 : ((((((w6.setCell ⟨w.heap.size + 2, 0, none⟩ (.int .i64 nk)).setCell ⟨w.heap.size + 2, 1, none⟩ (.bool nb)).setCell ⟨w.heap.size + 2, 2, none⟩ (.int .i64 ni)).setCell ⟨w.heap.size + 2, 3, none⟩ (.string ns)).setCell ⟨w.heap.size + 2, 4, none⟩ (.slice nal nnl ncl)).setCell ⟨w.heap.size + 2, 5, none⟩ (.slice nam nnm ncm)).cell? ⟨w.heap.size + 2, 5, none⟩ = some (.slice nam nnm ncm) := by rw [cell_of_block hz7]; rfl
  have fy := frozen_of_block hz7
  have L7 : fv.lies false ((((((w6.setCell ⟨w.heap.size + 2, 0, none⟩ (.int .i64 nk)).setCell ⟨w.heap.size + 2, 1, none⟩ (.bool nb)).setCell ⟨w.heap.size + 2, 2, none⟩ (.int .i64 ni)).setCell ⟨w.heap.size + 2, 3, none⟩ (.string ns)).setCell ⟨w.heap.size + 2, 4, none⟩ (.slice nal nnl ncl)).setCell ⟨w.heap.size + 2, 5, none⟩ (.slice nam nnm ncm)) (fun y => w.heap.size ≤ y ∧ y ≠ w.heap.size + 2 ∧ y < ((((((w6.setCell ⟨w.heap.size + 2, 0, none⟩ (.int .i64 nk)).setCell ⟨w.heap.size + 2, 1, none⟩ (.bool nb)).setCell ⟨w.heap.size + 2, 2, none⟩ (.int .i64 ni)).setCell ⟨w.heap.size + 2, 3, none⟩ (.string ns)).setCell ⟨w.heap.size + 2, 4, none⟩ (.slice nal nnl ncl)).setCell ⟨w.heap.size + 2, 5, none⟩ (.slice nam nnm ncm)).heap.size) [.int .i64 nk, .bool nb, .int .i64 ni, .string ns, .slice nal nnl ncl, .slice nam nnm ncm] := V.lies_keep (fun h => h) (fun y hy => six_o w6 (w.heap.size + 2) (.int .i64 nk) (.bool nb) (.int .i64 ni) (.string ns) (.slice nal nnl ncl) (.slice nam nnm ncm) y (by have := hy.1; omega)) (fun y hy => ⟨by have := hy.1; omega, by have := hy.1; omega, by rw [six_z]; exact hy.2⟩) _ hln
  have HE2 := hmk (wn_fin (M := w.heap.size + 2) (by omega) B7 L7)
  have hz8 := box_six hz7 (.int .i64 nk) (.bool nb) (.int .i64 ni) (.string ns) (.slice nal nnl ncl) (.slice nam nnm ncm)
  have cw0 : ((((((((((((w6.setCell ⟨w.heap.size + 2, 0, none⟩ (.int .i64 nk)).setCell ⟨w.heap.size + 2, 1, none⟩ (.bool nb)).setCell ⟨w.heap.size + 2, 2, none⟩ (.int .i64 ni)).setCell ⟨w.heap.size + 2, 3, none⟩ (.string ns)).setCell ⟨w.heap.size + 2, 4, none⟩ (.slice nal nnl ncl)).setCell ⟨w.heap.size + 2, 5, none⟩ (.slice nam nnm ncm)).setCell ⟨w.heap.size + 2, 0, none⟩ (.int .i64 nk)).setCell ⟨w.heap.size + 2, 1, none⟩ (.bool nb)).setCell ⟨w.heap.size + 2, 2, none⟩ (.int .i64 ni)).setCell ⟨w.heap.size + 2, 3, none⟩ (.string ns)).setCell ⟨w.heap.size + 2, 4, none⟩ (.slice nal nnl ncl)).setCell ⟨w.heap.size + 2, 5, none⟩ (.slice nam nnm ncm)).cell? ⟨w.heap.size + 2, 0, none⟩ = some (.int .i64 nk) := by rw [cell_of_block hz8]; rfl
  have cw1 : ((((((((((((w6.setCell ⟨w.heap.size + 2, 0, none⟩ (.int .i64 nk)).setCell ⟨w.heap.size + 2, 1, none⟩ (.bool nb)).setCell ⟨w.heap.size + 2, 2, none⟩ (.int .i64 ni)).setCell ⟨w.heap.size + 2, 3, none⟩ (.string ns)).setCell ⟨w.heap.size + 2, 4, none⟩ (.slice nal nnl ncl)).setCell ⟨w.heap.size + 2, 5, none⟩ (.slice nam nnm ncm)).setCell ⟨w.heap.size + 2, 0, none⟩ (.int .i64 nk)).setCell ⟨w.heap.size + 2, 1, none⟩ (.bool nb)).setCell ⟨w.heap.size + 2, 2, none⟩ (.int .i64 ni)).setCell ⟨w.heap.size + 2, 3, none⟩ (.string ns)).setCell ⟨w.heap.size + 2, 4, none⟩ (.slice nal nnl ncl)).setCell ⟨w.heap.size + 2, 5, none⟩ (.slice nam nnm ncm)).cell? ⟨w.heap.size + 2, 1, none⟩ = some (.bool nb) := by rw [cell_of_block hz8]; rfl
  have cw2 : ((((((((((((w6.setCell ⟨w.heap.size + 2, 0, none⟩ (.int .i64 nk)).setCell ⟨w.heap.size + 2, 1, none⟩ (.bool nb)).setCell ⟨w.heap.size + 2, 2, none⟩ (.int .i64 ni)).setCell ⟨w.heap.size + 2, 3, none⟩ (.string ns)).setCell ⟨w.heap.size + 2, 4, none⟩ (.slice nal nnl ncl)).setCell ⟨w.heap.size + 2, 5, none⟩ (.slice nam nnm ncm)).setCell ⟨w.heap.size + 2, 0, none⟩ (.int .i64 nk)).setCell ⟨w.heap.size + 2, 1, none⟩ (.bool nb)).setCell ⟨w.heap.size + 2, 2, none⟩ (.int .i64 ni)).setCell ⟨w.heap.size + 2, 3, none⟩ (.string ns)).setCell ⟨w.heap.size + 2, 4, none⟩ (.slice nal nnl ncl)).setCell ⟨w.heap.size + 2, 5, none⟩ (.slice nam nnm ncm)).cell? ⟨w.heap.size + 2, 2, none⟩ = some (.int .i64 ni) := by rw [cell_of_block hz8]; rfl
  have cw3 : ((((((((((((w6.setCell ⟨w.heap.size + 2, 0, none⟩ (.int .i64 nk)).setCell ⟨w.heap.size + 2, 1, none⟩ (.bool nb)).setCell ⟨w.heap.size + 2, 2, none⟩ (.int .i64 ni)).setCell ⟨w.heap.size + 2, 3, none⟩ (.string ns)).setCell ⟨w.heap.size + 2, 4, none⟩ (.slice nal nnl ncl)).setCell ⟨w.heap.size + 2, 5, none⟩ (.slice nam nnm ncm)).setCell ⟨w.heap.size + 2, 0, none⟩ (.int .i64 nk)).setCell ⟨w.heap.size + 2, 1, none⟩ (.bool nb)).setCell ⟨w.heap.size + 2, 2, none⟩ (.int .i64 ni)).setCell ⟨w.heap.size + 2, 3, none⟩ (.string ns)).setCell ⟨w.heap.size + 2, 4, none⟩ (.slice nal nnl ncl)).setCell ⟨w.heap.size + 2, 5, none⟩ (.slice nam nnm ncm)).cell? ⟨w.heap.size + 2, 3, none⟩ = some (.string ns) := by rw [cell_of_block hz8]; rfl
  have cw4 : ((((((((((((w6.setCell ⟨w.heap.size + 2, 0, none⟩ (.int .i64 nk)).setCell ⟨w.heap.size + 2, 1, none⟩ (.bool nb)).setCell ⟨w.heap.size + 2, 2, none⟩ (.int .i64 ni)).setCell ⟨w.heap.size + 2, 3, none⟩ (.string ns)).setCell ⟨w.heap.size + 2, 4, none⟩ (.slice nal nnl ncl)).setCell ⟨w.heap.size + 2, 5, none⟩ (.slice nam nnm ncm)).setCell ⟨w.heap.size + 2, 0, none⟩ (.int .i64 nk)).setCell ⟨w.heap.size + 2, 1, none⟩ (.bool nb)).setCell ⟨w.heap.size + 2, 2, none⟩ (.int .i64 ni)).setCell ⟨w.heap.size + 2, 3, none⟩ (.string ns)).setCell ⟨w.heap.size + 2, 4, none⟩ (.slice nal nnl ncl)).setCell ⟨w.heap.size + 2, 5, none⟩ (.slice nam nnm ncm)).cell? ⟨w.heap.size + 2, 4, none⟩ = some (.slice nal nnl ncl) := by rw [cell_of_block hz8]; rfl
  have cw5 : ((((((((((((w6.setCell ⟨w.heap.size + 2, 0, none⟩ (.int .i64 nk)).setCell ⟨w.heap.size + 2, 1, none⟩ (.bool nb)).setCell ⟨w.heap.size + 2, 2, none⟩ (.int .i64 ni)).setCell ⟨w.heap.size + 2, 3, none⟩ (.string ns)).setCell ⟨w.heap.size + 2, 4, none⟩ (.slice nal nnl ncl)).setCell ⟨w.heap.size + 2, 5, none⟩ (.slice nam nnm ncm)).setCell ⟨w.heap.size + 2, 0, none⟩ (.int .i64 nk)).setCell ⟨w.heap.size + 2, 1, none⟩ (.bool nb)).setCell ⟨w.heap.size + 2, 2, none⟩ (.int .i64 ni)).setCell ⟨w.heap.size + 2, 3, none⟩ (.string ns)).setCell ⟨w.heap.size + 2, 4, none⟩ (.slice nal nnl ncl)).setCell ⟨w.heap.size + 2, 5, none⟩ (.slice nam nnm ncm)).cell? ⟨w.heap.size + 2, 5, none⟩ = some (.slice nam nnm ncm) := by rw [cell_of_block hz8]; rfl
  clear L7
  go_wp2_with fail
  refine leaves_cons (f := 14) (args := #[]) (by simp) (by simp [go_sem]) ?_
  refine (diff_idle _).mono ?_
  rintro e u' w'' ⟨rfl, rfl, rfl⟩
  refine ⟨.tuple #[.agg #[.int .i64 nk, .bool nb, .int .i64 ni, .string ns, .slice nal nnl ncl, .slice nam nnm ncm], .bool (fe == 0), .int .i64 fe], ?_, ?_⟩
  ·simp [results, Tryd.results20, go_sem, cw0, cw1, cw2, cw3, cw4, cw5]
  ·rw [HF.out]
   exact ⟨[.int .i64 nk, .bool nb, .int .i64 ni, .string ns, .slice nal nnl ncl, .slice nam nnm ncm], rfl, HE2.out.1, HE2.out.2⟩
end Go.Proofs.YtjfldbmopjojdabDoor
