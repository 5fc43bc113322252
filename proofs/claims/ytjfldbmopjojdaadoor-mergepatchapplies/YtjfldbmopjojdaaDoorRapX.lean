import Derived.Test.YtjfldbmopjojdaaDoorPatX
/- freeholdref05.Apply. -/
set_option linter.unusedSimpArgs false
set_option linter.unusedVariables false
namespace Go.Proofs.YtjfldbmopjojdaaDoor
open Go.RowKit Go.Lib
/-- a value and an error, in new memory -/
def NwPost (p : V × Int) (w : World) (e : Ending) (w' : World) : Prop := ∃ cs : List Value, e = .returned (.tuple #[.agg cs.toArray, .int .i64 p.2]) ∧ p.1.lies false w' (New w w') cs ∧ Below w.heap.size w w'
def aplF (t p : V) : V × Int := if chkE t 32 = 0 then (if chkE p 32 = 0 then (if chkE (pchV t p) 32 = 0 then (pchV t p, 0) else (nullV, (chkE (pchV t p) 32 : Int))) else (nullV, (chkE p 32 : Int))) else (nullV, (chkE t 32 : Int))
theorem pch_wt2 {t p : V} (ht : Ok t) (hp : Ok p) : (pchV t p).wt ≤ 2228224 := by
  have h1 := pch_wt t p
  have h2 := mems_wt t
  have h3 := ht.wt
  have h4 := hp.wt
  omega
set_option maxHeartbeats 4000000 in
set_option maxRecDepth 100000 in
theorem rapply_any (t p : V) (S : Nat → Prop) (cs ds : List Value) (w : World) (hv : t.lies false w S cs) (hx : p.lies false w S ds) (hS : ∀ b, S b → b < w.heap.size) (hwt : t.wt ≤ 2147483648) (hwp : p.wt ≤ 2147483648) :
    Calls Tryd.prog 12 #[.agg cs.toArray, .agg ds.toArray] w (NwPost (aplF t p) w) := by
  obtain ⟨tk, tb, ti, ts, tal, tnl, tcl, tam, tnm, tcm, rfl⟩ := V.ten hv
  obtain ⟨pk, pb, pi, ps, pal, pnl, pcl, pam, pnm, pcm, rfl⟩ := V.ten hx
  have HL : Hid (∀ W, Below w.heap.size w W → t.lies false W S [.int .i64 tk, .bool tb, .int .i64 ti, .string ts, .slice tal tnl tcl, .slice tam tnm tcm] ∧ p.lies false W S [.int .i64 pk, .bool pb, .int .i64 pi, .string ps, .slice pal pnl pcl, .slice pam pnm pcm] ∧ (∀ b, S b → b < W.heap.size)) := fun W hB => ⟨V.lies_keep (fun h => h) (fun x hx => hB.block x (hS x hx)) (fun x hx => hx) _ hv, V.lies_keep (fun h => h) (fun x hx => hB.block x (hS x hx)) (fun x hx => hx) _ hx, fun x hx => Nat.lt_of_lt_of_le (hS x hx) hB.size⟩
  have Bww3 : Below w.heap.size w (((w.alloc (.cells #[.int .i64 tk, .bool tb, .int .i64 ti, .string ts, .slice tal tnl tcl, .slice tam tnm tcm] 25)).alloc (.cells #[.int .i64 pk, .bool pb, .int .i64 pi, .string ps, .slice pal pnl pcl, .slice pam pnm pcm] 25)).alloc (.cells #[.int .i64 0, .bool false, .int .i64 0, .string ⟨#[]⟩, .slice none 0 0, .slice none 0 0] 25)) := three_below w _ _ _
  have hz3 : (((w.alloc (.cells #[.int .i64 tk, .bool tb, .int .i64 ti, .string ts, .slice tal tnl tcl, .slice tam tnm tcm] 25)).alloc (.cells #[.int .i64 pk, .bool pb, .int .i64 pi, .string ps, .slice pal pnl pcl, .slice pam pnm pcm] 25)).alloc (.cells #[.int .i64 0, .bool false, .int .i64 0, .string ⟨#[]⟩, .slice none 0 0, .slice none 0 0] 25)).heap.size = w.heap.size + 3 := by rw [alloc_size, alloc_size, alloc_size]
  obtain ⟨htw3, hpw3, hzw3⟩ := three_allocs w (.cells #[.int .i64 tk, .bool tb, .int .i64 ti, .string ts, .slice tal tnl tcl, .slice tam tnm tcm] 25) (.cells #[.int .i64 pk, .bool pb, .int .i64 pi, .string ps, .slice pal pnl pcl, .slice pam pnm pcm] 25) (.cells #[.int .i64 0, .bool false, .int .i64 0, .string ⟨#[]⟩, .slice none 0 0, .slice none 0 0] 25)
  have C1 : Hid (∀ W, Below w.heap.size w W → Calls Tryd.prog 35 #[.agg #[.int .i64 tk, .bool tb, .int .i64 ti, .string ts, .slice tal tnl tcl, .slice tam tnm tcm], .int .i64 32] W (NPost (chkE t 32) W)) := fun W hb => rcheck_any false t 32 S _ W (HL.out W hb).1 (HL.out W hb).2.2 (by omega)
  have C2 : Hid (∀ W, Below w.heap.size w W → Calls Tryd.prog 35 #[.agg #[.int .i64 pk, .bool pb, .int .i64 pi, .string ps, .slice pal pnl pcl, .slice pam pnm pcm], .int .i64 32] W (NPost (chkE p 32) W)) := fun W hb => rcheck_any false p 32 S _ W (HL.out W hb).2.1 (HL.out W hb).2.2 (by omega)
  clear hv hx
  by_cases h1 : chkE t 32 = 0
  rotate_left
  · have HF : Hid (aplF t p = (nullV, (chkE t 32 : Int))) := by show _ = _; rw [aplF, if_neg h1]
    generalize chkE t 32 = c1 at *
    have y1 : ¬ (c1 : Int) = 0 := by omega
    have yb1 : ((c1 : Int) != 0) = true := by simp; omega
    have ck0 : (((w.alloc (.cells #[.int .i64 tk, .bool tb, .int .i64 ti, .string ts, .slice tal tnl tcl, .slice tam tnm tcm] 25)).alloc (.cells #[.int .i64 pk, .bool pb, .int .i64 pi, .string ps, .slice pal pnl pcl, .slice pam pnm pcm] 25)).alloc (.cells #[.int .i64 0, .bool false, .int .i64 0, .string ⟨#[]⟩, .slice none 0 0, .slice none 0 0] 25)).cell? ⟨w.heap.size, 0, none⟩ = some (.int .i64 tk) := by rw [cell_of_block htw3]; rfl
    have ck1 : (((w.alloc (.cells #[.int .i64 tk, .bool tb, .int .i64 ti, .string ts, .slice tal tnl tcl, .slice tam tnm tcm] 25)).alloc (.cells #[.int .i64 pk, .bool pb, .int .i64 pi, .string ps, .slice pal pnl pcl, .slice pam pnm pcm] 25)).alloc (.cells #[.int .i64 0, .bool false, .int .i64 0, .string ⟨#[]⟩, .slice none 0 0, .slice none 0 0] 25)).cell? ⟨w.heap.size, 1, none⟩ = some (.bool tb) := by rw [cell_of_block htw3]; rfl
    have ck2 : (((w.alloc (.cells #[.int .i64 tk, .bool tb, .int .i64 ti, .string ts, .slice tal tnl tcl, .slice tam tnm tcm] 25)).alloc (.cells #[.int .i64 pk, .bool pb, .int .i64 pi, .string ps, .slice pal pnl pcl, .slice pam pnm pcm] 25)).alloc (.cells #[.int .i64 0, .bool false, .int .i64 0, .string ⟨#[]⟩, .slice none 0 0, .slice none 0 0] 25)).cell? ⟨w.heap.size, 2, none⟩ = some (.int .i64 ti) := by rw [cell_of_block htw3]; rfl
    have ck3 : (((w.alloc (.cells #[.int .i64 tk, .bool tb, .int .i64 ti, .string ts, .slice tal tnl tcl, .slice tam tnm tcm] 25)).alloc (.cells #[.int .i64 pk, .bool pb, .int .i64 pi, .string ps, .slice pal pnl pcl, .slice pam pnm pcm] 25)).alloc (.cells #[.int .i64 0, .bool false, .int .i64 0, .string ⟨#[]⟩, .slice none 0 0, .slice none 0 0] 25)).cell? ⟨w.heap.size, 3, none⟩ = some (.string ts) := by rw [cell_of_block htw3]; rfl
    have ck4 : (((w.alloc (.cells #[.int .i64 tk, .bool tb, .int .i64 ti, .string ts, .slice tal tnl tcl, .slice tam tnm tcm] 25)).alloc (.cells #[.int .i64 pk, .bool pb, .int .i64 pi, .string ps, .slice pal pnl pcl, .slice pam pnm pcm] 25)).alloc (.cells #[.int .i64 0, .bool false, .int .i64 0, .string ⟨#[]⟩, .slice none 0 0, .slice none 0 0] 25)).cell? ⟨w.heap.size, 4, none⟩ = some (.slice tal tnl tcl) := by rw [cell_of_block htw3]; rfl
    have ck5 : (((w.alloc (.cells #[.int .i64 tk, .bool tb, .int .i64 ti, .string ts, .slice tal tnl tcl, .slice tam tnm tcm] 25)).alloc (.cells #[.int .i64 pk, .bool pb, .int .i64 pi, .string ps, .slice pal pnl pcl, .slice pam pnm pcm] 25)).alloc (.cells #[.int .i64 0, .bool false, .int .i64 0, .string ⟨#[]⟩, .slice none 0 0, .slice none 0 0] 25)).cell? ⟨w.heap.size, 5, none⟩ = some (.slice tam tnm tcm) := by rw [cell_of_block htw3]; rfl
    go_enter Tryd.func12, Tryd.ntmps12
    go_wp2_with fail
    clear ck0 ck1 ck2 ck3 ck4 ck5
    generalize (((w.alloc (.cells #[.int .i64 tk, .bool tb, .int .i64 ti, .string ts, .slice tal tnl tcl, .slice tam tnm tcm] 25)).alloc (.cells #[.int .i64 pk, .bool pb, .int .i64 pi, .string ps, .slice pal pnl pcl, .slice pam pnm pcm] 25)).alloc (.cells #[.int .i64 0, .bool false, .int .i64 0, .string ⟨#[]⟩, .slice none 0 0, .slice none 0 0] 25)) = w3 at *
    refine (C1.out w3 Bww3).mono ?_
    rintro e w4 ⟨rfl, b4⟩
    have hzw4 := b4.size
    have htw4 := (b4.block (w.heap.size) (by omega)).trans htw3
    have hpw4 := (b4.block (w.heap.size + 1) (by omega)).trans hpw3
    have hzw4 := (b4.block (w.heap.size + 2) (by omega)).trans hzw3
    have Bww4 := Bww3.trans (b4.mono (by omega))
    have HE := hmk (wn_fin (M := w.heap.size + 2) (by omega) Bww4 (null_lies _ _))
    have cz0 : w4.cell? ⟨w.heap.size + 2, 0, none⟩ = some (.int .i64 0) := by rw [cell_of_block hzw4]; rfl
    have cz1 : w4.cell? ⟨w.heap.size + 2, 1, none⟩ = some (.bool false) := by rw [cell_of_block hzw4]; rfl
    have cz2 : w4.cell? ⟨w.heap.size + 2, 2, none⟩ = some (.int .i64 0) := by rw [cell_of_block hzw4]; rfl
    have cz3 : w4.cell? ⟨w.heap.size + 2, 3, none⟩ = some (.string ⟨#[]⟩) := by rw [cell_of_block hzw4]; rfl
    have cz4 : w4.cell? ⟨w.heap.size + 2, 4, none⟩ = some (.slice none 0 0) := by rw [cell_of_block hzw4]; rfl
    have cz5 : w4.cell? ⟨w.heap.size + 2, 5, none⟩ = some (.slice none 0 0) := by rw [cell_of_block hzw4]; rfl
    have fz := frozen_of_block hzw4
    go_wp2_with fail
    (try simp only [Exit.inBlock, Exit.then])
    refine bodyPost_ret (v := .tuple #[.agg #[.int .i64 0, .bool false, .int .i64 0, .string ⟨#[]⟩, .slice none 0 0, .slice none 0 0], .int .i64 (c1 : Int)]) ?_ rfl ?_
    rotate_left
    · rw [HF.out]
      exact ⟨[.int .i64 0, .bool false, .int .i64 0, .string ⟨#[]⟩, .slice none 0 0, .slice none 0 0], rfl, HE.out.1, HE.out.2⟩
    · rw [results_cell_tmp rfl]
      go_simp
  rw [h1] at C1
  by_cases h2 : chkE p 32 = 0
  rotate_left
  · have HF : Hid (aplF t p = (nullV, (chkE p 32 : Int))) := by show _ = _; rw [aplF, if_pos h1, if_neg h2]
    generalize chkE p 32 = c2 at *
    have y2 : ¬ (c2 : Int) = 0 := by omega
    have yb2 : ((c2 : Int) != 0) = true := by simp; omega
    clear h1
    have ck0 : (((w.alloc (.cells #[.int .i64 tk, .bool tb, .int .i64 ti, .string ts, .slice tal tnl tcl, .slice tam tnm tcm] 25)).alloc (.cells #[.int .i64 pk, .bool pb, .int .i64 pi, .string ps, .slice pal pnl pcl, .slice pam pnm pcm] 25)).alloc (.cells #[.int .i64 0, .bool false, .int .i64 0, .string ⟨#[]⟩, .slice none 0 0, .slice none 0 0] 25)).cell? ⟨w.heap.size, 0, none⟩ = some (.int .i64 tk) := by rw [cell_of_block htw3]; rfl
    have ck1 : (((w.alloc (.cells #[.int .i64 tk, .bool tb, .int .i64 ti, .string ts, .slice tal tnl tcl, .slice tam tnm tcm] 25)).alloc (.cells #[.int .i64 pk, .bool pb, .int .i64 pi, .string ps, .slice pal pnl pcl, .slice pam pnm pcm] 25)).alloc (.cells #[.int .i64 0, .bool false, .int .i64 0, .string ⟨#[]⟩, .slice none 0 0, .slice none 0 0] 25)).cell? ⟨w.heap.size, 1, none⟩ = some (.bool tb) := by rw [cell_of_block htw3]; rfl
    have ck2 : (((w.alloc (.cells #[.int .i64 tk, .bool tb, .int .i64 ti, .string ts, .slice tal tnl tcl, .slice tam tnm tcm] 25)).alloc (.cells #[.int .i64 pk, .bool pb, .int .i64 pi, .string ps, .slice pal pnl pcl, .slice pam pnm pcm] 25)).alloc (.cells #[.int .i64 0, .bool false, .int .i64 0, .string ⟨#[]⟩, .slice none 0 0, .slice none 0 0] 25)).cell? ⟨w.heap.size, 2, none⟩ = some (.int .i64 ti) := by rw [cell_of_block htw3]; rfl
    have ck3 : (((w.alloc (.cells #[.int .i64 tk, .bool tb, .int .i64 ti, .string ts, .slice tal tnl tcl, .slice tam tnm tcm] 25)).alloc (.cells #[.int .i64 pk, .bool pb, .int .i64 pi, .string ps, .slice pal pnl pcl, .slice pam pnm pcm] 25)).alloc (.cells #[.int .i64 0, .bool false, .int .i64 0, .string ⟨#[]⟩, .slice none 0 0, .slice none 0 0] 25)).cell? ⟨w.heap.size, 3, none⟩ = some (.string ts) := by rw [cell_of_block htw3]; rfl
    have ck4 : (((w.alloc (.cells #[.int .i64 tk, .bool tb, .int .i64 ti, .string ts, .slice tal tnl tcl, .slice tam tnm tcm] 25)).alloc (.cells #[.int .i64 pk, .bool pb, .int .i64 pi, .string ps, .slice pal pnl pcl, .slice pam pnm pcm] 25)).alloc (.cells #[.int .i64 0, .bool false, .int .i64 0, .string ⟨#[]⟩, .slice none 0 0, .slice none 0 0] 25)).cell? ⟨w.heap.size, 4, none⟩ = some (.slice tal tnl tcl) := by rw [cell_of_block htw3]; rfl
    have ck5 : (((w.alloc (.cells #[.int .i64 tk, .bool tb, .int .i64 ti, .string ts, .slice tal tnl tcl, .slice tam tnm tcm] 25)).alloc (.cells #[.int .i64 pk, .bool pb, .int .i64 pi, .string ps, .slice pal pnl pcl, .slice pam pnm pcm] 25)).alloc (.cells #[.int .i64 0, .bool false, .int .i64 0, .string ⟨#[]⟩, .slice none 0 0, .slice none 0 0] 25)).cell? ⟨w.heap.size, 5, none⟩ = some (.slice tam tnm tcm) := by rw [cell_of_block htw3]; rfl
    go_enter Tryd.func12, Tryd.ntmps12
    go_wp2_with fail
    clear ck0 ck1 ck2 ck3 ck4 ck5
    generalize (((w.alloc (.cells #[.int .i64 tk, .bool tb, .int .i64 ti, .string ts, .slice tal tnl tcl, .slice tam tnm tcm] 25)).alloc (.cells #[.int .i64 pk, .bool pb, .int .i64 pi, .string ps, .slice pal pnl pcl, .slice pam pnm pcm] 25)).alloc (.cells #[.int .i64 0, .bool false, .int .i64 0, .string ⟨#[]⟩, .slice none 0 0, .slice none 0 0] 25)) = w3 at *
    refine (C1.out w3 Bww3).mono ?_
    rintro e w4 ⟨rfl, b4⟩
    have hzw4 := b4.size
    have htw4 := (b4.block (w.heap.size) (by omega)).trans htw3
    have hpw4 := (b4.block (w.heap.size + 1) (by omega)).trans hpw3
    have hzw4 := (b4.block (w.heap.size + 2) (by omega)).trans hzw3
    have Bww4 := Bww3.trans (b4.mono (by omega))
    have ck0 : w4.cell? ⟨w.heap.size + 1, 0, none⟩ = some (.int .i64 pk) := by rw [cell_of_block hpw4]; rfl
    have ck1 : w4.cell? ⟨w.heap.size + 1, 1, none⟩ = some (.bool pb) := by rw [cell_of_block hpw4]; rfl
    have ck2 : w4.cell? ⟨w.heap.size + 1, 2, none⟩ = some (.int .i64 pi) := by rw [cell_of_block hpw4]; rfl
    have ck3 : w4.cell? ⟨w.heap.size + 1, 3, none⟩ = some (.string ps) := by rw [cell_of_block hpw4]; rfl
    have ck4 : w4.cell? ⟨w.heap.size + 1, 4, none⟩ = some (.slice pal pnl pcl) := by rw [cell_of_block hpw4]; rfl
    have ck5 : w4.cell? ⟨w.heap.size + 1, 5, none⟩ = some (.slice pam pnm pcm) := by rw [cell_of_block hpw4]; rfl
    go_wp2_with fail
    clear ck0 ck1 ck2 ck3 ck4 ck5
    refine (C2.out w4 Bww4).mono ?_
    rintro e w5 ⟨rfl, b5⟩
    have hzw5 := b5.size
    have htw5 := (b5.block (w.heap.size) (by omega)).trans htw4
    have hpw5 := (b5.block (w.heap.size + 1) (by omega)).trans hpw4
    have hzw5 := (b5.block (w.heap.size + 2) (by omega)).trans hzw4
    have Bww5 := Bww4.trans (b5.mono (by omega))
    have HE := hmk (wn_fin (M := w.heap.size + 2) (by omega) Bww5 (null_lies _ _))
    have cz0 : w5.cell? ⟨w.heap.size + 2, 0, none⟩ = some (.int .i64 0) := by rw [cell_of_block hzw5]; rfl
    have cz1 : w5.cell? ⟨w.heap.size + 2, 1, none⟩ = some (.bool false) := by rw [cell_of_block hzw5]; rfl
    have cz2 : w5.cell? ⟨w.heap.size + 2, 2, none⟩ = some (.int .i64 0) := by rw [cell_of_block hzw5]; rfl
    have cz3 : w5.cell? ⟨w.heap.size + 2, 3, none⟩ = some (.string ⟨#[]⟩) := by rw [cell_of_block hzw5]; rfl
    have cz4 : w5.cell? ⟨w.heap.size + 2, 4, none⟩ = some (.slice none 0 0) := by rw [cell_of_block hzw5]; rfl
    have cz5 : w5.cell? ⟨w.heap.size + 2, 5, none⟩ = some (.slice none 0 0) := by rw [cell_of_block hzw5]; rfl
    have fz := frozen_of_block hzw5
    go_wp2_with fail
    (try simp only [Exit.inBlock, Exit.then])
    refine bodyPost_ret (v := .tuple #[.agg #[.int .i64 0, .bool false, .int .i64 0, .string ⟨#[]⟩, .slice none 0 0, .slice none 0 0], .int .i64 (c2 : Int)]) ?_ rfl ?_
    rotate_left
    · rw [HF.out]
      exact ⟨[.int .i64 0, .bool false, .int .i64 0, .string ⟨#[]⟩, .slice none 0 0, .slice none 0 0], rfl, HE.out.1, HE.out.2⟩
    · rw [results_cell_tmp rfl]
      go_simp
  rw [h2] at C2
  have ot : Ok t := ok_chk (D := 32) (by omega) h1
  have op : Ok p := ok_chk (D := 32) (by omega) h2
  have hpw := pch_wt2 ot op
  by_cases h3 : chkE (pchV t p) 32 = 0
  rotate_left
  · have HF : Hid (aplF t p = (nullV, (chkE (pchV t p) 32 : Int))) := by show _ = _; rw [aplF, if_pos h1, if_pos h2, if_neg h3]
    obtain ⟨c3, H3⟩ : ∃ c3, chkE (pchV t p) 32 = c3 := ⟨_, rfl⟩
    rw [H3] at HF h3
    have y3 : ¬ (c3 : Int) = 0 := by omega
    have yb3 : ((c3 : Int) != 0) = true := by simp; omega
    clear h1 h2
    have ck0 : (((w.alloc (.cells #[.int .i64 tk, .bool tb, .int .i64 ti, .string ts, .slice tal tnl tcl, .slice tam tnm tcm] 25)).alloc (.cells #[.int .i64 pk, .bool pb, .int .i64 pi, .string ps, .slice pal pnl pcl, .slice pam pnm pcm] 25)).alloc (.cells #[.int .i64 0, .bool false, .int .i64 0, .string ⟨#[]⟩, .slice none 0 0, .slice none 0 0] 25)).cell? ⟨w.heap.size, 0, none⟩ = some (.int .i64 tk) := by rw [cell_of_block htw3]; rfl
    have ck1 : (((w.alloc (.cells #[.int .i64 tk, .bool tb, .int .i64 ti, .string ts, .slice tal tnl tcl, .slice tam tnm tcm] 25)).alloc (.cells #[.int .i64 pk, .bool pb, .int .i64 pi, .string ps, .slice pal pnl pcl, .slice pam pnm pcm] 25)).alloc (.cells #[.int .i64 0, .bool false, .int .i64 0, .string ⟨#[]⟩, .slice none 0 0, .slice none 0 0] 25)).cell? ⟨w.heap.size, 1, none⟩ = some (.bool tb) := by rw [cell_of_block htw3]; rfl
    have ck2 : (((w.alloc (.cells #[.int .i64 tk, .bool tb, .int .i64 ti, .string ts, .slice tal tnl tcl, .slice tam tnm tcm] 25)).alloc (.cells #[.int .i64 pk, .bool pb, .int .i64 pi, .string ps, .slice pal pnl pcl, .slice pam pnm pcm] 25)).alloc (.cells #[.int .i64 0, .bool false, .int .i64 0, .string ⟨#[]⟩, .slice none 0 0, .slice none 0 0] 25)).cell? ⟨w.heap.size, 2, none⟩ = some (.int .i64 ti) := by rw [cell_of_block htw3]; rfl
    have ck3 : (((w.alloc (.cells #[.int .i64 tk, .bool tb, .int .i64 ti, .string ts, .slice tal tnl tcl, .slice tam tnm tcm] 25)).alloc (.cells #[.int .i64 pk, .bool pb, .int .i64 pi, .string ps, .slice pal pnl pcl, .slice pam pnm pcm] 25)).alloc (.cells #[.int .i64 0, .bool false, .int .i64 0, .string ⟨#[]⟩, .slice none 0 0, .slice none 0 0] 25)).cell? ⟨w.heap.size, 3, none⟩ = some (.string ts) := by rw [cell_of_block htw3]; rfl
    have ck4 : (((w.alloc (.cells #[.int .i64 tk, .bool tb, .int .i64 ti, .string ts, .slice tal tnl tcl, .slice tam tnm tcm] 25)).alloc (.cells #[.int .i64 pk, .bool pb, .int .i64 pi, .string ps, .slice pal pnl pcl, .slice pam pnm pcm] 25)).alloc (.cells #[.int .i64 0, .bool false, .int .i64 0, .string ⟨#[]⟩, .slice none 0 0, .slice none 0 0] 25)).cell? ⟨w.heap.size, 4, none⟩ = some (.slice tal tnl tcl) := by rw [cell_of_block htw3]; rfl
    have ck5 : (((w.alloc (.cells #[.int .i64 tk, .bool tb, .int .i64 ti, .string ts, .slice tal tnl tcl, .slice tam tnm tcm] 25)).alloc (.cells #[.int .i64 pk, .bool pb, .int .i64 pi, .string ps, .slice pal pnl pcl, .slice pam pnm pcm] 25)).alloc (.cells #[.int .i64 0, .bool false, .int .i64 0, .string ⟨#[]⟩, .slice none 0 0, .slice none 0 0] 25)).cell? ⟨w.heap.size, 5, none⟩ = some (.slice tam tnm tcm) := by rw [cell_of_block htw3]; rfl
    go_enter Tryd.func12, Tryd.ntmps12
    go_wp2_with fail
    clear ck0 ck1 ck2 ck3 ck4 ck5
    generalize (((w.alloc (.cells #[.int .i64 tk, .bool tb, .int .i64 ti, .string ts, .slice tal tnl tcl, .slice tam tnm tcm] 25)).alloc (.cells #[.int .i64 pk, .bool pb, .int .i64 pi, .string ps, .slice pal pnl pcl, .slice pam pnm pcm] 25)).alloc (.cells #[.int .i64 0, .bool false, .int .i64 0, .string ⟨#[]⟩, .slice none 0 0, .slice none 0 0] 25)) = w3 at *
    refine (C1.out w3 Bww3).mono ?_
    rintro e w4 ⟨rfl, b4⟩
    have hzw4 := b4.size
    have htw4 := (b4.block (w.heap.size) (by omega)).trans htw3
    have hpw4 := (b4.block (w.heap.size + 1) (by omega)).trans hpw3
    have hzw4 := (b4.block (w.heap.size + 2) (by omega)).trans hzw3
    have Bww4 := Bww3.trans (b4.mono (by omega))
    have ck0 : w4.cell? ⟨w.heap.size + 1, 0, none⟩ = some (.int .i64 pk) := by rw [cell_of_block hpw4]; rfl
    have ck1 : w4.cell? ⟨w.heap.size + 1, 1, none⟩ = some (.bool pb) := by rw [cell_of_block hpw4]; rfl
    have ck2 : w4.cell? ⟨w.heap.size + 1, 2, none⟩ = some (.int .i64 pi) := by rw [cell_of_block hpw4]; rfl
    have ck3 : w4.cell? ⟨w.heap.size + 1, 3, none⟩ = some (.string ps) := by rw [cell_of_block hpw4]; rfl
    have ck4 : w4.cell? ⟨w.heap.size + 1, 4, none⟩ = some (.slice pal pnl pcl) := by rw [cell_of_block hpw4]; rfl
    have ck5 : w4.cell? ⟨w.heap.size + 1, 5, none⟩ = some (.slice pam pnm pcm) := by rw [cell_of_block hpw4]; rfl
    go_wp2_with fail
    clear ck0 ck1 ck2 ck3 ck4 ck5
    refine (C2.out w4 Bww4).mono ?_
    rintro e w5 ⟨rfl, b5⟩
    have hzw5 := b5.size
    have htw5 := (b5.block (w.heap.size) (by omega)).trans htw4
    have hpw5 := (b5.block (w.heap.size + 1) (by omega)).trans hpw4
    have hzw5 := (b5.block (w.heap.size + 2) (by omega)).trans hzw4
    have Bww5 := Bww4.trans (b5.mono (by omega))
    have ct0 : w5.cell? ⟨w.heap.size, 0, none⟩ = some (.int .i64 tk) := by rw [cell_of_block htw5]; rfl
    have ct1 : w5.cell? ⟨w.heap.size, 1, none⟩ = some (.bool tb) := by rw [cell_of_block htw5]; rfl
    have ct2 : w5.cell? ⟨w.heap.size, 2, none⟩ = some (.int .i64 ti) := by rw [cell_of_block htw5]; rfl
    have ct3 : w5.cell? ⟨w.heap.size, 3, none⟩ = some (.string ts) := by rw [cell_of_block htw5]; rfl
    have ct4 : w5.cell? ⟨w.heap.size, 4, none⟩ = some (.slice tal tnl tcl) := by rw [cell_of_block htw5]; rfl
    have ct5 : w5.cell? ⟨w.heap.size, 5, none⟩ = some (.slice tam tnm tcm) := by rw [cell_of_block htw5]; rfl
    have cp0 : w5.cell? ⟨w.heap.size + 1, 0, none⟩ = some (.int .i64 pk) := by rw [cell_of_block hpw5]; rfl
    have cp1 : w5.cell? ⟨w.heap.size + 1, 1, none⟩ = some (.bool pb) := by rw [cell_of_block hpw5]; rfl
    have cp2 : w5.cell? ⟨w.heap.size + 1, 2, none⟩ = some (.int .i64 pi) := by rw [cell_of_block hpw5]; rfl
    have cp3 : w5.cell? ⟨w.heap.size + 1, 3, none⟩ = some (.string ps) := by rw [cell_of_block hpw5]; rfl
    have cp4 : w5.cell? ⟨w.heap.size + 1, 4, none⟩ = some (.slice pal pnl pcl) := by rw [cell_of_block hpw5]; rfl
    have cp5 : w5.cell? ⟨w.heap.size + 1, 5, none⟩ = some (.slice pam pnm pcm) := by rw [cell_of_block hpw5]; rfl
    go_wp2_with fail
    clear ct0 ct1 ct2 ct3 ct4 ct5 cp0 cp1 cp2 cp3 cp4 cp5
    refine (rpatched_any p t S _ _ w5 ot op (HL.out w5 Bww5).1 (HL.out w5 Bww5).2.1 (HL.out w5 Bww5).2.2).mono ?_
    rintro e w6 ⟨csr, rfl, hlr, b6⟩
    obtain ⟨rk, rb, ri, rs, ral, rnl, rcl, ram, rnm, rcm, rfl⟩ := V.ten hlr
    have HR : Hid (∀ W, Below w6.heap.size w6 W → (pchV t p).lies false W (fun y => w.heap.size + 2 < y ∧ y < w6.heap.size) [.int .i64 rk, .bool rb, .int .i64 ri, .string rs, .slice ral rnl rcl, .slice ram rnm rcm]) := fun W hb => V.lies_keep (fun h => h) (fun y hy => hb.block y hy.2) (fun y hy => ⟨by have := hy.1; omega, hy.2⟩) _ hlr
    have hzw6 := b6.size
    have htw6 := (b6.block (w.heap.size) (by omega)).trans htw5
    have hpw6 := (b6.block (w.heap.size + 1) (by omega)).trans hpw5
    have hzw6 := (b6.block (w.heap.size + 2) (by omega)).trans hzw5
    have Bww6 := Bww5.trans (b6.mono (by omega))
    have Brw6 : Below w6.heap.size w6 w6 := Below.refl _ _
    clear hlr
    have bzw7 : Below w6.heap.size w6 (w6.alloc (.cells #[.int .i64 rk, .bool rb, .int .i64 ri, .string rs, .slice ral rnl rcl, .slice ram rnm rcm] 25)) := one_belowG _ _
    have hltw7 : w6.heap.size < (w6.alloc (.cells #[.int .i64 rk, .bool rb, .int .i64 ri, .string rs, .slice ral rnl rcl, .slice ram rnm rcm] 25)).heap.size := by rw [alloc_size]; omega
    have htw7 := (bzw7.block (w.heap.size) (by omega)).trans htw6
    have hpw7 := (bzw7.block (w.heap.size + 1) (by omega)).trans hpw6
    have hzw7 := (bzw7.block (w.heap.size + 2) (by omega)).trans hzw6
    have Bww7 := Bww6.trans (bzw7.mono (by omega))
    have Brw7 := Brw6.trans (bzw7.mono (by omega))
    have hrw7 := heap_alloc_new w6 (.cells #[.int .i64 rk, .bool rb, .int .i64 ri, .string rs, .slice ral rnl rcl, .slice ram rnm rcm] 25)
    have ck0 : (w6.alloc (.cells #[.int .i64 rk, .bool rb, .int .i64 ri, .string rs, .slice ral rnl rcl, .slice ram rnm rcm] 25)).cell? ⟨w6.heap.size, 0, none⟩ = some (.int .i64 rk) := by rw [cell_of_block hrw7]; rfl
    have ck1 : (w6.alloc (.cells #[.int .i64 rk, .bool rb, .int .i64 ri, .string rs, .slice ral rnl rcl, .slice ram rnm rcm] 25)).cell? ⟨w6.heap.size, 1, none⟩ = some (.bool rb) := by rw [cell_of_block hrw7]; rfl
    have ck2 : (w6.alloc (.cells #[.int .i64 rk, .bool rb, .int .i64 ri, .string rs, .slice ral rnl rcl, .slice ram rnm rcm] 25)).cell? ⟨w6.heap.size, 2, none⟩ = some (.int .i64 ri) := by rw [cell_of_block hrw7]; rfl
    have ck3 : (w6.alloc (.cells #[.int .i64 rk, .bool rb, .int .i64 ri, .string rs, .slice ral rnl rcl, .slice ram rnm rcm] 25)).cell? ⟨w6.heap.size, 3, none⟩ = some (.string rs) := by rw [cell_of_block hrw7]; rfl
    have ck4 : (w6.alloc (.cells #[.int .i64 rk, .bool rb, .int .i64 ri, .string rs, .slice ral rnl rcl, .slice ram rnm rcm] 25)).cell? ⟨w6.heap.size, 4, none⟩ = some (.slice ral rnl rcl) := by rw [cell_of_block hrw7]; rfl
    have ck5 : (w6.alloc (.cells #[.int .i64 rk, .bool rb, .int .i64 ri, .string rs, .slice ral rnl rcl, .slice ram rnm rcm] 25)).cell? ⟨w6.heap.size, 5, none⟩ = some (.slice ram rnm rcm) := by rw [cell_of_block hrw7]; rfl
    go_wp2_with fail
    clear ck0 ck1 ck2 ck3 ck4 ck5
    generalize (w6.alloc (.cells #[.int .i64 rk, .bool rb, .int .i64 ri, .string rs, .slice ral rnl rcl, .slice ram rnm rcm] 25)) = w7 at *
    have C3 := rcheck_any false (pchV t p) 32 _ _ w7 (HR.out w7 Brw7) (fun y hy => by have := hy.2; omega) (by omega)
    rw [H3] at C3
    refine C3.mono ?_
    rintro e w8 ⟨rfl, b8⟩
    clear C3
    have hzw8 := b8.size
    have htw8 := (b8.block (w.heap.size) (by omega)).trans htw7
    have hpw8 := (b8.block (w.heap.size + 1) (by omega)).trans hpw7
    have hzw8 := (b8.block (w.heap.size + 2) (by omega)).trans hzw7
    have hrw8 := (b8.block (w6.heap.size) (by omega)).trans hrw7
    have Bww8 := Bww7.trans (b8.mono (by omega))
    have Brw8 := Brw7.trans (b8.mono (by omega))
    have HE := hmk (wn_fin (M := w.heap.size + 2) (by omega) Bww8 (null_lies _ _))
    have cz0 : w8.cell? ⟨w.heap.size + 2, 0, none⟩ = some (.int .i64 0) := by rw [cell_of_block hzw8]; rfl
    have cz1 : w8.cell? ⟨w.heap.size + 2, 1, none⟩ = some (.bool false) := by rw [cell_of_block hzw8]; rfl
    have cz2 : w8.cell? ⟨w.heap.size + 2, 2, none⟩ = some (.int .i64 0) := by rw [cell_of_block hzw8]; rfl
    have cz3 : w8.cell? ⟨w.heap.size + 2, 3, none⟩ = some (.string ⟨#[]⟩) := by rw [cell_of_block hzw8]; rfl
    have cz4 : w8.cell? ⟨w.heap.size + 2, 4, none⟩ = some (.slice none 0 0) := by rw [cell_of_block hzw8]; rfl
    have cz5 : w8.cell? ⟨w.heap.size + 2, 5, none⟩ = some (.slice none 0 0) := by rw [cell_of_block hzw8]; rfl
    have fz := frozen_of_block hzw8
    go_wp2_with fail
    (try simp only [Exit.inBlock, Exit.then])
    refine bodyPost_ret (v := .tuple #[.agg #[.int .i64 0, .bool false, .int .i64 0, .string ⟨#[]⟩, .slice none 0 0, .slice none 0 0], .int .i64 (c3 : Int)]) ?_ rfl ?_
    rotate_left
    · rw [HF.out]
      exact ⟨[.int .i64 0, .bool false, .int .i64 0, .string ⟨#[]⟩, .slice none 0 0, .slice none 0 0], rfl, HE.out.1, HE.out.2⟩
    · rw [results_cell_tmp rfl]
      go_simp
  have HF : Hid (aplF t p = (pchV t p, 0)) := by show _ = _; rw [aplF, if_pos h1, if_pos h2, if_pos h3]
  have H3 := h3
  have hcl := (ok_chk (D := 32) (by omega) h3).cln
  clear h1 h2
  have ck0 : (((w.alloc (.cells #[.int .i64 tk, .bool tb, .int .i64 ti, .string ts, .slice tal tnl tcl, .slice tam tnm tcm] 25)).alloc (.cells #[.int .i64 pk, .bool pb, .int .i64 pi, .string ps, .slice pal pnl pcl, .slice pam pnm pcm] 25)).alloc (.cells #[.int .i64 0, .bool false, .int .i64 0, .string ⟨#[]⟩, .slice none 0 0, .slice none 0 0] 25)).cell? ⟨w.heap.size, 0, none⟩ = some (.int .i64 tk) := by rw [cell_of_block htw3]; rfl
  have ck1 : (((w.alloc (.cells #[.int .i64 tk, .bool tb, .int .i64 ti, .string ts, .slice tal tnl tcl, .slice tam tnm tcm] 25)).alloc (.cells #[.int .i64 pk, .bool pb, .int .i64 pi, .string ps, .slice pal pnl pcl, .slice pam pnm pcm] 25)).alloc (.cells #[.int .i64 0, .bool false, .int .i64 0, .string ⟨#[]⟩, .slice none 0 0, .slice none 0 0] 25)).cell? ⟨w.heap.size, 1, none⟩ = some (.bool tb) := by rw [cell_of_block htw3]; rfl
  have ck2 : (((w.alloc (.cells #[.int .i64 tk, .bool tb, .int .i64 ti, .string ts, .slice tal tnl tcl, .slice tam tnm tcm] 25)).alloc (.cells #[.int .i64 pk, .bool pb, .int .i64 pi, .string ps, .slice pal pnl pcl, .slice pam pnm pcm] 25)).alloc (.cells #[.int .i64 0, .bool false, .int .i64 0, .string ⟨#[]⟩, .slice none 0 0, .slice none 0 0] 25)).cell? ⟨w.heap.size, 2, none⟩ = some (.int .i64 ti) := by rw [cell_of_block htw3]; rfl
  have ck3 : (((w.alloc (.cells #[.int .i64 tk, .bool tb, .int .i64 ti, .string ts, .slice tal tnl tcl, .slice tam tnm tcm] 25)).alloc (.cells #[.int .i64 pk, .bool pb, .int .i64 pi, .string ps, .slice pal pnl pcl, .slice pam pnm pcm] 25)).alloc (.cells #[.int .i64 0, .bool false, .int .i64 0, .string ⟨#[]⟩, .slice none 0 0, .slice none 0 0] 25)).cell? ⟨w.heap.size, 3, none⟩ = some (.string ts) := by rw [cell_of_block htw3]; rfl
  have ck4 : (((w.alloc (.cells #[.int .i64 tk, .bool tb, .int .i64 ti, .string ts, .slice tal tnl tcl, .slice tam tnm tcm] 25)).alloc (.cells #[.int .i64 pk, .bool pb, .int .i64 pi, .string ps, .slice pal pnl pcl, .slice pam pnm pcm] 25)).alloc (.cells #[.int .i64 0, .bool false, .int .i64 0, .string ⟨#[]⟩, .slice none 0 0, .slice none 0 0] 25)).cell? ⟨w.heap.size, 4, none⟩ = some (.slice tal tnl tcl) := by rw [cell_of_block htw3]; rfl
  have ck5 : (((w.alloc (.cells #[.int .i64 tk, .bool tb, .int .i64 ti, .string ts, .slice tal tnl tcl, .slice tam tnm tcm] 25)).alloc (.cells #[.int .i64 pk, .bool pb, .int .i64 pi, .string ps, .slice pal pnl pcl, .slice pam pnm pcm] 25)).alloc (.cells #[.int .i64 0, .bool false, .int .i64 0, .string ⟨#[]⟩, .slice none 0 0, .slice none 0 0] 25)).cell? ⟨w.heap.size, 5, none⟩ = some (.slice tam tnm tcm) := by rw [cell_of_block htw3]; rfl
  go_enter Tryd.func12, Tryd.ntmps12
  go_wp2_with fail
  clear ck0 ck1 ck2 ck3 ck4 ck5
  generalize (((w.alloc (.cells #[.int .i64 tk, .bool tb, .int .i64 ti, .string ts, .slice tal tnl tcl, .slice tam tnm tcm] 25)).alloc (.cells #[.int .i64 pk, .bool pb, .int .i64 pi, .string ps, .slice pal pnl pcl, .slice pam pnm pcm] 25)).alloc (.cells #[.int .i64 0, .bool false, .int .i64 0, .string ⟨#[]⟩, .slice none 0 0, .slice none 0 0] 25)) = w3 at *
  refine (C1.out w3 Bww3).mono ?_
  rintro e w4 ⟨rfl, b4⟩
  have hzw4 := b4.size
  have htw4 := (b4.block (w.heap.size) (by omega)).trans htw3
  have hpw4 := (b4.block (w.heap.size + 1) (by omega)).trans hpw3
  have hzw4 := (b4.block (w.heap.size + 2) (by omega)).trans hzw3
  have Bww4 := Bww3.trans (b4.mono (by omega))
  have ck0 : w4.cell? ⟨w.heap.size + 1, 0, none⟩ = some (.int .i64 pk) := by rw [cell_of_block hpw4]; rfl
  have ck1 : w4.cell? ⟨w.heap.size + 1, 1, none⟩ = some (.bool pb) := by rw [cell_of_block hpw4]; rfl
  have ck2 : w4.cell? ⟨w.heap.size + 1, 2, none⟩ = some (.int .i64 pi) := by rw [cell_of_block hpw4]; rfl
  have ck3 : w4.cell? ⟨w.heap.size + 1, 3, none⟩ = some (.string ps) := by rw [cell_of_block hpw4]; rfl
  have ck4 : w4.cell? ⟨w.heap.size + 1, 4, none⟩ = some (.slice pal pnl pcl) := by rw [cell_of_block hpw4]; rfl
  have ck5 : w4.cell? ⟨w.heap.size + 1, 5, none⟩ = some (.slice pam pnm pcm) := by rw [cell_of_block hpw4]; rfl
  go_wp2_with fail
  clear ck0 ck1 ck2 ck3 ck4 ck5
  refine (C2.out w4 Bww4).mono ?_
  rintro e w5 ⟨rfl, b5⟩
  have hzw5 := b5.size
  have htw5 := (b5.block (w.heap.size) (by omega)).trans htw4
  have hpw5 := (b5.block (w.heap.size + 1) (by omega)).trans hpw4
  have hzw5 := (b5.block (w.heap.size + 2) (by omega)).trans hzw4
  have Bww5 := Bww4.trans (b5.mono (by omega))
  have ct0 : w5.cell? ⟨w.heap.size, 0, none⟩ = some (.int .i64 tk) := by rw [cell_of_block htw5]; rfl
  have ct1 : w5.cell? ⟨w.heap.size, 1, none⟩ = some (.bool tb) := by rw [cell_of_block htw5]; rfl
  have ct2 : w5.cell? ⟨w.heap.size, 2, none⟩ = some (.int .i64 ti) := by rw [cell_of_block htw5]; rfl
  have ct3 : w5.cell? ⟨w.heap.size, 3, none⟩ = some (.string ts) := by rw [cell_of_block htw5]; rfl
  have ct4 : w5.cell? ⟨w.heap.size, 4, none⟩ = some (.slice tal tnl tcl) := by rw [cell_of_block htw5]; rfl
  have ct5 : w5.cell? ⟨w.heap.size, 5, none⟩ = some (.slice tam tnm tcm) := by rw [cell_of_block htw5]; rfl
  have cp0 : w5.cell? ⟨w.heap.size + 1, 0, none⟩ = some (.int .i64 pk) := by rw [cell_of_block hpw5]; rfl
  have cp1 : w5.cell? ⟨w.heap.size + 1, 1, none⟩ = some (.bool pb) := by rw [cell_of_block hpw5]; rfl
  have cp2 : w5.cell? ⟨w.heap.size + 1, 2, none⟩ = some (.int .i64 pi) := by rw [cell_of_block hpw5]; rfl
  have cp3 : w5.cell? ⟨w.heap.size + 1, 3, none⟩ = some (.string ps) := by rw [cell_of_block hpw5]; rfl
  have cp4 : w5.cell? ⟨w.heap.size + 1, 4, none⟩ = some (.slice pal pnl pcl) := by rw [cell_of_block hpw5]; rfl
  have cp5 : w5.cell? ⟨w.heap.size + 1, 5, none⟩ = some (.slice pam pnm pcm) := by rw [cell_of_block hpw5]; rfl
  go_wp2_with fail
  clear ct0 ct1 ct2 ct3 ct4 ct5 cp0 cp1 cp2 cp3 cp4 cp5
  refine (rpatched_any p t S _ _ w5 ot op (HL.out w5 Bww5).1 (HL.out w5 Bww5).2.1 (HL.out w5 Bww5).2.2).mono ?_
  rintro e w6 ⟨csr, rfl, hlr, b6⟩
  obtain ⟨rk, rb, ri, rs, ral, rnl, rcl, ram, rnm, rcm, rfl⟩ := V.ten hlr
  have HR : Hid (∀ W, Below w6.heap.size w6 W → (pchV t p).lies false W (fun y => w.heap.size + 2 < y ∧ y < w6.heap.size) [.int .i64 rk, .bool rb, .int .i64 ri, .string rs, .slice ral rnl rcl, .slice ram rnm rcm]) := fun W hb => V.lies_keep (fun h => h) (fun y hy => hb.block y hy.2) (fun y hy => ⟨by have := hy.1; omega, hy.2⟩) _ hlr
  have hzw6 := b6.size
  have htw6 := (b6.block (w.heap.size) (by omega)).trans htw5
  have hpw6 := (b6.block (w.heap.size + 1) (by omega)).trans hpw5
  have hzw6 := (b6.block (w.heap.size + 2) (by omega)).trans hzw5
  have Bww6 := Bww5.trans (b6.mono (by omega))
  have Brw6 : Below w6.heap.size w6 w6 := Below.refl _ _
  clear hlr
  have bzw7 : Below w6.heap.size w6 (w6.alloc (.cells #[.int .i64 rk, .bool rb, .int .i64 ri, .string rs, .slice ral rnl rcl, .slice ram rnm rcm] 25)) := one_belowG _ _
  have hltw7 : w6.heap.size < (w6.alloc (.cells #[.int .i64 rk, .bool rb, .int .i64 ri, .string rs, .slice ral rnl rcl, .slice ram rnm rcm] 25)).heap.size := by rw [alloc_size]; omega
  have htw7 := (bzw7.block (w.heap.size) (by omega)).trans htw6
  have hpw7 := (bzw7.block (w.heap.size + 1) (by omega)).trans hpw6
  have hzw7 := (bzw7.block (w.heap.size + 2) (by omega)).trans hzw6
  have Bww7 := Bww6.trans (bzw7.mono (by omega))
  have Brw7 := Brw6.trans (bzw7.mono (by omega))
  have hrw7 := heap_alloc_new w6 (.cells #[.int .i64 rk, .bool rb, .int .i64 ri, .string rs, .slice ral rnl rcl, .slice ram rnm rcm] 25)
  have ck0 : (w6.alloc (.cells #[.int .i64 rk, .bool rb, .int .i64 ri, .string rs, .slice ral rnl rcl, .slice ram rnm rcm] 25)).cell? ⟨w6.heap.size, 0, none⟩ = some (.int .i64 rk) := by rw [cell_of_block hrw7]; rfl
  have ck1 : (w6.alloc (.cells #[.int .i64 rk, .bool rb, .int .i64 ri, .string rs, .slice ral rnl rcl, .slice ram rnm rcm] 25)).cell? ⟨w6.heap.size, 1, none⟩ = some (.bool rb) := by rw [cell_of_block hrw7]; rfl
  have ck2 : (w6.alloc (.cells #[.int .i64 rk, .bool rb, .int .i64 ri, .string rs, .slice ral rnl rcl, .slice ram rnm rcm] 25)).cell? ⟨w6.heap.size, 2, none⟩ = some (.int .i64 ri) := by rw [cell_of_block hrw7]; rfl
  have ck3 : (w6.alloc (.cells #[.int .i64 rk, .bool rb, .int .i64 ri, .string rs, .slice ral rnl rcl, .slice ram rnm rcm] 25)).cell? ⟨w6.heap.size, 3, none⟩ = some (.string rs) := by rw [cell_of_block hrw7]; rfl
  have ck4 : (w6.alloc (.cells #[.int .i64 rk, .bool rb, .int .i64 ri, .string rs, .slice ral rnl rcl, .slice ram rnm rcm] 25)).cell? ⟨w6.heap.size, 4, none⟩ = some (.slice ral rnl rcl) := by rw [cell_of_block hrw7]; rfl
  have ck5 : (w6.alloc (.cells #[.int .i64 rk, .bool rb, .int .i64 ri, .string rs, .slice ral rnl rcl, .slice ram rnm rcm] 25)).cell? ⟨w6.heap.size, 5, none⟩ = some (.slice ram rnm rcm) := by rw [cell_of_block hrw7]; rfl
  go_wp2_with fail
  clear ck0 ck1 ck2 ck3 ck4 ck5
  generalize (w6.alloc (.cells #[.int .i64 rk, .bool rb, .int .i64 ri, .string rs, .slice ral rnl rcl, .slice ram rnm rcm] 25)) = w7 at *
  have C3 := rcheck_any false (pchV t p) 32 _ _ w7 (HR.out w7 Brw7) (fun y hy => by have := hy.2; omega) (by omega)
  rw [H3] at C3
  refine C3.mono ?_
  rintro e w8 ⟨rfl, b8⟩
  clear C3
  have hzw8 := b8.size
  have htw8 := (b8.block (w.heap.size) (by omega)).trans htw7
  have hpw8 := (b8.block (w.heap.size + 1) (by omega)).trans hpw7
  have hzw8 := (b8.block (w.heap.size + 2) (by omega)).trans hzw7
  have hrw8 := (b8.block (w6.heap.size) (by omega)).trans hrw7
  have Bww8 := Bww7.trans (b8.mono (by omega))
  have Brw8 := Brw7.trans (b8.mono (by omega))
  have ck0 : w8.cell? ⟨w6.heap.size, 0, none⟩ = some (.int .i64 rk) := by rw [cell_of_block hrw8]; rfl
  have ck1 : w8.cell? ⟨w6.heap.size, 1, none⟩ = some (.bool rb) := by rw [cell_of_block hrw8]; rfl
  have ck2 : w8.cell? ⟨w6.heap.size, 2, none⟩ = some (.int .i64 ri) := by rw [cell_of_block hrw8]; rfl
  have ck3 : w8.cell? ⟨w6.heap.size, 3, none⟩ = some (.string rs) := by rw [cell_of_block hrw8]; rfl
  have ck4 : w8.cell? ⟨w6.heap.size, 4, none⟩ = some (.slice ral rnl rcl) := by rw [cell_of_block hrw8]; rfl
  have ck5 : w8.cell? ⟨w6.heap.size, 5, none⟩ = some (.slice ram rnm rcm) := by rw [cell_of_block hrw8]; rfl
  go_wp2_with fail
  clear ck0 ck1 ck2 ck3 ck4 ck5
  have CC := rclone36_any (pchV t p) false _ _ w8 (HR.out w8 Brw8) (fun y hy => by have := hy.2; omega) (by omega)
  rw [hcl] at CC
  refine CC.mono ?_
  rintro e w9 ⟨csn, rfl, hln, b9⟩
  clear CC
  obtain ⟨nk, nb, ni, ns, nal, nnl, ncl, nam, nnm, ncm, rfl⟩ := V.ten hln
  have hzw9 := b9.size
  have htw9 := (b9.block (w.heap.size) (by omega)).trans htw8
  have hpw9 := (b9.block (w.heap.size + 1) (by omega)).trans hpw8
  have hzw9 := (b9.block (w.heap.size + 2) (by omega)).trans hzw8
  have hrw9 := (b9.block (w6.heap.size) (by omega)).trans hrw8
  have Bww9 := Bww8.trans (b9.mono (by omega))
  have Brw9 := Brw8.trans (b9.mono (by omega))
  have HE := hmk (wn_fin (M := w.heap.size + 2) (by omega) Bww9 (V.lies_keep (fun h => h) (fun _ _ => rfl) (fun y hy => ⟨by have := hy.1; omega, by have := hy.1; omega, hy.2⟩) _ hln))
  have cz0 : w9.cell? ⟨w.heap.size + 2, 0, none⟩ = some (.int .i64 0) := by rw [cell_of_block hzw9]; rfl
  have cz1 : w9.cell? ⟨w.heap.size + 2, 1, none⟩ = some (.bool false) := by rw [cell_of_block hzw9]; rfl
  have cz2 : w9.cell? ⟨w.heap.size + 2, 2, none⟩ = some (.int .i64 0) := by rw [cell_of_block hzw9]; rfl
  have cz3 : w9.cell? ⟨w.heap.size + 2, 3, none⟩ = some (.string ⟨#[]⟩) := by rw [cell_of_block hzw9]; rfl
  have cz4 : w9.cell? ⟨w.heap.size + 2, 4, none⟩ = some (.slice none 0 0) := by rw [cell_of_block hzw9]; rfl
  have cz5 : w9.cell? ⟨w.heap.size + 2, 5, none⟩ = some (.slice none 0 0) := by rw [cell_of_block hzw9]; rfl
  have fz := frozen_of_block hzw9
  go_wp2_with fail
  (try simp only [Exit.inBlock, Exit.then])
  refine bodyPost_ret (v := .tuple #[.agg #[.int .i64 nk, .bool nb, .int .i64 ni, .string ns, .slice nal nnl ncl, .slice nam nnm ncm], .int .i64 0]) ?_ rfl ?_
  rotate_left
  · rw [HF.out]
    exact ⟨[.int .i64 nk, .bool nb, .int .i64 ni, .string ns, .slice nal nnl ncl, .slice nam nnm ncm], rfl, HE.out.1, HE.out.2⟩
  · rw [results_cell_tmp rfl]
    go_simp
end Go.Proofs.YtjfldbmopjojdaaDoor
