/- joined: NweA RdyA TokP GetB -/
import Derived.Test.YtgnofbigggmilaaGreatDoorG22
import Derived.LoopN
set_option linter.unusedSimpArgs false
set_option linter.unusedVariables false
namespace Go.Proofs.YtgnofbigggmilaaGreatDoor
open Go.RowKit Go.Lib
def nweF (v : V) (e : Int) : V × Int := if e = 0 then (if chkE v 40 = 0 then (v, 0) else (nullV, (chkE v 40 : Int))) else (nullV, e)
def NwPost (p : V × Int) (w : World) (e : Ending) (w' : World) : Prop := ∃ cs : List Value, e = .returned (.tuple #[.agg cs.toArray, .int .i64 p.2]) ∧ p.1.lies false w' (New w w') cs ∧ Below w.heap.size w w'
set_option maxHeartbeats 8000000 in
set_option maxRecDepth 100000 in
theorem nwe_any (v : V) (er : Int) (S : Nat → Prop) (cs : List Value) (w : World) (tb : Tb w) (hv : v.lies false w S cs) (hS : ∀ b, S b → b < w.heap.size) (hwt : v.wt ≤ 1099511627776) : Calls Tryz.prog 37 #[.agg cs.toArray, .int .i64 er] w (NwPost (nweF v er) w) := by
 have HV := hmk hv
 obtain ⟨k, b, i, s, al, nl, cl, am, nm, cm, rfl⟩ := V.ten hv
 clear hv
 have B0 : Below w.heap.size w ((w.alloc (.cells #[.int .i64 k, .bool b, .int .i64 i, .string s, .slice al nl cl, .slice am nm cm] 25)).alloc (.cells #[.int .i64 0, .bool false, .int .i64 0, .string ⟨#[]⟩, .slice none 0 0, .slice none 0 0] 25)) := two_below w _ _
 have hz0 : ((w.alloc (.cells #[.int .i64 k, .bool b, .int .i64 i, .string s, .slice al nl cl, .slice am nm cm] 25)).alloc (.cells #[.int .i64 0, .bool false, .int .i64 0, .string ⟨#[]⟩, .slice none 0 0, .slice none 0 0] 25)).heap.size = w.heap.size + 2 := by rw [alloc_size, alloc_size]
 have h0 := alloc2_keep1 w (.cells #[.int .i64 k, .bool b, .int .i64 i, .string s, .slice al nl cl, .slice am nm cm] 25) (.cells #[.int .i64 0, .bool false, .int .i64 0, .string ⟨#[]⟩, .slice none 0 0, .slice none 0 0] 25)
 have h1 := alloc2_new w (.cells #[.int .i64 k, .bool b, .int .i64 i, .string s, .slice al nl cl, .slice am nm cm] 25) (.cells #[.int .i64 0, .bool false, .int .i64 0, .string ⟨#[]⟩, .slice none 0 0, .slice none 0 0] 25)
 have HC : Hid (∀ W, Below w.heap.size w W → Calls Tryz.prog 20 #[.agg #[.int .i64 k, .bool b, .int .i64 i, .string s, .slice al nl cl, .slice am nm cm], .int .i64 40] W (NPost (chkE v 40) W)) := fun W hb => check_any false v 40 S _ W (tb.below hb tb.z) (lies_below HV.out hS hb) (fun x hx => Nat.lt_of_lt_of_le (hS x hx) hb.size) hwt
 have HL : Hid (∀ W, Below w.heap.size w W → Calls Tryz.prog 47 #[.agg #[.int .i64 k, .bool b, .int .i64 i, .string s, .slice al nl cl, .slice am nm cm]] W (AnPost (clnV v) W)) := fun W hb => clone_any v false S _ W (tb.below hb tb.z) (lies_below HV.out hS hb) (fun x hx => Nat.lt_of_lt_of_le (hS x hx) hb.size) hwt
 have HW : Hid (nweF v er = if er = 0 then (if chkE v 40 = 0 then (v, (0 : Int)) else (nullV, (chkE v 40 : Int))) else (nullV, er)) := by show _ = _; rfl
 have HO : Hid (chkE v 40 = 0 → clnV v = v) := fun h => by
  rw [chkE40] at h
  rw [clnV, if_pos (by simp [okV, h])]
 clear tb hwt
 generalize nweF v er = NF at *
 generalize chkE v 40 = ce at *
 have r0 : ((w.alloc (.cells #[.int .i64 k, .bool b, .int .i64 i, .string s, .slice al nl cl, .slice am nm cm] 25)).alloc (.cells #[.int .i64 0, .bool false, .int .i64 0, .string ⟨#[]⟩, .slice none 0 0, .slice none 0 0] 25)).cell? ⟨w.heap.size, 0, none⟩ = some (.int .i64 k) := by rw [cell_of_block h0]; rfl
 have r1 : ((w.alloc (.cells #[.int .i64 k, .bool b, .int .i64 i, .string s, .slice al nl cl, .slice am nm cm] 25)).alloc (.cells #[.int .i64 0, .bool false, .int .i64 0, .string ⟨#[]⟩, .slice none 0 0, .slice none 0 0] 25)).cell? ⟨w.heap.size, 1, none⟩ = some (.bool b) := by rw [cell_of_block h0]; rfl
 have r2 : ((w.alloc (.cells #[.int .i64 k, .bool b, .int .i64 i, .string s, .slice al nl cl, .slice am nm cm] 25)).alloc (.cells #[.int .i64 0, .bool false, .int .i64 0, .string ⟨#[]⟩, .slice none 0 0, .slice none 0 0] 25)).cell? ⟨w.heap.size, 2, none⟩ = some (.int .i64 i) := by rw [cell_of_block h0]; rfl
 have r3 : ((w.alloc (.cells #[.int .i64 k, .bool b, .int .i64 i, .string s, .slice al nl cl, .slice am nm cm] 25)).alloc (.cells #[.int .i64 0, .bool false, .int .i64 0, .string ⟨#[]⟩, .slice none 0 0, .slice none 0 0] 25)).cell? ⟨w.heap.size, 3, none⟩ = some (.string s) := by rw [cell_of_block h0]; rfl
 have r4 : ((w.alloc (.cells #[.int .i64 k, .bool b, .int .i64 i, .string s, .slice al nl cl, .slice am nm cm] 25)).alloc (.cells #[.int .i64 0, .bool false, .int .i64 0, .string ⟨#[]⟩, .slice none 0 0, .slice none 0 0] 25)).cell? ⟨w.heap.size, 4, none⟩ = some (.slice al nl cl) := by rw [cell_of_block h0]; rfl
 have r5 : ((w.alloc (.cells #[.int .i64 k, .bool b, .int .i64 i, .string s, .slice al nl cl, .slice am nm cm] 25)).alloc (.cells #[.int .i64 0, .bool false, .int .i64 0, .string ⟨#[]⟩, .slice none 0 0, .slice none 0 0] 25)).cell? ⟨w.heap.size, 5, none⟩ = some (.slice am nm cm) := by rw [cell_of_block h0]; rfl
 have z0 : ((w.alloc (.cells #[.int .i64 k, .bool b, .int .i64 i, .string s, .slice al nl cl, .slice am nm cm] 25)).alloc (.cells #[.int .i64 0, .bool false, .int .i64 0, .string ⟨#[]⟩, .slice none 0 0, .slice none 0 0] 25)).cell? ⟨w.heap.size + 1, 0, none⟩ = some (.int .i64 0) := by rw [cell_of_block h1]; rfl
 have z1 : ((w.alloc (.cells #[.int .i64 k, .bool b, .int .i64 i, .string s, .slice al nl cl, .slice am nm cm] 25)).alloc (.cells #[.int .i64 0, .bool false, .int .i64 0, .string ⟨#[]⟩, .slice none 0 0, .slice none 0 0] 25)).cell? ⟨w.heap.size + 1, 1, none⟩ = some (.bool false) := by rw [cell_of_block h1]; rfl
 have z2 : ((w.alloc (.cells #[.int .i64 k, .bool b, .int .i64 i, .string s, .slice al nl cl, .slice am nm cm] 25)).alloc (.cells #[.int .i64 0, .bool false, .int .i64 0, .string ⟨#[]⟩, .slice none 0 0, .slice none 0 0] 25)).cell? ⟨w.heap.size + 1, 2, none⟩ = some (.int .i64 0) := by rw [cell_of_block h1]; rfl
 have z3 : ((w.alloc (.cells #[.int .i64 k, .bool b, .int .i64 i, .string s, .slice al nl cl, .slice am nm cm] 25)).alloc (.cells #[.int .i64 0, .bool false, .int .i64 0, .string ⟨#[]⟩, .slice none 0 0, .slice none 0 0] 25)).cell? ⟨w.heap.size + 1, 3, none⟩ = some (.string ⟨#[]⟩) := by rw [cell_of_block h1]; rfl
 have z4 : ((w.alloc (.cells #[.int .i64 k, .bool b, .int .i64 i, .string s, .slice al nl cl, .slice am nm cm] 25)).alloc (.cells #[.int .i64 0, .bool false, .int .i64 0, .string ⟨#[]⟩, .slice none 0 0, .slice none 0 0] 25)).cell? ⟨w.heap.size + 1, 4, none⟩ = some (.slice none 0 0) := by rw [cell_of_block h1]; rfl
 have z5 : ((w.alloc (.cells #[.int .i64 k, .bool b, .int .i64 i, .string s, .slice al nl cl, .slice am nm cm] 25)).alloc (.cells #[.int .i64 0, .bool false, .int .i64 0, .string ⟨#[]⟩, .slice none 0 0, .slice none 0 0] 25)).cell? ⟨w.heap.size + 1, 5, none⟩ = some (.slice none 0 0) := by rw [cell_of_block h1]; rfl
 by_cases her : er = 0
 ·subst her
  go_enter Tryz.func37, Tryz.ntmps37
  go_wp2_with fail
  clear r0 r1 r2 r3 r4 r5 z0 z1 z2 z3 z4 z5
  generalize ((w.alloc (.cells #[.int .i64 k, .bool b, .int .i64 i, .string s, .slice al nl cl, .slice am nm cm] 25)).alloc (.cells #[.int .i64 0, .bool false, .int .i64 0, .string ⟨#[]⟩, .slice none 0 0, .slice none 0 0] 25)) = w0 at *
  refine (HC.out w0 B0).mono ?_
  rintro e w1 ⟨rfl, b1⟩
  have hz1 := b1.size
  have B1 := B0.trans (b1.mono (by omega))
  have t0 := (b1.block w.heap.size (by omega)).trans h0
  have t1 := (b1.block (w.heap.size + 1) (by omega)).trans h1
  clear h0 h1 b1
  have r0 : w1.cell? ⟨w.heap.size, 0, none⟩ = some (.int .i64 k) := by rw [cell_of_block t0]; rfl
  have r1 : w1.cell? ⟨w.heap.size, 1, none⟩ = some (.bool b) := by rw [cell_of_block t0]; rfl
  have r2 : w1.cell? ⟨w.heap.size, 2, none⟩ = some (.int .i64 i) := by rw [cell_of_block t0]; rfl
  have r3 : w1.cell? ⟨w.heap.size, 3, none⟩ = some (.string s) := by rw [cell_of_block t0]; rfl
  have r4 : w1.cell? ⟨w.heap.size, 4, none⟩ = some (.slice al nl cl) := by rw [cell_of_block t0]; rfl
  have r5 : w1.cell? ⟨w.heap.size, 5, none⟩ = some (.slice am nm cm) := by rw [cell_of_block t0]; rfl
  have z0 : w1.cell? ⟨w.heap.size + 1, 0, none⟩ = some (.int .i64 0) := by rw [cell_of_block t1]; rfl
  have z1 : w1.cell? ⟨w.heap.size + 1, 1, none⟩ = some (.bool false) := by rw [cell_of_block t1]; rfl
  have z2 : w1.cell? ⟨w.heap.size + 1, 2, none⟩ = some (.int .i64 0) := by rw [cell_of_block t1]; rfl
  have z3 : w1.cell? ⟨w.heap.size + 1, 3, none⟩ = some (.string ⟨#[]⟩) := by rw [cell_of_block t1]; rfl
  have z4 : w1.cell? ⟨w.heap.size + 1, 4, none⟩ = some (.slice none 0 0) := by rw [cell_of_block t1]; rfl
  have z5 : w1.cell? ⟨w.heap.size + 1, 5, none⟩ = some (.slice none 0 0) := by rw [cell_of_block t1]; rfl
  have rf := frozen_of_block t1
  by_cases hce : ce = 0
  ·subst hce
   have HN : Hid (NF = (v, 0)) := by show _ = _; rw [HW.out]; simp
   have hcl := HL.out w1 B1
   rw [HO.out rfl] at hcl
   go_wp2_with fail
   refine hcl.mono ?_
   rintro e w2 ⟨csu, rfl, hlu, b2⟩
   obtain ⟨uk, ub, ui, us, ual, unl, ucl, uam, unm, ucm, rfl⟩ := V.ten hlu
   have hz2 := b2.size
   have B2 := B1.trans (b2.mono (by omega))
   have t2 := (b2.block (w.heap.size + 1) (by omega)).trans t1
   have HU : Hid (v.lies false w2 (From (w.heap.size + 2) w2) [.int .i64 uk, .bool ub, .int .i64 ui, .string us, .slice ual unl ucl, .slice uam unm ucm]) := V.lies_keep (fun h => h) (fun _ _ => rfl) (fun x hx => ⟨by have := hx.1; omega, hx.2⟩) _ hlu
   clear r0 r1 r2 r3 r4 r5 z0 z1 z2 z3 z4 z5 rf hlu b2 hcl t0 t1
   have z0 : w2.cell? ⟨w.heap.size + 1, 0, none⟩ = some (.int .i64 0) := by rw [cell_of_block t2]; rfl
   have z1 : w2.cell? ⟨w.heap.size + 1, 1, none⟩ = some (.bool false) := by rw [cell_of_block t2]; rfl
   have z2 : w2.cell? ⟨w.heap.size + 1, 2, none⟩ = some (.int .i64 0) := by rw [cell_of_block t2]; rfl
   have z3 : w2.cell? ⟨w.heap.size + 1, 3, none⟩ = some (.string ⟨#[]⟩) := by rw [cell_of_block t2]; rfl
   have z4 : w2.cell? ⟨w.heap.size + 1, 4, none⟩ = some (.slice none 0 0) := by rw [cell_of_block t2]; rfl
   have z5 : w2.cell? ⟨w.heap.size + 1, 5, none⟩ = some (.slice none 0 0) := by rw [cell_of_block t2]; rfl
   have rf := frozen_of_block t2
   clear t2
   go_wp2_with fail
   (try simp only [Exit.inBlock, Exit.then])
   refine bodyPost_ret (v := .tuple #[.agg #[.int .i64 uk, .bool ub, .int .i64 ui, .string us, .slice ual unl ucl, .slice uam unm ucm], .int .i64 0]) ?_ rfl ?_
   rotate_left
   ·rw [HN.out]
    exact ⟨[.int .i64 uk, .bool ub, .int .i64 ui, .string us, .slice ual unl ucl, .slice uam unm ucm], rfl, V.lies_keep (fun h => h) (fun _ _ => rfl) (fun x hx => ⟨by have := hx.1; omega, hx.2⟩) _ (lies_set6A HU.out (by omega) _ _ _ _ _ _ _ _ _ _ _ _), Below.set6 B2 (by omega) _ _ _ _ _ _ _ _ _ _ _ _⟩
   ·rw [results_cell_tmp rfl]
    go_simp
  ·have HN : Hid (NF = (nullV, (ce : Int))) := by show _ = _; rw [HW.out]; simp [hce]
   have y1 : ¬ (ce : Int) = 0 := by omega
   clear t0 t1
   go_wp2_with fail
   (try simp only [Exit.inBlock, Exit.then])
   refine bodyPost_ret (v := .tuple #[.agg #[.int .i64 0, .bool false, .int .i64 0, .string ⟨#[]⟩, .slice none 0 0, .slice none 0 0], .int .i64 (ce : Int)]) ?_ rfl ?_
   rotate_left
   ·rw [HN.out]
    exact ⟨[.int .i64 0, .bool false, .int .i64 0, .string ⟨#[]⟩, .slice none 0 0, .slice none 0 0], rfl, null_lies _ _, Below.set6 B1 (by omega) _ _ _ _ _ _ _ _ _ _ _ _⟩
   ·rw [results_cell_tmp rfl]
    go_simp
 ·have HN : Hid (NF = (nullV, er)) := by show _ = _; rw [HW.out, if_neg her]
  have hf := frozen_of_block h1
  go_enter Tryz.func37, Tryz.ntmps37
  go_wp2_with fail
  (try simp only [Exit.inBlock, Exit.then])
  refine bodyPost_ret (v := .tuple #[.agg #[.int .i64 0, .bool false, .int .i64 0, .string ⟨#[]⟩, .slice none 0 0, .slice none 0 0], .int .i64 er]) ?_ rfl ?_
  rotate_left
  ·rw [HN.out]
   exact ⟨[.int .i64 0, .bool false, .int .i64 0, .string ⟨#[]⟩, .slice none 0 0, .slice none 0 0], rfl, null_lies _ _, two_below w _ _⟩
  ·rw [results_cell_tmp rfl]
   go_simp
def rdF (v : V) (p : ByteArray) : Int := if chkE v 40 = 0 then (if (parF p.data.toList).isSome then 0 else 40) else (chkE v 40 : Int)
def RdPost (v : V) (p : ByteArray) (w : World) (e : Ending) (w' : World) : Prop := ∃ (tv : Value) (l : List ByteArray), e = .returned (.tuple #[tv, .int .i64 (rdF v p)]) ∧ (rdF v p = 0 → dat l = (parF p.data.toList).getD []) ∧ (rdF v p ≠ 0 → tv = .slice none 0 0 ∧ l = []) ∧ LiesS w' tv l ∧ Below w.heap.size w w'
set_option maxHeartbeats 8000000 in
set_option maxRecDepth 100000 in
theorem ready_any (v : V) (p : ByteArray) (S : Nat → Prop) (cs : List Value) (w : World) (tb : Tb w) (tp : Tp w) (hv : v.lies false w S cs) (hS : ∀ b, S b → b < w.heap.size) (hwt : v.wt ≤ 1099511627776) (hp : p.size ≤ 3900000) : Calls Tryz.prog 36 #[.agg cs.toArray, .string p, .slice none 0 0] w (RdPost v p w) := by
 have HV := hmk hv
 obtain ⟨k, b, i, s, al, nl, cl, am, nm, cm, rfl⟩ := V.ten hv
 clear hv
 have B0 : Below w.heap.size w (w.alloc (.cells #[.int .i64 k, .bool b, .int .i64 i, .string s, .slice al nl cl, .slice am nm cm] 25)) := one_belowG w _
 have hz0 : (w.alloc (.cells #[.int .i64 k, .bool b, .int .i64 i, .string s, .slice al nl cl, .slice am nm cm] 25)).heap.size = w.heap.size + 1 := by rw [alloc_size]
 have h0 : (w.alloc (.cells #[.int .i64 k, .bool b, .int .i64 i, .string s, .slice al nl cl, .slice am nm cm] 25)).heap[w.heap.size]? = _ := heap_alloc_new w _
 have HC := hmk (check_any false v 40 S _ (w.alloc (.cells #[.int .i64 k, .bool b, .int .i64 i, .string s, .slice al nl cl, .slice am nm cm] 25)) (tb.below B0 tb.z) (lies_below HV.out hS B0) (fun x hx => Nat.lt_of_lt_of_le (hS x hx) B0.size) hwt)
 have HP : Hid (∀ W, Below w.heap.size w W → Calls Tryz.prog 30 #[.string p] W (PaPost (parF p.data.toList) W)) := fun W hb => pparse_any p W (by omega) (tp.below hb tp.z)
 have HR : Hid (rdF v p = if chkE v 40 = 0 then (if (parF p.data.toList).isSome then 0 else 40) else (chkE v 40 : Int)) := by show _ = _; rfl
 unfold RdPost
 generalize rdF v p = rd at *
 generalize chkE v 40 = ce at *
 generalize parF p.data.toList = O at *
 clear tb tp hwt
 have r0 : (w.alloc (.cells #[.int .i64 k, .bool b, .int .i64 i, .string s, .slice al nl cl, .slice am nm cm] 25)).cell? ⟨w.heap.size, 0, none⟩ = some (.int .i64 k) := by rw [cell_of_block h0]; rfl
 have r1 : (w.alloc (.cells #[.int .i64 k, .bool b, .int .i64 i, .string s, .slice al nl cl, .slice am nm cm] 25)).cell? ⟨w.heap.size, 1, none⟩ = some (.bool b) := by rw [cell_of_block h0]; rfl
 have r2 : (w.alloc (.cells #[.int .i64 k, .bool b, .int .i64 i, .string s, .slice al nl cl, .slice am nm cm] 25)).cell? ⟨w.heap.size, 2, none⟩ = some (.int .i64 i) := by rw [cell_of_block h0]; rfl
 have r3 : (w.alloc (.cells #[.int .i64 k, .bool b, .int .i64 i, .string s, .slice al nl cl, .slice am nm cm] 25)).cell? ⟨w.heap.size, 3, none⟩ = some (.string s) := by rw [cell_of_block h0]; rfl
 have r4 : (w.alloc (.cells #[.int .i64 k, .bool b, .int .i64 i, .string s, .slice al nl cl, .slice am nm cm] 25)).cell? ⟨w.heap.size, 4, none⟩ = some (.slice al nl cl) := by rw [cell_of_block h0]; rfl
 have r5 : (w.alloc (.cells #[.int .i64 k, .bool b, .int .i64 i, .string s, .slice al nl cl, .slice am nm cm] 25)).cell? ⟨w.heap.size, 5, none⟩ = some (.slice am nm cm) := by rw [cell_of_block h0]; rfl
 go_enter Tryz.func36, Tryz.ntmps36
 go_wp2_with fail
 clear r0 r1 r2 r3 r4 r5
 generalize (w.alloc (.cells #[.int .i64 k, .bool b, .int .i64 i, .string s, .slice al nl cl, .slice am nm cm] 25)) = w0 at *
 refine HC.out.mono ?_
 rintro e w1 ⟨rfl, b1⟩
 have hz1 := b1.size
 have B1 := B0.trans (b1.mono (by omega))
 by_cases hce : ce = 0
 ·subst hce
  go_wp2_with fail
  refine (HP.out w1 B1).mono ?_
  rintro e w2 ⟨tv, l, rfl, hd, hl, b2⟩
  have hz2 := b2.size
  have B2 := B1.trans (b2.mono (by omega))
  cases O with
  | none =>
   have HN : Hid (rd = 40) := by show _ = _; rw [HR.out]; simp
   go_wp2_with fail
   go_ret2
   exact ⟨_, [], by rw [HN.out]; rfl, (fun h => by rw [HN.out] at h; omega), (fun _ => ⟨rfl, rfl⟩), liesS_nil _, B2⟩
  | some o =>
   have HN : Hid (rd = 0) := by show _ = _; rw [HR.out]; simp
   go_wp2_with fail
   refine wp_loop_rounds 1 ?_
   rw [rounds_succ]
   go_wp2_with fail
   go_ret2
   exact ⟨tv, l, by rw [HN.out]; rfl, (fun _ => hd), (fun h => absurd HN.out h), hl, B2⟩
 ·have HN : Hid (rd = (ce : Int)) := by show _ = _; rw [HR.out, if_neg hce]
  have y1 : ¬ (ce : Int) = 0 := by omega
  go_wp2_with fail
  go_ret2
  exact ⟨_, [], by rw [HN.out]; rfl, (fun h => by rw [HN.out] at h; omega), (fun _ => ⟨rfl, rfl⟩), liesS_nil _, B1⟩
theorem spl_lens (c : UInt8) : ∀ s : List UInt8, (spl c s).length ≤ s.length + 1 ∧ ∀ t ∈ spl c s, t.length ≤ s.length
 | [] => by simp [spl]
 | x :: t => by
  have ih := spl_lens c t
  rw [spl]
  split
  ·refine ⟨by simp only [List.length_cons]; omega, fun u hu => ?_⟩
   rcases List.mem_cons.1 hu with rfl | hu
   ·simp
   ·have := ih.2 u hu; simp only [List.length_cons]; omega
  ·split
   ·rename_i h r e
    rw [e] at ih
    refine ⟨by simpa using Nat.le_succ_of_le ih.1, fun u hu => ?_⟩
    rcases List.mem_cons.1 hu with rfl | hu
    ·have := ih.2 h List.mem_cons_self; simp only [List.length_cons]; omega
    ·have := ih.2 u (List.mem_cons_of_mem _ hu); simp only [List.length_cons]; omega
   ·simp
theorem une_lens (n : Nat) : ∀ (s u : List UInt8), s.length ≤ n → une s = some u → u.length ≤ s.length := by
 induction n with
 | zero =>
  intro s u h hu
  obtain rfl : s = [] := List.length_eq_zero_iff.1 (by omega)
  simp only [une, Option.some.injEq] at hu
  subst hu; simp
 | succ n ih =>
  intro s u h hu
  cases s with
  | nil => simp only [une, Option.some.injEq] at hu; subst hu; simp
  | cons x t =>
   rw [une.eq_def] at hu
   simp only at hu
   split at hu
   ·cases t with
    | nil => simp at hu
    | cons y r =>
     simp only at hu
     simp only [List.length_cons] at h
     split at hu
     ·obtain ⟨w, hw, rfl⟩ := Option.map_eq_some_iff.1 hu
      have := ih r w (by omega) hw
      simp only [List.length_cons]; omega
     ·split at hu
      ·obtain ⟨w, hw, rfl⟩ := Option.map_eq_some_iff.1 hu
       have := ih r w (by omega) hw
       simp only [List.length_cons]; omega
      ·cases hu
   ·simp only [List.length_cons] at h
    obtain ⟨w, hw, rfl⟩ := Option.map_eq_some_iff.1 hu
    have := ih t w (by omega) hw
    simp only [List.length_cons]; omega
theorem unes_len : ∀ (l r : List (List UInt8)) (n : Nat), (∀ t ∈ l, t.length ≤ n) → unes l = some r → r.length = l.length ∧ ∀ t ∈ r, t.length ≤ n := by
 intro l
 induction l with
 | nil => intro r n _ h; simp only [unes, Option.some.injEq] at h; subst h; simp
 | cons x t ih =>
  intro r n hl h
  rw [unes] at h
  split at h
  ·cases h
  ·rename_i u e1
   obtain ⟨us, e2, rfl⟩ := Option.map_eq_some_iff.1 h
   have h1 := ih us n (fun y hy => hl y (List.mem_cons_of_mem _ hy)) e2
   have h2 := une_lens x.length x u (Nat.le_refl _) e1
   have h3 := hl x List.mem_cons_self
   refine ⟨by simp [h1.1], fun y hy => ?_⟩
   rcases List.mem_cons.1 hy with rfl | hy
   ·omega
   ·exact h1.2 y hy
theorem tok_len {p : ByteArray} {l : List ByteArray} {o : List (List UInt8)} (h : parF p.data.toList = some o) (hd : dat l = o) : l.length ≤ p.size + 1 ∧ ∀ t ∈ l, t.size ≤ p.size := by
 have key : o.length ≤ p.data.toList.length + 1 ∧ ∀ t ∈ o, t.length ≤ p.data.toList.length := by
  cases hp : p.data.toList with
  | nil => rw [hp] at h; simp only [parF, Option.some.injEq] at h; subst h; simp
  | cons x q =>
   rw [hp] at h
   simp only [parF] at h
   split at h
   ·have h1 := spl_lens 47 q
    have h2 := unes_len _ _ q.length h1.2 h
    refine ⟨by rw [h2.1]; simp only [List.length_cons]; omega, fun t ht => ?_⟩
    have := h2.2 t ht
    simp only [List.length_cons]; omega
   ·cases h
 have hs : p.data.toList.length = p.size := toList_size p
 rw [hs] at key
 refine ⟨by have := congrArg List.length hd; simp only [dat, List.length_map] at this; omega, fun t ht => ?_⟩
 have := key.2 t.data.toList (by rw [← hd]; exact List.mem_map.2 ⟨t, ht, rfl⟩)
 rw [toList_size] at this
 exact this
def toksOf (p : ByteArray) : List ByteArray := ((parF p.data.toList).getD []).map (fun t => ⟨t.toArray⟩)
theorem toks_of {l : List ByteArray} {o : List (List UInt8)} (h : dat l = o) : l = o.map (fun t => ⟨t.toArray⟩) := by
 rw [← h, dat, List.map_map]
 conv => lhs; rw [← List.map_id l]
 exact List.map_congr_left fun x _ => by simp
def getF (v : V) (p : ByteArray) : V × Int := if rdF v p = 0 then nweF ((wkV (fun x => (x, 0)) v (toksOf p)).2.2.getD nullV) (wkV (fun x => (x, 0)) v (toksOf p)).2.1 else (nullV, rdF v p)
theorem wk_wt (F : V → V × Int) : ∀ (ts : List ByteArray) (v x : V), (wkV F v ts).2.2 = some x → x.wt ≤ v.wt
 | [], v, x, h => by simp only [wkV, Option.some.injEq] at h; subst h; exact Nat.le_refl _
 | t :: ts, v, x, h => by
  rw [wkV] at h
  split at h
  ·rename_i h0
   have hk := kid_wt (led_kid h0)
   have : (wkV F (kid v (ledF v t).1) ts).2.2 = some x := by
    split at h
    ·exact h
    ·exact h
   exact Nat.le_trans (wk_wt F ts _ x this) hk
  ·cases h
theorem rd_zero {v : V} {p : ByteArray} (h : rdF v p = 0) : chkE v 40 = 0 ∧ ∃ o, parF p.data.toList = some o := by
 rw [rdF] at h
 split at h
 ·rename_i h0
  refine ⟨h0, ?_⟩
  cases hx : parF p.data.toList with
  | none => rw [hx] at h; simp at h
  | some o => exact ⟨o, rfl⟩
 ·omega
end Go.Proofs.YtgnofbigggmilaaGreatDoor
