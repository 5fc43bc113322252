/- joined: RgtA PatX -/
import Derived.Test.YtjfldbmopjojdabDoorRclA
import Derived.Test.YtjfldbmopjojdabDoorWitX
import Derived.Test.YtjfldbmopjojdabDoorG19
set_option linter.unusedSimpArgs false
set_option linter.unusedVariables false
namespace Go.Proofs.YtjfldbmopjojdabDoor
open Go.RowKit Go.Lib
set_option maxHeartbeats 8000000 in
set_option maxRecDepth 100000 in
theorem rclone36_any (v : V) (R : Bool) (S : Nat → Prop) (cs : List Value) (w : World) (hv : v.lies R w S cs) (hS : ∀ b, S b → b < w.heap.size) (hwt : v.wt ≤ 2147483648) : Calls Tryd.prog 20 #[.agg cs.toArray] w (AnPost (clnV v) w) := by
 obtain ⟨k, b, i, s, al, nl, cl, am, nm, cm, rfl⟩ := V.ten hv
 have hz2 : ((w.alloc (.cells #[.int .i64 k, .bool b, .int .i64 i, .string s, .slice al nl cl, .slice am nm cm] 25)).alloc (.cells #[.int .i64 0, .bool false, .int .i64 0, .string ⟨#[]⟩, .slice none 0 0, .slice none 0 0] 25)).heap.size = w.heap.size + 2 := by rw [alloc_size, alloc_size]
 have B0 : Below w.heap.size w ((w.alloc (.cells #[.int .i64 k, .bool b, .int .i64 i, .string s, .slice al nl cl, .slice am nm cm] 25)).alloc (.cells #[.int .i64 0, .bool false, .int .i64 0, .string ⟨#[]⟩, .slice none 0 0, .slice none 0 0] 25)) := two_below w _ _
 have h0 := alloc2_keep1 w (.cells #[.int .i64 k, .bool b, .int .i64 i, .string s, .slice al nl cl, .slice am nm cm] 25) (.cells #[.int .i64 0, .bool false, .int .i64 0, .string ⟨#[]⟩, .slice none 0 0, .slice none 0 0] 25)
 have h1 := alloc2_new w (.cells #[.int .i64 k, .bool b, .int .i64 i, .string s, .slice al nl cl, .slice am nm cm] 25) (.cells #[.int .i64 0, .bool false, .int .i64 0, .string ⟨#[]⟩, .slice none 0 0, .slice none 0 0] 25)
 have HV : Hid (∀ W, Below w.heap.size w W → v.lies R W S [.int .i64 k, .bool b, .int .i64 i, .string s, .slice al nl cl, .slice am nm cm] ∧ (∀ b, S b → b < W.heap.size)) := fun W hb => ⟨V.lies_keep (fun h => h) (fun x hx => hb.block x (hS x hx)) (fun _ h => h) _ hv, fun x hx => Nat.lt_of_lt_of_le (hS x hx) hb.size⟩
 have d0 : ((w.alloc (.cells #[.int .i64 k, .bool b, .int .i64 i, .string s, .slice al nl cl, .slice am nm cm] 25)).alloc (.cells #[.int .i64 0, .bool false, .int .i64 0, .string ⟨#[]⟩, .slice none 0 0, .slice none 0 0] 25)).cell? ⟨w.heap.size, 0, none⟩ = some (.int .i64 k) := by rw [cell_of_block h0]; rfl
 have d1 : ((w.alloc (.cells #[.int .i64 k, .bool b, .int .i64 i, .string s, .slice al nl cl, .slice am nm cm] 25)).alloc (.cells #[.int .i64 0, .bool false, .int .i64 0, .string ⟨#[]⟩, .slice none 0 0, .slice none 0 0] 25)).cell? ⟨w.heap.size, 1, none⟩ = some (.bool b) := by rw [cell_of_block h0]; rfl
 have d2 : ((w.alloc (.cells #[.int .i64 k, .bool b, .int .i64 i, .string s, .slice al nl cl, .slice am nm cm] 25)).alloc (.cells #[.int .i64 0, .bool false, .int .i64 0, .string ⟨#[]⟩, .slice none 0 0, .slice none 0 0] 25)).cell? ⟨w.heap.size, 2, none⟩ = some (.int .i64 i) := by rw [cell_of_block h0]; rfl
 have d3 : ((w.alloc (.cells #[.int .i64 k, .bool b, .int .i64 i, .string s, .slice al nl cl, .slice am nm cm] 25)).alloc (.cells #[.int .i64 0, .bool false, .int .i64 0, .string ⟨#[]⟩, .slice none 0 0, .slice none 0 0] 25)).cell? ⟨w.heap.size, 3, none⟩ = some (.string s) := by rw [cell_of_block h0]; rfl
 have d4 : ((w.alloc (.cells #[.int .i64 k, .bool b, .int .i64 i, .string s, .slice al nl cl, .slice am nm cm] 25)).alloc (.cells #[.int .i64 0, .bool false, .int .i64 0, .string ⟨#[]⟩, .slice none 0 0, .slice none 0 0] 25)).cell? ⟨w.heap.size, 4, none⟩ = some (.slice al nl cl) := by rw [cell_of_block h0]; rfl
 have d5 : ((w.alloc (.cells #[.int .i64 k, .bool b, .int .i64 i, .string s, .slice al nl cl, .slice am nm cm] 25)).alloc (.cells #[.int .i64 0, .bool false, .int .i64 0, .string ⟨#[]⟩, .slice none 0 0, .slice none 0 0] 25)).cell? ⟨w.heap.size, 5, none⟩ = some (.slice am nm cm) := by rw [cell_of_block h0]; rfl
 clear hv
 go_enter Tryd.func20, Tryd.ntmps20
 go_wp2_with fail
 clear d0 d1 d2 d3 d4 d5
 generalize ((w.alloc (.cells #[.int .i64 k, .bool b, .int .i64 i, .string s, .slice al nl cl, .slice am nm cm] 25)).alloc (.cells #[.int .i64 0, .bool false, .int .i64 0, .string ⟨#[]⟩, .slice none 0 0, .slice none 0 0] 25)) = w0 at *
 refine (rtaken_any R v S _ w0 (HV.out w0 B0).1 (HV.out w0 B0).2 (by omega)).mono ?_
 rintro e w1 ⟨rfl, b1⟩
 have hz1 := b1.size
 have B1 := B0.trans (b1.mono (by omega))
 have t0 := (b1.block w.heap.size (by omega)).trans h0
 have t1 := (b1.block (w.heap.size + 1) (by omega)).trans h1
 have d0 : w1.cell? ⟨w.heap.size, 0, none⟩ = some (.int .i64 k) := by rw [cell_of_block t0]; rfl
 have d1 : w1.cell? ⟨w.heap.size, 1, none⟩ = some (.bool b) := by rw [cell_of_block t0]; rfl
 have d2 : w1.cell? ⟨w.heap.size, 2, none⟩ = some (.int .i64 i) := by rw [cell_of_block t0]; rfl
 have d3 : w1.cell? ⟨w.heap.size, 3, none⟩ = some (.string s) := by rw [cell_of_block t0]; rfl
 have d4 : w1.cell? ⟨w.heap.size, 4, none⟩ = some (.slice al nl cl) := by rw [cell_of_block t0]; rfl
 have d5 : w1.cell? ⟨w.heap.size, 5, none⟩ = some (.slice am nm cm) := by rw [cell_of_block t0]; rfl
 have r0 : w1.cell? ⟨w.heap.size + 1, 0, none⟩ = some (.int .i64 0) := by rw [cell_of_block t1]; rfl
 have r1 : w1.cell? ⟨w.heap.size + 1, 1, none⟩ = some (.bool false) := by rw [cell_of_block t1]; rfl
 have r2 : w1.cell? ⟨w.heap.size + 1, 2, none⟩ = some (.int .i64 0) := by rw [cell_of_block t1]; rfl
 have r3 : w1.cell? ⟨w.heap.size + 1, 3, none⟩ = some (.string ⟨#[]⟩) := by rw [cell_of_block t1]; rfl
 have r4 : w1.cell? ⟨w.heap.size + 1, 4, none⟩ = some (.slice none 0 0) := by rw [cell_of_block t1]; rfl
 have r5 : w1.cell? ⟨w.heap.size + 1, 5, none⟩ = some (.slice none 0 0) := by rw [cell_of_block t1]; rfl
 have rf : ∀ i, w1.frozen? ⟨w.heap.size + 1, i, none⟩ = false := frozen_of_block t1
 cases ho : okV v with
 | false =>
  have HF : Hid (clnV v = nullV) := by show _ = _; rw [clnV, if_neg (by simp [ho])]
  clear t0 t1 h0 h1
  go_wp2_with fail
  (try simp only [Exit.inBlock, Exit.then])
  refine bodyPost_ret (v := .agg #[.int .i64 0, .bool false, .int .i64 0, .string ⟨#[]⟩, .slice none 0 0, .slice none 0 0]) (by rw [results_cell1 rfl]; go_simp) rfl ?_
  rw [HF.out]
  exact ⟨[.int .i64 0, .bool false, .int .i64 0, .string ⟨#[]⟩, .slice none 0 0, .slice none 0 0], rfl, null_lies _ _, Below.set6 B1 (by omega) _ _ _ _ _ _ _ _ _ _ _ _⟩
 | true =>
  have HF : Hid (clnV v = v) := by show _ = _; rw [clnV, if_pos ho]
  go_wp2_with fail
  refine (rclone_any v R S _ w1 (HV.out w1 B1).1 (HV.out w1 B1).2 hwt).mono ?_
  rintro e w2 ⟨csu, rfl, hlu, b2⟩
  obtain ⟨uk, ub, ui, us, ual, unl, ucl, uam, unm, ucm, rfl⟩ := V.ten hlu
  have hz3 := b2.size
  have B2 := B1.trans (b2.mono (by omega))
  have t1' := (b2.block (w.heap.size + 1) (by omega)).trans t1
  have HU : Hid (v.lies false w2 (From (w.heap.size + 2) w2) [.int .i64 uk, .bool ub, .int .i64 ui, .string us, .slice ual unl ucl, .slice uam unm ucm]) := V.lies_keep (fun h => h) (fun _ _ => rfl) (fun x hx => ⟨by have := hx.1; omega, hx.2⟩) _ hlu
  clear d0 d1 d2 d3 d4 d5 r0 r1 r2 r3 r4 r5 rf hlu b2 t0 t1 h0 h1
  have r0 : w2.cell? ⟨w.heap.size + 1, 0, none⟩ = some (.int .i64 0) := by rw [cell_of_block t1']; rfl
  have r1 : w2.cell? ⟨w.heap.size + 1, 1, none⟩ = some (.bool false) := by rw [cell_of_block t1']; rfl
  have r2 : w2.cell? ⟨w.heap.size + 1, 2, none⟩ = some (.int .i64 0) := by rw [cell_of_block t1']; rfl
  have r3 : w2.cell? ⟨w.heap.size + 1, 3, none⟩ = some (.string ⟨#[]⟩) := by rw [cell_of_block t1']; rfl
  have r4 : w2.cell? ⟨w.heap.size + 1, 4, none⟩ = some (.slice none 0 0) := by rw [cell_of_block t1']; rfl
  have r5 : w2.cell? ⟨w.heap.size + 1, 5, none⟩ = some (.slice none 0 0) := by rw [cell_of_block t1']; rfl
  have rf : ∀ i, w2.frozen? ⟨w.heap.size + 1, i, none⟩ = false := frozen_of_block t1'
  clear t1'
  go_wp2_with fail
  (try simp only [Exit.inBlock, Exit.then])
  refine bodyPost_ret (v := .agg #[.int .i64 uk, .bool ub, .int .i64 ui, .string us, .slice ual unl ucl, .slice uam unm ucm]) (by rw [results_cell1 rfl]; go_simp) rfl ?_
  rw [HF.out]
  refine ⟨[.int .i64 uk, .bool ub, .int .i64 ui, .string us, .slice ual unl ucl, .slice uam unm ucm], rfl, V.lies_keep (fun h => h) (fun _ _ => rfl) (fun x hx => ⟨by have := hx.1; omega, hx.2⟩) _ (lies_set6A HU.out (show w.heap.size + 1 < w.heap.size + 2 by omega) _ _ _ _ _ _ _ _ _ _ _ _), Below.set6 B2 (by omega) _ _ _ _ _ _ _ _ _ _ _ _⟩
theorem kind_lies {R : Bool} {w : World} {S : Nat → Prop} {x : V} {ek : Int} {cs : List Value} (h : x.lies R w S (.int .i64 ek :: cs)) : kindOf x = ek := by
 obtain ⟨k, b, i, s, l, m⟩ := x
 rw [V.lies] at h
 obtain ⟨_, _, _, _, _, _, _, _, e, _⟩ := h
 injection e with e1 _
 injection e1 with _ e2
 exact e2.symm
theorem wn_fin {w w3 : World} {x : V} {M : Nat} {c0 c1 c2 c3 c4 c5 : Value} (hM : w.heap.size ≤ M) (B3 : Below w.heap.size w w3) (hx : x.lies false w3 (fun y => w.heap.size ≤ y ∧ y ≠ M ∧ y < w3.heap.size) [c0, c1, c2, c3, c4, c5]) :
 x.lies false ((((((w3.setCell ⟨M, 0, none⟩ (c0)).setCell ⟨M, 1, none⟩ (c1)).setCell ⟨M, 2, none⟩ (c2)).setCell ⟨M, 3, none⟩ (c3)).setCell ⟨M, 4, none⟩ (c4)).setCell ⟨M, 5, none⟩ (c5)) (New w ((((((w3.setCell ⟨M, 0, none⟩ (c0)).setCell ⟨M, 1, none⟩ (c1)).setCell ⟨M, 2, none⟩ (c2)).setCell ⟨M, 3, none⟩ (c3)).setCell ⟨M, 4, none⟩ (c4)).setCell ⟨M, 5, none⟩ (c5))) [c0, c1, c2, c3, c4, c5] ∧ Below w.heap.size w ((((((w3.setCell ⟨M, 0, none⟩ (c0)).setCell ⟨M, 1, none⟩ (c1)).setCell ⟨M, 2, none⟩ (c2)).setCell ⟨M, 3, none⟩ (c3)).setCell ⟨M, 4, none⟩ (c4)).setCell ⟨M, 5, none⟩ (c5)) := by
 have h := wo_fin (S := fun _ => False) hM (fun _ h => h.elim) B3 (V.lies_keep (fun h => h) (fun _ _ => rfl) (fun y hy => .inr hy) _ hx)
 exact ⟨V.lies_keep (fun h => h) (fun _ _ => rfl) (fun y hy => hy.elim (fun h => h.elim) (fun h => h)) _ h.1, h.2⟩
theorem box_six {w : World} {g : Nat} {ty : TypeId} {c0 c1 c2 c3 c4 c5 : Value} (h : w.heap[g]? = some (.cells #[c0, c1, c2, c3, c4, c5] ty)) (d0 d1 d2 d3 d4 d5 : Value) : ((((((w.setCell ⟨g, 0, none⟩ (d0)).setCell ⟨g, 1, none⟩ (d1)).setCell ⟨g, 2, none⟩ (d2)).setCell ⟨g, 3, none⟩ (d3)).setCell ⟨g, 4, none⟩ (d4)).setCell ⟨g, 5, none⟩ (d5)).heap[g]? = some (.cells #[d0, d1, d2, d3, d4, d5] ty) := by
 have h0 : (w.setCell ⟨g, 0, none⟩ d0).heap[g]? = some (.cells #[d0, c1, c2, c3, c4, c5] ty) := by rw [set_block h]; rfl
 have h1 : ((w.setCell ⟨g, 0, none⟩ d0).setCell ⟨g, 1, none⟩ d1).heap[g]? = some (.cells #[d0, d1, c2, c3, c4, c5] ty) := by rw [set_block h0]; rfl
 have h2 : (((w.setCell ⟨g, 0, none⟩ d0).setCell ⟨g, 1, none⟩ d1).setCell ⟨g, 2, none⟩ d2).heap[g]? = some (.cells #[d0, d1, d2, c3, c4, c5] ty) := by rw [set_block h1]; rfl
 have h3 : ((((w.setCell ⟨g, 0, none⟩ d0).setCell ⟨g, 1, none⟩ d1).setCell ⟨g, 2, none⟩ d2).setCell ⟨g, 3, none⟩ d3).heap[g]? = some (.cells #[d0, d1, d2, d3, c4, c5] ty) := by rw [set_block h2]; rfl
 have h4 : (((((w.setCell ⟨g, 0, none⟩ d0).setCell ⟨g, 1, none⟩ d1).setCell ⟨g, 2, none⟩ d2).setCell ⟨g, 3, none⟩ d3).setCell ⟨g, 4, none⟩ d4).heap[g]? = some (.cells #[d0, d1, d2, d3, d4, c5] ty) := by rw [set_block h3]; rfl
 rw [set_block h4]; rfl
theorem six_o (w : World) (g : Nat) (d0 d1 d2 d3 d4 d5 : Value) (y : Nat) (hy : y ≠ g) : ((((((w.setCell ⟨g, 0, none⟩ (d0)).setCell ⟨g, 1, none⟩ (d1)).setCell ⟨g, 2, none⟩ (d2)).setCell ⟨g, 3, none⟩ (d3)).setCell ⟨g, 4, none⟩ (d4)).setCell ⟨g, 5, none⟩ (d5)).heap[y]? = w.heap[y]? := by
 repeat (rw [set_other hy])
theorem five_lies (W : World) (S : Nat → Prop) : (V.mk 5 false 0 ⟨#[]⟩ [] []).lies false W S [.int .i64 5, .bool false, .int .i64 0, .string ⟨#[]⟩, .slice none 0 0, .slice none 0 0] := by
 rw [V.lies]
 exact ⟨none, 0, 0, 0, none, 0, 0, 0, rfl, ⟨by decide, by decide⟩, ⟨by decide, by decide⟩, by decide, headed_nil, headed_nil, by rw [liesL]; trivial, by rw [liesM]; trivial, fun h => by cases h⟩
end Go.Proofs.YtjfldbmopjojdabDoor
