/- joined: CnsA LawC -/
import Derived.Test.YtjfldbmopjojdabDoorG25
import Derived.Test.YtjfldbmopjojdabDoorKptA
set_option linter.unusedSimpArgs false
set_option linter.unusedVariables false
namespace Go.Proofs.YtjfldbmopjojdabDoor
open Go.RowKit Go.Lib
def chV (N : Nat) : Nat → V
 | 0 => .mk 2 false (N : Int) ⟨#[]⟩ [] []
 | j + 1 => .mk 4 false 0 ⟨#[]⟩ [chV N j] []
def sgV : V := .mk 5 false 0 ⟨#[]⟩ [] [(⟨#[97]⟩, .mk 2 false 1 ⟨#[]⟩ [] [])]
theorem ch_wt (N : Nat) : ∀ j, (chV N j).wt = j + 1
 | 0 => by simp [chV, V.wt, wtL, wtM]; rfl
 | j + 1 => by have := ch_wt N j; have hz : (⟨#[]⟩ : ByteArray).size = 0 := rfl; simp only [chV, V.wt, wtL, wtM, this]; omega
theorem num_lies {N : Int} (hN : In64 N) (W : World) (S : Nat → Prop) : (V.mk 2 false N ⟨#[]⟩ [] []).lies false W S [.int .i64 2, .bool false, .int .i64 N, .string ⟨#[]⟩, .slice none 0 0, .slice none 0 0] := by
 rw [V.lies]
 exact ⟨none, 0, 0, 0, none, 0, 0, 0, rfl, ⟨by decide, by decide⟩, hN, by decide, headed_nil, headed_nil, by rw [liesL]; trivial, by rw [liesM]; trivial, fun h => by cases h⟩
structure ChI (N j : Nat) (w wr : World) (uk : Int) (ub : Bool) (ui : Int) (us : ByteArray) (ual : Option Addr) (unl ucl : Nat) (uam : Option Addr) (unm ucm : Nat) : Prop where
 z : wr.heap[w.heap.size]? = some (.cells #[.int .i64 0, .bool false, .int .i64 0, .string ⟨#[]⟩, .slice none 0 0, .slice none 0 0] 25)
 b : wr.heap[w.heap.size + 1]? = some (.cells #[.int .i64 uk, .bool ub, .int .i64 ui, .string us, .slice ual unl ucl, .slice uam unm ucm] 25)
 l : (chV N j).lies false wr (fun y => w.heap.size + 2 ≤ y ∧ y < wr.heap.size) [.int .i64 uk, .bool ub, .int .i64 ui, .string us, .slice ual unl ucl, .slice uam unm ucm]
 B : Below w.heap.size w wr
 s : w.heap.size + 2 ≤ wr.heap.size
theorem ch_step {N j : Nat} {w wr : World} {uk : Int} {ub : Bool} {ui : Int} {us : ByteArray} {ual : Option Addr} {unl ucl : Nat} {uam : Option Addr} {unm ucm : Nat} (h : ChI N j w wr uk ub ui us ual unl ucl uam unm ucm) : ChI N (j + 1) w (((((((wr.alloc (.cells #[.int .i64 uk, .bool ub, .int .i64 ui, .string us, .slice ual unl ucl, .slice uam unm ucm] 25)).setCell ⟨w.heap.size + 1, 0, none⟩ (.int .i64 4)).setCell ⟨w.heap.size + 1, 1, none⟩ (.bool false)).setCell ⟨w.heap.size + 1, 2, none⟩ (.int .i64 0)).setCell ⟨w.heap.size + 1, 3, none⟩ (.string ⟨#[]⟩)).setCell ⟨w.heap.size + 1, 4, none⟩ (.slice (some ⟨wr.heap.size, 0, none⟩) 1 1)).setCell ⟨w.heap.size + 1, 5, none⟩ (.slice none 0 0)) 4 false 0 ⟨#[]⟩ (some ⟨wr.heap.size, 0, none⟩) 1 1 none 0 0 := by
 have hs := h.s
 have ho := six_o (wr.alloc (.cells #[.int .i64 uk, .bool ub, .int .i64 ui, .string us, .slice ual unl ucl, .slice uam unm ucm] 25)) (w.heap.size + 1) (.int .i64 4) (.bool false) (.int .i64 0) (.string ⟨#[]⟩) (.slice (some ⟨wr.heap.size, 0, none⟩) 1 1) (.slice none 0 0)
 have hz : (((((((wr.alloc (.cells #[.int .i64 uk, .bool ub, .int .i64 ui, .string us, .slice ual unl ucl, .slice uam unm ucm] 25)).setCell ⟨w.heap.size + 1, 0, none⟩ (.int .i64 4)).setCell ⟨w.heap.size + 1, 1, none⟩ (.bool false)).setCell ⟨w.heap.size + 1, 2, none⟩ (.int .i64 0)).setCell ⟨w.heap.size + 1, 3, none⟩ (.string ⟨#[]⟩)).setCell ⟨w.heap.size + 1, 4, none⟩ (.slice (some ⟨wr.heap.size, 0, none⟩) 1 1)).setCell ⟨w.heap.size + 1, 5, none⟩ (.slice none 0 0)).heap.size = wr.heap.size + 1 := by simp only [size_set1]; exact alloc_size _ _
 have hkeep : ∀ y, y < wr.heap.size → y ≠ w.heap.size + 1 → (((((((wr.alloc (.cells #[.int .i64 uk, .bool ub, .int .i64 ui, .string us, .slice ual unl ucl, .slice uam unm ucm] 25)).setCell ⟨w.heap.size + 1, 0, none⟩ (.int .i64 4)).setCell ⟨w.heap.size + 1, 1, none⟩ (.bool false)).setCell ⟨w.heap.size + 1, 2, none⟩ (.int .i64 0)).setCell ⟨w.heap.size + 1, 3, none⟩ (.string ⟨#[]⟩)).setCell ⟨w.heap.size + 1, 4, none⟩ (.slice (some ⟨wr.heap.size, 0, none⟩) 1 1)).setCell ⟨w.heap.size + 1, 5, none⟩ (.slice none 0 0)).heap[y]? = wr.heap[y]? := fun y h1 h2 => (ho y h2).trans (Below.heap_alloc wr _ y h1)
 have hnew : (((((((wr.alloc (.cells #[.int .i64 uk, .bool ub, .int .i64 ui, .string us, .slice ual unl ucl, .slice uam unm ucm] 25)).setCell ⟨w.heap.size + 1, 0, none⟩ (.int .i64 4)).setCell ⟨w.heap.size + 1, 1, none⟩ (.bool false)).setCell ⟨w.heap.size + 1, 2, none⟩ (.int .i64 0)).setCell ⟨w.heap.size + 1, 3, none⟩ (.string ⟨#[]⟩)).setCell ⟨w.heap.size + 1, 4, none⟩ (.slice (some ⟨wr.heap.size, 0, none⟩) 1 1)).setCell ⟨w.heap.size + 1, 5, none⟩ (.slice none 0 0)).heap[wr.heap.size]? = some (.cells #[.int .i64 uk, .bool ub, .int .i64 ui, .string us, .slice ual unl ucl, .slice uam unm ucm] 25) := (ho wr.heap.size (by omega)).trans (heap_alloc_new wr _)
 refine ⟨(hkeep _ (by omega) (by omega)).trans h.z, box_six ((Below.heap_alloc wr _ _ (by omega)).trans h.b) (.int .i64 4) (.bool false) (.int .i64 0) (.string ⟨#[]⟩) (.slice (some ⟨wr.heap.size, 0, none⟩) 1 1) (.slice none 0 0), ?_, ?_, by omega⟩
 ·rw [chV, V.lies]
  refine ⟨some ⟨wr.heap.size, 0, none⟩, 1, wr.heap.size, 0, none, 0, 0, 0, rfl, ⟨by decide, by decide⟩, ⟨by decide, by decide⟩, by decide, ⟨Nat.le_refl _, by decide, .inr rfl, fun e => by cases e⟩, headed_nil, ?_, by rw [liesM]; trivial, fun e => by cases e⟩
  rw [liesL, liesL]
  refine ⟨⟨by omega, by omega⟩, ⟨[.int .i64 uk, .bool ub, .int .i64 ui, .string us, .slice ual unl ucl, .slice uam unm ucm], ?_, V.lies_keep (fun h => h) (fun y hy => hkeep y hy.2 (by have := hy.1; omega)) (fun y hy => ⟨hy.1, by have := hy.2; omega⟩) _ h.l⟩, trivial⟩
  intro q u hu
  rw [cell_of_block hnew]
  simpa using hu
 ·exact Below.set6 (h.B.alloc (by omega) _) (M := w.heap.size + 1) (by omega) 0 1 2 3 4 5 (.int .i64 4) (.bool false) (.int .i64 0) (.string ⟨#[]⟩) (.slice (some ⟨wr.heap.size, 0, none⟩) 1 1) (.slice none 0 0)
set_option maxHeartbeats 8000000 in
set_option maxRecDepth 100000 in
theorem chain_any (N : Nat) (hN : N ≤ 100) (w : World) : Calls Tryd.prog 10 #[.int .i64 (N : Int)] w (AnPost (chV N N) w) := by
 have B2 : Below w.heap.size w ((w.alloc (.cells #[.int .i64 0, .bool false, .int .i64 0, .string ⟨#[]⟩, .slice none 0 0, .slice none 0 0] 25)).alloc (.cells #[.int .i64 2, .bool false, .int .i64 (N : Int), .string ⟨#[]⟩, .slice none 0 0, .slice none 0 0] 25)) := two_below w _ _
 have hz2 : ((w.alloc (.cells #[.int .i64 0, .bool false, .int .i64 0, .string ⟨#[]⟩, .slice none 0 0, .slice none 0 0] 25)).alloc (.cells #[.int .i64 2, .bool false, .int .i64 (N : Int), .string ⟨#[]⟩, .slice none 0 0, .slice none 0 0] 25)).heap.size = w.heap.size + 2 := by rw [alloc_size, alloc_size]
 have h0 : ChI N 0 w ((w.alloc (.cells #[.int .i64 0, .bool false, .int .i64 0, .string ⟨#[]⟩, .slice none 0 0, .slice none 0 0] 25)).alloc (.cells #[.int .i64 2, .bool false, .int .i64 (N : Int), .string ⟨#[]⟩, .slice none 0 0, .slice none 0 0] 25)) 2 false (N : Int) ⟨#[]⟩ none 0 0 none 0 0 := ⟨alloc2_keep1 w _ _, alloc2_new w _ _, num_lies ⟨by omega, by omega⟩ _ _, B2, by omega⟩
 have H0 := hmk h0
 clear h0 B2
 go_enter Tryd.func10, Tryd.ntmps10
 go_wp2_with fail
 generalize ((w.alloc (.cells #[.int .i64 0, .bool false, .int .i64 0, .string ⟨#[]⟩, .slice none 0 0, .slice none 0 0] 25)).alloc (.cells #[.int .i64 2, .bool false, .int .i64 (N : Int), .string ⟨#[]⟩, .slice none 0 0, .slice none 0 0] 25)) = w2 at *
 go_loopw [4] (fun e wr => ∃ (j : Nat) (uk : Int) (ub : Bool) (ui : Int) (us : ByteArray) (ual : Option Addr) (unl ucl : Nat) (uam : Option Addr) (unm ucm : Nat), j ≤ N ∧ e = .int .i64 (j : Int) ∧ Hid (ChI N j w wr uk ub ui us ual unl ucl uam unm ucm)) (fun e _ => N - (RowKit.intOf e).toNat)
 case atStart => exact ⟨0, _, _, _, _, _, _, _, _, _, _, by omega, rfl, H0⟩
 case round =>
  obtain ⟨j, uk, ub, ui, us, ual, unl, ucl, uam, unm, ucm, hj, rfl, HI⟩ := hrel
  have hb := HI.out.b
  have hz := HI.out.z
  have cb0 : wr.cell? ⟨w.heap.size + 1, 0, none⟩ = some (.int .i64 uk) := by rw [cell_of_block hb]; rfl
  have cb1 : wr.cell? ⟨w.heap.size + 1, 1, none⟩ = some (.bool ub) := by rw [cell_of_block hb]; rfl
  have cb2 : wr.cell? ⟨w.heap.size + 1, 2, none⟩ = some (.int .i64 ui) := by rw [cell_of_block hb]; rfl
  have cb3 : wr.cell? ⟨w.heap.size + 1, 3, none⟩ = some (.string us) := by rw [cell_of_block hb]; rfl
  have cb4 : wr.cell? ⟨w.heap.size + 1, 4, none⟩ = some (.slice ual unl ucl) := by rw [cell_of_block hb]; rfl
  have cb5 : wr.cell? ⟨w.heap.size + 1, 5, none⟩ = some (.slice uam unm ucm) := by rw [cell_of_block hb]; rfl
  have fb := frozen_of_block hb
  by_cases hjl : j < N
  ·have y1 : (j : Int) < (N : Int) := by omega
   have HS := hmk (ch_step HI.out)
   have hab := (Below.heap_alloc wr (.cells #[.int .i64 uk, .bool ub, .int .i64 ui, .string us, .slice ual unl ucl, .slice uam unm ucm] 25) (w.heap.size + 1) (by have := HI.out.s; omega)).trans hb
   have ca0 : (wr.alloc (.cells #[.int .i64 uk, .bool ub, .int .i64 ui, .string us, .slice ual unl ucl, .slice uam unm ucm] 25)).cell? ⟨w.heap.size + 1, 0, none⟩ = some (.int .i64 uk) := by rw [cell_of_block hab]; rfl
   have ca1 : (wr.alloc (.cells #[.int .i64 uk, .bool ub, .int .i64 ui, .string us, .slice ual unl ucl, .slice uam unm ucm] 25)).cell? ⟨w.heap.size + 1, 1, none⟩ = some (.bool ub) := by rw [cell_of_block hab]; rfl
   have ca2 : (wr.alloc (.cells #[.int .i64 uk, .bool ub, .int .i64 ui, .string us, .slice ual unl ucl, .slice uam unm ucm] 25)).cell? ⟨w.heap.size + 1, 2, none⟩ = some (.int .i64 ui) := by rw [cell_of_block hab]; rfl
   have ca3 : (wr.alloc (.cells #[.int .i64 uk, .bool ub, .int .i64 ui, .string us, .slice ual unl ucl, .slice uam unm ucm] 25)).cell? ⟨w.heap.size + 1, 3, none⟩ = some (.string us) := by rw [cell_of_block hab]; rfl
   have ca4 : (wr.alloc (.cells #[.int .i64 uk, .bool ub, .int .i64 ui, .string us, .slice ual unl ucl, .slice uam unm ucm] 25)).cell? ⟨w.heap.size + 1, 4, none⟩ = some (.slice ual unl ucl) := by rw [cell_of_block hab]; rfl
   have ca5 : (wr.alloc (.cells #[.int .i64 uk, .bool ub, .int .i64 ui, .string us, .slice ual unl ucl, .slice uam unm ucm] 25)).cell? ⟨w.heap.size + 1, 5, none⟩ = some (.slice uam unm ucm) := by rw [cell_of_block hab]; rfl
   have fa := frozen_of_block hab
   clear hb hz hab
   go_wp2_with fail
   go_roundw
   case rel => exact ⟨j + 1, 4, false, 0, ⟨#[]⟩, some ⟨wr.heap.size, 0, none⟩, 1, 1, none, 0, 0, by omega, by go_num, HS⟩
   case measure => simp [RowKit.intOf]; omega
  ·obtain rfl : j = N := by omega
   have y1 : ¬ (j : Int) < (j : Int) := by omega
   have cz0 : wr.cell? ⟨w.heap.size, 0, none⟩ = some (.int .i64 0) := by rw [cell_of_block hz]; rfl
   have cz1 : wr.cell? ⟨w.heap.size, 1, none⟩ = some (.bool false) := by rw [cell_of_block hz]; rfl
   have cz2 : wr.cell? ⟨w.heap.size, 2, none⟩ = some (.int .i64 0) := by rw [cell_of_block hz]; rfl
   have cz3 : wr.cell? ⟨w.heap.size, 3, none⟩ = some (.string ⟨#[]⟩) := by rw [cell_of_block hz]; rfl
   have cz4 : wr.cell? ⟨w.heap.size, 4, none⟩ = some (.slice none 0 0) := by rw [cell_of_block hz]; rfl
   have cz5 : wr.cell? ⟨w.heap.size, 5, none⟩ = some (.slice none 0 0) := by rw [cell_of_block hz]; rfl
   have fz := frozen_of_block hz
   have HE := hmk (wn_fin (M := w.heap.size) (Nat.le_refl _) HI.out.B (V.lies_keep (fun h => h) (fun _ _ => rfl) (fun y hy => ⟨by have := hy.1; omega, by have := hy.1; omega, hy.2⟩) _ HI.out.l))
   clear hb hz
   go_wp2_with fail
   (try simp only [Exit.inBlock, Exit.then])
   refine bodyPost_ret (v := .agg #[.int .i64 uk, .bool ub, .int .i64 ui, .string us, .slice ual unl ucl, .slice uam unm ucm]) ?_ rfl ?_
   rotate_left
   ·exact ⟨[.int .i64 uk, .bool ub, .int .i64 ui, .string us, .slice ual unl ucl, .slice uam unm ucm], rfl, HE.out.1, HE.out.2⟩
   ·rw [results_cell1 rfl]
    go_simp
set_option maxHeartbeats 8000000 in
set_option maxRecDepth 100000 in
theorem single_any (w : World) : Calls Tryd.prog 11 #[] w (AnPost sgV w) := by
 go_enter Tryd.func11, Tryd.ntmps11
 go_wp2_with fail
 (try simp only [Exit.inBlock, Exit.then])
 have hb : Below w.heap.size w ((w.alloc (.cells #[.int .i64 5, .bool false, .int .i64 0, .string ⟨#[]⟩, .slice none 0 0, .slice (some ⟨w.heap.size + 1, 0, none⟩) 1 1] 25)).alloc (.cells #[.string ⟨#[97]⟩, .int .i64 2, .bool false, .int .i64 1, .string ⟨#[]⟩, .slice none 0 0, .slice none 0 0] 39)) := two_below w _ _
 have hn := alloc2_new w (.cells #[.int .i64 5, .bool false, .int .i64 0, .string ⟨#[]⟩, .slice none 0 0, .slice (some ⟨w.heap.size + 1, 0, none⟩) 1 1] 25) (.cells #[.string ⟨#[97]⟩, .int .i64 2, .bool false, .int .i64 1, .string ⟨#[]⟩, .slice none 0 0, .slice none 0 0] 39)
 have hz : ((w.alloc (.cells #[.int .i64 5, .bool false, .int .i64 0, .string ⟨#[]⟩, .slice none 0 0, .slice (some ⟨w.heap.size + 1, 0, none⟩) 1 1] 25)).alloc (.cells #[.string ⟨#[97]⟩, .int .i64 2, .bool false, .int .i64 1, .string ⟨#[]⟩, .slice none 0 0, .slice none 0 0] 39)).heap.size = w.heap.size + 2 := by rw [alloc_size, alloc_size]
 refine bodyPost_ret (v := .agg #[.int .i64 5, .bool false, .int .i64 0, .string ⟨#[]⟩, .slice none 0 0, .slice (some ⟨w.heap.size + 1, 0, none⟩) 1 1]) ?_ rfl ?_
 rotate_left
 ·refine ⟨[.int .i64 5, .bool false, .int .i64 0, .string ⟨#[]⟩, .slice none 0 0, .slice (some ⟨w.heap.size + 1, 0, none⟩) 1 1], rfl, ?_, hb⟩
  rw [sgV, V.lies]
  refine ⟨none, 0, 0, 0, some ⟨w.heap.size + 1, 0, none⟩, 1, w.heap.size + 1, 0, rfl, ⟨by decide, by decide⟩, ⟨by decide, by decide⟩, by decide, headed_nil, ⟨Nat.le_refl _, by decide, .inr rfl, fun e => by cases e⟩, by rw [liesL]; trivial, ?_, fun e => by cases e⟩
  rw [liesM, liesM]
  refine ⟨⟨by omega, by omega⟩, ⟨by decide, [.int .i64 2, .bool false, .int .i64 1, .string ⟨#[]⟩, .slice none 0 0, .slice none 0 0], ?_, num_lies ⟨by decide, by decide⟩ _ _⟩, trivial⟩
  intro q u hu
  rw [cell_of_block hn]
  simpa using hu
 ·rw [results_cell1 rfl]
  go_simp
theorem twin_lie (v : V) (S : Nat → Prop) (cs : List Value) (w : World) (h : v.lies false w S cs) (hS : ∀ b, S b → b < w.heap.size) (hw : v.wt ≤ 2147483648) : Calls Tryd.prog 5 #[.agg cs.toArray] w fun e w' => ∃ us : List Value, e = .returned (.agg us.toArray) ∧ v.lies true w' (New w w') us ∧ Below w.heap.size w w' := by
 refine (twin_any v S cs w h hS hw).mono ?_
 obtain ⟨k, b, i, s, l, m⟩ := v
 rw [V.lies] at h
 obtain ⟨_, _, _, _, _, _, _, _, _, h1, h2, h3, _⟩ := h
 rintro e w' ⟨gl, cl, gm, cm, SL, SM, he, hb, oL, oM, _⟩
 exact ⟨_, he, TwinPost.lies (b := b) h1 h2 h3 oL oM, hb⟩
theorem lies_f {v : V} {w : World} {S : Nat → Prop} {cs : List Value} (h : v.lies true w S cs) : v.lies false w S cs := V.lies_keep (fun h => by cases h) (fun _ _ => rfl) (fun _ h => h) _ h
end Go.Proofs.YtjfldbmopjojdabDoor
