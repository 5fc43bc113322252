import Derived.Test.YtjgbjhahmgegiaaGreatDoorPwG
import Derived.Test.YtjgbjhahmgegiaaGreatDoorPwE
import Derived.Test.YtjgbjhahmgegiaaGreatDoorPwS
/- JsonpatchWrites: the law's walk. -/
set_option linter.unusedSimpArgs false
set_option linter.unusedVariables false
set_option maxRecDepth 100000
namespace Go.Proofs.YtjgbjhahmgegiaaGreatDoor
open Go.RowKit Go.Lib
set_option maxHeartbeats 8000000 in
theorem writes_walk (l : List Stp) (al : Option Addr) (cl bl ol : Nat) (w : World) (tp : Tp w) (hd : Headed al l.length cl bl ol) (hl : liesT w (Old w) l bl ol) (hz : SzT l) : Calls Tryz.prog 4 #[.slice al l.length cl] w (BPost true w) := by
  have HL : Hid (∀ W, Below w.heap.size w W → liesT W (Old W) l bl ol ∧ Tp W) := fun W hB => ⟨liesT_keep (fun x hx => hB.block x hx) (fun x hx => Nat.lt_of_lt_of_le hx hB.size) hl, tp.below hB tp.z⟩
  have HZ := hmk hz
  have CB := hmk (bsteps_any l (Old w) al cl bl ol w hd hl (fun x hx => hx) hz)
  have hll := wtT_len l
  clear hl tp hz
  go_enter Tryz.func4, Tryz.ntmps4
  go_wp2_with fail
  refine CB.out.mono ?_
  rintro e w1 ⟨r, rfl, hr, b1⟩
  have hz1 := b1.size
  clear CB
  cases r with
  | true =>
    go_wp2_with fail
    go_ret
    exact ⟨rfl, b1⟩
  | false =>
    have hwt := hr rfl
    have CT := hmk (twsteps_any l (Old w1) al cl bl ol w1 hd (HL.out w1 b1).1 (fun x hx => hx) hwt)
    clear hr
    go_wp2_with fail
    refine CT.out.mono ?_
    rintro e w2 ⟨ta, tc, tb, to_, rfl, htd, htl, b2⟩
    have hz2 := b2.size
    have B2 := b1.trans (b2.mono hz1)
    have HU : Hid (∀ W, Below w2.heap.size w2 W → liesT W (Old W) l tb to_) := fun W hb => liesT_keep (fun x hx => hb.block x (by rcases hx with h | h; (exact Nat.lt_of_lt_of_le h hz2); exact h.2)) (fun x hx => by rcases hx with h | h; (exact Nat.lt_of_lt_of_le h (Nat.le_trans hz2 hb.size)); exact Nat.lt_of_lt_of_le h.2 hb.size) htl
    have CP := pprint_any l (Old w2) al cl bl ol w2 (HL.out w2 B2).2 hd (HL.out w2 B2).1 (fun x hx => hx) hwt HZ.out
    have CD : Hid (∀ W, Below w2.heap.size w2 W → Calls Tryz.prog 15 #[.slice ta l.length tc] W (PnPost (prnF l) (Old W) W)) := fun W hb => rprint_any l (Old W) ta tc tb to_ W htd (HU.out W hb) (fun x hx => hx) hwt HZ.out
    obtain ⟨⟨X, at_, er⟩, hp⟩ : ∃ p, prnF l = p := ⟨_, rfl⟩
    rw [hp] at CP CD
    unfold PnPost at CP CD
    dsimp only at CP CD
    have CPH := hmk CP
    clear hp CT htl CP
    go_wp2_with fail
    refine CPH.out.mono ?_
    rintro e w3 ⟨csu, rfl, hlu, b3⟩
    obtain ⟨uk, ub, ui, us, ual, unl, ucl, uam, unm, ucm, rfl⟩ := V.ten hlu
    have hz3 := b3.size
    have ba : Below w3.heap.size w3 (w3.alloc (.cells #[.int .i64 uk, .bool ub, .int .i64 ui, .string us, .slice ual unl ucl, .slice uam unm ucm] 25)) := (Below.refl _ _).alloc (Nat.le_refl _) _
    have za := alloc_size w3 (.cells #[.int .i64 uk, .bool ub, .int .i64 ui, .string us, .slice ual unl ucl, .slice uam unm ucm] 25)
    have NA := heap_alloc_new w3 (.cells #[.int .i64 uk, .bool ub, .int .i64 ui, .string us, .slice ual unl ucl, .slice uam unm ucm] 25)
    have b2a := b3.trans (ba.mono hz3)
    have HLU : Hid (∀ W, Below (w3.alloc (.cells #[.int .i64 uk, .bool ub, .int .i64 ui, .string us, .slice ual unl ucl, .slice uam unm ucm] 25)).heap.size (w3.alloc (.cells #[.int .i64 uk, .bool ub, .int .i64 ui, .string us, .slice ual unl ucl, .slice uam unm ucm] 25)) W → X.lies false W (Old W) [.int .i64 uk, .bool ub, .int .i64 ui, .string us, .slice ual unl ucl, .slice uam unm ucm]) := fun W hb => V.lies_keep (fun h => h) (fun x hx => (hb.block x (by rcases hx with h | h; (have : x < w2.heap.size := h; omega); have := h.2; omega)).trans (ba.block x (by rcases hx with h | h; (have : x < w2.heap.size := h; omega); exact h.2))) (fun x hx => by have := hb.size; rcases hx with h | h; (have h' : x < w2.heap.size := h; show x < _; omega); have := h.2; show x < _; omega) _ hlu
    have CDH := hmk (CD.out _ b2a)
    clear hlu CPH CD
    go_upto_region 5 with fail
    obtain ⟨w4, hw4⟩ : ∃ w4, w4 = w3.alloc (.cells #[.int .i64 uk, .bool ub, .int .i64 ui, .string us, .slice ual unl ucl, .slice uam unm ucm] 25) := ⟨_, rfl⟩
    rw [← hw4] at ba za NA b2a HLU CDH ⊢
    clear hw4
    go_wp2_with fail
    refine CDH.out.mono ?_
    rintro e w5 ⟨csv, rfl, hlv, b5⟩
    obtain ⟨vk, vb, vi, vs, val, vnl, vcl, vam, vnm, vcm, rfl⟩ := V.ten hlv
    have hz5 := b5.size
    have bb : Below w5.heap.size w5 (w5.alloc (.cells #[.int .i64 vk, .bool vb, .int .i64 vi, .string vs, .slice val vnl vcl, .slice vam vnm vcm] 25)) := (Below.refl _ _).alloc (Nat.le_refl _) _
    have zb := alloc_size w5 (.cells #[.int .i64 vk, .bool vb, .int .i64 vi, .string vs, .slice val vnl vcl, .slice vam vnm vcm] 25)
    have NB := heap_alloc_new w5 (.cells #[.int .i64 vk, .bool vb, .int .i64 vi, .string vs, .slice val vnl vcl, .slice vam vnm vcm] 25)
    have b4b := b5.trans (bb.mono hz5)
    have NA6 := (b4b.block w3.heap.size (by omega)).trans NA
    have b2b := b2a.trans (b4b.mono (by omega))
    have B6 := B2.trans (b2b.mono (by have := B2.size; omega))
    have HLV : Hid (X.lies false (w5.alloc (.cells #[.int .i64 vk, .bool vb, .int .i64 vi, .string vs, .slice val vnl vcl, .slice vam vnm vcm] 25)) (Old (w5.alloc (.cells #[.int .i64 vk, .bool vb, .int .i64 vi, .string vs, .slice val vnl vcl, .slice vam vnm vcm] 25))) [.int .i64 vk, .bool vb, .int .i64 vi, .string vs, .slice val vnl vcl, .slice vam vnm vcm]) := V.lies_keep (fun h => h) (fun x hx => bb.block x (by rcases hx with h | h; (have h' : x < w4.heap.size := h; omega); exact h.2)) (fun x hx => by rcases hx with h | h; (have h' : x < w4.heap.size := h; show x < _; omega); have := h.2; show x < _; omega) _ hlv
    have CS := hmk (samv_any X 0 _ _ _ _ (w5.alloc (.cells #[.int .i64 vk, .bool vb, .int .i64 vi, .string vs, .slice val vnl vcl, .slice vam vnm vcm] 25)) (by omega) (by omega) (HLU.out _ b4b) HLV.out (fun x hx => hx) (fun x hx => hx))
    have CQ : Hid (∀ W, Below (w5.alloc (.cells #[.int .i64 vk, .bool vb, .int .i64 vi, .string vs, .slice val vnl vcl, .slice vam vnm vcm] 25)).heap.size (w5.alloc (.cells #[.int .i64 vk, .bool vb, .int .i64 vi, .string vs, .slice val vnl vcl, .slice vam vnm vcm] 25)) W → Calls Tryz.prog 10 #[.slice al l.length cl, .slice ta l.length tc] W (BPost true W)) := fun W hb => by
      have hB := B6.trans (hb.mono (by have := B6.size; omega))
      have hB2 := b2b.trans (hb.mono (by have := b2b.size; omega))
      exact steps_sameW l (Old W) (Old W) al ta cl tc bl tb ol to_ W hd htd (HL.out W hB).1 (HU.out W hB2) (fun x hx => hx) (fun x hx => hx) (by omega)
    clear hlv CDH HLU HLV NA b4b bb b2b b2a
    go_upto_region 6 with fail
    obtain ⟨w6, hw6⟩ : ∃ w6, w6 = w5.alloc (.cells #[.int .i64 vk, .bool vb, .int .i64 vi, .string vs, .slice val vnl vcl, .slice vam vnm vcm] 25) := ⟨_, rfl⟩
    rw [← hw6] at zb NB NA6 B6 CS CQ ⊢
    clear hw6
    generalize ((er : Nat) : Int) = erz at *
    have d0 : w6.cell? ⟨w3.heap.size, 0, none⟩ = some (.int .i64 uk) := by rw [cell_of_block NA6]; rfl
    have d1 : w6.cell? ⟨w3.heap.size, 1, none⟩ = some (.bool ub) := by rw [cell_of_block NA6]; rfl
    have d2 : w6.cell? ⟨w3.heap.size, 2, none⟩ = some (.int .i64 ui) := by rw [cell_of_block NA6]; rfl
    have d3 : w6.cell? ⟨w3.heap.size, 3, none⟩ = some (.string us) := by rw [cell_of_block NA6]; rfl
    have d4 : w6.cell? ⟨w3.heap.size, 4, none⟩ = some (.slice ual unl ucl) := by rw [cell_of_block NA6]; rfl
    have d5 : w6.cell? ⟨w3.heap.size, 5, none⟩ = some (.slice uam unm ucm) := by rw [cell_of_block NA6]; rfl
    have n0 : w6.cell? ⟨w5.heap.size, 0, none⟩ = some (.int .i64 vk) := by rw [cell_of_block NB]; rfl
    have n1 : w6.cell? ⟨w5.heap.size, 1, none⟩ = some (.bool vb) := by rw [cell_of_block NB]; rfl
    have n2 : w6.cell? ⟨w5.heap.size, 2, none⟩ = some (.int .i64 vi) := by rw [cell_of_block NB]; rfl
    have n3 : w6.cell? ⟨w5.heap.size, 3, none⟩ = some (.string vs) := by rw [cell_of_block NB]; rfl
    have n4 : w6.cell? ⟨w5.heap.size, 4, none⟩ = some (.slice val vnl vcl) := by rw [cell_of_block NB]; rfl
    have n5 : w6.cell? ⟨w5.heap.size, 5, none⟩ = some (.slice vam vnm vcm) := by rw [cell_of_block NB]; rfl
    clear NA6 NB
    generalize l.length = ln at *
    go_wp2_with fail
    refine CS.out.mono ?_
    rintro e w7 ⟨rfl, b7⟩
    have B7 := B6.trans (b7.mono (by have := B6.size; omega))
    clear CS d0 d1 d2 d3 d4 d5 n0 n1 n2 n3 n4 n5
    go_wp2_with fail
    refine (CQ.out w7 b7).mono ?_
    rintro e w8 ⟨rfl, b8⟩
    have B8 := B7.trans (b8.mono (by have := B7.size; omega))
    go_wp2_with fail
    go_ret
    exact ⟨rfl, B8⟩
end Go.Proofs.YtjgbjhahmgegiaaGreatDoor
