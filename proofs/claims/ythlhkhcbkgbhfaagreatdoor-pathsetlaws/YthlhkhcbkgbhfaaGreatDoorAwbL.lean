import Derived.Test.YthlhkhcbkgbhfaaGreatDoorAwaL
/- A child that is not there, entered. -/
set_option linter.unusedSimpArgs false
set_option linter.unusedVariables false
namespace Go.Proofs.YthlhkhcbkgbhfaaGreatDoor
open Go Go.RowKit Go.Lib Go.Shelf
/-- a tree whose root has one child, at nd -/
structure Kid (W : World) (T g nd : Nat) (i : Bool) (cn : Value) : Prop where
  at_ : ∃ c0 c1 c2 c3 c4 c5 c6 c7 c8 bi cap, W.heap[T]? = some (.cells #[c0, c1, c2, c3, c4, c5, c6, c7, c8, .bool bi, .slice (some ⟨g, 0, none⟩) 1 cap, cn] 78 (0, 0)) ∧ 1 ≤ cap ∧ cap ≤ maxLen ∧ bi = false
  row : ∃ arr, W.heap[g]? = some (.cells arr 79 (0, 0)) ∧ arr[0]? = some (.pointer (some ⟨nd, 0, none⟩))
  kid : ∃ fk fn fma fml fmc uk ub ui us ual unl ucl uam unm ucm, W.heap[nd]? = some (.cells #[.int .i64 fk, .string fn, .slice fma fml fmc, .int .i64 uk, .bool ub, .int .i64 ui, .string us, .slice ual unl ucl, .slice uam unm ucm, .bool i, .slice none 0 0] 76 (0, 0))
set_option maxHeartbeats 8000000 in
set_option maxRecDepth 100000 in
theorem kidn_any (x : El) (S : Nat → Prop) (ek : Int) (en : ByteArray) (ea : Option Addr) (el ec : Nat) (vk : Int) (vb : Bool) (vi : Int) (vs : ByteArray) (al : Option Addr) (ln lc : Nat) (am : Option Addr) (mn mc : Nat) (c0 c1 c2 c3 c4 c5 c6 c7 c8 : Value) (cn : Value) (T : Nat) (w : World) (hx : x.lies w S [.int .i64 ek, .string en, .slice ea el ec, .int .i64 vk, .bool vb, .int .i64 vi, .string vs, .slice al ln lc, .slice am mn mc]) (hS : ∀ b, S b → b < w.heap.size) (hST : ∀ b, S b → b ≠ T) (hwt : x.wt ≤ 2147483647)
    (hT : w.heap[T]? = some (.cells #[c0, c1, c2, c3, c4, c5, c6, c7, c8, .bool false, .slice none 0 0, cn] 78 (0, 0))) :
    Calls Tryz.prog 51 #[.pointer (some ⟨T, 0, none⟩), .agg #[.int .i64 ek, .string en, .slice ea el ec, .int .i64 vk, .bool vb, .int .i64 vi, .string vs, .slice al ln lc, .slice am mn mc]] w fun e w' => ∃ g nd, e = .returned (.pointer (some ⟨nd, 0, none⟩)) ∧ Kid w' T g nd false cn ∧ w.heap.size ≤ g ∧ w.heap.size ≤ nd ∧ g ≠ nd ∧ w.grownBy w' (some T) := by
  have hTs : T < w.heap.size := (Array.getElem?_eq_some_iff.1 hT).1
  have B1 : Below w.heap.size w (w.alloc (.cells #[.int .i64 ek, .string en, .slice ea el ec, .int .i64 vk, .bool vb, .int .i64 vi, .string vs, .slice al ln lc, .slice am mn mc] 66)) := (Below.refl _ w).alloc (Nat.le_refl _) _
  have nb := heap_alloc_new w (.cells #[.int .i64 ek, .string en, .slice ea el ec, .int .i64 vk, .bool vb, .int .i64 vi, .string vs, .slice al ln lc, .slice am mn mc] 66)
  have hz1 := alloc_size w (.cells #[.int .i64 ek, .string en, .slice ea el ec, .int .i64 vk, .bool vb, .int .i64 vi, .string vs, .slice al ln lc, .slice am mn mc] 66)
  have hT1 := (B1.block T hTs).trans hT
  have x1 := El.lies_keep (S' := S) (fun b h => B1.block b (hS b h)) (fun _ h => h) hx
  have k10 : (w.alloc (.cells #[.int .i64 ek, .string en, .slice ea el ec, .int .i64 vk, .bool vb, .int .i64 vi, .string vs, .slice al ln lc, .slice am mn mc] 66)).cell? ⟨T, 10, none⟩ = some (.slice none 0 0) := by rw [cell_of_block hT1]; rfl
  have c1 := hmk (findn_any T ek en ea el ec vk vb vi vs al ln lc am mn mc (w.alloc (.cells #[.int .i64 ek, .string en, .slice ea el ec, .int .i64 vk, .bool vb, .int .i64 vi, .string vs, .slice al ln lc, .slice am mn mc] 66)) k10)
  obtain ⟨r0, r1, r2, r3, r4, r5, r6, r7, r8⟩ := row9z (row_block (cs := [.int .i64 ek, .string en, .slice ea el ec, .int .i64 vk, .bool vb, .int .i64 vi, .string vs, .slice al ln lc, .slice am mn mc]) nb)
  have HX := hmk x1
  clear hx x1
  go_enter Tryz.func51, Tryz.ntmps51
  go_wp2_with fail
  generalize (w.alloc (.cells #[.int .i64 ek, .string en, .slice ea el ec, .int .i64 vk, .bool vb, .int .i64 vi, .string vs, .slice al ln lc, .slice am mn mc] 66)) = w1 at *
  refine c1.out.mono ?_
  rintro e w2 ⟨rfl, b2⟩
  have hz2 := b2.size
  have hT2 := (b2.block T (by omega)).trans hT1
  have nb2 := (b2.block w.heap.size (by omega)).trans nb
  have B2 : Below w.heap.size w w2 := B1.trans (b2.mono (by omega))
  have CPY : Hid (∀ W, Below w1.heap.size w1 W → Calls Tryz.prog 67 #[.agg #[.int .i64 ek, .string en, .slice ea el ec, .int .i64 vk, .bool vb, .int .i64 vi, .string vs, .slice al ln lc, .slice am mn mc]] W (AePost (anE x) W)) := fun W hb => anelem_any x S _ W (El.lies_keep (fun b h => hb.block b (by have := hS b h; omega)) (fun _ h => h) HX.out) (fun b h => by have := hS b h; have := hb.size; omega) hwt
  clear r0 r1 r2 r3 r4 r5 r6 r7 r8 c1 k10 hT1 nb HX
  go_wp2_with fail
  refine wp_region_held_drew (S := fun W => W.heap[w.heap.size]? = some (.cells #[.int .i64 ek, .string en, .slice ea el ec, .int .i64 vk, .bool vb, .int .i64 vi, .string vs, .slice al ln lc, .slice am mn mc] 66 (0, 0))) (by kernel_rfl) nb2 (fun hHeld => ?_)
  (refine wpAnyH_take (i := 0) (v := ?_) rfl (by kernel_rfl) (by kernel_rfl) (by kernel_rfl) (fun _ _ _ h => h) (Or.inl ⟨by kernel_rfl, ?_⟩) (by assumption) ?_; rotate_left 1; (intro W0 hSw; (try dsimp only at hSw); go_simp; (try with_reducible rfl)); (try simp only [Act.put, List.setIfInBounds_toArray, List.set_cons_zero, List.set_cons_succ]))
  (refine wpAnyH_take (i := 1) (v := ?_) rfl (by kernel_rfl) (by kernel_rfl) (by kernel_rfl) (fun _ _ _ h => h) (Or.inl ⟨by kernel_rfl, ?_⟩) (by assumption) ?_; rotate_left 1; (intro W0 hSw; (try dsimp only at hSw); go_simp; (try with_reducible rfl)); (try simp only [Act.put, List.setIfInBounds_toArray, List.set_cons_zero, List.set_cons_succ]))
  (refine wpAnyH_take (i := 2) (v := ?_) rfl (by kernel_rfl) (by kernel_rfl) (by kernel_rfl) (fun _ _ _ h => h) (Or.inl ⟨by kernel_rfl, ?_⟩) (by assumption) ?_; rotate_left 1; (intro W0 hSw; (try dsimp only at hSw); go_simp; (try with_reducible rfl)); (try simp only [Act.put, List.setIfInBounds_toArray, List.set_cons_zero, List.set_cons_succ]))
  (refine wpAnyH_take (i := 3) (v := ?_) rfl (by kernel_rfl) (by kernel_rfl) (by kernel_rfl) (fun _ _ _ h => h) (Or.inl ⟨by kernel_rfl, ?_⟩) (by assumption) ?_; rotate_left 1; (intro W0 hSw; (try dsimp only at hSw); go_simp; (try with_reducible rfl)); (try simp only [Act.put, List.setIfInBounds_toArray, List.set_cons_zero, List.set_cons_succ]))
  (refine wpAnyH_take (i := 5) (v := ?_) rfl (by kernel_rfl) (by kernel_rfl) (by kernel_rfl) (fun _ _ _ h => h) (Or.inl ⟨by kernel_rfl, ?_⟩) (by assumption) ?_; rotate_left 1; (intro W0 hSw; (try dsimp only at hSw); go_simp; (try with_reducible rfl)); (try simp only [Act.put, List.setIfInBounds_toArray, List.set_cons_zero, List.set_cons_succ]))
  (refine wpAnyH_take (i := 6) (v := ?_) rfl (by kernel_rfl) (by kernel_rfl) (by kernel_rfl) (fun _ _ _ h => h) (Or.inl ⟨by kernel_rfl, ?_⟩) (by assumption) ?_; rotate_left 1; (intro W0 hSw; (obtain ⟨o0, o1, o2, o3, o4, o5, o6, o7, o8⟩ := row9z (row_block (cs := [.int .i64 ek, .string en, .slice ea el ec, .int .i64 vk, .bool vb, .int .i64 vi, .string vs, .slice al ln lc, .slice am mn mc]) hSw)); go_simp; (try with_reducible rfl)); (try simp only [Act.put, List.setIfInBounds_toArray, List.set_cons_zero, List.set_cons_succ]))
  refine wpAnyH_ready (rs := [4, 7]) (by kernel_rfl) (by simp) ?_
  refine AllReadyH.cons rfl (fun K hK => ?_) (AllReadyH.cons rfl (fun K hK => ?_) AllReadyH.nil)
  · have k10 : w2.drew.cell? ⟨T, 10, none⟩ = some (.slice none 0 0) := by (show w2.cell? ⟨T, 10, none⟩ = some (.slice none 0 0); rw [cell_of_block hT2]; rfl)
    go_simp
    refine hK.out _ _ nb2 (fun hHeld => ?_)
    clear hK K
    (try simp only [Act.put, List.setIfInBounds_toArray, List.set_cons_zero, List.set_cons_succ])
    clear k10
    refine wpAnyH_ready (rs := [7]) (by kernel_rfl) (by simp) ?_
    refine AllReadyH.cons rfl (fun K hK => ?_) AllReadyH.nil
    go_simp
    refine (CPY.out w2.drew (b2.drew)).mono ?_
    rintro e w3 ⟨csu, rfl, hlu, b3⟩
    obtain ⟨fk, fn, fma, fml, fmc, uk, ub, ui, us, ual, unl, ucl, uam, unm, ucm, rfl⟩ := El.nine hlu
    have b3' : Below w2.heap.size w2 w3 := (Below.refl w2.heap.size w2).drew.trans b3
    have hz3 := b3'.size
    have hT3 := (b3'.block T (by omega)).trans hT2
    have nb3 := (b3'.block w.heap.size (by omega)).trans nb2
    have B3 : Below w.heap.size w w3 := B2.trans (b3'.mono (by omega))
    clear hlu b3
    go_wp2_with fail
    refine hK.out _ _ nb3 (fun hHeld => ?_)
    clear hK K
    (try simp only [Act.put, List.setIfInBounds_toArray, List.set_cons_zero, List.set_cons_succ])
    refine wpAnyH_ready (rs := [8]) (by kernel_rfl) (by simp) ?_
    refine AllReadyH.cons rfl (fun K hK => ?_) AllReadyH.nil
    go_simp
    refine hK.out _ _ nb3 (fun hHeld => ?_)
    clear hK K
    (try simp only [Act.put, List.setIfInBounds_toArray, List.set_cons_zero, List.set_cons_succ])
    refine wpAnyH_ready (rs := [9]) (by kernel_rfl) (by simp) ?_
    refine AllReadyH.cons rfl (fun K hK => ?_) AllReadyH.nil
    have b4 : Below w3.heap.size w3 (w3.alloc (.cells #[.int .i64 fk, .string fn, .slice fma fml fmc, .int .i64 uk, .bool ub, .int .i64 ui, .string us, .slice ual unl ucl, .slice uam unm ucm, .bool false, .slice none 0 0] 76)) := (Below.refl _ w3).alloc (Nat.le_refl _) _
    have n4 := heap_alloc_new w3 (.cells #[.int .i64 fk, .string fn, .slice fma fml fmc, .int .i64 uk, .bool ub, .int .i64 ui, .string us, .slice ual unl ucl, .slice uam unm ucm, .bool false, .slice none 0 0] 76)
    have hz4 := alloc_size w3 (.cells #[.int .i64 fk, .string fn, .slice fma fml fmc, .int .i64 uk, .bool ub, .int .i64 ui, .string us, .slice ual unl ucl, .slice uam unm ucm, .bool false, .slice none 0 0] 76)
    have hT4 := (b4.block T (by omega)).trans hT3
    have nb4 := (b4.block w.heap.size (by omega)).trans nb3
    have B4 : Below w.heap.size w (w3.alloc (.cells #[.int .i64 fk, .string fn, .slice fma fml fmc, .int .i64 uk, .bool ub, .int .i64 ui, .string us, .slice ual unl ucl, .slice uam unm ucm, .bool false, .slice none 0 0] 76)) := B3.trans (b4.mono (by omega))
    go_simp
    refine hK.out _ _ nb4 (fun hHeld => ?_)
    clear hK K
    (try simp only [Act.put, List.setIfInBounds_toArray, List.set_cons_zero, List.set_cons_succ])
    obtain ⟨nd, hnd⟩ : ∃ nd, w3.heap.size = nd := ⟨_, rfl⟩
    rw [hnd] at n4 hz4 b4 ⊢
    generalize (w3.alloc (.cells #[.int .i64 fk, .string fn, .slice fma fml fmc, .int .i64 uk, .bool ub, .int .i64 ui, .string us, .slice ual unl ucl, .slice uam unm ucm, .bool false, .slice none 0 0] 76)) = w4 at *
    refine wpAnyH_ready (rs := [10]) (by kernel_rfl) (by simp) ?_
    refine AllReadyH.cons rfl (fun K hK => ?_) AllReadyH.nil
    have b5 : Below w4.heap.size w4 (w4.alloc (.cells #[.pointer (some ⟨nd, 0, none⟩)] 79)) := (Below.refl _ w4).alloc (Nat.le_refl _) _
    have n5 := heap_alloc_new w4 (.cells #[.pointer (some ⟨nd, 0, none⟩)] 79)
    rw [hz4] at n5
    have hz5 := alloc_size w4 (.cells #[.pointer (some ⟨nd, 0, none⟩)] 79)
    have hT5 := (b5.block T (by omega)).trans hT4
    have nb5 := (b5.block w.heap.size (by omega)).trans nb4
    have n45 := (b5.block nd (by omega)).trans n4
    have k5 : (w4.alloc (.cells #[.pointer (some ⟨nd, 0, none⟩)] 79)).cell? ⟨nd + 1, 0, none⟩ = some (.pointer (some ⟨nd, 0, none⟩)) := by rw [cell_of_block n5]; rfl
    have B5 : Below w.heap.size w (w4.alloc (.cells #[.pointer (some ⟨nd, 0, none⟩)] 79)) := B4.trans (b5.mono (by omega))
    have INS := hmk (insertn_any (.pointer (some ⟨nd, 0, none⟩)) rfl (nd + 1) _ k5)
    go_simp
    refine hK.out _ _ nb5 (fun hHeld => ?_)
    clear hK K
    (try simp only [Act.put, List.setIfInBounds_toArray, List.set_cons_zero, List.set_cons_succ])
    generalize (w4.alloc (.cells #[.pointer (some ⟨nd, 0, none⟩)] 79)) = w5 at *
    refine wpAnyH_ready (rs := [11]) (by kernel_rfl) (by simp) ?_
    refine AllReadyH.cons rfl (fun K hK => ?_) AllReadyH.nil
    go_simp
    refine INS.out.mono ?_
    rintro e w6 ⟨r, rfl, o6, b6⟩
    have hz6 := b6.size
    rcases own_form o6 with ⟨_, h⟩ | ⟨g, cap, rfl⟩
    · omega
    have hof := own_facts o6
    have og : w6.cell? ⟨g, 0, none⟩ = some (.pointer (some ⟨nd, 0, none⟩)) := own_cell o6 (j := 0) rfl
    obtain ⟨arr, hga⟩ : ∃ arr, w6.heap[g]? = some (.cells arr 79 (0, 0)) := by
      rcases o6.2 with ⟨h, _⟩ | ⟨g', cap', cur, e, _, hb, _⟩
      · cases h
      · cases e; exact ⟨cur, hb⟩
    have hT6 := (b6.block T (by omega)).trans hT5
    have nb6 := (b6.block w.heap.size (by omega)).trans nb5
    have n46 := (b6.block nd (by omega)).trans n45
    have B6 : Below w.heap.size w w6 := B5.trans (b6.mono (by omega))
    clear o6 INS
    go_wp2_with fail
    refine hK.out _ _ nb6 (fun hHeld => ?_)
    clear hK K
    (try simp only [Act.put, List.setIfInBounds_toArray, List.set_cons_zero, List.set_cons_succ])
    refine wpAnyH_ready (rs := [12]) (by kernel_rfl) (by simp) ?_
    refine AllReadyH.cons rfl (fun K hK => ?_) AllReadyH.nil
    go_simp
    refine hK.out _ _ nb6 (fun hHeld => ?_)
    clear hK K
    (try simp only [Act.put, List.setIfInBounds_toArray, List.set_cons_zero, List.set_cons_succ])
    refine wpAnyH_ready (rs := [13]) (by kernel_rfl) (by simp) ?_
    refine AllReadyH.cons rfl (fun K hK => ?_) AllReadyH.nil
    go_simp
    refine hK.out _ _ nb6 (fun hHeld => ?_)
    clear hK K
    (try simp only [Act.put, List.setIfInBounds_toArray, List.set_cons_zero, List.set_cons_succ])
    have k6 : w6.cell? ⟨T, 10, none⟩ = some (.slice none 0 0) := by rw [cell_of_block hT6]; rfl
    have f6 := frozen_of_block hT6
    have hgT : g ≠ T := by omega
    have hndT : nd ≠ T := by omega
    have hT7 : (w6.setCell ⟨T, 10, none⟩ (.slice (some ⟨g, 0, none⟩) 1 cap)).heap[T]? = some (.cells #[c0, c1, c2, c3, c4, c5, c6, c7, c8, .bool false, .slice (some ⟨g, 0, none⟩) 1 cap, cn] 78 (0, 0)) := by rw [set_block hT6]; rfl
    have o7 : ∀ z, z ≠ T → (w6.setCell ⟨T, 10, none⟩ (.slice (some ⟨g, 0, none⟩) 1 cap)).heap[z]? = w6.heap[z]? := fun z hz => set_other hz
    have z7 : (w6.setCell ⟨T, 10, none⟩ (.slice (some ⟨g, 0, none⟩) 1 cap)).heap.size = w6.heap.size := size_set1 _ _ _ _
    refine wpAnyH_ready (rs := [14]) (by kernel_rfl) (by simp) ?_
    refine AllReadyH.cons rfl (fun K hK => ?_) AllReadyH.nil
    go_simp
    refine hK.out _ _ ((o7 _ (by omega)).trans nb6) (fun hHeld => ?_)
    clear hK K
    (try simp only [Act.put, List.setIfInBounds_toArray, List.set_cons_zero, List.set_cons_succ])
    refine wpAnyH_done (by kernel_rfl) ?_ _
    (try dsimp only [Act.put, List.getElem_toArray, List.getElem_cons_succ, List.getElem_cons_zero, List.setIfInBounds_toArray, List.set_cons_zero, List.set_cons_succ])
    have G7 : w.grownBy (w6.setCell ⟨T, 10, none⟩ (.slice (some ⟨g, 0, none⟩) 1 cap)) (some T) := grown_set ⟨B6.os, B6.tape, B6.output, B6.size, fun k hk _ => B6.block k hk⟩ 10 _
    have g7 := (o7 g hgT).trans hga
    have n7 := (o7 nd hndT).trans n46
    have ar0 : arr[0]? = some (.pointer (some ⟨nd, 0, none⟩)) := by rw [cell_of_block hga] at og; exact og
    clear hHeld o7 hT6 nb6 k6 f6 hga n46 og
    generalize (w6.setCell ⟨T, 10, none⟩ (.slice (some ⟨g, 0, none⟩) 1 cap)) = w7 at *
    have q10 : w7.cell? ⟨T, 10, none⟩ = some (.slice (some ⟨g, 0, none⟩) 1 cap) := by rw [cell_of_block hT7]; rfl
    have qg : w7.cell? ⟨g, 0, none⟩ = some (.pointer (some ⟨nd, 0, none⟩)) := by rw [cell_of_block g7]; exact ar0
    go_wp2_with fail
    go_ret
    exact ⟨g, nd, rfl, ⟨⟨_, _, _, _, _, _, _, _, _, _, cap, hT7, hof.2.2.1, hof.2.2.2, rfl⟩, ⟨arr, g7, ar0⟩, ⟨_, _, _, _, _, _, _, _, _, _, _, _, _, _, _, n7⟩⟩, by omega, by omega, by omega, G7⟩
  · go_simp
    refine (CPY.out w2.drew (b2.drew)).mono ?_
    rintro e w3 ⟨csu, rfl, hlu, b3⟩
    obtain ⟨fk, fn, fma, fml, fmc, uk, ub, ui, us, ual, unl, ucl, uam, unm, ucm, rfl⟩ := El.nine hlu
    have b3' : Below w2.heap.size w2 w3 := (Below.refl w2.heap.size w2).drew.trans b3
    have hz3 := b3'.size
    have hT3 := (b3'.block T (by omega)).trans hT2
    have nb3 := (b3'.block w.heap.size (by omega)).trans nb2
    have B3 : Below w.heap.size w w3 := B2.trans (b3'.mono (by omega))
    clear hlu b3
    go_wp2_with fail
    refine hK.out _ _ nb3 (fun hHeld => ?_)
    clear hK K
    (try simp only [Act.put, List.setIfInBounds_toArray, List.set_cons_zero, List.set_cons_succ])
    refine wpAnyH_ready (rs := [4, 8]) (by kernel_rfl) (by simp) ?_
    refine AllReadyH.cons rfl (fun K hK => ?_) (AllReadyH.cons rfl (fun K hK => ?_) AllReadyH.nil)
    · have k10 : w3.cell? ⟨T, 10, none⟩ = some (.slice none 0 0) := by (show w3.cell? ⟨T, 10, none⟩ = some (.slice none 0 0); rw [cell_of_block hT3]; rfl)
      go_simp
      refine hK.out _ _ nb3 (fun hHeld => ?_)
      clear hK K
      (try simp only [Act.put, List.setIfInBounds_toArray, List.set_cons_zero, List.set_cons_succ])
      clear k10
      refine wpAnyH_ready (rs := [8]) (by kernel_rfl) (by simp) ?_
      refine AllReadyH.cons rfl (fun K hK => ?_) AllReadyH.nil
      go_simp
      refine hK.out _ _ nb3 (fun hHeld => ?_)
      clear hK K
      (try simp only [Act.put, List.setIfInBounds_toArray, List.set_cons_zero, List.set_cons_succ])
      refine wpAnyH_ready (rs := [9]) (by kernel_rfl) (by simp) ?_
      refine AllReadyH.cons rfl (fun K hK => ?_) AllReadyH.nil
      have b4 : Below w3.heap.size w3 (w3.alloc (.cells #[.int .i64 fk, .string fn, .slice fma fml fmc, .int .i64 uk, .bool ub, .int .i64 ui, .string us, .slice ual unl ucl, .slice uam unm ucm, .bool false, .slice none 0 0] 76)) := (Below.refl _ w3).alloc (Nat.le_refl _) _
      have n4 := heap_alloc_new w3 (.cells #[.int .i64 fk, .string fn, .slice fma fml fmc, .int .i64 uk, .bool ub, .int .i64 ui, .string us, .slice ual unl ucl, .slice uam unm ucm, .bool false, .slice none 0 0] 76)
      have hz4 := alloc_size w3 (.cells #[.int .i64 fk, .string fn, .slice fma fml fmc, .int .i64 uk, .bool ub, .int .i64 ui, .string us, .slice ual unl ucl, .slice uam unm ucm, .bool false, .slice none 0 0] 76)
      have hT4 := (b4.block T (by omega)).trans hT3
      have nb4 := (b4.block w.heap.size (by omega)).trans nb3
      have B4 : Below w.heap.size w (w3.alloc (.cells #[.int .i64 fk, .string fn, .slice fma fml fmc, .int .i64 uk, .bool ub, .int .i64 ui, .string us, .slice ual unl ucl, .slice uam unm ucm, .bool false, .slice none 0 0] 76)) := B3.trans (b4.mono (by omega))
      go_simp
      refine hK.out _ _ nb4 (fun hHeld => ?_)
      clear hK K
      (try simp only [Act.put, List.setIfInBounds_toArray, List.set_cons_zero, List.set_cons_succ])
      obtain ⟨nd, hnd⟩ : ∃ nd, w3.heap.size = nd := ⟨_, rfl⟩
      rw [hnd] at n4 hz4 b4 ⊢
      generalize (w3.alloc (.cells #[.int .i64 fk, .string fn, .slice fma fml fmc, .int .i64 uk, .bool ub, .int .i64 ui, .string us, .slice ual unl ucl, .slice uam unm ucm, .bool false, .slice none 0 0] 76)) = w4 at *
      refine wpAnyH_ready (rs := [10]) (by kernel_rfl) (by simp) ?_
      refine AllReadyH.cons rfl (fun K hK => ?_) AllReadyH.nil
      have b5 : Below w4.heap.size w4 (w4.alloc (.cells #[.pointer (some ⟨nd, 0, none⟩)] 79)) := (Below.refl _ w4).alloc (Nat.le_refl _) _
      have n5 := heap_alloc_new w4 (.cells #[.pointer (some ⟨nd, 0, none⟩)] 79)
      rw [hz4] at n5
      have hz5 := alloc_size w4 (.cells #[.pointer (some ⟨nd, 0, none⟩)] 79)
      have hT5 := (b5.block T (by omega)).trans hT4
      have nb5 := (b5.block w.heap.size (by omega)).trans nb4
      have n45 := (b5.block nd (by omega)).trans n4
      have k5 : (w4.alloc (.cells #[.pointer (some ⟨nd, 0, none⟩)] 79)).cell? ⟨nd + 1, 0, none⟩ = some (.pointer (some ⟨nd, 0, none⟩)) := by rw [cell_of_block n5]; rfl
      have B5 : Below w.heap.size w (w4.alloc (.cells #[.pointer (some ⟨nd, 0, none⟩)] 79)) := B4.trans (b5.mono (by omega))
      have INS := hmk (insertn_any (.pointer (some ⟨nd, 0, none⟩)) rfl (nd + 1) _ k5)
      go_simp
      refine hK.out _ _ nb5 (fun hHeld => ?_)
      clear hK K
      (try simp only [Act.put, List.setIfInBounds_toArray, List.set_cons_zero, List.set_cons_succ])
      generalize (w4.alloc (.cells #[.pointer (some ⟨nd, 0, none⟩)] 79)) = w5 at *
      refine wpAnyH_ready (rs := [11]) (by kernel_rfl) (by simp) ?_
      refine AllReadyH.cons rfl (fun K hK => ?_) AllReadyH.nil
      go_simp
      refine INS.out.mono ?_
      rintro e w6 ⟨r, rfl, o6, b6⟩
      have hz6 := b6.size
      rcases own_form o6 with ⟨_, h⟩ | ⟨g, cap, rfl⟩
      · omega
      have hof := own_facts o6
      have og : w6.cell? ⟨g, 0, none⟩ = some (.pointer (some ⟨nd, 0, none⟩)) := own_cell o6 (j := 0) rfl
      obtain ⟨arr, hga⟩ : ∃ arr, w6.heap[g]? = some (.cells arr 79 (0, 0)) := by
        rcases o6.2 with ⟨h, _⟩ | ⟨g', cap', cur, e, _, hb, _⟩
        · cases h
        · cases e; exact ⟨cur, hb⟩
      have hT6 := (b6.block T (by omega)).trans hT5
      have nb6 := (b6.block w.heap.size (by omega)).trans nb5
      have n46 := (b6.block nd (by omega)).trans n45
      have B6 : Below w.heap.size w w6 := B5.trans (b6.mono (by omega))
      clear o6 INS
      go_wp2_with fail
      refine hK.out _ _ nb6 (fun hHeld => ?_)
      clear hK K
      (try simp only [Act.put, List.setIfInBounds_toArray, List.set_cons_zero, List.set_cons_succ])
      refine wpAnyH_ready (rs := [12]) (by kernel_rfl) (by simp) ?_
      refine AllReadyH.cons rfl (fun K hK => ?_) AllReadyH.nil
      go_simp
      refine hK.out _ _ nb6 (fun hHeld => ?_)
      clear hK K
      (try simp only [Act.put, List.setIfInBounds_toArray, List.set_cons_zero, List.set_cons_succ])
      refine wpAnyH_ready (rs := [13]) (by kernel_rfl) (by simp) ?_
      refine AllReadyH.cons rfl (fun K hK => ?_) AllReadyH.nil
      go_simp
      refine hK.out _ _ nb6 (fun hHeld => ?_)
      clear hK K
      (try simp only [Act.put, List.setIfInBounds_toArray, List.set_cons_zero, List.set_cons_succ])
      have k6 : w6.cell? ⟨T, 10, none⟩ = some (.slice none 0 0) := by rw [cell_of_block hT6]; rfl
      have f6 := frozen_of_block hT6
      have hgT : g ≠ T := by omega
      have hndT : nd ≠ T := by omega
      have hT7 : (w6.setCell ⟨T, 10, none⟩ (.slice (some ⟨g, 0, none⟩) 1 cap)).heap[T]? = some (.cells #[c0, c1, c2, c3, c4, c5, c6, c7, c8, .bool false, .slice (some ⟨g, 0, none⟩) 1 cap, cn] 78 (0, 0)) := by rw [set_block hT6]; rfl
      have o7 : ∀ z, z ≠ T → (w6.setCell ⟨T, 10, none⟩ (.slice (some ⟨g, 0, none⟩) 1 cap)).heap[z]? = w6.heap[z]? := fun z hz => set_other hz
      have z7 : (w6.setCell ⟨T, 10, none⟩ (.slice (some ⟨g, 0, none⟩) 1 cap)).heap.size = w6.heap.size := size_set1 _ _ _ _
      refine wpAnyH_ready (rs := [14]) (by kernel_rfl) (by simp) ?_
      refine AllReadyH.cons rfl (fun K hK => ?_) AllReadyH.nil
      go_simp
      refine hK.out _ _ ((o7 _ (by omega)).trans nb6) (fun hHeld => ?_)
      clear hK K
      (try simp only [Act.put, List.setIfInBounds_toArray, List.set_cons_zero, List.set_cons_succ])
      refine wpAnyH_done (by kernel_rfl) ?_ _
      (try dsimp only [Act.put, List.getElem_toArray, List.getElem_cons_succ, List.getElem_cons_zero, List.setIfInBounds_toArray, List.set_cons_zero, List.set_cons_succ])
      have G7 : w.grownBy (w6.setCell ⟨T, 10, none⟩ (.slice (some ⟨g, 0, none⟩) 1 cap)) (some T) := grown_set ⟨B6.os, B6.tape, B6.output, B6.size, fun k hk _ => B6.block k hk⟩ 10 _
      have g7 := (o7 g hgT).trans hga
      have n7 := (o7 nd hndT).trans n46
      have ar0 : arr[0]? = some (.pointer (some ⟨nd, 0, none⟩)) := by rw [cell_of_block hga] at og; exact og
      clear hHeld o7 hT6 nb6 k6 f6 hga n46 og
      generalize (w6.setCell ⟨T, 10, none⟩ (.slice (some ⟨g, 0, none⟩) 1 cap)) = w7 at *
      have q10 : w7.cell? ⟨T, 10, none⟩ = some (.slice (some ⟨g, 0, none⟩) 1 cap) := by rw [cell_of_block hT7]; rfl
      have qg : w7.cell? ⟨g, 0, none⟩ = some (.pointer (some ⟨nd, 0, none⟩)) := by rw [cell_of_block g7]; exact ar0
      go_wp2_with fail
      go_ret
      exact ⟨g, nd, rfl, ⟨⟨_, _, _, _, _, _, _, _, _, _, cap, hT7, hof.2.2.1, hof.2.2.2, rfl⟩, ⟨arr, g7, ar0⟩, ⟨_, _, _, _, _, _, _, _, _, _, _, _, _, _, _, n7⟩⟩, by omega, by omega, by omega, G7⟩
    · go_simp
      refine hK.out _ _ nb3 (fun hHeld => ?_)
      clear hK K
      (try simp only [Act.put, List.setIfInBounds_toArray, List.set_cons_zero, List.set_cons_succ])
      refine wpAnyH_ready (rs := [4, 9]) (by kernel_rfl) (by simp) ?_
      refine AllReadyH.cons rfl (fun K hK => ?_) (AllReadyH.cons rfl (fun K hK => ?_) AllReadyH.nil)
      · have k10 : w3.cell? ⟨T, 10, none⟩ = some (.slice none 0 0) := by (show w3.cell? ⟨T, 10, none⟩ = some (.slice none 0 0); rw [cell_of_block hT3]; rfl)
        go_simp
        refine hK.out _ _ nb3 (fun hHeld => ?_)
        clear hK K
        (try simp only [Act.put, List.setIfInBounds_toArray, List.set_cons_zero, List.set_cons_succ])
        clear k10
        refine wpAnyH_ready (rs := [9]) (by kernel_rfl) (by simp) ?_
        refine AllReadyH.cons rfl (fun K hK => ?_) AllReadyH.nil
        have b4 : Below w3.heap.size w3 (w3.alloc (.cells #[.int .i64 fk, .string fn, .slice fma fml fmc, .int .i64 uk, .bool ub, .int .i64 ui, .string us, .slice ual unl ucl, .slice uam unm ucm, .bool false, .slice none 0 0] 76)) := (Below.refl _ w3).alloc (Nat.le_refl _) _
        have n4 := heap_alloc_new w3 (.cells #[.int .i64 fk, .string fn, .slice fma fml fmc, .int .i64 uk, .bool ub, .int .i64 ui, .string us, .slice ual unl ucl, .slice uam unm ucm, .bool false, .slice none 0 0] 76)
        have hz4 := alloc_size w3 (.cells #[.int .i64 fk, .string fn, .slice fma fml fmc, .int .i64 uk, .bool ub, .int .i64 ui, .string us, .slice ual unl ucl, .slice uam unm ucm, .bool false, .slice none 0 0] 76)
        have hT4 := (b4.block T (by omega)).trans hT3
        have nb4 := (b4.block w.heap.size (by omega)).trans nb3
        have B4 : Below w.heap.size w (w3.alloc (.cells #[.int .i64 fk, .string fn, .slice fma fml fmc, .int .i64 uk, .bool ub, .int .i64 ui, .string us, .slice ual unl ucl, .slice uam unm ucm, .bool false, .slice none 0 0] 76)) := B3.trans (b4.mono (by omega))
        go_simp
        refine hK.out _ _ nb4 (fun hHeld => ?_)
        clear hK K
        (try simp only [Act.put, List.setIfInBounds_toArray, List.set_cons_zero, List.set_cons_succ])
        obtain ⟨nd, hnd⟩ : ∃ nd, w3.heap.size = nd := ⟨_, rfl⟩
        rw [hnd] at n4 hz4 b4 ⊢
        generalize (w3.alloc (.cells #[.int .i64 fk, .string fn, .slice fma fml fmc, .int .i64 uk, .bool ub, .int .i64 ui, .string us, .slice ual unl ucl, .slice uam unm ucm, .bool false, .slice none 0 0] 76)) = w4 at *
        refine wpAnyH_ready (rs := [10]) (by kernel_rfl) (by simp) ?_
        refine AllReadyH.cons rfl (fun K hK => ?_) AllReadyH.nil
        have b5 : Below w4.heap.size w4 (w4.alloc (.cells #[.pointer (some ⟨nd, 0, none⟩)] 79)) := (Below.refl _ w4).alloc (Nat.le_refl _) _
        have n5 := heap_alloc_new w4 (.cells #[.pointer (some ⟨nd, 0, none⟩)] 79)
        rw [hz4] at n5
        have hz5 := alloc_size w4 (.cells #[.pointer (some ⟨nd, 0, none⟩)] 79)
        have hT5 := (b5.block T (by omega)).trans hT4
        have nb5 := (b5.block w.heap.size (by omega)).trans nb4
        have n45 := (b5.block nd (by omega)).trans n4
        have k5 : (w4.alloc (.cells #[.pointer (some ⟨nd, 0, none⟩)] 79)).cell? ⟨nd + 1, 0, none⟩ = some (.pointer (some ⟨nd, 0, none⟩)) := by rw [cell_of_block n5]; rfl
        have B5 : Below w.heap.size w (w4.alloc (.cells #[.pointer (some ⟨nd, 0, none⟩)] 79)) := B4.trans (b5.mono (by omega))
        have INS := hmk (insertn_any (.pointer (some ⟨nd, 0, none⟩)) rfl (nd + 1) _ k5)
        go_simp
        refine hK.out _ _ nb5 (fun hHeld => ?_)
        clear hK K
        (try simp only [Act.put, List.setIfInBounds_toArray, List.set_cons_zero, List.set_cons_succ])
        generalize (w4.alloc (.cells #[.pointer (some ⟨nd, 0, none⟩)] 79)) = w5 at *
        refine wpAnyH_ready (rs := [11]) (by kernel_rfl) (by simp) ?_
        refine AllReadyH.cons rfl (fun K hK => ?_) AllReadyH.nil
        go_simp
        refine INS.out.mono ?_
        rintro e w6 ⟨r, rfl, o6, b6⟩
        have hz6 := b6.size
        rcases own_form o6 with ⟨_, h⟩ | ⟨g, cap, rfl⟩
        · omega
        have hof := own_facts o6
        have og : w6.cell? ⟨g, 0, none⟩ = some (.pointer (some ⟨nd, 0, none⟩)) := own_cell o6 (j := 0) rfl
        obtain ⟨arr, hga⟩ : ∃ arr, w6.heap[g]? = some (.cells arr 79 (0, 0)) := by
          rcases o6.2 with ⟨h, _⟩ | ⟨g', cap', cur, e, _, hb, _⟩
          · cases h
          · cases e; exact ⟨cur, hb⟩
        have hT6 := (b6.block T (by omega)).trans hT5
        have nb6 := (b6.block w.heap.size (by omega)).trans nb5
        have n46 := (b6.block nd (by omega)).trans n45
        have B6 : Below w.heap.size w w6 := B5.trans (b6.mono (by omega))
        clear o6 INS
        go_wp2_with fail
        refine hK.out _ _ nb6 (fun hHeld => ?_)
        clear hK K
        (try simp only [Act.put, List.setIfInBounds_toArray, List.set_cons_zero, List.set_cons_succ])
        refine wpAnyH_ready (rs := [12]) (by kernel_rfl) (by simp) ?_
        refine AllReadyH.cons rfl (fun K hK => ?_) AllReadyH.nil
        go_simp
        refine hK.out _ _ nb6 (fun hHeld => ?_)
        clear hK K
        (try simp only [Act.put, List.setIfInBounds_toArray, List.set_cons_zero, List.set_cons_succ])
        refine wpAnyH_ready (rs := [13]) (by kernel_rfl) (by simp) ?_
        refine AllReadyH.cons rfl (fun K hK => ?_) AllReadyH.nil
        go_simp
        refine hK.out _ _ nb6 (fun hHeld => ?_)
        clear hK K
        (try simp only [Act.put, List.setIfInBounds_toArray, List.set_cons_zero, List.set_cons_succ])
        have k6 : w6.cell? ⟨T, 10, none⟩ = some (.slice none 0 0) := by rw [cell_of_block hT6]; rfl
        have f6 := frozen_of_block hT6
        have hgT : g ≠ T := by omega
        have hndT : nd ≠ T := by omega
        have hT7 : (w6.setCell ⟨T, 10, none⟩ (.slice (some ⟨g, 0, none⟩) 1 cap)).heap[T]? = some (.cells #[c0, c1, c2, c3, c4, c5, c6, c7, c8, .bool false, .slice (some ⟨g, 0, none⟩) 1 cap, cn] 78 (0, 0)) := by rw [set_block hT6]; rfl
        have o7 : ∀ z, z ≠ T → (w6.setCell ⟨T, 10, none⟩ (.slice (some ⟨g, 0, none⟩) 1 cap)).heap[z]? = w6.heap[z]? := fun z hz => set_other hz
        have z7 : (w6.setCell ⟨T, 10, none⟩ (.slice (some ⟨g, 0, none⟩) 1 cap)).heap.size = w6.heap.size := size_set1 _ _ _ _
        refine wpAnyH_ready (rs := [14]) (by kernel_rfl) (by simp) ?_
        refine AllReadyH.cons rfl (fun K hK => ?_) AllReadyH.nil
        go_simp
        refine hK.out _ _ ((o7 _ (by omega)).trans nb6) (fun hHeld => ?_)
        clear hK K
        (try simp only [Act.put, List.setIfInBounds_toArray, List.set_cons_zero, List.set_cons_succ])
        refine wpAnyH_done (by kernel_rfl) ?_ _
        (try dsimp only [Act.put, List.getElem_toArray, List.getElem_cons_succ, List.getElem_cons_zero, List.setIfInBounds_toArray, List.set_cons_zero, List.set_cons_succ])
        have G7 : w.grownBy (w6.setCell ⟨T, 10, none⟩ (.slice (some ⟨g, 0, none⟩) 1 cap)) (some T) := grown_set ⟨B6.os, B6.tape, B6.output, B6.size, fun k hk _ => B6.block k hk⟩ 10 _
        have g7 := (o7 g hgT).trans hga
        have n7 := (o7 nd hndT).trans n46
        have ar0 : arr[0]? = some (.pointer (some ⟨nd, 0, none⟩)) := by rw [cell_of_block hga] at og; exact og
        clear hHeld o7 hT6 nb6 k6 f6 hga n46 og
        generalize (w6.setCell ⟨T, 10, none⟩ (.slice (some ⟨g, 0, none⟩) 1 cap)) = w7 at *
        have q10 : w7.cell? ⟨T, 10, none⟩ = some (.slice (some ⟨g, 0, none⟩) 1 cap) := by rw [cell_of_block hT7]; rfl
        have qg : w7.cell? ⟨g, 0, none⟩ = some (.pointer (some ⟨nd, 0, none⟩)) := by rw [cell_of_block g7]; exact ar0
        go_wp2_with fail
        go_ret
        exact ⟨g, nd, rfl, ⟨⟨_, _, _, _, _, _, _, _, _, _, cap, hT7, hof.2.2.1, hof.2.2.2, rfl⟩, ⟨arr, g7, ar0⟩, ⟨_, _, _, _, _, _, _, _, _, _, _, _, _, _, _, n7⟩⟩, by omega, by omega, by omega, G7⟩
      · have b4 : Below w3.heap.size w3 (w3.alloc (.cells #[.int .i64 fk, .string fn, .slice fma fml fmc, .int .i64 uk, .bool ub, .int .i64 ui, .string us, .slice ual unl ucl, .slice uam unm ucm, .bool false, .slice none 0 0] 76)) := (Below.refl _ w3).alloc (Nat.le_refl _) _
        have n4 := heap_alloc_new w3 (.cells #[.int .i64 fk, .string fn, .slice fma fml fmc, .int .i64 uk, .bool ub, .int .i64 ui, .string us, .slice ual unl ucl, .slice uam unm ucm, .bool false, .slice none 0 0] 76)
        have hz4 := alloc_size w3 (.cells #[.int .i64 fk, .string fn, .slice fma fml fmc, .int .i64 uk, .bool ub, .int .i64 ui, .string us, .slice ual unl ucl, .slice uam unm ucm, .bool false, .slice none 0 0] 76)
        have hT4 := (b4.block T (by omega)).trans hT3
        have nb4 := (b4.block w.heap.size (by omega)).trans nb3
        have B4 : Below w.heap.size w (w3.alloc (.cells #[.int .i64 fk, .string fn, .slice fma fml fmc, .int .i64 uk, .bool ub, .int .i64 ui, .string us, .slice ual unl ucl, .slice uam unm ucm, .bool false, .slice none 0 0] 76)) := B3.trans (b4.mono (by omega))
        go_simp
        refine hK.out _ _ nb4 (fun hHeld => ?_)
        clear hK K
        (try simp only [Act.put, List.setIfInBounds_toArray, List.set_cons_zero, List.set_cons_succ])
        obtain ⟨nd, hnd⟩ : ∃ nd, w3.heap.size = nd := ⟨_, rfl⟩
        rw [hnd] at n4 hz4 b4 ⊢
        generalize (w3.alloc (.cells #[.int .i64 fk, .string fn, .slice fma fml fmc, .int .i64 uk, .bool ub, .int .i64 ui, .string us, .slice ual unl ucl, .slice uam unm ucm, .bool false, .slice none 0 0] 76)) = w4 at *
        refine wpAnyH_ready (rs := [4, 10]) (by kernel_rfl) (by simp) ?_
        refine AllReadyH.cons rfl (fun K hK => ?_) (AllReadyH.cons rfl (fun K hK => ?_) AllReadyH.nil)
        · have k10 : w4.cell? ⟨T, 10, none⟩ = some (.slice none 0 0) := by (show w4.cell? ⟨T, 10, none⟩ = some (.slice none 0 0); rw [cell_of_block hT4]; rfl)
          go_simp
          refine hK.out _ _ nb4 (fun hHeld => ?_)
          clear hK K
          (try simp only [Act.put, List.setIfInBounds_toArray, List.set_cons_zero, List.set_cons_succ])
          clear k10
          refine wpAnyH_ready (rs := [10]) (by kernel_rfl) (by simp) ?_
          refine AllReadyH.cons rfl (fun K hK => ?_) AllReadyH.nil
          have b5 : Below w4.heap.size w4 (w4.alloc (.cells #[.pointer (some ⟨nd, 0, none⟩)] 79)) := (Below.refl _ w4).alloc (Nat.le_refl _) _
          have n5 := heap_alloc_new w4 (.cells #[.pointer (some ⟨nd, 0, none⟩)] 79)
          rw [hz4] at n5
          have hz5 := alloc_size w4 (.cells #[.pointer (some ⟨nd, 0, none⟩)] 79)
          have hT5 := (b5.block T (by omega)).trans hT4
          have nb5 := (b5.block w.heap.size (by omega)).trans nb4
          have n45 := (b5.block nd (by omega)).trans n4
          have k5 : (w4.alloc (.cells #[.pointer (some ⟨nd, 0, none⟩)] 79)).cell? ⟨nd + 1, 0, none⟩ = some (.pointer (some ⟨nd, 0, none⟩)) := by rw [cell_of_block n5]; rfl
          have B5 : Below w.heap.size w (w4.alloc (.cells #[.pointer (some ⟨nd, 0, none⟩)] 79)) := B4.trans (b5.mono (by omega))
          have INS := hmk (insertn_any (.pointer (some ⟨nd, 0, none⟩)) rfl (nd + 1) _ k5)
          go_simp
          refine hK.out _ _ nb5 (fun hHeld => ?_)
          clear hK K
          (try simp only [Act.put, List.setIfInBounds_toArray, List.set_cons_zero, List.set_cons_succ])
          generalize (w4.alloc (.cells #[.pointer (some ⟨nd, 0, none⟩)] 79)) = w5 at *
          refine wpAnyH_ready (rs := [11]) (by kernel_rfl) (by simp) ?_
          refine AllReadyH.cons rfl (fun K hK => ?_) AllReadyH.nil
          go_simp
          refine INS.out.mono ?_
          rintro e w6 ⟨r, rfl, o6, b6⟩
          have hz6 := b6.size
          rcases own_form o6 with ⟨_, h⟩ | ⟨g, cap, rfl⟩
          · omega
          have hof := own_facts o6
          have og : w6.cell? ⟨g, 0, none⟩ = some (.pointer (some ⟨nd, 0, none⟩)) := own_cell o6 (j := 0) rfl
          obtain ⟨arr, hga⟩ : ∃ arr, w6.heap[g]? = some (.cells arr 79 (0, 0)) := by
            rcases o6.2 with ⟨h, _⟩ | ⟨g', cap', cur, e, _, hb, _⟩
            · cases h
            · cases e; exact ⟨cur, hb⟩
          have hT6 := (b6.block T (by omega)).trans hT5
          have nb6 := (b6.block w.heap.size (by omega)).trans nb5
          have n46 := (b6.block nd (by omega)).trans n45
          have B6 : Below w.heap.size w w6 := B5.trans (b6.mono (by omega))
          clear o6 INS
          go_wp2_with fail
          refine hK.out _ _ nb6 (fun hHeld => ?_)
          clear hK K
          (try simp only [Act.put, List.setIfInBounds_toArray, List.set_cons_zero, List.set_cons_succ])
          refine wpAnyH_ready (rs := [12]) (by kernel_rfl) (by simp) ?_
          refine AllReadyH.cons rfl (fun K hK => ?_) AllReadyH.nil
          go_simp
          refine hK.out _ _ nb6 (fun hHeld => ?_)
          clear hK K
          (try simp only [Act.put, List.setIfInBounds_toArray, List.set_cons_zero, List.set_cons_succ])
          refine wpAnyH_ready (rs := [13]) (by kernel_rfl) (by simp) ?_
          refine AllReadyH.cons rfl (fun K hK => ?_) AllReadyH.nil
          go_simp
          refine hK.out _ _ nb6 (fun hHeld => ?_)
          clear hK K
          (try simp only [Act.put, List.setIfInBounds_toArray, List.set_cons_zero, List.set_cons_succ])
          have k6 : w6.cell? ⟨T, 10, none⟩ = some (.slice none 0 0) := by rw [cell_of_block hT6]; rfl
          have f6 := frozen_of_block hT6
          have hgT : g ≠ T := by omega
          have hndT : nd ≠ T := by omega
          have hT7 : (w6.setCell ⟨T, 10, none⟩ (.slice (some ⟨g, 0, none⟩) 1 cap)).heap[T]? = some (.cells #[c0, c1, c2, c3, c4, c5, c6, c7, c8, .bool false, .slice (some ⟨g, 0, none⟩) 1 cap, cn] 78 (0, 0)) := by rw [set_block hT6]; rfl
          have o7 : ∀ z, z ≠ T → (w6.setCell ⟨T, 10, none⟩ (.slice (some ⟨g, 0, none⟩) 1 cap)).heap[z]? = w6.heap[z]? := fun z hz => set_other hz
          have z7 : (w6.setCell ⟨T, 10, none⟩ (.slice (some ⟨g, 0, none⟩) 1 cap)).heap.size = w6.heap.size := size_set1 _ _ _ _
          refine wpAnyH_ready (rs := [14]) (by kernel_rfl) (by simp) ?_
          refine AllReadyH.cons rfl (fun K hK => ?_) AllReadyH.nil
          go_simp
          refine hK.out _ _ ((o7 _ (by omega)).trans nb6) (fun hHeld => ?_)
          clear hK K
          (try simp only [Act.put, List.setIfInBounds_toArray, List.set_cons_zero, List.set_cons_succ])
          refine wpAnyH_done (by kernel_rfl) ?_ _
          (try dsimp only [Act.put, List.getElem_toArray, List.getElem_cons_succ, List.getElem_cons_zero, List.setIfInBounds_toArray, List.set_cons_zero, List.set_cons_succ])
          have G7 : w.grownBy (w6.setCell ⟨T, 10, none⟩ (.slice (some ⟨g, 0, none⟩) 1 cap)) (some T) := grown_set ⟨B6.os, B6.tape, B6.output, B6.size, fun k hk _ => B6.block k hk⟩ 10 _
          have g7 := (o7 g hgT).trans hga
          have n7 := (o7 nd hndT).trans n46
          have ar0 : arr[0]? = some (.pointer (some ⟨nd, 0, none⟩)) := by rw [cell_of_block hga] at og; exact og
          clear hHeld o7 hT6 nb6 k6 f6 hga n46 og
          generalize (w6.setCell ⟨T, 10, none⟩ (.slice (some ⟨g, 0, none⟩) 1 cap)) = w7 at *
          have q10 : w7.cell? ⟨T, 10, none⟩ = some (.slice (some ⟨g, 0, none⟩) 1 cap) := by rw [cell_of_block hT7]; rfl
          have qg : w7.cell? ⟨g, 0, none⟩ = some (.pointer (some ⟨nd, 0, none⟩)) := by rw [cell_of_block g7]; exact ar0
          go_wp2_with fail
          go_ret
          exact ⟨g, nd, rfl, ⟨⟨_, _, _, _, _, _, _, _, _, _, cap, hT7, hof.2.2.1, hof.2.2.2, rfl⟩, ⟨arr, g7, ar0⟩, ⟨_, _, _, _, _, _, _, _, _, _, _, _, _, _, _, n7⟩⟩, by omega, by omega, by omega, G7⟩
        · have b5 : Below w4.heap.size w4 (w4.alloc (.cells #[.pointer (some ⟨nd, 0, none⟩)] 79)) := (Below.refl _ w4).alloc (Nat.le_refl _) _
          have n5 := heap_alloc_new w4 (.cells #[.pointer (some ⟨nd, 0, none⟩)] 79)
          rw [hz4] at n5
          have hz5 := alloc_size w4 (.cells #[.pointer (some ⟨nd, 0, none⟩)] 79)
          have hT5 := (b5.block T (by omega)).trans hT4
          have nb5 := (b5.block w.heap.size (by omega)).trans nb4
          have n45 := (b5.block nd (by omega)).trans n4
          have k5 : (w4.alloc (.cells #[.pointer (some ⟨nd, 0, none⟩)] 79)).cell? ⟨nd + 1, 0, none⟩ = some (.pointer (some ⟨nd, 0, none⟩)) := by rw [cell_of_block n5]; rfl
          have B5 : Below w.heap.size w (w4.alloc (.cells #[.pointer (some ⟨nd, 0, none⟩)] 79)) := B4.trans (b5.mono (by omega))
          have INS := hmk (insertn_any (.pointer (some ⟨nd, 0, none⟩)) rfl (nd + 1) _ k5)
          go_simp
          refine hK.out _ _ nb5 (fun hHeld => ?_)
          clear hK K
          (try simp only [Act.put, List.setIfInBounds_toArray, List.set_cons_zero, List.set_cons_succ])
          generalize (w4.alloc (.cells #[.pointer (some ⟨nd, 0, none⟩)] 79)) = w5 at *
          refine wpAnyH_ready (rs := [4]) (by kernel_rfl) (by simp) ?_
          refine AllReadyH.cons rfl (fun K hK => ?_) AllReadyH.nil
          have k10 : w5.cell? ⟨T, 10, none⟩ = some (.slice none 0 0) := by (show w5.cell? ⟨T, 10, none⟩ = some (.slice none 0 0); rw [cell_of_block hT5]; rfl)
          go_simp
          refine hK.out _ _ nb5 (fun hHeld => ?_)
          clear hK K
          (try simp only [Act.put, List.setIfInBounds_toArray, List.set_cons_zero, List.set_cons_succ])
          clear k10
          refine wpAnyH_ready (rs := [11]) (by kernel_rfl) (by simp) ?_
          refine AllReadyH.cons rfl (fun K hK => ?_) AllReadyH.nil
          go_simp
          refine INS.out.mono ?_
          rintro e w6 ⟨r, rfl, o6, b6⟩
          have hz6 := b6.size
          rcases own_form o6 with ⟨_, h⟩ | ⟨g, cap, rfl⟩
          · omega
          have hof := own_facts o6
          have og : w6.cell? ⟨g, 0, none⟩ = some (.pointer (some ⟨nd, 0, none⟩)) := own_cell o6 (j := 0) rfl
          obtain ⟨arr, hga⟩ : ∃ arr, w6.heap[g]? = some (.cells arr 79 (0, 0)) := by
            rcases o6.2 with ⟨h, _⟩ | ⟨g', cap', cur, e, _, hb, _⟩
            · cases h
            · cases e; exact ⟨cur, hb⟩
          have hT6 := (b6.block T (by omega)).trans hT5
          have nb6 := (b6.block w.heap.size (by omega)).trans nb5
          have n46 := (b6.block nd (by omega)).trans n45
          have B6 : Below w.heap.size w w6 := B5.trans (b6.mono (by omega))
          clear o6 INS
          go_wp2_with fail
          refine hK.out _ _ nb6 (fun hHeld => ?_)
          clear hK K
          (try simp only [Act.put, List.setIfInBounds_toArray, List.set_cons_zero, List.set_cons_succ])
          refine wpAnyH_ready (rs := [12]) (by kernel_rfl) (by simp) ?_
          refine AllReadyH.cons rfl (fun K hK => ?_) AllReadyH.nil
          go_simp
          refine hK.out _ _ nb6 (fun hHeld => ?_)
          clear hK K
          (try simp only [Act.put, List.setIfInBounds_toArray, List.set_cons_zero, List.set_cons_succ])
          refine wpAnyH_ready (rs := [13]) (by kernel_rfl) (by simp) ?_
          refine AllReadyH.cons rfl (fun K hK => ?_) AllReadyH.nil
          go_simp
          refine hK.out _ _ nb6 (fun hHeld => ?_)
          clear hK K
          (try simp only [Act.put, List.setIfInBounds_toArray, List.set_cons_zero, List.set_cons_succ])
          have k6 : w6.cell? ⟨T, 10, none⟩ = some (.slice none 0 0) := by rw [cell_of_block hT6]; rfl
          have f6 := frozen_of_block hT6
          have hgT : g ≠ T := by omega
          have hndT : nd ≠ T := by omega
          have hT7 : (w6.setCell ⟨T, 10, none⟩ (.slice (some ⟨g, 0, none⟩) 1 cap)).heap[T]? = some (.cells #[c0, c1, c2, c3, c4, c5, c6, c7, c8, .bool false, .slice (some ⟨g, 0, none⟩) 1 cap, cn] 78 (0, 0)) := by rw [set_block hT6]; rfl
          have o7 : ∀ z, z ≠ T → (w6.setCell ⟨T, 10, none⟩ (.slice (some ⟨g, 0, none⟩) 1 cap)).heap[z]? = w6.heap[z]? := fun z hz => set_other hz
          have z7 : (w6.setCell ⟨T, 10, none⟩ (.slice (some ⟨g, 0, none⟩) 1 cap)).heap.size = w6.heap.size := size_set1 _ _ _ _
          refine wpAnyH_ready (rs := [14]) (by kernel_rfl) (by simp) ?_
          refine AllReadyH.cons rfl (fun K hK => ?_) AllReadyH.nil
          go_simp
          refine hK.out _ _ ((o7 _ (by omega)).trans nb6) (fun hHeld => ?_)
          clear hK K
          (try simp only [Act.put, List.setIfInBounds_toArray, List.set_cons_zero, List.set_cons_succ])
          refine wpAnyH_done (by kernel_rfl) ?_ _
          (try dsimp only [Act.put, List.getElem_toArray, List.getElem_cons_succ, List.getElem_cons_zero, List.setIfInBounds_toArray, List.set_cons_zero, List.set_cons_succ])
          have G7 : w.grownBy (w6.setCell ⟨T, 10, none⟩ (.slice (some ⟨g, 0, none⟩) 1 cap)) (some T) := grown_set ⟨B6.os, B6.tape, B6.output, B6.size, fun k hk _ => B6.block k hk⟩ 10 _
          have g7 := (o7 g hgT).trans hga
          have n7 := (o7 nd hndT).trans n46
          have ar0 : arr[0]? = some (.pointer (some ⟨nd, 0, none⟩)) := by rw [cell_of_block hga] at og; exact og
          clear hHeld o7 hT6 nb6 k6 f6 hga n46 og
          generalize (w6.setCell ⟨T, 10, none⟩ (.slice (some ⟨g, 0, none⟩) 1 cap)) = w7 at *
          have q10 : w7.cell? ⟨T, 10, none⟩ = some (.slice (some ⟨g, 0, none⟩) 1 cap) := by rw [cell_of_block hT7]; rfl
          have qg : w7.cell? ⟨g, 0, none⟩ = some (.pointer (some ⟨nd, 0, none⟩)) := by rw [cell_of_block g7]; exact ar0
          go_wp2_with fail
          go_ret
          exact ⟨g, nd, rfl, ⟨⟨_, _, _, _, _, _, _, _, _, _, cap, hT7, hof.2.2.1, hof.2.2.2, rfl⟩, ⟨arr, g7, ar0⟩, ⟨_, _, _, _, _, _, _, _, _, _, _, _, _, _, _, n7⟩⟩, by omega, by omega, by omega, G7⟩
end Go.Proofs.YthlhkhcbkgbhfaaGreatDoor
