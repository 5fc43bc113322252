import Derived.Test.YtfekgeaopchilaaGreatDoorG34
/- leaves.copied of what two lists hold. -/
set_option linter.unusedSimpArgs false
set_option linter.unusedVariables false
namespace Go.Proofs.YtfekgeaopchilaaGreatDoor
open Go.RowKit Go.Lib
set_option maxHeartbeats 4000000 in
set_option maxRecDepth 100000 in
theorem copiedW_any (l : List Lf) (S : Nat → Prop) (al : Option Addr) (cl bl ol : Nat) (w : World) (hal : Headed al l.length cl bl ol) (hl : liesF w S l bl ol) (hS : ∀ b, S b → b < w.heap.size) (hwt : wtF l ≤ 4294967294) (tb : Tb w) (hok : ∀ x ∈ l, pathB x.1 = true ∧ okV x.2 = true) (hwx : ∀ x ∈ l, wtP x.1 ≤ 2147483647 ∧ x.2.wt ≤ 2147483647) :
    Calls Tryz.prog 34 #[.slice al l.length cl] w (TfPost l S w) := by
  have HL := hmk hl
  have HOK := hmk hok
  have HTB := hmk tb
  have hlm := wtF_len l
  clear hl hok tb
  go_enter Tryz.func34, Tryz.ntmps34
  go_wp2_with fail
  go_loopw [3, 8] (fun e3 e wr => ∃ j : Nat, j ≤ l.length ∧ e = .int .i64 (j : Int) ∧ OutF w S (l.take j) e3 wr) (fun _ e _ => l.length - (RowKit.intOf e).toNat)
  case atStart => exact ⟨0, by omega, rfl, by simpa using OutF.nil _ _⟩
  case round =>
    obtain ⟨j, hj, rfl, oj⟩ := hrel
    by_cases hjl : j < l.length
    case neg =>
      obtain rfl : j = l.length := by omega
      have y1 : ¬ (l.length : Int) < l.length := by omega
      rw [List.take_length] at oj
      obtain ⟨a, c, b, o, rfl, hd, hls⟩ := oj.list
      have HB := hmk oj.b
      have HLS := hmk hls
      clear oj hls
      go_wp2_with fail
      go_ret
      exact ⟨a, c, b, o, rfl, hd, HLS.out, HB.out⟩
    have y1 : (j : Int) < l.length := by omega
    obtain ⟨hSb, cs, hrow, v, is, rfl, ⟨ap, cp, bp, op, rfl, hh, hlp⟩, hv⟩ := HL.out j hjl
    obtain rfl : al = some ⟨bl, ol, none⟩ := hal.at_.resolve_left (by omega)
    have kb : Hid (∀ W, Below w.heap.size w W → (∀ b, S b → W.heap[b]? = w.heap[b]?) ∧ (∀ b, S b → b < W.heap.size)) := fun W hb => ⟨fun b h => hb.block b (hS b h), fun b h => Nat.lt_of_lt_of_le (hS b h) hb.size⟩
    have hwj := hwx l[j] (List.getElem_mem hjl)
    have HTP : Hid (l.take (j + 1) = l.take j ++ [((l[j]).1, (l[j]).2)]) := by show _ = _; rw [List.take_succ_eq_append_getElem hjl]
    obtain ⟨hpb, hov⟩ := HOK.out l[j] (List.getElem_mem hjl)
    generalize (l[j]).1 = p at *
    generalize (l[j]).2 = x at *
    have C39 : Hid (∀ W, Below w.heap.size w W → Calls Tryz.prog 39 #[.slice ap p.length cp] W (CyPost p W)) := fun W hb => by
      have h := copy_any p S ap cp bp op W hh (liesP_keep (kb.out W hb).1 (fun _ h => h) hlp) (kb.out W hb).2 (by omega)
      rw [anP_same hpb] at h
      exact h
    have C32 : Hid (∀ W, Below w.heap.size w W → Calls Tryz.prog 32 #[.agg is.toArray] W (AnPost x W)) := fun W hb => by
      have h := clone_any x false S is W (HTB.out.below hb HTB.out.z) (V.lies_keep (fun h => h) (kb.out W hb).1 (fun _ h => h) _ hv) (kb.out W hb).2 (by omega)
      rw [clnV_ok hov] at h
      exact h
    obtain ⟨vk, vb, vi, vs, val, vnl, vcl, vam, vnm, vcm, rfl⟩ := V.ten hv
    obtain ⟨q, q0, q1, q2, q3, q4, q5⟩ := row7 (hrow.keep ((kb.out wr oj.b).1 _ hSb))
    have HBX : Hid ((wr.alloc (.cells #[.slice ap p.length cp, .int .i64 vk, .bool vb, .int .i64 vi, .string vs, .slice val vnl vcl, .slice vam vnm vcm] 50)).heap[wr.heap.size]? = some (.cells #[.slice ap p.length cp, .int .i64 vk, .bool vb, .int .i64 vi, .string vs, .slice val vnl vcl, .slice vam vnm vcm] 50 (0, 0))) := heap_alloc_new wr _
    have ba : Below wr.heap.size wr (wr.alloc (.cells #[.slice ap p.length cp, .int .i64 vk, .bool vb, .int .i64 vi, .string vs, .slice val vnl vcl, .slice vam vnm vcm] 50)) := (Below.refl _ _).alloc (Nat.le_refl _) _
    have oa := oj.below ba
    have hown : ∀ r, u3.ownBlock = some r → r < wr.heap.size := fun r e => oj.lt e
    have hll : (l.take j).length = j := by simp; omega
    have hza := alloc_size wr (.cells #[.slice ap p.length cp, .int .i64 vk, .bool vb, .int .i64 vi, .string vs, .slice val vnl vcl, .slice vam vnm vcm] 50)
    clear hrow hlp hv oj ba
    go_wp2_with fail
    clear q q0 q1 q2 q3 q4 q5
    generalize wr.alloc (.cells #[.slice ap p.length cp, .int .i64 vk, .bool vb, .int .i64 vi, .string vs, .slice val vnl vcl, .slice vam vnm vcm] 50) = wa at *
    have BD : Hid (Below wa.heap.size wa wa.drew) := (Below.refl _ _).drew
    have NB : Hid (∀ W, Below wa.heap.size wa W → W.heap[wr.heap.size]? = some (.cells #[.slice ap p.length cp, .int .i64 vk, .bool vb, .int .i64 vi, .string vs, .slice val vnl vcl, .slice vam vnm vcm] 50 (0, 0))) := fun W hb => (hb.block _ (by omega)).trans HBX.out
    refine wp_region_held_drew (S := fun W => W.heap[wr.heap.size]? = some (.cells #[.slice ap p.length cp, .int .i64 vk, .bool vb, .int .i64 vi, .string vs, .slice val vnl vcl, .slice vam vnm vcm] 50 (0, 0))) (by kernel_rfl) (NB.out _ BD.out) (fun hHeld => ?_)
    (refine wpAnyH_take (i := 0) (v := ?_) rfl (by kernel_rfl) (by kernel_rfl) (by kernel_rfl) (fun _ _ _ h => h) (Or.inl ⟨by kernel_rfl, ?_⟩) (by assumption) ?_; rotate_left 1; (intro W0 hSw; (try dsimp only at hSw); go_simp; (try with_reducible rfl)); (try simp only [Act.put, List.setIfInBounds_toArray, List.set_cons_zero, List.set_cons_succ]))
    (refine wpAnyH_take (i := 1) (v := ?_) rfl (by kernel_rfl) (by kernel_rfl) (by kernel_rfl) (fun _ _ _ h => h) (Or.inl ⟨by kernel_rfl, ?_⟩) (by assumption) ?_; rotate_left 1; (intro W0 hSw; (try dsimp only at hSw); go_simp; (try with_reducible rfl)); (try simp only [Act.put, List.setIfInBounds_toArray, List.set_cons_zero, List.set_cons_succ]))
    (refine wpAnyH_take (i := 2) (v := ?_) rfl (by kernel_rfl) (by kernel_rfl) (by kernel_rfl) (fun _ _ _ h => h) (Or.inl ⟨by kernel_rfl, ?_⟩) (by assumption) ?_; rotate_left 1; (intro W0 hSw; have z0 : W0.cell? ⟨wr.heap.size, 0, none⟩ = some (.slice ap p.length cp) := by { rw [cell_of_block hSw]; rfl }; go_simp; (try with_reducible rfl)); (try simp only [Act.put, List.setIfInBounds_toArray, List.set_cons_zero, List.set_cons_succ]))
    (refine wpAnyH_take (i := 4) (v := ?_) rfl (by kernel_rfl) (by kernel_rfl) (by kernel_rfl) (fun _ _ _ h => h) (Or.inl ⟨by kernel_rfl, ?_⟩) (by assumption) ?_; rotate_left 1; (intro W0 hSw; (try dsimp only at hSw); go_simp; (try with_reducible rfl)); (try simp only [Act.put, List.setIfInBounds_toArray, List.set_cons_zero, List.set_cons_succ]))
    (refine wpAnyH_take (i := 5) (v := ?_) rfl (by kernel_rfl) (by kernel_rfl) (by kernel_rfl) (fun _ _ _ h => h) (Or.inl ⟨by kernel_rfl, ?_⟩) (by assumption) ?_; rotate_left 1; (intro W0 hSw; have z1 : W0.cell? ⟨wr.heap.size, 1, none⟩ = some (.int .i64 vk) := by { rw [cell_of_block hSw]; rfl }; have z2 : W0.cell? ⟨wr.heap.size, 2, none⟩ = some (.bool vb) := by { rw [cell_of_block hSw]; rfl }; have z3 : W0.cell? ⟨wr.heap.size, 3, none⟩ = some (.int .i64 vi) := by { rw [cell_of_block hSw]; rfl }; have z4 : W0.cell? ⟨wr.heap.size, 4, none⟩ = some (.string vs) := by { rw [cell_of_block hSw]; rfl }; have z5 : W0.cell? ⟨wr.heap.size, 5, none⟩ = some (.slice val vnl vcl) := by { rw [cell_of_block hSw]; rfl }; have z6 : W0.cell? ⟨wr.heap.size, 6, none⟩ = some (.slice vam vnm vcm) := by { rw [cell_of_block hSw]; rfl }; go_simp; (try with_reducible rfl)); (try simp only [Act.put, List.setIfInBounds_toArray, List.set_cons_zero, List.set_cons_succ]))
    refine wpAnyH_ready (rs := [3]) (by kernel_rfl) (by simp) ?_
    refine AllReadyH.cons rfl (fun K hK => ?_) AllReadyH.nil
    go_simp
    have od := oa.below BD.out
    refine (C39.out _ od.b).mono ?_
    rintro e w3 ⟨g3, rfl, l3, b3⟩
    have B3 : Below wa.heap.size wa w3 := BD.out.trans (b3.mono BD.out.size)
    have o3 := od.below b3
    go_wp2_with fail
    refine hK.out _ _ (NB.out _ B3) (fun hHeld => ?_)
    clear hK K
    (try simp only [Act.put, List.setIfInBounds_toArray, List.set_cons_zero, List.set_cons_succ])
    refine wpAnyH_ready (rs := [6]) (by kernel_rfl) (by simp) ?_
    refine AllReadyH.cons rfl (fun K hK => ?_) AllReadyH.nil
    go_simp
    refine (C32.out _ o3.b).mono ?_
    rintro e w4 ⟨csu, rfl, l4, b4⟩
    obtain ⟨uk, ub, ui, us, ual, unl, ucl, uam, unm, ucm, rfl⟩ := V.ten l4
    have B4 : Below wa.heap.size wa w4 := B3.trans (b4.mono B3.size)
    have o4 := o3.below b4
    go_wp2_with fail
    refine hK.out _ _ (NB.out _ B4) (fun hHeld => ?_)
    clear hK K
    (try simp only [Act.put, List.setIfInBounds_toArray, List.set_cons_zero, List.set_cons_succ])
    (refine wpAnyH_take (i := 7) (v := ?_) rfl (by kernel_rfl) (by kernel_rfl) (by kernel_rfl) (fun _ _ _ h => h) (Or.inl ⟨by kernel_rfl, ?_⟩) (by assumption) ?_; rotate_left 1; (intro W0 hSw; (try dsimp only at hSw); go_simp; (try with_reducible rfl)); (try simp only [Act.put, List.setIfInBounds_toArray, List.set_cons_zero, List.set_cons_succ]))
    refine wpAnyH_ready (rs := [8]) (by kernel_rfl) (by simp) ?_
    refine AllReadyH.cons rfl (fun K hK => ?_) AllReadyH.nil
    go_simp
    refine hK.out _ _ (NB.out _ (B4.alloc B4.size _)) (fun hHeld => ?_)
    clear hK K
    (try simp only [Act.put, List.setIfInBounds_toArray, List.set_cons_zero, List.set_cons_succ])
    have hl4 : Lf.lies w4 (fun b => wa.heap.size ≤ b ∧ b < w4.heap.size) (p, x) [.slice (some ⟨g3, 0, none⟩) p.length p.length, .int .i64 uk, .bool ub, .int .i64 ui, .string us, .slice ual unl ucl, .slice uam unm ucm] := ⟨_, _, rfl, ⟨_, _, g3, 0, rfl, ⟨Nat.le_refl _, (Nat.le_trans hh.le hh.max), .inr rfl, fun h => by cases h⟩, liesP_keep (fun b hb => b4.block b hb.2) (fun b hb => ⟨Nat.le_trans BD.out.size hb.1, Nat.lt_of_lt_of_le hb.2 b4.size⟩) l3⟩, V.lies_keep (fun h => h) (fun _ _ => rfl) (fun b hb => ⟨Nat.le_trans B3.size hb.1, hb.2⟩) _ l4⟩
    have hT : ∀ b, (wa.heap.size ≤ b ∧ b < w4.heap.size) → S b ∨ (w.heap.size ≤ b ∧ b < w4.heap.size ∧ some b ≠ u3.ownBlock) := fun b hb => .inr ⟨Nat.le_trans oa.b.size hb.1, hb.2, fun e => by have := hown b e.symm; have := hb.1; omega⟩
    refine wpAnyH_ready (rs := [9]) (by kernel_rfl) (by simp) ?_
    refine AllReadyH.cons rfl (fun K hK => ?_) AllReadyH.nil
    refine step_outF rfl (.tmp 12) (.tmp 20) rfl u3 rfl o4 hS hl4 hT 1 rfl (by rw [hll]; omega) ?_
    intro g5 cap w5 o5 gr5
    (try rw [hll] at o5)
    (try rw [hll])
    rw [← HTP.out] at o5
    have nb5 : w5.heap[wr.heap.size]? = some (.cells #[.slice ap p.length cp, .int .i64 vk, .bool vb, .int .i64 vi, .string vs, .slice val vnl vcl, .slice vam vnm vcm] 50 (0, 0)) := (gr5.block _ (by rw [alloc_size]; have := B4.size; omega) (fun e => by have := hown _ e.symm; omega)).trans (NB.out _ (B4.alloc B4.size _))
    refine hK.out _ _ nb5 (fun hHeld => ?_)
    clear hK K
    (try simp only [Act.put, List.setIfInBounds_toArray, List.set_cons_zero, List.set_cons_succ])
    first
      | (refine wpAnyH_take (i := 10) (v := ?_) rfl (by kernel_rfl) (by kernel_rfl) (by kernel_rfl) (fun _ _ _ h => h) (Or.inl ⟨by kernel_rfl, ?_⟩) (by assumption) ?_; rotate_left 1; (intro W0 hSw; (try dsimp only at hSw); go_simp; (try with_reducible rfl)); (try simp only [Act.put, List.setIfInBounds_toArray, List.set_cons_zero, List.set_cons_succ]))
      | (refine wpAnyH_ready (rs := [10]) (by kernel_rfl) (by simp) ?_; refine AllReadyH.cons rfl (fun K hK => ?_) AllReadyH.nil; go_simp; refine hK.out _ _ nb5 (fun hHeld => ?_); clear hK K; (try simp only [Act.put, List.setIfInBounds_toArray, List.set_cons_zero, List.set_cons_succ]))
    refine wpAnyH_done (by kernel_rfl) ?_ _
    (try dsimp only [Act.put, List.getElem_toArray, List.getElem_cons_succ, List.getElem_cons_zero, List.setIfInBounds_toArray, List.set_cons_zero, List.set_cons_succ])
    clear hHeld
    go_wp2_with fail
    go_roundw
    case rel => exact ⟨j + 1, by omega, by go_num, o5⟩
    case measure => simp [RowKit.intOf]; omega
end Go.Proofs.YtfekgeaopchilaaGreatDoor
