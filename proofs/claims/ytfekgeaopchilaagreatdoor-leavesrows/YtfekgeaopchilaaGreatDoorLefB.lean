import Derived.Test.YtfekgeaopchilaaGreatDoorG9
import Derived.Deep.RegionHeld3
/- Leaves: the law's twin. -/
set_option linter.unusedSimpArgs false
set_option linter.unusedVariables false
namespace Go.Proofs.YtfekgeaopchilaaGreatDoor
open Go.RowKit Go.Lib
/-- the leaf that was made, in a box of its own -/
structure TwE (wO : World) (S : Nat → Prop) (x : Lf) (cs : List Value) (G : Nat) (W : World) : Prop where
  b : Below wO.heap.size wO W
  n : W.heap[G]? = some (.cells cs.toArray 50)
  l : Lf.lies W (fun b => S b ∨ (wO.heap.size ≤ b ∧ b < W.heap.size ∧ b ≠ G)) x cs
  g : wO.heap.size ≤ G
theorem set7_block {w : World} {g : Nat} {c0 c1 c2 c3 c4 c5 c6 : Value} {t : TypeId} {f : Nat × Nat} (h : w.heap[g]? = some (.cells #[c0, c1, c2, c3, c4, c5, c6] t f)) (u0 u1 u2 u3 u4 u5 u6 : Value) :
    (((((((w.setCell ⟨g, 0, none⟩ u0).setCell ⟨g, 1, none⟩ u1).setCell ⟨g, 2, none⟩ u2).setCell ⟨g, 3, none⟩ u3).setCell ⟨g, 4, none⟩ u4).setCell ⟨g, 5, none⟩ u5).setCell ⟨g, 6, none⟩ u6).heap[g]? = some (.cells #[u0, u1, u2, u3, u4, u5, u6] t f) := by
  have n0 : (w.setCell ⟨g, 0, none⟩ u0).heap[g]? = some (.cells #[u0, c1, c2, c3, c4, c5, c6] t f) := by rw [set_block h]; rfl
  have n1 : ((w.setCell ⟨g, 0, none⟩ u0).setCell ⟨g, 1, none⟩ u1).heap[g]? = some (.cells #[u0, u1, c2, c3, c4, c5, c6] t f) := by rw [set_block n0]; rfl
  have n2 : (((w.setCell ⟨g, 0, none⟩ u0).setCell ⟨g, 1, none⟩ u1).setCell ⟨g, 2, none⟩ u2).heap[g]? = some (.cells #[u0, u1, u2, c3, c4, c5, c6] t f) := by rw [set_block n1]; rfl
  have n3 : ((((w.setCell ⟨g, 0, none⟩ u0).setCell ⟨g, 1, none⟩ u1).setCell ⟨g, 2, none⟩ u2).setCell ⟨g, 3, none⟩ u3).heap[g]? = some (.cells #[u0, u1, u2, u3, c4, c5, c6] t f) := by rw [set_block n2]; rfl
  have n4 : (((((w.setCell ⟨g, 0, none⟩ u0).setCell ⟨g, 1, none⟩ u1).setCell ⟨g, 2, none⟩ u2).setCell ⟨g, 3, none⟩ u3).setCell ⟨g, 4, none⟩ u4).heap[g]? = some (.cells #[u0, u1, u2, u3, u4, c5, c6] t f) := by rw [set_block n3]; rfl
  have n5 : ((((((w.setCell ⟨g, 0, none⟩ u0).setCell ⟨g, 1, none⟩ u1).setCell ⟨g, 2, none⟩ u2).setCell ⟨g, 3, none⟩ u3).setCell ⟨g, 4, none⟩ u4).setCell ⟨g, 5, none⟩ u5).heap[g]? = some (.cells #[u0, u1, u2, u3, u4, u5, c6] t f) := by rw [set_block n4]; rfl
  rw [set_block n5]; rfl
theorem st7_grown (W : World) (g : Nat) (v0 v1 v2 v3 v4 v5 v6 : Value) : W.grownBy (((((((W.setCell ⟨g, 0, none⟩ v0).setCell ⟨g, 1, none⟩ v1).setCell ⟨g, 2, none⟩ v2).setCell ⟨g, 3, none⟩ v3).setCell ⟨g, 4, none⟩ v4).setCell ⟨g, 5, none⟩ v5).setCell ⟨g, 6, none⟩ v6) (some g) :=
  grown_set (grown_set (grown_set (grown_set (grown_set (grown_set (grown_set (World.grownBy.refl _ _) _ _) _ _) _ _) _ _) _ _) _ _) _ _
/-- the box was there already -/
theorem TwE.of {wO W W' : World} {S T : Nat → Prop} {x : Lf} {cs : List Value} {G : Nat} (b : Below wO.heap.size wO W) (gr : W.grownBy W' (some G)) (n : W'.heap[G]? = some (.cells cs.toArray 50)) (g : wO.heap.size ≤ G) (hS : ∀ y, S y → y < wO.heap.size) (hl : Lf.lies W T x cs) (hT : ∀ y, T y → S y ∨ (wO.heap.size ≤ y ∧ y < W.heap.size ∧ y ≠ G)) : TwE wO S x cs G W' :=
  have hne : ∀ y, T y → y < W.heap.size ∧ y ≠ G := fun y hy => by
    rcases hT y hy with h | h
    · have h1 := hS y h
      have h2 := b.size
      exact ⟨by omega, by omega⟩
    · exact h.2
  ⟨b.grown gr b.size (fun r e => by cases e; exact g), n, Lf.keep (fun y hy => gr.block y (hne y hy).1 (fun e => (hne y hy).2 (Option.some.inj e))) (fun y hy => (hT y hy).imp id (fun h => ⟨h.1, Nat.lt_of_lt_of_le h.2.1 gr.size, h.2.2⟩)) hl, g⟩
/-- where the twin of leaves lies -/
def TfPost (l : List Lf) (S : Nat → Prop) (w : World) (e : Ending) (w' : World) : Prop := ∃ a c b o, e = .returned (.slice a l.length c) ∧ Headed a l.length c b o ∧ liesF w' (Tw S w w') l b o ∧ Below w.heap.size w w'
set_option maxHeartbeats 8000000 in
set_option maxRecDepth 100000 in
theorem twf_any (l : List Lf) (S : Nat → Prop) (al : Option Addr) (cl bl ol : Nat) (w : World) (hal : Headed al l.length cl bl ol) (hl : liesF w S l bl ol) (hS : ∀ b, S b → b < w.heap.size) (hwt : wtF l ≤ 2147483647) :
    Calls Tryz.prog 7 #[.slice al l.length cl] w (TfPost l S w) := by
  have HL := hmk hl
  have HS : Hid (∀ b, S b → b < w.heap.size) := hS
  clear hl
  have hlm := wtF_len l
  obtain ⟨i0, hi0, hz0, hz1, hz2⟩ := info_parts infoF
  have hI : Hid (Tryz.prog.info? 50 = some i0 ∧ i0.zero = some (.agg #[.slice none 0 0, .int .i64 0, .bool false, .int .i64 0, .string ⟨#[]⟩, .slice none 0 0, .slice none 0 0]) ∧ i0.size = 7 ∧ i0.bytes = 112) := ⟨hi0, hz0, hz1, hz2⟩
  clear hi0 hz0 hz1 hz2
  go_enter Tryz.func7, Tryz.ntmps7
  go_wp2_with fail
  go_loopw [3, 4] (fun e3 e wr => ∃ (j : Nat) (pv : Value) (SP : Nat → Prop), j ≤ l.length ∧ e = .int .i64 (j : Int) ∧ e3 = pv ∧ Below w.heap.size w wr ∧ OwnF wr 0 SP pv (l.take j) ∧ Hid (∀ r, pv.ownBlock = some r → w.heap.size ≤ r) ∧ Hid (∀ b, SP b → S b ∨ w.heap.size ≤ b)) (fun _ e _ => l.length - (RowKit.intOf e).toNat)
  case atStart => exact ⟨0, _, _, by omega, rfl, rfl, Below.refl _ _, by simpa using OwnR.nil _ _, fun r h => by simp [Value.ownBlock] at h, fun b (h : False) => h.elim⟩
  case round =>
    obtain ⟨j, pv, SP, hj, rfl, rfl, bO, oO, HO, HSP⟩ := hrel
    rename World => wO
    have hzO := bO.size
    by_cases hjl : j < l.length
    case neg =>
      obtain rfl : j = l.length := by omega
      have y3 : ¬ (l.length : Int) < l.length := by omega
      rw [List.take_length] at oO
      obtain ⟨a, c, b, o, rfl, hd, hls⟩ := own_listF (T := Tw S w wO) oO (fun b hb => (HSP.out b hb).imp id (fun h => ⟨h, (oO.off b hb).2.1⟩)) (fun g hg => .inr ⟨HO.out g hg, (oO.lt hg).2⟩)
      have HLS := hmk hls
      clear oO hls
      go_wp2_with fail
      go_ret
      exact ⟨a, c, b, o, rfl, hd, HLS.out, bO⟩
    have y3 : (j : Int) < l.length := by omega
    obtain ⟨hSb, cs, hrow, v, is, rfl, ⟨ap, cp, bp, op, rfl, hh, hlp⟩, hv⟩ := HL.out j hjl
    obtain rfl : al = some ⟨bl, ol, none⟩ := hal.at_.resolve_left (by omega)
    have hwj := Lf.wt_path (List.getElem_mem hjl)
    have HTP : Hid (l.take (j + 1) = l.take j ++ [((l[j]).1, (l[j]).2)]) := by show _ = _; rw [List.take_succ_eq_append_getElem hjl]
    have kb : Hid (∀ W, Below wO.heap.size wO W → (∀ b, S b → W.heap[b]? = w.heap[b]?) ∧ (∀ b, S b → b < W.heap.size)) := fun W hb => ⟨fun b h => (hb.block b (Nat.lt_of_lt_of_le (HS.out b h) hzO)).trans (bO.block b (HS.out b h)), fun b h => Nat.lt_of_lt_of_le (Nat.lt_of_lt_of_le (HS.out b h) hzO) hb.size⟩
    generalize (l[j]).1 = p at *
    generalize (l[j]).2 = x at *
    have C12 : Hid (∀ W, Below wO.heap.size wO W → Calls Tryz.prog 12 #[.slice ap p.length cp] W (TqPost p S W)) := fun W hb => twp_any p S ap cp bp op W hh (liesP_keep (kb.out W hb).1 (fun _ h => h) hlp) (kb.out W hb).2 (by omega)
    have C26 : Hid (∀ W, Below wO.heap.size wO W → Calls Tryz.prog 26 #[.agg is.toArray, .int .i64 0] W (TvPost x S W)) := fun W hb => twv_any x 0 S is W (by omega) (by omega) (V.lies_keep (fun h => h) (kb.out W hb).1 (fun _ h => h) _ hv) (kb.out W hb).2 (by omega)
    obtain ⟨vk, vb, vi, vs, val, vnl, vcl, vam, vnm, vcm, rfl⟩ := V.ten hv
    have zb := Nat.lt_of_lt_of_le (HS.out _ hSb) hzO
    have HR : Hid (∀ W, Below wO.heap.size wO W → _) := fun W hb => row7 (hrow.keep ((kb.out W hb).1 _ hSb))
    have BD : Hid (Below wO.heap.size wO wO.drew) := (Below.refl _ _).drew
    clear hrow hv hlp
    go_wp2_with fail
    refine wp_region_held_drew (S := fun W => Below wO.heap.size wO W) (by kernel_rfl) BD.out (fun hHeld => ?_)
    (refine wpAnyH_take (i := 0) (v := ?_) rfl (by kernel_rfl) (by kernel_rfl) (by kernel_rfl) (fun _ _ _ h => h) (Or.inl ⟨by kernel_rfl, ?_⟩) (by assumption) ?_; rotate_left 1; (intro W0 hSw; (try dsimp only at hSw); go_simp; (try with_reducible rfl)); (try simp only [Act.put, List.setIfInBounds_toArray, List.set_cons_zero, List.set_cons_succ]))
    (refine wpAnyH_take (i := 1) (v := ?_) rfl (by kernel_rfl) (by kernel_rfl) (by kernel_rfl) (fun _ _ _ h => h) (Or.inl ⟨by kernel_rfl, ?_⟩) (by assumption) ?_; rotate_left 1; (intro W0 hSw; (try dsimp only at hSw); go_simp; (try with_reducible rfl)); (try simp only [Act.put, List.setIfInBounds_toArray, List.set_cons_zero, List.set_cons_succ]))
    (refine wpAnyH_take (i := 2) (v := ?_) rfl (by kernel_rfl) (by kernel_rfl) (by kernel_rfl) (fun _ _ _ h => h) (Or.inl ⟨by kernel_rfl, ?_⟩) (by assumption) ?_; rotate_left 1; (intro W0 hSw; (try dsimp only at hSw); go_simp; (try with_reducible rfl)); (try simp only [Act.put, List.setIfInBounds_toArray, List.set_cons_zero, List.set_cons_succ]))
    (refine wpAnyH_take (i := 3) (v := ?_) rfl (by kernel_rfl) (by kernel_rfl) (by kernel_rfl) (fun _ _ _ h => h) (Or.inl ⟨by kernel_rfl, ?_⟩) (by assumption) ?_; rotate_left 1; (intro W0 hSw; (try dsimp only at hSw); go_simp; (try with_reducible rfl)); (try simp only [Act.put, List.setIfInBounds_toArray, List.set_cons_zero, List.set_cons_succ]))
    (refine wpAnyH_take (i := 4) (v := ?_) rfl (by kernel_rfl) (by kernel_rfl) (by kernel_rfl) (fun _ _ _ h => h) (Or.inl ⟨by kernel_rfl, ?_⟩) (by assumption) ?_; rotate_left 1; (intro W0 hSw; obtain ⟨q, q0, q1, q2, q3, q4, q5⟩ := HR.out W0 hSw; go_simp; (try with_reducible rfl)); (try simp only [Act.put, List.setIfInBounds_toArray, List.set_cons_zero, List.set_cons_succ]))
    (refine wpAnyH_take (i := 6) (v := ?_) rfl (by kernel_rfl) (by kernel_rfl) (by kernel_rfl) (fun _ _ _ h => h) (Or.inl ⟨by kernel_rfl, ?_⟩) (by assumption) ?_; rotate_left 1; (intro W0 hSw; (try dsimp only at hSw); go_simp; (try with_reducible rfl)); (try simp only [Act.put, List.setIfInBounds_toArray, List.set_cons_zero, List.set_cons_succ]))
    (refine wpAnyH_take (i := 7) (v := ?_) rfl (by kernel_rfl) (by kernel_rfl) (by kernel_rfl) (fun _ _ _ h => h) (Or.inl ⟨by kernel_rfl, ?_⟩) (by assumption) ?_; rotate_left 1; (intro W0 hSw; (try dsimp only at hSw); go_simp; (try with_reducible rfl)); (try simp only [Act.put, List.setIfInBounds_toArray, List.set_cons_zero, List.set_cons_succ]))
    (refine wpAnyH_take (i := 8) (v := ?_) rfl (by kernel_rfl) (by kernel_rfl) (by kernel_rfl) (fun _ _ _ h => h) (Or.inl ⟨by kernel_rfl, ?_⟩) (by assumption) ?_; rotate_left 1; (intro W0 hSw; (try dsimp only at hSw); go_simp; (try with_reducible rfl)); (try simp only [Act.put, List.setIfInBounds_toArray, List.set_cons_zero, List.set_cons_succ]))
    (refine wpAnyH_take (i := 9) (v := ?_) rfl (by kernel_rfl) (by kernel_rfl) (by kernel_rfl) (fun _ _ _ h => h) (Or.inl ⟨by kernel_rfl, ?_⟩) (by assumption) ?_; rotate_left 1; (intro W0 hSw; (try dsimp only at hSw); go_simp; (try with_reducible rfl)); (try simp only [Act.put, List.setIfInBounds_toArray, List.set_cons_zero, List.set_cons_succ]))
    (refine wpAnyH_take (i := 10) (v := ?_) rfl (by kernel_rfl) (by kernel_rfl) (by kernel_rfl) (fun _ _ _ h => h) (Or.inl ⟨by kernel_rfl, ?_⟩) (by assumption) ?_; rotate_left 1; (intro W0 hSw; obtain ⟨q, q0, q1, q2, q3, q4, q5⟩ := HR.out W0 hSw; go_simp; (try with_reducible rfl)); (try simp only [Act.put, List.setIfInBounds_toArray, List.set_cons_zero, List.set_cons_succ]))
    refine wpAnyH_ready (rs := [5, 13]) (by kernel_rfl) (by simp) ?_
    refine AllReadyH.cons rfl (fun K hK => ?_) (AllReadyH.cons rfl (fun K hK => ?_) AllReadyH.nil)
    · go_simp
      refine (C12.out _ (BD.out)).mono ?_
      rintro e w3 ⟨qa, qc, qb, qo, rfl, qh, ql, bx3⟩
      have B3 : Below wO.heap.size wO w3 := (BD.out).trans (bx3.mono (BD.out).size)
      have hz3 := bx3.size
      go_wp2_with fail
      refine hK.out _ _ B3 (fun hHeld => ?_)
      clear hK K
      (try simp only [Act.put, List.setIfInBounds_toArray, List.set_cons_zero, List.set_cons_succ])
      refine wpAnyH_ready (rs := [11, 13]) (by kernel_rfl) (by simp) ?_
      refine AllReadyH.cons rfl (fun K hK => ?_) (AllReadyH.cons rfl (fun K hK => ?_) AllReadyH.nil)
      · go_simp
        refine (C26.out _ (B3)).mono ?_
        rintro e w4 ⟨csu, rfl, hx4, bx4⟩
        obtain ⟨uk, ub, ui, us, ual, unl, ucl, uam, unm, ucm, rfl⟩ := V.ten hx4
        have B4 : Below wO.heap.size wO w4 := (B3).trans (bx4.mono (B3).size)
        have hz4 := bx4.size
        go_wp2_with fail
        refine hK.out _ _ B4 (fun hHeld => ?_)
        clear hK K
        (try simp only [Act.put, List.setIfInBounds_toArray, List.set_cons_zero, List.set_cons_succ])
        (refine wpAnyH_take (i := 12) (v := ?_) rfl (by kernel_rfl) (by kernel_rfl) (by kernel_rfl) (fun _ _ _ h => h) (Or.inl ⟨by kernel_rfl, ?_⟩) (by assumption) ?_; rotate_left 1; (intro W0 hSw; (try dsimp only at hSw); go_simp; (try with_reducible rfl)); (try simp only [Act.put, List.setIfInBounds_toArray, List.set_cons_zero, List.set_cons_succ]))
        refine wpAnyH_ready (rs := [13]) (by kernel_rfl) (by simp) ?_
        refine AllReadyH.cons rfl (fun K hK => ?_) AllReadyH.nil
        go_simp
        refine hK.out _ _ ((B4).alloc (B4).size _) (fun hHeld => ?_)
        clear hK K
        (try simp only [Act.put, List.setIfInBounds_toArray, List.set_cons_zero, List.set_cons_succ])
        have n4 := heap_alloc_new (w4) (.cells #[.slice none 0 0, .int .i64 0, .bool false, .int .i64 0, .string ⟨#[]⟩, .slice none 0 0, .slice none 0 0] 50)
        have c0 : (w4.alloc (.cells #[.slice none 0 0, .int .i64 0, .bool false, .int .i64 0, .string ⟨#[]⟩, .slice none 0 0, .slice none 0 0] 50)).cell? ⟨w4.heap.size, 0, none⟩ = some (.slice none 0 0) := cell_of_block n4 0
        have c1 : (w4.alloc (.cells #[.slice none 0 0, .int .i64 0, .bool false, .int .i64 0, .string ⟨#[]⟩, .slice none 0 0, .slice none 0 0] 50)).cell? ⟨w4.heap.size, 1, none⟩ = some (.int .i64 0) := cell_of_block n4 1
        have c2 : (w4.alloc (.cells #[.slice none 0 0, .int .i64 0, .bool false, .int .i64 0, .string ⟨#[]⟩, .slice none 0 0, .slice none 0 0] 50)).cell? ⟨w4.heap.size, 2, none⟩ = some (.bool false) := cell_of_block n4 2
        have c3 : (w4.alloc (.cells #[.slice none 0 0, .int .i64 0, .bool false, .int .i64 0, .string ⟨#[]⟩, .slice none 0 0, .slice none 0 0] 50)).cell? ⟨w4.heap.size, 3, none⟩ = some (.int .i64 0) := cell_of_block n4 3
        have c4 : (w4.alloc (.cells #[.slice none 0 0, .int .i64 0, .bool false, .int .i64 0, .string ⟨#[]⟩, .slice none 0 0, .slice none 0 0] 50)).cell? ⟨w4.heap.size, 4, none⟩ = some (.string ⟨#[]⟩) := cell_of_block n4 4
        have c5 : (w4.alloc (.cells #[.slice none 0 0, .int .i64 0, .bool false, .int .i64 0, .string ⟨#[]⟩, .slice none 0 0, .slice none 0 0] 50)).cell? ⟨w4.heap.size, 5, none⟩ = some (.slice none 0 0) := cell_of_block n4 5
        have c6 : (w4.alloc (.cells #[.slice none 0 0, .int .i64 0, .bool false, .int .i64 0, .string ⟨#[]⟩, .slice none 0 0, .slice none 0 0] 50)).cell? ⟨w4.heap.size, 6, none⟩ = some (.slice none 0 0) := cell_of_block n4 6
        have kf : ∀ ii, (w4.alloc (.cells #[.slice none 0 0, .int .i64 0, .bool false, .int .i64 0, .string ⟨#[]⟩, .slice none 0 0, .slice none 0 0] 50)).frozen? ⟨w4.heap.size, ii, none⟩ = false := frozen_of_block n4
        have E5 := hmk (TwE.mk (S := S) (x := (p, x)) (cs := [.slice qa p.length qc, .int .i64 uk, .bool ub, .int .i64 ui, .string us, .slice ual unl ucl, .slice uam unm ucm]) (G := w4.heap.size) (B4.alloc B4.size (.cells #[.slice qa p.length qc, .int .i64 uk, .bool ub, .int .i64 ui, .string us, .slice ual unl ucl, .slice uam unm ucm] 50)) (heap_alloc_new w4 _) ⟨_, _, rfl, ⟨qa, qc, qb, qo, rfl, qh, liesP_keep (fun y hy => (Below.heap_alloc w4 _ y (hy.elim (fun h => Nat.lt_of_lt_of_le (Nat.lt_of_lt_of_le (HS.out y h) hzO) B4.size) (fun h => Nat.lt_of_lt_of_le h.2 hz4))).trans (bx4.block y (hy.elim (fun h => Nat.lt_of_lt_of_le (Nat.lt_of_lt_of_le (HS.out y h) hzO) B3.size) (fun h => h.2)))) (fun y hy => by have h4 := hz4; have h0 := BD.out.size; have hB3 := B3.size; have hB4 := B4.size; have hza := alloc_size w4 (.cells #[.slice qa p.length qc, .int .i64 uk, .bool ub, .int .i64 ui, .string us, .slice ual unl ucl, .slice uam unm ucm] 50); rcases hy with h | h <;> first | exact .inl h | (obtain ⟨h1, h2⟩ := h; refine .inr ⟨?_, ?_, ?_⟩ <;> omega)) ql⟩, V.lies_keep (fun h => h) (fun y hy => Below.heap_alloc w4 _ y (hy.elim (fun h => Nat.lt_of_lt_of_le (Nat.lt_of_lt_of_le (HS.out y h) hzO) B4.size) (fun h => h.2))) (fun y hy => by have h4 := hz4; have h0 := BD.out.size; have hB3 := B3.size; have hB4 := B4.size; have hza := alloc_size w4 (.cells #[.slice qa p.length qc, .int .i64 uk, .bool ub, .int .i64 ui, .string us, .slice ual unl ucl, .slice uam unm ucm] 50); rcases hy with h | h <;> first | exact .inl h | (obtain ⟨h1, h2⟩ := h; refine .inr ⟨?_, ?_, ?_⟩ <;> omega)) _ hx4⟩ B4.size)
        refine wpAnyH_ready (rs := [14]) (by kernel_rfl) (by simp) ?_
        refine AllReadyH.cons rfl (fun K hK => ?_) AllReadyH.nil
        go_simp
        refine hK.out _ _ E5.out.b (fun hHeld => ?_)
        clear hK K hHeld
        (try simp only [Act.put, List.setIfInBounds_toArray, List.set_cons_zero, List.set_cons_succ])
        refine wpAnyH_done (by kernel_rfl) ?_ _
        (try dsimp only [Act.put, List.getElem_toArray, List.getElem_cons_succ, List.getElem_cons_zero, List.setIfInBounds_toArray, List.set_cons_zero, List.set_cons_succ])
        have e5 := E5.out
        clear E5 c0 c1 c2 c3 c4 c5 c6 kf
        generalize (w4.alloc (.cells #[.slice qa p.length qc, .int .i64 uk, .bool ub, .int .i64 ui, .string us, .slice ual unl ucl, .slice uam unm ucm] 50)) = w5 at *
        have d0 : w5.cell? ⟨w4.heap.size, 0, none⟩ = some (.slice qa p.length qc) := cell_of_block e5.n 0
        have d1 : w5.cell? ⟨w4.heap.size, 1, none⟩ = some (.int .i64 uk) := cell_of_block e5.n 1
        have d2 : w5.cell? ⟨w4.heap.size, 2, none⟩ = some (.bool ub) := cell_of_block e5.n 2
        have d3 : w5.cell? ⟨w4.heap.size, 3, none⟩ = some (.int .i64 ui) := cell_of_block e5.n 3
        have d4 : w5.cell? ⟨w4.heap.size, 4, none⟩ = some (.string us) := cell_of_block e5.n 4
        have d5 : w5.cell? ⟨w4.heap.size, 5, none⟩ = some (.slice ual unl ucl) := cell_of_block e5.n 5
        have d6 : w5.cell? ⟨w4.heap.size, 6, none⟩ = some (.slice uam unm ucm) := cell_of_block e5.n 6
        have b5 := e5.b
        have o5 : OwnF w5 0 SP u3 (l.take j) := oO.below keepF b5
        have ba : Below w5.heap.size w5 (w5.alloc (.cells #[.slice qa p.length qc, .int .i64 uk, .bool ub, .int .i64 ui, .string us, .slice ual unl ucl, .slice uam unm ucm] 50)) := (Below.refl _ _).alloc (Nat.le_refl _) _
        have o6 := o5.alloc keepF (.cells #[.slice qa p.length qc, .int .i64 uk, .bool ub, .int .i64 ui, .string us, .slice ual unl ucl, .slice uam unm ucm] 50)
        have HEF : Hid (EF (p, x) (w5.alloc (.cells #[.slice qa p.length qc, .int .i64 uk, .bool ub, .int .i64 ui, .string us, .slice ual unl ucl, .slice uam unm ucm] 50)) (fun b => S b ∨ (wO.heap.size ≤ b ∧ b < w5.heap.size ∧ b ≠ w4.heap.size)) [.slice qa p.length qc, .int .i64 uk, .bool ub, .int .i64 ui, .string us, .slice ual unl ucl, .slice uam unm ucm]) := Lf.keep (fun b hb => ba.block b (hb.elim (fun h => Nat.lt_of_lt_of_le (Nat.lt_of_lt_of_le (HS.out b h) hzO) b5.size) (fun h => h.2.1))) (fun _ h => h) e5.l
        have HSX : Hid (∀ b, (S b ∨ (wO.heap.size ≤ b ∧ b < w5.heap.size ∧ b ≠ w4.heap.size)) → 0 ≤ b ∧ b < (w5.alloc (.cells #[.slice qa p.length qc, .int .i64 uk, .bool ub, .int .i64 ui, .string us, .slice ual unl ucl, .slice uam unm ucm] 50)).heap.size ∧ some b ≠ u3.ownBlock) := fun b hb => by
          have hsz := ba.size
          rcases hb with h | h
          · have h1 := HS.out b h
            exact ⟨Nat.zero_le _, by have := b5.size; omega, fun e => by have := HO.out b e.symm; omega⟩
          · exact ⟨Nat.zero_le _, by omega, fun e => by have := (oO.lt e.symm).2; omega⟩
        have hll : (l.take j).length = j := by simp; omega
        have hbw := bO.trans (b5.mono hzO)
        have HOW : Hid (∀ g, (u3.ownBlock = some g ∨ w5.heap.size + 1 ≤ g) → w.heap.size ≤ g) := fun g e => e.elim (fun e => HO.out g e) (fun e => by have := hbw.size; omega)
        clear e5 o5
        go_wp2_with (at_builtin; go_loud (refine wpl_push keepF _ rfl (.tmp 25) (.tmp 27) 22 rfl 0 i0 _ 112 Tryz.underlying22 hI.out.1 hI.out.2.1 hI.out.2.2.1 hI.out.2.2.2 rfl (by decide) (by decide) u3 (p, x) rfl o6 w5.heap.size 1 (0, 0) rfl (heap_alloc_new w5 _) rfl oneF HEF.out HSX.out (by rw [hll]; omega) (Nat.zero_le _) ?_))
        intro g6 cap w6 o7 gr6 e6
        have bw6 : Below w.heap.size w w6 := (hbw.trans (ba.mono hbw.size)).grown gr6 (Nat.le_trans hbw.size ba.size) (fun r e => HO.out r e)
        have HG6 := HOW.out g6 e6
        (try rw [hll] at o7)
        (try rw [hll])
        rw [← HTP.out] at o7
        clear o6 gr6 e6 HSX HEF HOW ba
        go_wp2_with fail
        go_roundw
        case rel => exact ⟨j + 1, _, _, by omega, by go_num, rfl, bw6, o7, fun r e => by (simp [Value.ownBlock] at e; omega), fun b hb => by (rcases hb with h | h | h; exact HSP.out b h; exact .inl h; exact .inr (Nat.le_trans hzO h.1))⟩
        case measure => simp [RowKit.intOf]; omega
      · go_simp
        refine hK.out _ _ ((B3).alloc (B3).size _) (fun hHeld => ?_)
        clear hK K
        (try simp only [Act.put, List.setIfInBounds_toArray, List.set_cons_zero, List.set_cons_succ])
        have n3 := heap_alloc_new (w3) (.cells #[.slice none 0 0, .int .i64 0, .bool false, .int .i64 0, .string ⟨#[]⟩, .slice none 0 0, .slice none 0 0] 50)
        refine wpAnyH_ready (rs := [11]) (by kernel_rfl) (by simp) ?_
        refine AllReadyH.cons rfl (fun K hK => ?_) AllReadyH.nil
        go_simp
        refine (C26.out _ (B3.alloc B3.size _)).mono ?_
        rintro e w4 ⟨csu, rfl, hx4, bx4⟩
        obtain ⟨uk, ub, ui, us, ual, unl, ucl, uam, unm, ucm, rfl⟩ := V.ten hx4
        have B4 : Below wO.heap.size wO w4 := (B3.alloc B3.size _).trans (bx4.mono (B3.alloc B3.size _).size)
        have hz4 := bx4.size
        go_wp2_with fail
        refine hK.out _ _ B4 (fun hHeld => ?_)
        clear hK K
        (try simp only [Act.put, List.setIfInBounds_toArray, List.set_cons_zero, List.set_cons_succ])
        have z3 := alloc_size w3 (.cells #[.slice none 0 0, .int .i64 0, .bool false, .int .i64 0, .string ⟨#[]⟩, .slice none 0 0, .slice none 0 0] 50)
        have n4 : w4.heap[w3.heap.size]? = some (.cells #[.slice none 0 0, .int .i64 0, .bool false, .int .i64 0, .string ⟨#[]⟩, .slice none 0 0, .slice none 0 0] 50) := (bx4.block _ (by omega)).trans n3
        (refine wpAnyH_take (i := 12) (v := ?_) rfl (by kernel_rfl) (by kernel_rfl) (by kernel_rfl) (fun _ _ _ h => h) (Or.inl ⟨by kernel_rfl, ?_⟩) (by assumption) ?_; rotate_left 1; (intro W0 hSw; (try dsimp only at hSw); go_simp; (try with_reducible rfl)); (try simp only [Act.put, List.setIfInBounds_toArray, List.set_cons_zero, List.set_cons_succ]))
        have c0 : (w4).cell? ⟨w3.heap.size, 0, none⟩ = some (.slice none 0 0) := cell_of_block n4 0
        have c1 : (w4).cell? ⟨w3.heap.size, 1, none⟩ = some (.int .i64 0) := cell_of_block n4 1
        have c2 : (w4).cell? ⟨w3.heap.size, 2, none⟩ = some (.bool false) := cell_of_block n4 2
        have c3 : (w4).cell? ⟨w3.heap.size, 3, none⟩ = some (.int .i64 0) := cell_of_block n4 3
        have c4 : (w4).cell? ⟨w3.heap.size, 4, none⟩ = some (.string ⟨#[]⟩) := cell_of_block n4 4
        have c5 : (w4).cell? ⟨w3.heap.size, 5, none⟩ = some (.slice none 0 0) := cell_of_block n4 5
        have c6 : (w4).cell? ⟨w3.heap.size, 6, none⟩ = some (.slice none 0 0) := cell_of_block n4 6
        have kf : ∀ ii, (w4).frozen? ⟨w3.heap.size, ii, none⟩ = false := frozen_of_block n4
        have E5 := hmk (TwE.of (S := S) (T := fun y => Tw S wO.drew w3 y ∨ Tw S (w3.alloc (.cells #[.slice none 0 0, .int .i64 0, .bool false, .int .i64 0, .string ⟨#[]⟩, .slice none 0 0, .slice none 0 0] 50)) w4 y) (x := (p, x)) (cs := [.slice qa p.length qc, .int .i64 uk, .bool ub, .int .i64 ui, .string us, .slice ual unl ucl, .slice uam unm ucm]) B4 (st7_grown (w4) (w3.heap.size) (.slice qa p.length qc) (.int .i64 uk) (.bool ub) (.int .i64 ui) (.string us) (.slice ual unl ucl) (.slice uam unm ucm)) (set7_block n4 (.slice qa p.length qc) (.int .i64 uk) (.bool ub) (.int .i64 ui) (.string us) (.slice ual unl ucl) (.slice uam unm ucm)) B3.size (fun y hy => Nat.lt_of_lt_of_le (HS.out y hy) hzO) ⟨_, _, rfl, ⟨qa, qc, qb, qo, rfl, qh, liesP_keep (fun y hy => (bx4.block y (by rw [z3]; exact Nat.lt_succ_of_lt (hy.elim (fun h => Nat.lt_of_lt_of_le (Nat.lt_of_lt_of_le (HS.out y h) hzO) B3.size) (fun h => h.2)))).trans (Below.heap_alloc w3 _ y (hy.elim (fun h => Nat.lt_of_lt_of_le (Nat.lt_of_lt_of_le (HS.out y h) hzO) B3.size) (fun h => h.2)))) (fun _ h => .inl h) ql⟩, V.lies_keep (fun h => h) (fun _ _ => rfl) (fun _ h => .inr h) _ hx4⟩ (fun y hy => by have h4 := hz4; have h0 := BD.out.size; have hB3 := B3.size; have hB4 := B4.size; rcases hy with (h | h) | (h | h) <;> first | exact .inl h | (obtain ⟨h1, h2⟩ := h; refine .inr ⟨?_, ?_, ?_⟩ <;> omega)))
        refine wpAnyH_ready (rs := [14]) (by kernel_rfl) (by simp) ?_
        refine AllReadyH.cons rfl (fun K hK => ?_) AllReadyH.nil
        go_simp
        refine hK.out _ _ E5.out.b (fun hHeld => ?_)
        clear hK K hHeld
        (try simp only [Act.put, List.setIfInBounds_toArray, List.set_cons_zero, List.set_cons_succ])
        refine wpAnyH_done (by kernel_rfl) ?_ _
        (try dsimp only [Act.put, List.getElem_toArray, List.getElem_cons_succ, List.getElem_cons_zero, List.setIfInBounds_toArray, List.set_cons_zero, List.set_cons_succ])
        have e5 := E5.out
        clear E5 c0 c1 c2 c3 c4 c5 c6 kf
        generalize ((((((((w4).setCell ⟨w3.heap.size, 0, none⟩ (.slice qa p.length qc)).setCell ⟨w3.heap.size, 1, none⟩ (.int .i64 uk)).setCell ⟨w3.heap.size, 2, none⟩ (.bool ub)).setCell ⟨w3.heap.size, 3, none⟩ (.int .i64 ui)).setCell ⟨w3.heap.size, 4, none⟩ (.string us)).setCell ⟨w3.heap.size, 5, none⟩ (.slice ual unl ucl)).setCell ⟨w3.heap.size, 6, none⟩ (.slice uam unm ucm)) = w5 at *
        have d0 : w5.cell? ⟨w3.heap.size, 0, none⟩ = some (.slice qa p.length qc) := cell_of_block e5.n 0
        have d1 : w5.cell? ⟨w3.heap.size, 1, none⟩ = some (.int .i64 uk) := cell_of_block e5.n 1
        have d2 : w5.cell? ⟨w3.heap.size, 2, none⟩ = some (.bool ub) := cell_of_block e5.n 2
        have d3 : w5.cell? ⟨w3.heap.size, 3, none⟩ = some (.int .i64 ui) := cell_of_block e5.n 3
        have d4 : w5.cell? ⟨w3.heap.size, 4, none⟩ = some (.string us) := cell_of_block e5.n 4
        have d5 : w5.cell? ⟨w3.heap.size, 5, none⟩ = some (.slice ual unl ucl) := cell_of_block e5.n 5
        have d6 : w5.cell? ⟨w3.heap.size, 6, none⟩ = some (.slice uam unm ucm) := cell_of_block e5.n 6
        have b5 := e5.b
        have o5 : OwnF w5 0 SP u3 (l.take j) := oO.below keepF b5
        have ba : Below w5.heap.size w5 (w5.alloc (.cells #[.slice qa p.length qc, .int .i64 uk, .bool ub, .int .i64 ui, .string us, .slice ual unl ucl, .slice uam unm ucm] 50)) := (Below.refl _ _).alloc (Nat.le_refl _) _
        have o6 := o5.alloc keepF (.cells #[.slice qa p.length qc, .int .i64 uk, .bool ub, .int .i64 ui, .string us, .slice ual unl ucl, .slice uam unm ucm] 50)
        have HEF : Hid (EF (p, x) (w5.alloc (.cells #[.slice qa p.length qc, .int .i64 uk, .bool ub, .int .i64 ui, .string us, .slice ual unl ucl, .slice uam unm ucm] 50)) (fun b => S b ∨ (wO.heap.size ≤ b ∧ b < w5.heap.size ∧ b ≠ w3.heap.size)) [.slice qa p.length qc, .int .i64 uk, .bool ub, .int .i64 ui, .string us, .slice ual unl ucl, .slice uam unm ucm]) := Lf.keep (fun b hb => ba.block b (hb.elim (fun h => Nat.lt_of_lt_of_le (Nat.lt_of_lt_of_le (HS.out b h) hzO) b5.size) (fun h => h.2.1))) (fun _ h => h) e5.l
        have HSX : Hid (∀ b, (S b ∨ (wO.heap.size ≤ b ∧ b < w5.heap.size ∧ b ≠ w3.heap.size)) → 0 ≤ b ∧ b < (w5.alloc (.cells #[.slice qa p.length qc, .int .i64 uk, .bool ub, .int .i64 ui, .string us, .slice ual unl ucl, .slice uam unm ucm] 50)).heap.size ∧ some b ≠ u3.ownBlock) := fun b hb => by
          have hsz := ba.size
          rcases hb with h | h
          · have h1 := HS.out b h
            exact ⟨Nat.zero_le _, by have := b5.size; omega, fun e => by have := HO.out b e.symm; omega⟩
          · exact ⟨Nat.zero_le _, by omega, fun e => by have := (oO.lt e.symm).2; omega⟩
        have hll : (l.take j).length = j := by simp; omega
        have hbw := bO.trans (b5.mono hzO)
        have HOW : Hid (∀ g, (u3.ownBlock = some g ∨ w5.heap.size + 1 ≤ g) → w.heap.size ≤ g) := fun g e => e.elim (fun e => HO.out g e) (fun e => by have := hbw.size; omega)
        clear e5 o5
        go_wp2_with (at_builtin; go_loud (refine wpl_push keepF _ rfl (.tmp 25) (.tmp 27) 22 rfl 0 i0 _ 112 Tryz.underlying22 hI.out.1 hI.out.2.1 hI.out.2.2.1 hI.out.2.2.2 rfl (by decide) (by decide) u3 (p, x) rfl o6 w5.heap.size 1 (0, 0) rfl (heap_alloc_new w5 _) rfl oneF HEF.out HSX.out (by rw [hll]; omega) (Nat.zero_le _) ?_))
        intro g6 cap w6 o7 gr6 e6
        have bw6 : Below w.heap.size w w6 := (hbw.trans (ba.mono hbw.size)).grown gr6 (Nat.le_trans hbw.size ba.size) (fun r e => HO.out r e)
        have HG6 := HOW.out g6 e6
        (try rw [hll] at o7)
        (try rw [hll])
        rw [← HTP.out] at o7
        clear o6 gr6 e6 HSX HEF HOW ba
        go_wp2_with fail
        go_roundw
        case rel => exact ⟨j + 1, _, _, by omega, by go_num, rfl, bw6, o7, fun r e => by (simp [Value.ownBlock] at e; omega), fun b hb => by (rcases hb with h | h | h; exact HSP.out b h; exact .inl h; exact .inr (Nat.le_trans hzO h.1))⟩
        case measure => simp [RowKit.intOf]; omega
    · go_simp
      refine hK.out _ _ ((BD.out).alloc (BD.out).size _) (fun hHeld => ?_)
      clear hK K
      (try simp only [Act.put, List.setIfInBounds_toArray, List.set_cons_zero, List.set_cons_succ])
      have n0 := heap_alloc_new (wO.drew) (.cells #[.slice none 0 0, .int .i64 0, .bool false, .int .i64 0, .string ⟨#[]⟩, .slice none 0 0, .slice none 0 0] 50)
      refine wpAnyH_ready (rs := [5]) (by kernel_rfl) (by simp) ?_
      refine AllReadyH.cons rfl (fun K hK => ?_) AllReadyH.nil
      go_simp
      refine (C12.out _ (BD.out.alloc BD.out.size _)).mono ?_
      rintro e w3 ⟨qa, qc, qb, qo, rfl, qh, ql, bx3⟩
      have B3 : Below wO.heap.size wO w3 := (BD.out.alloc BD.out.size _).trans (bx3.mono (BD.out.alloc BD.out.size _).size)
      have hz3 := bx3.size
      go_wp2_with fail
      refine hK.out _ _ B3 (fun hHeld => ?_)
      clear hK K
      (try simp only [Act.put, List.setIfInBounds_toArray, List.set_cons_zero, List.set_cons_succ])
      refine wpAnyH_ready (rs := [11]) (by kernel_rfl) (by simp) ?_
      refine AllReadyH.cons rfl (fun K hK => ?_) AllReadyH.nil
      go_simp
      refine (C26.out _ (B3)).mono ?_
      rintro e w4 ⟨csu, rfl, hx4, bx4⟩
      obtain ⟨uk, ub, ui, us, ual, unl, ucl, uam, unm, ucm, rfl⟩ := V.ten hx4
      have B4 : Below wO.heap.size wO w4 := (B3).trans (bx4.mono (B3).size)
      have hz4 := bx4.size
      go_wp2_with fail
      refine hK.out _ _ B4 (fun hHeld => ?_)
      clear hK K
      (try simp only [Act.put, List.setIfInBounds_toArray, List.set_cons_zero, List.set_cons_succ])
      have z0 := alloc_size wO.drew (.cells #[.slice none 0 0, .int .i64 0, .bool false, .int .i64 0, .string ⟨#[]⟩, .slice none 0 0, .slice none 0 0] 50)
      have zd : wO.drew.heap.size = wO.heap.size := rfl
      have n3 : w3.heap[wO.heap.size]? = some (.cells #[.slice none 0 0, .int .i64 0, .bool false, .int .i64 0, .string ⟨#[]⟩, .slice none 0 0, .slice none 0 0] 50) := (bx3.block _ (by omega)).trans n0
      have n4 : w4.heap[wO.heap.size]? = some (.cells #[.slice none 0 0, .int .i64 0, .bool false, .int .i64 0, .string ⟨#[]⟩, .slice none 0 0, .slice none 0 0] 50) := (bx4.block _ (by omega)).trans n3
      (refine wpAnyH_take (i := 12) (v := ?_) rfl (by kernel_rfl) (by kernel_rfl) (by kernel_rfl) (fun _ _ _ h => h) (Or.inl ⟨by kernel_rfl, ?_⟩) (by assumption) ?_; rotate_left 1; (intro W0 hSw; (try dsimp only at hSw); go_simp; (try with_reducible rfl)); (try simp only [Act.put, List.setIfInBounds_toArray, List.set_cons_zero, List.set_cons_succ]))
      have c0 : (w4).cell? ⟨wO.heap.size, 0, none⟩ = some (.slice none 0 0) := cell_of_block n4 0
      have c1 : (w4).cell? ⟨wO.heap.size, 1, none⟩ = some (.int .i64 0) := cell_of_block n4 1
      have c2 : (w4).cell? ⟨wO.heap.size, 2, none⟩ = some (.bool false) := cell_of_block n4 2
      have c3 : (w4).cell? ⟨wO.heap.size, 3, none⟩ = some (.int .i64 0) := cell_of_block n4 3
      have c4 : (w4).cell? ⟨wO.heap.size, 4, none⟩ = some (.string ⟨#[]⟩) := cell_of_block n4 4
      have c5 : (w4).cell? ⟨wO.heap.size, 5, none⟩ = some (.slice none 0 0) := cell_of_block n4 5
      have c6 : (w4).cell? ⟨wO.heap.size, 6, none⟩ = some (.slice none 0 0) := cell_of_block n4 6
      have kf : ∀ ii, (w4).frozen? ⟨wO.heap.size, ii, none⟩ = false := frozen_of_block n4
      have E5 := hmk (TwE.of (S := S) (T := fun y => Tw S (wO.drew.alloc (.cells #[.slice none 0 0, .int .i64 0, .bool false, .int .i64 0, .string ⟨#[]⟩, .slice none 0 0, .slice none 0 0] 50)) w3 y ∨ Tw S w3 w4 y) (x := (p, x)) (cs := [.slice qa p.length qc, .int .i64 uk, .bool ub, .int .i64 ui, .string us, .slice ual unl ucl, .slice uam unm ucm]) B4 (st7_grown (w4) (wO.heap.size) (.slice qa p.length qc) (.int .i64 uk) (.bool ub) (.int .i64 ui) (.string us) (.slice ual unl ucl) (.slice uam unm ucm)) (set7_block n4 (.slice qa p.length qc) (.int .i64 uk) (.bool ub) (.int .i64 ui) (.string us) (.slice ual unl ucl) (.slice uam unm ucm)) BD.out.size (fun y hy => Nat.lt_of_lt_of_le (HS.out y hy) hzO) ⟨_, _, rfl, ⟨qa, qc, qb, qo, rfl, qh, liesP_keep (fun y hy => bx4.block y (hy.elim (fun h => Nat.lt_of_lt_of_le (Nat.lt_of_lt_of_le (HS.out y h) hzO) B3.size) (fun h => h.2))) (fun _ h => .inl h) ql⟩, V.lies_keep (fun h => h) (fun _ _ => rfl) (fun _ h => .inr h) _ hx4⟩ (fun y hy => by have h4 := hz4; have h3 := hz3; have h0 := BD.out.size; have hB3 := B3.size; have hB4 := B4.size; rcases hy with (h | h) | (h | h) <;> first | exact .inl h | (obtain ⟨h1, h2⟩ := h; refine .inr ⟨?_, ?_, ?_⟩ <;> omega)))
      refine wpAnyH_ready (rs := [14]) (by kernel_rfl) (by simp) ?_
      refine AllReadyH.cons rfl (fun K hK => ?_) AllReadyH.nil
      go_simp
      refine hK.out _ _ E5.out.b (fun hHeld => ?_)
      clear hK K hHeld
      (try simp only [Act.put, List.setIfInBounds_toArray, List.set_cons_zero, List.set_cons_succ])
      refine wpAnyH_done (by kernel_rfl) ?_ _
      (try dsimp only [Act.put, List.getElem_toArray, List.getElem_cons_succ, List.getElem_cons_zero, List.setIfInBounds_toArray, List.set_cons_zero, List.set_cons_succ])
      have e5 := E5.out
      clear E5 c0 c1 c2 c3 c4 c5 c6 kf
      generalize ((((((((w4).setCell ⟨wO.heap.size, 0, none⟩ (.slice qa p.length qc)).setCell ⟨wO.heap.size, 1, none⟩ (.int .i64 uk)).setCell ⟨wO.heap.size, 2, none⟩ (.bool ub)).setCell ⟨wO.heap.size, 3, none⟩ (.int .i64 ui)).setCell ⟨wO.heap.size, 4, none⟩ (.string us)).setCell ⟨wO.heap.size, 5, none⟩ (.slice ual unl ucl)).setCell ⟨wO.heap.size, 6, none⟩ (.slice uam unm ucm)) = w5 at *
      have d0 : w5.cell? ⟨wO.heap.size, 0, none⟩ = some (.slice qa p.length qc) := cell_of_block e5.n 0
      have d1 : w5.cell? ⟨wO.heap.size, 1, none⟩ = some (.int .i64 uk) := cell_of_block e5.n 1
      have d2 : w5.cell? ⟨wO.heap.size, 2, none⟩ = some (.bool ub) := cell_of_block e5.n 2
      have d3 : w5.cell? ⟨wO.heap.size, 3, none⟩ = some (.int .i64 ui) := cell_of_block e5.n 3
      have d4 : w5.cell? ⟨wO.heap.size, 4, none⟩ = some (.string us) := cell_of_block e5.n 4
      have d5 : w5.cell? ⟨wO.heap.size, 5, none⟩ = some (.slice ual unl ucl) := cell_of_block e5.n 5
      have d6 : w5.cell? ⟨wO.heap.size, 6, none⟩ = some (.slice uam unm ucm) := cell_of_block e5.n 6
      have b5 := e5.b
      have o5 : OwnF w5 0 SP u3 (l.take j) := oO.below keepF b5
      have ba : Below w5.heap.size w5 (w5.alloc (.cells #[.slice qa p.length qc, .int .i64 uk, .bool ub, .int .i64 ui, .string us, .slice ual unl ucl, .slice uam unm ucm] 50)) := (Below.refl _ _).alloc (Nat.le_refl _) _
      have o6 := o5.alloc keepF (.cells #[.slice qa p.length qc, .int .i64 uk, .bool ub, .int .i64 ui, .string us, .slice ual unl ucl, .slice uam unm ucm] 50)
      have HEF : Hid (EF (p, x) (w5.alloc (.cells #[.slice qa p.length qc, .int .i64 uk, .bool ub, .int .i64 ui, .string us, .slice ual unl ucl, .slice uam unm ucm] 50)) (fun b => S b ∨ (wO.heap.size ≤ b ∧ b < w5.heap.size ∧ b ≠ wO.heap.size)) [.slice qa p.length qc, .int .i64 uk, .bool ub, .int .i64 ui, .string us, .slice ual unl ucl, .slice uam unm ucm]) := Lf.keep (fun b hb => ba.block b (hb.elim (fun h => Nat.lt_of_lt_of_le (Nat.lt_of_lt_of_le (HS.out b h) hzO) b5.size) (fun h => h.2.1))) (fun _ h => h) e5.l
      have HSX : Hid (∀ b, (S b ∨ (wO.heap.size ≤ b ∧ b < w5.heap.size ∧ b ≠ wO.heap.size)) → 0 ≤ b ∧ b < (w5.alloc (.cells #[.slice qa p.length qc, .int .i64 uk, .bool ub, .int .i64 ui, .string us, .slice ual unl ucl, .slice uam unm ucm] 50)).heap.size ∧ some b ≠ u3.ownBlock) := fun b hb => by
        have hsz := ba.size
        rcases hb with h | h
        · have h1 := HS.out b h
          exact ⟨Nat.zero_le _, by have := b5.size; omega, fun e => by have := HO.out b e.symm; omega⟩
        · exact ⟨Nat.zero_le _, by omega, fun e => by have := (oO.lt e.symm).2; omega⟩
      have hll : (l.take j).length = j := by simp; omega
      have hbw := bO.trans (b5.mono hzO)
      have HOW : Hid (∀ g, (u3.ownBlock = some g ∨ w5.heap.size + 1 ≤ g) → w.heap.size ≤ g) := fun g e => e.elim (fun e => HO.out g e) (fun e => by have := hbw.size; omega)
      clear e5 o5
      go_wp2_with (at_builtin; go_loud (refine wpl_push keepF _ rfl (.tmp 25) (.tmp 27) 22 rfl 0 i0 _ 112 Tryz.underlying22 hI.out.1 hI.out.2.1 hI.out.2.2.1 hI.out.2.2.2 rfl (by decide) (by decide) u3 (p, x) rfl o6 w5.heap.size 1 (0, 0) rfl (heap_alloc_new w5 _) rfl oneF HEF.out HSX.out (by rw [hll]; omega) (Nat.zero_le _) ?_))
      intro g6 cap w6 o7 gr6 e6
      have bw6 : Below w.heap.size w w6 := (hbw.trans (ba.mono hbw.size)).grown gr6 (Nat.le_trans hbw.size ba.size) (fun r e => HO.out r e)
      have HG6 := HOW.out g6 e6
      (try rw [hll] at o7)
      (try rw [hll])
      rw [← HTP.out] at o7
      clear o6 gr6 e6 HSX HEF HOW ba
      go_wp2_with fail
      go_roundw
      case rel => exact ⟨j + 1, _, _, by omega, by go_num, rfl, bw6, o7, fun r e => by (simp [Value.ownBlock] at e; omega), fun b hb => by (rcases hb with h | h | h; exact HSP.out b h; exact .inl h; exact .inr (Nat.le_trans hzO h.1))⟩
      case measure => simp [RowKit.intOf]; omega
end Go.Proofs.YtfekgeaopchilaaGreatDoor
