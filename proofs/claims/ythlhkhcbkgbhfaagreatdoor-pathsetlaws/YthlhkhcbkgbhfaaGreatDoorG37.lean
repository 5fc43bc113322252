/- joined: AweL AwfL PutJ -/
import Derived.Test.YthlhkhcbkgbhfaaGreatDoorG36
import Derived.RangeFuncBox
/- Whether a tree of one path has any. -/
set_option linter.unusedSimpArgs false
set_option linter.unusedVariables false
namespace Go.Proofs.YthlhkhcbkgbhfaaGreatDoor
open Go Go.RowKit Go.Lib Go.Shelf
set_option maxHeartbeats 8000000 in
set_option maxRecDepth 100000 in
theorem any_seq {T g nd A : Nat} {cn : Value} (n n0 : Nat) (w : World) (hKd : Kid w T g nd true cn) (hA : w.heap[A]? = some (.cells #[.pointer (some ⟨T, 0, none⟩)] 79 (0, 0))) (hn0 : n0 ≤ w.heap.size) (hnd : nd < n0) :
    SeqStopsK Fence.wide n Tryz.prog 72 #[.pointer (some ⟨A, 0, none⟩)] (fun x : Option Addr × Nat × Nat => #[.slice x.1 x.2.1 x.2.2]) (Below n0) (fun ys => ys ≠ []) (fun _ => True) 1 w := by
  intro l J Jx W hW hJ hJx hY h0
  refine (callsIn_wide).2 ?_
  show Calls Tryz.prog 72 #[.func (.yield l) #[] #[], .pointer (some ⟨A, 0, none⟩)] W _
  obtain ⟨⟨c0, c1, c2, c3, c4, c5, c6, c7, c8, bi, cap, hT, hc1, hc2, rfl⟩, ⟨arr, hg, ha0⟩, ⟨fk, fn, fma, fml, fmc, uk, ub, ui, us, ual, unl, ucl, uam, unm, ucm, hn⟩⟩ := hKd
  have hAs : A < w.heap.size := (Array.getElem?_eq_some_iff.1 hA).1
  have hTw := (hW.block T (Array.getElem?_eq_some_iff.1 hT).1).trans hT
  have hgw := (hW.block g (Array.getElem?_eq_some_iff.1 hg).1).trans hg
  have hnw := (hW.block nd (Array.getElem?_eq_some_iff.1 hn).1).trans hn
  have hAw := (hW.block A hAs).trans hA
  have kA : W.cell? ⟨A, 0, none⟩ = some (.pointer (some ⟨T, 0, none⟩)) := by rw [cell_of_block hAw]; rfl
  have kAd : W.drew.cell? ⟨A, 0, none⟩ = some (.pointer (some ⟨T, 0, none⟩)) := kA
  have hWz := hW.size
  have hndW : nd < W.heap.size := (Array.getElem?_eq_some_iff.1 hnw).1
  have LEAF : ∀ (a : Option Addr) (k c : Nat) (W2 : World), Below W.heap.size W W2 → Calls Tryz.prog 73 #[.pointer (some ⟨nd, 0, none⟩), .slice a k c, .func (.yield l) #[] #[]] W2 (fun e W' => (e = .returned (.bool true) ∧ ((∃ x, J [x] W') ∧ Below n0 W W')) ∨ (e = .returned (.bool false) ∧ ∃ x, Jx [x] W')) := fun a k c W2 hb => by
    have hn2 := (hb.block nd hndW).trans hnw
    have hj2 : J [] W2 := hJ _ _ _ none h0 ⟨hb.os, hb.tape, hb.output, hb.size, fun q hq _ => hb.block q hq⟩ (fun r e => by cases e)
    obtain ⟨fn', tmps, assign, body, hy1, hR⟩ := hY [] (a, k, c) W2 hj2 (by simp)
    have hbn : Below n0 W W2 := hb.mono (by omega)
    refine eachLeaf (n := n) (R1 := fun W' => (∃ x, J [x] W') ∧ Below n0 W W') (R2 := fun W' => ∃ x, Jx [x] W') (by rw [cell_of_block hn2]; rfl) ⟨fn', tmps, assign, body, hy1, hR.mono ?_⟩ (fun W' h => ?_)
    · rintro e W' (⟨he, h1, h2⟩ | ⟨he, h1⟩)
      · exact .inl ⟨he, ⟨_, h1⟩, hbn.trans h2⟩
      · exact .inr ⟨he, _, h1⟩
    · have := (h.2.block nd hnd).trans hnw
      rw [cell_of_block this]; rfl
  obtain ⟨i0, hi0, hz0, hz1, hz2⟩ := info_parts info35
  have hmkq : ∀ W, (Instr.makeSlice 32 (.int .i64 0) (.int .i64 32)).run Tryz.prog W = .ok (.slice (some ⟨W.heap.size, 0, none⟩) 0 32) (W.alloc (.cells (madeCells #[.int .i64 0, .string ⟨#[]⟩, .slice none 0 0, .int .i64 0, .bool false, .int .i64 0, .string ⟨#[]⟩, .slice none 0 0, .slice none 0 0] (32 * 9)) 66)) := fun W => by
    have h := run_make (P := Tryz.prog) W 32 66 i0 _ Tryz.underlying32 hi0 hz0 .i64 .i64 0 32 (by omega) (by omega) (by rw [hz2]; omega) (by omega)
    rw [hz1] at h
    simpa [Value.cells] using h
  have BM : Below W.heap.size W (W.drew.alloc (.cells (madeCells #[.int .i64 0, .string ⟨#[]⟩, .slice none 0 0, .int .i64 0, .bool false, .int .i64 0, .string ⟨#[]⟩, .slice none 0 0, .slice none 0 0] (32 * 9)) 66)) := (Below.refl _ W).drew.alloc (Nat.le_refl _) _
  have ER := hmk (eachRoot (l := l) (m := W.heap.size) (W0 := W) (W := W.drew.alloc (.cells (madeCells #[.int .i64 0, .string ⟨#[]⟩, .slice none 0 0, .int .i64 0, .bool false, .int .i64 0, .string ⟨#[]⟩, .slice none 0 0, .slice none 0 0] (32 * 9)) 66)) hTw hgw ha0 hnw BM (Nat.le_refl _) (heap_alloc_new W.drew _) (by rw [size_madeCells]) LEAF)
  clear hi0 hz0 hz1 hz2 LEAF hTw hgw hnw hAw hT hg hn hA BM hY
  go_enter Tryz.func72, Tryz.ntmps72
  go_wp2_with fail
  refine wp_region_held_drew (S := fun _ => True) (by kernel_rfl) trivial (fun hHeld => ?_)
  (refine wpAnyH_take (i := 2) (v := ?_) rfl (by kernel_rfl) (by kernel_rfl) (by kernel_rfl) (fun _ _ _ h => h) (Or.inl ⟨by kernel_rfl, ?_⟩) (by assumption) ?_; rotate_left 1; (intro W0 hSw; (try dsimp only at hSw); go_simp; (try with_reducible rfl)); (try simp only [Act.put, List.setIfInBounds_toArray, List.set_cons_zero, List.set_cons_succ]))
  refine wpAnyH_ready (rs := [0, 1]) (by kernel_rfl) (by simp) ?_
  refine AllReadyH.cons rfl (fun K hK => ?_) (AllReadyH.cons rfl (fun K hK => ?_) AllReadyH.nil)
  · go_simp
    refine hK.out _ _ trivial (fun hHeld => ?_)
    clear hK K
    (try simp only [Act.put, List.setIfInBounds_toArray, List.set_cons_zero, List.set_cons_succ])
    refine wpAnyH_ready (rs := [1]) (by kernel_rfl) (by simp) ?_
    refine AllReadyH.cons rfl (fun K hK => ?_) AllReadyH.nil
    go_simp
    refine hK.out _ _ trivial (fun hHeld => ?_)
    clear hK K
    (try simp only [Act.put, List.setIfInBounds_toArray, List.set_cons_zero, List.set_cons_succ])
    refine wpAnyH_ready (rs := [3]) (by kernel_rfl) (by simp) ?_
    refine AllReadyH.cons rfl (fun K hK => ?_) AllReadyH.nil
    go_simp
    refine ER.out.mono ?_
    rintro e w2 (⟨rfl, h1⟩ | ⟨rfl, h2⟩)
    · go_wp2_with fail
      refine hK.out _ _ trivial (fun hHeld => ?_)
      clear hK K
      (try simp only [Act.put, List.setIfInBounds_toArray, List.set_cons_zero, List.set_cons_succ])
      refine wpAnyH_done (by kernel_rfl) ?_ _
      go_wp2_with fail
      go_end0
      obtain ⟨x, hx⟩ := h1.1
      exact ⟨⟨_, rfl⟩, .inl ⟨[x], by simp, hx⟩⟩
    · go_wp2_with fail
      refine hK.out _ _ trivial (fun hHeld => ?_)
      clear hK K
      (try simp only [Act.put, List.setIfInBounds_toArray, List.set_cons_zero, List.set_cons_succ])
      refine wpAnyH_done (by kernel_rfl) ?_ _
      go_wp2_with fail
      go_end0
      obtain ⟨x, hx⟩ := h2
      exact ⟨⟨_, rfl⟩, .inr ⟨[x], trivial, hx⟩⟩
  · go_simp
    refine hK.out _ _ trivial (fun hHeld => ?_)
    clear hK K
    (try simp only [Act.put, List.setIfInBounds_toArray, List.set_cons_zero, List.set_cons_succ])
    have kAm : (W.alloc (.cells (madeCells #[.int .i64 0, .string ⟨#[]⟩, .slice none 0 0, .int .i64 0, .bool false, .int .i64 0, .string ⟨#[]⟩, .slice none 0 0, .slice none 0 0] 288) 66)).cell? ⟨A, 0, none⟩ = some (.pointer (some ⟨T, 0, none⟩)) := (World.cell?_of_block (w := W) (a := ⟨A, 0, none⟩) (Below.heap_alloc W _ A (by omega))).trans kA
    have kAd2 : (W.alloc (.cells (madeCells #[.int .i64 0, .string ⟨#[]⟩, .slice none 0 0, .int .i64 0, .bool false, .int .i64 0, .string ⟨#[]⟩, .slice none 0 0, .slice none 0 0] 288) 66)).drew.cell? ⟨A, 0, none⟩ = some (.pointer (some ⟨T, 0, none⟩)) := kAm
    refine wpAnyH_ready (rs := [0]) (by kernel_rfl) (by simp) ?_
    refine AllReadyH.cons rfl (fun K hK => ?_) AllReadyH.nil
    go_simp
    refine hK.out _ _ trivial (fun hHeld => ?_)
    clear hK K
    (try simp only [Act.put, List.setIfInBounds_toArray, List.set_cons_zero, List.set_cons_succ])
    refine wpAnyH_ready (rs := [3]) (by kernel_rfl) (by simp) ?_
    refine AllReadyH.cons rfl (fun K hK => ?_) AllReadyH.nil
    go_simp
    refine ER.out.mono ?_
    rintro e w2 (⟨rfl, h1⟩ | ⟨rfl, h2⟩)
    · go_wp2_with fail
      refine hK.out _ _ trivial (fun hHeld => ?_)
      clear hK K
      (try simp only [Act.put, List.setIfInBounds_toArray, List.set_cons_zero, List.set_cons_succ])
      refine wpAnyH_done (by kernel_rfl) ?_ _
      go_wp2_with fail
      go_end0
      obtain ⟨x, hx⟩ := h1.1
      exact ⟨⟨_, rfl⟩, .inl ⟨[x], by simp, hx⟩⟩
    · go_wp2_with fail
      refine hK.out _ _ trivial (fun hHeld => ?_)
      clear hK K
      (try simp only [Act.put, List.setIfInBounds_toArray, List.set_cons_zero, List.set_cons_succ])
      refine wpAnyH_done (by kernel_rfl) ?_ _
      go_wp2_with fail
      go_end0
      obtain ⟨x, hx⟩ := h2
      exact ⟨⟨_, rfl⟩, .inr ⟨[x], trivial, hx⟩⟩
end Go.Proofs.YthlhkhcbkgbhfaaGreatDoor
/- Any of a tree of one path: true. -/
namespace Go.Proofs.YthlhkhcbkgbhfaaGreatDoor
open Go Go.RowKit Go.Lib Go.Shelf
theorem Kid.below {W W' : World} {T g nd : Nat} {i : Bool} {cn : Value} (h : Kid W T g nd i cn) (hb : Below W.heap.size W W') : Kid W' T g nd i cn := by
  obtain ⟨⟨c0, c1, c2, c3, c4, c5, c6, c7, c8, bi, cap, hT, hc1, hc2, rfl⟩, ⟨arr, hg, ha0⟩, ⟨fk, fn, fma, fml, fmc, uk, ub, ui, us, ual, unl, ucl, uam, unm, ucm, hn⟩⟩ := h
  exact ⟨⟨c0, c1, c2, c3, c4, c5, c6, c7, c8, _, cap, (hb.block T (Array.getElem?_eq_some_iff.1 hT).1).trans hT, hc1, hc2, rfl⟩, ⟨arr, (hb.block g (Array.getElem?_eq_some_iff.1 hg).1).trans hg, ha0⟩, ⟨fk, fn, fma, fml, fmc, uk, ub, ui, us, ual, unl, ucl, uam, unm, ucm, (hb.block nd (Array.getElem?_eq_some_iff.1 hn).1).trans hn⟩⟩
theorem Kid.lt {W : World} {T g nd : Nat} {i : Bool} {cn : Value} (h : Kid W T g nd i cn) : nd < W.heap.size := by
  obtain ⟨_, _, ⟨fk, fn, fma, fml, fmc, uk, ub, ui, us, ual, unl, ucl, uam, unm, ucm, hn⟩⟩ := h
  exact (Array.getElem?_eq_some_iff.1 hn).1
attribute [local go_sem] Oper.semAt_some
set_option maxHeartbeats 8000000 in
set_option maxRecDepth 100000 in
theorem any_any {T g nd : Nat} {cn : Value} (w : World) (t : Tb w) (hKd : Kid w T g nd true cn) :
    Calls Tryz.prog 30 #[.pointer (some ⟨T, 0, none⟩), .slice none 0 0] w (BPost true w) := by
  have e1 := alloc_size w (.cells #[.bool false] 4)
  have B1 : Below w.heap.size w (w.alloc (.cells #[.bool false] 4)) := (Below.refl _ w).alloc (Nat.le_refl _) _
  have bx4 : Boxed (w.alloc (.cells #[.bool false] 4)) w.heap.size 4 (.bool false) := Boxed.new w 4 (.bool false)
  have KD1 := hmk (hKd.below B1)
  have c1 := hmk (ready_any ⟨T, 0, none⟩ [] (fun _ => False) none 0 0 0 (w.alloc (.cells #[.bool false] 4)) (t.below B1 t.z) ⟨Nat.le_refl _, by simp [maxLen], .inl rfl, fun _ => rfl⟩ (fun j hj => by simp at hj) (fun _ h => h.elim) (by simp [wtP]))
  have e0 : errP [] = 0 := errP_yes rfl
  rw [e0] at c1
  have hndw := hKd.lt
  clear t e0 hKd
  refine (callsIn_wide (n := 3)).1 ?_
  refine callsIn_of_wp_marks Tryz.func30 rfl trivial ?_ rfl
  simp only [Tryz.ntmps30, List.size_toArray, List.length_cons, List.length_nil, Nat.reduceAdd, Nat.reduceSub, Array.replicate_succ, Array.replicate_zero, List.push_toArray, List.append_toArray, List.nil_append, List.cons_append]
  gi_wp2
  refine ⟨trivial, (callsIn_wide).2 (c1.out.mono ?_)⟩
  generalize (w.alloc (.cells #[.bool false] 4)) = w1 at *
  rintro e w2 ⟨rfl, b2⟩
  clear c1
  gi_wp2
  refine ⟨trivial, (callsIn_wide).2 ((trailn_any T w2).mono ?_)⟩
  rintro e w3 ⟨ta, tn, tc, rfl, b3⟩
  have hz2 := b2.size
  have hz3 := b3.size
  have b13 : Below w1.heap.size w1 w3 := b2.trans (b3.mono b2.size)
  have K4 : Boxed w3 w.heap.size 4 (.bool false) := (b13.block _ (by omega)).trans bx4
  have KD3 := hmk (KD1.out.below b13)
  have B3 : Below w.heap.size w w3 := B1.trans (b13.mono (by omega))
  clear b2 b3 b13 bx4 KD1 B1
  gi_wp2
  refine ⟨trivial, (callsIn_wide).2 ((pathsn_any (some ⟨T, 0, none⟩) w3).mono ?_)⟩
  have b4 : Below w3.heap.size w3 (w3.alloc (.cells #[.pointer (some ⟨T, 0, none⟩)] 79)) := (Below.refl _ w3).alloc (Nat.le_refl _) _
  have hz4 := alloc_size w3 (.cells #[.pointer (some ⟨T, 0, none⟩)] 79)
  have n4 := heap_alloc_new w3 (.cells #[.pointer (some ⟨T, 0, none⟩)] 79)
  have HS := any_seq (3 - 1) w3.heap.size (w3.alloc (.cells #[.pointer (some ⟨T, 0, none⟩)] 79)) (KD3.out.below b4) n4 (by omega) (by omega)
  have K4' : Boxed (w3.alloc (.cells #[.pointer (some ⟨T, 0, none⟩)] 79)) w.heap.size 4 (.bool false) := K4.alloc _
  have B4 : Below w.heap.size w (w3.alloc (.cells #[.pointer (some ⟨T, 0, none⟩)] 79)) := B3.trans (b4.mono (by omega))
  generalize (w3.alloc (.cells #[.pointer (some ⟨T, 0, none⟩)] 79)) = w4 at *
  rintro e w9 ⟨rfl, hw9⟩
  subst hw9
  clear K4 KD3 b4 n4
  gi_wp2
  refine wpIn_rangeFunc_ownH rfl (by decide) (gf := 72) (lb := #[.pointer (some ⟨w3.heap.size, 0, none⟩)]) rfl trivial (enters_of Tryz.func72 (by kernel_rfl) rfl) HS (fun h k => h.trans k) (belowK_b (by omega)) (Below.refl _ _) (fun _ => rfl)
    (fun (pre : List (Option Addr × Nat × Nat)) (W : World) => (pre = [] ∧ Boxed W w.heap.size 4 (.bool false)) ∧ Below w.heap.size w W)
    (fun c (pre : List (Option Addr × Nat × Nat)) (W : World) => (c = .ret ∧ Boxed W w.heap.size 4 (.bool true)) ∧ Below w.heap.size w W)
    (OwnFrom.and (OwnFrom.and (ownFrom_pure _ _) (Own.from (boxed_own _ _ _) _)) (ownFrom_below (Nat.le_refl _) (by omega)))
    (fun c => OwnFrom.and (OwnFrom.and (ownFrom_pure _ _) (Own.from (boxed_own _ _ _) _)) (ownFrom_below (Nat.le_refl _) (by omega)))
    ⟨⟨rfl, K4'⟩, B4⟩ (fun (x : Option Addr × Nat × Nat) (a' : Act) (_ : World) => a' = { tmps := #[.pointer (some ⟨T, 0, none⟩), .slice none 0 0, undef, undef, .pointer (some ⟨w.heap.size, 0, none⟩), .slice ta tn tc, .pointer (some ⟨T, 0, none⟩), .pointer (some ⟨T, 0, none⟩), .slice none 0 0, .int .i64 0, .bool false, .tuple #[.slice ta tn tc, .pointer (some ⟨T, 0, none⟩)], .pointer (some ⟨T, 0, none⟩), .slice none 0 0, .tuple #[.slice ta tn tc, .pointer (some ⟨T, 0, none⟩)], .slice ta tn tc, .pointer (some ⟨T, 0, none⟩), .pointer (some ⟨T, 0, none⟩), .func (.func 72) #[] #[.pointer (some ⟨w3.heap.size, 0, none⟩)], .slice x.1 x.2.1 x.2.2], defers := [] }) (fun _ _ _ _ _ _ h _ _ => h) ?assign ?body ?done ?stop
  case assign =>
    rintro lp pre x W K hI hK
    have hK' := hK _ W (KeepsFrom.refl _ _) (Below.refl _ _) hI rfl
    clear hK
    gi_wp2
    first
    | exact hK'
    | simpa using hK'
  case body =>
    rintro lp pre x a' W hlp ⟨r, hr⟩ ⟨⟨rfl, b4⟩, bW⟩ rfl hlt
    have c4 := b4.cell
    have f4 := b4.frozen
    have m4 := b4.set (.bool true)
    gi_wp2
    exact ⟨(KeepsOthers.setCell _ _ _).from _, ⟨rfl, m4⟩, bW.setCell (p := ⟨w.heap.size, 0, none⟩) (by simp) _⟩
  case done =>
    rintro D ys W hD hys ⟨⟨rfl, b4⟩, bW⟩ hK
    exact absurd rfl hys
  case stop =>
    rintro D c pre W hD _ ⟨⟨rfl, b4⟩, bW⟩ hK
    gi_wp2
    refine ⟨by simp, .inl ⟨_, _, rfl, run_takeDeferred hK, ?_⟩⟩
    have d4 := cell_kept b4.cell (grownBy_putObj' _ D (.deferred none)) (fun r e => by cases e; exact ⟨_, hK, rfl⟩)
    refine ⟨.bool true, ?_, rfl, ?_⟩
    · simp [results, Tryz.f30, go_sem, d4]
    · exact bW.trans (belowK_b (w := w) (Nat.le_refl _) W D _ _ (by omega) hK rfl rfl)
end Go.Proofs.YthlhkhcbkgbhfaaGreatDoor
/- The document's put over a row that is only read. -/
namespace Go.Proofs.YthlhkhcbkgbhfaaGreatDoor
open Go.RowKit Go.Lib
/-- a row of paths that is read, in a block of T -/
structure RdR {w0 : World} {S : Nat → Prop} (W : World) (T : Nat → Prop) (a : Option Addr) (c b o : Nat) (R : List (PC w0 S)) : Prop where
  hd : Headed a R.length c b o
  cell : ∀ (j : Nat) (hj : j < R.length), W.cell? ⟨b, o + j, none⟩ = some (R[j]).enc
  in_ : 0 < R.length → T b
theorem RdR.below {w0 : World} {S : Nat → Prop} {W W' : World} {T : Nat → Prop} {a : Option Addr} {c b o : Nat} {R : List (PC w0 S)} (h : RdR W T a c b o R) (hb : Below W.heap.size W W') : RdR W' T a c b o R :=
  ⟨h.hd, fun j hj => (hb.cell (p := ⟨b, o + j, none⟩) (World.block_lt_of_cell? W _ (h.cell j hj))).trans (h.cell j hj), h.in_⟩
theorem RdR.lt {w0 : World} {S : Nat → Prop} {W : World} {T : Nat → Prop} {a : Option Addr} {c b o : Nat} {R : List (PC w0 S)} (h : RdR W T a c b o R) (h0 : 0 < R.length) : b < W.heap.size := World.block_lt_of_cell? W _ (h.cell 0 h0)
theorem RdR.at_ {w0 : World} {S : Nat → Prop} {W : World} {T : Nat → Prop} {a : Option Addr} {c b o : Nat} {R : List (PC w0 S)} (h : RdR W T a c b o R) {j : Nat} {u : Value} (hu : (R.map PC.enc)[j]? = some u) : W.cell? ⟨b, o + j, none⟩ = some u := by
  rw [List.getElem?_map] at hu
  cases hj : R[j]? with
  | none => rw [hj] at hu; cases hu
  | some x =>
    rw [hj] at hu
    obtain ⟨h1, h2⟩ := List.getElem?_eq_some_iff.1 hj
    rw [h.cell j h1, h2]
    exact hu
theorem rdr_own {w0 W : World} {S T : Nat → Prop} {base : Nat} {v : Value} {R : List (PC w0 S)} (h : W.ownsRow base 32 1 v R.length (R.map PC.enc)) (hT : ∀ x, base ≤ x → T x) : ∃ a c b o, v = .slice a R.length c ∧ RdR W T a c b o R := by
  rcases own_form h with ⟨rfl, h0⟩ | ⟨g, cap, rfl⟩
  · have : R = [] := List.length_eq_zero_iff.1 h0
    subst this
    exact ⟨none, 0, 0, 0, rfl, ⟨⟨Nat.le_refl _, by simp [maxLen], .inl rfl, fun _ => rfl⟩, fun j hj => by simp at hj, fun h => by simp at h⟩⟩
  · have hf := own_facts h
    exact ⟨_, cap, g, 0, rfl, ⟨hf.2.2.1, hf.2.2.2, .inr rfl, fun h => by cases h⟩, fun j hj => by
      rw [Nat.zero_add]
      exact own_cell h (by rw [List.getElem?_map, List.getElem?_eq_getElem hj]; rfl), fun _ => hT g hf.1⟩
theorem RdR.lies {w0 W : World} {S T : Nat → Prop} {a : Option Addr} {c b o : Nat} {R : List (PC w0 S)} (h : RdR W T a c b o R) (hw : ∀ x, S x → W.heap[x]? = w0.heap[x]?) (hS : ∀ x, S x → T x) : liesQ W T (R.map PC.p) b o := fun j hj => by
  have hj' : j < R.length := by simpa using hj
  refine ⟨h.in_ (by omega), _, h.cell j hj', ?_⟩
  rw [List.getElem_map]
  exact (R[j]).lies hw hS
end Go.Proofs.YthlhkhcbkgbhfaaGreatDoor
