/- joined: RdrH RdrI -/
import Derived.Test.YtdgfjdhobdfglaaGreatDoorG27
import Derived.Test.YtdgfjdhobdfglaaGreatDoorG28
set_option linter.unusedSimpArgs false
set_option linter.unusedVariables false
set_option maxRecDepth 100000
namespace Go.Proofs.YtdgfjdhobdfglaaGreatDoor
open Go.RowKit Go.Lib
theorem nxt_1 {l : List UInt8} {k : Nat} (h : elmF l k = none) : nxtF l k = none := by rw [nxtF, h]
theorem nxt_2 {l : List UInt8} {k k1 : Nat} {x : El} (h : elmF l k = some (x, k1)) (h2 : elB x = false) : nxtF l k = none := by rw [nxtF, h]; dsimp only; rw [if_neg (by rw [h2]; decide)]
theorem nxt_3 {l : List UInt8} {k k1 : Nat} {x : El} (h : elmF l k = some (x, k1)) (h2 : elB x = true) (h3 : elT x = (l.drop k).take (k1 - k)) : nxtF l k = some (x, k1) := by rw [nxtF, h]; dsimp only; rw [if_pos h2, if_pos h3]
theorem nxt_4 {l : List UInt8} {k k1 : Nat} {x : El} (h : elmF l k = some (x, k1)) (h2 : elB x = true) (h3 : elT x ≠ (l.drop k).take (k1 - k)) : nxtF l k = none := by rw [nxtF, h]; dsimp only; rw [if_pos h2, if_neg h3]
theorem RdP.below {g : Nat} {s : ByteArray} {w W W' : World} {k : Nat} (h : RdP g s w W k) (b : Below W.heap.size W W') : RdP g s w W' k := ⟨h.le, h.pb.keep b, grown_trans h.gr (grown_belowS b g)⟩
theorem New.sub {w w1 W W' : World} (h0 : w.heap.size <= w1.heap.size) (h1 : W.heap.size <= W'.heap.size) : ∀ b, New w1 W b -> New w W' b := fun b hb => ⟨Nat.le_trans h0 hb.1, Nat.lt_of_lt_of_le hb.2 h1⟩
set_option maxHeartbeats 8000000 in
theorem pnext_any (g : Nat) (s : ByteArray) (k : Nat) (w : World) (h : PB g s k w) (t : Td w) (hs : s.size <= 100000000) (hk : k <= s.size) (hg : 9 < g) :
 Calls Tryz.prog 43 #[.pointer (some ⟨g, 0, none⟩)] w (EmP (nxtF s.data.toList k) g s w) := by
 have hlt := h.lt
 have bA : Below w.heap.size w (w.alloc z48) := (Below.refl _ _).alloc (Nat.le_refl _) _
 have nb := heap_alloc_new w z48
 have hbsz : w.heap.size < (w.alloc z48).heap.size := by rw [alloc_size]; omega
 have RA : RdP g s w (w.alloc z48) k := ⟨hk, h.keep bA, grown_belowS bA g⟩
 have HT := hmk t
 have KA : Hid (∀ W k', RdP g s (w.alloc z48) W k' -> RdP g s w W k' /\ W.heap[w.heap.size]? = some z48 /\ Td W /\ w.heap.size < W.heap.size) := fun W k' r =>
  ⟨RA.trans r, (r.gr.block _ hbsz (fun e => by have := Option.some.inj e; omega)).trans nb, HT.out.grown (RA.trans r).gr hg, Nat.lt_of_lt_of_le hbsz r.gr.size⟩
 have CE : Hid (∀ W, PB g s k W -> Td W -> Calls Tryz.prog 63 #[.pointer (some ⟨g, 0, none⟩)] W (EmP (elmF s.data.toList k) g s W)) := fun W hW tW => pelem_any g s k W hW tW (by omega) hk hg
 have HW : Hid (∀ x k1, elmF s.data.toList k = some (x, k1) -> x.wt <= 2147483647) := fun x k1 hx => by have := elmF_wt hx; omega
 have PA := RA.pb
 have tA := HT.out.grown RA.gr hg
 have c1 := PA.c1
 have HBZ := hmk hbsz
 clear h t bA RA nb hbsz
 go_enter Tryz.func43, Tryz.ntmps43
 go_wp2_with fail
 refine (CE.out _ PA tA).mono ?_
 rintro e w1 (⟨x, k1, cs, hx, rfl, hl, r1⟩ | ⟨hx, ek, es, ea, en, ec, fk, fb, fi, fs, fa, fn, fc, ga, gn, gc, k1, rfl, r1⟩)
 case inr =>
  have HX := hmk hx
  obtain ⟨R1, N1, t1, z1⟩ := KA.out _ _ (r1.allo (.cells #[.int .i64 ek, .string es, .slice ea en ec, .int .i64 fk, .bool fb, .int .i64 fi, .string fs, .slice fa fn fc, .slice ga gn gc] 52))
  clear hx r1 PA tA
  obtain ⟨q0, q1, q2, q3, q4, q5, q6, q7, q8⟩ := cN9 N1
  have kfq : ∀ ii, (w1.alloc (.cells #[.int .i64 ek, .string es, .slice ea en ec, .int .i64 fk, .bool fb, .int .i64 fi, .string fs, .slice fa fn fc, .slice ga gn gc] 52)).frozen? ⟨w.heap.size, ii, none⟩ = false := frozen_of_block N1
  have RF := hmk (R1.box9 (Nat.le_refl _) hlt (.int .i64 0) (.string ⟨#[]⟩) (.slice none 0 0) (.int .i64 0) (.bool false) (.int .i64 0) (.string ⟨#[]⟩) (.slice none 0 0) (.slice none 0 0))
  go_wp2_with fail
  (try simp only [Exit.inBlock, Exit.then])
  refine bodyPost_ret (v := .tuple #[.agg #[.int .i64 0, .string ⟨#[]⟩, .slice none 0 0, .int .i64 0, .bool false, .int .i64 0, .string ⟨#[]⟩, .slice none 0 0, .slice none 0 0], .bool false]) ?_ rfl (.inr ⟨nxt_1 HX.out, 0, ⟨#[]⟩, none, 0, 0, 0, false, 0, ⟨#[]⟩, none, 0, 0, none, 0, 0, k1, rfl, RF.out⟩)
  rw [results_cell_tmp rfl]
  go_simp
 obtain ⟨ek, es, ea, en, ec, fk, fb, fi, fs, fa, fn, fc, ga, gn, gc, rfl⟩ := El.nine hl
 have HX := hmk hx
 have HL := hmk hl
 have r2 := r1.allo (.cells #[.int .i64 ek, .string es, .slice ea en ec, .int .i64 fk, .bool fb, .int .i64 fi, .string fs, .slice fa fn fc, .slice ga gn gc] 52)
 have n2 := heap_alloc_new w1 (.cells #[.int .i64 ek, .string es, .slice ea en ec, .int .i64 fk, .bool fb, .int .i64 fi, .string fs, .slice fa fn fc, .slice ga gn gc] 52)
 have z2 : w1.heap.size < (w1.alloc (.cells #[.int .i64 ek, .string es, .slice ea en ec, .int .i64 fk, .bool fb, .int .i64 fi, .string fs, .slice fa fn fc, .slice ga gn gc] 52)).heap.size := by rw [alloc_size]; omega
 have bX : Below w1.heap.size w1 (w1.alloc (.cells #[.int .i64 ek, .string es, .slice ea en ec, .int .i64 fk, .bool fb, .int .i64 fi, .string fs, .slice fa fn fc, .slice ga gn gc] 52)) := (Below.refl _ _).alloc (Nat.le_refl _) _
 have HL2 : Hid (∀ W, Below w1.heap.size w1 W -> x.lies W (New (w.alloc z48) w1) [.int .i64 ek, .string es, .slice ea en ec, .int .i64 fk, .bool fb, .int .i64 fi, .string fs, .slice fa fn fc, .slice ga gn gc]) := fun W b => El.lies_keep (fun y hy => b.block y hy.2) (fun _ h => h) HL.out
 have tB := (KA.out _ _ r2).2.2.1
 have CM := hmk (maybe_any x (New (w.alloc z48) w1) _ (w1.alloc (.cells #[.int .i64 ek, .string es, .slice ea en ec, .int .i64 fk, .bool fb, .int .i64 fi, .string fs, .slice fa fn fc, .slice ga gn gc] 52)) tB.tb (HL2.out _ bX) (fun y hy => Nat.lt_of_lt_of_le hy.2 bX.size) (HW.out x k1 HX.out))
 have hz1 := hmk r1.gr.size
 clear hx hl r1 PA tA tB
 generalize hEB : elB x = EB at *
 have HEB := hmk hEB
 clear hEB
 go_wp2_with fail
 refine CM.out.mono ?_
 rintro e w3 ⟨rfl, b3⟩
 have r3 := r2.below b3
 have n3 : w3.heap[w1.heap.size]? = some (.cells #[.int .i64 ek, .string es, .slice ea en ec, .int .i64 fk, .bool fb, .int .i64 fi, .string fs, .slice fa fn fc, .slice ga gn gc] 52 (0, 0)) := (b3.block _ z2).trans n2
 have z3 := Nat.lt_of_lt_of_le z2 b3.size
 have b13 := bX.trans (b3.mono bX.size)
 clear CM r2 n2 z2 bX b3
 cases EB with
 | false =>
  obtain ⟨R3, N3, t3, y3⟩ := KA.out _ _ r3
  clear r3
  obtain ⟨q0, q1, q2, q3, q4, q5, q6, q7, q8⟩ := cN9 N3
  have kfq : ∀ ii, w3.frozen? ⟨w.heap.size, ii, none⟩ = false := frozen_of_block N3
  have RF := hmk (R3.box9 (Nat.le_refl _) hlt (.int .i64 0) (.string ⟨#[]⟩) (.slice none 0 0) (.int .i64 0) (.bool false) (.int .i64 0) (.string ⟨#[]⟩) (.slice none 0 0) (.slice none 0 0))
  go_wp2_with fail
  (try simp only [Exit.inBlock, Exit.then])
  refine bodyPost_ret (v := .tuple #[.agg #[.int .i64 0, .string ⟨#[]⟩, .slice none 0 0, .int .i64 0, .bool false, .int .i64 0, .string ⟨#[]⟩, .slice none 0 0, .slice none 0 0], .bool false]) ?_ rfl (.inr ⟨nxt_2 HX.out HEB.out, 0, ⟨#[]⟩, none, 0, 0, 0, false, 0, ⟨#[]⟩, none, 0, 0, none, 0, 0, k1, rfl, RF.out⟩)
  rw [results_cell_tmp rfl]
  go_simp
 | true =>
  have g4 := bld_new w3
  have b34 : Below w3.heap.size w3 (w3.alloc (.cells #[.pointer none, .slice none 0 0] 111)) := (Below.refl _ _).alloc (Nat.le_refl _) _
  obtain ⟨R3, N3, t3, y3⟩ := KA.out _ _ r3
  have t4 := t3.below b34 t3.z b34.size
  have CW := hmk (welem_any x _ (New (w.alloc z48) w1) w3.heap.size w3.heap.size [] (w3.alloc (.cells #[.pointer none, .slice none 0 0] 111)) t4 (HL2.out _ (b13.trans (b34.mono (Nat.le_of_lt z3)))) (fun y hy => Nat.lt_trans hy.2 z3) t3.z g4 HEB.out (HW.out x k1 HX.out) (by decide))
  have n4 : (w3.alloc (.cells #[.pointer none, .slice none 0 0] 111)).heap[w1.heap.size]? = some (.cells #[.int .i64 ek, .string es, .slice ea en ec, .int .i64 fk, .bool fb, .int .i64 fi, .string fs, .slice fa fn fc, .slice ga gn gc] 52 (0, 0)) := (b34.block _ z3).trans n3
  obtain ⟨p0, p1, p2, p3, p4, p5, p6, p7, p8⟩ := cN9 n4
  clear t4 g4
  go_wp2_with fail
  refine CW.out.mono ?_
  rintro e w5 ⟨rfl, g5, b5⟩
  have b35 : Below w3.heap.size w3 w5 := b34.trans b5
  rw [List.nil_append] at g5
  have R5 := R3.below b35
  have N5 : w5.heap[w.heap.size]? = some z48 := (b35.block _ y3).trans N3
  have n5 : w5.heap[w1.heap.size]? = some (.cells #[.int .i64 ek, .string es, .slice ea en ec, .int .i64 fk, .bool fb, .int .i64 fi, .string fs, .slice fa fn fc, .slice ga gn gc] 52 (0, 0)) := (b35.block _ z3).trans n3
  have CSt := hmk (Tryz.String_any_k w3.heap.size w3.heap.size (elT x) w5.drew g5 b35.size)
  have HR5 := hmk R5
  have HR3 := hmk R3
  have hk1 := elmF_ge HX.out
  clear CW p0 p1 p2 p3 p4 p5 p6 p7 p8 n4 b34 b5 g5 R3 N3 t3 r3 n3
  go_wp2_with fail
  by_cases hEQ : elT x = (s.data.toList.drop k).take (k1 - k)
  ·have hM : s.extract k k1 = ⟨(elT x).toArray⟩ := by rw [ext_mid s k k1 (by omega) HR5.out.le, hEQ]
   have HEQ := hmk hEQ
   clear hEQ
   have hkk : (k : Int) <= k1 := by omega
   have hk1s : (k1 : Int) <= s.size := by have := HR5.out.le; omega
   refine wp_region_held_drew (S := (fun W => W.heap[g]? = some (.cells #[.string s, .int .i64 (k1 : Int)] 86 (0, 0)) /\ W.heap[w1.heap.size]? = some (.cells #[.int .i64 ek, .string es, .slice ea en ec, .int .i64 fk, .bool fb, .int .i64 fi, .string fs, .slice fa fn fc, .slice ga gn gc] 52 (0, 0)))) (by kernel_rfl) ⟨HR5.out.pb, n5⟩ (fun hHeld => ?_)
   (refine tkA 0 ?_ ?_ ?_; rotate_left 1; (intro W0 hSw; (try dsimp only at hSw); have z0 : W0.cell? ⟨w1.heap.size, 0, none⟩ = some (.int .i64 ek) := cell_of_block hSw.2 0; have z1 : W0.cell? ⟨w1.heap.size, 1, none⟩ = some (.string es) := cell_of_block hSw.2 1; have z2 : W0.cell? ⟨w1.heap.size, 2, none⟩ = some (.slice ea en ec) := cell_of_block hSw.2 2; have z3 : W0.cell? ⟨w1.heap.size, 3, none⟩ = some (.int .i64 fk) := cell_of_block hSw.2 3; have z4 : W0.cell? ⟨w1.heap.size, 4, none⟩ = some (.bool fb) := cell_of_block hSw.2 4; have z5 : W0.cell? ⟨w1.heap.size, 5, none⟩ = some (.int .i64 fi) := cell_of_block hSw.2 5; have z6 : W0.cell? ⟨w1.heap.size, 6, none⟩ = some (.string fs) := cell_of_block hSw.2 6; have z7 : W0.cell? ⟨w1.heap.size, 7, none⟩ = some (.slice fa fn fc) := cell_of_block hSw.2 7; have z8 : W0.cell? ⟨w1.heap.size, 8, none⟩ = some (.slice ga gn gc) := cell_of_block hSw.2 8; go_simp; (try with_reducible rfl)); (try simp only [Act.put, zA, zB, zC]))
   (refine tjA 2 ?_; (try simp only [Act.put, zA, zB, zC]))
   (refine tjA 3 ?_; (try simp only [Act.put, zA, zB, zC]))
   (refine tjA 4 ?_; (try simp only [Act.put, zA, zB, zC]))
   (refine tkA 5 ?_ ?_ ?_; rotate_left 1; (intro W0 hSw; (try dsimp only at hSw); have z0 : W0.cell? ⟨g, 0, none⟩ = some (.string s) := cell_of_block hSw.1 0; go_simp; (try with_reducible rfl)); (try simp only [Act.put, zA, zB, zC]))
   (refine tjA 6 ?_; (try simp only [Act.put, zA, zB, zC]))
   (refine tjA 7 ?_; (try simp only [Act.put, zA, zB, zC]))
   (refine tjA 8 ?_; (try simp only [Act.put, zA, zB, zC]))
   (refine tjA 9 ?_; (try simp only [Act.put, zA, zB, zC]))
   (refine tkA 10 ?_ ?_ ?_; rotate_left 1; (intro W0 hSw; (try dsimp only at hSw); have z0 : W0.cell? ⟨g, 1, none⟩ = some (.int .i64 (k1 : Int)) := cell_of_block hSw.1 1; go_simp; (try with_reducible rfl)); (try simp only [Act.put, zA, zB, zC]))
   (refine tjA 11 ?_; (try simp only [Act.put, zA, zB, zC]))
   refine ryA [1] ?_
   refine rA1 fun K hK => ?_
   go_simp
   refine CSt.out.mono ?_
   rintro e w6 ⟨rfl, _, b6, _⟩
   have b56 : Below w3.heap.size w5 w6 := (Below.refl _ w5).drew.trans b6
   have b36 := b35.trans b56
   have R6 := HR3.out.below b36
   have N6 : w6.heap[w.heap.size]? = some z48 := (b56.block _ y3).trans N5
   have n6 : w6.heap[w1.heap.size]? = some (.cells #[.int .i64 ek, .string es, .slice ea en ec, .int .i64 fk, .bool fb, .int .i64 fi, .string fs, .slice fa fn fc, .slice ga gn gc] 52 (0, 0)) := (b56.block _ z3).trans n5
   obtain ⟨q0, q1, q2, q3, q4, q5, q6, q7, q8⟩ := cN9 N6
   have kfq : ∀ ii, w6.frozen? ⟨w.heap.size, ii, none⟩ = false := frozen_of_block N6
   go_wp2_with fail
   refine hK.out _ _ ⟨R6.pb, n6⟩ (fun hHeld => ?_)
   clear hK K
   (try simp only [Act.put, zA, zB, zC])
   (refine tjA 12 ?_; (try simp only [Act.put, zA, zB, zC]))
   refine ryA [13] ?_
   refine rA1 fun K hK => ?_
   go_simp
   have RF := hmk (R6.box9 (Nat.le_refl _) hlt (.int .i64 ek) (.string es) (.slice ea en ec) (.int .i64 fk) (.bool fb) (.int .i64 fi) (.string fs) (.slice fa fn fc) (.slice ga gn gc))
   have G9 := st9_grownZ w6 w.heap.size (.int .i64 ek) (.string es) (.slice ea en ec) (.int .i64 fk) (.bool fb) (.int .i64 fi) (.string fs) (.slice fa fn fc) (.slice ga gn gc)
   have hwz : w.heap.size < w1.heap.size := Nat.lt_of_lt_of_le HBZ.out hz1.out
   have n7 := (G9.block w1.heap.size (Nat.lt_of_lt_of_le z3 b36.size) (fun e => by have := Option.some.inj e; omega)).trans n6
   have HLL := hmk (El.lies_keep (S := New (w.alloc z48) w1) (S' := New w (((((((((w6.setCell ⟨w.heap.size, 0, none⟩ (.int .i64 ek)).setCell ⟨w.heap.size, 1, none⟩ (.string es)).setCell ⟨w.heap.size, 2, none⟩ (.slice ea en ec)).setCell ⟨w.heap.size, 3, none⟩ (.int .i64 fk)).setCell ⟨w.heap.size, 4, none⟩ (.bool fb)).setCell ⟨w.heap.size, 5, none⟩ (.int .i64 fi)).setCell ⟨w.heap.size, 6, none⟩ (.string fs)).setCell ⟨w.heap.size, 7, none⟩ (.slice fa fn fc)).setCell ⟨w.heap.size, 8, none⟩ (.slice ga gn gc))) (fun y hy => G9.block y (Nat.lt_of_lt_of_le (Nat.lt_trans hy.2 z3) b36.size) (fun e => by have := Option.some.inj e; have := Nat.lt_of_lt_of_le HBZ.out hy.1; omega)) (New.sub (Nat.le_of_lt HBZ.out) (Nat.le_trans (Nat.le_of_lt (Nat.lt_of_lt_of_le z3 b36.size)) G9.size)) (HL2.out w6 (b13.trans (b36.mono (Nat.le_of_lt z3)))))
   refine hK.out _ _ ⟨RF.out.pb, n7⟩ (fun hHeld => ?_)
   clear hK K G9
   (try simp only [Act.put, zA, zB, zC])
   first
    | (refine tjA 14 ?_; (try simp only [Act.put, zA, zB, zC]))
    | (refine ryA [14] ?_; refine rA1 fun K hK => ?_; go_simp; refine hK.out _ _ ⟨RF.out.pb, n7⟩ (fun hHeld => ?_); clear hK K; (try simp only [Act.put, zA, zB, zC]))
   refine wpAnyH_done (by kernel_rfl) ?_ _
   (try dsimp only [Act.put, List.getElem_toArray, List.getElem_cons_succ, List.getElem_cons_zero, List.setIfInBounds_toArray, List.set_cons_zero, List.set_cons_succ])
   clear hHeld
   go_wp2_with fail
   (try simp only [Exit.inBlock, Exit.then])
   refine bodyPost_ret (v := .tuple #[.agg #[.int .i64 ek, .string es, .slice ea en ec, .int .i64 fk, .bool fb, .int .i64 fi, .string fs, .slice fa fn fc, .slice ga gn gc], .bool true]) ?_ rfl (.inl ⟨x, k1, [.int .i64 ek, .string es, .slice ea en ec, .int .i64 fk, .bool fb, .int .i64 fi, .string fs, .slice fa fn fc, .slice ga gn gc], nxt_3 HX.out HEB.out HEQ.out, rfl, HLL.out, RF.out⟩)
   rw [results_cell_tmp rfl]
   go_simp
  ·have HEQ := hmk hEQ
   have hF : (elT x == (s.extract k k1).toList) = false := by
    rw [ext_mid s k k1 (by omega) HR5.out.le, Lib.toList_data, beq_eq_false_iff_ne]
    exact hEQ
   clear hEQ
   have hkk : (k : Int) <= k1 := by omega
   have hk1s : (k1 : Int) <= s.size := by have := HR5.out.le; omega
   refine wp_region_held_drew (S := (fun W => W.heap[g]? = some (.cells #[.string s, .int .i64 (k1 : Int)] 86 (0, 0)) /\ W.heap[w1.heap.size]? = some (.cells #[.int .i64 ek, .string es, .slice ea en ec, .int .i64 fk, .bool fb, .int .i64 fi, .string fs, .slice fa fn fc, .slice ga gn gc] 52 (0, 0)))) (by kernel_rfl) ⟨HR5.out.pb, n5⟩ (fun hHeld => ?_)
   (refine tkA 0 ?_ ?_ ?_; rotate_left 1; (intro W0 hSw; (try dsimp only at hSw); have z0 : W0.cell? ⟨w1.heap.size, 0, none⟩ = some (.int .i64 ek) := cell_of_block hSw.2 0; have z1 : W0.cell? ⟨w1.heap.size, 1, none⟩ = some (.string es) := cell_of_block hSw.2 1; have z2 : W0.cell? ⟨w1.heap.size, 2, none⟩ = some (.slice ea en ec) := cell_of_block hSw.2 2; have z3 : W0.cell? ⟨w1.heap.size, 3, none⟩ = some (.int .i64 fk) := cell_of_block hSw.2 3; have z4 : W0.cell? ⟨w1.heap.size, 4, none⟩ = some (.bool fb) := cell_of_block hSw.2 4; have z5 : W0.cell? ⟨w1.heap.size, 5, none⟩ = some (.int .i64 fi) := cell_of_block hSw.2 5; have z6 : W0.cell? ⟨w1.heap.size, 6, none⟩ = some (.string fs) := cell_of_block hSw.2 6; have z7 : W0.cell? ⟨w1.heap.size, 7, none⟩ = some (.slice fa fn fc) := cell_of_block hSw.2 7; have z8 : W0.cell? ⟨w1.heap.size, 8, none⟩ = some (.slice ga gn gc) := cell_of_block hSw.2 8; go_simp; (try with_reducible rfl)); (try simp only [Act.put, zA, zB, zC]))
   (refine tjA 2 ?_; (try simp only [Act.put, zA, zB, zC]))
   (refine tjA 3 ?_; (try simp only [Act.put, zA, zB, zC]))
   (refine tjA 4 ?_; (try simp only [Act.put, zA, zB, zC]))
   (refine tkA 5 ?_ ?_ ?_; rotate_left 1; (intro W0 hSw; (try dsimp only at hSw); have z0 : W0.cell? ⟨g, 0, none⟩ = some (.string s) := cell_of_block hSw.1 0; go_simp; (try with_reducible rfl)); (try simp only [Act.put, zA, zB, zC]))
   (refine tjA 6 ?_; (try simp only [Act.put, zA, zB, zC]))
   (refine tjA 7 ?_; (try simp only [Act.put, zA, zB, zC]))
   (refine tjA 8 ?_; (try simp only [Act.put, zA, zB, zC]))
   (refine tjA 9 ?_; (try simp only [Act.put, zA, zB, zC]))
   (refine tkA 10 ?_ ?_ ?_; rotate_left 1; (intro W0 hSw; (try dsimp only at hSw); have z0 : W0.cell? ⟨g, 1, none⟩ = some (.int .i64 (k1 : Int)) := cell_of_block hSw.1 1; go_simp; (try with_reducible rfl)); (try simp only [Act.put, zA, zB, zC]))
   (refine tjA 11 ?_; (try simp only [Act.put, zA, zB, zC]))
   refine ryA [1] ?_
   refine rA1 fun K hK => ?_
   go_simp
   refine CSt.out.mono ?_
   rintro e w6 ⟨rfl, _, b6, _⟩
   have b56 : Below w3.heap.size w5 w6 := (Below.refl _ w5).drew.trans b6
   have b36 := b35.trans b56
   have R6 := HR3.out.below b36
   have N6 : w6.heap[w.heap.size]? = some z48 := (b56.block _ y3).trans N5
   have n6 : w6.heap[w1.heap.size]? = some (.cells #[.int .i64 ek, .string es, .slice ea en ec, .int .i64 fk, .bool fb, .int .i64 fi, .string fs, .slice fa fn fc, .slice ga gn gc] 52 (0, 0)) := (b56.block _ z3).trans n5
   obtain ⟨q0, q1, q2, q3, q4, q5, q6, q7, q8⟩ := cN9 N6
   have kfq : ∀ ii, w6.frozen? ⟨w.heap.size, ii, none⟩ = false := frozen_of_block N6
   go_wp2_with fail
   refine hK.out _ _ ⟨R6.pb, n6⟩ (fun hHeld => ?_)
   clear hK K
   (try simp only [Act.put, zA, zB, zC])
   (refine tjA 12 ?_; (try simp only [Act.put, zA, zB, zC]))
   refine ryA [13] ?_
   refine rA1 fun K hK => ?_
   go_simp
   have RF := hmk (R6.box9 (Nat.le_refl _) hlt (.int .i64 ek) (.string es) (.slice ea en ec) (.int .i64 fk) (.bool fb) (.int .i64 fi) (.string fs) (.slice fa fn fc) (.slice ga gn gc))
   have G9 := st9_grownZ w6 w.heap.size (.int .i64 ek) (.string es) (.slice ea en ec) (.int .i64 fk) (.bool fb) (.int .i64 fi) (.string fs) (.slice fa fn fc) (.slice ga gn gc)
   have hwz : w.heap.size < w1.heap.size := Nat.lt_of_lt_of_le HBZ.out hz1.out
   have n7 := (G9.block w1.heap.size (Nat.lt_of_lt_of_le z3 b36.size) (fun e => by have := Option.some.inj e; omega)).trans n6
   have HLL := hmk (El.lies_keep (S := New (w.alloc z48) w1) (S' := New w (((((((((w6.setCell ⟨w.heap.size, 0, none⟩ (.int .i64 ek)).setCell ⟨w.heap.size, 1, none⟩ (.string es)).setCell ⟨w.heap.size, 2, none⟩ (.slice ea en ec)).setCell ⟨w.heap.size, 3, none⟩ (.int .i64 fk)).setCell ⟨w.heap.size, 4, none⟩ (.bool fb)).setCell ⟨w.heap.size, 5, none⟩ (.int .i64 fi)).setCell ⟨w.heap.size, 6, none⟩ (.string fs)).setCell ⟨w.heap.size, 7, none⟩ (.slice fa fn fc)).setCell ⟨w.heap.size, 8, none⟩ (.slice ga gn gc))) (fun y hy => G9.block y (Nat.lt_of_lt_of_le (Nat.lt_trans hy.2 z3) b36.size) (fun e => by have := Option.some.inj e; have := Nat.lt_of_lt_of_le HBZ.out hy.1; omega)) (New.sub (Nat.le_of_lt HBZ.out) (Nat.le_trans (Nat.le_of_lt (Nat.lt_of_lt_of_le z3 b36.size)) G9.size)) (HL2.out w6 (b13.trans (b36.mono (Nat.le_of_lt z3)))))
   refine hK.out _ _ ⟨RF.out.pb, n7⟩ (fun hHeld => ?_)
   clear hK K G9
   (try simp only [Act.put, zA, zB, zC])
   first
    | (refine tjA 14 ?_; (try simp only [Act.put, zA, zB, zC]))
    | (refine ryA [14] ?_; refine rA1 fun K hK => ?_; go_simp; refine hK.out _ _ ⟨RF.out.pb, n7⟩ (fun hHeld => ?_); clear hK K; (try simp only [Act.put, zA, zB, zC]))
   refine wpAnyH_done (by kernel_rfl) ?_ _
   (try dsimp only [Act.put, List.getElem_toArray, List.getElem_cons_succ, List.getElem_cons_zero, List.setIfInBounds_toArray, List.set_cons_zero, List.set_cons_succ])
   clear hHeld
   go_wp2_with fail
   (try simp only [Exit.inBlock, Exit.then])
   refine bodyPost_ret (v := .tuple #[.agg #[.int .i64 ek, .string es, .slice ea en ec, .int .i64 fk, .bool fb, .int .i64 fi, .string fs, .slice fa fn fc, .slice ga gn gc], .bool false]) ?_ rfl (.inr ⟨nxt_4 HX.out HEB.out HEQ.out, ek, es, ea, en, ec, fk, fb, fi, fs, fa, fn, fc, ga, gn, gc, k1, rfl, RF.out⟩)
   rw [results_cell_tmp rfl]
   go_simp
end Go.Proofs.YtdgfjdhobdfglaaGreatDoor
set_option maxRecDepth 100000
namespace Go.Proofs.YtdgfjdhobdfglaaGreatDoor
open Go.RowKit Go.Lib
def lenOf : Value -> Nat
 | .slice _ n _ => n
 | _ => 0
def PaP (P : List El × Int × Nat) (w : World) (e : Ending) (w' : World) : Prop := ∃ ap cp bp op, e = .returned (.tuple #[.slice ap P.1.length cp, .int .i64 P.2.1, .int .i64 (P.2.2 : Int)]) /\ Headed ap P.1.length cp bp op /\ liesP w' (New w w') P.1 bp op /\ Below w.heap.size w w'
theorem par_end {l : List UInt8} {n k : Nat} {acc : List El} (h : ¬ k < l.length) : parF l n k acc = (acc, -1, 0) := by
 cases n with
 | zero => rfl
 | succ n => rw [parF, if_neg h]
theorem par_full {l : List UInt8} {n k : Nat} {acc : List El} (h : k < l.length) (h2 : acc.length = 32) : parF l (n + 1) k acc = ([], (k : Int), 90) := by rw [parF, if_pos h, if_pos h2]
theorem par_no {l : List UInt8} {n k : Nat} {acc : List El} (h : k < l.length) (h2 : nxtF l k = none) : parF l (n + 1) k acc = ([], (k : Int), 90) := by
 rw [parF, if_pos h]
 split
 ·rfl
 ·rw [h2]
theorem par_yes {l : List UInt8} {n k k1 : Nat} {acc : List El} {x : El} (h : k < l.length) (h2 : acc.length ≠ 32) (h3 : nxtF l k = some (x, k1)) : parF l (n + 1) k acc = parF l n k1 (acc ++ [x]) := by
 rw [parF, if_pos h, if_neg h2, h3]
theorem pa_err {l : List UInt8} {k : Nat} {w W : World} (P : List El × Int × Nat) (h : P = ([], (k : Int), 90)) (b : Below w.heap.size w W) : PaP P w (.returned (.tuple #[.slice none 0 0, .int .i64 (k : Int), .int .i64 90])) W := by
 subst h
 exact ⟨none, 0, 0, 0, rfl, ⟨Nat.le_refl _, Nat.zero_le _, .inl rfl, fun _ => rfl⟩, fun j hj => by simp at hj, b⟩
set_option maxHeartbeats 8000000 in
theorem parse_any (s : ByteArray) (w : World) (t : Td w) (hs : s.size <= 100000000) :
 Calls Tryz.prog 29 #[.string s] w (PaP (parF s.data.toList 33 0 []) w) := by
 have bA : Below w.heap.size w (w.alloc (.cells #[.string s, .int .i64 0] 86)) := (Below.refl _ _).alloc (Nat.le_refl _) _
 have nb : PB w.heap.size s 0 (w.alloc (.cells #[.string s, .int .i64 0] 86)) := heap_alloc_new w _
 have hbsz : w.heap.size < (w.alloc (.cells #[.string s, .int .i64 0] 86)).heap.size := by rw [alloc_size]; omega
 have hg := t.z
 have hll : s.data.toList.length = s.size := by simp
 have HLL := hmk hll
 have HT := hmk t
 obtain ⟨i0, hi0, hz0, hz1, hz2⟩ := info_parts info35
 have hI : Hid (Tryz.prog.info? 52 = some i0 /\ i0.zero = some (.agg #[.int .i64 0, .string ⟨#[]⟩, .slice none 0 0, .int .i64 0, .bool false, .int .i64 0, .string ⟨#[]⟩, .slice none 0 0, .slice none 0 0]) /\ i0.size = 9 /\ i0.bytes = 136) := ⟨hi0, hz0, hz1, hz2⟩
 clear t hll hi0 hz0 hz1 hz2
 go_enter Tryz.func29, Tryz.ntmps29
 go_wp2_with fail
 generalize w.alloc (.cells #[.string s, .int .i64 0] 86) = w1 at *
 have HTd : Hid (∀ W k', RdP w.heap.size s w1 W k' -> Td W /\ Below w.heap.size w W) := fun W k' r => by
  have b : Below w.heap.size w W := bA.trans ((Below.refl _ w1).grown r.gr bA.size (fun k hk => by cases hk; exact Nat.le_refl _))
  exact ⟨HT.out.below b HT.out.z b.size, b⟩
 have CN : Hid (∀ W k, PB w.heap.size s k W -> Td W -> k <= s.size -> Calls Tryz.prog 43 #[.pointer (some ⟨w.heap.size, 0, none⟩)] W (EmP (nxtF s.data.toList k) w.heap.size s W)) := fun W k hW tW hk => pnext_any w.heap.size s k W hW tW hs hk hg
 have HKG : Hid (∀ (W W' : World) (S : Nat -> Prop) (v : Value) (l : List El), OwnP W w1.heap.size S v l -> W.grownBy W' (some w.heap.size) -> OwnP W' w1.heap.size S v l) := fun W W' S v l o gr => o.keep keepP gr (fun r e => by
  cases e
  exact ⟨fun hS => by have := (o.off _ hS).1; omega, fun e => by have := (o.lt e).1; omega⟩)
 have r0 : RdP w.heap.size s w1 w1 0 := ⟨Nat.zero_le _, nb, World.grownBy.refl _ _⟩
 clear bA nb
 go_loopw [5] (fun e5 wq => ∃ (acc : List El) (kk : Nat) (SM : Nat -> Prop), acc.length <= 32 /\ lenOf e5 = acc.length /\ Hid (parF s.data.toList 33 0 [] = parF s.data.toList (33 - acc.length) kk acc) /\ RdP w.heap.size s w1 wq kk /\ OwnP wq w1.heap.size SM e5 acc) (fun e5 _ => 33 - lenOf e5)
 case atStart => exact ⟨[], 0, _, by simp, rfl, hmk rfl, r0, OwnR.nil _ _⟩
 case round =>
  clear r0
  obtain ⟨acc, kk, SM, ha32, hlen, HF, rj, oj⟩ := hrel
  have c1 := rj.pb.c1
  obtain ⟨sa, sc, sb, so, rfl, hd, hls⟩ := own_listP (T := fun b => w1.heap.size <= b /\ b < wr.heap.size) oj (fun b hb => ⟨(oj.off b hb).1, (oj.off b hb).2.1⟩) (fun g hg => oj.lt hg)
  have HD := hmk hd
  have HLS := hmk hls
  clear hlen hd hls
  by_cases hks : kk < s.size
  ·have y1 : (kk : Int) < s.size := by omega
   have e33 : 33 - acc.length = (32 - acc.length) + 1 := by omega
   rw [e33] at HF
   have hkl : kk < s.data.toList.length := by rw [HLL.out]; exact hks
   have HKL := hmk hkl
   clear e33 hkl
   go_wp2_with fail
   refine (CN.out _ _ rj.pb (HTd.out _ _ rj).1 rj.le).mono ?_
   rintro e w2 (⟨x, k1, cs, hx, rfl, hl, r2⟩ | ⟨hx, ek, es, ea, en, ec, fk, fb, fi, fs, fa, fn, fc, ga, gn, gc, k1, rfl, r2⟩)
   ·obtain ⟨ek, es, ea, en, ec, fk, fb, fi, fs, fa, fn, fc, ga, gn, gc, rfl⟩ := El.nine hl
    have HX := hmk hx
    have R3 := (rj.trans r2).allo (.cells #[.int .i64 ek, .string es, .slice ea en ec, .int .i64 fk, .bool fb, .int .i64 fi, .string fs, .slice fa fn fc, .slice ga gn gc] 52)
    by_cases h32 : acc.length = 32
    ·have y32 : ((acc.length : Int) == 32) = true := by rw [beq_iff_eq]; omega
     have HB := hmk (HTd.out _ _ R3).2
     have H32 := hmk h32
     clear h32 hx hl rj r2 R3 oj
     go_wp2_with fail
     go_ret3
     exact pa_err (l := s.data.toList) _ (by rw [HF.out, par_full HKL.out H32.out]) HB.out
    ·have y32 : ((acc.length : Int) == 32) = false := by rw [beq_eq_false_iff_ne]; omega
     have H32 := hmk h32
     have R4 := R3.allo (.cells #[.int .i64 ek, .string es, .slice ea en ec, .int .i64 fk, .bool fb, .int .i64 fi, .string fs, .slice fa fn fc, .slice ga gn gc] 52)
     have o4 := ((HKG.out _ _ _ _ _ oj r2.gr).alloc keepP (.cells #[.int .i64 ek, .string es, .slice ea en ec, .int .i64 fk, .bool fb, .int .i64 fi, .string fs, .slice fa fn fc, .slice ga gn gc] 52)).alloc keepP (.cells #[.int .i64 ek, .string es, .slice ea en ec, .int .i64 fk, .bool fb, .int .i64 fi, .string fs, .slice fa fn fc, .slice ga gn gc] 52)
     have hb4 : w1.heap.size <= ((w2.alloc (.cells #[.int .i64 ek, .string es, .slice ea en ec, .int .i64 fk, .bool fb, .int .i64 fi, .string fs, .slice fa fn fc, .slice ga gn gc] 52)).alloc (.cells #[.int .i64 ek, .string es, .slice ea en ec, .int .i64 fk, .bool fb, .int .i64 fi, .string fs, .slice fa fn fc, .slice ga gn gc] 52)).heap.size := R4.gr.size
     have hrow : ∀ r, (Value.slice sa acc.length sc).ownBlock = some r -> w1.heap.size <= r := fun r e => (oj.lt e).1
     have hz4 : w2.heap.size <= ((w2.alloc (.cells #[.int .i64 ek, .string es, .slice ea en ec, .int .i64 fk, .bool fb, .int .i64 fi, .string fs, .slice fa fn fc, .slice ga gn gc] 52)).alloc (.cells #[.int .i64 ek, .string es, .slice ea en ec, .int .i64 fk, .bool fb, .int .i64 fi, .string fs, .slice fa fn fc, .slice ga gn gc] 52)).heap.size := by rw [alloc_size, alloc_size]; omega
     have HEP : Hid (EP x ((w2.alloc (.cells #[.int .i64 ek, .string es, .slice ea en ec, .int .i64 fk, .bool fb, .int .i64 fi, .string fs, .slice fa fn fc, .slice ga gn gc] 52)).alloc (.cells #[.int .i64 ek, .string es, .slice ea en ec, .int .i64 fk, .bool fb, .int .i64 fi, .string fs, .slice fa fn fc, .slice ga gn gc] 52)) (New wr w2) [.int .i64 ek, .string es, .slice ea en ec, .int .i64 fk, .bool fb, .int .i64 fi, .string fs, .slice fa fn fc, .slice ga gn gc]) := El.lies_keep (fun b hb => (Below.heap_alloc _ _ b (by rw [alloc_size]; have := hb.2; omega)).trans (Below.heap_alloc _ _ b hb.2)) (fun _ h => h) hl
     have HSX : Hid (∀ b, New wr w2 b -> w1.heap.size <= b /\ b < ((w2.alloc (.cells #[.int .i64 ek, .string es, .slice ea en ec, .int .i64 fk, .bool fb, .int .i64 fi, .string fs, .slice fa fn fc, .slice ga gn gc] 52)).alloc (.cells #[.int .i64 ek, .string es, .slice ea en ec, .int .i64 fk, .bool fb, .int .i64 fi, .string fs, .slice fa fn fc, .slice ga gn gc] 52)).heap.size /\ some b ≠ (Value.slice sa acc.length sc).ownBlock) := fun b hb => ⟨Nat.le_trans rj.gr.size hb.1, Nat.lt_of_lt_of_le hb.2 hz4, fun e => by have := (oj.lt e.symm).2; have := hb.1; omega⟩
     have ha3 : acc.length + 1 <= 32 := by omega
     clear h32 hx hl oj
     go_wp2_with (at_builtin; go_loud (refine wpl_push keepP _ rfl (.tmp 31) (.tmp 33) 46 rfl w1.heap.size i0 _ 136 Tryz.underlying46 hI.out.1 hI.out.2.1 hI.out.2.2.1 hI.out.2.2.2 rfl (by decide) (by decide) (.slice sa acc.length sc) x rfl o4 (w2.heap.size + 1) 1 (0, 0) rfl (alloc2_new w2 _ _) rfl one9 HEP.out HSX.out (by omega) hb4 ?_))
     intro g' cap w5 o5 g5 e5
     have R5 := R4.own hbsz g5 hrow
     clear o4 R4 g5 e5 rj r2 R3 hb4 hrow hz4
     go_wp2_with fail
     go_roundw
     case rel => exact ⟨acc ++ [x], k1, _, by rw [List.length_append]; exact ha3, by rw [List.length_append]; rfl, hmk (by rw [HF.out, par_yes HKL.out H32.out HX.out]; congr 1; rw [List.length_append]; show _ = 33 - (acc.length + 1); omega), R5, o5⟩
     case measure => simp [lenOf]; omega
   ·have HX := hmk hx
    have R3 := (rj.trans r2).allo (.cells #[.int .i64 ek, .string es, .slice ea en ec, .int .i64 fk, .bool fb, .int .i64 fi, .string fs, .slice fa fn fc, .slice ga gn gc] 52)
    have HB := hmk (HTd.out _ _ R3).2
    by_cases h32 : acc.length = 32
    focus
     have y32 : ((acc.length : Int) == 32) = true := by rw [beq_iff_eq]; omega
    rotate_left 1
    focus
     have y32 : ((acc.length : Int) == 32) = false := by rw [beq_eq_false_iff_ne]; omega
    rotate_left 1
    all_goals
     clear h32 hx rj r2 R3 oj
     go_wp2_with fail
     go_ret3
     exact pa_err (l := s.data.toList) _ (by rw [HF.out, par_no HKL.out HX.out]) HB.out
  ·have y1 : ¬ (kk : Int) < s.size := by omega
   have HB := hmk (HTd.out _ _ rj).2
   have HE : Hid (parF s.data.toList 33 0 [] = (acc, -1, 0)) := by show _ = _; rw [HF.out, par_end (by rw [HLL.out]; exact hks)]
   have hz1 := hbsz
   clear oj rj
   go_wp2_with fail
   go_ret3
   exact (by rw [HE.out]; exact ⟨sa, sc, sb, so, rfl, HD.out, liesP_keep (fun _ _ => rfl) (fun b hb => ⟨Nat.le_trans (Nat.le_of_lt hz1) hb.1, hb.2⟩) HLS.out, HB.out⟩)
end Go.Proofs.YtdgfjdhobdfglaaGreatDoor
