import Derived.Test.YtihcggepeadklaaGreatDoorRdrG
import Derived.Test.YtihcggepeadklaaGreatDoorG31
/- path's reader: next. -/
set_option linter.unusedSimpArgs false
set_option linter.unusedVariables false
namespace Go.Proofs.YtihcggepeadklaaGreatDoor
open Go.RowKit Go.Lib
theorem nxt_1 {l : List UInt8} {k : Nat} (h : elmF l k = none) : nxtF l k = none := by rw [nxtF, h]
theorem nxt_2 {l : List UInt8} {k k1 : Nat} {x : El} (h : elmF l k = some (x, k1)) (h2 : elB x = false) : nxtF l k = none := by rw [nxtF, h]; dsimp only; rw [if_neg (by rw [h2]; decide)]
theorem nxt_3 {l : List UInt8} {k k1 : Nat} {x : El} (h : elmF l k = some (x, k1)) (h2 : elB x = true) (h3 : elT x = (l.drop k).take (k1 - k)) : nxtF l k = some (x, k1) := by rw [nxtF, h]; dsimp only; rw [if_pos h2, if_pos h3]
theorem nxt_4 {l : List UInt8} {k k1 : Nat} {x : El} (h : elmF l k = some (x, k1)) (h2 : elB x = true) (h3 : elT x ≠ (l.drop k).take (k1 - k)) : nxtF l k = none := by rw [nxtF, h]; dsimp only; rw [if_pos h2, if_neg h3]
theorem RdP.below {g : Nat} {s : ByteArray} {w W W' : World} {k : Nat} (h : RdP g s w W k) (b : Below W.heap.size W W') : RdP g s w W' k := ⟨h.le, h.pb.keep b, grown_trans h.gr (grown_belowS b g)⟩
/-- what the element that was read leaves behind -/
theorem New.sub {w w1 W W' : World} (h0 : w.heap.size ≤ w1.heap.size) (h1 : W.heap.size ≤ W'.heap.size) : ∀ b, New w1 W b → New w W' b := fun b hb => ⟨Nat.le_trans h0 hb.1, Nat.lt_of_lt_of_le hb.2 h1⟩
set_option maxHeartbeats 8000000 in
set_option maxRecDepth 100000 in
theorem pnext_any (g : Nat) (s : ByteArray) (k : Nat) (w : World) (h : PB g s k w) (t : Td w) (hs : s.size ≤ 100000000) (hk : k ≤ s.size) (hg : 9 < g) :
    Calls Tryz.prog 23 #[.pointer (some ⟨g, 0, none⟩)] w (EmP (nxtF s.data.toList k) g s w) := by
  have hlt := h.lt
  have bA : Below w.heap.size w (w.alloc z48) := (Below.refl _ _).alloc (Nat.le_refl _) _
  have nb := heap_alloc_new w z48
  have hbsz : w.heap.size < (w.alloc z48).heap.size := by rw [alloc_size]; omega
  have RA : RdP g s w (w.alloc z48) k := ⟨hk, h.keep bA, grown_belowS bA g⟩
  have HT := hmk t
  have KA : Hid (∀ W k', RdP g s (w.alloc z48) W k' → RdP g s w W k' ∧ W.heap[w.heap.size]? = some z48 ∧ Td W ∧ w.heap.size < W.heap.size) := fun W k' r =>
    ⟨RA.trans r, (r.gr.block _ hbsz (fun e => by have := Option.some.inj e; omega)).trans nb, HT.out.grown (RA.trans r).gr hg, Nat.lt_of_lt_of_le hbsz r.gr.size⟩
  have CE : Hid (∀ W, PB g s k W → Td W → Calls Tryz.prog 45 #[.pointer (some ⟨g, 0, none⟩)] W (EmP (elmF s.data.toList k) g s W)) := fun W hW tW => pelem_any g s k W hW tW (by omega) hk hg
  have HW : Hid (∀ x k1, elmF s.data.toList k = some (x, k1) → x.wt ≤ 2147483647) := fun x k1 hx => by have := elmF_wt hx; omega
  have PA := RA.pb
  have tA := HT.out.grown RA.gr hg
  have c1 := PA.c1
  have HBZ := hmk hbsz
  clear h t bA RA nb hbsz
  go_enter Tryz.func23, Tryz.ntmps23
  go_wp2_with fail
  refine (CE.out _ PA tA).mono ?_
  rintro e w1 (⟨x, k1, cs, hx, rfl, hl, r1⟩ | ⟨hx, ek, es, ea, en, ec, fk, fb, fi, fs, fa, fn, fc, ga, gn, gc, k1, rfl, r1⟩)
  case inr =>
    have HX := hmk hx
    obtain ⟨R1, N1, t1, z1⟩ := KA.out _ _ (r1.allo (.cells #[.int .i64 ek, .string es, .slice ea en ec, .int .i64 fk, .bool fb, .int .i64 fi, .string fs, .slice fa fn fc, .slice ga gn gc] 48))
    clear hx r1 PA tA
    have q0 : (w1.alloc (.cells #[.int .i64 ek, .string es, .slice ea en ec, .int .i64 fk, .bool fb, .int .i64 fi, .string fs, .slice fa fn fc, .slice ga gn gc] 48)).cell? ⟨w.heap.size, 0, none⟩ = some (.int .i64 0) := cell_of_block N1 0
    have q1 : (w1.alloc (.cells #[.int .i64 ek, .string es, .slice ea en ec, .int .i64 fk, .bool fb, .int .i64 fi, .string fs, .slice fa fn fc, .slice ga gn gc] 48)).cell? ⟨w.heap.size, 1, none⟩ = some (.string ⟨#[]⟩) := cell_of_block N1 1
    have q2 : (w1.alloc (.cells #[.int .i64 ek, .string es, .slice ea en ec, .int .i64 fk, .bool fb, .int .i64 fi, .string fs, .slice fa fn fc, .slice ga gn gc] 48)).cell? ⟨w.heap.size, 2, none⟩ = some (.slice none 0 0) := cell_of_block N1 2
    have q3 : (w1.alloc (.cells #[.int .i64 ek, .string es, .slice ea en ec, .int .i64 fk, .bool fb, .int .i64 fi, .string fs, .slice fa fn fc, .slice ga gn gc] 48)).cell? ⟨w.heap.size, 3, none⟩ = some (.int .i64 0) := cell_of_block N1 3
    have q4 : (w1.alloc (.cells #[.int .i64 ek, .string es, .slice ea en ec, .int .i64 fk, .bool fb, .int .i64 fi, .string fs, .slice fa fn fc, .slice ga gn gc] 48)).cell? ⟨w.heap.size, 4, none⟩ = some (.bool false) := cell_of_block N1 4
    have q5 : (w1.alloc (.cells #[.int .i64 ek, .string es, .slice ea en ec, .int .i64 fk, .bool fb, .int .i64 fi, .string fs, .slice fa fn fc, .slice ga gn gc] 48)).cell? ⟨w.heap.size, 5, none⟩ = some (.int .i64 0) := cell_of_block N1 5
    have q6 : (w1.alloc (.cells #[.int .i64 ek, .string es, .slice ea en ec, .int .i64 fk, .bool fb, .int .i64 fi, .string fs, .slice fa fn fc, .slice ga gn gc] 48)).cell? ⟨w.heap.size, 6, none⟩ = some (.string ⟨#[]⟩) := cell_of_block N1 6
    have q7 : (w1.alloc (.cells #[.int .i64 ek, .string es, .slice ea en ec, .int .i64 fk, .bool fb, .int .i64 fi, .string fs, .slice fa fn fc, .slice ga gn gc] 48)).cell? ⟨w.heap.size, 7, none⟩ = some (.slice none 0 0) := cell_of_block N1 7
    have q8 : (w1.alloc (.cells #[.int .i64 ek, .string es, .slice ea en ec, .int .i64 fk, .bool fb, .int .i64 fi, .string fs, .slice fa fn fc, .slice ga gn gc] 48)).cell? ⟨w.heap.size, 8, none⟩ = some (.slice none 0 0) := cell_of_block N1 8
    have kfq : ∀ ii, (w1.alloc (.cells #[.int .i64 ek, .string es, .slice ea en ec, .int .i64 fk, .bool fb, .int .i64 fi, .string fs, .slice fa fn fc, .slice ga gn gc] 48)).frozen? ⟨w.heap.size, ii, none⟩ = false := frozen_of_block N1
    have RF := hmk (R1.box9 (Nat.le_refl _) hlt (.int .i64 0) (.string ⟨#[]⟩) (.slice none 0 0) (.int .i64 0) (.bool false) (.int .i64 0) (.string ⟨#[]⟩) (.slice none 0 0) (.slice none 0 0))
    go_wp2_with fail
    (try simp only [Exit.inBlock, Exit.then])
    refine bodyPost_ret (v := .tuple #[.agg #[.int .i64 0, .string ⟨#[]⟩, .slice none 0 0, .int .i64 0, .bool false, .int .i64 0, .string ⟨#[]⟩, .slice none 0 0, .slice none 0 0], .bool false]) ?_ rfl (.inr ⟨nxt_1 HX.out, 0, ⟨#[]⟩, none, 0, 0, 0, false, 0, ⟨#[]⟩, none, 0, 0, none, 0, 0, k1, rfl, RF.out⟩)
    rw [results_cell_tmp rfl]
    go_simp
  obtain ⟨ek, es, ea, en, ec, fk, fb, fi, fs, fa, fn, fc, ga, gn, gc, rfl⟩ := El.nine hl
  have HX := hmk hx
  have HL := hmk hl
  have r2 := r1.allo (.cells #[.int .i64 ek, .string es, .slice ea en ec, .int .i64 fk, .bool fb, .int .i64 fi, .string fs, .slice fa fn fc, .slice ga gn gc] 48)
  have n2 := heap_alloc_new w1 (.cells #[.int .i64 ek, .string es, .slice ea en ec, .int .i64 fk, .bool fb, .int .i64 fi, .string fs, .slice fa fn fc, .slice ga gn gc] 48)
  have z2 : w1.heap.size < (w1.alloc (.cells #[.int .i64 ek, .string es, .slice ea en ec, .int .i64 fk, .bool fb, .int .i64 fi, .string fs, .slice fa fn fc, .slice ga gn gc] 48)).heap.size := by rw [alloc_size]; omega
  have bX : Below w1.heap.size w1 (w1.alloc (.cells #[.int .i64 ek, .string es, .slice ea en ec, .int .i64 fk, .bool fb, .int .i64 fi, .string fs, .slice fa fn fc, .slice ga gn gc] 48)) := (Below.refl _ _).alloc (Nat.le_refl _) _
  have HL2 : Hid (∀ W, Below w1.heap.size w1 W → x.lies W (New (w.alloc z48) w1) [.int .i64 ek, .string es, .slice ea en ec, .int .i64 fk, .bool fb, .int .i64 fi, .string fs, .slice fa fn fc, .slice ga gn gc]) := fun W b => El.lies_keep (fun y hy => b.block y hy.2) (fun _ h => h) HL.out
  have tB := (KA.out _ _ r2).2.2.1
  have CM := hmk (maybe_any x (New (w.alloc z48) w1) _ (w1.alloc (.cells #[.int .i64 ek, .string es, .slice ea en ec, .int .i64 fk, .bool fb, .int .i64 fi, .string fs, .slice fa fn fc, .slice ga gn gc] 48)) tB.tb (HL2.out _ bX) (fun y hy => Nat.lt_of_lt_of_le hy.2 bX.size) (HW.out x k1 HX.out))
  have hz1 := hmk r1.gr.size
  clear hx hl r1 PA tA tB
  generalize hEB : elB x = EB at *
  have HEB := hmk hEB
  clear hEB
  go_wp2_with fail
  refine CM.out.mono ?_
  rintro e w3 ⟨rfl, b3⟩
  have r3 := r2.below b3
  have n3 : w3.heap[w1.heap.size]? = some (.cells #[.int .i64 ek, .string es, .slice ea en ec, .int .i64 fk, .bool fb, .int .i64 fi, .string fs, .slice fa fn fc, .slice ga gn gc] 48 (0, 0)) := (b3.block _ z2).trans n2
  have z3 := Nat.lt_of_lt_of_le z2 b3.size
  have b13 := bX.trans (b3.mono bX.size)
  clear CM r2 n2 z2 bX b3
  cases EB with
  | false =>
    obtain ⟨R3, N3, t3, y3⟩ := KA.out _ _ r3
    clear r3
    have q0 : w3.cell? ⟨w.heap.size, 0, none⟩ = some (.int .i64 0) := cell_of_block N3 0
    have q1 : w3.cell? ⟨w.heap.size, 1, none⟩ = some (.string ⟨#[]⟩) := cell_of_block N3 1
    have q2 : w3.cell? ⟨w.heap.size, 2, none⟩ = some (.slice none 0 0) := cell_of_block N3 2
    have q3 : w3.cell? ⟨w.heap.size, 3, none⟩ = some (.int .i64 0) := cell_of_block N3 3
    have q4 : w3.cell? ⟨w.heap.size, 4, none⟩ = some (.bool false) := cell_of_block N3 4
    have q5 : w3.cell? ⟨w.heap.size, 5, none⟩ = some (.int .i64 0) := cell_of_block N3 5
    have q6 : w3.cell? ⟨w.heap.size, 6, none⟩ = some (.string ⟨#[]⟩) := cell_of_block N3 6
    have q7 : w3.cell? ⟨w.heap.size, 7, none⟩ = some (.slice none 0 0) := cell_of_block N3 7
    have q8 : w3.cell? ⟨w.heap.size, 8, none⟩ = some (.slice none 0 0) := cell_of_block N3 8
    have kfq : ∀ ii, w3.frozen? ⟨w.heap.size, ii, none⟩ = false := frozen_of_block N3
    have RF := hmk (R3.box9 (Nat.le_refl _) hlt (.int .i64 0) (.string ⟨#[]⟩) (.slice none 0 0) (.int .i64 0) (.bool false) (.int .i64 0) (.string ⟨#[]⟩) (.slice none 0 0) (.slice none 0 0))
    go_wp2_with fail
    (try simp only [Exit.inBlock, Exit.then])
    refine bodyPost_ret (v := .tuple #[.agg #[.int .i64 0, .string ⟨#[]⟩, .slice none 0 0, .int .i64 0, .bool false, .int .i64 0, .string ⟨#[]⟩, .slice none 0 0, .slice none 0 0], .bool false]) ?_ rfl (.inr ⟨nxt_2 HX.out HEB.out, 0, ⟨#[]⟩, none, 0, 0, 0, false, 0, ⟨#[]⟩, none, 0, 0, none, 0, 0, k1, rfl, RF.out⟩)
    rw [results_cell_tmp rfl]
    go_simp
  | true =>
    have g4 := bld_new w3
    have b34 : Below w3.heap.size w3 (w3.alloc (.cells #[.pointer none, .slice none 0 0] 54)) := (Below.refl _ _).alloc (Nat.le_refl _) _
    obtain ⟨R3, N3, t3, y3⟩ := KA.out _ _ r3
    have t4 := t3.below b34 t3.z b34.size
    have CW := hmk (welem_any x _ (New (w.alloc z48) w1) w3.heap.size w3.heap.size [] (w3.alloc (.cells #[.pointer none, .slice none 0 0] 54)) t4 (HL2.out _ (b13.trans (b34.mono (Nat.le_of_lt z3)))) (fun y hy => Nat.lt_trans hy.2 z3) t3.z g4 HEB.out (HW.out x k1 HX.out) (by decide))
    have n4 : (w3.alloc (.cells #[.pointer none, .slice none 0 0] 54)).heap[w1.heap.size]? = some (.cells #[.int .i64 ek, .string es, .slice ea en ec, .int .i64 fk, .bool fb, .int .i64 fi, .string fs, .slice fa fn fc, .slice ga gn gc] 48 (0, 0)) := (b34.block _ z3).trans n3
    have p0 : (w3.alloc (.cells #[.pointer none, .slice none 0 0] 54)).cell? ⟨w1.heap.size, 0, none⟩ = some (.int .i64 ek) := cell_of_block n4 0
    have p1 : (w3.alloc (.cells #[.pointer none, .slice none 0 0] 54)).cell? ⟨w1.heap.size, 1, none⟩ = some (.string es) := cell_of_block n4 1
    have p2 : (w3.alloc (.cells #[.pointer none, .slice none 0 0] 54)).cell? ⟨w1.heap.size, 2, none⟩ = some (.slice ea en ec) := cell_of_block n4 2
    have p3 : (w3.alloc (.cells #[.pointer none, .slice none 0 0] 54)).cell? ⟨w1.heap.size, 3, none⟩ = some (.int .i64 fk) := cell_of_block n4 3
    have p4 : (w3.alloc (.cells #[.pointer none, .slice none 0 0] 54)).cell? ⟨w1.heap.size, 4, none⟩ = some (.bool fb) := cell_of_block n4 4
    have p5 : (w3.alloc (.cells #[.pointer none, .slice none 0 0] 54)).cell? ⟨w1.heap.size, 5, none⟩ = some (.int .i64 fi) := cell_of_block n4 5
    have p6 : (w3.alloc (.cells #[.pointer none, .slice none 0 0] 54)).cell? ⟨w1.heap.size, 6, none⟩ = some (.string fs) := cell_of_block n4 6
    have p7 : (w3.alloc (.cells #[.pointer none, .slice none 0 0] 54)).cell? ⟨w1.heap.size, 7, none⟩ = some (.slice fa fn fc) := cell_of_block n4 7
    have p8 : (w3.alloc (.cells #[.pointer none, .slice none 0 0] 54)).cell? ⟨w1.heap.size, 8, none⟩ = some (.slice ga gn gc) := cell_of_block n4 8
    clear t4 g4
    go_wp2_with fail
    refine CW.out.mono ?_
    rintro e w5 ⟨rfl, g5, b5⟩
    have b35 : Below w3.heap.size w3 w5 := b34.trans b5
    rw [List.nil_append] at g5
    have R5 := R3.below b35
    have N5 : w5.heap[w.heap.size]? = some z48 := (b35.block _ y3).trans N3
    have n5 : w5.heap[w1.heap.size]? = some (.cells #[.int .i64 ek, .string es, .slice ea en ec, .int .i64 fk, .bool fb, .int .i64 fi, .string fs, .slice fa fn fc, .slice ga gn gc] 48 (0, 0)) := (b35.block _ z3).trans n3
    have CSt := hmk (Tryz.String_any_k w3.heap.size w3.heap.size (elT x) w5.drew g5 b35.size)
    have HR5 := hmk R5
    have HR3 := hmk R3
    have hk1 := elmF_ge HX.out
    clear CW p0 p1 p2 p3 p4 p5 p6 p7 p8 n4 b34 b5 g5 R3 N3 t3 r3 n3
    go_wp2_with fail
    by_cases hEQ : elT x = (s.data.toList.drop k).take (k1 - k)
    · have hM : s.extract k k1 = ⟨(elT x).toArray⟩ := by rw [ext_mid s k k1 (by omega) HR5.out.le, hEQ]
      have HEQ := hmk hEQ
      clear hEQ
      have hkk : (k : Int) ≤ k1 := by omega
      have hk1s : (k1 : Int) ≤ s.size := by have := HR5.out.le; omega
      refine wp_region_held_drew (S := (fun W => W.heap[g]? = some (.cells #[.string s, .int .i64 (k1 : Int)] 59 (0, 0)) ∧ W.heap[w1.heap.size]? = some (.cells #[.int .i64 ek, .string es, .slice ea en ec, .int .i64 fk, .bool fb, .int .i64 fi, .string fs, .slice fa fn fc, .slice ga gn gc] 48 (0, 0)))) (by kernel_rfl) ⟨HR5.out.pb, n5⟩ (fun hHeld => ?_)
      (refine wpAnyH_take (i := 0) (v := ?_) rfl (by kernel_rfl) (by kernel_rfl) (by kernel_rfl) (fun _ _ _ h => h) (Or.inl ⟨by kernel_rfl, ?_⟩) (by assumption) ?_; rotate_left 1; (intro W0 hSw; (try dsimp only at hSw); have z0 : W0.cell? ⟨w1.heap.size, 0, none⟩ = some (.int .i64 ek) := cell_of_block hSw.2 0; have z1 : W0.cell? ⟨w1.heap.size, 1, none⟩ = some (.string es) := cell_of_block hSw.2 1; have z2 : W0.cell? ⟨w1.heap.size, 2, none⟩ = some (.slice ea en ec) := cell_of_block hSw.2 2; have z3 : W0.cell? ⟨w1.heap.size, 3, none⟩ = some (.int .i64 fk) := cell_of_block hSw.2 3; have z4 : W0.cell? ⟨w1.heap.size, 4, none⟩ = some (.bool fb) := cell_of_block hSw.2 4; have z5 : W0.cell? ⟨w1.heap.size, 5, none⟩ = some (.int .i64 fi) := cell_of_block hSw.2 5; have z6 : W0.cell? ⟨w1.heap.size, 6, none⟩ = some (.string fs) := cell_of_block hSw.2 6; have z7 : W0.cell? ⟨w1.heap.size, 7, none⟩ = some (.slice fa fn fc) := cell_of_block hSw.2 7; have z8 : W0.cell? ⟨w1.heap.size, 8, none⟩ = some (.slice ga gn gc) := cell_of_block hSw.2 8; go_simp; (try with_reducible rfl)); (try simp only [Act.put, List.setIfInBounds_toArray, List.set_cons_zero, List.set_cons_succ]))
      (refine wpAnyH_take (i := 2) (v := ?_) rfl (by kernel_rfl) (by kernel_rfl) (by kernel_rfl) (fun _ _ _ h => h) (Or.inl ⟨by kernel_rfl, ?_⟩) (by assumption) ?_; rotate_left 1; (intro W0 hSw; (try dsimp only at hSw); go_simp; (try with_reducible rfl)); (try simp only [Act.put, List.setIfInBounds_toArray, List.set_cons_zero, List.set_cons_succ]))
      (refine wpAnyH_take (i := 3) (v := ?_) rfl (by kernel_rfl) (by kernel_rfl) (by kernel_rfl) (fun _ _ _ h => h) (Or.inl ⟨by kernel_rfl, ?_⟩) (by assumption) ?_; rotate_left 1; (intro W0 hSw; (try dsimp only at hSw); go_simp; (try with_reducible rfl)); (try simp only [Act.put, List.setIfInBounds_toArray, List.set_cons_zero, List.set_cons_succ]))
      (refine wpAnyH_take (i := 4) (v := ?_) rfl (by kernel_rfl) (by kernel_rfl) (by kernel_rfl) (fun _ _ _ h => h) (Or.inl ⟨by kernel_rfl, ?_⟩) (by assumption) ?_; rotate_left 1; (intro W0 hSw; (try dsimp only at hSw); go_simp; (try with_reducible rfl)); (try simp only [Act.put, List.setIfInBounds_toArray, List.set_cons_zero, List.set_cons_succ]))
      (refine wpAnyH_take (i := 5) (v := ?_) rfl (by kernel_rfl) (by kernel_rfl) (by kernel_rfl) (fun _ _ _ h => h) (Or.inl ⟨by kernel_rfl, ?_⟩) (by assumption) ?_; rotate_left 1; (intro W0 hSw; (try dsimp only at hSw); have z0 : W0.cell? ⟨g, 0, none⟩ = some (.string s) := cell_of_block hSw.1 0; go_simp; (try with_reducible rfl)); (try simp only [Act.put, List.setIfInBounds_toArray, List.set_cons_zero, List.set_cons_succ]))
      (refine wpAnyH_take (i := 6) (v := ?_) rfl (by kernel_rfl) (by kernel_rfl) (by kernel_rfl) (fun _ _ _ h => h) (Or.inl ⟨by kernel_rfl, ?_⟩) (by assumption) ?_; rotate_left 1; (intro W0 hSw; (try dsimp only at hSw); go_simp; (try with_reducible rfl)); (try simp only [Act.put, List.setIfInBounds_toArray, List.set_cons_zero, List.set_cons_succ]))
      (refine wpAnyH_take (i := 7) (v := ?_) rfl (by kernel_rfl) (by kernel_rfl) (by kernel_rfl) (fun _ _ _ h => h) (Or.inl ⟨by kernel_rfl, ?_⟩) (by assumption) ?_; rotate_left 1; (intro W0 hSw; (try dsimp only at hSw); go_simp; (try with_reducible rfl)); (try simp only [Act.put, List.setIfInBounds_toArray, List.set_cons_zero, List.set_cons_succ]))
      (refine wpAnyH_take (i := 8) (v := ?_) rfl (by kernel_rfl) (by kernel_rfl) (by kernel_rfl) (fun _ _ _ h => h) (Or.inl ⟨by kernel_rfl, ?_⟩) (by assumption) ?_; rotate_left 1; (intro W0 hSw; (try dsimp only at hSw); go_simp; (try with_reducible rfl)); (try simp only [Act.put, List.setIfInBounds_toArray, List.set_cons_zero, List.set_cons_succ]))
      (refine wpAnyH_take (i := 9) (v := ?_) rfl (by kernel_rfl) (by kernel_rfl) (by kernel_rfl) (fun _ _ _ h => h) (Or.inl ⟨by kernel_rfl, ?_⟩) (by assumption) ?_; rotate_left 1; (intro W0 hSw; (try dsimp only at hSw); go_simp; (try with_reducible rfl)); (try simp only [Act.put, List.setIfInBounds_toArray, List.set_cons_zero, List.set_cons_succ]))
      (refine wpAnyH_take (i := 10) (v := ?_) rfl (by kernel_rfl) (by kernel_rfl) (by kernel_rfl) (fun _ _ _ h => h) (Or.inl ⟨by kernel_rfl, ?_⟩) (by assumption) ?_; rotate_left 1; (intro W0 hSw; (try dsimp only at hSw); have z0 : W0.cell? ⟨g, 1, none⟩ = some (.int .i64 (k1 : Int)) := cell_of_block hSw.1 1; go_simp; (try with_reducible rfl)); (try simp only [Act.put, List.setIfInBounds_toArray, List.set_cons_zero, List.set_cons_succ]))
      (refine wpAnyH_take (i := 11) (v := ?_) rfl (by kernel_rfl) (by kernel_rfl) (by kernel_rfl) (fun _ _ _ h => h) (Or.inl ⟨by kernel_rfl, ?_⟩) (by assumption) ?_; rotate_left 1; (intro W0 hSw; (try dsimp only at hSw); go_simp; (try with_reducible rfl)); (try simp only [Act.put, List.setIfInBounds_toArray, List.set_cons_zero, List.set_cons_succ]))
      refine wpAnyH_ready (rs := [1]) (by kernel_rfl) (by simp) ?_
      refine AllReadyH.cons rfl (fun K hK => ?_) AllReadyH.nil
      go_simp
      refine CSt.out.mono ?_
      rintro e w6 ⟨rfl, _, b6, _⟩
      have b56 : Below w3.heap.size w5 w6 := (Below.refl _ w5).drew.trans b6
      have b36 := b35.trans b56
      have R6 := HR3.out.below b36
      have N6 : w6.heap[w.heap.size]? = some z48 := (b56.block _ y3).trans N5
      have n6 : w6.heap[w1.heap.size]? = some (.cells #[.int .i64 ek, .string es, .slice ea en ec, .int .i64 fk, .bool fb, .int .i64 fi, .string fs, .slice fa fn fc, .slice ga gn gc] 48 (0, 0)) := (b56.block _ z3).trans n5
      have q0 : w6.cell? ⟨w.heap.size, 0, none⟩ = some (.int .i64 0) := cell_of_block N6 0
      have q1 : w6.cell? ⟨w.heap.size, 1, none⟩ = some (.string ⟨#[]⟩) := cell_of_block N6 1
      have q2 : w6.cell? ⟨w.heap.size, 2, none⟩ = some (.slice none 0 0) := cell_of_block N6 2
      have q3 : w6.cell? ⟨w.heap.size, 3, none⟩ = some (.int .i64 0) := cell_of_block N6 3
      have q4 : w6.cell? ⟨w.heap.size, 4, none⟩ = some (.bool false) := cell_of_block N6 4
      have q5 : w6.cell? ⟨w.heap.size, 5, none⟩ = some (.int .i64 0) := cell_of_block N6 5
      have q6 : w6.cell? ⟨w.heap.size, 6, none⟩ = some (.string ⟨#[]⟩) := cell_of_block N6 6
      have q7 : w6.cell? ⟨w.heap.size, 7, none⟩ = some (.slice none 0 0) := cell_of_block N6 7
      have q8 : w6.cell? ⟨w.heap.size, 8, none⟩ = some (.slice none 0 0) := cell_of_block N6 8
      have kfq : ∀ ii, w6.frozen? ⟨w.heap.size, ii, none⟩ = false := frozen_of_block N6
      go_wp2_with fail
      refine hK.out _ _ ⟨R6.pb, n6⟩ (fun hHeld => ?_)
      clear hK K
      (try simp only [Act.put, List.setIfInBounds_toArray, List.set_cons_zero, List.set_cons_succ])
      (refine wpAnyH_take (i := 12) (v := ?_) rfl (by kernel_rfl) (by kernel_rfl) (by kernel_rfl) (fun _ _ _ h => h) (Or.inl ⟨by kernel_rfl, ?_⟩) (by assumption) ?_; rotate_left 1; (intro W0 hSw; (try dsimp only at hSw); go_simp; (try with_reducible rfl)); (try simp only [Act.put, List.setIfInBounds_toArray, List.set_cons_zero, List.set_cons_succ]))
      refine wpAnyH_ready (rs := [13]) (by kernel_rfl) (by simp) ?_
      refine AllReadyH.cons rfl (fun K hK => ?_) AllReadyH.nil
      go_simp
      have RF := hmk (R6.box9 (Nat.le_refl _) hlt (.int .i64 ek) (.string es) (.slice ea en ec) (.int .i64 fk) (.bool fb) (.int .i64 fi) (.string fs) (.slice fa fn fc) (.slice ga gn gc))
      have G9 := st9_grownZ w6 w.heap.size (.int .i64 ek) (.string es) (.slice ea en ec) (.int .i64 fk) (.bool fb) (.int .i64 fi) (.string fs) (.slice fa fn fc) (.slice ga gn gc)
      have hwz : w.heap.size < w1.heap.size := Nat.lt_of_lt_of_le HBZ.out hz1.out
      have n7 := (G9.block w1.heap.size (Nat.lt_of_lt_of_le z3 b36.size) (fun e => by have := Option.some.inj e; omega)).trans n6
      have HLL := hmk (El.lies_keep (S := New (w.alloc z48) w1) (S' := New w (((((((((w6.setCell ⟨w.heap.size, 0, none⟩ (.int .i64 ek)).setCell ⟨w.heap.size, 1, none⟩ (.string es)).setCell ⟨w.heap.size, 2, none⟩ (.slice ea en ec)).setCell ⟨w.heap.size, 3, none⟩ (.int .i64 fk)).setCell ⟨w.heap.size, 4, none⟩ (.bool fb)).setCell ⟨w.heap.size, 5, none⟩ (.int .i64 fi)).setCell ⟨w.heap.size, 6, none⟩ (.string fs)).setCell ⟨w.heap.size, 7, none⟩ (.slice fa fn fc)).setCell ⟨w.heap.size, 8, none⟩ (.slice ga gn gc))) (fun y hy => G9.block y (Nat.lt_of_lt_of_le (Nat.lt_trans hy.2 z3) b36.size) (fun e => by have := Option.some.inj e; have := Nat.lt_of_lt_of_le HBZ.out hy.1; omega)) (New.sub (Nat.le_of_lt HBZ.out) (Nat.le_trans (Nat.le_of_lt (Nat.lt_of_lt_of_le z3 b36.size)) G9.size)) (HL2.out w6 (b13.trans (b36.mono (Nat.le_of_lt z3)))))
      refine hK.out _ _ ⟨RF.out.pb, n7⟩ (fun hHeld => ?_)
      clear hK K G9
      (try simp only [Act.put, List.setIfInBounds_toArray, List.set_cons_zero, List.set_cons_succ])
      first
        | (refine wpAnyH_take (i := 14) (v := ?_) rfl (by kernel_rfl) (by kernel_rfl) (by kernel_rfl) (fun _ _ _ h => h) (Or.inl ⟨by kernel_rfl, ?_⟩) (by assumption) ?_; rotate_left 1; (intro W0 hSw; (try dsimp only at hSw); go_simp; (try with_reducible rfl)); (try simp only [Act.put, List.setIfInBounds_toArray, List.set_cons_zero, List.set_cons_succ]))
        | (refine wpAnyH_ready (rs := [14]) (by kernel_rfl) (by simp) ?_; refine AllReadyH.cons rfl (fun K hK => ?_) AllReadyH.nil; go_simp; refine hK.out _ _ ⟨RF.out.pb, n7⟩ (fun hHeld => ?_); clear hK K; (try simp only [Act.put, List.setIfInBounds_toArray, List.set_cons_zero, List.set_cons_succ]))
      refine wpAnyH_done (by kernel_rfl) ?_ _
      (try dsimp only [Act.put, List.getElem_toArray, List.getElem_cons_succ, List.getElem_cons_zero, List.setIfInBounds_toArray, List.set_cons_zero, List.set_cons_succ])
      clear hHeld
      go_wp2_with fail
      (try simp only [Exit.inBlock, Exit.then])
      refine bodyPost_ret (v := .tuple #[.agg #[.int .i64 ek, .string es, .slice ea en ec, .int .i64 fk, .bool fb, .int .i64 fi, .string fs, .slice fa fn fc, .slice ga gn gc], .bool true]) ?_ rfl (.inl ⟨x, k1, [.int .i64 ek, .string es, .slice ea en ec, .int .i64 fk, .bool fb, .int .i64 fi, .string fs, .slice fa fn fc, .slice ga gn gc], nxt_3 HX.out HEB.out HEQ.out, rfl, HLL.out, RF.out⟩)
      rw [results_cell_tmp rfl]
      go_simp
    · have HEQ := hmk hEQ
      have hF : (elT x == (s.extract k k1).toList) = false := by
        rw [ext_mid s k k1 (by omega) HR5.out.le, Lib.toList_data, beq_eq_false_iff_ne]
        exact hEQ
      clear hEQ
      have hkk : (k : Int) ≤ k1 := by omega
      have hk1s : (k1 : Int) ≤ s.size := by have := HR5.out.le; omega
      refine wp_region_held_drew (S := (fun W => W.heap[g]? = some (.cells #[.string s, .int .i64 (k1 : Int)] 59 (0, 0)) ∧ W.heap[w1.heap.size]? = some (.cells #[.int .i64 ek, .string es, .slice ea en ec, .int .i64 fk, .bool fb, .int .i64 fi, .string fs, .slice fa fn fc, .slice ga gn gc] 48 (0, 0)))) (by kernel_rfl) ⟨HR5.out.pb, n5⟩ (fun hHeld => ?_)
      (refine wpAnyH_take (i := 0) (v := ?_) rfl (by kernel_rfl) (by kernel_rfl) (by kernel_rfl) (fun _ _ _ h => h) (Or.inl ⟨by kernel_rfl, ?_⟩) (by assumption) ?_; rotate_left 1; (intro W0 hSw; (try dsimp only at hSw); have z0 : W0.cell? ⟨w1.heap.size, 0, none⟩ = some (.int .i64 ek) := cell_of_block hSw.2 0; have z1 : W0.cell? ⟨w1.heap.size, 1, none⟩ = some (.string es) := cell_of_block hSw.2 1; have z2 : W0.cell? ⟨w1.heap.size, 2, none⟩ = some (.slice ea en ec) := cell_of_block hSw.2 2; have z3 : W0.cell? ⟨w1.heap.size, 3, none⟩ = some (.int .i64 fk) := cell_of_block hSw.2 3; have z4 : W0.cell? ⟨w1.heap.size, 4, none⟩ = some (.bool fb) := cell_of_block hSw.2 4; have z5 : W0.cell? ⟨w1.heap.size, 5, none⟩ = some (.int .i64 fi) := cell_of_block hSw.2 5; have z6 : W0.cell? ⟨w1.heap.size, 6, none⟩ = some (.string fs) := cell_of_block hSw.2 6; have z7 : W0.cell? ⟨w1.heap.size, 7, none⟩ = some (.slice fa fn fc) := cell_of_block hSw.2 7; have z8 : W0.cell? ⟨w1.heap.size, 8, none⟩ = some (.slice ga gn gc) := cell_of_block hSw.2 8; go_simp; (try with_reducible rfl)); (try simp only [Act.put, List.setIfInBounds_toArray, List.set_cons_zero, List.set_cons_succ]))
      (refine wpAnyH_take (i := 2) (v := ?_) rfl (by kernel_rfl) (by kernel_rfl) (by kernel_rfl) (fun _ _ _ h => h) (Or.inl ⟨by kernel_rfl, ?_⟩) (by assumption) ?_; rotate_left 1; (intro W0 hSw; (try dsimp only at hSw); go_simp; (try with_reducible rfl)); (try simp only [Act.put, List.setIfInBounds_toArray, List.set_cons_zero, List.set_cons_succ]))
      (refine wpAnyH_take (i := 3) (v := ?_) rfl (by kernel_rfl) (by kernel_rfl) (by kernel_rfl) (fun _ _ _ h => h) (Or.inl ⟨by kernel_rfl, ?_⟩) (by assumption) ?_; rotate_left 1; (intro W0 hSw; (try dsimp only at hSw); go_simp; (try with_reducible rfl)); (try simp only [Act.put, List.setIfInBounds_toArray, List.set_cons_zero, List.set_cons_succ]))
      (refine wpAnyH_take (i := 4) (v := ?_) rfl (by kernel_rfl) (by kernel_rfl) (by kernel_rfl) (fun _ _ _ h => h) (Or.inl ⟨by kernel_rfl, ?_⟩) (by assumption) ?_; rotate_left 1; (intro W0 hSw; (try dsimp only at hSw); go_simp; (try with_reducible rfl)); (try simp only [Act.put, List.setIfInBounds_toArray, List.set_cons_zero, List.set_cons_succ]))
      (refine wpAnyH_take (i := 5) (v := ?_) rfl (by kernel_rfl) (by kernel_rfl) (by kernel_rfl) (fun _ _ _ h => h) (Or.inl ⟨by kernel_rfl, ?_⟩) (by assumption) ?_; rotate_left 1; (intro W0 hSw; (try dsimp only at hSw); have z0 : W0.cell? ⟨g, 0, none⟩ = some (.string s) := cell_of_block hSw.1 0; go_simp; (try with_reducible rfl)); (try simp only [Act.put, List.setIfInBounds_toArray, List.set_cons_zero, List.set_cons_succ]))
      (refine wpAnyH_take (i := 6) (v := ?_) rfl (by kernel_rfl) (by kernel_rfl) (by kernel_rfl) (fun _ _ _ h => h) (Or.inl ⟨by kernel_rfl, ?_⟩) (by assumption) ?_; rotate_left 1; (intro W0 hSw; (try dsimp only at hSw); go_simp; (try with_reducible rfl)); (try simp only [Act.put, List.setIfInBounds_toArray, List.set_cons_zero, List.set_cons_succ]))
      (refine wpAnyH_take (i := 7) (v := ?_) rfl (by kernel_rfl) (by kernel_rfl) (by kernel_rfl) (fun _ _ _ h => h) (Or.inl ⟨by kernel_rfl, ?_⟩) (by assumption) ?_; rotate_left 1; (intro W0 hSw; (try dsimp only at hSw); go_simp; (try with_reducible rfl)); (try simp only [Act.put, List.setIfInBounds_toArray, List.set_cons_zero, List.set_cons_succ]))
      (refine wpAnyH_take (i := 8) (v := ?_) rfl (by kernel_rfl) (by kernel_rfl) (by kernel_rfl) (fun _ _ _ h => h) (Or.inl ⟨by kernel_rfl, ?_⟩) (by assumption) ?_; rotate_left 1; (intro W0 hSw; (try dsimp only at hSw); go_simp; (try with_reducible rfl)); (try simp only [Act.put, List.setIfInBounds_toArray, List.set_cons_zero, List.set_cons_succ]))
      (refine wpAnyH_take (i := 9) (v := ?_) rfl (by kernel_rfl) (by kernel_rfl) (by kernel_rfl) (fun _ _ _ h => h) (Or.inl ⟨by kernel_rfl, ?_⟩) (by assumption) ?_; rotate_left 1; (intro W0 hSw; (try dsimp only at hSw); go_simp; (try with_reducible rfl)); (try simp only [Act.put, List.setIfInBounds_toArray, List.set_cons_zero, List.set_cons_succ]))
      (refine wpAnyH_take (i := 10) (v := ?_) rfl (by kernel_rfl) (by kernel_rfl) (by kernel_rfl) (fun _ _ _ h => h) (Or.inl ⟨by kernel_rfl, ?_⟩) (by assumption) ?_; rotate_left 1; (intro W0 hSw; (try dsimp only at hSw); have z0 : W0.cell? ⟨g, 1, none⟩ = some (.int .i64 (k1 : Int)) := cell_of_block hSw.1 1; go_simp; (try with_reducible rfl)); (try simp only [Act.put, List.setIfInBounds_toArray, List.set_cons_zero, List.set_cons_succ]))
      (refine wpAnyH_take (i := 11) (v := ?_) rfl (by kernel_rfl) (by kernel_rfl) (by kernel_rfl) (fun _ _ _ h => h) (Or.inl ⟨by kernel_rfl, ?_⟩) (by assumption) ?_; rotate_left 1; (intro W0 hSw; (try dsimp only at hSw); go_simp; (try with_reducible rfl)); (try simp only [Act.put, List.setIfInBounds_toArray, List.set_cons_zero, List.set_cons_succ]))
      refine wpAnyH_ready (rs := [1]) (by kernel_rfl) (by simp) ?_
      refine AllReadyH.cons rfl (fun K hK => ?_) AllReadyH.nil
      go_simp
      refine CSt.out.mono ?_
      rintro e w6 ⟨rfl, _, b6, _⟩
      have b56 : Below w3.heap.size w5 w6 := (Below.refl _ w5).drew.trans b6
      have b36 := b35.trans b56
      have R6 := HR3.out.below b36
      have N6 : w6.heap[w.heap.size]? = some z48 := (b56.block _ y3).trans N5
      have n6 : w6.heap[w1.heap.size]? = some (.cells #[.int .i64 ek, .string es, .slice ea en ec, .int .i64 fk, .bool fb, .int .i64 fi, .string fs, .slice fa fn fc, .slice ga gn gc] 48 (0, 0)) := (b56.block _ z3).trans n5
      have q0 : w6.cell? ⟨w.heap.size, 0, none⟩ = some (.int .i64 0) := cell_of_block N6 0
      have q1 : w6.cell? ⟨w.heap.size, 1, none⟩ = some (.string ⟨#[]⟩) := cell_of_block N6 1
      have q2 : w6.cell? ⟨w.heap.size, 2, none⟩ = some (.slice none 0 0) := cell_of_block N6 2
      have q3 : w6.cell? ⟨w.heap.size, 3, none⟩ = some (.int .i64 0) := cell_of_block N6 3
      have q4 : w6.cell? ⟨w.heap.size, 4, none⟩ = some (.bool false) := cell_of_block N6 4
      have q5 : w6.cell? ⟨w.heap.size, 5, none⟩ = some (.int .i64 0) := cell_of_block N6 5
      have q6 : w6.cell? ⟨w.heap.size, 6, none⟩ = some (.string ⟨#[]⟩) := cell_of_block N6 6
      have q7 : w6.cell? ⟨w.heap.size, 7, none⟩ = some (.slice none 0 0) := cell_of_block N6 7
      have q8 : w6.cell? ⟨w.heap.size, 8, none⟩ = some (.slice none 0 0) := cell_of_block N6 8
      have kfq : ∀ ii, w6.frozen? ⟨w.heap.size, ii, none⟩ = false := frozen_of_block N6
      go_wp2_with fail
      refine hK.out _ _ ⟨R6.pb, n6⟩ (fun hHeld => ?_)
      clear hK K
      (try simp only [Act.put, List.setIfInBounds_toArray, List.set_cons_zero, List.set_cons_succ])
      (refine wpAnyH_take (i := 12) (v := ?_) rfl (by kernel_rfl) (by kernel_rfl) (by kernel_rfl) (fun _ _ _ h => h) (Or.inl ⟨by kernel_rfl, ?_⟩) (by assumption) ?_; rotate_left 1; (intro W0 hSw; (try dsimp only at hSw); go_simp; (try with_reducible rfl)); (try simp only [Act.put, List.setIfInBounds_toArray, List.set_cons_zero, List.set_cons_succ]))
      refine wpAnyH_ready (rs := [13]) (by kernel_rfl) (by simp) ?_
      refine AllReadyH.cons rfl (fun K hK => ?_) AllReadyH.nil
      go_simp
      have RF := hmk (R6.box9 (Nat.le_refl _) hlt (.int .i64 ek) (.string es) (.slice ea en ec) (.int .i64 fk) (.bool fb) (.int .i64 fi) (.string fs) (.slice fa fn fc) (.slice ga gn gc))
      have G9 := st9_grownZ w6 w.heap.size (.int .i64 ek) (.string es) (.slice ea en ec) (.int .i64 fk) (.bool fb) (.int .i64 fi) (.string fs) (.slice fa fn fc) (.slice ga gn gc)
      have hwz : w.heap.size < w1.heap.size := Nat.lt_of_lt_of_le HBZ.out hz1.out
      have n7 := (G9.block w1.heap.size (Nat.lt_of_lt_of_le z3 b36.size) (fun e => by have := Option.some.inj e; omega)).trans n6
      have HLL := hmk (El.lies_keep (S := New (w.alloc z48) w1) (S' := New w (((((((((w6.setCell ⟨w.heap.size, 0, none⟩ (.int .i64 ek)).setCell ⟨w.heap.size, 1, none⟩ (.string es)).setCell ⟨w.heap.size, 2, none⟩ (.slice ea en ec)).setCell ⟨w.heap.size, 3, none⟩ (.int .i64 fk)).setCell ⟨w.heap.size, 4, none⟩ (.bool fb)).setCell ⟨w.heap.size, 5, none⟩ (.int .i64 fi)).setCell ⟨w.heap.size, 6, none⟩ (.string fs)).setCell ⟨w.heap.size, 7, none⟩ (.slice fa fn fc)).setCell ⟨w.heap.size, 8, none⟩ (.slice ga gn gc))) (fun y hy => G9.block y (Nat.lt_of_lt_of_le (Nat.lt_trans hy.2 z3) b36.size) (fun e => by have := Option.some.inj e; have := Nat.lt_of_lt_of_le HBZ.out hy.1; omega)) (New.sub (Nat.le_of_lt HBZ.out) (Nat.le_trans (Nat.le_of_lt (Nat.lt_of_lt_of_le z3 b36.size)) G9.size)) (HL2.out w6 (b13.trans (b36.mono (Nat.le_of_lt z3)))))
      refine hK.out _ _ ⟨RF.out.pb, n7⟩ (fun hHeld => ?_)
      clear hK K G9
      (try simp only [Act.put, List.setIfInBounds_toArray, List.set_cons_zero, List.set_cons_succ])
      first
        | (refine wpAnyH_take (i := 14) (v := ?_) rfl (by kernel_rfl) (by kernel_rfl) (by kernel_rfl) (fun _ _ _ h => h) (Or.inl ⟨by kernel_rfl, ?_⟩) (by assumption) ?_; rotate_left 1; (intro W0 hSw; (try dsimp only at hSw); go_simp; (try with_reducible rfl)); (try simp only [Act.put, List.setIfInBounds_toArray, List.set_cons_zero, List.set_cons_succ]))
        | (refine wpAnyH_ready (rs := [14]) (by kernel_rfl) (by simp) ?_; refine AllReadyH.cons rfl (fun K hK => ?_) AllReadyH.nil; go_simp; refine hK.out _ _ ⟨RF.out.pb, n7⟩ (fun hHeld => ?_); clear hK K; (try simp only [Act.put, List.setIfInBounds_toArray, List.set_cons_zero, List.set_cons_succ]))
      refine wpAnyH_done (by kernel_rfl) ?_ _
      (try dsimp only [Act.put, List.getElem_toArray, List.getElem_cons_succ, List.getElem_cons_zero, List.setIfInBounds_toArray, List.set_cons_zero, List.set_cons_succ])
      clear hHeld
      go_wp2_with fail
      (try simp only [Exit.inBlock, Exit.then])
      refine bodyPost_ret (v := .tuple #[.agg #[.int .i64 ek, .string es, .slice ea en ec, .int .i64 fk, .bool fb, .int .i64 fi, .string fs, .slice fa fn fc, .slice ga gn gc], .bool false]) ?_ rfl (.inr ⟨nxt_4 HX.out HEB.out HEQ.out, ek, es, ea, en, ec, fk, fb, fi, fs, fa, fn, fc, ga, gn, gc, k1, rfl, RF.out⟩)
      rw [results_cell_tmp rfl]
      go_simp
end Go.Proofs.YtihcggepeadklaaGreatDoor
