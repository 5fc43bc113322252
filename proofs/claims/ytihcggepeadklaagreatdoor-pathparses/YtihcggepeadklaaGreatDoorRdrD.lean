import Derived.Test.YtihcggepeadklaaGreatDoorG27
/- path's reader: scalar. -/
set_option linter.unusedSimpArgs false
set_option linter.unusedVariables false
namespace Go.Proofs.YtihcggepeadklaaGreatDoor
open Go.RowKit Go.Lib
/-- some bytes were gone past, or not -/
def TkP (l : List UInt8) (k : Nat) (pl : List UInt8) (n g : Nat) (s : ByteArray) (w : World) (e : Ending) (w' : World) : Prop :=
  (tkB l k pl = true ∧ e = .returned (.bool true) ∧ RdP g s w w' (k + n)) ∨ (tkB l k pl = false ∧ e = .returned (.bool false) ∧ RdP g s w w' k)
theorem ptk (g : Nat) (s p : ByteArray) (k : Nat) (pl : List UInt8) (n : Nat) (w : World) (h : PB g s k w) (hs : s.size ≤ 140737488355000) (hk : k ≤ s.size) (hp : p.data.toList = pl) (hn : p.size = n) (h0 : 0 < n) (h1 : n ≤ 100) :
    Calls Tryz.prog 68 #[.pointer (some ⟨g, 0, none⟩), .string p] w (TkP s.data.toList k pl n g s w) := by
  refine (ptake_any g s p k w h (by omega) hk (by omega)).mono ?_
  rintro e w' ⟨rfl, h1, h2⟩
  have hl : pl.length = n := by rw [← hp, ← hn]; simp
  rw [hp] at h1 ⊢
  cases hT : tkB s.data.toList k pl with
  | true =>
    rw [hT, if_pos rfl, hn] at h1
    have := tkB_le hT (by omega)
    have e2 : s.data.toList.length = s.size := by simp
    exact .inl ⟨hT, rfl, by omega, h1, h2⟩
  | false =>
    rw [hT, if_neg (by decide)] at h1
    exact .inr ⟨hT, rfl, hk, h1, h2⟩
theorem sca_1 {l : List UInt8} {k : Nat} (h : tkB l k [116, 114, 117, 101] = true) : scaF l k = some (.mk 1 true 0 ⟨#[]⟩ [] [], k + 4) := by rw [scaF, if_pos h]
theorem sca_2 {l : List UInt8} {k : Nat} (h : tkB l k [116, 114, 117, 101] = false) (h2 : tkB l k [102, 97, 108, 115, 101] = true) : scaF l k = some (.mk 1 false 0 ⟨#[]⟩ [] [], k + 5) := by rw [scaF, if_neg (by rw [h]; decide), if_pos h2]
theorem sca_3 {l : List UInt8} {k : Nat} (h : tkB l k [116, 114, 117, 101] = false) (h2 : tkB l k [102, 97, 108, 115, 101] = false) (h3 : tkB l k [34] = true) : scaF l k = (quoF l k).map (fun x => (.mk 3 false 0 x.1 [] [], x.2)) := by
  rw [scaF, if_neg (by rw [h]; decide), if_neg (by rw [h2]; decide), if_pos h3]
theorem sca_4 {l : List UInt8} {k : Nat} (h : tkB l k [116, 114, 117, 101] = false) (h2 : tkB l k [102, 97, 108, 115, 101] = false) (h3 : tkB l k [34] = false) : scaF l k = intF l k := by
  rw [scaF, if_neg (by rw [h]; decide), if_neg (by rw [h2]; decide), if_neg (by rw [h3]; decide)]
theorem quoF_size {s : ByteArray} {k : Nat} {x : ByteArray} {k1 : Nat} (h : quoF s.data.toList k = some (x, k1)) : x.size ≤ s.size := by
  unfold quoF at h
  split at h
  · rename_i h0
    have := (Q.unq_place s (k : Int)).2 h0
    have e := congrArg Prod.fst (Option.some.inj h)
    subst e
    show Array.size _ ≤ _
    simpa using this
  · cases h
set_option maxHeartbeats 8000000 in
set_option maxRecDepth 100000 in
theorem pscalar_any (g : Nat) (s : ByteArray) (k : Nat) (w : World) (h : PB g s k w) (t : Td w) (hs : s.size ≤ 140737488355000) (hk : k ≤ s.size) (hg : 9 < g) :
    Calls Tryz.prog 70 #[.pointer (some ⟨g, 0, none⟩)] w (ScP (scaF s.data.toList k) g s w) := by
  have hlt := h.lt
  have bA : Below w.heap.size w (w.alloc z46) := (Below.refl _ _).alloc (Nat.le_refl _) _
  have nb := heap_alloc_new w z46
  have hbsz : w.heap.size < (w.alloc z46).heap.size := by rw [alloc_size]; omega
  have RA : RdP g s w (w.alloc z46) k := ⟨hk, h.keep bA, grown_belowS bA g⟩
  have HT := hmk t
  have KA : Hid (∀ W k', RdP g s (w.alloc z46) W k' → RdP g s w W k' ∧ W.heap[w.heap.size]? = some z46 ∧ Td W) := fun W k' r =>
    ⟨RA.trans r, (r.gr.block _ hbsz (fun e => by have := Option.some.inj e; omega)).trans nb, HT.out.grown (RA.trans r).gr hg⟩
  have CT : Hid (∀ W, PB g s k W → Calls Tryz.prog 68 #[.pointer (some ⟨g, 0, none⟩), .string ⟨#[116, 114, 117, 101]⟩] W (TkP s.data.toList k [116, 114, 117, 101] 4 g s W)) := fun W hW => ptk g s _ k _ 4 W hW hs hk rfl rfl (by decide) (by decide)
  have CF : Hid (∀ W, PB g s k W → Calls Tryz.prog 68 #[.pointer (some ⟨g, 0, none⟩), .string ⟨#[102, 97, 108, 115, 101]⟩] W (TkP s.data.toList k [102, 97, 108, 115, 101] 5 g s W)) := fun W hW => ptk g s _ k _ 5 W hW hs hk rfl rfl (by decide) (by decide)
  have CP : Hid (∀ W, Calls Tryz.prog 107 #[.string (s.extract k s.size), .string ⟨#[34]⟩] W fun e w' => e = .returned (.bool (tkB s.data.toList k [34])) ∧ w' = W) := fun W => by
    have := Any.strings_HasPrefix Tryz.lays99 (s.extract k s.size) ⟨#[34]⟩ W
    rw [ext_list s k] at this
    exact this
  have hsl := slice_from s k hk
  have CQ : Hid (∀ W, PB g s k W → Td W → Calls Tryz.prog 109 #[.pointer (some ⟨g, 0, none⟩)] W (StP (quoF s.data.toList k) g s W)) := fun W hW tW => pquo_any g s k W hW tW hs hk
  have CI : Hid (∀ W, PB g s k W → Td W → Calls Tryz.prog 110 #[.pointer (some ⟨g, 0, none⟩)] W (ScP (intF s.data.toList k) g s W)) := fun W hW tW => pinteger_any g s k W hW tW hs hk hg
  have HQS : Hid (∀ x k1, quoF s.data.toList k = some (x, k1) → x.size ≤ maxLen) := fun x k1 hx => by have := quoF_size hx; unfold maxLen; omega
  have PA := RA.pb
  have HRA := hmk RA
  clear h t bA RA nb hbsz
  go_enter Tryz.func70, Tryz.ntmps70
  go_wp2_with fail
  refine (CT.out _ PA).mono ?_
  rintro e w1 (⟨hT1, rfl, r1⟩ | ⟨hT1, rfl, r1⟩)
  · obtain ⟨R1, N1, t1⟩ := KA.out w1 _ r1
    have H1 := hmk hT1
    clear hT1 r1
    have q0 : w1.cell? ⟨w.heap.size, 0, none⟩ = some (.int .i64 0) := cell_of_block N1 0
    have q1 : w1.cell? ⟨w.heap.size, 1, none⟩ = some (.bool false) := cell_of_block N1 1
    have q2 : w1.cell? ⟨w.heap.size, 2, none⟩ = some (.int .i64 0) := cell_of_block N1 2
    have q3 : w1.cell? ⟨w.heap.size, 3, none⟩ = some (.string ⟨#[]⟩) := cell_of_block N1 3
    have q4 : w1.cell? ⟨w.heap.size, 4, none⟩ = some (.slice none 0 0) := cell_of_block N1 4
    have q5 : w1.cell? ⟨w.heap.size, 5, none⟩ = some (.slice none 0 0) := cell_of_block N1 5
    have kf : ∀ ii, w1.frozen? ⟨w.heap.size, ii, none⟩ = false := frozen_of_block N1
    have RF := hmk (R1.box6 (Nat.le_refl _) hlt (.int .i64 1) (.bool true) (.int .i64 0) (.string ⟨#[]⟩) (.slice none 0 0) (.slice none 0 0))
    go_wp2_with fail
    (try simp only [Exit.inBlock, Exit.then])
    refine bodyPost_ret (v := .tuple #[.agg #[.int .i64 1, .bool true, .int .i64 0, .string ⟨#[]⟩, .slice none 0 0, .slice none 0 0], .bool true]) ?_ rfl (.inl ⟨1, true, 0, ⟨#[]⟩, k + 4, sca_1 H1.out, rfl, ⟨by omega, by omega⟩, In64.zero, Nat.zero_le _, RF.out⟩)
    rw [results_cell_tmp rfl]
    go_simp
  have H1 := hmk hT1
  clear hT1
  have P1 := r1.pb
  go_wp2_with fail
  refine (CF.out _ P1).mono ?_
  rintro e w2 (⟨hT2, rfl, r2⟩ | ⟨hT2, rfl, r2⟩)
  · obtain ⟨R2, N2, t2⟩ := KA.out w2 _ (r1.trans r2)
    have H2 := hmk hT2
    clear hT2 r1 r2 P1
    have q0 : w2.cell? ⟨w.heap.size, 0, none⟩ = some (.int .i64 0) := cell_of_block N2 0
    have q1 : w2.cell? ⟨w.heap.size, 1, none⟩ = some (.bool false) := cell_of_block N2 1
    have q2 : w2.cell? ⟨w.heap.size, 2, none⟩ = some (.int .i64 0) := cell_of_block N2 2
    have q3 : w2.cell? ⟨w.heap.size, 3, none⟩ = some (.string ⟨#[]⟩) := cell_of_block N2 3
    have q4 : w2.cell? ⟨w.heap.size, 4, none⟩ = some (.slice none 0 0) := cell_of_block N2 4
    have q5 : w2.cell? ⟨w.heap.size, 5, none⟩ = some (.slice none 0 0) := cell_of_block N2 5
    have kf : ∀ ii, w2.frozen? ⟨w.heap.size, ii, none⟩ = false := frozen_of_block N2
    have RF := hmk (R2.box6 (Nat.le_refl _) hlt (.int .i64 1) (.bool false) (.int .i64 0) (.string ⟨#[]⟩) (.slice none 0 0) (.slice none 0 0))
    go_wp2_with fail
    (try simp only [Exit.inBlock, Exit.then])
    refine bodyPost_ret (v := .tuple #[.agg #[.int .i64 1, .bool false, .int .i64 0, .string ⟨#[]⟩, .slice none 0 0, .slice none 0 0], .bool true]) ?_ rfl (.inl ⟨1, false, 0, ⟨#[]⟩, k + 5, sca_2 H1.out H2.out, rfl, ⟨by omega, by omega⟩, In64.zero, Nat.zero_le _, RF.out⟩)
    rw [results_cell_tmp rfl]
    go_simp
  have H2 := hmk hT2
  clear hT2
  obtain ⟨R2, N2, t2⟩ := KA.out w2 _ (r1.trans r2)
  clear P1
  have c0 := R2.pb.c0
  have c1 := R2.pb.c1
  cases hT3 : tkB s.data.toList k [34] with
  | true =>
    rw [hT3] at CP
    have H3 := hmk hT3
    have K2 : Hid (∀ W, (∃ q, W = w2.drewN q) → RdP g s (w.alloc z46) W k) := fun W ⟨q, hq⟩ => by subst hq; exact ⟨r2.le, r2.pb.drewN q, grown_drewN (r1.trans r2).gr q⟩
    clear hT3
    go_wp2_with fail
    go_quiet ((go_at_call 107; exact Calls.quiet_of_same (CP.out _)))
    have r3 := K2.out _ ⟨nq, rfl⟩
    obtain ⟨R3, N3, t3⟩ := KA.out _ _ r3
    clear R2 N2 t2 c0 c1
    go_wp2_with fail
    refine (CQ.out _ R3.pb t3).mono ?_
    rintro e w4 (⟨x, k1, hq, rfl, r4⟩ | ⟨hq, k1, rfl, r4⟩)
    · obtain ⟨R4, N4, t4⟩ := KA.out w4 _ (r3.trans r4)
      have HQ := hmk hq
      clear hq R3 N3 t3
      have q0 : w4.cell? ⟨w.heap.size, 0, none⟩ = some (.int .i64 0) := cell_of_block N4 0
      have q1 : w4.cell? ⟨w.heap.size, 1, none⟩ = some (.bool false) := cell_of_block N4 1
      have q2 : w4.cell? ⟨w.heap.size, 2, none⟩ = some (.int .i64 0) := cell_of_block N4 2
      have q3 : w4.cell? ⟨w.heap.size, 3, none⟩ = some (.string ⟨#[]⟩) := cell_of_block N4 3
      have q4 : w4.cell? ⟨w.heap.size, 4, none⟩ = some (.slice none 0 0) := cell_of_block N4 4
      have q5 : w4.cell? ⟨w.heap.size, 5, none⟩ = some (.slice none 0 0) := cell_of_block N4 5
      have kf : ∀ ii, w4.frozen? ⟨w.heap.size, ii, none⟩ = false := frozen_of_block N4
      have RF := hmk (R4.box6 (Nat.le_refl _) hlt (.int .i64 3) (.bool false) (.int .i64 0) (.string x) (.slice none 0 0) (.slice none 0 0))
      go_wp2_with fail
      (try simp only [Exit.inBlock, Exit.then])
      refine bodyPost_ret (v := .tuple #[.agg #[.int .i64 3, .bool false, .int .i64 0, .string x, .slice none 0 0, .slice none 0 0], .bool true]) ?_ rfl (.inl ⟨3, false, 0, x, k1, by rw [sca_3 H1.out H2.out H3.out, HQ.out]; rfl, rfl, ⟨by omega, by omega⟩, In64.zero, HQS.out x k1 HQ.out, RF.out⟩)
      rw [results_cell_tmp rfl]
      go_simp
    · obtain ⟨R4, N4, t4⟩ := KA.out w4 _ (r3.trans r4)
      have HQ := hmk hq
      clear hq R3 N3 t3
      have q0 : w4.cell? ⟨w.heap.size, 0, none⟩ = some (.int .i64 0) := cell_of_block N4 0
      have q1 : w4.cell? ⟨w.heap.size, 1, none⟩ = some (.bool false) := cell_of_block N4 1
      have q2 : w4.cell? ⟨w.heap.size, 2, none⟩ = some (.int .i64 0) := cell_of_block N4 2
      have q3 : w4.cell? ⟨w.heap.size, 3, none⟩ = some (.string ⟨#[]⟩) := cell_of_block N4 3
      have q4 : w4.cell? ⟨w.heap.size, 4, none⟩ = some (.slice none 0 0) := cell_of_block N4 4
      have q5 : w4.cell? ⟨w.heap.size, 5, none⟩ = some (.slice none 0 0) := cell_of_block N4 5
      have kf : ∀ ii, w4.frozen? ⟨w.heap.size, ii, none⟩ = false := frozen_of_block N4
      have RF := hmk (R4.box6 (Nat.le_refl _) hlt (.int .i64 3) (.bool false) (.int .i64 0) (.string ⟨#[]⟩) (.slice none 0 0) (.slice none 0 0))
      go_wp2_with fail
      (try simp only [Exit.inBlock, Exit.then])
      refine bodyPost_ret (v := .tuple #[.agg #[.int .i64 3, .bool false, .int .i64 0, .string ⟨#[]⟩, .slice none 0 0, .slice none 0 0], .bool false]) ?_ rfl (.inr ⟨by rw [sca_3 H1.out H2.out H3.out, HQ.out]; rfl, 3, false, 0, ⟨#[]⟩, k1, rfl, RF.out⟩)
      rw [results_cell_tmp rfl]
      go_simp
  | false =>
    rw [hT3] at CP
    have H3 := hmk hT3
    have K2 : Hid (∀ W, (∃ q, W = w2.drewN q) → RdP g s (w.alloc z46) W k) := fun W ⟨q, hq⟩ => by subst hq; exact ⟨r2.le, r2.pb.drewN q, grown_drewN (r1.trans r2).gr q⟩
    clear hT3
    go_wp2_with fail
    go_quiet ((go_at_call 107; exact Calls.quiet_of_same (CP.out _)))
    have r3 := K2.out _ ⟨nq, rfl⟩
    obtain ⟨R3, N3, t3⟩ := KA.out _ _ r3
    clear R2 N2 t2 c0 c1
    go_wp2_with fail
    refine (CI.out _ R3.pb t3).mono ?_
    rintro e w4 (⟨vk, vb, vi, vs, k1, hq, rfl, i1, i2, i3, r4⟩ | ⟨hq, vk, vb, vi, vs, k1, rfl, r4⟩)
    · obtain ⟨R4, N4, t4⟩ := KA.out w4 _ (r3.trans r4)
      have HQ := hmk hq
      have HI := hmk (And.intro i1 (And.intro i2 i3))
      clear hq R3 N3 t3 i1 i2 i3
      have q0 : w4.cell? ⟨w.heap.size, 0, none⟩ = some (.int .i64 0) := cell_of_block N4 0
      have q1 : w4.cell? ⟨w.heap.size, 1, none⟩ = some (.bool false) := cell_of_block N4 1
      have q2 : w4.cell? ⟨w.heap.size, 2, none⟩ = some (.int .i64 0) := cell_of_block N4 2
      have q3 : w4.cell? ⟨w.heap.size, 3, none⟩ = some (.string ⟨#[]⟩) := cell_of_block N4 3
      have q4 : w4.cell? ⟨w.heap.size, 4, none⟩ = some (.slice none 0 0) := cell_of_block N4 4
      have q5 : w4.cell? ⟨w.heap.size, 5, none⟩ = some (.slice none 0 0) := cell_of_block N4 5
      have kf : ∀ ii, w4.frozen? ⟨w.heap.size, ii, none⟩ = false := frozen_of_block N4
      have RF := hmk (R4.box6 (Nat.le_refl _) hlt (.int .i64 vk) (.bool vb) (.int .i64 vi) (.string vs) (.slice none 0 0) (.slice none 0 0))
      go_wp2_with fail
      (try simp only [Exit.inBlock, Exit.then])
      refine bodyPost_ret (v := .tuple #[.agg #[.int .i64 vk, .bool vb, .int .i64 vi, .string vs, .slice none 0 0, .slice none 0 0], .bool true]) ?_ rfl (.inl ⟨vk, vb, vi, vs, k1, by rw [sca_4 H1.out H2.out H3.out, HQ.out], rfl, HI.out.1, HI.out.2.1, HI.out.2.2, RF.out⟩)
      rw [results_cell_tmp rfl]
      go_simp
    · obtain ⟨R4, N4, t4⟩ := KA.out w4 _ (r3.trans r4)
      have HQ := hmk hq
      clear hq R3 N3 t3
      have q0 : w4.cell? ⟨w.heap.size, 0, none⟩ = some (.int .i64 0) := cell_of_block N4 0
      have q1 : w4.cell? ⟨w.heap.size, 1, none⟩ = some (.bool false) := cell_of_block N4 1
      have q2 : w4.cell? ⟨w.heap.size, 2, none⟩ = some (.int .i64 0) := cell_of_block N4 2
      have q3 : w4.cell? ⟨w.heap.size, 3, none⟩ = some (.string ⟨#[]⟩) := cell_of_block N4 3
      have q4 : w4.cell? ⟨w.heap.size, 4, none⟩ = some (.slice none 0 0) := cell_of_block N4 4
      have q5 : w4.cell? ⟨w.heap.size, 5, none⟩ = some (.slice none 0 0) := cell_of_block N4 5
      have kf : ∀ ii, w4.frozen? ⟨w.heap.size, ii, none⟩ = false := frozen_of_block N4
      have RF := hmk (R4.box6 (Nat.le_refl _) hlt (.int .i64 vk) (.bool vb) (.int .i64 vi) (.string vs) (.slice none 0 0) (.slice none 0 0))
      go_wp2_with fail
      (try simp only [Exit.inBlock, Exit.then])
      refine bodyPost_ret (v := .tuple #[.agg #[.int .i64 vk, .bool vb, .int .i64 vi, .string vs, .slice none 0 0, .slice none 0 0], .bool false]) ?_ rfl (.inr ⟨by rw [sca_4 H1.out H2.out H3.out, HQ.out], vk, vb, vi, vs, k1, rfl, RF.out⟩)
      rw [results_cell_tmp rfl]
      go_simp
end Go.Proofs.YtihcggepeadklaaGreatDoor
