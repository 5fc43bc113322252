import Derived.Test.YtihcggepeadklaaGreatDoorDrdP
/- The document's read: a field, no element, an item. -/
set_option linter.unusedSimpArgs false
set_option linter.unusedVariables false
namespace Go.Proofs.YtihcggepeadklaaGreatDoor
open Go.RowKit Go.Lib
/-- what the document's read answers -/
def DrP (R : Option (El × Nat)) (k : Nat) (s : ByteArray) (w : World) (e : Ending) (w' : World) : Prop :=
  Below w.heap.size w w' ∧ ((∃ (x : El) (k1 : Nat) (cs : List Value), R = some (x, k1) ∧ k < k1 ∧ k1 ≤ s.size ∧ e = .returned (.tuple #[.agg cs.toArray, .int .i64 (k1 : Int)]) ∧ x.lies w' (New w w') cs) ∨ (R = none ∧ ∃ (x : El) (cs : List Value), e = .returned (.tuple #[.agg cs.toArray, .int .i64 (-1)]) ∧ x.lies w' (New w w') cs ∧ x.wt ≤ 1))
theorem zel_wt (k : Int) : El.wt ⟨k, ⟨#[]⟩, [], nilW⟩ ≤ 1 := by
  have H0 : nilW.wt = 1 := by simp [nilW, V.wt, wtL, wtM, sz0B]
  rw [El.wt]; dsimp only; rw [H0, wtM, sz0B]; omega
theorem lies_zel (w : World) (S : Nat → Prop) : El.lies w S ⟨0, ⟨#[]⟩, [], nilW⟩ [.int .i64 0, .string ⟨#[]⟩, .slice none 0 0, .int .i64 0, .bool false, .int .i64 0, .string ⟨#[]⟩, .slice none 0 0, .slice none 0 0] :=
  ⟨none, 0, 0, 0, _, rfl, In64.zero, Nat.zero_le _, headN, by show liesM false w S [] 0 0; rw [liesM]; trivial, lies_sca In64.zero In64.zero (Nat.zero_le _) _ _⟩
theorem nat_eq_f {x y : Nat} (h : x ≠ y) : ((x : Int) == (y : Int)) = false := by rw [beq_eq_false_iff_ne]; omega
theorem nat_eq_t {x y : Nat} (h : x = y) : ((x : Int) == (y : Int)) = true := by rw [beq_iff_eq]; omega
def V.kindOf : V → Int
  | .mk k _ _ _ _ _ => k
theorem valP_kind {l : List UInt8} {v : V} {k : Nat} (h : valP l = some (v, k)) : V.kindOf v = 0 ∨ V.kindOf v = 1 ∨ V.kindOf v = 2 ∨ V.kindOf v = 3 := by
  unfold valP at h
  split at h
  · cases h
  · split at h
    · split at h
      · (have e := congrArg Prod.fst (Option.some.inj h); dsimp only at e; rw [← e]); exact .inl rfl
      · cases h
    · split at h
      · split at h
        · (have e := congrArg Prod.fst (Option.some.inj h); dsimp only at e; rw [← e]); exact .inr (.inl rfl)
        · cases h
      · split at h
        · split at h
          · (have e := congrArg Prod.fst (Option.some.inj h); dsimp only at e; rw [← e]); exact .inr (.inl rfl)
          · cases h
        · split at h
          · obtain ⟨i, hi, he⟩ := Option.map_eq_some_iff.1 h
            (have e := congrArg Prod.fst he; dsimp only at e; rw [← e])
            exact .inr (.inr (.inl rfl))
          · cases h
theorem parP_kind {l : List UInt8} {v : V} (h : parP l = some v) : V.kindOf v = 0 ∨ V.kindOf v = 1 ∨ V.kindOf v = 2 ∨ V.kindOf v = 3 := by
  unfold parP at h
  obtain ⟨x, hx, he⟩ := Option.bind_eq_some_iff.1 h
  split at he
  · rw [← Option.some.inj he]
    exact valP_kind (k := x.2) hx
  · cases he
theorem dsca_sz {s : ByteArray} {k : Nat} {vk : Int} {vb : Bool} {vi : Int} {vs : ByteArray} {k1 : Nat} (h : dscaF s.data.toList k = some (.mk vk vb vi vs [] [], k1)) (hs : s.size ≤ 1048576) : In64 vi ∧ vs.size ≤ maxLen ∧ (vk = 0 ∨ vk = 1 ∨ vk = 2 ∨ vk = 3) := by
  have h1 : In64 vi := dscaF_in h
  have h2 := dsca_wt h
  rw [V.wt] at h2
  refine ⟨h1, by unfold maxLen; omega, ?_⟩
  unfold dscaF at h
  split at h
  · obtain ⟨x, hx, he⟩ := Option.map_eq_some_iff.1 h
    have e := congrArg (fun z => V.kindOf z.1) he
    exact .inr (.inr (.inr e.symm))
  · obtain ⟨x, hx, he⟩ := Option.map_eq_some_iff.1 h
    have e := congrArg Prod.fst he
    dsimp only at e
    subst e
    exact parP_kind hx
set_option maxHeartbeats 4000000 in
set_option maxRecDepth 100000 in
theorem dread_fld (s : ByteArray) (k : Nat) (w : World) (hs : s.size ≤ 1048576) (hk : k < s.size) (hc : ((s[k]'hk).toNat : Int) = 46) :
    Calls Tryz.prog 33 #[.string s, .int .i64 (k : Int)] w (DrP (dreadF s.data.toList k) k s w) := by
  have hk0 : (0 : Int) ≤ k := by omega
  have y1 : (k : Int) < s.size := by omega
  have wk : IntKind.i64.wrap ((k : Int) + 1) = (k : Int) + 1 := IntWalk.i64_in _ (by omega)
  have bA : Below w.heap.size w (w.alloc z48) := (Below.refl _ _).alloc (Nat.le_refl _) _
  have nA := heap_alloc_new w z48
  have hzA := alloc_size w z48
  have KA : Hid (∀ W, Below (w.alloc z48).heap.size (w.alloc z48) W → W.heap[w.heap.size]? = some z48 ∧ Below w.heap.size w W) := fun W hW => ⟨(hW.block _ (by omega)).trans nA, bA.trans (hW.mono bA.size)⟩
  have z46' : (((s[k]'hk).toNat : Int) == 46) = true := by rw [beq_iff_eq]; exact hc
  have HD := hmk (drd_1 (tk1_yes (c := 46) hk hc))
  have CW : Hid (∀ W, Calls Tryz.prog 54 #[.string s, .int .i64 ((k : Int) + 1)] W (NwP (namF s.data.toList (k + 1)) W)) := fun W => by
    have h := dwd_any s (k + 1) W (by omega) (by omega)
    rwa [show ((k + 1 : Nat) : Int) = (k : Int) + 1 by omega] at h
  have HNS : Hid (∀ x k1, namF s.data.toList (k + 1) = some (x, k1) → x.size ≤ maxLen ∧ k < k1 ∧ k1 ≤ s.size) := fun x k1 hx => ⟨by have := namF_size hx; unfold maxLen; omega, by have := namF_ge hx; omega, namF_le hx (by omega)⟩
  clear hc nA bA hzA
  go_enter Tryz.func33, Tryz.ntmps33
  go_wp2_with fail
  refine (CW.out _).mono ?_
  rintro e w1 ⟨b1, ⟨nm, k1, hn, rfl⟩ | ⟨hn, rfl⟩⟩
  · have HN := hmk hn
    obtain ⟨N1, B1⟩ := KA.out w1 b1
    clear hn b1 KA
    have q0 : (w1).cell? ⟨w.heap.size, 0, none⟩ = some (.int .i64 0) := cell_of_block N1 0
    have q1 : (w1).cell? ⟨w.heap.size, 1, none⟩ = some (.string ⟨#[]⟩) := cell_of_block N1 1
    have q2 : (w1).cell? ⟨w.heap.size, 2, none⟩ = some (.slice none 0 0) := cell_of_block N1 2
    have q3 : (w1).cell? ⟨w.heap.size, 3, none⟩ = some (.int .i64 0) := cell_of_block N1 3
    have q4 : (w1).cell? ⟨w.heap.size, 4, none⟩ = some (.bool false) := cell_of_block N1 4
    have q5 : (w1).cell? ⟨w.heap.size, 5, none⟩ = some (.int .i64 0) := cell_of_block N1 5
    have q6 : (w1).cell? ⟨w.heap.size, 6, none⟩ = some (.string ⟨#[]⟩) := cell_of_block N1 6
    have q7 : (w1).cell? ⟨w.heap.size, 7, none⟩ = some (.slice none 0 0) := cell_of_block N1 7
    have q8 : (w1).cell? ⟨w.heap.size, 8, none⟩ = some (.slice none 0 0) := cell_of_block N1 8
    have kf : ∀ ii, (w1).frozen? ⟨w.heap.size, ii, none⟩ = false := frozen_of_block N1
    have HBF := hmk (belowG B1 (st9_grownZ (w1) w.heap.size (.int .i64 1) (.string nm) (.slice none 0 0) (.int .i64 0) (.bool false) (.int .i64 0) (.string ⟨#[]⟩) (.slice none 0 0) (.slice none 0 0)) (Nat.le_refl _))
    clear N1 B1
    go_wp2_with fail
    (try simp only [Exit.inBlock, Exit.then])
    refine bodyPost_ret (v := .tuple #[.agg #[.int .i64 1, .string nm, .slice none 0 0, .int .i64 0, .bool false, .int .i64 0, .string ⟨#[]⟩, .slice none 0 0, .slice none 0 0], .int .i64 (k1 : Int)]) ?_ rfl ⟨HBF.out, .inl ⟨⟨1, nm, [], nilW⟩, k1, [.int .i64 1, .string nm, .slice none 0 0, .int .i64 0, .bool false, .int .i64 0, .string ⟨#[]⟩, .slice none 0 0, .slice none 0 0], by rw [HD.out, HN.out]; rfl, (HNS.out _ _ HN.out).2.1, (HNS.out _ _ HN.out).2.2, rfl, lies_fld (HNS.out _ _ HN.out).1 _ _⟩⟩
    rw [results_cell_tmp rfl]
    go_simp
  · have HN := hmk hn
    obtain ⟨N1, B1⟩ := KA.out w1 b1
    clear hn b1 KA
    have q0 : (w1).cell? ⟨w.heap.size, 0, none⟩ = some (.int .i64 0) := cell_of_block N1 0
    have q1 : (w1).cell? ⟨w.heap.size, 1, none⟩ = some (.string ⟨#[]⟩) := cell_of_block N1 1
    have q2 : (w1).cell? ⟨w.heap.size, 2, none⟩ = some (.slice none 0 0) := cell_of_block N1 2
    have q3 : (w1).cell? ⟨w.heap.size, 3, none⟩ = some (.int .i64 0) := cell_of_block N1 3
    have q4 : (w1).cell? ⟨w.heap.size, 4, none⟩ = some (.bool false) := cell_of_block N1 4
    have q5 : (w1).cell? ⟨w.heap.size, 5, none⟩ = some (.int .i64 0) := cell_of_block N1 5
    have q6 : (w1).cell? ⟨w.heap.size, 6, none⟩ = some (.string ⟨#[]⟩) := cell_of_block N1 6
    have q7 : (w1).cell? ⟨w.heap.size, 7, none⟩ = some (.slice none 0 0) := cell_of_block N1 7
    have q8 : (w1).cell? ⟨w.heap.size, 8, none⟩ = some (.slice none 0 0) := cell_of_block N1 8
    have kf : ∀ ii, (w1).frozen? ⟨w.heap.size, ii, none⟩ = false := frozen_of_block N1
    have HBF := hmk (belowG B1 (st9_grownZ (w1) w.heap.size (.int .i64 1) (.string ⟨#[]⟩) (.slice none 0 0) (.int .i64 0) (.bool false) (.int .i64 0) (.string ⟨#[]⟩) (.slice none 0 0) (.slice none 0 0)) (Nat.le_refl _))
    clear N1 B1
    go_wp2_with fail
    (try simp only [Exit.inBlock, Exit.then])
    refine bodyPost_ret (v := .tuple #[.agg #[.int .i64 1, .string ⟨#[]⟩, .slice none 0 0, .int .i64 0, .bool false, .int .i64 0, .string ⟨#[]⟩, .slice none 0 0, .slice none 0 0], .int .i64 (-1)]) ?_ rfl ⟨HBF.out, .inr ⟨by rw [HD.out, HN.out]; rfl, ⟨1, ⟨#[]⟩, [], nilW⟩, [.int .i64 1, .string ⟨#[]⟩, .slice none 0 0, .int .i64 0, .bool false, .int .i64 0, .string ⟨#[]⟩, .slice none 0 0, .slice none 0 0], rfl, lies_fld (Nat.zero_le _) _ _, zel_wt 1⟩⟩
    rw [results_cell_tmp rfl]
    go_simp
set_option maxHeartbeats 4000000 in
set_option maxRecDepth 100000 in
theorem dread_bad (s : ByteArray) (k : Nat) (w : World) (hs : s.size ≤ 1048576) (hk : k < s.size) (hc : ((s[k]'hk).toNat : Int) ≠ 46) (hb : ((s[k]'hk).toNat : Int) ≠ 91) :
    Calls Tryz.prog 33 #[.string s, .int .i64 (k : Int)] w (DrP (dreadF s.data.toList k) k s w) := by
  have hk0 : (0 : Int) ≤ k := by omega
  have y1 : (k : Int) < s.size := by omega
  have wk : IntKind.i64.wrap ((k : Int) + 1) = (k : Int) + 1 := IntWalk.i64_in _ (by omega)
  have bA : Below w.heap.size w (w.alloc z48) := (Below.refl _ _).alloc (Nat.le_refl _) _
  have nA := heap_alloc_new w z48
  have hzA := alloc_size w z48
  have z46' : (((s[k]'hk).toNat : Int) == 46) = false := by rw [beq_eq_false_iff_ne]; exact hc
  have z91 : (((s[k]'hk).toNat : Int) != 91) = true := by rw [bne_iff_ne]; exact hb
  have HD := hmk (drd_2 (tk1_no (c := 46) hk hc) (tk1_no (c := 91) hk hb))
  clear hc hb hzA
  go_enter Tryz.func33, Tryz.ntmps33
  go_wp2_with fail
  (try simp only [Exit.inBlock, Exit.then])
  refine bodyPost_ret (v := .tuple #[.agg #[.int .i64 0, .string ⟨#[]⟩, .slice none 0 0, .int .i64 0, .bool false, .int .i64 0, .string ⟨#[]⟩, .slice none 0 0, .slice none 0 0], .int .i64 (-1)]) ?_ rfl ⟨bA, .inr ⟨HD.out, ⟨0, ⟨#[]⟩, [], nilW⟩, [.int .i64 0, .string ⟨#[]⟩, .slice none 0 0, .int .i64 0, .bool false, .int .i64 0, .string ⟨#[]⟩, .slice none 0 0, .slice none 0 0], rfl, lies_zel _ _, zel_wt 0⟩⟩
  rw [results_cell_tmp rfl]
  go_simp
set_option maxHeartbeats 4000000 in
set_option maxRecDepth 100000 in
theorem dread_itm (s : ByteArray) (k : Nat) (w : World) (hs : s.size ≤ 1048576) (hk : k < s.size) (hb : ((s[k]'hk).toNat : Int) = 91) (hk1 : k + 1 < s.size) (he : ((s[k + 1]'hk1).toNat : Int) = 61) :
    Calls Tryz.prog 33 #[.string s, .int .i64 (k : Int)] w (DrP (dreadF s.data.toList k) k s w) := by
  have hk0 : (0 : Int) ≤ k := by omega
  have y1 : (k : Int) < s.size := by omega
  have wk : IntKind.i64.wrap ((k : Int) + 1) = (k : Int) + 1 := IntWalk.i64_in _ (by omega)
  have bA : Below w.heap.size w (w.alloc z48) := (Below.refl _ _).alloc (Nat.le_refl _) _
  have nA := heap_alloc_new w z48
  have hzA := alloc_size w z48
  have KA : Hid (∀ W, Below (w.alloc z48).heap.size (w.alloc z48) W → W.heap[w.heap.size]? = some z48 ∧ Below w.heap.size w W) := fun W hW => ⟨(hW.block _ (by omega)).trans nA, bA.trans (hW.mono bA.size)⟩
  have hc : ((s[k]'hk).toNat : Int) ≠ 46 := by omega
  have z46' : (((s[k]'hk).toNat : Int) == 46) = false := by rw [beq_eq_false_iff_ne]; exact hc
  have z91 : (((s[k]'hk).toNat : Int) != 91) = false := by rw [bne_eq_false_iff_eq]; exact hb
  have y2 : (k : Int) + 1 < s.size := by omega
  have z61 : (((s[k + 1]'hk1).toNat : Int) == 61) = true := by rw [beq_iff_eq]; exact he
  have wk2 : IntKind.i64.wrap ((k : Int) + 1 + 1) = (k : Int) + 1 + 1 := IntWalk.i64_in _ (by omega)
  have T1 := hmk (tk1_no (c := 46) hk hc)
  have T2 := hmk (tk1_yes (c := 91) hk hb)
  have T3 := hmk (tk1_yes (c := 61) hk1 he)
  have CS : Hid (∀ W, Calls Tryz.prog 55 #[.string s, .int .i64 ((k : Int) + 1 + 1)] W (DsP (dscaF s.data.toList (k + 2)) W)) := fun W => by
    have h := dsca_any s (k + 2) W hs (by omega)
    rwa [show ((k + 2 : Nat) : Int) = (k : Int) + 1 + 1 by omega] at h
  have HS : Hid (∀ vk vb vi vs k1, dscaF s.data.toList (k + 2) = some (.mk vk vb vi vs [] [], k1) → k + 2 ≤ k1 ∧ k1 ≤ s.size ∧ In64 vk ∧ In64 vi ∧ vs.size ≤ maxLen) := fun vk vb vi vs k1 hx => by
    obtain ⟨h1, h2, h3⟩ := dsca_sz hx hs
    exact ⟨(dsca_le hx (by omega)).1, (dsca_le hx (by omega)).2, ⟨by omega, by omega⟩, h1, h2⟩
  clear hc hb he nA bA hzA
  go_enter Tryz.func33, Tryz.ntmps33
  go_wp2_with fail
  refine (CS.out _).mono ?_
  rintro e w1 ⟨b1, ⟨vk, vb, vi, vs, k1, hn, rfl⟩ | ⟨hn, rfl⟩⟩
  · have HN := hmk hn
    obtain ⟨l1, l2, l3, l4, l5⟩ := HS.out _ _ _ _ _ hn
    have HL := hmk (And.intro l3 (And.intro l4 l5))
    have b2 := b1.alloc b1.size (.cells #[.int .i64 vk, .bool vb, .int .i64 vi, .string vs, .slice none 0 0, .slice none 0 0] 46)
    have m2 := heap_alloc_new w1 (.cells #[.int .i64 vk, .bool vb, .int .i64 vi, .string vs, .slice none 0 0, .slice none 0 0] 46)
    obtain ⟨N1, B1⟩ := KA.out _ b2
    clear hn b1 b2 KA HS CS l3 l4 l5
    have a0 : ¬ (k1 : Int) < 0 := by omega
    by_cases h1 : k1 = s.size
    · have a1 : ((k1 : Int) == (s.size : Int)) = true := nat_eq_t h1
      have HD := hmk (drd_5 T1.out T2.out T3.out HN.out (tk1_end (by omega)))
      clear h1 m2
      have q0 : (w1.alloc (.cells #[.int .i64 vk, .bool vb, .int .i64 vi, .string vs, .slice none 0 0, .slice none 0 0] 46)).cell? ⟨w.heap.size, 0, none⟩ = some (.int .i64 0) := cell_of_block N1 0
      have q1 : (w1.alloc (.cells #[.int .i64 vk, .bool vb, .int .i64 vi, .string vs, .slice none 0 0, .slice none 0 0] 46)).cell? ⟨w.heap.size, 1, none⟩ = some (.string ⟨#[]⟩) := cell_of_block N1 1
      have q2 : (w1.alloc (.cells #[.int .i64 vk, .bool vb, .int .i64 vi, .string vs, .slice none 0 0, .slice none 0 0] 46)).cell? ⟨w.heap.size, 2, none⟩ = some (.slice none 0 0) := cell_of_block N1 2
      have q3 : (w1.alloc (.cells #[.int .i64 vk, .bool vb, .int .i64 vi, .string vs, .slice none 0 0, .slice none 0 0] 46)).cell? ⟨w.heap.size, 3, none⟩ = some (.int .i64 0) := cell_of_block N1 3
      have q4 : (w1.alloc (.cells #[.int .i64 vk, .bool vb, .int .i64 vi, .string vs, .slice none 0 0, .slice none 0 0] 46)).cell? ⟨w.heap.size, 4, none⟩ = some (.bool false) := cell_of_block N1 4
      have q5 : (w1.alloc (.cells #[.int .i64 vk, .bool vb, .int .i64 vi, .string vs, .slice none 0 0, .slice none 0 0] 46)).cell? ⟨w.heap.size, 5, none⟩ = some (.int .i64 0) := cell_of_block N1 5
      have q6 : (w1.alloc (.cells #[.int .i64 vk, .bool vb, .int .i64 vi, .string vs, .slice none 0 0, .slice none 0 0] 46)).cell? ⟨w.heap.size, 6, none⟩ = some (.string ⟨#[]⟩) := cell_of_block N1 6
      have q7 : (w1.alloc (.cells #[.int .i64 vk, .bool vb, .int .i64 vi, .string vs, .slice none 0 0, .slice none 0 0] 46)).cell? ⟨w.heap.size, 7, none⟩ = some (.slice none 0 0) := cell_of_block N1 7
      have q8 : (w1.alloc (.cells #[.int .i64 vk, .bool vb, .int .i64 vi, .string vs, .slice none 0 0, .slice none 0 0] 46)).cell? ⟨w.heap.size, 8, none⟩ = some (.slice none 0 0) := cell_of_block N1 8
      have kf : ∀ ii, (w1.alloc (.cells #[.int .i64 vk, .bool vb, .int .i64 vi, .string vs, .slice none 0 0, .slice none 0 0] 46)).frozen? ⟨w.heap.size, ii, none⟩ = false := frozen_of_block N1
      have HBF := hmk (belowG B1 (st9_grownZ (w1.alloc (.cells #[.int .i64 vk, .bool vb, .int .i64 vi, .string vs, .slice none 0 0, .slice none 0 0] 46)) w.heap.size (.int .i64 0) (.string ⟨#[]⟩) (.slice none 0 0) (.int .i64 0) (.bool false) (.int .i64 0) (.string ⟨#[]⟩) (.slice none 0 0) (.slice none 0 0)) (Nat.le_refl _))
      clear N1 B1
      go_wp2_with fail
      (try simp only [Exit.inBlock, Exit.then])
      refine bodyPost_ret (v := .tuple #[.agg #[.int .i64 0, .string ⟨#[]⟩, .slice none 0 0, .int .i64 0, .bool false, .int .i64 0, .string ⟨#[]⟩, .slice none 0 0, .slice none 0 0], .int .i64 (-1)]) ?_ rfl ⟨HBF.out, .inr ⟨HD.out, ⟨0, ⟨#[]⟩, [], nilW⟩, [.int .i64 0, .string ⟨#[]⟩, .slice none 0 0, .int .i64 0, .bool false, .int .i64 0, .string ⟨#[]⟩, .slice none 0 0, .slice none 0 0], rfl, lies_zel _ _, zel_wt 0⟩⟩
      rw [results_cell_tmp rfl]
      go_simp
    have a1 : ((k1 : Int) == (s.size : Int)) = false := nat_eq_f h1
    have hlt : k1 < s.size := by omega
    have a2 : (k1 : Int) < s.size := by omega
    by_cases h93 : ((s[k1]'hlt).toNat : Int) = 93
    · have a3 : (((s[k1]'hlt).toNat : Int) != 93) = false := by rw [bne_eq_false_iff_eq]; exact h93
      have HD := hmk (drd_4 T1.out T2.out T3.out HN.out (tk1_yes (c := 93) hlt h93))
      have wk3 : IntKind.i64.wrap ((k1 : Int) + 1) = (k1 : Int) + 1 := IntWalk.i64_in _ (by omega)
      have p0 : (w1.alloc (.cells #[.int .i64 vk, .bool vb, .int .i64 vi, .string vs, .slice none 0 0, .slice none 0 0] 46)).cell? ⟨w1.heap.size, 0, none⟩ = some (.int .i64 vk) := cell_of_block m2 0
      have p1 : (w1.alloc (.cells #[.int .i64 vk, .bool vb, .int .i64 vi, .string vs, .slice none 0 0, .slice none 0 0] 46)).cell? ⟨w1.heap.size, 1, none⟩ = some (.bool vb) := cell_of_block m2 1
      have p2 : (w1.alloc (.cells #[.int .i64 vk, .bool vb, .int .i64 vi, .string vs, .slice none 0 0, .slice none 0 0] 46)).cell? ⟨w1.heap.size, 2, none⟩ = some (.int .i64 vi) := cell_of_block m2 2
      have p3 : (w1.alloc (.cells #[.int .i64 vk, .bool vb, .int .i64 vi, .string vs, .slice none 0 0, .slice none 0 0] 46)).cell? ⟨w1.heap.size, 3, none⟩ = some (.string vs) := cell_of_block m2 3
      have p4 : (w1.alloc (.cells #[.int .i64 vk, .bool vb, .int .i64 vi, .string vs, .slice none 0 0, .slice none 0 0] 46)).cell? ⟨w1.heap.size, 4, none⟩ = some (.slice none 0 0) := cell_of_block m2 4
      have p5 : (w1.alloc (.cells #[.int .i64 vk, .bool vb, .int .i64 vi, .string vs, .slice none 0 0, .slice none 0 0] 46)).cell? ⟨w1.heap.size, 5, none⟩ = some (.slice none 0 0) := cell_of_block m2 5
      clear h93 m2 h1
      have q0 : (w1.alloc (.cells #[.int .i64 vk, .bool vb, .int .i64 vi, .string vs, .slice none 0 0, .slice none 0 0] 46)).cell? ⟨w.heap.size, 0, none⟩ = some (.int .i64 0) := cell_of_block N1 0
      have q1 : (w1.alloc (.cells #[.int .i64 vk, .bool vb, .int .i64 vi, .string vs, .slice none 0 0, .slice none 0 0] 46)).cell? ⟨w.heap.size, 1, none⟩ = some (.string ⟨#[]⟩) := cell_of_block N1 1
      have q2 : (w1.alloc (.cells #[.int .i64 vk, .bool vb, .int .i64 vi, .string vs, .slice none 0 0, .slice none 0 0] 46)).cell? ⟨w.heap.size, 2, none⟩ = some (.slice none 0 0) := cell_of_block N1 2
      have q3 : (w1.alloc (.cells #[.int .i64 vk, .bool vb, .int .i64 vi, .string vs, .slice none 0 0, .slice none 0 0] 46)).cell? ⟨w.heap.size, 3, none⟩ = some (.int .i64 0) := cell_of_block N1 3
      have q4 : (w1.alloc (.cells #[.int .i64 vk, .bool vb, .int .i64 vi, .string vs, .slice none 0 0, .slice none 0 0] 46)).cell? ⟨w.heap.size, 4, none⟩ = some (.bool false) := cell_of_block N1 4
      have q5 : (w1.alloc (.cells #[.int .i64 vk, .bool vb, .int .i64 vi, .string vs, .slice none 0 0, .slice none 0 0] 46)).cell? ⟨w.heap.size, 5, none⟩ = some (.int .i64 0) := cell_of_block N1 5
      have q6 : (w1.alloc (.cells #[.int .i64 vk, .bool vb, .int .i64 vi, .string vs, .slice none 0 0, .slice none 0 0] 46)).cell? ⟨w.heap.size, 6, none⟩ = some (.string ⟨#[]⟩) := cell_of_block N1 6
      have q7 : (w1.alloc (.cells #[.int .i64 vk, .bool vb, .int .i64 vi, .string vs, .slice none 0 0, .slice none 0 0] 46)).cell? ⟨w.heap.size, 7, none⟩ = some (.slice none 0 0) := cell_of_block N1 7
      have q8 : (w1.alloc (.cells #[.int .i64 vk, .bool vb, .int .i64 vi, .string vs, .slice none 0 0, .slice none 0 0] 46)).cell? ⟨w.heap.size, 8, none⟩ = some (.slice none 0 0) := cell_of_block N1 8
      have kf : ∀ ii, (w1.alloc (.cells #[.int .i64 vk, .bool vb, .int .i64 vi, .string vs, .slice none 0 0, .slice none 0 0] 46)).frozen? ⟨w.heap.size, ii, none⟩ = false := frozen_of_block N1
      have HBF := hmk (belowG B1 (st9_grownZ (w1.alloc (.cells #[.int .i64 vk, .bool vb, .int .i64 vi, .string vs, .slice none 0 0, .slice none 0 0] 46)) w.heap.size (.int .i64 3) (.string ⟨#[]⟩) (.slice none 0 0) (.int .i64 vk) (.bool vb) (.int .i64 vi) (.string vs) (.slice none 0 0) (.slice none 0 0)) (Nat.le_refl _))
      clear N1 B1
      go_wp2_with fail
      (try simp only [Exit.inBlock, Exit.then])
      refine bodyPost_ret (v := .tuple #[.agg #[.int .i64 3, .string ⟨#[]⟩, .slice none 0 0, .int .i64 vk, .bool vb, .int .i64 vi, .string vs, .slice none 0 0, .slice none 0 0], .int .i64 ((k1 : Int) + 1)]) ?_ rfl ⟨HBF.out, .inl ⟨⟨3, ⟨#[]⟩, [], .mk vk vb vi vs [] []⟩, k1 + 1, [.int .i64 3, .string ⟨#[]⟩, .slice none 0 0, .int .i64 vk, .bool vb, .int .i64 vi, .string vs, .slice none 0 0, .slice none 0 0], HD.out, by omega, by omega, rfl, lies_itm HL.out.1 HL.out.2.1 HL.out.2.2 _ _⟩⟩
      rw [results_cell_tmp rfl]
      go_simp
    · have a3 : (((s[k1]'hlt).toNat : Int) != 93) = true := by rw [bne_iff_ne]; exact h93
      have HD := hmk (drd_5 T1.out T2.out T3.out HN.out (tk1_no (c := 93) hlt h93))
      clear h93 m2 h1
      have q0 : (w1.alloc (.cells #[.int .i64 vk, .bool vb, .int .i64 vi, .string vs, .slice none 0 0, .slice none 0 0] 46)).cell? ⟨w.heap.size, 0, none⟩ = some (.int .i64 0) := cell_of_block N1 0
      have q1 : (w1.alloc (.cells #[.int .i64 vk, .bool vb, .int .i64 vi, .string vs, .slice none 0 0, .slice none 0 0] 46)).cell? ⟨w.heap.size, 1, none⟩ = some (.string ⟨#[]⟩) := cell_of_block N1 1
      have q2 : (w1.alloc (.cells #[.int .i64 vk, .bool vb, .int .i64 vi, .string vs, .slice none 0 0, .slice none 0 0] 46)).cell? ⟨w.heap.size, 2, none⟩ = some (.slice none 0 0) := cell_of_block N1 2
      have q3 : (w1.alloc (.cells #[.int .i64 vk, .bool vb, .int .i64 vi, .string vs, .slice none 0 0, .slice none 0 0] 46)).cell? ⟨w.heap.size, 3, none⟩ = some (.int .i64 0) := cell_of_block N1 3
      have q4 : (w1.alloc (.cells #[.int .i64 vk, .bool vb, .int .i64 vi, .string vs, .slice none 0 0, .slice none 0 0] 46)).cell? ⟨w.heap.size, 4, none⟩ = some (.bool false) := cell_of_block N1 4
      have q5 : (w1.alloc (.cells #[.int .i64 vk, .bool vb, .int .i64 vi, .string vs, .slice none 0 0, .slice none 0 0] 46)).cell? ⟨w.heap.size, 5, none⟩ = some (.int .i64 0) := cell_of_block N1 5
      have q6 : (w1.alloc (.cells #[.int .i64 vk, .bool vb, .int .i64 vi, .string vs, .slice none 0 0, .slice none 0 0] 46)).cell? ⟨w.heap.size, 6, none⟩ = some (.string ⟨#[]⟩) := cell_of_block N1 6
      have q7 : (w1.alloc (.cells #[.int .i64 vk, .bool vb, .int .i64 vi, .string vs, .slice none 0 0, .slice none 0 0] 46)).cell? ⟨w.heap.size, 7, none⟩ = some (.slice none 0 0) := cell_of_block N1 7
      have q8 : (w1.alloc (.cells #[.int .i64 vk, .bool vb, .int .i64 vi, .string vs, .slice none 0 0, .slice none 0 0] 46)).cell? ⟨w.heap.size, 8, none⟩ = some (.slice none 0 0) := cell_of_block N1 8
      have kf : ∀ ii, (w1.alloc (.cells #[.int .i64 vk, .bool vb, .int .i64 vi, .string vs, .slice none 0 0, .slice none 0 0] 46)).frozen? ⟨w.heap.size, ii, none⟩ = false := frozen_of_block N1
      have HBF := hmk (belowG B1 (st9_grownZ (w1.alloc (.cells #[.int .i64 vk, .bool vb, .int .i64 vi, .string vs, .slice none 0 0, .slice none 0 0] 46)) w.heap.size (.int .i64 0) (.string ⟨#[]⟩) (.slice none 0 0) (.int .i64 0) (.bool false) (.int .i64 0) (.string ⟨#[]⟩) (.slice none 0 0) (.slice none 0 0)) (Nat.le_refl _))
      clear N1 B1
      go_wp2_with fail
      (try simp only [Exit.inBlock, Exit.then])
      refine bodyPost_ret (v := .tuple #[.agg #[.int .i64 0, .string ⟨#[]⟩, .slice none 0 0, .int .i64 0, .bool false, .int .i64 0, .string ⟨#[]⟩, .slice none 0 0, .slice none 0 0], .int .i64 (-1)]) ?_ rfl ⟨HBF.out, .inr ⟨HD.out, ⟨0, ⟨#[]⟩, [], nilW⟩, [.int .i64 0, .string ⟨#[]⟩, .slice none 0 0, .int .i64 0, .bool false, .int .i64 0, .string ⟨#[]⟩, .slice none 0 0, .slice none 0 0], rfl, lies_zel _ _, zel_wt 0⟩⟩
      rw [results_cell_tmp rfl]
      go_simp
  · have HN := hmk hn
    have HD := hmk (drd_3 T1.out T2.out T3.out HN.out)
    have b2 := b1.alloc b1.size (.cells #[.int .i64 0, .bool false, .int .i64 0, .string ⟨#[]⟩, .slice none 0 0, .slice none 0 0] 46)
    obtain ⟨N1, B1⟩ := KA.out _ b2
    clear hn b1 b2 KA HS CS
    have q0 : (w1.alloc (.cells #[.int .i64 0, .bool false, .int .i64 0, .string ⟨#[]⟩, .slice none 0 0, .slice none 0 0] 46)).cell? ⟨w.heap.size, 0, none⟩ = some (.int .i64 0) := cell_of_block N1 0
    have q1 : (w1.alloc (.cells #[.int .i64 0, .bool false, .int .i64 0, .string ⟨#[]⟩, .slice none 0 0, .slice none 0 0] 46)).cell? ⟨w.heap.size, 1, none⟩ = some (.string ⟨#[]⟩) := cell_of_block N1 1
    have q2 : (w1.alloc (.cells #[.int .i64 0, .bool false, .int .i64 0, .string ⟨#[]⟩, .slice none 0 0, .slice none 0 0] 46)).cell? ⟨w.heap.size, 2, none⟩ = some (.slice none 0 0) := cell_of_block N1 2
    have q3 : (w1.alloc (.cells #[.int .i64 0, .bool false, .int .i64 0, .string ⟨#[]⟩, .slice none 0 0, .slice none 0 0] 46)).cell? ⟨w.heap.size, 3, none⟩ = some (.int .i64 0) := cell_of_block N1 3
    have q4 : (w1.alloc (.cells #[.int .i64 0, .bool false, .int .i64 0, .string ⟨#[]⟩, .slice none 0 0, .slice none 0 0] 46)).cell? ⟨w.heap.size, 4, none⟩ = some (.bool false) := cell_of_block N1 4
    have q5 : (w1.alloc (.cells #[.int .i64 0, .bool false, .int .i64 0, .string ⟨#[]⟩, .slice none 0 0, .slice none 0 0] 46)).cell? ⟨w.heap.size, 5, none⟩ = some (.int .i64 0) := cell_of_block N1 5
    have q6 : (w1.alloc (.cells #[.int .i64 0, .bool false, .int .i64 0, .string ⟨#[]⟩, .slice none 0 0, .slice none 0 0] 46)).cell? ⟨w.heap.size, 6, none⟩ = some (.string ⟨#[]⟩) := cell_of_block N1 6
    have q7 : (w1.alloc (.cells #[.int .i64 0, .bool false, .int .i64 0, .string ⟨#[]⟩, .slice none 0 0, .slice none 0 0] 46)).cell? ⟨w.heap.size, 7, none⟩ = some (.slice none 0 0) := cell_of_block N1 7
    have q8 : (w1.alloc (.cells #[.int .i64 0, .bool false, .int .i64 0, .string ⟨#[]⟩, .slice none 0 0, .slice none 0 0] 46)).cell? ⟨w.heap.size, 8, none⟩ = some (.slice none 0 0) := cell_of_block N1 8
    have kf : ∀ ii, (w1.alloc (.cells #[.int .i64 0, .bool false, .int .i64 0, .string ⟨#[]⟩, .slice none 0 0, .slice none 0 0] 46)).frozen? ⟨w.heap.size, ii, none⟩ = false := frozen_of_block N1
    have HBF := hmk (belowG B1 (st9_grownZ (w1.alloc (.cells #[.int .i64 0, .bool false, .int .i64 0, .string ⟨#[]⟩, .slice none 0 0, .slice none 0 0] 46)) w.heap.size (.int .i64 0) (.string ⟨#[]⟩) (.slice none 0 0) (.int .i64 0) (.bool false) (.int .i64 0) (.string ⟨#[]⟩) (.slice none 0 0) (.slice none 0 0)) (Nat.le_refl _))
    clear N1 B1
    go_wp2_with fail
    (try simp only [Exit.inBlock, Exit.then])
    refine bodyPost_ret (v := .tuple #[.agg #[.int .i64 0, .string ⟨#[]⟩, .slice none 0 0, .int .i64 0, .bool false, .int .i64 0, .string ⟨#[]⟩, .slice none 0 0, .slice none 0 0], .int .i64 (-1)]) ?_ rfl ⟨HBF.out, .inr ⟨HD.out, ⟨0, ⟨#[]⟩, [], nilW⟩, [.int .i64 0, .string ⟨#[]⟩, .slice none 0 0, .int .i64 0, .bool false, .int .i64 0, .string ⟨#[]⟩, .slice none 0 0, .slice none 0 0], rfl, lies_zel _ _, zel_wt 0⟩⟩
    rw [results_cell_tmp rfl]
    go_simp
end Go.Proofs.YtihcggepeadklaaGreatDoor
