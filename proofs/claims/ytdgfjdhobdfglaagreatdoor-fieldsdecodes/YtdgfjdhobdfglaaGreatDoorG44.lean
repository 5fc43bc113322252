/- joined: DrdB RelA -/
import Derived.Test.YtdgfjdhobdfglaaGreatDoorG43
set_option linter.unusedSimpArgs false
set_option linter.unusedVariables false
set_option maxRecDepth 100000
set_option maxHeartbeats 64000000
namespace Go.Proofs.YtdgfjdhobdfglaaGreatDoor
open Go.RowKit Go.Lib
abbrev kyC (v : Value) : Array Value := #[.int .i64 2, .string ⟨#[]⟩, v, .int .i64 0, .bool false, .int .i64 0, .string ⟨#[]⟩, .slice none 0 0, .slice none 0 0]
structure KyW (w : World) (v : Value) (W : World) : Prop where
 b : Below w.heap.size w W
 n0 : W.heap[w.heap.size]? = some z48
 n1 : W.heap[w.heap.size + 1]? = some (.cells (kyC v) 52)
 z : w.heap.size + 2 <= W.heap.size
theorem KyW.below {w W W' : World} {v : Value} (h : KyW w v W) (hb : Below W.heap.size W W') : KyW w v W' :=
 have hz := h.z
 ⟨h.b.trans (hb.mono h.b.size), (hb.block _ (by omega)).trans h.n0, (hb.block _ (by omega)).trans h.n1, Nat.le_trans h.z hb.size⟩
theorem KyW.allo {w W : World} {v : Value} (h : KyW w v W) (o : Obj) : KyW w v (W.alloc o) := h.below ((Below.refl _ _).alloc (Nat.le_refl _) _)
theorem KyW.own {w W W' : World} {v : Value} {row : Option Nat} (h : KyW w v W) (gr : W.grownBy W' row) (hr : ∀ r, row = some r -> w.heap.size + 2 <= r) : KyW w v W' :=
 have hz := h.z
 ⟨h.b.grown gr h.b.size (fun r e => by have := hr r e; omega), (gr.block _ (by omega) (fun e => by have := hr _ e.symm; omega)).trans h.n0, (gr.block _ (by omega) (fun e => by have := hr _ e.symm; omega)).trans h.n1, Nat.le_trans h.z gr.size⟩
theorem KyW.put {w W : World} {v : Value} (h : KyW w v W) (u : Value) : KyW w u (W.setCell ⟨w.heap.size + 1, 2, none⟩ u) :=
 have hz := h.z
 have gr := grown_set1 W (w.heap.size + 1) 2 u
 ⟨belowG h.b gr (by omega), (gr.block _ (by omega) (fun e => by have := Option.some.inj e; omega)).trans h.n0, by rw [set_block h.n1]; rfl, Nat.le_trans h.z gr.size⟩
theorem dread_last (s : ByteArray) (k : Nat) (w : World) (hs : s.size <= 1048576) (hk : k < s.size) (hb : ((s[k]'hk).toNat : Int) = 91) (hk1 : ¬ k + 1 < s.size) :
 Calls Tryz.prog 35 #[.string s, .int .i64 (k : Int)] w (DrP (dreadF s.data.toList k) k s w) := by
 have hk0 : (0 : Int) <= k := by omega
 have y1 : (k : Int) < s.size := by omega
 have wk : IntKind.i64.wrap ((k : Int) + 1) = (k : Int) + 1 := IntWalk.i64_in _ (by omega)
 have hc : ((s[k]'hk).toNat : Int) ≠ 46 := by omega
 have z46' : (((s[k]'hk).toNat : Int) == 46) = false := by rw [beq_eq_false_iff_ne]; exact hc
 have z91 : (((s[k]'hk).toNat : Int) != 91) = false := by rw [bne_eq_false_iff_eq]; exact hb
 have HN : Hid (namF s.data.toList (k + 1) = none) := by
  show _ = _
  rw [nam_quo (by rw [drop_endN s (k + 1) hk1, prefN]), quo_none (by omega) (fun h => absurd h hk1)]
 have HX : Hid (dreadF s.data.toList k = none) := by
  show _ = _
  rw [drd_6 (tk1_no (c := 46) hk hc) (tk1_yes (c := 91) hk hb) (tk1_end hk1), dkey_1 (dmem_1 HN.out)]; rfl
 have KY0 : KyW w (.slice none 0 0) ((w.alloc z48).alloc (.cells (kyC (.slice none 0 0)) 52)) := by
  have bA : Below w.heap.size w (w.alloc z48) := (Below.refl _ _).alloc (Nat.le_refl _) _
  have bB := bA.alloc bA.size (.cells (kyC (.slice none 0 0)) 52)
  exact ⟨bB, (Below.heap_alloc _ _ _ (by rw [alloc_size]; omega)).trans (heap_alloc_new w z48), alloc2_new w _ _, by rw [alloc_size, alloc_size]; omega⟩
 have CW : Hid (∀ W, Calls Tryz.prog 53 #[.string s, .int .i64 ((k : Int) + 1)] W (NwP none W)) := fun W => by
  have h := dwd_any s (k + 1) W (by omega) (by omega)
  rwa [show ((k + 1 : Nat) : Int) = (k : Int) + 1 by omega, HN.out] at h
 have y2 : ¬ (k : Int) + 1 < s.size := by omega
 clear hb hc hk1
 go_enter Tryz.func35, Tryz.ntmps35
 go_wp2_with fail
 generalize ((w.alloc z48).alloc (.cells (kyC (.slice none 0 0)) 52)) = wB at *
 go_loopw [1] (fun e1 wq => e1 = .int .i64 ((k : Int) + 1) /\ wq = wB) (fun _ _ => 0)
 case atStart => exact ⟨rfl, rfl⟩
 case round =>
  obtain ⟨rfl, rfl⟩ := hrel
  go_wp2_with fail
  refine (CW.out _).mono ?_
  rintro e w1 ⟨b1, ⟨nm, k1, hn, rfl⟩ | ⟨_, rfl⟩⟩
  ·cases hn
  have ky1 := KY0.below b1
  clear KY0 b1
  have n9 := (ky1).n0
  have b9 := (ky1).b
  obtain ⟨q0, q1, q2, q3, q4, q5, q6, q7, q8⟩ := cN9 n9
  have kf : ∀ ii, (w1).frozen? ⟨w.heap.size, ii, none⟩ = false := frozen_of_block n9
  have HBF := hmk (belowG b9 (st9_grownZ (w1) w.heap.size (.int .i64 0) (.string ⟨#[]⟩) (.slice none 0 0) (.int .i64 0) (.bool false) (.int .i64 0) (.string ⟨#[]⟩) (.slice none 0 0) (.slice none 0 0)) (Nat.le_refl _))
  clear n9 b9
  go_wp2_with fail
  (try simp only [Exit.inBlock, Exit.then])
  refine bodyPost_ret (v := .tuple #[.agg #[.int .i64 0, .string ⟨#[]⟩, .slice none 0 0, .int .i64 0, .bool false, .int .i64 0, .string ⟨#[]⟩, .slice none 0 0, .slice none 0 0], .int .i64 (-1)]) ?_ rfl ⟨HBF.out, .inr ⟨HX.out, ⟨0, ⟨#[]⟩, [], nilW⟩, [.int .i64 0, .string ⟨#[]⟩, .slice none 0 0, .int .i64 0, .bool false, .int .i64 0, .string ⟨#[]⟩, .slice none 0 0, .slice none 0 0], rfl, lies_zel _ _, zel_wt 0⟩⟩
  rw [results_cell_tmp rfl]
  go_simp
theorem dread_key (s : ByteArray) (k : Nat) (w : World) (hs : s.size <= 1048576) (hk : k < s.size) (hb : ((s[k]'hk).toNat : Int) = 91) (T3 : Hid (tkB s.data.toList (k + 1) [61] = false)) (hk1 : k + 1 < s.size) (f61 : (((s[k + 1]'hk1).toNat : Int) == 61) = false) :
 Calls Tryz.prog 35 #[.string s, .int .i64 (k : Int)] w (DrP (dreadF s.data.toList k) k s w) := by
 have hk0 : (0 : Int) <= k := by omega
 have y1 : (k : Int) < s.size := by omega
 have wk : IntKind.i64.wrap ((k : Int) + 1) = (k : Int) + 1 := IntWalk.i64_in _ (by omega)
 have hc : ((s[k]'hk).toNat : Int) ≠ 46 := by omega
 have z46' : (((s[k]'hk).toNat : Int) == 46) = false := by rw [beq_eq_false_iff_ne]; exact hc
 have z91 : (((s[k]'hk).toNat : Int) != 91) = false := by rw [bne_eq_false_iff_eq]; exact hb
 have HD := hmk (drd_6 (tk1_no (c := 46) hk hc) (tk1_yes (c := 91) hk hb) T3.out)
 have hll : s.data.toList.length = s.size := by simp
 have KY0 : KyW w (.slice none 0 0) ((w.alloc z48).alloc (.cells (kyC (.slice none 0 0)) 52)) := by
  have bA : Below w.heap.size w (w.alloc z48) := (Below.refl _ _).alloc (Nat.le_refl _) _
  have bB := bA.alloc bA.size (.cells (kyC (.slice none 0 0)) 52)
  exact ⟨bB, (Below.heap_alloc _ _ _ (by rw [alloc_size]; omega)).trans (heap_alloc_new w z48), alloc2_new w _ _, by rw [alloc_size, alloc_size]; omega⟩
 have CW : Hid (∀ W kk, kk <= s.size -> Calls Tryz.prog 53 #[.string s, .int .i64 (kk : Int)] W (NwP (namF s.data.toList kk) W)) := fun W kk h => dwd_any s kk W (by omega) h
 have CS : Hid (∀ (W : World) (kk : Nat), kk < s.size -> Calls Tryz.prog 54 #[.string s, .int .i64 ((kk : Int) + 1)] W (DsP (dscaF s.data.toList (kk + 1)) W)) := fun W kk hkk => by
  have h := dsca_any s (kk + 1) W hs (by omega)
  rwa [show ((kk + 1 : Nat) : Int) = (kk : Int) + 1 by omega] at h
 have HNS : Hid (∀ x kk k1, kk <= s.size -> namF s.data.toList kk = some (x, k1) -> x.size <= maxLen /\ kk < k1 /\ k1 <= s.size) := fun x kk k1 hkk hx => ⟨by have := namF_size hx; unfold maxLen; omega, namF_ge hx, namF_le hx hkk⟩
 have HS : Hid (∀ kk vk vb vi vs k1, kk <= s.size -> dscaF s.data.toList kk = some (.mk vk vb vi vs [] [], k1) -> kk <= k1 /\ k1 <= s.size /\ In64 vk /\ In64 vi /\ vs.size <= maxLen) := fun kk vk vb vi vs k1 hkk hx => by
  obtain ⟨h1, h2, h3⟩ := dsca_sz hx hs
  exact ⟨(dsca_le hx hkk).1, (dsca_le hx hkk).2, ⟨by omega, by omega⟩, h1, h2⟩
 obtain ⟨i1, hi1, hy0, hy1, hy2⟩ := info_parts info44
 have hJ : Hid (Tryz.prog.info? 40 = some i1 /\ i1.zero = some (.agg #[.string ⟨#[]⟩, .int .i64 0, .bool false, .int .i64 0, .string ⟨#[]⟩, .slice none 0 0, .slice none 0 0]) /\ i1.size = 7 /\ i1.bytes = 104) := ⟨hi1, hy0, hy1, hy2⟩
 have HLL := hmk hll
 clear hb hc T3 hi1 hy0 hy1 hy2 hll
 have MAIN : ∀ (e : Value) (wq : World), e = .int .i64 ((k : Int) + 1) -> wq = (w.alloc z48).alloc (.cells (kyC (.slice none 0 0)) 52) -> True := fun _ _ _ _ => trivial
 clear MAIN
 go_enter Tryz.func35, Tryz.ntmps35
 have y2 : (k : Int) + 1 < s.size := by omega
 all_goals
  go_wp2_with fail
  generalize ((w.alloc z48).alloc (.cells (kyC (.slice none 0 0)) 52)) = wB at *
  go_loopw [1] (fun e1 wq => ∃ (kk fu : Nat) (acc : List Mem) (smv : Value) (SM : Nat -> Prop), k < kk /\ kk <= s.size /\ acc.length <= kk /\ s.size < fu + kk /\ e1 = .int .i64 (kk : Int) /\ Hid (dkeyF s.data.toList (s.data.toList.length + 1) (k + 1) [] = dkeyF s.data.toList fu kk acc) /\ KyW w smv wq /\ OwnM false wq (w.heap.size + 2) SM smv (acc.map some)) (fun e1 _ => s.size + 1 - (RowKit.intOf e1).toNat)
  case atStart => exact ⟨k + 1, s.data.toList.length + 1, [], _, _, by omega, by omega, by simp, by rw [HLL.out]; omega, by simp, hmk rfl, KY0, OwnR.nil _ _⟩
  case round =>
   clear KY0 f61
   obtain ⟨kk, fu, acc, smv, SM, hkk, hks, hacc, hfu, rfl, HF, ky, oj⟩ := hrel
   obtain ⟨fu, rfl⟩ : ∃ f, fu = f + 1 := ⟨fu - 1, by omega⟩
   have hkk0 : (0 : Int) <= kk := by omega
   go_wp2_with fail
   refine (CW.out _ kk hks).mono ?_
   rintro e w1 ⟨b1, ⟨nm, k1, hn, rfl⟩ | ⟨hn, rfl⟩⟩
   case inr =>
    have HX : Hid (dreadF s.data.toList k = none) := by show _ = _; rw [HD.out, HF.out, dkey_1 (dmem_1 hn)]; rfl
    have ky1 := ky.below b1
    clear hn ky oj b1
    have n9 := (ky1).n0
    have b9 := (ky1).b
    obtain ⟨q0, q1, q2, q3, q4, q5, q6, q7, q8⟩ := cN9 n9
    have kf : ∀ ii, (w1).frozen? ⟨w.heap.size, ii, none⟩ = false := frozen_of_block n9
    have HBF := hmk (belowG b9 (st9_grownZ (w1) w.heap.size (.int .i64 0) (.string ⟨#[]⟩) (.slice none 0 0) (.int .i64 0) (.bool false) (.int .i64 0) (.string ⟨#[]⟩) (.slice none 0 0) (.slice none 0 0)) (Nat.le_refl _))
    clear n9 b9
    go_wp2_with fail
    (try simp only [Exit.inBlock, Exit.then])
    refine bodyPost_ret (v := .tuple #[.agg #[.int .i64 0, .string ⟨#[]⟩, .slice none 0 0, .int .i64 0, .bool false, .int .i64 0, .string ⟨#[]⟩, .slice none 0 0, .slice none 0 0], .int .i64 (-1)]) ?_ rfl ⟨HBF.out, .inr ⟨HX.out, ⟨0, ⟨#[]⟩, [], nilW⟩, [.int .i64 0, .string ⟨#[]⟩, .slice none 0 0, .int .i64 0, .bool false, .int .i64 0, .string ⟨#[]⟩, .slice none 0 0, .slice none 0 0], rfl, lies_zel _ _, zel_wt 0⟩⟩
    rw [results_cell_tmp rfl]
    go_simp
   obtain ⟨g1, g2, g3⟩ := HNS.out _ _ _ hks hn
   have HN := hmk hn
   have ky1 := ky.below b1
   have o1 := oj.below (keepM false) b1
   have a0 : ¬ (k1 : Int) < 0 := by omega
   clear hn ky oj b1
   by_cases h1 : k1 = s.size
   ·have a1 : ((k1 : Int) == (s.size : Int)) = true := nat_eq_t h1
    have HX : Hid (dreadF s.data.toList k = none) := by show _ = _; rw [HD.out, HF.out, dkey_1 (dmem_2 HN.out (tk1_end (by omega)))]; rfl
    clear h1 o1
    have n9 := (ky1).n0
    have b9 := (ky1).b
    obtain ⟨q0, q1, q2, q3, q4, q5, q6, q7, q8⟩ := cN9 n9
    have kf : ∀ ii, (w1).frozen? ⟨w.heap.size, ii, none⟩ = false := frozen_of_block n9
    have HBF := hmk (belowG b9 (st9_grownZ (w1) w.heap.size (.int .i64 0) (.string ⟨#[]⟩) (.slice none 0 0) (.int .i64 0) (.bool false) (.int .i64 0) (.string ⟨#[]⟩) (.slice none 0 0) (.slice none 0 0)) (Nat.le_refl _))
    clear n9 b9
    go_wp2_with fail
    (try simp only [Exit.inBlock, Exit.then])
    refine bodyPost_ret (v := .tuple #[.agg #[.int .i64 0, .string ⟨#[]⟩, .slice none 0 0, .int .i64 0, .bool false, .int .i64 0, .string ⟨#[]⟩, .slice none 0 0, .slice none 0 0], .int .i64 (-1)]) ?_ rfl ⟨HBF.out, .inr ⟨HX.out, ⟨0, ⟨#[]⟩, [], nilW⟩, [.int .i64 0, .string ⟨#[]⟩, .slice none 0 0, .int .i64 0, .bool false, .int .i64 0, .string ⟨#[]⟩, .slice none 0 0, .slice none 0 0], rfl, lies_zel _ _, zel_wt 0⟩⟩
    rw [results_cell_tmp rfl]
    go_simp
   have a1 : ((k1 : Int) == (s.size : Int)) = false := nat_eq_f h1
   have hlt : k1 < s.size := by omega
   have a2 : (k1 : Int) < s.size := by omega
   clear h1
   by_cases h61 : ((s[k1]'hlt).toNat : Int) = 61
   case neg =>
    have a3 : (((s[k1]'hlt).toNat : Int) != 61) = true := by rw [bne_iff_ne]; exact h61
    have HX : Hid (dreadF s.data.toList k = none) := by show _ = _; rw [HD.out, HF.out, dkey_1 (dmem_2 HN.out (tk1_no (c := 61) hlt h61))]; rfl
    clear h61 o1
    have n9 := (ky1).n0
    have b9 := (ky1).b
    obtain ⟨q0, q1, q2, q3, q4, q5, q6, q7, q8⟩ := cN9 n9
    have kf : ∀ ii, (w1).frozen? ⟨w.heap.size, ii, none⟩ = false := frozen_of_block n9
    have HBF := hmk (belowG b9 (st9_grownZ (w1) w.heap.size (.int .i64 0) (.string ⟨#[]⟩) (.slice none 0 0) (.int .i64 0) (.bool false) (.int .i64 0) (.string ⟨#[]⟩) (.slice none 0 0) (.slice none 0 0)) (Nat.le_refl _))
    clear n9 b9
    go_wp2_with fail
    (try simp only [Exit.inBlock, Exit.then])
    refine bodyPost_ret (v := .tuple #[.agg #[.int .i64 0, .string ⟨#[]⟩, .slice none 0 0, .int .i64 0, .bool false, .int .i64 0, .string ⟨#[]⟩, .slice none 0 0, .slice none 0 0], .int .i64 (-1)]) ?_ rfl ⟨HBF.out, .inr ⟨HX.out, ⟨0, ⟨#[]⟩, [], nilW⟩, [.int .i64 0, .string ⟨#[]⟩, .slice none 0 0, .int .i64 0, .bool false, .int .i64 0, .string ⟨#[]⟩, .slice none 0 0, .slice none 0 0], rfl, lies_zel _ _, zel_wt 0⟩⟩
    rw [results_cell_tmp rfl]
    go_simp
   have a3 : (((s[k1]'hlt).toNat : Int) != 61) = false := by rw [bne_eq_false_iff_eq]; exact h61
   have T6 := hmk (tk1_yes (c := 61) hlt h61)
   have wk3 : IntKind.i64.wrap ((k1 : Int) + 1) = (k1 : Int) + 1 := IntWalk.i64_in _ (by omega)
   clear h61
   go_wp2_with fail
   refine (CS.out _ k1 hlt).mono ?_
   rintro e w2 ⟨b2, ⟨vk, vb, vi, vs, k2, hn, rfl⟩ | ⟨hn, rfl⟩⟩
   case inr =>
    have HX : Hid (dreadF s.data.toList k = none) := by show _ = _; rw [HD.out, HF.out, dkey_1 (dmem_3 HN.out T6.out hn)]; rfl
    have ky2 := (ky1.below b2).allo oN
    clear hn ky1 o1 b2
    have n9 := (ky2).n0
    have b9 := (ky2).b
    obtain ⟨q0, q1, q2, q3, q4, q5, q6, q7, q8⟩ := cN9 n9
    have kf : ∀ ii, (w2.alloc oN).frozen? ⟨w.heap.size, ii, none⟩ = false := frozen_of_block n9
    have HBF := hmk (belowG b9 (st9_grownZ (w2.alloc oN) w.heap.size (.int .i64 0) (.string ⟨#[]⟩) (.slice none 0 0) (.int .i64 0) (.bool false) (.int .i64 0) (.string ⟨#[]⟩) (.slice none 0 0) (.slice none 0 0)) (Nat.le_refl _))
    clear n9 b9
    go_wp2_with fail
    (try simp only [Exit.inBlock, Exit.then])
    refine bodyPost_ret (v := .tuple #[.agg #[.int .i64 0, .string ⟨#[]⟩, .slice none 0 0, .int .i64 0, .bool false, .int .i64 0, .string ⟨#[]⟩, .slice none 0 0, .slice none 0 0], .int .i64 (-1)]) ?_ rfl ⟨HBF.out, .inr ⟨HX.out, ⟨0, ⟨#[]⟩, [], nilW⟩, [.int .i64 0, .string ⟨#[]⟩, .slice none 0 0, .int .i64 0, .bool false, .int .i64 0, .string ⟨#[]⟩, .slice none 0 0, .slice none 0 0], rfl, lies_zel _ _, zel_wt 0⟩⟩
    rw [results_cell_tmp rfl]
    go_simp
   obtain ⟨l1, l2, l3, l4, l5⟩ := HS.out _ _ _ _ _ _ (by omega) hn
   have HM := hmk (dmem_4 HN.out T6.out hn)
   have ky2 := (ky1.below b2).allo (oV vk vb vi vs none 0 0 none 0 0)
   have o2 := (o1.below (keepM false) b2).alloc (keepM false) (oV vk vb vi vs none 0 0 none 0 0)
   have m2 := heap_alloc_new w2 (oV vk vb vi vs none 0 0 none 0 0)
   have a4 : ¬ (k2 : Int) < 0 := by omega
   clear hn ky1 o1 b2
   by_cases h1 : k2 = s.size
   ·have a5 : ((k2 : Int) == (s.size : Int)) = true := nat_eq_t h1
    have HX : Hid (dreadF s.data.toList k = none) := by show _ = _; rw [HD.out, HF.out, dkey_4 HM.out (tk1_end (by omega)) (tk1_end (by omega))]; rfl
    clear h1 o2 m2
    have n9 := (ky2).n0
    have b9 := (ky2).b
    obtain ⟨q0, q1, q2, q3, q4, q5, q6, q7, q8⟩ := cN9 n9
    have kf : ∀ ii, (w2.alloc (oV vk vb vi vs none 0 0 none 0 0)).frozen? ⟨w.heap.size, ii, none⟩ = false := frozen_of_block n9
    have HBF := hmk (belowG b9 (st9_grownZ (w2.alloc (oV vk vb vi vs none 0 0 none 0 0)) w.heap.size (.int .i64 0) (.string ⟨#[]⟩) (.slice none 0 0) (.int .i64 0) (.bool false) (.int .i64 0) (.string ⟨#[]⟩) (.slice none 0 0) (.slice none 0 0)) (Nat.le_refl _))
    clear n9 b9
    go_wp2_with fail
    (try simp only [Exit.inBlock, Exit.then])
    refine bodyPost_ret (v := .tuple #[.agg #[.int .i64 0, .string ⟨#[]⟩, .slice none 0 0, .int .i64 0, .bool false, .int .i64 0, .string ⟨#[]⟩, .slice none 0 0, .slice none 0 0], .int .i64 (-1)]) ?_ rfl ⟨HBF.out, .inr ⟨HX.out, ⟨0, ⟨#[]⟩, [], nilW⟩, [.int .i64 0, .string ⟨#[]⟩, .slice none 0 0, .int .i64 0, .bool false, .int .i64 0, .string ⟨#[]⟩, .slice none 0 0, .slice none 0 0], rfl, lies_zel _ _, zel_wt 0⟩⟩
    rw [results_cell_tmp rfl]
    go_simp
   have a5 : ((k2 : Int) == (s.size : Int)) = false := nat_eq_f h1
   have hlt2 : k2 < s.size := by omega
   have a6 : (k2 : Int) < s.size := by omega
   clear h1
   by_cases hgo : ((s[k2]'hlt2).toNat : Int) ≠ 44 /\ ((s[k2]'hlt2).toNat : Int) ≠ 93
   ·have a7 : (((s[k2]'hlt2).toNat : Int) != 44) = true := by rw [bne_iff_ne]; exact hgo.1
    have a8 : (((s[k2]'hlt2).toNat : Int) != 93) = true := by rw [bne_iff_ne]; exact hgo.2
    have HX : Hid (dreadF s.data.toList k = none) := by show _ = _; rw [HD.out, HF.out, dkey_4 HM.out (tk1_no (c := 93) hlt2 hgo.2) (tk1_no (c := 44) hlt2 hgo.1)]; rfl
    clear hgo o2 m2
    have n9 := (ky2).n0
    have b9 := (ky2).b
    obtain ⟨q0, q1, q2, q3, q4, q5, q6, q7, q8⟩ := cN9 n9
    have kf : ∀ ii, (w2.alloc (oV vk vb vi vs none 0 0 none 0 0)).frozen? ⟨w.heap.size, ii, none⟩ = false := frozen_of_block n9
    have HBF := hmk (belowG b9 (st9_grownZ (w2.alloc (oV vk vb vi vs none 0 0 none 0 0)) w.heap.size (.int .i64 0) (.string ⟨#[]⟩) (.slice none 0 0) (.int .i64 0) (.bool false) (.int .i64 0) (.string ⟨#[]⟩) (.slice none 0 0) (.slice none 0 0)) (Nat.le_refl _))
    clear n9 b9
    go_wp2_with fail
    (try simp only [Exit.inBlock, Exit.then])
    refine bodyPost_ret (v := .tuple #[.agg #[.int .i64 0, .string ⟨#[]⟩, .slice none 0 0, .int .i64 0, .bool false, .int .i64 0, .string ⟨#[]⟩, .slice none 0 0, .slice none 0 0], .int .i64 (-1)]) ?_ rfl ⟨HBF.out, .inr ⟨HX.out, ⟨0, ⟨#[]⟩, [], nilW⟩, [.int .i64 0, .string ⟨#[]⟩, .slice none 0 0, .int .i64 0, .bool false, .int .i64 0, .string ⟨#[]⟩, .slice none 0 0, .slice none 0 0], rfl, lies_zel _ _, zel_wt 0⟩⟩
    rw [results_cell_tmp rfl]
    go_simp
   have HEM : Hid (∀ W, EM false (some (nm, V.mk vk vb vi vs [] [])) W (fun _ => False) [.string nm, .int .i64 vk, .bool vb, .int .i64 vi, .string vs, .slice none 0 0, .slice none 0 0]) := fun W => ⟨_, rfl, g1, lies_sca l3 l4 l5 _ _⟩
   have ky3 := ky2.allo (.cells #[.string nm, .int .i64 vk, .bool vb, .int .i64 vi, .string vs, .slice none 0 0, .slice none 0 0] 40)
   have o3 := o2.alloc (keepM false) (.cells #[.string nm, .int .i64 vk, .bool vb, .int .i64 vi, .string vs, .slice none 0 0, .slice none 0 0] 40)
   obtain ⟨p0, p1, p2, p3, p4, p5⟩ := cN6 m2
   have c2 : (w2.alloc (oV vk vb vi vs none 0 0 none 0 0)).cell? ⟨w.heap.size + 1, 2, none⟩ = some smv := cell_of_block ky2.n1 2
   have hrow : ∀ r, smv.ownBlock = some r -> w.heap.size + 2 <= r := fun r e => (o3.lt e).1
   have hb3 : w.heap.size + 2 <= ((w2.alloc (oV vk vb vi vs none 0 0 none 0 0)).alloc (.cells #[.string nm, .int .i64 vk, .bool vb, .int .i64 vi, .string vs, .slice none 0 0, .slice none 0 0] 40)).heap.size := ky3.z
   have hb3 := hb3; dsimp only [oV, oN] at hb3
   have hac : acc.length <= 1048576 := by omega
   clear m2 ky2 o2 g1 l3 l4 l5
   by_cases h93 : ((s[k2]'hlt2).toNat : Int) = 93
   ·have a7 : (((s[k2]'hlt2).toNat : Int) != 44) = true := by rw [bne_iff_ne]; omega
    have a8 : (((s[k2]'hlt2).toNat : Int) != 93) = false := by rw [bne_eq_false_iff_eq]; exact h93
    have a9 : (((s[k2]'hlt2).toNat : Int) == 93) = true := by rw [beq_iff_eq]; exact h93
    have wk4 : IntKind.i64.wrap ((k2 : Int) + 1) = (k2 : Int) + 1 := IntWalk.i64_in _ (by omega)
    have HX : Hid (dreadF s.data.toList k = some (⟨2, ⟨#[]⟩, acc ++ [(nm, V.mk vk vb vi vs [] [])], nilW⟩, k2 + 1)) := by show _ = _; rw [HD.out, HF.out, dkey_2 HM.out (tk1_yes (c := 93) hlt2 h93)]; rfl
    clear h93 hgo
    go_wp2_with (at_builtin; go_loud (refine wpl_push (keepM false) _ rfl (.tmp 123) (.tmp 127) 23 rfl (w.heap.size + 2) i1 _ 104 Tryz.underlying23 hJ.out.1 hJ.out.2.1 hJ.out.2.2.1 hJ.out.2.2.2 rfl (by decide) (by decide) smv (some (nm, V.mk vk vb vi vs [] [])) rfl o3 (w2.heap.size + 1) 1 (0, 0) rfl (alloc2_new w2 _ _) rfl one7 (HEM.out _) (fun b hb => False.elim hb) (by rw [List.length_map]; omega) hb3 ?_))
    intro g5 cap w5 o5 gr5 e5
    have ky5 := ky3.own gr5 hrow
    have HA5 : Hid (acc.map some ++ [some (nm, V.mk vk vb vi vs [] [])] = (acc ++ [(nm, V.mk vk vb vi vs [] [])]).map some) := by show _ = _; rw [List.map_append]; rfl
    rw [HA5.out] at o5
    have ky6 := ky5.put (.slice (some ⟨g5, 0, none⟩) (acc.length + 1) cap)
    have o6 := o5.set (keepM false) (show w.heap.size + 1 < w.heap.size + 2 by omega) 2 (.slice (some ⟨g5, 0, none⟩) (acc.length + 1) cap)
    have c5 : w5.cell? ⟨w.heap.size + 1, 2, none⟩ = some smv := cell_of_block ky5.n1 2
    have f5 : ∀ ii, w5.frozen? ⟨w.heap.size + 1, ii, none⟩ = false := frozen_of_block ky5.n1
    clear ky3 o3 gr5 e5 hrow hb3 c2 HEM o5
    obtain ⟨r0, r1, r2, r3, r4, r5, r6, r7, r8⟩ := cN9 ky6.n1
    have HLY : Hid (∀ W', (w5.setCell ⟨w.heap.size + 1, 2, none⟩ (.slice (some ⟨g5, 0, none⟩) (acc.length + 1) cap)).grownBy W' (some w.heap.size) -> El.lies W' (New w W') ⟨2, ⟨#[]⟩, acc ++ [(nm, V.mk vk vb vi vs [] [])], nilW⟩ [.int .i64 2, .string ⟨#[]⟩, .slice (some ⟨g5, 0, none⟩) (acc.length + 1) cap, .int .i64 0, .bool false, .int .i64 0, .string ⟨#[]⟩, .slice none 0 0, .slice none 0 0]) := fun W' gr => by
     obtain ⟨sa, sc, sb, so, hu, hd, hls⟩ := own_listM0 (T := fun b => w.heap.size + 2 <= b /\ b < (w5.setCell ⟨w.heap.size + 1, 2, none⟩ (.slice (some ⟨g5, 0, none⟩) (acc.length + 1) cap)).heap.size) o6 (fun b hb => ⟨(o6.off b hb).1, (o6.off b hb).2.1⟩) (fun g hg => o6.lt hg)
     have hl1 : (acc ++ [(nm, V.mk vk vb vi vs [] [])]).length = acc.length + 1 := by simp
     rw [<- hl1] at hu ⊢
     rw [hu]
     exact lies_key hd (liesM_keep (fun h => h) (fun b hb => gr.block b hb.2 (fun e => by have := Option.some.inj e; have := hb.1; omega)) (fun b hb => ⟨by have := hb.1; omega, Nat.lt_of_lt_of_le hb.2 gr.size⟩) _ hls)
    have n9 := ky6.n0
    have b9 := ky6.b
    clear ky5 ky6 o6
    obtain ⟨q0, q1, q2, q3, q4, q5, q6, q7, q8⟩ := cN9 n9
    have kf : ∀ ii, (w5.setCell ⟨w.heap.size + 1, 2, none⟩ (.slice (some ⟨g5, 0, none⟩) (acc.length + 1) cap)).frozen? ⟨w.heap.size, ii, none⟩ = false := frozen_of_block n9
    have HBF := hmk (belowG b9 (st9_grownZ (w5.setCell ⟨w.heap.size + 1, 2, none⟩ (.slice (some ⟨g5, 0, none⟩) (acc.length + 1) cap)) w.heap.size (.int .i64 2) (.string ⟨#[]⟩) (.slice (some ⟨g5, 0, none⟩) (acc.length + 1) cap) (.int .i64 0) (.bool false) (.int .i64 0) (.string ⟨#[]⟩) (.slice none 0 0) (.slice none 0 0)) (Nat.le_refl _))
    clear n9 b9
    go_wp2_with fail
    (try simp only [Exit.inBlock, Exit.then])
    refine bodyPost_ret (v := .tuple #[.agg #[.int .i64 2, .string ⟨#[]⟩, .slice (some ⟨g5, 0, none⟩) (acc.length + 1) cap, .int .i64 0, .bool false, .int .i64 0, .string ⟨#[]⟩, .slice none 0 0, .slice none 0 0], .int .i64 ((k2 : Int) + 1)]) ?_ rfl ⟨HBF.out, .inl ⟨⟨2, ⟨#[]⟩, acc ++ [(nm, V.mk vk vb vi vs [] [])], nilW⟩, k2 + 1, [.int .i64 2, .string ⟨#[]⟩, .slice (some ⟨g5, 0, none⟩) (acc.length + 1) cap, .int .i64 0, .bool false, .int .i64 0, .string ⟨#[]⟩, .slice none 0 0, .slice none 0 0], HX.out, by omega, by omega, rfl, HLY.out _ (st9_grownZ (w5.setCell ⟨w.heap.size + 1, 2, none⟩ (.slice (some ⟨g5, 0, none⟩) (acc.length + 1) cap)) w.heap.size (.int .i64 2) (.string ⟨#[]⟩) (.slice (some ⟨g5, 0, none⟩) (acc.length + 1) cap) (.int .i64 0) (.bool false) (.int .i64 0) (.string ⟨#[]⟩) (.slice none 0 0) (.slice none 0 0))⟩⟩
    rw [results_cell_tmp rfl]
    go_simp
   ·have h44 : ((s[k2]'hlt2).toNat : Int) = 44 := by
     by_cases h : ((s[k2]'hlt2).toNat : Int) = 44
     ·exact h
     ·exact absurd ⟨h, h93⟩ hgo
    have a7 : (((s[k2]'hlt2).toNat : Int) != 44) = false := by rw [bne_eq_false_iff_eq]; exact h44
    have a9 : (((s[k2]'hlt2).toNat : Int) == 93) = false := by rw [beq_eq_false_iff_ne]; exact h93
    have wk4 : IntKind.i64.wrap ((k2 : Int) + 1) = (k2 : Int) + 1 := IntWalk.i64_in _ (by omega)
    have HX : Hid (dkeyF s.data.toList (s.data.toList.length + 1) (k + 1) [] = dkeyF s.data.toList fu (k2 + 1) (acc ++ [(nm, V.mk vk vb vi vs [] [])])) := by show _ = _; rw [HF.out, dkey_3 HM.out (tk1_no (c := 93) hlt2 h93) (tk1_yes (c := 44) hlt2 h44)]
    clear h93 h44 hgo
    go_wp2_with (at_builtin; go_loud (refine wpl_push (keepM false) _ rfl (.tmp 123) (.tmp 127) 23 rfl (w.heap.size + 2) i1 _ 104 Tryz.underlying23 hJ.out.1 hJ.out.2.1 hJ.out.2.2.1 hJ.out.2.2.2 rfl (by decide) (by decide) smv (some (nm, V.mk vk vb vi vs [] [])) rfl o3 (w2.heap.size + 1) 1 (0, 0) rfl (alloc2_new w2 _ _) rfl one7 (HEM.out _) (fun b hb => False.elim hb) (by rw [List.length_map]; omega) hb3 ?_))
    intro g5 cap w5 o5 gr5 e5
    have ky5 := ky3.own gr5 hrow
    have HA5 : Hid (acc.map some ++ [some (nm, V.mk vk vb vi vs [] [])] = (acc ++ [(nm, V.mk vk vb vi vs [] [])]).map some) := by show _ = _; rw [List.map_append]; rfl
    rw [HA5.out] at o5
    have ky6 := ky5.put (.slice (some ⟨g5, 0, none⟩) (acc.length + 1) cap)
    have o6 := o5.set (keepM false) (show w.heap.size + 1 < w.heap.size + 2 by omega) 2 (.slice (some ⟨g5, 0, none⟩) (acc.length + 1) cap)
    have c5 : w5.cell? ⟨w.heap.size + 1, 2, none⟩ = some smv := cell_of_block ky5.n1 2
    have f5 : ∀ ii, w5.frozen? ⟨w.heap.size + 1, ii, none⟩ = false := frozen_of_block ky5.n1
    clear ky3 o3 gr5 e5 hrow hb3 c2 HEM o5
    go_wp2_with fail
    go_roundw
    case rel => exact ⟨k2 + 1, fu, acc ++ [(nm, V.mk vk vb vi vs [] [])], _, _, by omega, by omega, by rw [List.length_append]; simp only [List.length_cons, List.length_nil]; omega, by omega, by simp, HX, ky6, o6⟩
    case measure => simp [RowKit.intOf]; omega
theorem dread_any (s : ByteArray) (k : Nat) (w : World) (hs : s.size <= 1048576) (hk : k < s.size) : Calls Tryz.prog 35 #[.string s, .int .i64 (k : Int)] w (DrP (dreadF s.data.toList k) k s w) := by
 by_cases hc : ((s[k]'hk).toNat : Int) = 46
 ·exact dread_fld s k w hs hk hc
 by_cases hb : ((s[k]'hk).toNat : Int) = 91
 ·by_cases hk1 : k + 1 < s.size
  ·by_cases he : ((s[k + 1]'hk1).toNat : Int) = 61
   ·exact dread_itm s k w hs hk hb hk1 he
   ·exact dread_key s k w hs hk hb (hmk (tk1_no (c := 61) hk1 he)) hk1 (by rw [beq_eq_false_iff_ne]; exact he)
  ·exact dread_last s k w hs hk hb hk1
 ·exact dread_bad s k w hs hk hc hb
end Go.Proofs.YtdgfjdhobdfglaaGreatDoor
set_option maxRecDepth 100000
set_option maxHeartbeats 64000000
namespace Go.Proofs.YtdgfjdhobdfglaaGreatDoor
open Go.RowKit Go.Lib
theorem ba_cat (a b : List UInt8) : (⟨a.toArray⟩ : ByteArray) ++ ⟨b.toArray⟩ = ⟨(a ++ b).toArray⟩ := by
 apply ByteArray.ext
 simp [ByteArray.data_append]
theorem ba_size (a : List UInt8) : (⟨a.toArray⟩ : ByteArray).size = a.length := by show a.toArray.size = _; simp
theorem relem_one (nm : ByteArray) (am : Option Addr) (nk cm : Nat) (vk : Int) (vb : Bool) (vi : Int) (vs : ByteArray) (val : Option Addr) (vnl vcl : Nat) (vam : Option Addr) (vnm vcm : Nat) (w : World) (hs : nm.size <= 2147483648) (hV : validD nm.data.toList = true) :
 Calls Tryz.prog 37 #[.agg #[.int .i64 1, .string nm, .slice am nk cm, .int .i64 vk, .bool vb, .int .i64 vi, .string vs, .slice val vnl vcl, .slice vam vnm vcm]] w (SPost (46 :: nmT nm.data.toList) w) := by
 have nb := heap_alloc_new w (.cells #[.int .i64 1, .string nm, .slice am nk cm, .int .i64 vk, .bool vb, .int .i64 vi, .string vs, .slice val vnl vcl, .slice vam vnm vcm] 52)
 have m0 : (w.alloc (.cells #[.int .i64 1, .string nm, .slice am nk cm, .int .i64 vk, .bool vb, .int .i64 vi, .string vs, .slice val vnl vcl, .slice vam vnm vcm] 52)).cell? ⟨w.heap.size, 0, none⟩ = some (.int .i64 1) := by rw [cell_of_block nb]; rfl
 have m1 : (w.alloc (.cells #[.int .i64 1, .string nm, .slice am nk cm, .int .i64 vk, .bool vb, .int .i64 vi, .string vs, .slice val vnl vcl, .slice vam vnm vcm] 52)).cell? ⟨w.heap.size, 1, none⟩ = some (.string nm) := by rw [cell_of_block nb]; rfl
 have bA : Below w.heap.size w (w.alloc (.cells #[.int .i64 1, .string nm, .slice am nk cm, .int .i64 vk, .bool vb, .int .i64 vi, .string vs, .slice val vnl vcl, .slice vam vnm vcm] 52)) := (Below.refl _ w).alloc (Nat.le_refl _) _
 have C := hmk (rname_any nm (w.alloc (.cells #[.int .i64 1, .string nm, .slice am nk cm, .int .i64 vk, .bool vb, .int .i64 vi, .string vs, .slice val vnl vcl, .slice vam vnm vcm] 52)) hs hV)
 have hz := bA.size
 have hnl := nmT_len nm
 have HD := hmk (ba_cat [46] (nmT nm.data.toList))
 have HZ := ba_size (nmT nm.data.toList)
 clear nb
 unfold SPost at C ⊢
 rw [show (46 :: nmT nm.data.toList) = [46] ++ nmT nm.data.toList from rfl]
 generalize nmT nm.data.toList = nt at *
 generalize (⟨([46] ++ nt).toArray⟩ : ByteArray) = R at *
 generalize (⟨nt.toArray⟩ : ByteArray) = N at *
 have hN : N.size <= 12884901890 := by omega
 go_enter Tryz.func37, Tryz.ntmps37
 go_wp2_with fail
 refine C.out.mono ?_
 rintro e w1 ⟨rfl, b1⟩
 go_wp2_with fail
 go_ret
 exact ⟨by rw [<- HD.out]; rfl, bA.trans (b1.mono hz)⟩
theorem relem_three (nm : ByteArray) (am : Option Addr) (nk cm : Nat) (vk : Int) (vb : Bool) (vi : Int) (vs : ByteArray) (val : Option Addr) (vnl vcl : Nat) (vam : Option Addr) (vnm vcm : Nat) (w : World) (hk : vk = 1 \/ vk = 2 \/ vk = 3) (hi : In64 vi) (hs : vs.size <= 2147483648) (hV : validD vs.data.toList = true) :
 Calls Tryz.prog 37 #[.agg #[.int .i64 3, .string nm, .slice am nk cm, .int .i64 vk, .bool vb, .int .i64 vi, .string vs, .slice val vnl vcl, .slice vam vnm vcm]] w (SPost (91 :: 61 :: (scT vk vb vi vs ++ [93])) w) := by
 have nb := heap_alloc_new w (.cells #[.int .i64 3, .string nm, .slice am nk cm, .int .i64 vk, .bool vb, .int .i64 vi, .string vs, .slice val vnl vcl, .slice vam vnm vcm] 52)
 let oB : Obj := .cells #[.int .i64 3, .string nm, .slice am nk cm, .int .i64 vk, .bool vb, .int .i64 vi, .string vs, .slice val vnl vcl, .slice vam vnm vcm] 52
 have m0 : (w.alloc oB).cell? ⟨w.heap.size, 0, none⟩ = some (.int .i64 3) := by rw [cell_of_block nb]; rfl
 have m3 : (w.alloc oB).cell? ⟨w.heap.size, 3, none⟩ = some (.int .i64 vk) := by rw [cell_of_block nb]; rfl
 have m4 : (w.alloc oB).cell? ⟨w.heap.size, 4, none⟩ = some (.bool vb) := by rw [cell_of_block nb]; rfl
 have m5 : (w.alloc oB).cell? ⟨w.heap.size, 5, none⟩ = some (.int .i64 vi) := by rw [cell_of_block nb]; rfl
 have m6 : (w.alloc oB).cell? ⟨w.heap.size, 6, none⟩ = some (.string vs) := by rw [cell_of_block nb]; rfl
 have m7 : (w.alloc oB).cell? ⟨w.heap.size, 7, none⟩ = some (.slice val vnl vcl) := by rw [cell_of_block nb]; rfl
 have m8 : (w.alloc oB).cell? ⟨w.heap.size, 8, none⟩ = some (.slice vam vnm vcm) := by rw [cell_of_block nb]; rfl
 have bA : Below w.heap.size w (w.alloc oB) := (Below.refl _ w).alloc (Nat.le_refl _) _
 have C := hmk (rtext_any vk vb vi vs val vnl vcl vam vnm vcm (w.alloc oB) hk hi hs hV)
 have hz := bA.size
 have hnl := scT_len (k := vk) (b := vb) (i := vi) (s := vs) hi
 have HD : Hid ((⟨#[91, 61]⟩ : ByteArray) ++ ⟨(scT vk vb vi vs).toArray⟩ ++ ⟨#[93]⟩ = ⟨(91 :: 61 :: (scT vk vb vi vs ++ [93])).toArray⟩) := by
  show _ = _
  have h1 := ba_cat [91, 61] (scT vk vb vi vs)
  have h2 := ba_cat ([91, 61] ++ scT vk vb vi vs) [93]
  rw [<- h1] at h2
  rw [show (91 :: 61 :: (scT vk vb vi vs ++ [93])) = [91, 61] ++ scT vk vb vi vs ++ [93] by simp]
  exact h2
 have HZ := ba_size (scT vk vb vi vs)
 unfold SPost TxPost at *
 clear nb
 generalize (⟨(91 :: 61 :: (scT vk vb vi vs ++ [93])).toArray⟩ : ByteArray) = R at *
 generalize scT vk vb vi vs = st at *
 go_enter Tryz.func37, Tryz.ntmps37
 go_wp2_with fail
 refine C.out.mono ?_
 rintro e w1 ⟨v', rfl, o1, b1⟩
 have hcv := o1.conv
 generalize (⟨st.toArray⟩ : ByteArray) = N at *
 have hN : N.size <= 12884901990 := by omega
 have hN2 : ((⟨#[91, 61]⟩ : ByteArray) ++ N).size <= 12884902000 := by rw [ByteArray.size_append]; show 2 + N.size <= _; omega
 go_wp2_with fail
 go_ret
 exact ⟨by rw [<- HD.out]; rfl, bA.trans (b1.mono hz)⟩
end Go.Proofs.YtdgfjdhobdfglaaGreatDoor
