import Derived.Test.YtihcggepeadklaaGreatDoorG43
/- elemSame of unlike elements. -/
set_option linter.unusedSimpArgs false
set_option linter.unusedVariables false
namespace Go.Proofs.YtihcggepeadklaaGreatDoor
open Go.RowKit Go.Lib
theorem elB_item {x : El} (h : elB x = true) : ∃ k b i s, x.item = .mk k b i s [] [] := by
  obtain ⟨k, n, m, v⟩ := x
  by_cases h1 : k = 1
  · rw [elB1 h1] at h
    simp only [Bool.and_eq_true, decide_eq_true_eq] at h
    exact ⟨_, _, _, _, nilV_eq h.2.1⟩
  by_cases h2 : k = 2
  · rw [elB2 h2] at h
    simp only [Bool.and_eq_true, decide_eq_true_eq] at h
    exact ⟨_, _, _, _, nilV_eq h.2.1⟩
  by_cases h3 : k = 3
  · rw [elB3 h3] at h
    simp only [Bool.and_eq_true, decide_eq_true_eq] at h
    obtain ⟨a, b, c, d, l, q⟩ := v
    obtain ⟨_, _, rfl, rfl⟩ := sizS_good h.2.2
    exact ⟨_, _, _, _, rfl⟩
  · rw [elB0 h1 h2 h3] at h; cases h
theorem elB_key {x : El} (h : elB x = true) : ∀ y ∈ x.key, ∃ k b i s, y.2 = .mk k b i s [] [] := by
  obtain ⟨k, n, m, v⟩ := x
  intro y hy
  by_cases h1 : k = 1
  · rw [elB1 h1] at h
    simp only [Bool.and_eq_true, decide_eq_true_eq] at h
    rw [List.length_eq_zero_iff.1 h.1] at hy; cases hy
  by_cases h2 : k = 2
  · rw [elB2 h2] at h
    simp only [Bool.and_eq_true, decide_eq_true_eq] at h
    obtain ⟨j, hj, rfl⟩ := List.getElem_of_mem hy
    have g := (keysB_get h.2.2 hj).2
    rcases hv : (m[j]).2 with ⟨a, b, c, d, l, q⟩
    rw [hv] at g
    obtain ⟨_, _, rfl, rfl⟩ := sizS_good g
    exact ⟨_, _, _, _, rfl⟩
  by_cases h3 : k = 3
  · rw [elB3 h3] at h
    simp only [Bool.and_eq_true, decide_eq_true_eq] at h
    rw [List.length_eq_zero_iff.1 h.2.1] at hy; cases hy
  · rw [elB0 h1 h2 h3] at h; cases h
set_option maxHeartbeats 8000000 in
set_option maxRecDepth 100000 in
theorem ediff_any (x y : El) (hgx : elB x = true) (hgy : elB y = true) (hne : x ≠ y) (S S' : Nat → Prop) (cs ds : List Value) (w : World) (hl : x.lies w S cs) (hl' : y.lies w S' ds) (hS : ∀ x, S x → x < w.heap.size) (hS' : ∀ x, S' x → x < w.heap.size) :
    Calls Tryz.prog 24 #[.agg cs.toArray, .agg ds.toArray] w (BPost false w) := by
  have HIx := hmk (elB_item hgx)
  have HIy := hmk (elB_item hgy)
  have HVa := hmk (elB_key hgx)
  have HVb := hmk (elB_key hgy)
  obtain ⟨k, nm, m, v⟩ := x
  obtain ⟨k2, nm2, m2, v2⟩ := y
  obtain ⟨am, cm, bm, om, is, rfl, hk, hnm, ham, hm, hv⟩ := hl
  obtain ⟨am2, cm2, bm2, om2, is', rfl, _, _, ham', hm', hv'⟩ := hl'
  dsimp only at hk hnm ham hm hv ham' hm' hv' HIx HIy HVa HVb ⊢
  have HM := hmk hm
  have HV := hmk hv
  have HM' := hmk hm'
  have HV' := hmk hv'
  obtain ⟨vk, vb, vi, vs, val, vnl, vcl, vam, vnm, vcm, rfl⟩ := V.ten hv
  obtain ⟨vk2, vb2, vi2, vs2, val2, vnl2, vcl2, vam2, vnm2, vcm2, rfl⟩ := V.ten hv'
  clear hm hv hm' hv' hgx hgy
  have hml : m.length ≤ 9223372036854775807 := Nat.le_trans ham.le ham.max
  have hml2 : m2.length ≤ 9223372036854775807 := Nat.le_trans ham'.le ham'.max
  have hb0 := box_row w [.int .i64 k, .string nm, .slice am m.length cm, .int .i64 vk, .bool vb, .int .i64 vi, .string vs, .slice val vnl vcl, .slice vam vnm vcm] 48
  have hb1 : rowAt ((w.alloc (.cells #[.int .i64 k, .string nm, .slice am m.length cm, .int .i64 vk, .bool vb, .int .i64 vi, .string vs, .slice val vnl vcl, .slice vam vnm vcm] 48)).alloc (.cells #[.int .i64 k2, .string nm2, .slice am2 m2.length cm2, .int .i64 vk2, .bool vb2, .int .i64 vi2, .string vs2, .slice val2 vnl2 vcl2, .slice vam2 vnm2 vcm2] 48)) w.heap.size 0 [.int .i64 k, .string nm, .slice am m.length cm, .int .i64 vk, .bool vb, .int .i64 vi, .string vs, .slice val vnl vcl, .slice vam vnm vcm] := hb0.keep (Below.heap_alloc _ _ _ (by rw [alloc_size]; omega))
  have hb2 : rowAt ((w.alloc (.cells #[.int .i64 k, .string nm, .slice am m.length cm, .int .i64 vk, .bool vb, .int .i64 vi, .string vs, .slice val vnl vcl, .slice vam vnm vcm] 48)).alloc (.cells #[.int .i64 k2, .string nm2, .slice am2 m2.length cm2, .int .i64 vk2, .bool vb2, .int .i64 vi2, .string vs2, .slice val2 vnl2 vcl2, .slice vam2 vnm2 vcm2] 48)) (w.heap.size + 1) 0 [.int .i64 k2, .string nm2, .slice am2 m2.length cm2, .int .i64 vk2, .bool vb2, .int .i64 vi2, .string vs2, .slice val2 vnl2 vcl2, .slice vam2 vnm2 vcm2] := by
    have := box_row (w.alloc (.cells #[.int .i64 k, .string nm, .slice am m.length cm, .int .i64 vk, .bool vb, .int .i64 vi, .string vs, .slice val vnl vcl, .slice vam vnm vcm] 48)) [.int .i64 k2, .string nm2, .slice am2 m2.length cm2, .int .i64 vk2, .bool vb2, .int .i64 vi2, .string vs2, .slice val2 vnl2 vcl2, .slice vam2 vnm2 vcm2] 48
    rwa [alloc_size] at this
  have B0 := two_below w (.cells #[.int .i64 k, .string nm, .slice am m.length cm, .int .i64 vk, .bool vb, .int .i64 vi, .string vs, .slice val vnl vcl, .slice vam vnm vcm] 48) (.cells #[.int .i64 k2, .string nm2, .slice am2 m2.length cm2, .int .i64 vk2, .bool vb2, .int .i64 vi2, .string vs2, .slice val2 vnl2 vcl2, .slice vam2 vnm2 vcm2] 48)
  have HB := hmk B0
  have hz0 : ((w.alloc (.cells #[.int .i64 k, .string nm, .slice am m.length cm, .int .i64 vk, .bool vb, .int .i64 vi, .string vs, .slice val vnl vcl, .slice vam vnm vcm] 48)).alloc (.cells #[.int .i64 k2, .string nm2, .slice am2 m2.length cm2, .int .i64 vk2, .bool vb2, .int .i64 vi2, .string vs2, .slice val2 vnl2 vcl2, .slice vam2 vnm2 vcm2] 48)).heap.size = w.heap.size + 1 + 1 := by rw [alloc_size, alloc_size]
  have HNE := hmk hne
  clear hb0 hne
  obtain ⟨d0, d1, d2, d3, d4, d5, d6, d7, d8⟩ := row9z hb1
  obtain ⟨f0, f1, f2, f3, f4, f5, f6, f7, f8⟩ := row9z hb2
  by_cases e0 : k = k2
  rotate_left
  · have y0 : (k != k2) = true := bne_iff_ne.2 e0
    clear hz0 e0 hb1 hb2 B0
    go_enter Tryz.func24, Tryz.ntmps24
    go_wp2_with fail
    go_ret
    exact ⟨rfl, HB.out⟩
  by_cases e1 : nm = nm2
  rotate_left
  · have yz : (k != k2) = false := bne_eq_false_iff_eq.2 e0
    have hn : nm.toList ≠ nm2.toList := fun h => e1 (bytes_eq h)
    have y0 : (nm.toList != nm2.toList) = true := bne_iff_ne.2 hn
    have y1 : (nm.toList == nm2.toList) = false := beq_eq_false_iff_ne.2 hn
    clear hz0 e0 e1 hb1 hb2 B0
    go_enter Tryz.func24, Tryz.ntmps24
    go_wp2_with fail
    go_ret
    exact ⟨rfl, HB.out⟩
  subst e0
  subst e1
  by_cases e2 : m.length = m2.length
  rotate_left
  · have y0 : ((m.length : Int) != (m2.length : Int)) = true := bne_iff_ne.2 (by omega)
    clear hz0 e2 hb1 hb2 B0
    go_enter Tryz.func24, Tryz.ntmps24
    go_wp2_with fail
    go_ret
    exact ⟨rfl, HB.out⟩
  have yl : ((m.length : Int) != (m2.length : Int)) = false := by rw [bne_eq_false_iff_eq]; omega
  have HE2 := hmk e2
  by_cases e3 : v = v2
  rotate_left
  · have c1 := hmk (vcmp_any v v2 S S' _ _ ((w.alloc (.cells #[.int .i64 k, .string nm, .slice am m.length cm, .int .i64 vk, .bool vb, .int .i64 vi, .string vs, .slice val vnl vcl, .slice vam vnm vcm] 48)).alloc (.cells #[.int .i64 k, .string nm, .slice am2 m2.length cm2, .int .i64 vk2, .bool vb2, .int .i64 vi2, .string vs2, .slice val2 vnl2 vcl2, .slice vam2 vnm2 vcm2] 48)) HIx.out HIy.out (V.lies_keep (fun h => h) (fun x hx => B0.block x (hS x hx)) (fun _ h => h) _ HV.out) (V.lies_keep (fun h => h) (fun x hx => B0.block x (hS' x hx)) (fun _ h => h) _ HV'.out) (fun x hx => Nat.lt_of_lt_of_le (hS x hx) B0.size) (fun x hx => Nat.lt_of_lt_of_le (hS' x hx) B0.size) false (by simp [e3]))
    clear hz0 e2 e3 hb1 hb2 B0
    go_enter Tryz.func24, Tryz.ntmps24
    go_wp2_with fail
    refine c1.out.mono ?_
    rintro e w1 ⟨rfl, b1⟩
    go_wp2_with fail
    go_ret
    exact ⟨rfl, HB.out.trans (b1.mono HB.out.size)⟩
  have c1 := hmk (vcmp_any v v2 S S' _ _ ((w.alloc (.cells #[.int .i64 k, .string nm, .slice am m.length cm, .int .i64 vk, .bool vb, .int .i64 vi, .string vs, .slice val vnl vcl, .slice vam vnm vcm] 48)).alloc (.cells #[.int .i64 k, .string nm, .slice am2 m2.length cm2, .int .i64 vk2, .bool vb2, .int .i64 vi2, .string vs2, .slice val2 vnl2 vcl2, .slice vam2 vnm2 vcm2] 48)) HIx.out HIy.out (V.lies_keep (fun h => h) (fun x hx => B0.block x (hS x hx)) (fun _ h => h) _ HV.out) (V.lies_keep (fun h => h) (fun x hx => B0.block x (hS' x hx)) (fun _ h => h) _ HV'.out) (fun x hx => Nat.lt_of_lt_of_le (hS x hx) B0.size) (fun x hx => Nat.lt_of_lt_of_le (hS' x hx) B0.size) true (by simp [e3]))
  have HE3 := hmk e3
  clear e3 e2
  go_enter Tryz.func24, Tryz.ntmps24
  go_wp2_with fail
  refine c1.out.mono ?_
  rintro e w1 ⟨rfl, b1⟩
  clear d0 d1 d2 d3 d4 d5 d6 d7 d8 f0 f1 f2 f3 f4 f5 f6 f7 f8 c1
  generalize ((w.alloc (.cells #[.int .i64 k, .string nm, .slice am m.length cm, .int .i64 vk, .bool vb, .int .i64 vi, .string vs, .slice val vnl vcl, .slice vam vnm vcm] 48)).alloc (.cells #[.int .i64 k, .string nm, .slice am2 m2.length cm2, .int .i64 vk2, .bool vb2, .int .i64 vi2, .string vs2, .slice val2 vnl2 vcl2, .slice vam2 vnm2 vcm2] 48)) = w0 at *
  go_wp2_with fail
  go_loopw [5] (fun e wr => ∃ j : Nat, j ≤ m.length ∧ e = .int .i64 (j : Int) ∧ Hid (m.take j = m2.take j) ∧ Below w0.heap.size w0 wr) (fun e _ => m.length - (RowKit.intOf e).toNat)
  case atStart => exact ⟨0, by omega, rfl, hmk rfl, b1⟩
  case round =>
    clear b1
    obtain ⟨j, hj, rfl, HTK, bj⟩ := hrel
    obtain ⟨d0, d1, d2, d3, d4, d5, d6, d7, d8⟩ := row9z (hb1.keep (bj.block _ (by omega)))
    obtain ⟨f0, f1, f2, f3, f4, f5, f6, f7, f8⟩ := row9z (hb2.keep (bj.block _ (by omega)))
    have hzr := bj.size
    by_cases hjl : j < m.length
    · have hjl2 : j < m2.length := by have := HE2.out; omega
      have y2 : (j : Int) < m.length := by omega
      have y3 : (j : Int) < m2.length := by omega
      obtain ⟨hSb, hks, csj, hrow, hlj⟩ := liesM_get HM.out j hjl
      obtain ⟨hSb', hks', dsj, hrow', hlj'⟩ := liesM_get HM'.out j hjl2
      obtain rfl : am = some ⟨bm, om, none⟩ := ham.at_.resolve_left (by omega)
      obtain rfl : am2 = some ⟨bm2, om2, none⟩ := ham'.at_.resolve_left (by omega)
      have hk0 : ∀ x, S x → wr.heap[x]? = w.heap[x]? := fun x hx => (bj.block x (by have := hS x hx; omega)).trans (B0.block x (hS x hx))
      have hk1 : ∀ x, S' x → wr.heap[x]? = w.heap[x]? := fun x hx => (bj.block x (by have := hS' x hx; omega)).trans (B0.block x (hS' x hx))
      obtain ⟨ek, eb, ei, es, eal, enl, ecl, eam, enm, ecm, rfl⟩ := V.ten hlj
      obtain ⟨ek', eb', ei', es', eal', enl', ecl', eam', enm', ecm', rfl⟩ := V.ten hlj'
      have rw0 := row7 (hrow.keep (hk0 _ hSb))
      have rw1 := row7 (hrow'.keep (hk1 _ hSb'))
      have hbl : bm < wr.heap.size := World.block_lt_of_cell? wr _ rw0.1
      have hbl' : bm2 < wr.heap.size := World.block_lt_of_cell? wr _ rw1.1
      have p0 : ∀ x : Sub wr.heap.size wr, _ := sub_cell rw0.1 hbl
      have p1 : ∀ x : Sub wr.heap.size wr, _ := sub_cell rw0.2.1 hbl
      have p2 : ∀ x : Sub wr.heap.size wr, _ := sub_cell rw0.2.2.1 hbl
      have p3 : ∀ x : Sub wr.heap.size wr, _ := sub_cell rw0.2.2.2.1 hbl
      have p4 : ∀ x : Sub wr.heap.size wr, _ := sub_cell rw0.2.2.2.2.1 hbl
      have p5 : ∀ x : Sub wr.heap.size wr, _ := sub_cell rw0.2.2.2.2.2.1 hbl
      have p6 : ∀ x : Sub wr.heap.size wr, _ := sub_cell rw0.2.2.2.2.2.2 hbl
      have q0 : ∀ x : Sub wr.heap.size wr, _ := sub_cell rw1.1 hbl'
      have q1 : ∀ x : Sub wr.heap.size wr, _ := sub_cell rw1.2.1 hbl'
      have q2 : ∀ x : Sub wr.heap.size wr, _ := sub_cell rw1.2.2.1 hbl'
      have q3 : ∀ x : Sub wr.heap.size wr, _ := sub_cell rw1.2.2.2.1 hbl'
      have q4 : ∀ x : Sub wr.heap.size wr, _ := sub_cell rw1.2.2.2.2.1 hbl'
      have q5 : ∀ x : Sub wr.heap.size wr, _ := sub_cell rw1.2.2.2.2.2.1 hbl'
      have q6 : ∀ x : Sub wr.heap.size wr, _ := sub_cell rw1.2.2.2.2.2.2 hbl'
      have u4 : ∀ x : Sub wr.heap.size wr, _ := sub_cell d2 (by omega)
      have v4 : ∀ x : Sub wr.heap.size wr, _ := sub_cell f2 (by omega)
      have HTN : Hid (m[j] = m2[j] → m.take (j + 1) = m2.take (j + 1)) := fun h => by rw [List.take_succ_eq_append_getElem hjl, List.take_succ_eq_append_getElem hjl2, HTK.out, h]
      by_cases hkey : (m[j]).1 = (m2[j]).1
      rotate_left
      · have yk : ((m[j]).1.toList != (m2[j]'(by omega)).1.toList) = true := bne_iff_ne.2 (fun h => hkey (bytes_eq h))
        have yk2 : ((m[j]).1.toList == (m2[j]'(by omega)).1.toList) = false := beq_eq_false_iff_ne.2 (fun h => hkey (bytes_eq h))
        clear hlj hlj' hrow hrow' rw0 rw1 hk0 hk1 hkey
        generalize m[j] = mj at *
        generalize m2[j]'(by omega) = mj2 at *
        go_wp2_with fail
        refine wp_region_sub wr.heap.size (by kernel_rfl) (by kernel_rfl) ?_
        repeat (go_big_quiet_step (fail))
        refine wpQuiet_nil ?_
        rintro wq ⟨⟨wq', bq⟩, hq⟩
        have hq' : wq = wq' := hq
        subst hq'
        clear hq
        have HBQ := hmk (HB.out.trans ((bj.trans (bq.mono hzr)).mono HB.out.size))
        go_wp2_with fail
        go_ret
        exact ⟨rfl, HBQ.out⟩
      by_cases hval : (m[j]).2 = (m2[j]).2
      rotate_left
      · have CI : Hid (∀ x : Sub wr.heap.size wr, Calls Tryz.prog 46 #[.agg #[.int .i64 ek, .bool eb, .int .i64 ei, .string es, .slice eal enl ecl, .slice eam enm ecm], .agg #[.int .i64 ek', .bool eb', .int .i64 ei', .string es', .slice eal' enl' ecl', .slice eam' enm' ecm'], .int .i64 0] x.w fun e w'' => e = .returned (.bool false) ∧ ∃ y : Sub wr.heap.size wr, w'' = y.w) :=
          sub_call fun w' hb => by
            refine (vcmp_any (m[j]).2 (m2[j]'(by omega)).2 S S' _ _ w' (HVa.out _ (List.getElem_mem hjl)) (HVb.out _ (List.getElem_mem (by omega))) (V.lies_keep (fun h => h) (fun x hx => (hb.block x (by have := hS x hx; omega)).trans (hk0 x hx)) (fun _ h => h) _ hlj) (V.lies_keep (fun h => h) (fun x hx => (hb.block x (by have := hS' x hx; omega)).trans (hk1 x hx)) (fun _ h => h) _ hlj') (fun x hx => by have := hS x hx; have := hb.size; omega) (fun x hx => by have := hS' x hx; have := hb.size; omega) false (by simp [hval])).mono ?_
            rintro e w'' ⟨he, h2⟩
            exact ⟨he, hb.trans (h2.mono hb.size)⟩
        have yk : (m2[j]'(by omega)).1 = (m[j]).1 := hkey.symm
        clear hlj hlj' hrow hrow' rw0 rw1 hk0 hk1 hkey
        generalize m[j] = mj at *
        generalize m2[j]'(by omega) = mj2 at *
        go_wp2_with fail
        refine wp_region_sub wr.heap.size (by kernel_rfl) (by kernel_rfl) ?_
        repeat (go_big_quiet_step (exact CI.out _))
        refine wpQuiet_nil ?_
        rintro wq ⟨⟨wq', bq⟩, hq⟩
        have hq' : wq = wq' := hq
        subst hq'
        clear hq
        have HBQ := hmk (HB.out.trans ((bj.trans (bq.mono hzr)).mono HB.out.size))
        go_wp2_with fail
        go_ret
        exact ⟨rfl, HBQ.out⟩
      have HNX := hmk (HTN.out (Prod.ext hkey hval))
      have CI : Hid (∀ x : Sub wr.heap.size wr, Calls Tryz.prog 46 #[.agg #[.int .i64 ek, .bool eb, .int .i64 ei, .string es, .slice eal enl ecl, .slice eam enm ecm], .agg #[.int .i64 ek', .bool eb', .int .i64 ei', .string es', .slice eal' enl' ecl', .slice eam' enm' ecm'], .int .i64 0] x.w fun e w'' => e = .returned (.bool true) ∧ ∃ y : Sub wr.heap.size wr, w'' = y.w) :=
        sub_call fun w' hb => by
          refine (vcmp_any (m[j]).2 (m2[j]'(by omega)).2 S S' _ _ w' (HVa.out _ (List.getElem_mem hjl)) (HVb.out _ (List.getElem_mem (by omega))) (V.lies_keep (fun h => h) (fun x hx => (hb.block x (by have := hS x hx; omega)).trans (hk0 x hx)) (fun _ h => h) _ hlj) (V.lies_keep (fun h => h) (fun x hx => (hb.block x (by have := hS' x hx; omega)).trans (hk1 x hx)) (fun _ h => h) _ hlj') (fun x hx => by have := hS x hx; have := hb.size; omega) (fun x hx => by have := hS' x hx; have := hb.size; omega) true (by simp [hval])).mono ?_
          rintro e w'' ⟨he, h2⟩
          exact ⟨he, hb.trans (h2.mono hb.size)⟩
      have yk : (m2[j]'(by omega)).1 = (m[j]).1 := hkey.symm
      clear hlj hlj' hrow hrow' rw0 rw1 hk0 hk1 hkey
      generalize m[j] = mj at *
      generalize m2[j]'(by omega) = mj2 at *
      go_wp2_with fail
      refine wp_region_sub wr.heap.size (by kernel_rfl) (by kernel_rfl) ?_
      repeat (go_big_quiet_step (exact CI.out _))
      refine wpQuiet_nil ?_
      rintro wq ⟨⟨wq', bq⟩, hq⟩
      have hq' : wq = wq' := hq
      subst hq'
      clear hq
      go_wp2_with fail
      go_roundw
      case rel => exact ⟨j + 1, by omega, by go_num, HNX, bj.trans (bq.mono hzr)⟩
      case measure => simp [RowKit.intOf]; omega
    · obtain rfl : j = m.length := by omega
      exact absurd (by
        have h1 := HTK.out
        rw [List.take_of_length_le (Nat.le_refl _), List.take_of_length_le (by rw [HE2.out]; exact Nat.le_refl _)] at h1
        rw [h1, HE3.out]) HNE.out
end Go.Proofs.YtihcggepeadklaaGreatDoor
