import Derived.Test.YtihcggepeadklaaGreatDoorG13
/- valueSame, of a value and its twin. -/
set_option linter.unusedSimpArgs false
set_option linter.unusedVariables false
namespace Go.Proofs.YtihcggepeadklaaGreatDoor
open Go.RowKit Go.Lib
set_option maxHeartbeats 4000000 in
set_option maxRecDepth 100000 in
theorem vsame_deep (v : V) (lv : Int) (S S' : Nat → Prop) (cs ds : List Value) (w : World) (hlv : ¬ lv < 3) (hl : v.lies false w S cs) (hl' : v.lies false w S' ds) :
    Calls Tryz.prog 46 #[.agg cs.toArray, .agg ds.toArray, .int .i64 lv] w (BPost true w) := by
  obtain ⟨k, b, i, s, l, m⟩ := v
  rw [V.lies] at hl hl'
  obtain ⟨al, cl, bl, ol, am, cm, bm, om, rfl, hk, hi, hs, hal, ham, hl1, hm1, _⟩ := hl
  obtain ⟨al', cl', bl', ol', am', cm', bm', om', rfl, hk', hi', hs', hal', ham', hl1', hm1', _⟩ := hl'
  clear hl1 hm1 hl1' hm1'
  have hll : l.length ≤ 9223372036854775807 := Nat.le_trans hal.le hal.max
  have hml : m.length ≤ 9223372036854775807 := Nat.le_trans ham.le ham.max
  have hb0 := box_row w [.int .i64 k, .bool b, .int .i64 i, .string s, .slice al l.length cl, .slice am m.length cm] 46
  have hb1 : rowAt ((w.alloc (.cells #[.int .i64 k, .bool b, .int .i64 i, .string s, .slice al l.length cl, .slice am m.length cm] 46)).alloc (.cells #[.int .i64 k, .bool b, .int .i64 i, .string s, .slice al' l.length cl', .slice am' m.length cm'] 46)) w.heap.size 0 [.int .i64 k, .bool b, .int .i64 i, .string s, .slice al l.length cl, .slice am m.length cm] := hb0.keep (Below.heap_alloc _ _ _ (by rw [alloc_size]; omega))
  have hb2 : rowAt ((w.alloc (.cells #[.int .i64 k, .bool b, .int .i64 i, .string s, .slice al l.length cl, .slice am m.length cm] 46)).alloc (.cells #[.int .i64 k, .bool b, .int .i64 i, .string s, .slice al' l.length cl', .slice am' m.length cm'] 46)) (w.heap.size + 1) 0 [.int .i64 k, .bool b, .int .i64 i, .string s, .slice al' l.length cl', .slice am' m.length cm'] := by
    have := box_row (w.alloc (.cells #[.int .i64 k, .bool b, .int .i64 i, .string s, .slice al l.length cl, .slice am m.length cm] 46)) [.int .i64 k, .bool b, .int .i64 i, .string s, .slice al' l.length cl', .slice am' m.length cm'] 46
    rwa [alloc_size] at this
  have B0 := two_below w (.cells #[.int .i64 k, .bool b, .int .i64 i, .string s, .slice al l.length cl, .slice am m.length cm] 46) (.cells #[.int .i64 k, .bool b, .int .i64 i, .string s, .slice al' l.length cl', .slice am' m.length cm'] 46)
  have hz0 : ((w.alloc (.cells #[.int .i64 k, .bool b, .int .i64 i, .string s, .slice al l.length cl, .slice am m.length cm] 46)).alloc (.cells #[.int .i64 k, .bool b, .int .i64 i, .string s, .slice al' l.length cl', .slice am' m.length cm'] 46)).heap.size = w.heap.size + 1 + 1 := by rw [alloc_size, alloc_size]
  clear hb0
  go_enter Tryz.func46, Tryz.ntmps46
  go_wp2_with fail
  generalize ((w.alloc (.cells #[.int .i64 k, .bool b, .int .i64 i, .string s, .slice al l.length cl, .slice am m.length cm] 46)).alloc (.cells #[.int .i64 k, .bool b, .int .i64 i, .string s, .slice al' l.length cl', .slice am' m.length cm'] 46)) = w0 at *
  have y3 : ¬ lv < 3 := by omega
  go_loopw [7] (fun e wr => e = .int .i64 0 ∧ Below w0.heap.size w0 wr) (fun e _ => 0)
  case atStart => exact ⟨rfl, Below.refl _ _⟩
  case round =>
    obtain ⟨rfl, bj⟩ := hrel
    obtain ⟨d0, d1, d2, d3, d4, d5⟩ := row6z (hb1.keep (bj.block _ (by omega)))
    obtain ⟨f0, f1, f2, f3, f4, f5⟩ := row6z (hb2.keep (bj.block _ (by omega)))
    have hzr := bj.size
    have hd : decide ((0 : Int) < l.length) = true ∨ decide ((0 : Int) < l.length) = false := by cases decide ((0 : Int) < l.length) <;> simp
    have HC : Hid (∀ W, Below w0.heap.size w0 W → Below w0.heap.size w0 W) := fun _ h => h
    rcases Nat.eq_zero_or_pos l.length with hz | hz
    all_goals first
      | have y1 : ¬ (0 : Int) < l.length := by omega
      | have y1 : (0 : Int) < l.length := by omega
    all_goals clear hd
    all_goals go_wp2_with fail
    all_goals go_loopw [8] (fun e wr => e = .int .i64 0 ∧ Below w0.heap.size w0 wr) (fun e _ => 0)
    all_goals first
      | exact ⟨rfl, bj⟩
      | skip
    all_goals clear bj hzr d0 d1 d2 d3 d4 d5 f0 f1 f2 f3 f4 f5
    all_goals obtain ⟨rfl, bj⟩ := hrel
    all_goals obtain ⟨d0, d1, d2, d3, d4, d5⟩ := row6z (hb1.keep (bj.block _ (by omega)))
    all_goals have HB := hmk (B0.trans (bj.mono (by omega)))
    all_goals rcases Nat.eq_zero_or_pos m.length with hy | hy
    all_goals first
      | have y2 : ¬ (0 : Int) < m.length := by omega
      | have y2 : (0 : Int) < m.length := by omega
    all_goals go_wp2_with fail
    all_goals go_ret
    all_goals exact ⟨rfl, HB.out⟩
set_option maxHeartbeats 4000000 in
set_option maxRecDepth 100000 in
theorem vsame_any (v : V) : ∀ (lv : Int) (S S' : Nat → Prop) (cs ds : List Value) (w : World), 0 ≤ lv → lv ≤ 3 → v.lies false w S cs → v.lies false w S' ds → (∀ x, S x → x < w.heap.size) → (∀ x, S' x → x < w.heap.size) →
    Calls Tryz.prog 46 #[.agg cs.toArray, .agg ds.toArray, .int .i64 lv] w (BPost true w) := by
  induction v using V.ind_v with
  | h k b i s l m ihl ihm =>
  intro lv S S' cs ds w hv0 hv1 hl hl' hS hS'
  by_cases hlv : lv < 3
  case neg => exact vsame_deep _ lv S S' cs ds w hlv hl hl'
  rw [V.lies] at hl hl'
  obtain ⟨al, cl, bl, ol, am, cm, bm, om, rfl, hk, hi, hs, hal, ham, hl1, hm1, _⟩ := hl
  obtain ⟨al', cl', bl', ol', am', cm', bm', om', rfl, hk', hi', hs', hal', ham', hl1', hm1', _⟩ := hl'
  have HL := hmk hl1
  have HM := hmk hm1
  have HL' := hmk hl1'
  have HM' := hmk hm1'
  clear hl1 hm1 hl1' hm1'
  have hll : l.length ≤ 9223372036854775807 := Nat.le_trans hal.le hal.max
  have hml : m.length ≤ 9223372036854775807 := Nat.le_trans ham.le ham.max
  have hb0 := box_row w [.int .i64 k, .bool b, .int .i64 i, .string s, .slice al l.length cl, .slice am m.length cm] 46
  have hb1 : rowAt ((w.alloc (.cells #[.int .i64 k, .bool b, .int .i64 i, .string s, .slice al l.length cl, .slice am m.length cm] 46)).alloc (.cells #[.int .i64 k, .bool b, .int .i64 i, .string s, .slice al' l.length cl', .slice am' m.length cm'] 46)) w.heap.size 0 [.int .i64 k, .bool b, .int .i64 i, .string s, .slice al l.length cl, .slice am m.length cm] := hb0.keep (Below.heap_alloc _ _ _ (by rw [alloc_size]; omega))
  have hb2 : rowAt ((w.alloc (.cells #[.int .i64 k, .bool b, .int .i64 i, .string s, .slice al l.length cl, .slice am m.length cm] 46)).alloc (.cells #[.int .i64 k, .bool b, .int .i64 i, .string s, .slice al' l.length cl', .slice am' m.length cm'] 46)) (w.heap.size + 1) 0 [.int .i64 k, .bool b, .int .i64 i, .string s, .slice al' l.length cl', .slice am' m.length cm'] := by
    have := box_row (w.alloc (.cells #[.int .i64 k, .bool b, .int .i64 i, .string s, .slice al l.length cl, .slice am m.length cm] 46)) [.int .i64 k, .bool b, .int .i64 i, .string s, .slice al' l.length cl', .slice am' m.length cm'] 46
    rwa [alloc_size] at this
  have B0 := two_below w (.cells #[.int .i64 k, .bool b, .int .i64 i, .string s, .slice al l.length cl, .slice am m.length cm] 46) (.cells #[.int .i64 k, .bool b, .int .i64 i, .string s, .slice al' l.length cl', .slice am' m.length cm'] 46)
  have hz0 : ((w.alloc (.cells #[.int .i64 k, .bool b, .int .i64 i, .string s, .slice al l.length cl, .slice am m.length cm] 46)).alloc (.cells #[.int .i64 k, .bool b, .int .i64 i, .string s, .slice al' l.length cl', .slice am' m.length cm'] 46)).heap.size = w.heap.size + 1 + 1 := by rw [alloc_size, alloc_size]
  clear hb0
  go_enter Tryz.func46, Tryz.ntmps46
  go_wp2_with fail
  generalize ((w.alloc (.cells #[.int .i64 k, .bool b, .int .i64 i, .string s, .slice al l.length cl, .slice am m.length cm] 46)).alloc (.cells #[.int .i64 k, .bool b, .int .i64 i, .string s, .slice al' l.length cl', .slice am' m.length cm'] 46)) = w0 at *
  go_loopw [7] (fun e wr => ∃ j : Nat, j ≤ l.length ∧ e = .int .i64 (j : Int) ∧ Below w0.heap.size w0 wr) (fun e _ => l.length - (RowKit.intOf e).toNat)
  case atStart => exact ⟨0, by omega, rfl, Below.refl _ _⟩
  case round =>
    obtain ⟨j, hj, rfl, bj⟩ := hrel
    obtain ⟨d0, d1, d2, d3, d4, d5⟩ := row6z (hb1.keep (bj.block _ (by omega)))
    obtain ⟨f0, f1, f2, f3, f4, f5⟩ := row6z (hb2.keep (bj.block _ (by omega)))
    have hzr := bj.size
    by_cases hjl : j < l.length
    · have y1 : (j : Int) < l.length := by omega
      obtain ⟨hSb, csj, hrow, hlj⟩ := liesL_get HL.out j hjl
      obtain ⟨hSb', dsj, hrow', hlj'⟩ := liesL_get HL'.out j hjl
      obtain rfl : al = some ⟨bl, ol, none⟩ := hal.at_.resolve_left (by omega)
      obtain rfl : al' = some ⟨bl', ol', none⟩ := hal'.at_.resolve_left (by omega)
      have hk0 : ∀ x, S x → wr.heap[x]? = w.heap[x]? := fun x hx => (bj.block x (by have := hS x hx; omega)).trans (B0.block x (hS x hx))
      have hk1 : ∀ x, S' x → wr.heap[x]? = w.heap[x]? := fun x hx => (bj.block x (by have := hS' x hx; omega)).trans (B0.block x (hS' x hx))
      obtain ⟨ek, eb, ei, es, eal, enl, ecl, eam, enm, ecm, rfl⟩ := V.ten hlj
      obtain ⟨ek', eb', ei', es', eal', enl', ecl', eam', enm', ecm', rfl⟩ := V.ten hlj'
      have rw0 := row6 (hrow.keep (hk0 _ hSb))
      have rw1 := row6 (hrow'.keep (hk1 _ hSb'))
      have hbl : bl < wr.heap.size := World.block_lt_of_cell? wr _ rw0.1
      have hbl' : bl' < wr.heap.size := World.block_lt_of_cell? wr _ rw1.1
      have p0 : ∀ x : Sub wr.heap.size wr, _ := sub_cell rw0.1 hbl
      have p1 : ∀ x : Sub wr.heap.size wr, _ := sub_cell rw0.2.1 hbl
      have p2 : ∀ x : Sub wr.heap.size wr, _ := sub_cell rw0.2.2.1 hbl
      have p3 : ∀ x : Sub wr.heap.size wr, _ := sub_cell rw0.2.2.2.1 hbl
      have p4 : ∀ x : Sub wr.heap.size wr, _ := sub_cell rw0.2.2.2.2.1 hbl
      have p5 : ∀ x : Sub wr.heap.size wr, _ := sub_cell rw0.2.2.2.2.2 hbl
      have q0 : ∀ x : Sub wr.heap.size wr, _ := sub_cell rw1.1 hbl'
      have q1 : ∀ x : Sub wr.heap.size wr, _ := sub_cell rw1.2.1 hbl'
      have q2 : ∀ x : Sub wr.heap.size wr, _ := sub_cell rw1.2.2.1 hbl'
      have q3 : ∀ x : Sub wr.heap.size wr, _ := sub_cell rw1.2.2.2.1 hbl'
      have q4 : ∀ x : Sub wr.heap.size wr, _ := sub_cell rw1.2.2.2.2.1 hbl'
      have q5 : ∀ x : Sub wr.heap.size wr, _ := sub_cell rw1.2.2.2.2.2 hbl'
      have u4 : ∀ x : Sub wr.heap.size wr, _ := sub_cell d4 (by omega)
      have v4 : ∀ x : Sub wr.heap.size wr, _ := sub_cell f4 (by omega)
      have CI : Hid (∀ x : Sub wr.heap.size wr, Calls Tryz.prog 46 #[.agg #[.int .i64 ek, .bool eb, .int .i64 ei, .string es, .slice eal enl ecl, .slice eam enm ecm], .agg #[.int .i64 ek', .bool eb', .int .i64 ei', .string es', .slice eal' enl' ecl', .slice eam' enm' ecm'], .int .i64 (lv + 1)] x.w fun e w'' => e = .returned (.bool true) ∧ ∃ y : Sub wr.heap.size wr, w'' = y.w) :=
        sub_call fun w' hb => by
          refine (ihl l[j] (List.getElem_mem hjl) (lv + 1) S S' _ _ w' (by omega) (by omega) (V.lies_keep (fun h => h) (fun x hx => (hb.block x (by have := hS x hx; omega)).trans (hk0 x hx)) (fun _ h => h) _ hlj) (V.lies_keep (fun h => h) (fun x hx => (hb.block x (by have := hS' x hx; omega)).trans (hk1 x hx)) (fun _ h => h) _ hlj') (fun x hx => by have := hS x hx; have := hb.size; omega) (fun x hx => by have := hS' x hx; have := hb.size; omega)).mono ?_
          rintro e w'' ⟨he, h2⟩
          exact ⟨he, hb.trans (h2.mono hb.size)⟩
      clear hlj hlj' hrow hrow' rw0 rw1 hk0 hk1
      go_wp2_with fail
      refine wp_region_sub wr.heap.size (by kernel_rfl) (by kernel_rfl) ?_
      repeat (go_big_quiet_step (exact CI.out _))
      refine wpQuiet_nil ?_
      rintro wq ⟨⟨wq', bq⟩, hq⟩
      have hq' : wq = wq' := hq
      subst hq'
      clear hq
      go_wp2_with fail
      go_roundw
      case rel => exact ⟨j + 1, by omega, by go_num, bj.trans (bq.mono hzr)⟩
      case measure => simp [RowKit.intOf]; omega
    · obtain rfl : j = l.length := by omega
      have y1 : ¬ (l.length : Int) < l.length := by omega
      go_wp2_with fail
      go_loopw [8] (fun e wr => ∃ j : Nat, j ≤ m.length ∧ e = .int .i64 (j : Int) ∧ Below w0.heap.size w0 wr) (fun e _ => m.length - (RowKit.intOf e).toNat)
      case atStart => exact ⟨0, by omega, rfl, bj⟩
      case round =>
        clear bj hzr d0 d1 d2 d3 d4 d5 f0 f1 f2 f3 f4 f5
        obtain ⟨j, hj, rfl, bj⟩ := hrel
        obtain ⟨d0, d1, d2, d3, d4, d5⟩ := row6z (hb1.keep (bj.block _ (by omega)))
        obtain ⟨f0, f1, f2, f3, f4, f5⟩ := row6z (hb2.keep (bj.block _ (by omega)))
        have hzr := bj.size
        by_cases hjl : j < m.length
        · have y2 : (j : Int) < m.length := by omega
          obtain ⟨hSb, hks, csj, hrow, hlj⟩ := liesM_get HM.out j hjl
          obtain ⟨hSb', hks', dsj, hrow', hlj'⟩ := liesM_get HM'.out j hjl
          obtain rfl : am = some ⟨bm, om, none⟩ := ham.at_.resolve_left (by omega)
          obtain rfl : am' = some ⟨bm', om', none⟩ := ham'.at_.resolve_left (by omega)
          have hk0 : ∀ x, S x → wr.heap[x]? = w.heap[x]? := fun x hx => (bj.block x (by have := hS x hx; omega)).trans (B0.block x (hS x hx))
          have hk1 : ∀ x, S' x → wr.heap[x]? = w.heap[x]? := fun x hx => (bj.block x (by have := hS' x hx; omega)).trans (B0.block x (hS' x hx))
          obtain ⟨ek, eb, ei, es, eal, enl, ecl, eam, enm, ecm, rfl⟩ := V.ten hlj
          obtain ⟨ek', eb', ei', es', eal', enl', ecl', eam', enm', ecm', rfl⟩ := V.ten hlj'
          have rw0 := row7 (hrow.keep (hk0 _ hSb))
          have rw1 := row7 (hrow'.keep (hk1 _ hSb'))
          have hbl : bm < wr.heap.size := World.block_lt_of_cell? wr _ rw0.1
          have hbl' : bm' < wr.heap.size := World.block_lt_of_cell? wr _ rw1.1
          have p0 : ∀ x : Sub wr.heap.size wr, _ := sub_cell rw0.1 hbl
          have p1 : ∀ x : Sub wr.heap.size wr, _ := sub_cell rw0.2.1 hbl
          have p2 : ∀ x : Sub wr.heap.size wr, _ := sub_cell rw0.2.2.1 hbl
          have p3 : ∀ x : Sub wr.heap.size wr, _ := sub_cell rw0.2.2.2.1 hbl
          have p4 : ∀ x : Sub wr.heap.size wr, _ := sub_cell rw0.2.2.2.2.1 hbl
          have p5 : ∀ x : Sub wr.heap.size wr, _ := sub_cell rw0.2.2.2.2.2.1 hbl
          have p6 : ∀ x : Sub wr.heap.size wr, _ := sub_cell rw0.2.2.2.2.2.2 hbl
          have q0 : ∀ x : Sub wr.heap.size wr, _ := sub_cell rw1.1 hbl'
          have q1 : ∀ x : Sub wr.heap.size wr, _ := sub_cell rw1.2.1 hbl'
          have q2 : ∀ x : Sub wr.heap.size wr, _ := sub_cell rw1.2.2.1 hbl'
          have q3 : ∀ x : Sub wr.heap.size wr, _ := sub_cell rw1.2.2.2.1 hbl'
          have q4 : ∀ x : Sub wr.heap.size wr, _ := sub_cell rw1.2.2.2.2.1 hbl'
          have q5 : ∀ x : Sub wr.heap.size wr, _ := sub_cell rw1.2.2.2.2.2.1 hbl'
          have q6 : ∀ x : Sub wr.heap.size wr, _ := sub_cell rw1.2.2.2.2.2.2 hbl'
          have u4 : ∀ x : Sub wr.heap.size wr, _ := sub_cell d5 (by omega)
          have v4 : ∀ x : Sub wr.heap.size wr, _ := sub_cell f5 (by omega)
          have CI : Hid (∀ x : Sub wr.heap.size wr, Calls Tryz.prog 46 #[.agg #[.int .i64 ek, .bool eb, .int .i64 ei, .string es, .slice eal enl ecl, .slice eam enm ecm], .agg #[.int .i64 ek', .bool eb', .int .i64 ei', .string es', .slice eal' enl' ecl', .slice eam' enm' ecm'], .int .i64 (lv + 1)] x.w fun e w'' => e = .returned (.bool true) ∧ ∃ y : Sub wr.heap.size wr, w'' = y.w) :=
            sub_call fun w' hb => by
              refine (ihm m[j] (List.getElem_mem hjl) (lv + 1) S S' _ _ w' (by omega) (by omega) (V.lies_keep (fun h => h) (fun x hx => (hb.block x (by have := hS x hx; omega)).trans (hk0 x hx)) (fun _ h => h) _ hlj) (V.lies_keep (fun h => h) (fun x hx => (hb.block x (by have := hS' x hx; omega)).trans (hk1 x hx)) (fun _ h => h) _ hlj') (fun x hx => by have := hS x hx; have := hb.size; omega) (fun x hx => by have := hS' x hx; have := hb.size; omega)).mono ?_
              rintro e w'' ⟨he, h2⟩
              exact ⟨he, hb.trans (h2.mono hb.size)⟩
          clear hlj hlj' hrow hrow' rw0 rw1 hk0 hk1
          generalize m[j] = mj at *
          go_wp2_with fail
          refine wp_region_sub wr.heap.size (by kernel_rfl) (by kernel_rfl) ?_
          repeat (go_big_quiet_step (exact CI.out _))
          refine wpQuiet_nil ?_
          rintro wq ⟨⟨wq', bq⟩, hq⟩
          have hq' : wq = wq' := hq
          subst hq'
          clear hq
          go_wp2_with fail
          go_roundw
          case rel => exact ⟨j + 1, by omega, by go_num, bj.trans (bq.mono hzr)⟩
          case measure => simp [RowKit.intOf]; omega
        · obtain rfl : j = m.length := by omega
          have y2 : ¬ (m.length : Int) < m.length := by omega
          have HB := hmk (B0.trans (bj.mono (by omega)))
          go_wp2_with fail
          go_ret
          exact ⟨rfl, HB.out⟩
end Go.Proofs.YtihcggepeadklaaGreatDoor
