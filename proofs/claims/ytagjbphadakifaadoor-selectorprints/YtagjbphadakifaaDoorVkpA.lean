import Derived.Test.YtagjbphadakifaaDoorSamA
/- valueKept: of a value's twin. -/
set_option linter.unusedSimpArgs false
set_option linter.unusedVariables false
set_option maxRecDepth 100000
namespace Go.Proofs.YtagjbphadakifaaDoor
open Go.RowKit
set_option maxHeartbeats 8000000 in
theorem vkept_any (v : V) : ∀ (S S' : Nat → Prop) (cs ds : List Value) (w : World), v.lies true w S cs → v.lies false w S' ds → (∀ x, S x → x < w.heap.size) → (∀ x, S' x → x < w.heap.size) →
    Calls Tryd.prog 14 #[.agg cs.toArray, .agg ds.toArray] w (BPost true w) := by
  induction v using V.ind_v with
  | h k b i s l m ihl ihm =>
  intro S S' cs ds w hl hl' hS hS'
  rw [V.lies] at hl hl'
  obtain ⟨al, cl, bl, ol, am, cm, bm, om, rfl, hk, hi, hs, hal, ham, hl1, hm1, hR⟩ := hl
  obtain ⟨al', cl', bl', ol', am', cm', bm', om', rfl, hk', hi', hs', hal', ham', hl1', hm1', _⟩ := hl'
  obtain ⟨rfl, r2, r3, r4, rfl, r6, r7, r8⟩ := hR rfl
  have HL : Hid (liesL true w S l bl ol) := hl1
  have HM : Hid (liesM true w S m bm om) := hm1
  have HL' : Hid (liesL false w S' l bl' ol') := hl1'
  have HM' : Hid (liesM false w S' m bm' om') := hm1'
  clear hl1 hm1 hl1' hm1' hR
  have hcl : cl ≤ 9223372036854775807 := hal.max
  have hcm : cm ≤ 9223372036854775807 := ham.max
  have hll : l.length ≤ 9223372036854775807 := Nat.le_trans hal.le hal.max
  have hml : m.length ≤ 9223372036854775807 := Nat.le_trans ham.le ham.max
  have hb0 := box_row w [.int .i64 k, .bool b, .int .i64 i, .string s, .slice (some ⟨bl, ol, none⟩) l.length cl, .slice (some ⟨bm, om, none⟩) m.length cm] 32
  have hb1 : rowAt ((w.alloc (.cells #[.int .i64 k, .bool b, .int .i64 i, .string s, .slice (some ⟨bl, ol, none⟩) l.length cl, .slice (some ⟨bm, om, none⟩) m.length cm] 32)).alloc (.cells #[.int .i64 k, .bool b, .int .i64 i, .string s, .slice al' l.length cl', .slice am' m.length cm'] 32)) w.heap.size 0 [.int .i64 k, .bool b, .int .i64 i, .string s, .slice (some ⟨bl, ol, none⟩) l.length cl, .slice (some ⟨bm, om, none⟩) m.length cm] := hb0.keep (Below.heap_alloc _ _ _ (by rw [alloc_size]; omega))
  have hb2 : rowAt ((w.alloc (.cells #[.int .i64 k, .bool b, .int .i64 i, .string s, .slice (some ⟨bl, ol, none⟩) l.length cl, .slice (some ⟨bm, om, none⟩) m.length cm] 32)).alloc (.cells #[.int .i64 k, .bool b, .int .i64 i, .string s, .slice al' l.length cl', .slice am' m.length cm'] 32)) (w.heap.size + 1) 0 [.int .i64 k, .bool b, .int .i64 i, .string s, .slice al' l.length cl', .slice am' m.length cm'] := by
    have := box_row (w.alloc (.cells #[.int .i64 k, .bool b, .int .i64 i, .string s, .slice (some ⟨bl, ol, none⟩) l.length cl, .slice (some ⟨bm, om, none⟩) m.length cm] 32)) [.int .i64 k, .bool b, .int .i64 i, .string s, .slice al' l.length cl', .slice am' m.length cm'] 32
    rwa [alloc_size] at this
  have B0 := two_below w (.cells #[.int .i64 k, .bool b, .int .i64 i, .string s, .slice (some ⟨bl, ol, none⟩) l.length cl, .slice (some ⟨bm, om, none⟩) m.length cm] 32) (.cells #[.int .i64 k, .bool b, .int .i64 i, .string s, .slice al' l.length cl', .slice am' m.length cm'] 32)
  have hz0 : ((w.alloc (.cells #[.int .i64 k, .bool b, .int .i64 i, .string s, .slice (some ⟨bl, ol, none⟩) l.length cl, .slice (some ⟨bm, om, none⟩) m.length cm] 32)).alloc (.cells #[.int .i64 k, .bool b, .int .i64 i, .string s, .slice al' l.length cl', .slice am' m.length cm'] 32)).heap.size = w.heap.size + 1 + 1 := by rw [alloc_size, alloc_size]
  have hbl := hS _ r3
  have hbm := hS _ r7
  clear hb0
  go_enter Tryd.func14, Tryd.ntmps14
  go_wp2_with fail
  generalize ((w.alloc (.cells #[.int .i64 k, .bool b, .int .i64 i, .string s, .slice (some ⟨bl, ol, none⟩) l.length cl, .slice (some ⟨bm, om, none⟩) m.length cm] 32)).alloc (.cells #[.int .i64 k, .bool b, .int .i64 i, .string s, .slice al' l.length cl', .slice am' m.length cm'] 32)) = w0 at *
  obtain ⟨d0, d1, d2, d3, d4, d5⟩ := row6z hb1
  obtain ⟨f0, f1, f2, f3, f4, f5⟩ := row6z hb2
  have x4 : ∀ x : Sub w0.heap.size w0, _ := sub_cell d4 (by omega)
  have x5 : ∀ x : Sub w0.heap.size w0, _ := sub_cell d5 (by omega)
  have g4 : ∀ x : Sub w0.heap.size w0, _ := sub_cell f4 (by omega)
  have g5 : ∀ x : Sub w0.heap.size w0, _ := sub_cell f5 (by omega)
  have z4 : ∀ x : Sub w0.heap.size w0, _ := sub_cell ((B0.cell (p := ⟨bl, ol + l.length * 6, none⟩) hbl).trans r4) (by omega)
  have z5 : ∀ x : Sub w0.heap.size w0, _ := sub_cell ((B0.cell (p := ⟨bm, om + m.length * 7, none⟩) hbm).trans r8) (by omega)
  have y1 : (l.length : Int) + 1 ≤ cl := by omega
  have y2 : (m.length : Int) + 1 ≤ cm := by omega
  refine wp_region_sub w0.heap.size (by kernel_rfl) (by kernel_rfl) ?_
  repeat (go_big_quiet_step (fail))
  refine wpQuiet_nil ?_
  rintro wq ⟨⟨wq', bq⟩, hq⟩
  have hq' : wq = wq' := hq
  subst hq'
  clear hq
  have hzq := bq.size
  have B1 : Below w.heap.size w wq := B0.trans (bq.mono (by omega))
  have hc1 := hb1.keep (bq.block _ (by omega))
  have hc2 := hb2.keep (bq.block _ (by omega))
  clear d0 d1 d2 d3 d4 d5 f0 f1 f2 f3 f4 f5 x4 x5 g4 g5 z4 z5 hb1 hb2
  go_wp2_with fail
  go_loopw [5] (fun e wr => ∃ j : Nat, j ≤ l.length ∧ e = .int .i64 (j : Int) ∧ Below wq.heap.size wq wr) (fun e _ => l.length - (RowKit.intOf e).toNat)
  case atStart => exact ⟨0, by omega, rfl, Below.refl _ _⟩
  case round =>
    obtain ⟨j, hj, rfl, bj⟩ := hrel
    have hzr := bj.size
    obtain ⟨d0, d1, d2, d3, d4, d5⟩ := row6z (hc1.keep (bj.block _ (by omega)))
    obtain ⟨f0, f1, f2, f3, f4, f5⟩ := row6z (hc2.keep (bj.block _ (by omega)))
    by_cases hjl : j < l.length
    · have y3 : (j : Int) < l.length := by omega
      · skip
        skip
        obtain ⟨hSb, csj, hrow, hlj⟩ := liesL_get HL.out j hjl
        obtain ⟨hSb', dsj, hrow', hlj'⟩ := liesL_get HL'.out j hjl
        obtain rfl : al' = some ⟨bl', ol', none⟩ := hal'.at_.resolve_left (by omega)
        have hk0 : ∀ x, S x → wr.heap[x]? = w.heap[x]? := fun x hx => (bj.block x (by have := hS x hx; omega)).trans (B1.block x (hS x hx))
        have hk1 : ∀ x, S' x → wr.heap[x]? = w.heap[x]? := fun x hx => (bj.block x (by have := hS' x hx; omega)).trans (B1.block x (hS' x hx))
        obtain ⟨ek, eb, ei, es, eal, enl, ecl, eam, enm, ecm, rfl⟩ := V.ten hlj
        obtain ⟨ek', eb', ei', es', eal', enl', ecl', eam', enm', ecm', rfl⟩ := V.ten hlj'
        have rw0 := row6 (hrow.keep (hk0 _ hSb))
        have rw1 := row6 (hrow'.keep (hk1 _ hSb'))
        have hbl : bl < wr.heap.size := World.block_lt_of_cell? wr _ rw0.1
        have hbl' : bl' < wr.heap.size := World.block_lt_of_cell? wr _ rw1.1
        · skip
          have p0 : ∀ x : Sub wr.heap.size wr, _ := sub_cell rw0.1 hbl
          have p1 : ∀ x : Sub wr.heap.size wr, _ := sub_cell rw0.2.1 hbl
          have p2 : ∀ x : Sub wr.heap.size wr, _ := sub_cell rw0.2.2.1 hbl
          have p3 : ∀ x : Sub wr.heap.size wr, _ := sub_cell rw0.2.2.2.1 hbl
          have p4 : ∀ x : Sub wr.heap.size wr, _ := sub_cell rw0.2.2.2.2.1 hbl
          have p5 : ∀ x : Sub wr.heap.size wr, _ := sub_cell rw0.2.2.2.2.2 hbl
          have q0 : ∀ x : Sub wr.heap.size wr, _ := sub_cell rw1.1 hbl'
          have q1 : ∀ x : Sub wr.heap.size wr, _ := sub_cell rw1.2.1 hbl'
          have q2 : ∀ x : Sub wr.heap.size wr, _ := sub_cell rw1.2.2.1 hbl'
          have q3 : ∀ x : Sub wr.heap.size wr, _ := sub_cell rw1.2.2.2.1 hbl'
          have q4 : ∀ x : Sub wr.heap.size wr, _ := sub_cell rw1.2.2.2.2.1 hbl'
          have q5 : ∀ x : Sub wr.heap.size wr, _ := sub_cell rw1.2.2.2.2.2 hbl'
          have u4 : ∀ x : Sub wr.heap.size wr, _ := sub_cell d4 (by omega)
          have v4 : ∀ x : Sub wr.heap.size wr, _ := sub_cell f4 (by omega)
          have CI : Hid (∀ x : Sub wr.heap.size wr, Calls Tryd.prog 14 #[.agg #[.int .i64 ek, .bool eb, .int .i64 ei, .string es, .slice eal enl ecl, .slice eam enm ecm], .agg #[.int .i64 ek', .bool eb', .int .i64 ei', .string es', .slice eal' enl' ecl', .slice eam' enm' ecm']] x.w fun e w'' => e = .returned (.bool true) ∧ ∃ y : Sub wr.heap.size wr, w'' = y.w) :=
            sub_call fun w' hb => by
              refine (ihl l[j] (List.getElem_mem hjl) S S' _ _ w' (V.lies_keep (fun h => h) (fun x hx => (hb.block x (by have := hS x hx; omega)).trans (hk0 x hx)) (fun _ h => h) _ hlj) (V.lies_keep (fun h => h) (fun x hx => (hb.block x (by have := hS' x hx; omega)).trans (hk1 x hx)) (fun _ h => h) _ hlj') (fun x hx => by have := hS x hx; have := hb.size; omega) (fun x hx => by have := hS' x hx; have := hb.size; omega)).mono ?_
              rintro e w'' ⟨he, h2⟩
              exact ⟨he, hb.trans (h2.mono hb.size)⟩
          clear hlj hlj' hrow hrow' rw0 rw1 hk0 hk1
          go_wp2_with fail
          refine wp_region_sub wr.heap.size (by kernel_rfl) (by kernel_rfl) ?_
          repeat (go_big_quiet_step (exact CI.out _))
          refine wpQuiet_nil ?_
          rintro wq ⟨⟨wq', bq⟩, hq⟩
          have hq' : wq = wq' := hq
          subst hq'
          clear hq
          go_wp2_with fail
          go_roundw
          case rel => exact ⟨j + 1, by omega, by go_num, bj.trans (bq.mono hzr)⟩
          case measure => simp [RowKit.intOf]; omega
    · obtain rfl : j = l.length := by omega
      have y3 : ¬ (l.length : Int) < l.length := by omega
      go_wp2_with fail
      rename World => wA
      go_loopw [7] (fun e wr => ∃ j : Nat, j ≤ m.length ∧ e = .int .i64 (j : Int) ∧ Below wq.heap.size wq wr) (fun e _ => m.length - (RowKit.intOf e).toNat)
      case atStart => exact ⟨0, by omega, rfl, bj⟩
      case round =>
        clear bj d0 d1 d2 d3 d4 d5 f0 f1 f2 f3 f4 f5 hzr
        obtain ⟨j, hj, rfl, bj⟩ := hrel
        have hzr := bj.size
        obtain ⟨d0, d1, d2, d3, d4, d5⟩ := row6z (hc1.keep (bj.block _ (by omega)))
        obtain ⟨f0, f1, f2, f3, f4, f5⟩ := row6z (hc2.keep (bj.block _ (by omega)))
        by_cases hjl : j < m.length
        · have y3 : (j : Int) < m.length := by omega
          obtain ⟨hSb, hks, csj, hrow, hlj⟩ := liesM_get HM.out j hjl
          obtain ⟨hSb', hks', dsj, hrow', hlj'⟩ := liesM_get HM'.out j hjl
          obtain rfl : am' = some ⟨bm', om', none⟩ := ham'.at_.resolve_left (by omega)
          have hk0 : ∀ x, S x → wr.heap[x]? = w.heap[x]? := fun x hx => (bj.block x (by have := hS x hx; omega)).trans (B1.block x (hS x hx))
          have hk1 : ∀ x, S' x → wr.heap[x]? = w.heap[x]? := fun x hx => (bj.block x (by have := hS' x hx; omega)).trans (B1.block x (hS' x hx))
          obtain ⟨ek, eb, ei, es, eal, enl, ecl, eam, enm, ecm, rfl⟩ := V.ten hlj
          obtain ⟨ek', eb', ei', es', eal', enl', ecl', eam', enm', ecm', rfl⟩ := V.ten hlj'
          have rw0 := row7 (hrow.keep (hk0 _ hSb))
          have rw1 := row7 (hrow'.keep (hk1 _ hSb'))
          have hbl : bm < wr.heap.size := World.block_lt_of_cell? wr _ rw0.1
          have hbl' : bm' < wr.heap.size := World.block_lt_of_cell? wr _ rw1.1
          have p0 : ∀ x : Sub wr.heap.size wr, _ := sub_cell rw0.1 hbl
          have p1 : ∀ x : Sub wr.heap.size wr, _ := sub_cell rw0.2.1 hbl
          have p2 : ∀ x : Sub wr.heap.size wr, _ := sub_cell rw0.2.2.1 hbl
          have p3 : ∀ x : Sub wr.heap.size wr, _ := sub_cell rw0.2.2.2.1 hbl
          have p4 : ∀ x : Sub wr.heap.size wr, _ := sub_cell rw0.2.2.2.2.1 hbl
          have p5 : ∀ x : Sub wr.heap.size wr, _ := sub_cell rw0.2.2.2.2.2.1 hbl
          have p6 : ∀ x : Sub wr.heap.size wr, _ := sub_cell rw0.2.2.2.2.2.2 hbl
          have q0 : ∀ x : Sub wr.heap.size wr, _ := sub_cell rw1.1 hbl'
          have q1 : ∀ x : Sub wr.heap.size wr, _ := sub_cell rw1.2.1 hbl'
          have q2 : ∀ x : Sub wr.heap.size wr, _ := sub_cell rw1.2.2.1 hbl'
          have q3 : ∀ x : Sub wr.heap.size wr, _ := sub_cell rw1.2.2.2.1 hbl'
          have q4 : ∀ x : Sub wr.heap.size wr, _ := sub_cell rw1.2.2.2.2.1 hbl'
          have q5 : ∀ x : Sub wr.heap.size wr, _ := sub_cell rw1.2.2.2.2.2.1 hbl'
          have q6 : ∀ x : Sub wr.heap.size wr, _ := sub_cell rw1.2.2.2.2.2.2 hbl'
          have u5 : ∀ x : Sub wr.heap.size wr, _ := sub_cell d5 (by omega)
          have v5 : ∀ x : Sub wr.heap.size wr, _ := sub_cell f5 (by omega)
          have CI : Hid (∀ x : Sub wr.heap.size wr, Calls Tryd.prog 14 #[.agg #[.int .i64 ek, .bool eb, .int .i64 ei, .string es, .slice eal enl ecl, .slice eam enm ecm], .agg #[.int .i64 ek', .bool eb', .int .i64 ei', .string es', .slice eal' enl' ecl', .slice eam' enm' ecm']] x.w fun e w'' => e = .returned (.bool true) ∧ ∃ y : Sub wr.heap.size wr, w'' = y.w) :=
            sub_call fun w' hb => by
              refine (ihm m[j] (List.getElem_mem hjl) S S' _ _ w' (V.lies_keep (fun h => h) (fun x hx => (hb.block x (by have := hS x hx; omega)).trans (hk0 x hx)) (fun _ h => h) _ hlj) (V.lies_keep (fun h => h) (fun x hx => (hb.block x (by have := hS' x hx; omega)).trans (hk1 x hx)) (fun _ h => h) _ hlj') (fun x hx => by have := hS x hx; have := hb.size; omega) (fun x hx => by have := hS' x hx; have := hb.size; omega)).mono ?_
              rintro e w'' ⟨he, h2⟩
              exact ⟨he, hb.trans (h2.mono hb.size)⟩
          have yK : ((m[j]).1.toList == (m[j]).1.toList) = true := by rw [beq_iff_eq]
          generalize (m[j]).1 = key at *
          clear hlj hlj' hrow hrow' hk0 hk1
          go_wp2_with fail
          refine wp_region_sub wr.heap.size (by kernel_rfl) (by kernel_rfl) ?_
          repeat (go_big_quiet_step (exact CI.out _))
          refine wpQuiet_nil ?_
          rintro wq ⟨⟨wq', bq⟩, hq⟩
          have hq' : wq = wq' := hq
          subst hq'
          clear hq
          have hzq2 := bq.size
          have k0 : ∀ x : Sub wq.heap.size wq, _ := sub_cell ((bq.cell (p := ⟨bm, om + j * 7, none⟩) hbl).trans rw0.1) (by omega)
          have k1 : ∀ x : Sub wq.heap.size wq, _ := sub_cell ((bq.cell (p := ⟨bm', om' + j * 7, none⟩) hbl').trans rw1.1) (by omega)
          have u6 : ∀ x : Sub wq.heap.size wq, _ := sub_cell ((bq.cell (p := ⟨w.heap.size, 5, none⟩) (by show w.heap.size < _; omega)).trans d5) (by omega)
          have v6 : ∀ x : Sub wq.heap.size wq, _ := sub_cell ((bq.cell (p := ⟨w.heap.size + 1, 5, none⟩) (by show w.heap.size + 1 < _; omega)).trans f5) (by omega)
          clear p0 p1 p2 p3 p4 p5 p6 q0 q1 q2 q3 q4 q5 q6 u5 v5 rw0 rw1 CI
          go_wp2_with fail
          refine wp_region_sub wq.heap.size (by kernel_rfl) (by kernel_rfl) ?_
          repeat (go_big_quiet_step (fail))
          refine wpQuiet_nil ?_
          rintro wz ⟨⟨wz', bz⟩, hq⟩
          have hq' : wz = wz' := hq
          subst hq'
          clear hq
          go_wp2_with fail
          go_roundw
          case rel => exact ⟨j + 1, by omega, by go_num, bj.trans ((bq.trans (bz.mono hzq2)).mono hzr)⟩
          case measure => simp [RowKit.intOf]; omega
        · obtain rfl : j = m.length := by omega
          have y3 : ¬ (m.length : Int) < m.length := by omega
          go_wp2_with fail
          go_ret
          exact ⟨rfl, B1.trans (bj.mono (by omega))⟩
end Go.Proofs.YtagjbphadakifaaDoor
