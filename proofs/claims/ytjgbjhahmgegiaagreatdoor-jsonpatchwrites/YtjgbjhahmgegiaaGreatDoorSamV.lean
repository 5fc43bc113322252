import Derived.Test.YtjgbjhahmgegiaaGreatDoorChkB
/- same, of a value and its twin. -/
set_option linter.unusedSimpArgs false
set_option linter.unusedVariables false
namespace Go.Proofs.YtjgbjhahmgegiaaGreatDoor
open Go.RowKit
theorem two_below (w : World) (o o' : Obj) : Below w.heap.size w ((w.alloc o).alloc o') := ((Below.refl w.heap.size w).alloc (Nat.le_refl _) _).alloc (by rw [alloc_size]; omega) _
set_option maxHeartbeats 4000000 in
set_option maxRecDepth 100000 in
theorem samv_any (a : V) : ∀ (lv : Int) (S S' : Nat → Prop) (cs ds : List Value) (w : World), 0 ≤ lv → lv ≤ 61 → a.lies false w S cs → a.lies false w S' ds → (∀ x, S x → x < w.heap.size) → (∀ x, S' x → x < w.heap.size) →
    Calls Tryz.prog 11 #[.agg cs.toArray, .agg ds.toArray, .int .i64 lv] w (BPost true w) := by
  induction a using V.ind_v with
  | h k b i s l m ihl ihm =>
  intro lv S S' cs ds w hv0 hv1 hl hl' hS hS'
  rw [V.lies] at hl hl'
  obtain ⟨al, cl, bl, ol, am, cm, bm, om, rfl, hk, hi, hs, hal, ham, hl1, hm1, _⟩ := hl
  obtain ⟨al', cl', bl', ol', am', cm', bm', om', rfl, hk', hi', hs', hal', ham', hl1', hm1', _⟩ := hl'
  have HL : Hid (liesL false w S l bl ol) := hl1
  have HM : Hid (liesM false w S m bm om) := hm1
  have HL' : Hid (liesL false w S' l bl' ol') := hl1'
  have HM' : Hid (liesM false w S' m bm' om') := hm1'
  clear hl1 hm1 hl1' hm1'
  have hll : l.length ≤ 9223372036854775807 := Nat.le_trans hal.le hal.max
  have hml : m.length ≤ 9223372036854775807 := Nat.le_trans ham.le ham.max
  have hb0 := box_row w [.int .i64 k, .bool b, .int .i64 i, .string s, .slice al l.length cl, .slice am m.length cm] 25
  have hb1 : rowAt ((w.alloc (.cells #[.int .i64 k, .bool b, .int .i64 i, .string s, .slice al l.length cl, .slice am m.length cm] 25)).alloc (.cells #[.int .i64 k, .bool b, .int .i64 i, .string s, .slice al' l.length cl', .slice am' m.length cm'] 25)) w.heap.size 0 [.int .i64 k, .bool b, .int .i64 i, .string s, .slice al l.length cl, .slice am m.length cm] := hb0.keep (Below.heap_alloc _ _ _ (by rw [alloc_size]; omega))
  have hb2 : rowAt ((w.alloc (.cells #[.int .i64 k, .bool b, .int .i64 i, .string s, .slice al l.length cl, .slice am m.length cm] 25)).alloc (.cells #[.int .i64 k, .bool b, .int .i64 i, .string s, .slice al' l.length cl', .slice am' m.length cm'] 25)) (w.heap.size + 1) 0 [.int .i64 k, .bool b, .int .i64 i, .string s, .slice al' l.length cl', .slice am' m.length cm'] := by
    have := box_row (w.alloc (.cells #[.int .i64 k, .bool b, .int .i64 i, .string s, .slice al l.length cl, .slice am m.length cm] 25)) [.int .i64 k, .bool b, .int .i64 i, .string s, .slice al' l.length cl', .slice am' m.length cm'] 25
    rwa [alloc_size] at this
  have B0 := two_below w (.cells #[.int .i64 k, .bool b, .int .i64 i, .string s, .slice al l.length cl, .slice am m.length cm] 25) (.cells #[.int .i64 k, .bool b, .int .i64 i, .string s, .slice al' l.length cl', .slice am' m.length cm'] 25)
  have hz0 : ((w.alloc (.cells #[.int .i64 k, .bool b, .int .i64 i, .string s, .slice al l.length cl, .slice am m.length cm] 25)).alloc (.cells #[.int .i64 k, .bool b, .int .i64 i, .string s, .slice al' l.length cl', .slice am' m.length cm'] 25)).heap.size = w.heap.size + 1 + 1 := by rw [alloc_size, alloc_size]
  clear hb0
  by_cases hlv : 60 < lv
  · have y1 : lv > 60 := hlv
    have y2 : decide (60 < lv) = true := by simp [hlv]
    go_enter Tryz.func11, Tryz.ntmps11
    go_wp2_with fail
    go_ret
    exact ⟨rfl, B0⟩
  have y1 : ¬ lv > 60 := hlv
  have y2 : decide (60 < lv) = false := by simp [hlv]
  go_enter Tryz.func11, Tryz.ntmps11
  go_wp2_with fail
  generalize ((w.alloc (.cells #[.int .i64 k, .bool b, .int .i64 i, .string s, .slice al l.length cl, .slice am m.length cm] 25)).alloc (.cells #[.int .i64 k, .bool b, .int .i64 i, .string s, .slice al' l.length cl', .slice am' m.length cm'] 25)) = w0 at *
  go_loopw [7] (fun e wr => ∃ j : Nat, j ≤ l.length ∧ e = .int .i64 (j : Int) ∧ Below w0.heap.size w0 wr) (fun e _ => l.length - (RowKit.intOf e).toNat)
  case atStart => exact ⟨0, by omega, rfl, Below.refl _ _⟩
  case round =>
    obtain ⟨j, hj, rfl, bj⟩ := hrel
    obtain ⟨d0, d1, d2, d3, d4, d5⟩ := row6z (hb1.keep (bj.block _ (by omega)))
    obtain ⟨f0, f1, f2, f3, f4, f5⟩ := row6z (hb2.keep (bj.block _ (by omega)))
    by_cases hjl : j < l.length
    · have y3 : (j : Int) < l.length := by omega
      obtain ⟨hSb, csj, hrow, hlj⟩ := liesL_get HL.out j hjl
      obtain ⟨hSb', dsj, hrow', hlj'⟩ := liesL_get HL'.out j hjl
      obtain rfl : al = some ⟨bl, ol, none⟩ := hal.at_.resolve_left (by omega)
      obtain rfl : al' = some ⟨bl', ol', none⟩ := hal'.at_.resolve_left (by omega)
      have hk0 : ∀ x, S x → wr.heap[x]? = w.heap[x]? := fun x hx => (bj.block x (by have := hS x hx; omega)).trans (B0.block x (hS x hx))
      have hk1 : ∀ x, S' x → wr.heap[x]? = w.heap[x]? := fun x hx => (bj.block x (by have := hS' x hx; omega)).trans (B0.block x (hS' x hx))
      obtain ⟨ek, eb, ei, es, eal, enl, ecl, eam, enm, ecm, rfl⟩ := V.ten hlj
      obtain ⟨ek', eb', ei', es', eal', enl', ecl', eam', enm', ecm', rfl⟩ := V.ten hlj'
      have rw0 := row6 (hrow.keep (hk0 _ hSb))
      have rw1 := row6 (hrow'.keep (hk1 _ hSb'))
      have hbl : bl < wr.heap.size := World.block_lt_of_cell? wr _ rw0.1
      have hbl' : bl' < wr.heap.size := World.block_lt_of_cell? wr _ rw1.1
      have hzr := bj.size
      have p0 : ∀ x : Sub wr.heap.size wr, _ := sub_cell rw0.1 hbl
      have p1 : ∀ x : Sub wr.heap.size wr, _ := sub_cell rw0.2.1 hbl
      have p2 : ∀ x : Sub wr.heap.size wr, _ := sub_cell rw0.2.2.1 hbl
      have p3 : ∀ x : Sub wr.heap.size wr, _ := sub_cell rw0.2.2.2.1 hbl
      have p4 : ∀ x : Sub wr.heap.size wr, _ := sub_cell rw0.2.2.2.2.1 hbl
      have p5 : ∀ x : Sub wr.heap.size wr, _ := sub_cell rw0.2.2.2.2.2 hbl
      have q0 : ∀ x : Sub wr.heap.size wr, _ := sub_cell rw1.1 hbl'
      have q1 : ∀ x : Sub wr.heap.size wr, _ := sub_cell rw1.2.1 hbl'
      have q2 : ∀ x : Sub wr.heap.size wr, _ := sub_cell rw1.2.2.1 hbl'
      have q3 : ∀ x : Sub wr.heap.size wr, _ := sub_cell rw1.2.2.2.1 hbl'
      have q4 : ∀ x : Sub wr.heap.size wr, _ := sub_cell rw1.2.2.2.2.1 hbl'
      have q5 : ∀ x : Sub wr.heap.size wr, _ := sub_cell rw1.2.2.2.2.2 hbl'
      have u4 : ∀ x : Sub wr.heap.size wr, _ := sub_cell d4 (by omega)
      have v4 : ∀ x : Sub wr.heap.size wr, _ := sub_cell f4 (by omega)
      have CI : Hid (∀ x : Sub wr.heap.size wr, Calls Tryz.prog 11 #[.agg #[.int .i64 ek, .bool eb, .int .i64 ei, .string es, .slice eal enl ecl, .slice eam enm ecm], .agg #[.int .i64 ek', .bool eb', .int .i64 ei', .string es', .slice eal' enl' ecl', .slice eam' enm' ecm'], .int .i64 (lv + 1)] x.w fun e w'' => e = .returned (.bool true) ∧ ∃ y : Sub wr.heap.size wr, w'' = y.w) :=
        sub_call fun w' hb => by
          refine (ihl l[j] (List.getElem_mem hjl) (lv + 1) S S' _ _ w' (by omega) (by omega) (V.lies_keep (fun h => h) (fun x hx => (hb.block x (by have := hS x hx; omega)).trans (hk0 x hx)) (fun _ h => h) _ hlj) (V.lies_keep (fun h => h) (fun x hx => (hb.block x (by have := hS' x hx; omega)).trans (hk1 x hx)) (fun _ h => h) _ hlj') (fun x hx => by have := hS x hx; have := hb.size; omega) (fun x hx => by have := hS' x hx; have := hb.size; omega)).mono ?_
          rintro e w'' ⟨he, h2⟩
          exact ⟨he, hb.trans (h2.mono hb.size)⟩
      clear hlj hlj' hrow hrow' rw0 rw1 hk0 hk1
      go_wp2_with fail
      refine wp_region_sub wr.heap.size (by kernel_rfl) (by kernel_rfl) ?_
      repeat (go_big_quiet_step (exact CI.out _))
      refine wpQuiet_nil ?_
      rintro _ ⟨⟨wq, bq⟩, rfl⟩
      go_wp2_with fail
      go_roundw
      case rel => exact ⟨j + 1, by omega, by go_num, bj.trans (bq.mono hzr)⟩
      case measure => simp [RowKit.intOf]; omega
    · obtain rfl : j = l.length := by omega
      have y3 : ¬ (l.length : Int) < l.length := by omega
      go_wp2_with fail
      rename World => wA
      go_loopw [8] (fun e wr => ∃ j : Nat, j ≤ m.length ∧ e = .int .i64 (j : Int) ∧ Below w0.heap.size w0 wr) (fun e _ => m.length - (RowKit.intOf e).toNat)
      case atStart => exact ⟨0, by omega, rfl, bj⟩
      case round =>
        clear bj d0 d1 d2 d3 d4 d5 f0 f1 f2 f3 f4 f5
        obtain ⟨j, hj, rfl, bj⟩ := hrel
        obtain ⟨d0, d1, d2, d3, d4, d5⟩ := row6z (hb1.keep (bj.block _ (by omega)))
        obtain ⟨f0, f1, f2, f3, f4, f5⟩ := row6z (hb2.keep (bj.block _ (by omega)))
        by_cases hjl : j < m.length
        · have y4 : (j : Int) < m.length := by omega
          obtain ⟨hSb, hks, csj, hrow, hlj⟩ := liesM_get HM.out j hjl
          obtain ⟨hSb', hks', dsj, hrow', hlj'⟩ := liesM_get HM'.out j hjl
          obtain rfl : am = some ⟨bm, om, none⟩ := ham.at_.resolve_left (by omega)
          obtain rfl : am' = some ⟨bm', om', none⟩ := ham'.at_.resolve_left (by omega)
          have hk0 : ∀ x, S x → wr.heap[x]? = w.heap[x]? := fun x hx => (bj.block x (by have := hS x hx; omega)).trans (B0.block x (hS x hx))
          have hk1 : ∀ x, S' x → wr.heap[x]? = w.heap[x]? := fun x hx => (bj.block x (by have := hS' x hx; omega)).trans (B0.block x (hS' x hx))
          obtain ⟨ek, eb, ei, es, eal, enl, ecl, eam, enm, ecm, rfl⟩ := V.ten hlj
          obtain ⟨ek', eb', ei', es', eal', enl', ecl', eam', enm', ecm', rfl⟩ := V.ten hlj'
          have rw0 := row7 (hrow.keep (hk0 _ hSb))
          have rw1 := row7 (hrow'.keep (hk1 _ hSb'))
          have hbl : bm < wr.heap.size := World.block_lt_of_cell? wr _ rw0.1
          have hbl' : bm' < wr.heap.size := World.block_lt_of_cell? wr _ rw1.1
          have hzr := bj.size
          have k0 : ∀ x : Sub wr.heap.size wr, _ := sub_cell rw0.1 hbl
          have k1 : ∀ x : Sub wr.heap.size wr, _ := sub_cell rw1.1 hbl'
          have u5 : ∀ x : Sub wr.heap.size wr, _ := sub_cell d5 (by omega)
          have v5 : ∀ x : Sub wr.heap.size wr, _ := sub_cell f5 (by omega)
          have p0 : ∀ x : Sub wr.heap.size wr, _ := sub_cell rw0.2.1 hbl
          have p1 : ∀ x : Sub wr.heap.size wr, _ := sub_cell rw0.2.2.1 hbl
          have p2 : ∀ x : Sub wr.heap.size wr, _ := sub_cell rw0.2.2.2.1 hbl
          have p3 : ∀ x : Sub wr.heap.size wr, _ := sub_cell rw0.2.2.2.2.1 hbl
          have p4 : ∀ x : Sub wr.heap.size wr, _ := sub_cell rw0.2.2.2.2.2.1 hbl
          have p5 : ∀ x : Sub wr.heap.size wr, _ := sub_cell rw0.2.2.2.2.2.2 hbl
          have q0 : ∀ x : Sub wr.heap.size wr, _ := sub_cell rw1.2.1 hbl'
          have q1 : ∀ x : Sub wr.heap.size wr, _ := sub_cell rw1.2.2.1 hbl'
          have q2 : ∀ x : Sub wr.heap.size wr, _ := sub_cell rw1.2.2.2.1 hbl'
          have q3 : ∀ x : Sub wr.heap.size wr, _ := sub_cell rw1.2.2.2.2.1 hbl'
          have q4 : ∀ x : Sub wr.heap.size wr, _ := sub_cell rw1.2.2.2.2.2.1 hbl'
          have q5 : ∀ x : Sub wr.heap.size wr, _ := sub_cell rw1.2.2.2.2.2.2 hbl'
          have CI : Hid (∀ x : Sub wr.heap.size wr, Calls Tryz.prog 11 #[.agg #[.int .i64 ek, .bool eb, .int .i64 ei, .string es, .slice eal enl ecl, .slice eam enm ecm], .agg #[.int .i64 ek', .bool eb', .int .i64 ei', .string es', .slice eal' enl' ecl', .slice eam' enm' ecm'], .int .i64 (lv + 1)] x.w fun e w'' => e = .returned (.bool true) ∧ ∃ y : Sub wr.heap.size wr, w'' = y.w) :=
            sub_call fun w' hb => by
              refine (ihm m[j] (List.getElem_mem hjl) (lv + 1) S S' _ _ w' (by omega) (by omega) (V.lies_keep (fun h => h) (fun x hx => (hb.block x (by have := hS x hx; omega)).trans (hk0 x hx)) (fun _ h => h) _ hlj) (V.lies_keep (fun h => h) (fun x hx => (hb.block x (by have := hS' x hx; omega)).trans (hk1 x hx)) (fun _ h => h) _ hlj') (fun x hx => by have := hS x hx; have := hb.size; omega) (fun x hx => by have := hS' x hx; have := hb.size; omega)).mono ?_
              rintro e w'' ⟨he, h2⟩
              exact ⟨he, hb.trans (h2.mono hb.size)⟩
          generalize (m[j]).1 = key at *
          have yK : (key.toList == key.toList) = true := by simp
          have yK2 : (key.toList != key.toList) = false := by simp
          clear hlj hlj' hrow hrow' rw0 rw1 hk0 hk1
          go_wp2_with fail
          refine wp_region_sub wr.heap.size (by kernel_rfl) (by kernel_rfl) ?_
          repeat (go_big_quiet_step (exact CI.out _))
          refine wpQuiet_nil ?_
          rintro _ ⟨⟨wq, bq⟩, rfl⟩
          go_wp2_with fail
          go_roundw
          case rel => exact ⟨j + 1, by omega, by go_num, bj.trans (bq.mono hzr)⟩
          case measure => simp [RowKit.intOf]; omega
        · obtain rfl : j = m.length := by omega
          have y4 : ¬ (m.length : Int) < m.length := by omega
          go_wp2_with fail
          go_ret
          exact ⟨rfl, B0.trans (bj.mono (by omega))⟩
end Go.Proofs.YtjgbjhahmgegiaaGreatDoor
