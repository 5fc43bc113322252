/- joined: RelP ChpP -/
import Derived.Test.YtdgfjdhobdfglaaGreatDoorG12
set_option linter.unusedSimpArgs false
set_option linter.unusedVariables false
set_option maxRecDepth 100000
namespace Go.Proofs.YtdgfjdhobdfglaaGreatDoor
open Go.RowKit Go.Lib
theorem rvalid_any (s : ByteArray) (w : World) (hs : s.size <= 140737488351232) : Calls Tryz.prog 55 #[.string s] w (BPost (utfB s) w) :=
 (refValid_any s hs w).mono fun e w' ⟨he, hw⟩ => ⟨he, by rw [hw]; exact Below.refl _ _⟩
set_option maxHeartbeats 8000000 in
theorem relem_any (e : El) (S : Nat -> Prop) (cs : List Value) (w : World) (hl : e.lies w S cs) (hS : ∀ b, S b -> b < w.heap.size) (hwt : e.wt <= 2147483647) :
 Calls Tryz.prog 36 #[.agg cs.toArray] w (BPost (elB e) w) := by
 obtain ⟨k, nm, m, v⟩ := e
 obtain ⟨am, cm, bm, om, is, rfl, hk, hnm, ham, hm, hv⟩ := hl
 dsimp only at hk hnm ham hm hv
 obtain ⟨vk, vb, vi, vs, vl, vm⟩ := v
 have HV := hmk hv
 rw [V.lies] at hv
 obtain ⟨val, vcl, vbl, vol, vam, vcm, vbm, vom, rfl, _⟩ := hv
 have HM := hmk hm
 have HN : Hid (nilV (V.mk vk vb vi vs vl vm) = nilB vk vb vi vs vl.length vm.length) := rfl
 have hw1 : nm.size <= 2147483647 /\ wtM m <= 2147483647 /\ (V.mk vk vb vi vs vl vm).wt <= 2147483647 := by unfold El.wt at hwt; dsimp only at hwt; omega
 have b1 : Below w.heap.size w (w.alloc (.cells #[.int .i64 k, .string nm, .slice am m.length cm, .int .i64 vk, .bool vb, .int .i64 vi, .string vs, .slice val vl.length vcl, .slice vam vm.length vcm] 52)) := (Below.refl _ _).alloc (Nat.le_refl _) _
 have hz1 : (w.alloc (.cells #[.int .i64 k, .string nm, .slice am m.length cm, .int .i64 vk, .bool vb, .int .i64 vi, .string vs, .slice val vl.length vcl, .slice vam vm.length vcm] 52)).heap.size = w.heap.size + 1 := alloc_size _ _
 have hbx := box_row w [.int .i64 k, .string nm, .slice am m.length cm, .int .i64 vk, .bool vb, .int .i64 vi, .string vs, .slice val vl.length vcl, .slice vam vm.length vcm] 52
 obtain ⟨d0, d1, d2, d3, d4, d5, d6, d7, d8⟩ := row9z hbx
 clear hm
 generalize hvv : V.mk vk vb vi vs vl vm = v at *
 clear hvv
 by_cases k1 : k = 1
 ·subst k1
  have HR := hmk (elB1 (nm := nm) (m := m) (v := v) (rfl : (1 : Int) = 1))
  generalize elB ⟨1, nm, m, v⟩ = RR at *
  have HB := hmk b1
  have c0 := hmk (rvalid_any nm (w.alloc (.cells #[.int .i64 1, .string nm, .slice am m.length cm, .int .i64 vk, .bool vb, .int .i64 vi, .string vs, .slice val vl.length vcl, .slice vam vm.length vcm] 52)) (by omega))
  go_enter Tryz.func36, Tryz.ntmps36
  go_wp2_with fail
  refine c0.out.mono ?_
  rintro e w1 ⟨rfl, b2⟩
  have hz2 := b2.size
  have hbx2 := hbx.keep (b2.block _ (by omega))
  have HB2 := hmk (HB.out.trans (b2.mono (by omega)))
  clear d0 d1 d2 d3 d4 d5 d6 d7 d8 c0
  obtain ⟨d0, d1, d2, d3, d4, d5, d6, d7, d8⟩ := row9z hbx2
  cases hx : utfB nm with
  | false =>
   have HF : Hid (RR = false) := by show _ = _; rw [HR.out, hx]; simp
   go_wp2_with fail
   go_ret
   exact ⟨by rw [HF.out]; rfl, HB2.out⟩
  | true =>
   by_cases h0 : m.length = 0
   case neg =>
    have y0 : ((m.length : Int) == 0) = false := by rw [beq_eq_false_iff_ne]; omega
    have HF : Hid (RR = false) := by show _ = _; rw [HR.out, decide_eq_false h0]; rfl
    go_wp2_with fail
    go_ret
    exact ⟨by rw [HF.out]; rfl, HB2.out⟩
   have y0 : ((m.length : Int) == 0) = true := by rw [h0]; rfl
   have HF : Hid (RR = nilB vk vb vi vs vl.length vm.length) := by show _ = _; rw [HR.out, decide_eq_true h0, HN.out, hx]; simp
   have c1 := hmk (rnull_any vk vb vi vs val vl.length vcl vam vm.length vcm w1)
   clear h0
   go_wp2_with fail
   refine c1.out.mono ?_
   rintro e w2 ⟨rfl, b3⟩
   have HB3 := hmk (HB2.out.trans (b3.mono (by omega)))
   go_wp2_with fail
   go_ret
   exact ⟨by rw [HF.out]; rfl, HB3.out⟩
 have z1 : (k == 1) = false := beq_eq_false_iff_ne.2 k1
 by_cases k2 : k = 2
 ·subst k2
  have HR := hmk (elB2 (nm := nm) (m := m) (v := v) (rfl : (2 : Int) = 2))
  generalize elB ⟨2, nm, m, v⟩ = RR at *
  have HB := hmk b1
  by_cases hnn : nm.toList = []
  case neg =>
   have e1 : (nm.toList == (⟨#[]⟩ : ByteArray).toList) = false := by rw [nil_toList, beq_eq_false_iff_ne]; exact hnn
   have e2 : (nm.toList != (⟨#[]⟩ : ByteArray).toList) = true := by rw [nil_toList, bne_iff_ne]; exact hnn
   have e3 : (nm.toList == []) = false := by rw [beq_eq_false_iff_ne]; exact hnn
   have e4 : (nm.toList != []) = true := by rw [bne_iff_ne]; exact hnn
   have e5 : nm.toList.isEmpty = false := by rw [List.isEmpty_eq_false_iff]; exact hnn
   have HF : Hid (RR = false) := by show _ = _; rw [HR.out, decide_eq_false hnn]; rfl
   go_enter Tryz.func36, Tryz.ntmps36
   go_wp2_with fail
   go_ret
   exact ⟨by rw [HF.out]; rfl, HB.out⟩
  obtain rfl : nm = ⟨#[]⟩ := bytes_eq (by rw [hnn, nil_toList])
  have HR2 : Hid (RR = (nilB vk vb vi vs vl.length vm.length && keysB m)) := by show _ = _; rw [HR.out, decide_eq_true hnn, HN.out]; rfl
  clear hnn
  by_cases h18 : 1 <= m.length /\ m.length <= 8
  case neg =>
   have HF : Hid (RR = false) := by show _ = _; rw [HR2.out, keysB_len h18]; simp
   by_cases h0 : m.length = 0
   ·have y0 : ((m.length : Int) == 0) = true := by rw [h0]; rfl
    clear h0 h18
    go_enter Tryz.func36, Tryz.ntmps36
    go_wp2_with fail
    go_ret
    exact ⟨by rw [HF.out]; rfl, HB.out⟩
   ·have y0 : ((m.length : Int) == 0) = false := by rw [beq_eq_false_iff_ne]; omega
    have y1 : (8 : Int) < m.length := by omega
    go_enter Tryz.func36, Tryz.ntmps36
    go_wp2_with fail
    go_ret
    exact ⟨by rw [HF.out]; rfl, HB.out⟩
  have y0 : ((m.length : Int) == 0) = false := by rw [beq_eq_false_iff_ne]; omega
  have y01 : ¬ (8 : Int) < m.length := by omega
  have H18 := hmk h18
  clear h18
  have c1 := hmk (rnull_any vk vb vi vs val vl.length vcl vam vm.length vcm (w.alloc (.cells #[.int .i64 2, .string ⟨#[]⟩, .slice am m.length cm, .int .i64 vk, .bool vb, .int .i64 vi, .string vs, .slice val vl.length vcl, .slice vam vm.length vcm] 52)))
  go_enter Tryz.func36, Tryz.ntmps36
  go_wp2_with fail
  refine c1.out.mono ?_
  rintro e w1 ⟨rfl, b2⟩
  clear d0 d1 d2 d3 d4 d5 d6 d7 d8 c1
  generalize (w.alloc (.cells #[.int .i64 2, .string ⟨#[]⟩, .slice am m.length cm, .int .i64 vk, .bool vb, .int .i64 vi, .string vs, .slice val vl.length vcl, .slice vam vm.length vcm] 52)) = w0 at *
  cases hx : nilB vk vb vi vs vl.length vm.length with
  | false =>
   have HF : Hid (RR = false) := by show _ = _; rw [HR2.out, hx]; rfl
   have HB2 := hmk (HB.out.trans (b2.mono (by omega)))
   go_wp2_with fail
   go_ret
   exact ⟨by rw [HF.out]; rfl, HB2.out⟩
  | true =>
   have HF2 : Hid (RR = keysB m) := by show _ = _; rw [HR2.out, hx]; rfl
   clear hx
   go_wp2_with fail
   go_loopw [4] (fun e wr => ∃ j : Nat, j <= m.length /\ e = .int .i64 (j : Int) /\ Below w0.heap.size w0 wr /\ Hid (∀ q, q < j -> okK m q = true)) (fun e _ => m.length - (RowKit.intOf e).toNat)
   case atStart => exact ⟨0, by omega, rfl, b2, fun q hq => by omega⟩
   case round =>
    clear b2
    obtain ⟨j, hj, rfl, bj, ok⟩ := hrel
    have hzr := bj.size
    obtain ⟨d0, d1, d2, d3, d4, d5, d6, d7, d8⟩ := row9z (hbx.keep (bj.block _ (by omega)))
    by_cases hjl : j < m.length
    ·have y1 : (j : Int) < m.length := by omega
     obtain ⟨hSb, hks, csj, hrow, hlj⟩ := liesM_get HM.out j hjl
     obtain rfl : am = some ⟨bm, om, none⟩ := ham.at_.resolve_left (by omega)
     have HKw : Hid (∀ W, Below w0.heap.size w0 W -> ∀ b, S b -> W.heap[b]? = w.heap[b]?) := fun W hb b hS' => (hb.block b (by have := hS b hS'; omega)).trans (HB.out.block b (hS b hS'))
     obtain ⟨ek, eb, ei, es, eal, enl, ecl, eam, enm, ecm, rfl⟩ := V.ten hlj
     have HLJ := hmk hlj
     have HRW := hmk hrow
     have hkz : (m[j]).1.size <= 2147483647 /\ (m[j]).2.wt <= 1099511627776 := by have := wtM_mem (List.getElem_mem hjl); omega
     have HK : Hid (keyAt m j = (m[j]).1) := keyAt_eq hjl
     have HVA : Hid (valAt m j = (m[j]).2) := valAt_eq hjl
     obtain ⟨q, q0, q1, q2, q3, q4, q5⟩ := row7 (hrow.keep (HKw.out wr bj bm hSb))
     clear hlj hrow
     generalize (m[j]).1 = key at *
     generalize (m[j]).2 = xv at *
     have c2 := hmk (rvalid_any key wr (by omega))
     go_wp2_with fail
     refine c2.out.mono ?_
     rintro e w1 ⟨rfl, b1'⟩
     have bj1 := bj.trans (b1'.mono hzr)
     clear d0 d1 d2 d3 d4 d5 d6 d7 d8 q q0 q1 q2 q3 q4 q5 c2
     obtain ⟨d0, d1, d2, d3, d4, d5, d6, d7, d8⟩ := row9z (hbx.keep (bj1.block _ (by omega)))
     obtain ⟨q, q0, q1, q2, q3, q4, q5⟩ := row7 (HRW.out.keep (HKw.out w1 bj1 bm hSb))
     have hz1 := bj1.size
     have c3 := hmk (rscal_any false xv S _ w1 (V.lies_keep (fun h => h) (HKw.out w1 bj1) (fun _ h => h) _ HLJ.out) (fun b hb => by have := hS b hb; omega) hkz.2)
     go_wp2_with fail
     refine c3.out.mono ?_
     rintro e w2 ⟨rfl, b2''⟩
     have b2' := bj1.trans (b2''.mono hz1)
     clear d0 d1 d2 d3 d4 d5 d6 d7 d8 q q0 q1 q2 q3 q4 q5 c3 b1' b2'' bj1
     obtain ⟨d0, d1, d2, d3, d4, d5, d6, d7, d8⟩ := row9z (hbx.keep (b2'.block _ (by omega)))
     obtain ⟨q, q0, q1, q2, q3, q4, q5⟩ := row7 (HRW.out.keep (HKw.out w2 b2' bm hSb))
     have hz2 := b2'.size
     have hbl : bm < w2.heap.size := World.block_lt_of_cell? w2 _ q
     have x0 : ∀ x : Sub w2.heap.size w2, _ := sub_cell d2 (by omega)
     have x1 : ∀ x : Sub w2.heap.size w2, _ := sub_cell q hbl
     cases hV : utfB key with
     | false =>
      have HW : Hid (okK m j = false) := by show _ = _; simp [okK, okAt, HK.out, hV]
      clear hV
      go_wp2_with fail
      refine wp_region_sub w2.heap.size (by kernel_rfl) (by kernel_rfl) ?_
      repeat (go_big_quiet_step (fail))
      refine wpQuiet_nil ?_
      rintro wq ⟨⟨wq', bq⟩, hq⟩
      have hq' : wq = wq' := hq
      subst hq'
      clear hq
      have BQ := hmk (b2'.trans (bq.mono b2'.size))
      go_wp2_with fail
      go_ret
      exact ⟨by rw [HF2.out, keysB_false hjl HW.out]; rfl, HB.out.trans (BQ.out.mono (by omega))⟩
     | true =>
     cases hZ : sizS xv with
     | false =>
      have HW : Hid (okK m j = false) := by show _ = _; rw [okK, HVA.out, hZ]; simp
      clear hV hZ
      go_wp2_with fail
      refine wp_region_sub w2.heap.size (by kernel_rfl) (by kernel_rfl) ?_
      repeat (go_big_quiet_step (fail))
      refine wpQuiet_nil ?_
      rintro wq ⟨⟨wq', bq⟩, hq⟩
      have hq' : wq = wq' := hq
      subst hq'
      clear hq
      have BQ := hmk (b2'.trans (bq.mono b2'.size))
      go_wp2_with fail
      go_ret
      exact ⟨by rw [HF2.out, keysB_false hjl HW.out]; rfl, HB.out.trans (BQ.out.mono (by omega))⟩
     | true =>
     by_cases hj0 : j = 0
     ·have yj : decide ((0 : Int) < (j : Int)) = false := by simp [hj0]
      have yk : decide (0 < j) = false := by simp [hj0]
      have HW : Hid (okK m j = true) := by show _ = _; rw [okK, HVA.out, hZ, okAt, HK.out, hV]; simp [hj0]
      clear hj0 hV hZ
      have HO : Hid (∀ q, q < j + 1 -> okK m q = true) := fun q hq => by
       by_cases hqj : q < j
       ·exact ok.out q hqj
       ·obtain rfl : q = j := by omega
        exact HW.out
      clear HW
      go_wp2_with fail
      refine wp_region_sub w2.heap.size (by kernel_rfl) (by kernel_rfl) ?_
      repeat (go_big_quiet_step (fail))
      refine wpQuiet_nil ?_
      rintro wq ⟨⟨wq', bq⟩, hq⟩
      have hq' : wq = wq' := hq
      subst hq'
      clear hq
      have BQ := hmk (b2'.trans (bq.mono b2'.size))
      go_wp2_with fail
      go_roundw
      case rel => exact ⟨j + 1, by omega, by go_num, BQ.out, HO⟩
      case measure => simp [RowKit.intOf]; omega
     ·obtain ⟨p, rfl⟩ : ∃ p, j = p + 1 := ⟨j - 1, by omega⟩
      obtain ⟨hSb', hks', csp, hrowp, _⟩ := liesM_get HM.out p (by omega)
      have p0 : w2.cell? ⟨bm, om + p * 7, none⟩ = some (.string (m[p]'(by omega)).1) := (hrowp.keep (HKw.out w2 b2' bm hSb')) 0 _ rfl
      have HP : Hid (keyAt m p = (m[p]'(by omega)).1) := keyAt_eq (by omega)
      generalize (m[p]'(by omega)).1 = prev at *
      have xp : ∀ x : Sub w2.heap.size w2, x.w.cell? ⟨bm, om + p * 7, none⟩ = some (.string prev) := sub_cell p0 hbl
      have y2 : (p : Int) < m.length := by omega
      have y3 : decide ((0 : Int) < (p : Int) + 1) = true := by simp
      clear hrowp p0
      cases hL : Op.bytesLess prev.toList key.toList
      ·have HW : Hid (okK m (p + 1) = false) := by show _ = _; rw [okK, okAt, HK.out, Nat.add_sub_cancel, HP.out]; simp [ltB, hL]
       clear hV hZ
       go_wp2_with fail
       refine wp_region_sub w2.heap.size (by kernel_rfl) (by kernel_rfl) ?_
       repeat (go_big_quiet_step (fail))
       refine wpQuiet_nil ?_
       rintro wq ⟨⟨wq', bq⟩, hq⟩
       have hq' : wq = wq' := hq
       subst hq'
       clear hq
       have BQ := hmk (b2'.trans (bq.mono b2'.size))
       go_wp2_with fail
       go_ret
       exact ⟨by rw [HF2.out, keysB_false hjl HW.out]; rfl, HB.out.trans (BQ.out.mono (by omega))⟩
      ·have HW : Hid (okK m (p + 1) = true) := by show _ = _; rw [okK, HVA.out, hZ, okAt, HK.out, hV, Nat.add_sub_cancel, HP.out]; simp [ltB, hL]
       clear hV hZ
       have HO : Hid (∀ q, q < (p + 1) + 1 -> okK m q = true) := fun q hq => by
        by_cases hqj : q < (p + 1)
        ·exact ok.out q hqj
        ·obtain rfl : q = (p + 1) := by omega
         exact HW.out
       clear HW
       go_wp2_with fail
       refine wp_region_sub w2.heap.size (by kernel_rfl) (by kernel_rfl) ?_
       repeat (go_big_quiet_step (fail))
       refine wpQuiet_nil ?_
       rintro wq ⟨⟨wq', bq⟩, hq⟩
       have hq' : wq = wq' := hq
       subst hq'
       clear hq
       have BQ := hmk (b2'.trans (bq.mono b2'.size))
       go_wp2_with fail
       go_roundw
       case rel => exact ⟨(p + 1) + 1, by omega, by go_num, BQ.out, HO⟩
       case measure => simp [RowKit.intOf]; omega
    ·obtain rfl : j = m.length := by omega
     have y1 : ¬ (m.length : Int) < m.length := by omega
     have HF := hmk (keysB_true H18.out (fun q hq => ok.out q hq))
     have HB2 := hmk (HB.out.trans (bj.mono (by omega)))
     go_wp2_with fail
     go_ret
     exact ⟨by rw [HF2.out, HF.out]; rfl, HB2.out⟩
 have z2 : (k == 2) = false := beq_eq_false_iff_ne.2 k2
 by_cases k3 : k = 3
 ·subst k3
  have HR := hmk (elB3 (nm := nm) (m := m) (v := v) (rfl : (3 : Int) = 3))
  generalize elB ⟨3, nm, m, v⟩ = RR at *
  have HB := hmk b1
  have c2 := hmk (rscal_any false v S _ (w.alloc (.cells #[.int .i64 3, .string nm, .slice am m.length cm, .int .i64 vk, .bool vb, .int .i64 vi, .string vs, .slice val vl.length vcl, .slice vam vm.length vcm] 52)) (V.lies_keep (fun h => h) (fun b hb => HB.out.block b (hS b hb)) (fun _ h => h) _ HV.out) (fun b hb => Nat.lt_of_lt_of_le (hS b hb) HB.out.size) (by omega))
  go_enter Tryz.func36, Tryz.ntmps36
  go_wp2_with fail
  refine c2.out.mono ?_
  rintro e w1 ⟨rfl, b2⟩
  have hz2 := b2.size
  have hbx2 := hbx.keep (b2.block _ (by omega))
  have HB2 := hmk (HB.out.trans (b2.mono (by omega)))
  clear d0 d1 d2 d3 d4 d5 d6 d7 d8 c2
  obtain ⟨d0, d1, d2, d3, d4, d5, d6, d7, d8⟩ := row9z hbx2
  by_cases hnn : nm.toList = []
  case neg =>
   have e1 : (nm.toList == (⟨#[]⟩ : ByteArray).toList) = false := by rw [nil_toList, beq_eq_false_iff_ne]; exact hnn
   have e2 : (nm.toList != (⟨#[]⟩ : ByteArray).toList) = true := by rw [nil_toList, bne_iff_ne]; exact hnn
   have e3 : (nm.toList == []) = false := by rw [beq_eq_false_iff_ne]; exact hnn
   have e4 : (nm.toList != []) = true := by rw [bne_iff_ne]; exact hnn
   have e5 : nm.toList.isEmpty = false := by rw [List.isEmpty_eq_false_iff]; exact hnn
   have HF : Hid (RR = false) := by show _ = _; rw [HR.out, decide_eq_false hnn]; rfl
   go_wp2_with fail
   go_ret
   exact ⟨by rw [HF.out]; rfl, HB2.out⟩
  obtain rfl : nm = ⟨#[]⟩ := bytes_eq (by rw [hnn, nil_toList])
  have HR1 : Hid (RR = (decide (m.length = 0) && sizS v)) := by show _ = _; rw [HR.out, decide_eq_true hnn]; rfl
  clear hnn
  by_cases h0 : m.length = 0
  case neg =>
   have y0 : ((m.length : Int) == 0) = false := by rw [beq_eq_false_iff_ne]; omega
   have HF : Hid (RR = false) := by show _ = _; rw [HR1.out, decide_eq_false h0]; rfl
   go_wp2_with fail
   go_ret
   exact ⟨by rw [HF.out]; rfl, HB2.out⟩
  have y0 : ((m.length : Int) == 0) = true := by rw [h0]; rfl
  have HF : Hid (RR = sizS v) := by show _ = _; rw [HR1.out, decide_eq_true h0]; rfl
  clear h0
  go_wp2_with fail
  go_ret
  exact ⟨by rw [HF.out]; rfl, HB2.out⟩
 have z3 : (k == 3) = false := beq_eq_false_iff_ne.2 k3
 have HF := hmk (elB0 (nm := nm) (m := m) (v := v) k1 k2 k3)
 have HB := hmk b1
 clear k1 k2 k3
 go_enter Tryz.func36, Tryz.ntmps36
 go_wp2_with fail
 go_ret
 exact ⟨by rw [HF.out]; rfl, HB.out⟩
end Go.Proofs.YtdgfjdhobdfglaaGreatDoor
set_option maxRecDepth 100000
namespace Go.Proofs.YtdgfjdhobdfglaaGreatDoor
open Go.RowKit Go.Lib
def pathB (p : List El) : Bool := decide (p.length <= 32) && p.all elB
def errP (p : List El) : Nat := if pathB p = true then 0 else 90
theorem pathB_true {p : List El} (h : p.length <= 32) (h' : ∀ (q : Nat) (h : q < p.length), elB p[q] = true) : pathB p = true := by
 rw [pathB, decide_eq_true h, Bool.true_and, List.all_eq_true]
 intro x hx
 obtain ⟨q, hq, rfl⟩ := List.getElem_of_mem hx
 exact h' q hq
theorem pathB_all {p : List El} (h : pathB p = true) : p.length <= 32 /\ ∀ x ∈ p, elB x = true := by
 simpa [pathB] using h
theorem errP_ok {p : List El} (h : p.length <= 32) (h' : ∀ (q : Nat) (h : q < p.length), elB p[q] = true) : errP p = 0 := by rw [errP, if_pos (pathB_true h h')]
theorem errP_len {p : List El} (h : ¬ p.length <= 32) : errP p = 90 := by rw [errP, if_neg]; rw [pathB, decide_eq_false h]; simp
theorem errP_bad {p : List El} {j : Nat} (hj : j < p.length) (h : elB p[j] = false) : errP p = 90 := by
 rw [errP, if_neg]
 intro hp
 have := (pathB_all hp).2 _ (List.getElem_mem hj)
 rw [h] at this
 cases this
set_option maxHeartbeats 8000000 in
theorem rpcheck_any (p : List El) (S : Nat -> Prop) (ap : Option Addr) (cp bp op : Nat) (w : World) (hap : Headed ap p.length cp bp op) (hp : liesP w S p bp op) (hS : ∀ b, S b -> b < w.heap.size) (hwt : wtP p <= 2147483647) :
 Calls Tryz.prog 25 #[.slice ap p.length cp] w (NPost (errP p) w) := by
 have HP := hmk hp
 clear hp
 by_cases h32 : p.length <= 32
 case neg =>
  have HF := hmk (errP_len h32)
  have y0 : (32 : Int) < p.length := by omega
  go_enter Tryz.func25, Tryz.ntmps25
  go_wp2_with fail
  go_ret
  exact ⟨by rw [HF.out]; rfl, Below.refl _ _⟩
 have y0 : ¬ (32 : Int) < p.length := by omega
 have H32 := hmk h32
 have hlm := wtP_len p
 clear h32
 go_enter Tryz.func25, Tryz.ntmps25
 go_wp2_with fail
 go_loopw [3] (fun e wr => ∃ j : Nat, j <= p.length /\ e = .int .i64 (j : Int) /\ Below w.heap.size w wr /\ Hid (∀ (q : Nat) (h : q < j) (h' : q < p.length), elB p[q] = true)) (fun e _ => p.length - (RowKit.intOf e).toNat)
 case atStart => exact ⟨0, by omega, rfl, Below.refl _ _, fun q hq _ => by omega⟩
 case round =>
  obtain ⟨j, hj, rfl, bj, ok⟩ := hrel
  by_cases hjl : j < p.length
  ·have y1 : (j : Int) < p.length := by omega
   obtain ⟨hSb, csj, hrow, hlj⟩ := HP.out j hjl
   obtain rfl : ap = some ⟨bp, op, none⟩ := hap.at_.resolve_left (by omega)
   have hwj : (p[j]).wt <= 2147483647 := by have := wtP_mem (List.getElem_mem hjl); omega
   obtain ⟨k, s, am, nm, cm, vk, vb, vi, vs, val, vnl, vcl, vam, vnm, vcm, rfl⟩ := El.nine hlj
   obtain ⟨q0, q1, q2, q3, q4, q5, q6, q7, q8⟩ := row9 (hrow.keep (bj.block bp (hS _ hSb)))
   have bA := bj
   have c := hmk (relem_any p[j] S _ wr (El.lies_keep (fun b hb => bA.block b (hS b hb)) (fun _ h => h) hlj) (fun b hb => Nat.lt_of_lt_of_le (hS b hb) bA.size) hwj)
   have HB := hmk bA
   clear hlj hrow bA hwj
   cases hx : elB p[j] with
   | false =>
    have HF := hmk (errP_bad hjl hx)
    rw [hx] at c
    clear hx
    go_wp2_with fail
    refine c.out.mono ?_
    rintro e w1 ⟨rfl, b1⟩
    go_wp2_with fail
    go_ret
    exact ⟨by rw [HF.out]; rfl, HB.out.trans (b1.mono HB.out.size)⟩
   | true =>
    have HO : Hid (∀ (q : Nat) (h : q < j + 1) (h' : q < p.length), elB p[q] = true) := fun q hq hq' => by
     by_cases hqj : q < j
     ·exact ok.out q hqj hq'
     ·obtain rfl : q = j := by omega
      exact hx
    rw [hx] at c
    clear hx
    go_wp2_with fail
    refine c.out.mono ?_
    rintro e w1 ⟨rfl, b1⟩
    have HB2 := hmk (HB.out.trans (b1.mono HB.out.size))
    go_wp2_with fail
    go_roundw
    case rel => exact ⟨j + 1, by omega, by go_num, HB2.out, HO⟩
    case measure => simp [RowKit.intOf]; omega
  ·obtain rfl : j = p.length := by omega
   have y1 : ¬ (p.length : Int) < p.length := by omega
   have HF := hmk (errP_ok H32.out (fun q hq => ok.out q hq hq))
   have HB := hmk bj
   go_wp2_with fail
   go_ret
   exact ⟨by rw [HF.out]; rfl, HB.out⟩
end Go.Proofs.YtdgfjdhobdfglaaGreatDoor
