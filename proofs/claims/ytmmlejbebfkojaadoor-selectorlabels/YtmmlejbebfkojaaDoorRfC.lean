import Derived.Test.YtmmlejbebfkojaaDoorRfB
import Derived.Deep.Cut
/- freeholdref02: good. -/
set_option linter.unusedSimpArgs false
set_option linter.unusedVariables false
namespace Go.Proofs.YtmmlejbebfkojaaDoor
open Go.RowKit Go.Lib
def fldB (k : Int) (b : Bool) (i : Int) (s : ByteArray) (nl nm : Nat) : Bool :=
  decide ((k = 1 ∨ b = false) ∧ (k = 2 ∨ i = 0) ∧ (k = 3 ∨ s.toList.isEmpty = true) ∧ (k = 4 ∨ nl = 0) ∧ (k = 5 ∨ nm = 0))
theorem plainB_fld (k : Int) (b : Bool) (i : Int) (s : ByteArray) (nl nm : Nat) : plainB k b i s nl nm = (decide (0 ≤ k ∧ k ≤ 5) && fldB k b i s nl nm) := by
  rw [Bool.eq_iff_iff]
  simp only [plainB, fldB, Bool.and_eq_true, decide_eq_true_eq]
  constructor
  · rintro ⟨h1, h2, h3⟩; exact ⟨⟨h1, h2⟩, h3⟩
  · rintro ⟨⟨h1, h2⟩, h3⟩; exact ⟨h1, h2, h3⟩
theorem bl_total : ∀ a b : List UInt8, (Op.bytesLess a b || a == b) = !(Op.bytesLess b a)
  | [], [] => by simp [Op.bytesLess]
  | [], y :: u => by simp [Op.bytesLess]
  | x :: t, [] => by simp [Op.bytesLess]
  | x :: t, y :: u => by
    have ih := bl_total t u
    rw [Op.bytesLess, Op.bytesLess, List.cons_beq_cons]
    by_cases h : x = y
    · subst h
      simp only [beq_self_eq_true, Bool.true_and]
      rw [show decide (x < x) = false by simp]
      simpa using ih
    · have h1 : (x == y) = false := by rw [beq_eq_false_iff_ne]; exact h
      have h2 : (y == x) = false := by rw [beq_eq_false_iff_ne]; exact fun e => h e.symm
      rw [h1, h2]
      simp only [Bool.false_and, Bool.or_false]
      rw [Bool.eq_iff_iff]
      simp only [decide_eq_true_eq, Bool.not_eq_true', decide_eq_false_iff_not]
      rw [UInt8.lt_iff_toNat_lt, UInt8.lt_iff_toNat_lt]
      have h3 : x.toNat ≠ y.toNat := fun e => h (UInt8.toNat_inj.1 e)
      omega
set_option maxHeartbeats 8000000 in
set_option maxRecDepth 100000 in
theorem rgood_any (R : Bool) (k : Int) (b : Bool) (i : Int) (s : ByteArray) (l : List V) (m : List Mem) (S : Nat → Prop) (cs : List Value) (w : World) (hl : (V.mk k b i s l m).lies R w S cs) (hS : ∀ b, S b → b < w.heap.size) (hwt : (V.mk k b i s l m).wt ≤ 281474976710656) :
    Calls Tryd.prog 29 #[.agg cs.toArray] w (BPost (goodB k b i s l.length m) w) := by
  rw [V.lies] at hl
  obtain ⟨al, cl, bl, ol, am, cm, bm, om, rfl, hk, hi, hs, hal, ham, hl1, hm1, _⟩ := hl
  have HM : Hid (liesM R w S m bm om) := hm1
  clear hl1 hm1
  rw [V.wt] at hwt
  have hmm := wtM_len m
  have HE : Hid (goodB k b i s l.length m = (decide (0 ≤ k ∧ k ≤ 5) && fldB k b i s l.length m.length && utfB s && riseB m)) := by show _ = _; rw [goodB, plainB_fld]
  generalize goodB k b i s l.length m = RR at *
  have B0 : Below w.heap.size w (w.alloc (.cells #[.int .i64 k, .bool b, .int .i64 i, .string s, .slice al l.length cl, .slice am m.length cm] 25)) := (Below.refl _ _).alloc (Nat.le_refl _) _
  by_cases h1 : k < 0
  · have HF : Hid (RR = false) := by show _ = _; rw [HE.out]; simp; omega
    go_enter Tryd.func29, Tryd.ntmps29
    go_wp2_with fail
    go_ret
    exact ⟨by rw [HF.out]; rfl, B0⟩
  by_cases h2 : 5 < k
  · have HF : Hid (RR = false) := by show _ = _; rw [HE.out]; simp; omega
    go_enter Tryd.func29, Tryd.ntmps29
    go_wp2_with fail
    go_ret
    exact ⟨by rw [HF.out]; rfl, B0⟩
  have HE2 : Hid (RR = (fldB k b i s l.length m.length && utfB s && riseB m)) := by show _ = _; rw [HE.out]; rw [decide_eq_true (show 0 ≤ k ∧ k ≤ 5 by omega)]; rfl
  clear HE
  have hb0 := box_row w [.int .i64 k, .bool b, .int .i64 i, .string s, .slice al l.length cl, .slice am m.length cm] 25
  have hz0 := alloc_size w (.cells #[.int .i64 k, .bool b, .int .i64 i, .string s, .slice al l.length cl, .slice am m.length cm] 25)
  go_enter Tryd.func29, Tryd.ntmps29
  go_upto_region 3 with fail
  generalize (w.alloc (.cells #[.int .i64 k, .bool b, .int .i64 i, .string s, .slice al l.length cl, .slice am m.length cm] 25)) = w0 at *
  obtain ⟨d0, d1, d2, d3, d4, d5⟩ := row6z hb0
  go_cut [0, 61] from 5 (fun _ s61 w' => s61 = .bool (!fldB k b i s l.length m.length) ∧ w' = w0)
  case first =>
    clear HM hal ham hwt hmm HE2 hb0 hz0
    generalize l.length = nl at *
    generalize m.length = nm at *
    go_wp2_with fail
    all_goals go_meet
    all_goals refine ⟨?_, rfl⟩
    all_goals refine congrArg Value.bool ?_
    all_goals rw [Bool.eq_iff_iff]
    all_goals simp only [fldB, Bool.not_eq_true', decide_eq_false_iff_not]
    all_goals simp_all
    all_goals omega
  case rest =>
    obtain ⟨rfl, rfl⟩ := hcut
    cases hF : fldB k b i s l.length m.length
    · have HF : Hid (RR = false) := by show _ = _; rw [HE2.out, hF]; rfl
      go_wp2_with fail
      go_ret
      exact ⟨by rw [HF.out]; rfl, B0⟩
    rename World => w0
    have HE3 : Hid (RR = (utfB s && riseB m)) := by show _ = _; rw [HE2.out, hF]; rfl
    clear HE2
    have cu := utf_wide s w0 (by omega)
    cases hU : utfB s
    · have HF : Hid (RR = false) := by show _ = _; rw [HE3.out, hU]; rfl
      rw [hU] at cu
      go_wp2_with fail
      refine cu.mono ?_
      rintro e w1 ⟨rfl, rfl⟩
      go_wp2_with fail
      go_ret
      exact ⟨by rw [HF.out]; rfl, B0⟩
    have HE4 : Hid (RR = riseB m) := by show _ = _; rw [HE3.out, hU]; rfl
    rw [hU] at cu
    clear hU HE3 hF
    go_wp2_with fail
    refine cu.mono ?_
    rintro e w1 ⟨rfl, rfl⟩
    go_wp2_with fail
    rename World => w0
    have hmlen : m.length ≤ 9223372036854775807 := Nat.le_trans ham.le ham.max
    clear cu d0 d1 d2 d3 d4 d5
    go_loopw [4] (fun e wr => ∃ j : Nat, j ≤ m.length ∧ e = .int .i64 (j : Int) ∧ Below w0.heap.size w0 wr ∧ Hid (∀ q, q < j → okAt m q = true)) (fun e _ => m.length - (RowKit.intOf e).toNat)
    case atStart => exact ⟨0, by omega, rfl, Below.refl _ _, fun q hq => by omega⟩
    case round =>
      obtain ⟨j, hj, rfl, bj, ok⟩ := hrel
      obtain ⟨d0, d1, d2, d3, d4, d5⟩ := row6z (hb0.keep (bj.block _ (by omega)))
      have hzr := bj.size
      have hzw := B0.size
      by_cases hjl : j < m.length
      · have y1 : (j : Int) < m.length := by omega
        obtain ⟨hSb, hks, csj, hrow, hlj⟩ := liesM_get HM.out j hjl
        obtain rfl : am = some ⟨bm, om, none⟩ := ham.at_.resolve_left (by omega)
        have hkw : wr.heap[bm]? = w.heap[bm]? := (bj.block _ (by have := hS _ hSb; omega)).trans (B0.block _ (hS _ hSb))
        have q0 : wr.cell? ⟨bm, om + j * 7, none⟩ = some (.string (m[j]).1) := hrow.keep hkw 0 _ rfl
        have hbm : bm < wr.heap.size := World.block_lt_of_cell? wr _ q0
        have hkz : (m[j]).1.size ≤ 281474976710656 := by have := wtM_mem (List.getElem_mem hjl); omega
        have HK : Hid (keyAt m j = (m[j]).1) := keyAt_eq hjl
        have cu := utf_wide (m[j]).1 wr hkz
        generalize (m[j]).1 = key at *
        have x0 : ∀ x : Sub wr.heap.size wr, _ := sub_cell q0 hbm
        have x5 : ∀ x : Sub wr.heap.size wr, _ := sub_cell d5 (by omega)
        clear hrow hlj
        have hback : ∀ wq, Below wr.heap.size wr wq → Below w.heap.size w wq := fun wq h => B0.trans ((bj.trans (h.mono hzr)).mono hzw)
        cases hU : utfB key
        · rw [hU] at cu
          have HF : Hid (RR = false) := by show _ = _; rw [HE4.out]; exact riseB_false hjl (by rw [okAt, HK.out, hU]; rfl)
          clear hU HK
          go_wp2_with fail
          refine cu.mono ?_
          rintro e w2 ⟨rfl, rfl⟩
          go_wp2_with fail
          refine wp_region_sub w2.heap.size (by kernel_rfl) (by kernel_rfl) ?_
          repeat (go_big_quiet_step (fail))
          refine wpQuiet_nil ?_
          rintro _ ⟨⟨wq, bq⟩, rfl⟩
          go_wp2_with fail
          go_ret
          exact ⟨by rw [HF.out]; rfl, hback _ bq⟩
        rw [hU] at cu
        by_cases hj0 : j = 0
        · have HV : Hid (okAt m j = true) := by show _ = _; rw [okAt, HK.out]; simp [hU, hj0]
          have HO : Hid (∀ q, q < j + 1 → okAt m q = true) := fun q hq => by
            by_cases hqj : q < j
            · exact ok.out q hqj
            · obtain rfl : q = j := by omega
              exact HV.out
          have yj : decide ((0 : Int) < (j : Int)) = false := by simp [hj0]
          have yk : decide (0 < j) = false := by simp [hj0]
          clear hU HK hj0 HV
          go_wp2_with fail
          refine cu.mono ?_
          rintro e w2 ⟨rfl, rfl⟩
          go_wp2_with fail
          refine wp_region_sub w2.heap.size (by kernel_rfl) (by kernel_rfl) ?_
          repeat (go_big_quiet_step (fail))
          refine wpQuiet_nil ?_
          rintro _ ⟨⟨wq, bq⟩, rfl⟩
          go_wp2_with fail
          go_roundw
          case rel => exact ⟨j + 1, by omega, by go_num, bj.trans (bq.mono hzr), HO⟩
          case measure => simp [RowKit.intOf]; omega
        · obtain ⟨p, rfl⟩ : ∃ p, j = p + 1 := ⟨j - 1, by omega⟩
          obtain ⟨_, hks', csp, hrowp, _⟩ := liesM_get HM.out p (by omega)
          have p0 : wr.cell? ⟨bm, om + p * 7, none⟩ = some (.string (m[p]'(by omega)).1) := hrowp.keep hkw 0 _ rfl
          have HP : Hid (keyAt m p = (m[p]'(by omega)).1) := keyAt_eq (by omega)
          generalize (m[p]'(by omega)).1 = prev at *
          have x1 : ∀ x : Sub wr.heap.size wr, _ := sub_cell p0 hbm
          have y2 : (p : Int) < m.length := by omega
          have y3 : decide ((0 : Int) < (p : Int) + 1) = true := by simp
          clear hrowp
          cases hL : Op.bytesLess prev.toList key.toList
          · have hT : (Op.bytesLess key.toList prev.toList || key.toList == prev.toList) = true := by rw [bl_total, hL]; rfl
            have HF : Hid (RR = false) := by show _ = _; rw [HE4.out]; exact riseB_false hjl (by rw [okAt, HK.out, Nat.add_sub_cancel, HP.out]; simp [ltB, hL])
            clear hU HK HP hL
            go_wp2_with fail
            refine cu.mono ?_
            rintro e w2 ⟨rfl, rfl⟩
            go_wp2_with fail
            refine wp_region_sub w2.heap.size (by kernel_rfl) (by kernel_rfl) ?_
            repeat (go_big_quiet_step (fail))
            refine wpQuiet_nil ?_
            rintro _ ⟨⟨wq, bq⟩, rfl⟩
            go_wp2_with fail
            go_ret
            exact ⟨by rw [HF.out]; rfl, hback _ bq⟩
          · have hT : (Op.bytesLess key.toList prev.toList || key.toList == prev.toList) = false := by rw [bl_total, hL]; rfl
            have HV : Hid (okAt m (p + 1) = true) := by show _ = _; rw [okAt, HK.out, Nat.add_sub_cancel, HP.out]; simp [ltB, hL, hU]
            have HO : Hid (∀ q, q < p + 1 + 1 → okAt m q = true) := fun q hq => by
              by_cases hqj : q < p + 1
              · exact ok.out q hqj
              · obtain rfl : q = p + 1 := by omega
                exact HV.out
            clear hU HK HP hL HV
            go_wp2_with fail
            refine cu.mono ?_
            rintro e w2 ⟨rfl, rfl⟩
            go_wp2_with fail
            refine wp_region_sub w2.heap.size (by kernel_rfl) (by kernel_rfl) ?_
            repeat (go_big_quiet_step (fail))
            refine wpQuiet_nil ?_
            rintro _ ⟨⟨wq, bq⟩, rfl⟩
            go_wp2_with fail
            go_roundw
            case rel => exact ⟨p + 1 + 1, by omega, by go_num, bj.trans (bq.mono hzr), HO⟩
            case measure => simp [RowKit.intOf]; omega
      · obtain rfl : j = m.length := by omega
        have y1 : ¬ (m.length : Int) < m.length := by omega
        have HF : Hid (RR = true) := by show _ = _; rw [HE4.out]; exact riseB_true ok.out
        go_wp2_with fail
        go_ret
        exact ⟨by rw [HF.out]; rfl, B0.trans (bj.mono hzw)⟩
end Go.Proofs.YtmmlejbebfkojaaDoor
