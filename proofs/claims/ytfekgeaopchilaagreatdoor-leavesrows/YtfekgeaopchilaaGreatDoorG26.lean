/- joined: LefC LefO AnsR -/
import Derived.Test.YtfekgeaopchilaaGreatDoorG25
import Derived.Test.YtfekgeaopchilaaGreatDoorLefB
/- Leaves: taken, leavesSame, the document's Rising. -/
set_option linter.unusedSimpArgs false
set_option linter.unusedVariables false
namespace Go.Proofs.YtfekgeaopchilaaGreatDoor
open Go.RowKit Go.Lib
def takB (l : List Lf) : Bool := l.all (fun x => okV x.2)
set_option maxHeartbeats 4000000 in
set_option maxRecDepth 100000 in
theorem ltaken_any (l : List Lf) (S : Nat → Prop) (al : Option Addr) (cl bl ol : Nat) (w : World) (hal : Headed al l.length cl bl ol) (hl : liesF w S l bl ol) (hS : ∀ b, S b → b < w.heap.size) (hwt : wtF l ≤ 2147483647) :
    Calls Tryz.prog 9 #[.slice al l.length cl] w (BPost (takB l) w) := by
  have HL := hmk hl
  have hll : l.length ≤ 9223372036854775807 := Nat.le_trans hal.le hal.max
  clear hl
  go_enter Tryz.func9, Tryz.ntmps9
  go_wp2_with fail
  go_loopw [3] (fun e wr => ∃ j : Nat, j ≤ l.length ∧ e = .int .i64 (j : Int) ∧ Below w.heap.size w wr ∧ Hid (∀ (q : Nat) (h : q < l.length), q < j → okV (l[q]).2 = true)) (fun e _ => l.length - (RowKit.intOf e).toNat)
  case atStart => exact ⟨0, by omega, rfl, Below.refl _ _, fun q h hq => by omega⟩
  case round =>
    obtain ⟨j, hj, rfl, bj, HQ⟩ := hrel
    by_cases hjl : j < l.length
    · have y1 : (j : Int) < l.length := by omega
      obtain ⟨hSb, cs, hrow, v, is, rfl, ⟨ap, cp, bp, op, rfl, hh, hlp⟩, hv⟩ := HL.out j hjl
      obtain rfl : al = some ⟨bl, ol, none⟩ := hal.at_.resolve_left (by omega)
      have kb : ∀ b, S b → wr.heap[b]? = w.heap[b]? := fun b hb => bj.block b (hS b hb)
      have hrow' := hrow.keep (kb _ hSb)
      have hv' := V.lies_keep (R' := false) (S' := S) (fun h => h) kb (fun _ h => h) _ hv
      have hwj := (Lf.wt_path (List.getElem_mem hjl)).2
      have c1 := hmk (rtaken_any false (l[j]).2 S _ wr hv' (fun b hb => Nat.lt_of_lt_of_le (hS b hb) bj.size) (by omega))
      obtain ⟨vk, vb, vi, vs, val, vnl, vcl, vam, vnm, vcm, rfl⟩ := V.ten hv
      obtain ⟨q, q0, q1, q2, q3, q4, q5⟩ := row7 hrow'
      clear hrow hrow' hv hv' hlp kb hwj
      cases hq : okV (l[j]).2 with
      | true =>
        have HN : Hid (∀ (q : Nat) (h : q < l.length), q < j + 1 → okV (l[q]).2 = true) := fun q h h' => by
          by_cases e : q = j
          · subst e; exact hq
          · exact HQ.out q h (by omega)
        rw [hq] at c1
        clear hq
        go_wp2_with fail
        refine c1.out.mono ?_
        rintro e w1 ⟨rfl, b1⟩
        have bj1 := bj.trans (b1.mono bj.size)
        clear c1 q q0 q1 q2 q3 q4 q5
        go_wp2_with fail
        go_roundw
        case rel => exact ⟨j + 1, by omega, by go_num, bj1, HN⟩
        case measure => simp [RowKit.intOf]; omega
      | false =>
        have HN : Hid (takB l = false) := by
          show _ = _
          rw [takB, List.all_eq_false]
          exact ⟨l[j], List.getElem_mem hjl, by rw [hq]; decide⟩
        rw [hq] at c1
        clear hq
        go_wp2_with fail
        refine c1.out.mono ?_
        rintro e w1 ⟨rfl, b1⟩
        have HB := hmk (bj.trans (b1.mono bj.size))
        clear c1 q q0 q1 q2 q3 q4 q5
        go_wp2_with fail
        go_ret
        exact ⟨by rw [HN.out]; rfl, HB.out⟩
    · obtain rfl : j = l.length := by omega
      have y1 : ¬ (l.length : Int) < l.length := by omega
      have HN : Hid (takB l = true) := by
        show _ = _
        rw [takB, List.all_eq_true]
        intro x hx
        obtain ⟨i, hi, rfl⟩ := List.getElem_of_mem hx
        exact HQ.out i hi hi
      go_wp2_with fail
      go_ret
      exact ⟨by rw [HN.out]; rfl, bj⟩
set_option maxHeartbeats 4000000 in
set_option maxRecDepth 100000 in
theorem lsame_any (l : List Lf) (S S' : Nat → Prop) (al : Option Addr) (cl bl ol : Nat) (al' : Option Addr) (cl' bl' ol' : Nat) (w : World) (hal : Headed al l.length cl bl ol) (hl : liesF w S l bl ol) (hal' : Headed al' l.length cl' bl' ol') (hl' : liesF w S' l bl' ol') (hS : ∀ b, S b → b < w.heap.size) (hS' : ∀ b, S' b → b < w.heap.size) :
    Calls Tryz.prog 14 #[.slice al l.length cl, .slice al' l.length cl'] w (BPost true w) := by
  have HL := hmk hl
  have HL' := hmk hl'
  have hll : l.length ≤ 9223372036854775807 := Nat.le_trans hal.le hal.max
  clear hl hl'
  go_enter Tryz.func14, Tryz.ntmps14
  go_wp2_with fail
  go_loopw [5] (fun e wr => ∃ j : Nat, j ≤ l.length ∧ e = .int .i64 (j : Int) ∧ Below w.heap.size w wr) (fun e _ => l.length - (RowKit.intOf e).toNat)
  case atStart => exact ⟨0, by omega, rfl, Below.refl _ _⟩
  case round =>
    obtain ⟨j, hj, rfl, bj⟩ := hrel
    have hzr := bj.size
    by_cases hjl : j < l.length
    · have y1 : (j : Int) < l.length := by omega
      obtain ⟨hSb, cs, hrow, v, is, rfl, ⟨ap, cp, bp, op, rfl, hh, hlp⟩, hv⟩ := HL.out j hjl
      obtain ⟨hSb', cs', hrow2, v', is', rfl, ⟨ap', cp', bp', op', rfl, hh', hlp'⟩, hv'⟩ := HL'.out j hjl
      obtain rfl : al = some ⟨bl, ol, none⟩ := hal.at_.resolve_left (by omega)
      obtain rfl : al' = some ⟨bl', ol', none⟩ := hal'.at_.resolve_left (by omega)
      have kb : ∀ b, S b → wr.heap[b]? = w.heap[b]? := fun b hb => bj.block b (hS b hb)
      have kb' : ∀ b, S' b → wr.heap[b]? = w.heap[b]? := fun b hb => bj.block b (hS' b hb)
      have C23 : Hid (∀ x : Sub wr.heap.size wr, Calls Tryz.prog 23 #[.slice ap (l[j]).1.length cp, .slice ap' (l[j]).1.length cp'] x.w fun e w'' => e = .returned (.bool true) ∧ ∃ y : Sub wr.heap.size wr, w'' = y.w) :=
        sub_call fun w' hb => (psame_any (l[j]).1 S S' ap cp bp op ap' cp' bp' op' w' hh (liesP_keep (fun b h => (hb.block b (Nat.lt_of_lt_of_le (hS b h) hzr)).trans (kb b h)) (fun _ h => h) hlp) hh' (liesP_keep (fun b h => (hb.block b (Nat.lt_of_lt_of_le (hS' b h) hzr)).trans (kb' b h)) (fun _ h => h) hlp') (fun b h => Nat.lt_of_lt_of_le (Nat.lt_of_lt_of_le (hS b h) hzr) hb.size) (fun b h => Nat.lt_of_lt_of_le (Nat.lt_of_lt_of_le (hS' b h) hzr) hb.size)).mono fun e w'' ⟨he, h2⟩ => ⟨he, hb.trans (h2.mono hb.size)⟩
      have C13 : Hid (∀ x : Sub wr.heap.size wr, Calls Tryz.prog 13 #[.agg is.toArray, .agg is'.toArray, .int .i64 0] x.w fun e w'' => e = .returned (.bool true) ∧ ∃ y : Sub wr.heap.size wr, w'' = y.w) :=
        sub_call fun w' hb => (vsame_any (l[j]).2 0 S S' is is' w' (by omega) (by omega) (V.lies_keep (fun h => h) (fun b h => (hb.block b (Nat.lt_of_lt_of_le (hS b h) hzr)).trans (kb b h)) (fun _ h => h) _ hv) (V.lies_keep (fun h => h) (fun b h => (hb.block b (Nat.lt_of_lt_of_le (hS' b h) hzr)).trans (kb' b h)) (fun _ h => h) _ hv') (fun b h => Nat.lt_of_lt_of_le (Nat.lt_of_lt_of_le (hS b h) hzr) hb.size) (fun b h => Nat.lt_of_lt_of_le (Nat.lt_of_lt_of_le (hS' b h) hzr) hb.size)).mono fun e w'' ⟨he, h2⟩ => ⟨he, hb.trans (h2.mono hb.size)⟩
      obtain ⟨vk, vb, vi, vs, val, vnl, vcl, vam, vnm, vcm, rfl⟩ := V.ten hv
      obtain ⟨uk, ub, ui, us, ual, unl, ucl, uam, unm, ucm, rfl⟩ := V.ten hv'
      obtain ⟨q, q0, q1, q2, q3, q4, q5⟩ := row7 (hrow.keep (kb _ hSb))
      obtain ⟨r, r0, r1, r2, r3, r4, r5⟩ := row7 (hrow2.keep (kb' _ hSb'))
      have zb := Nat.lt_of_lt_of_le (hS _ hSb) hzr
      have zb' := Nat.lt_of_lt_of_le (hS' _ hSb') hzr
      have xq : ∀ x : Sub wr.heap.size wr, _ := sub_cell q zb
      have xq0 : ∀ x : Sub wr.heap.size wr, _ := sub_cell q0 zb
      have xq1 : ∀ x : Sub wr.heap.size wr, _ := sub_cell q1 zb
      have xq2 : ∀ x : Sub wr.heap.size wr, _ := sub_cell q2 zb
      have xq3 : ∀ x : Sub wr.heap.size wr, _ := sub_cell q3 zb
      have xq4 : ∀ x : Sub wr.heap.size wr, _ := sub_cell q4 zb
      have xq5 : ∀ x : Sub wr.heap.size wr, _ := sub_cell q5 zb
      have xr : ∀ x : Sub wr.heap.size wr, _ := sub_cell r zb'
      have xr0 : ∀ x : Sub wr.heap.size wr, _ := sub_cell r0 zb'
      have xr1 : ∀ x : Sub wr.heap.size wr, _ := sub_cell r1 zb'
      have xr2 : ∀ x : Sub wr.heap.size wr, _ := sub_cell r2 zb'
      have xr3 : ∀ x : Sub wr.heap.size wr, _ := sub_cell r3 zb'
      have xr4 : ∀ x : Sub wr.heap.size wr, _ := sub_cell r4 zb'
      have xr5 : ∀ x : Sub wr.heap.size wr, _ := sub_cell r5 zb'
      clear hrow hrow2 hlp hlp' hv hv' kb kb' q q0 q1 q2 q3 q4 q5 r r0 r1 r2 r3 r4 r5
      go_wp2_with fail
      refine wp_region_sub wr.heap.size (by kernel_rfl) (by kernel_rfl) ?_
      repeat (go_big_quiet_step (first | exact C23.out _ | exact C13.out _))
      refine wpQuiet_nil ?_
      rintro wq ⟨⟨wq', bq⟩, hq⟩
      have hq' : wq = wq' := hq
      subst hq'
      clear hq
      have HB := hmk (bj.trans (bq.mono hzr))
      go_wp2_with fail
      go_roundw
      case rel => exact ⟨j + 1, by omega, by go_num, HB.out⟩
      case measure => simp [RowKit.intOf]; omega
    · obtain rfl : j = l.length := by omega
      have y1 : ¬ (l.length : Int) < l.length := by omega
      go_wp2_with fail
      go_ret
      exact ⟨rfl, bj⟩
/-- leaves at paths that rise -/
structure Rl (l : List Lf) : Prop where
  ok : ∀ (j : Nat) (h : j < l.length), pathB (l[j]).1 = true
  up : ∀ (j : Nat) (h : j + 1 < l.length), lexL oeE (l[j]).1 (l[j + 1]).1 < 0
def RiPost (l : List Lf) (w : World) (e : Ending) (w' : World) : Prop := ∃ r, e = .returned (.bool r) ∧ (r = true → Rl l) ∧ Below w.heap.size w w'
theorem cmpP_oe {a b : List El} (ha : pathB a = true) (hb : pathB b = true) : cmpP a b = lexL oeE a b := by
  rw [cmpP_yes ha hb]
  exact (op_rp (pathB_all ha).2 (pathB_all hb).2).symm
set_option maxHeartbeats 4000000 in
set_option maxRecDepth 100000 in
theorem lrising_any (l : List Lf) (S : Nat → Prop) (al : Option Addr) (cl bl ol : Nat) (w : World) (hal : Headed al l.length cl bl ol) (hl : liesF w S l bl ol) (hS : ∀ b, S b → b < w.heap.size) (hwt : wtF l ≤ 2147483647) :
    Calls Tryz.prog 8 #[.slice al l.length cl] w (RiPost l w) := by
  have HL := hmk hl
  have hll : l.length ≤ 9223372036854775807 := Nat.le_trans hal.le hal.max
  clear hl
  go_enter Tryz.func8, Tryz.ntmps8
  go_wp2_with fail
  go_loopw [3] (fun e wr => ∃ j : Nat, j ≤ l.length ∧ e = .int .i64 (j : Int) ∧ Below w.heap.size w wr ∧ Hid (∀ (q : Nat) (h : q < l.length), q < j → pathB (l[q]).1 = true) ∧ Hid (∀ (q : Nat) (h : q + 1 < l.length), q + 1 < j → lexL oeE (l[q]).1 (l[q + 1]).1 < 0)) (fun e _ => l.length - (RowKit.intOf e).toNat)
  case atStart => exact ⟨0, by omega, rfl, Below.refl _ _, fun q h hq => by omega, fun q h hq => by omega⟩
  case round =>
    obtain ⟨j, hj, rfl, bj, HQ, HU⟩ := hrel
    have hzr := bj.size
    by_cases hjl : j < l.length
    · have y1 : (j : Int) < l.length := by omega
      obtain ⟨hSb, cs, hrow, v, is, rfl, ⟨ap, cp, bp, op, rfl, hh, hlp⟩, hv⟩ := HL.out j hjl
      obtain rfl : al = some ⟨bl, ol, none⟩ := hal.at_.resolve_left (by omega)
      have kb : ∀ b, S b → wr.heap[b]? = w.heap[b]? := fun b hb => bj.block b (hS b hb)
      have KB : Hid (∀ w', Below wr.heap.size wr w' → (∀ b, S b → w'.heap[b]? = w.heap[b]?) ∧ (∀ b, S b → b < w'.heap.size)) := fun w' hb => ⟨fun b h => (hb.block b (Nat.lt_of_lt_of_le (hS b h) hzr)).trans (kb b h), fun b h => Nat.lt_of_lt_of_le (Nat.lt_of_lt_of_le (hS b h) hzr) hb.size⟩
      have hwj := (Lf.wt_path (List.getElem_mem hjl)).1
      have C27 : Hid (∀ x : Sub wr.heap.size wr, Calls Tryz.prog 27 #[.slice ap (l[j]).1.length cp] x.w fun e w'' => e = .returned (.int .i64 ((errP (l[j]).1 : Nat) : Int)) ∧ ∃ y : Sub wr.heap.size wr, w'' = y.w) :=
        sub_call fun w' hb => (rpcheck_any (l[j]).1 S ap cp bp op w' hh (liesP_keep (KB.out w' hb).1 (fun _ h => h) hlp) (KB.out w' hb).2 (by omega)).mono fun e w'' ⟨he, h2⟩ => ⟨he, hb.trans (h2.mono hb.size)⟩
      obtain ⟨vk, vb, vi, vs, val, vnl, vcl, vam, vnm, vcm, rfl⟩ := V.ten hv
      obtain ⟨q, q0, q1, q2, q3, q4, q5⟩ := row7 (hrow.keep (kb _ hSb))
      have zb := Nat.lt_of_lt_of_le (hS _ hSb) hzr
      have xq : ∀ x : Sub wr.heap.size wr, _ := sub_cell q zb
      have HP := hmk hlp
      clear hrow hv hlp q q0 q1 q2 q3 q4 q5
      cases hB : pathB (l[j]).1 with
      | false =>
        have e90 : errP (l[j]).1 = 90 := by rw [errP, hB]; rfl
        rw [e90] at C27
        clear e90
        go_wp2_with fail
        refine wp_region_sub wr.heap.size (by kernel_rfl) (by kernel_rfl) ?_
        repeat (go_big_quiet_step (first | exact C27.out _))
        refine wpQuiet_nil ?_
        rintro wq ⟨⟨wq', bq⟩, hq⟩
        have hq' : wq = wq' := hq
        subst hq'
        clear hq
        have HB := hmk (bj.trans (bq.mono hzr))
        go_wp2_with fail
        go_ret
        exact ⟨false, rfl, (fun h => Bool.noConfusion h), HB.out⟩
      | true =>
        have e0 : errP (l[j]).1 = 0 := by rw [errP, hB]; rfl
        rw [e0] at C27
        have HN : Hid (∀ (q : Nat) (h : q < l.length), q < j + 1 → pathB (l[q]).1 = true) := fun q h h' => by
          by_cases e : q = j
          · subst e; exact hB
          · exact HQ.out q h (by omega)
        have HPB := hmk hB
        clear e0 hB
        by_cases hj0 : j = 0
        · subst hj0
          have xq0 : ∀ x : Sub wr.heap.size wr, x.w.cell? ⟨bl, ol, none⟩ = some (.slice ap (l[0]).1.length cp) := fun x => by have h := xq x; simpa using h
          clear xq
          go_wp2_with fail
          refine wp_region_sub wr.heap.size (by kernel_rfl) (by kernel_rfl) ?_
          repeat (go_big_quiet_step (first | exact C27.out _))
          refine wpQuiet_nil ?_
          rintro wq ⟨⟨wq', bq⟩, hq⟩
          have hq' : wq = wq' := hq
          subst hq'
          clear hq
          have HB := hmk (bj.trans (bq.mono hzr))
          go_wp2_with fail
          go_roundw
          case rel => exact ⟨0 + 1, by omega, by go_num, HB.out, HN, fun q h hq => by omega⟩
          case measure => simp [RowKit.intOf]; omega
        · obtain ⟨i, rfl⟩ : ∃ i, j = i + 1 := ⟨j - 1, by omega⟩
          have yd : decide ((0 : Int) < ((i + 1 : Nat) : Int)) = true := decide_eq_true (by omega)
          have yk : decide (0 < i + 1) = true := by simp
          have yz : (0 : Int) < ((i + 1 : Nat) : Int) := by omega
          have wi : IntKind.i64.wrap (((i + 1 : Nat) : Int) - 1) = (i : Int) := by rw [IntWalk.i64_in _ (by omega)]; omega
          have yi : (i : Int) < l.length := by omega
          have yi0 : (0 : Int) ≤ i := by omega
          have hil : i < l.length := by omega
          obtain ⟨_, cs2, hrow2, v2, is2, rfl, ⟨ap2, cp2, bp2, op2, rfl, hh2, hlp2⟩, hv2⟩ := HL.out i hil
          obtain ⟨uk, ub, ui, us, ual, unl, ucl, uam, unm, ucm, rfl⟩ := V.ten hv2
          obtain ⟨r, r0, r1, r2, r3, r4, r5⟩ := row7 (hrow2.keep (kb _ hSb))
          have xr : ∀ x : Sub wr.heap.size wr, _ := sub_cell r zb
          have hwi := (Lf.wt_path (List.getElem_mem hil)).1
          have C28 : Hid (∀ x : Sub wr.heap.size wr, Calls Tryz.prog 28 #[.slice ap2 (l[i]).1.length cp2, .slice ap (l[i + 1]).1.length cp] x.w fun e w'' => e = .returned (.int .i64 (lexL oeE (l[i]).1 (l[i + 1]).1)) ∧ ∃ y : Sub wr.heap.size wr, w'' = y.w) :=
            sub_call fun w' hb => by
              have h := rcmpP_any (l[i]).1 (l[i + 1]).1 S S ap2 cp2 bp2 op2 ap cp bp op w' hh2 (liesP_keep (KB.out w' hb).1 (fun _ h => h) hlp2) hh (liesP_keep (KB.out w' hb).1 (fun _ h => h) HP.out) (KB.out w' hb).2 (KB.out w' hb).2 (by omega) (by omega)
              rw [cmpP_oe (HQ.out i hil (by omega)) HPB.out] at h
              exact h.mono fun e w'' ⟨he, h2⟩ => ⟨he, hb.trans (h2.mono hb.size)⟩
          generalize hcm : lexL oeE (l[i]).1 (l[i + 1]).1 = cm at *
          have HCM := hmk hcm
          clear hrow2 hv2 hlp2 r r0 r1 r2 r3 r4 r5 hcm kb
          by_cases hneg : cm < 0
          · have yg : ¬ (0 : Int) ≤ cm := by omega
            have HN2 : Hid (∀ (q : Nat) (h : q + 1 < l.length), q + 1 < i + 1 + 1 → lexL oeE (l[q]).1 (l[q + 1]).1 < 0) := fun q h h' => by
              by_cases e : q = i
              · subst e; rw [HCM.out]; exact hneg
              · exact HU.out q h (by omega)
            clear hneg
            go_wp2_with fail
            refine wp_region_sub wr.heap.size (by kernel_rfl) (by kernel_rfl) ?_
            repeat (go_big_quiet_step (first | exact C27.out _ | exact C28.out _))
            refine wpQuiet_nil ?_
            rintro wq ⟨⟨wq', bq⟩, hq⟩
            have hq' : wq = wq' := hq
            subst hq'
            clear hq
            have HB := hmk (bj.trans (bq.mono hzr))
            go_wp2_with fail
            go_roundw
            case rel => exact ⟨i + 1 + 1, by omega, by go_num, HB.out, HN, HN2⟩
            case measure => simp [RowKit.intOf]; omega
          · have yg : (0 : Int) ≤ cm := by omega
            go_wp2_with fail
            refine wp_region_sub wr.heap.size (by kernel_rfl) (by kernel_rfl) ?_
            repeat (go_big_quiet_step (first | exact C27.out _ | exact C28.out _))
            refine wpQuiet_nil ?_
            rintro wq ⟨⟨wq', bq⟩, hq⟩
            have hq' : wq = wq' := hq
            subst hq'
            clear hq
            have HB := hmk (bj.trans (bq.mono hzr))
            go_wp2_with fail
            go_ret
            exact ⟨false, rfl, (fun h => Bool.noConfusion h), HB.out⟩
    · obtain rfl : j = l.length := by omega
      have y1 : ¬ (l.length : Int) < l.length := by omega
      go_wp2_with fail
      go_ret
      exact ⟨true, rfl, fun _ => ⟨fun j h => HQ.out j h h, fun j h => HU.out j h h⟩, bj⟩
end Go.Proofs.YtfekgeaopchilaaGreatDoor
/- Rows of leaves that are made of others: what is appended lies where it lay, or in new memory. -/
namespace Go.Proofs.YtfekgeaopchilaaGreatDoor
open Go.RowKit Go.Lib
structure OutF (w : World) (S : Nat → Prop) (l : List Lf) (v : Value) (W : World) : Prop where
  b : Below w.heap.size w W
  o : ∃ SP, OwnF W 0 SP v l ∧ ∀ b, SP b → S b ∨ w.heap.size ≤ b
  f : ∀ r, v.ownBlock = some r → w.heap.size ≤ r
theorem OutF.nil (w : World) (S : Nat → Prop) : OutF w S [] (.slice none 0 0) w := ⟨Below.refl _ _, ⟨_, OwnR.nil _ _, fun b h => h.elim⟩, fun r h => by simp [Value.ownBlock] at h⟩
theorem OutF.below {w W W' : World} {S : Nat → Prop} {l : List Lf} {v : Value} (h : OutF w S l v W) (b : Below W.heap.size W W') : OutF w S l v W' := by
  obtain ⟨SP, o, hs⟩ := h.o
  exact ⟨h.b.trans (b.mono h.b.size), ⟨SP, o.below keepF b, hs⟩, h.f⟩
theorem OutF.list {w W : World} {S : Nat → Prop} {l : List Lf} {v : Value} (h : OutF w S l v W) : ∃ a c b o, v = .slice a l.length c ∧ Headed a l.length c b o ∧ liesF W (Tw S w W) l b o := by
  obtain ⟨SP, o, hs⟩ := h.o
  exact own_listF o (fun b hb => (hs b hb).imp id (fun h => ⟨h, (o.off b hb).2.1⟩)) (fun g hg => .inr ⟨h.f g hg, (o.lt hg).2⟩)
theorem infoF' : ∃ i0, Tryz.prog.info? 50 = some i0 ∧ i0.zero = some (.agg #[.slice none 0 0, .int .i64 0, .bool false, .int .i64 0, .string ⟨#[]⟩, .slice none 0 0, .slice none 0 0]) ∧ i0.size = 7 ∧ i0.bytes = 112 := by
  obtain ⟨i0, hi0, hz0, hz1, hz2⟩ := info_parts infoF
  exact ⟨i0, hi0, hz0, hz1, hz2⟩
theorem Lf.seven {w : World} {S : Nat → Prop} {x : Lf} {cs : List Value} (h : Lf.lies w S x cs) : cs.length = 7 ∧ ∀ u ∈ cs, u.oneCell' = true := by
  obtain ⟨v, is, rfl, ⟨ap, cp, bp, op, rfl, _⟩, hv⟩ := h
  obtain ⟨vk, vb, vi, vs, val, vnl, vcl, vam, vnm, vcm, rfl⟩ := V.ten hv
  exact ⟨rfl, oneF⟩
theorem OutF.step {w W : World} {S T : Nat → Prop} {l : List Lf} {v : Value} {y : Lf} {cs : List Value} (h : OutF w S l v W) (hS : ∀ b, S b → b < w.heap.size) (hl : Lf.lies W T y cs) (hT : ∀ b, T b → S b ∨ (w.heap.size ≤ b ∧ b < W.heap.size ∧ some b ≠ v.ownBlock)) (c : Nat) :
    ∃ SP Sx, OwnF (W.alloc (.cells cs.toArray 50)) 0 SP v l ∧ EF y (W.alloc (.cells cs.toArray 50)) Sx cs ∧ (∀ b, Sx b → 0 ≤ b ∧ b < (W.alloc (.cells cs.toArray 50)).heap.size ∧ some b ≠ v.ownBlock) ∧
      ∀ g cap w', OwnF w' 0 (fun b => SP b ∨ Sx b) (.slice (some ⟨g, 0, none⟩) (l.length + 1) cap) (l ++ [y]) → (W.alloc (.cells cs.toArray 50)).grownBy w' v.ownBlock → (v.ownBlock = some g ∨ (W.alloc (.cells cs.toArray 50)).heap.size ≤ g) → OutF w S (l ++ [y]) (.slice (some ⟨g, 0, none⟩) (l.length + 1) cap) w' := by
  obtain ⟨SP, o, hs⟩ := h.o
  have ba : Below W.heap.size W (W.alloc (.cells cs.toArray 50)) := (Below.refl _ _).alloc (Nat.le_refl _) _
  have hzb := h.b.size
  have hza := ba.size
  have hlt : ∀ b, T b → b < W.heap.size ∧ some b ≠ v.ownBlock := fun b hb => by
    rcases hT b hb with h1 | h1
    · have h2 := hS b h1
      exact ⟨by omega, fun e => by have := h.f b e.symm; omega⟩
    · exact h1.2
  refine ⟨SP, T, o.alloc keepF _, Lf.keep (fun b hb => ba.block b (hlt b hb).1) (fun _ h => h) hl, fun b hb => ⟨Nat.zero_le _, by have := (hlt b hb).1; omega, (hlt b hb).2⟩, fun g cap w' o' gr e => ⟨(h.b.trans (ba.mono hzb)).grown gr (by omega) (fun r e => h.f r e), ⟨_, o', fun b hb => hb.elim (fun h => hs b h) (fun h => (hT b h).imp id (fun h => h.1))⟩, fun r hr => by
    have hr' : g = r := by simpa [Value.ownBlock] using hr
    subst hr'
    rcases e with e | e
    · exact h.f g e
    · omega⟩⟩
section
variable {P : Program}
theorem wpl_outF {ops : Array Oper} {rest : List Oper} {o : Oper} {a : Act} {Q : Exit → Act → World → Prop} (hgd : o.guard = none) (s x : Operand)
    (ho : o.op = .call { callee := .builtin .append, args := #[s, x], argTypes := #[22, 22] })
    {w W : World} {S T : Nat → Prop} {l : List Lf} (v : Value) {y : Lf} {cs : List Value} (hs : a.eval s = v) (h : OutF w S l v W) (hS : ∀ b, S b → b < w.heap.size) (hl : Lf.lies W T y cs) (hT : ∀ b, T b → S b ∨ (w.heap.size ≤ b ∧ b < W.heap.size ∧ some b ≠ v.ownBlock))
    (c : Nat) (hx : a.eval x = .slice (some ⟨W.heap.size, 0, none⟩) 1 c) (hlen : l.length ≤ 4294967296)
    (k : ∀ g cap w', OutF w S (l ++ [y]) (.slice (some ⟨g, 0, none⟩) (l.length + 1) cap) w' → wpList Tryz.prog ops Q rest (a.put o.dst (.slice (some ⟨g, 0, none⟩) (l.length + 1) cap)) w') : wpList Tryz.prog ops Q (o :: rest) a (W.alloc (.cells cs.toArray 50)) := by
  obtain ⟨i0, h0, h1, h2, h3⟩ := infoF'
  obtain ⟨SP, Sx, o1, e1, hx1, k1⟩ := h.step hS hl hT c
  refine wpl_push keepF _ hgd s x 22 ho 0 i0 _ 112 Tryz.underlying22 h0 h1 h2 h3 rfl (by decide) (by decide) v y hs o1 W.heap.size c (0, 0) hx (heap_alloc_new W _) (Lf.seven hl).1 (Lf.seven hl).2 e1 hx1 hlen (Nat.zero_le _) ?_
  intro g cap w' o' gr e
  exact k g cap w' (k1 g cap w' o' gr e)
end
end Go.Proofs.YtfekgeaopchilaaGreatDoor
/- anewScalar: a scalar without its lists. -/
namespace Go.Proofs.YtfekgeaopchilaaGreatDoor
open Go.RowKit Go.Lib
def AsPost (k : Int) (b : Bool) (i : Int) (s : ByteArray) (w : World) (e : Ending) (w' : World) : Prop := e = .returned (.agg #[.int .i64 k, .bool b, .int .i64 i, .string s, .slice none 0 0, .slice none 0 0]) ∧ Below w.heap.size w w'
set_option maxHeartbeats 1600000 in
set_option maxRecDepth 100000 in
theorem anscal_any (k : Int) (b : Bool) (i : Int) (s : ByteArray) (al : Option Addr) (nl cl : Nat) (am : Option Addr) (nm cm : Nat) (w : World) :
    Calls Tryz.prog 80 #[.agg #[.int .i64 k, .bool b, .int .i64 i, .string s, .slice al nl cl, .slice am nm cm]] w (AsPost k b i s w) := by
  have B0 : Below w.heap.size w ((w.alloc (.cells #[.int .i64 k, .bool b, .int .i64 i, .string s, .slice al nl cl, .slice am nm cm] 33)).alloc (.cells #[.int .i64 0, .bool false, .int .i64 0, .string ⟨#[]⟩, .slice none 0 0, .slice none 0 0] 33)) := ((Below.refl w.heap.size w).alloc (Nat.le_refl _) _).alloc (by rw [alloc_size]; omega) _
  have HB := hmk B0
  clear B0
  go_enter Tryz.func80, Tryz.ntmps80
  go_wp2_with fail
  (try simp only [Exit.inBlock, Exit.then])
  refine bodyPost_ret (v := .agg #[.int .i64 k, .bool b, .int .i64 i, .string s, .slice none 0 0, .slice none 0 0]) ?_ rfl ?_
  · rw [results_cell1 rfl]
    go_simp
  · refine ⟨rfl, ?_⟩
    first
      | exact HB.out
      | exact ((Below.refl w.heap.size w).alloc (Nat.le_refl _) _).alloc (by rw [alloc_size]; omega) _
      | (repeat (refine Below.setCell ?_ (by simp) _)
         exact HB.out)
end Go.Proofs.YtfekgeaopchilaaGreatDoor
