/- joined: SamA GodC -/
import Derived.Test.YthgfomblodhoaaaDoorG10
/- same. -/
set_option linter.unusedSimpArgs false
set_option linter.unusedVariables false
namespace Go.Proofs.YthgfomblodhoaaaDoor
open Go.RowKit
mutual
/-- the same, field by field -/
def V.eqB : V → V → Bool
  | .mk k b i s l m, .mk k' b' i' s' l' m' => decide (k = k') && decide (b = b') && decide (i = i') && (s.toList == s'.toList) && decide (l.length = l'.length) && decide (m.length = m'.length) && eqL l l' && eqM m m'
def eqL : List V → List V → Bool
  | x :: t, y :: u => V.eqB x y && eqL t u
  | _, _ => true
def eqM : List Mem → List Mem → Bool
  | (k, x) :: t, (k', y) :: u => (k.toList == k'.toList) && V.eqB x y && eqM t u
  | _, _ => true
end
mutual
theorem V.eqB_refl : ∀ v : V, V.eqB v v = true
  | .mk k b i s l m => by rw [V.eqB, eqL_refl l, eqM_refl m]; simp
theorem eqL_refl : ∀ l : List V, eqL l l = true
  | [] => by rw [eqL]; intros; simp_all
  | x :: t => by rw [eqL, V.eqB_refl x, eqL_refl t]; rfl
theorem eqM_refl : ∀ l : List Mem, eqM l l = true
  | [] => by rw [eqM]; intros; simp_all
  | (k, x) :: t => by rw [eqM, V.eqB_refl x, eqM_refl t]; simp
end
theorem eqL_drop {l l' : List V} (hl : l.length = l'.length) {j : Nat} (h : j < l.length) : eqL (l.drop j) (l'.drop j) = (V.eqB l[j] (l'[j]'(by omega)) && eqL (l.drop (j + 1)) (l'.drop (j + 1))) := by
  rw [List.drop_eq_getElem_cons h, List.drop_eq_getElem_cons (show j < l'.length by omega), eqL]
theorem eqM_drop {l l' : List Mem} (hl : l.length = l'.length) {j : Nat} (h : j < l.length) : eqM (l.drop j) (l'.drop j) = (((l[j]).1.toList == (l'[j]'(by omega)).1.toList) && V.eqB (l[j]).2 (l'[j]'(by omega)).2 && eqM (l.drop (j + 1)) (l'.drop (j + 1))) := by
  rw [List.drop_eq_getElem_cons h, List.drop_eq_getElem_cons (show j < l'.length by omega)]
  rcases l[j] with ⟨k, x⟩
  rcases l'[j]'(by omega) with ⟨k', y⟩
  rw [eqM]
theorem sub_call2 {P : Program} {f : FuncId} {args : Array Value} {wr wq : World} {v : Value} (h : ∀ w', Below wr.heap.size wr w' → Calls P f args w' fun e w'' => e = .returned v ∧ Below w'.heap.size w' w'') (bq : Below wr.heap.size wr wq) (x : Sub wq.heap.size wq) :
    Calls P f args x.w fun e w'' => e = .returned v ∧ ∃ y : Sub wq.heap.size wq, w'' = y.w :=
  sub_call (fun w' hb => (h w' (bq.trans (hb.mono bq.size))).mono fun e w'' ⟨he, h2⟩ => ⟨he, hb.trans (h2.mono hb.size)⟩) x
theorem bytes_eq {a b : ByteArray} (h : a.toList = b.toList) : a = b := by
  rw [ByteArray.toList_eq, ByteArray.toList_eq] at h
  exact Go.WideShapes.bytes_inj h
set_option maxHeartbeats 4000000 in
set_option maxRecDepth 100000 in
theorem same_any (a : V) : ∀ (R R' : Bool) (b : V) (S S' : Nat → Prop) (cs ds : List Value) (w : World), a.lies R w S cs → b.lies R' w S' ds → (∀ x, S x → x < w.heap.size) → (∀ x, S' x → x < w.heap.size) →
    Calls Tryd.prog 13 #[.agg cs.toArray, .agg ds.toArray] w (BPost (V.eqB a b) w) := by
  induction a using V.ind_v with
  | h k b i s l m ihl ihm =>
  intro R R' v' S S' cs ds w hl hl' hS hS'
  obtain ⟨k', b', i', s', l', m'⟩ := v'
  rw [V.lies] at hl hl'
  obtain ⟨al, cl, bl, ol, am, cm, bm, om, rfl, hk, hi, hs, hal, ham, hl1, hm1, _⟩ := hl
  obtain ⟨al', cl', bl', ol', am', cm', bm', om', rfl, hk', hi', hs', hal', ham', hl1', hm1', _⟩ := hl'
  have HL : Hid (liesL R w S l bl ol) := hl1
  have HM : Hid (liesM R w S m bm om) := hm1
  have HL' : Hid (liesL R' w S' l' bl' ol') := hl1'
  have HM' : Hid (liesM R' w S' m' bm' om') := hm1'
  clear hl1 hm1 hl1' hm1'
  have HE : Hid (V.eqB (.mk k b i s l m) (.mk k' b' i' s' l' m') = (decide (k = k') && decide (b = b') && decide (i = i') && (s.toList == s'.toList) && decide (l.length = l'.length) && decide (m.length = m'.length) && eqL l l' && eqM m m')) := by show _ = _; rw [V.eqB]
  generalize V.eqB (.mk k b i s l m) (.mk k' b' i' s' l' m') = RR at *
  by_cases hh : k = k' ∧ b = b' ∧ i = i' ∧ s.toList = s'.toList ∧ l.length = l'.length ∧ m.length = m'.length
  case neg =>
    have HH : Hid (¬ (k = k' ∧ b = b' ∧ i = i' ∧ s.toList = s'.toList ∧ l.length = l'.length ∧ m.length = m'.length)) := hh
    have HF : Hid (RR = false) := by
      show _ = _
      rw [HE.out]
      cases hx : (decide (k = k') && decide (b = b') && decide (i = i') && (s.toList == s'.toList) && decide (l.length = l'.length) && decide (m.length = m'.length))
      · rfl
      · exfalso
        simp only [Bool.and_eq_true, decide_eq_true_eq, beq_iff_eq] at hx
        exact hh ⟨hx.1.1.1.1.1, hx.1.1.1.1.2, hx.1.1.1.2, hx.1.1.2, hx.1.2, hx.2⟩
    clear hh HE
    go_enter Tryd.func13, Tryd.ntmps13
    go_wp2_with fail
    all_goals first
      | (go_ret; exact ⟨by rw [HF.out]; rfl, two_below w _ _⟩)
      | (exfalso; refine HH.out ⟨by assumption, by assumption, by assumption, by assumption, by omega, ?_⟩; simp_all; done)
      | (exfalso; refine HH.out ⟨by assumption, by assumption, by assumption, by assumption, by omega, ?_⟩; simp_all; omega)
  obtain ⟨rfl, rfl, rfl, h4, h5, h6⟩ := hh
  obtain rfl := bytes_eq h4
  have HE' : Hid (RR = (eqL l l' && eqM m m')) := by show _ = _; rw [HE.out]; simp [h5, h6]
  have y5 : ((l.length : Int) != (l'.length : Int)) = false := by rw [bne_eq_false_iff_eq]; omega
  have y6 : ((m.length : Int) != (m'.length : Int)) = false := by rw [bne_eq_false_iff_eq]; omega
  have hll : l.length ≤ 9223372036854775807 := Nat.le_trans hal.le hal.max
  have hml : m.length ≤ 9223372036854775807 := Nat.le_trans ham.le ham.max
  clear h4 HE
  have H5 : Hid (l.length = l'.length) := h5
  have H6 : Hid (m.length = m'.length) := h6
  clear h5 h6
  have hb0 := box_row w [.int .i64 k, .bool b, .int .i64 i, .string s, .slice al l.length cl, .slice am m.length cm] 25
  have hb1 : rowAt ((w.alloc (.cells #[.int .i64 k, .bool b, .int .i64 i, .string s, .slice al l.length cl, .slice am m.length cm] 25)).alloc (.cells #[.int .i64 k, .bool b, .int .i64 i, .string s, .slice al' l'.length cl', .slice am' m'.length cm'] 25)) w.heap.size 0 [.int .i64 k, .bool b, .int .i64 i, .string s, .slice al l.length cl, .slice am m.length cm] := hb0.keep (Below.heap_alloc _ _ _ (by rw [alloc_size]; omega))
  have hb2 : rowAt ((w.alloc (.cells #[.int .i64 k, .bool b, .int .i64 i, .string s, .slice al l.length cl, .slice am m.length cm] 25)).alloc (.cells #[.int .i64 k, .bool b, .int .i64 i, .string s, .slice al' l'.length cl', .slice am' m'.length cm'] 25)) (w.heap.size + 1) 0 [.int .i64 k, .bool b, .int .i64 i, .string s, .slice al' l'.length cl', .slice am' m'.length cm'] := by
    have := box_row (w.alloc (.cells #[.int .i64 k, .bool b, .int .i64 i, .string s, .slice al l.length cl, .slice am m.length cm] 25)) [.int .i64 k, .bool b, .int .i64 i, .string s, .slice al' l'.length cl', .slice am' m'.length cm'] 25
    rwa [alloc_size] at this
  have B0 := two_below w (.cells #[.int .i64 k, .bool b, .int .i64 i, .string s, .slice al l.length cl, .slice am m.length cm] 25) (.cells #[.int .i64 k, .bool b, .int .i64 i, .string s, .slice al' l'.length cl', .slice am' m'.length cm'] 25)
  have hz0 : ((w.alloc (.cells #[.int .i64 k, .bool b, .int .i64 i, .string s, .slice al l.length cl, .slice am m.length cm] 25)).alloc (.cells #[.int .i64 k, .bool b, .int .i64 i, .string s, .slice al' l'.length cl', .slice am' m'.length cm'] 25)).heap.size = w.heap.size + 1 + 1 := by rw [alloc_size, alloc_size]
  clear hb0
  go_enter Tryd.func13, Tryd.ntmps13
  go_wp2_with fail
  generalize ((w.alloc (.cells #[.int .i64 k, .bool b, .int .i64 i, .string s, .slice al l.length cl, .slice am m.length cm] 25)).alloc (.cells #[.int .i64 k, .bool b, .int .i64 i, .string s, .slice al' l'.length cl', .slice am' m'.length cm'] 25)) = w0 at *
  go_loopw [5] (fun e wr => ∃ j : Nat, j ≤ l.length ∧ e = .int .i64 (j : Int) ∧ Below w0.heap.size w0 wr ∧ Hid (eqL l l' = eqL (l.drop j) (l'.drop j))) (fun e _ => l.length - (RowKit.intOf e).toNat)
  case atStart => exact ⟨0, by omega, rfl, Below.refl _ _, rfl⟩
  case round =>
    obtain ⟨j, hj, rfl, bj, HJ⟩ := hrel
    obtain ⟨d0, d1, d2, d3, d4, d5⟩ := row6z (hb1.keep (bj.block _ (by omega)))
    obtain ⟨f0, f1, f2, f3, f4, f5⟩ := row6z (hb2.keep (bj.block _ (by omega)))
    by_cases hjl : j < l.length
    · have y1 : (j : Int) < l.length := by omega
      have hjl' : j < l'.length := by have := H5.out; omega
      have y2 : (j : Int) < l'.length := by omega
      obtain ⟨hSb, csj, hrow, hlj⟩ := liesL_get HL.out j hjl
      obtain ⟨hSb', dsj, hrow', hlj'⟩ := liesL_get HL'.out j hjl'
      obtain rfl : al = some ⟨bl, ol, none⟩ := hal.at_.resolve_left (by omega)
      obtain rfl : al' = some ⟨bl', ol', none⟩ := hal'.at_.resolve_left (by omega)
      have hk0 : ∀ x, S x → wr.heap[x]? = w.heap[x]? := fun x hx => (bj.block x (by have := hS x hx; omega)).trans (B0.block x (hS x hx))
      have hk1 : ∀ x, S' x → wr.heap[x]? = w.heap[x]? := fun x hx => (bj.block x (by have := hS' x hx; omega)).trans (B0.block x (hS' x hx))
      obtain ⟨ek, eb, ei, es, eal, enl, ecl, eam, enm, ecm, rfl⟩ := V.ten hlj
      obtain ⟨ek', eb', ei', es', eal', enl', ecl', eam', enm', ecm', rfl⟩ := V.ten hlj'
      have rw0 := row6 (hrow.keep (hk0 _ hSb))
      have rw1 := row6 (hrow'.keep (hk1 _ hSb'))
      have hbl : bl < wr.heap.size := World.block_lt_of_cell? wr _ rw0.1
      have hbl' : bl' < wr.heap.size := World.block_lt_of_cell? wr _ rw1.1
      have hzr := bj.size
      have p0 : ∀ x : Sub wr.heap.size wr, _ := sub_cell rw0.1 hbl
      have p1 : ∀ x : Sub wr.heap.size wr, _ := sub_cell rw0.2.1 hbl
      have p2 : ∀ x : Sub wr.heap.size wr, _ := sub_cell rw0.2.2.1 hbl
      have p3 : ∀ x : Sub wr.heap.size wr, _ := sub_cell rw0.2.2.2.1 hbl
      have p4 : ∀ x : Sub wr.heap.size wr, _ := sub_cell rw0.2.2.2.2.1 hbl
      have p5 : ∀ x : Sub wr.heap.size wr, _ := sub_cell rw0.2.2.2.2.2 hbl
      have q0 : ∀ x : Sub wr.heap.size wr, _ := sub_cell rw1.1 hbl'
      have q1 : ∀ x : Sub wr.heap.size wr, _ := sub_cell rw1.2.1 hbl'
      have q2 : ∀ x : Sub wr.heap.size wr, _ := sub_cell rw1.2.2.1 hbl'
      have q3 : ∀ x : Sub wr.heap.size wr, _ := sub_cell rw1.2.2.2.1 hbl'
      have q4 : ∀ x : Sub wr.heap.size wr, _ := sub_cell rw1.2.2.2.2.1 hbl'
      have q5 : ∀ x : Sub wr.heap.size wr, _ := sub_cell rw1.2.2.2.2.2 hbl'
      have u4 : ∀ x : Sub wr.heap.size wr, _ := sub_cell d4 (by omega)
      have v4 : ∀ x : Sub wr.heap.size wr, _ := sub_cell f4 (by omega)
      have CI : Hid (∀ x : Sub wr.heap.size wr, Calls Tryd.prog 13 #[.agg #[.int .i64 ek, .bool eb, .int .i64 ei, .string es, .slice eal enl ecl, .slice eam enm ecm], .agg #[.int .i64 ek', .bool eb', .int .i64 ei', .string es', .slice eal' enl' ecl', .slice eam' enm' ecm']] x.w fun e w'' => e = .returned (.bool (V.eqB l[j] l'[j])) ∧ ∃ y : Sub wr.heap.size wr, w'' = y.w) :=
        sub_call fun w' hb => by
          refine (ihl l[j] (List.getElem_mem hjl) R R' l'[j] S S' _ _ w' (V.lies_keep (fun h => h) (fun x hx => (hb.block x (by have := hS x hx; omega)).trans (hk0 x hx)) (fun _ h => h) _ hlj) (V.lies_keep (fun h => h) (fun x hx => (hb.block x (by have := hS' x hx; omega)).trans (hk1 x hx)) (fun _ h => h) _ hlj') (fun x hx => by have := hS x hx; have := hb.size; omega) (fun x hx => by have := hS' x hx; have := hb.size; omega)).mono ?_
          rintro e w'' ⟨he, h2⟩
          exact ⟨he, hb.trans (h2.mono hb.size)⟩
      have HD : Hid (eqL l l' = (V.eqB l[j] l'[j] && eqL (l.drop (j + 1)) (l'.drop (j + 1)))) := by show _ = _; rw [HJ.out, eqL_drop H5.out hjl]
      generalize V.eqB l[j] l'[j] = Z at *
      clear hlj hlj' hrow hrow' rw0 rw1 HJ hk0 hk1
      go_wp2_with fail
      refine wp_region_sub wr.heap.size (by kernel_rfl) (by kernel_rfl) ?_
      repeat (go_big_quiet_step (exact CI.out _))
      refine wpQuiet_nil ?_
      rintro _ ⟨⟨wq, bq⟩, rfl⟩
      cases Z
      · have HF : Hid (RR = false) := by show _ = _; rw [HE'.out, HD.out]; rfl
        go_wp2_with fail
        go_ret
        exact ⟨by rw [HF.out]; rfl, B0.trans ((bj.trans (bq.mono hzr)).mono (by omega))⟩
      · have HF : Hid (eqL l l' = eqL (l.drop (j + 1)) (l'.drop (j + 1))) := by show _ = _; rw [HD.out]; rfl
        go_wp2_with fail
        go_roundw
        case rel => exact ⟨j + 1, by omega, by go_num, bj.trans (bq.mono hzr), HF⟩
        case measure => simp [RowKit.intOf]; omega
    · obtain rfl : j = l.length := by omega
      have y1 : ¬ (l.length : Int) < l.length := by omega
      have HM2 : Hid (RR = eqM m m') := by
        show _ = _
        rw [HE'.out, HJ.out, List.drop_length, H5.out, List.drop_length]
        simp [eqL]
      clear HJ HE'
      go_wp2_with fail
      rename World => wA
      go_loopw [7] (fun e wr => ∃ j : Nat, j ≤ m.length ∧ e = .int .i64 (j : Int) ∧ Below w0.heap.size w0 wr ∧ Hid (eqM m m' = eqM (m.drop j) (m'.drop j))) (fun e _ => m.length - (RowKit.intOf e).toNat)
      case atStart => exact ⟨0, by omega, rfl, bj, rfl⟩
      case round =>
        clear bj d0 d1 d2 d3 d4 d5 f0 f1 f2 f3 f4 f5
        obtain ⟨j, hj, rfl, bj, HJ⟩ := hrel
        obtain ⟨d0, d1, d2, d3, d4, d5⟩ := row6z (hb1.keep (bj.block _ (by omega)))
        obtain ⟨f0, f1, f2, f3, f4, f5⟩ := row6z (hb2.keep (bj.block _ (by omega)))
        by_cases hjl : j < m.length
        · have y1 : (j : Int) < m.length := by omega
          have hjl' : j < m'.length := by have := H6.out; omega
          have y2 : (j : Int) < m'.length := by omega
          obtain ⟨hSb, hks, csj, hrow, hlj⟩ := liesM_get HM.out j hjl
          obtain ⟨hSb', hks', dsj, hrow', hlj'⟩ := liesM_get HM'.out j hjl'
          obtain rfl : am = some ⟨bm, om, none⟩ := ham.at_.resolve_left (by omega)
          obtain rfl : am' = some ⟨bm', om', none⟩ := ham'.at_.resolve_left (by omega)
          have hk0 : ∀ x, S x → wr.heap[x]? = w.heap[x]? := fun x hx => (bj.block x (by have := hS x hx; omega)).trans (B0.block x (hS x hx))
          have hk1 : ∀ x, S' x → wr.heap[x]? = w.heap[x]? := fun x hx => (bj.block x (by have := hS' x hx; omega)).trans (B0.block x (hS' x hx))
          obtain ⟨ek, eb, ei, es, eal, enl, ecl, eam, enm, ecm, rfl⟩ := V.ten hlj
          obtain ⟨ek', eb', ei', es', eal', enl', ecl', eam', enm', ecm', rfl⟩ := V.ten hlj'
          have rw0 := row7 (hrow.keep (hk0 _ hSb))
          have rw1 := row7 (hrow'.keep (hk1 _ hSb'))
          have hbl : bm < wr.heap.size := World.block_lt_of_cell? wr _ rw0.1
          have hbl' : bm' < wr.heap.size := World.block_lt_of_cell? wr _ rw1.1
          have hzr := bj.size
          have k0 : ∀ x : Sub wr.heap.size wr, _ := sub_cell rw0.1 hbl
          have k1 : ∀ x : Sub wr.heap.size wr, _ := sub_cell rw1.1 hbl'
          have u5 : ∀ x : Sub wr.heap.size wr, _ := sub_cell d5 (by omega)
          have v5 : ∀ x : Sub wr.heap.size wr, _ := sub_cell f5 (by omega)
          have HD : Hid (eqM m m' = (((m[j]).1.toList == (m'[j]).1.toList) && V.eqB (m[j]).2 (m'[j]).2 && eqM (m.drop (j + 1)) (m'.drop (j + 1)))) := by show _ = _; rw [HJ.out, eqM_drop H6.out hjl]
          have IH := ihm m[j] (List.getElem_mem hjl) R R' (m'[j]).2 S S'
          generalize V.eqB (m[j]).2 (m'[j]).2 = Z at *
          have hS0 := fun (w' : World) (hb : Below wr.heap.size wr w') => V.lies_keep (w' := w') (S' := S) (fun h => h) (fun x hx => (hb.block x (by have := hS x hx; omega)).trans (hk0 x hx)) (fun _ h => h) _ hlj
          have hS1 := fun (w' : World) (hb : Below wr.heap.size wr w') => V.lies_keep (w' := w') (S' := S') (fun h => h) (fun x hx => (hb.block x (by have := hS' x hx; omega)).trans (hk1 x hx)) (fun _ h => h) _ hlj'
          have IC : Hid (∀ w', Below wr.heap.size wr w' → Calls Tryd.prog 13 #[.agg #[.int .i64 ek, .bool eb, .int .i64 ei, .string es, .slice eal enl ecl, .slice eam enm ecm], .agg #[.int .i64 ek', .bool eb', .int .i64 ei', .string es', .slice eal' enl' ecl', .slice eam' enm' ecm']] w' fun e w'' => e = .returned (.bool Z) ∧ Below w'.heap.size w' w'') := fun w' hb =>
            IH _ _ w' (hS0 w' hb) (hS1 w' hb) (fun x hx => by have := hS x hx; have := hb.size; omega) (fun x hx => by have := hS' x hx; have := hb.size; omega)
          generalize (m[j]).1 = key at *
          generalize (m'[j]).1 = key' at *
          clear hlj hlj' hrow hrow' HJ IH hS0 hS1
          by_cases hK : key.toList = key'.toList
          · have yK : (key.toList == key'.toList) = true := by rw [beq_iff_eq]; exact hK
            obtain rfl := bytes_eq hK
            clear hK
            go_wp2_with fail
            refine wp_region_sub wr.heap.size (by kernel_rfl) (by kernel_rfl) ?_
            repeat (go_big_quiet_step (fail))
            refine wpQuiet_nil ?_
            rintro wq ⟨⟨wq', bq⟩, hq⟩
            have hq' : wq = wq' := hq
            subst hq'
            clear hq
            have hzq := bq.size
            have p0 : ∀ x : Sub wq.heap.size wq, _ := sub_cell ((bq.cell (p := ⟨bm, om + j * 7 + 1, none⟩) hbl).trans rw0.2.1) (by omega)
            have p1 : ∀ x : Sub wq.heap.size wq, _ := sub_cell ((bq.cell (p := ⟨bm, om + j * 7 + 2, none⟩) hbl).trans rw0.2.2.1) (by omega)
            have p2 : ∀ x : Sub wq.heap.size wq, _ := sub_cell ((bq.cell (p := ⟨bm, om + j * 7 + 3, none⟩) hbl).trans rw0.2.2.2.1) (by omega)
            have p3 : ∀ x : Sub wq.heap.size wq, _ := sub_cell ((bq.cell (p := ⟨bm, om + j * 7 + 4, none⟩) hbl).trans rw0.2.2.2.2.1) (by omega)
            have p4 : ∀ x : Sub wq.heap.size wq, _ := sub_cell ((bq.cell (p := ⟨bm, om + j * 7 + 5, none⟩) hbl).trans rw0.2.2.2.2.2.1) (by omega)
            have p5 : ∀ x : Sub wq.heap.size wq, _ := sub_cell ((bq.cell (p := ⟨bm, om + j * 7 + 6, none⟩) hbl).trans rw0.2.2.2.2.2.2) (by omega)
            have q0 : ∀ x : Sub wq.heap.size wq, _ := sub_cell ((bq.cell (p := ⟨bm', om' + j * 7 + 1, none⟩) hbl').trans rw1.2.1) (by omega)
            have q1 : ∀ x : Sub wq.heap.size wq, _ := sub_cell ((bq.cell (p := ⟨bm', om' + j * 7 + 2, none⟩) hbl').trans rw1.2.2.1) (by omega)
            have q2 : ∀ x : Sub wq.heap.size wq, _ := sub_cell ((bq.cell (p := ⟨bm', om' + j * 7 + 3, none⟩) hbl').trans rw1.2.2.2.1) (by omega)
            have q3 : ∀ x : Sub wq.heap.size wq, _ := sub_cell ((bq.cell (p := ⟨bm', om' + j * 7 + 4, none⟩) hbl').trans rw1.2.2.2.2.1) (by omega)
            have q4 : ∀ x : Sub wq.heap.size wq, _ := sub_cell ((bq.cell (p := ⟨bm', om' + j * 7 + 5, none⟩) hbl').trans rw1.2.2.2.2.2.1) (by omega)
            have q5 : ∀ x : Sub wq.heap.size wq, _ := sub_cell ((bq.cell (p := ⟨bm', om' + j * 7 + 6, none⟩) hbl').trans rw1.2.2.2.2.2.2) (by omega)
            have u6 : ∀ x : Sub wq.heap.size wq, _ := sub_cell ((bq.cell (p := ⟨w.heap.size, 5, none⟩) (by show w.heap.size < _; omega)).trans d5) (by omega)
            have v6 : ∀ x : Sub wq.heap.size wq, _ := sub_cell ((bq.cell (p := ⟨w.heap.size + 1, 5, none⟩) (by show w.heap.size + 1 < _; omega)).trans f5) (by omega)
            have CI : Hid (∀ x : Sub wq.heap.size wq, Calls Tryd.prog 13 #[.agg #[.int .i64 ek, .bool eb, .int .i64 ei, .string es, .slice eal enl ecl, .slice eam enm ecm], .agg #[.int .i64 ek', .bool eb', .int .i64 ei', .string es', .slice eal' enl' ecl', .slice eam' enm' ecm']] x.w fun e w'' => e = .returned (.bool Z) ∧ ∃ y : Sub wq.heap.size wq, w'' = y.w) := fun x => sub_call2 IC.out bq x
            clear rw0 rw1 k0 k1 u5 v5
            go_wp2_with fail
            refine wp_region_sub wq.heap.size (by kernel_rfl) (by kernel_rfl) ?_
            repeat (go_big_quiet_step (exact CI.out _))
            refine wpQuiet_nil ?_
            rintro _ ⟨⟨wz, bz⟩, rfl⟩
            have bwz := bj.trans ((bq.trans (bz.mono hzq)).mono hzr)
            cases Z
            · have HF : Hid (RR = false) := by show _ = _; rw [HM2.out, HD.out, yK]; rfl
              go_wp2_with fail
              go_ret
              exact ⟨by rw [HF.out]; rfl, B0.trans (bwz.mono (by omega))⟩
            · have HF : Hid (eqM m m' = eqM (m.drop (j + 1)) (m'.drop (j + 1))) := by show _ = _; rw [HD.out, yK]; rfl
              go_wp2_with fail
              go_roundw
              case rel => exact ⟨j + 1, by omega, by go_num, bwz, HF⟩
              case measure => simp [RowKit.intOf]; omega
          · have yK : (key.toList == key'.toList) = false := by rw [beq_eq_false_iff_ne]; exact hK
            have HF : Hid (RR = false) := by show _ = _; rw [HM2.out, HD.out, yK]; rfl
            clear hK HD rw0 rw1
            go_wp2_with fail
            refine wp_region_sub wr.heap.size (by kernel_rfl) (by kernel_rfl) ?_
            repeat (go_big_quiet_step (fail))
            refine wpQuiet_nil ?_
            rintro _ ⟨⟨wq, bq⟩, rfl⟩
            go_wp2_with fail
            go_ret
            exact ⟨by rw [HF.out]; rfl, B0.trans ((bj.trans (bq.mono hzr)).mono (by omega))⟩
        · obtain rfl : j = m.length := by omega
          have y1 : ¬ (m.length : Int) < m.length := by omega
          have HF : Hid (RR = true) := by
            show _ = _
            rw [HM2.out, HJ.out, List.drop_length, H6.out, List.drop_length]
            simp [eqM]
          go_wp2_with fail
          go_ret
          exact ⟨by rw [HF.out]; rfl, B0.trans (bj.mono (by omega))⟩
end Go.Proofs.YthgfomblodhoaaaDoor
/- good: some good value; a list. -/
namespace Go.Proofs.YthgfomblodhoaaaDoor
open Go.RowKit
theorem OwnL.set6 {w : World} {base M : Nat} {S : Nat → Prop} {v : Value} {l : List (Option V)} (h : OwnL false w base S v l) (hM : M < base) (i1 i2 i3 i4 i5 i6 : Nat) (u1 u2 u3 u4 u5 u6 : Value) :
    OwnL false ((((((w.setCell ⟨M, i1, none⟩ u1).setCell ⟨M, i2, none⟩ u2).setCell ⟨M, i3, none⟩ u3).setCell ⟨M, i4, none⟩ u4).setCell ⟨M, i5, none⟩ u5).setCell ⟨M, i6, none⟩ u6) base S v l :=
  (((((h.set (keepL false) hM i1 u1).set (keepL false) hM i2 u2).set (keepL false) hM i3 u3).set (keepL false) hM i4 u4).set (keepL false) hM i5 u5).set (keepL false) hM i6 u6
theorem Below.set6 {B M : Nat} {a w : World} (h : Below B a w) (hM : B ≤ M) (i1 i2 i3 i4 i5 i6 : Nat) (u1 u2 u3 u4 u5 u6 : Value) :
    Below B a ((((((w.setCell ⟨M, i1, none⟩ u1).setCell ⟨M, i2, none⟩ u2).setCell ⟨M, i3, none⟩ u3).setCell ⟨M, i4, none⟩ u4).setCell ⟨M, i5, none⟩ u5).setCell ⟨M, i6, none⟩ u6) := by
  repeat (refine Below.setCell ?_ (by assumption) _)
  exact h
end Go.Proofs.YthgfomblodhoaaaDoor
