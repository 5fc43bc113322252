/- joined: SamA ChkC -/
import Derived.Test.YtdgfjdhobdfglaaGreatDoorG3
set_option linter.unusedSimpArgs false
set_option linter.unusedVariables false
set_option maxRecDepth 100000
namespace Go.Proofs.YtdgfjdhobdfglaaGreatDoor
open Go.RowKit
mutual
def V.eqB : V -> V -> Bool
 | .mk k b i s l m, .mk k' b' i' s' l' m' => decide (k = k') && decide (b = b') && decide (i = i') && (s.toList == s'.toList) && decide (l.length = l'.length) && decide (m.length = m'.length) && eqL l l' && eqM m m'
def eqL : List V -> List V -> Bool
 | x :: t, y :: u => V.eqB x y && eqL t u
 | _, _ => true
def eqM : List Mem -> List Mem -> Bool
 | (k, x) :: t, (k', y) :: u => (k.toList == k'.toList) && V.eqB x y && eqM t u
 | _, _ => true
end
mutual
theorem V.eqB_refl : ∀ v : V, V.eqB v v = true
 | .mk k b i s l m => by rw [V.eqB, eqL_refl l, eqM_refl m]; simp
theorem eqL_refl : ∀ l : List V, eqL l l = true
 | [] => by rw [eqL]; intros; simp_all
 | x :: t => by rw [eqL, V.eqB_refl x, eqL_refl t]; rfl
theorem eqM_refl : ∀ l : List Mem, eqM l l = true
 | [] => by rw [eqM]; intros; simp_all
 | (k, x) :: t => by rw [eqM, V.eqB_refl x, eqM_refl t]; simp
end
theorem eqL_drop {l l' : List V} (hl : l.length = l'.length) {j : Nat} (h : j < l.length) : eqL (l.drop j) (l'.drop j) = (V.eqB l[j] (l'[j]'(by omega)) && eqL (l.drop (j + 1)) (l'.drop (j + 1))) := by
 rw [List.drop_eq_getElem_cons h, List.drop_eq_getElem_cons (show j < l'.length by omega), eqL]
theorem eqM_drop {l l' : List Mem} (hl : l.length = l'.length) {j : Nat} (h : j < l.length) : eqM (l.drop j) (l'.drop j) = (((l[j]).1.toList == (l'[j]'(by omega)).1.toList) && V.eqB (l[j]).2 (l'[j]'(by omega)).2 && eqM (l.drop (j + 1)) (l'.drop (j + 1))) := by
 rw [List.drop_eq_getElem_cons h, List.drop_eq_getElem_cons (show j < l'.length by omega)]
 rcases l[j] with ⟨k, x⟩
 rcases l'[j]'(by omega) with ⟨k', y⟩
 rw [eqM]
theorem two_below (w : World) (o o' : Obj) : Below w.heap.size w ((w.alloc o).alloc o') := ((Below.refl w.heap.size w).alloc (Nat.le_refl _) _).alloc (by rw [alloc_size]; omega) _
theorem sub_call2 {P : Program} {f : FuncId} {args : Array Value} {wr wq : World} {v : Value} (h : ∀ w', Below wr.heap.size wr w' -> Calls P f args w' fun e w'' => e = .returned v /\ Below w'.heap.size w' w'') (bq : Below wr.heap.size wr wq) (x : Sub wq.heap.size wq) :
 Calls P f args x.w fun e w'' => e = .returned v /\ ∃ y : Sub wq.heap.size wq, w'' = y.w :=
 sub_call (fun w' hb => (h w' (bq.trans (hb.mono bq.size))).mono fun e w'' ⟨he, h2⟩ => ⟨he, hb.trans (h2.mono hb.size)⟩) x
theorem bytes_eq {a b : ByteArray} (h : a.toList = b.toList) : a = b := by
 rw [ByteArray.toList_eq, ByteArray.toList_eq] at h
 exact Go.WideShapes.bytes_inj h
set_option maxHeartbeats 8000000 in
theorem same_any (a : V) : ∀ (R R' : Bool) (b : V) (S S' : Nat -> Prop) (cs ds : List Value) (w : World), a.lies R w S cs -> b.lies R' w S' ds -> (∀ x, S x -> x < w.heap.size) -> (∀ x, S' x -> x < w.heap.size) ->
 Calls Tryz.prog 27 #[.agg cs.toArray, .agg ds.toArray] w (BPost (V.eqB a b) w) := by
 induction a using V.ind_v with
 | h k b i s l m ihl ihm =>
 intro R R' v' S S' cs ds w hl hl' hS hS'
 obtain ⟨k', b', i', s', l', m'⟩ := v'
 rw [V.lies] at hl hl'
 obtain ⟨al, cl, bl, ol, am, cm, bm, om, rfl, hk, hi, hs, hal, ham, hl1, hm1, _⟩ := hl
 obtain ⟨al', cl', bl', ol', am', cm', bm', om', rfl, hk', hi', hs', hal', ham', hl1', hm1', _⟩ := hl'
 have HL : Hid (liesL R w S l bl ol) := hl1
 have HM : Hid (liesM R w S m bm om) := hm1
 have HL' : Hid (liesL R' w S' l' bl' ol') := hl1'
 have HM' : Hid (liesM R' w S' m' bm' om') := hm1'
 clear hl1 hm1 hl1' hm1'
 have HE : Hid (V.eqB (.mk k b i s l m) (.mk k' b' i' s' l' m') = (decide (k = k') && decide (b = b') && decide (i = i') && (s.toList == s'.toList) && decide (l.length = l'.length) && decide (m.length = m'.length) && eqL l l' && eqM m m')) := by show _ = _; rw [V.eqB]
 generalize V.eqB (.mk k b i s l m) (.mk k' b' i' s' l' m') = RR at *
 by_cases hh : k = k' /\ b = b' /\ i = i' /\ s.toList = s'.toList /\ l.length = l'.length /\ m.length = m'.length
 case neg =>
  have HH : Hid (¬ (k = k' /\ b = b' /\ i = i' /\ s.toList = s'.toList /\ l.length = l'.length /\ m.length = m'.length)) := hh
  have HF : Hid (RR = false) := by
   show _ = _
   rw [HE.out]
   cases hx : (decide (k = k') && decide (b = b') && decide (i = i') && (s.toList == s'.toList) && decide (l.length = l'.length) && decide (m.length = m'.length))
   ·rfl
   ·exfalso
    simp only [Bool.and_eq_true, decide_eq_true_eq, beq_iff_eq] at hx
    exact hh ⟨hx.1.1.1.1.1, hx.1.1.1.1.2, hx.1.1.1.2, hx.1.1.2, hx.1.2, hx.2⟩
  clear hh HE
  go_enter Tryz.func27, Tryz.ntmps27
  go_wp2_with fail
  all_goals first
   | (go_ret; exact ⟨by rw [HF.out]; rfl, two_below w _ _⟩)
   | (exfalso; refine HH.out ⟨by assumption, by assumption, by assumption, by assumption, by omega, ?_⟩; simp_all; done)
   | (exfalso; refine HH.out ⟨by assumption, by assumption, by assumption, by assumption, by omega, ?_⟩; simp_all; omega)
 obtain ⟨rfl, rfl, rfl, h4, h5, h6⟩ := hh
 obtain rfl := bytes_eq h4
 have HE' : Hid (RR = (eqL l l' && eqM m m')) := by show _ = _; rw [HE.out]; simp [h5, h6]
 have y5 : ((l.length : Int) != (l'.length : Int)) = false := by rw [bne_eq_false_iff_eq]; omega
 have y6 : ((m.length : Int) != (m'.length : Int)) = false := by rw [bne_eq_false_iff_eq]; omega
 have hll : l.length <= 9223372036854775807 := Nat.le_trans hal.le hal.max
 have hml : m.length <= 9223372036854775807 := Nat.le_trans ham.le ham.max
 clear h4 HE
 have H5 : Hid (l.length = l'.length) := h5
 have H6 : Hid (m.length = m'.length) := h6
 clear h5 h6
 have hb0 := box_row w [.int .i64 k, .bool b, .int .i64 i, .string s, .slice al l.length cl, .slice am m.length cm] 25
 have hb1 : rowAt ((w.alloc (.cells #[.int .i64 k, .bool b, .int .i64 i, .string s, .slice al l.length cl, .slice am m.length cm] 25)).alloc (.cells #[.int .i64 k, .bool b, .int .i64 i, .string s, .slice al' l'.length cl', .slice am' m'.length cm'] 25)) w.heap.size 0 [.int .i64 k, .bool b, .int .i64 i, .string s, .slice al l.length cl, .slice am m.length cm] := hb0.keep (Below.heap_alloc _ _ _ (by rw [alloc_size]; omega))
 have hb2 : rowAt ((w.alloc (.cells #[.int .i64 k, .bool b, .int .i64 i, .string s, .slice al l.length cl, .slice am m.length cm] 25)).alloc (.cells #[.int .i64 k, .bool b, .int .i64 i, .string s, .slice al' l'.length cl', .slice am' m'.length cm'] 25)) (w.heap.size + 1) 0 [.int .i64 k, .bool b, .int .i64 i, .string s, .slice al' l'.length cl', .slice am' m'.length cm'] := by
  have := box_row (w.alloc (.cells #[.int .i64 k, .bool b, .int .i64 i, .string s, .slice al l.length cl, .slice am m.length cm] 25)) [.int .i64 k, .bool b, .int .i64 i, .string s, .slice al' l'.length cl', .slice am' m'.length cm'] 25
  rwa [alloc_size] at this
 have B0 := two_below w (.cells #[.int .i64 k, .bool b, .int .i64 i, .string s, .slice al l.length cl, .slice am m.length cm] 25) (.cells #[.int .i64 k, .bool b, .int .i64 i, .string s, .slice al' l'.length cl', .slice am' m'.length cm'] 25)
 have hz0 : ((w.alloc (.cells #[.int .i64 k, .bool b, .int .i64 i, .string s, .slice al l.length cl, .slice am m.length cm] 25)).alloc (.cells #[.int .i64 k, .bool b, .int .i64 i, .string s, .slice al' l'.length cl', .slice am' m'.length cm'] 25)).heap.size = w.heap.size + 1 + 1 := by rw [alloc_size, alloc_size]
 clear hb0
 go_enter Tryz.func27, Tryz.ntmps27
 go_wp2_with fail
 generalize ((w.alloc (.cells #[.int .i64 k, .bool b, .int .i64 i, .string s, .slice al l.length cl, .slice am m.length cm] 25)).alloc (.cells #[.int .i64 k, .bool b, .int .i64 i, .string s, .slice al' l'.length cl', .slice am' m'.length cm'] 25)) = w0 at *
 go_loopw [5] (fun e wr => ∃ j : Nat, j <= l.length /\ e = .int .i64 (j : Int) /\ Below w0.heap.size w0 wr /\ Hid (eqL l l' = eqL (l.drop j) (l'.drop j))) (fun e _ => l.length - (RowKit.intOf e).toNat)
 case atStart => exact ⟨0, by omega, rfl, Below.refl _ _, rfl⟩
 case round =>
  obtain ⟨j, hj, rfl, bj, HJ⟩ := hrel
  obtain ⟨d0, d1, d2, d3, d4, d5⟩ := row6z (hb1.keep (bj.block _ (by omega)))
  obtain ⟨f0, f1, f2, f3, f4, f5⟩ := row6z (hb2.keep (bj.block _ (by omega)))
  by_cases hjl : j < l.length
  ·have y1 : (j : Int) < l.length := by omega
   have hjl' : j < l'.length := by have := H5.out; omega
   have y2 : (j : Int) < l'.length := by omega
   obtain ⟨hSb, csj, hrow, hlj⟩ := liesL_get HL.out j hjl
   obtain ⟨hSb', dsj, hrow', hlj'⟩ := liesL_get HL'.out j hjl'
   obtain rfl : al = some ⟨bl, ol, none⟩ := hal.at_.resolve_left (by omega)
   obtain rfl : al' = some ⟨bl', ol', none⟩ := hal'.at_.resolve_left (by omega)
   have hk0 : ∀ x, S x -> wr.heap[x]? = w.heap[x]? := fun x hx => (bj.block x (by have := hS x hx; omega)).trans (B0.block x (hS x hx))
   have hk1 : ∀ x, S' x -> wr.heap[x]? = w.heap[x]? := fun x hx => (bj.block x (by have := hS' x hx; omega)).trans (B0.block x (hS' x hx))
   obtain ⟨ek, eb, ei, es, eal, enl, ecl, eam, enm, ecm, rfl⟩ := V.ten hlj
   obtain ⟨ek', eb', ei', es', eal', enl', ecl', eam', enm', ecm', rfl⟩ := V.ten hlj'
   have rw0 := row6 (hrow.keep (hk0 _ hSb))
   have rw1 := row6 (hrow'.keep (hk1 _ hSb'))
   have hbl : bl < wr.heap.size := World.block_lt_of_cell? wr _ rw0.1
   have hbl' : bl' < wr.heap.size := World.block_lt_of_cell? wr _ rw1.1
   have hzr := bj.size
   have p0 : ∀ x : Sub wr.heap.size wr, _ := sub_cell rw0.1 hbl
   have p1 : ∀ x : Sub wr.heap.size wr, _ := sub_cell rw0.2.1 hbl
   have p2 : ∀ x : Sub wr.heap.size wr, _ := sub_cell rw0.2.2.1 hbl
   have p3 : ∀ x : Sub wr.heap.size wr, _ := sub_cell rw0.2.2.2.1 hbl
   have p4 : ∀ x : Sub wr.heap.size wr, _ := sub_cell rw0.2.2.2.2.1 hbl
   have p5 : ∀ x : Sub wr.heap.size wr, _ := sub_cell rw0.2.2.2.2.2 hbl
   have q0 : ∀ x : Sub wr.heap.size wr, _ := sub_cell rw1.1 hbl'
   have q1 : ∀ x : Sub wr.heap.size wr, _ := sub_cell rw1.2.1 hbl'
   have q2 : ∀ x : Sub wr.heap.size wr, _ := sub_cell rw1.2.2.1 hbl'
   have q3 : ∀ x : Sub wr.heap.size wr, _ := sub_cell rw1.2.2.2.1 hbl'
   have q4 : ∀ x : Sub wr.heap.size wr, _ := sub_cell rw1.2.2.2.2.1 hbl'
   have q5 : ∀ x : Sub wr.heap.size wr, _ := sub_cell rw1.2.2.2.2.2 hbl'
   have u4 : ∀ x : Sub wr.heap.size wr, _ := sub_cell d4 (by omega)
   have v4 : ∀ x : Sub wr.heap.size wr, _ := sub_cell f4 (by omega)
   have CI : Hid (∀ x : Sub wr.heap.size wr, Calls Tryz.prog 27 #[.agg #[.int .i64 ek, .bool eb, .int .i64 ei, .string es, .slice eal enl ecl, .slice eam enm ecm], .agg #[.int .i64 ek', .bool eb', .int .i64 ei', .string es', .slice eal' enl' ecl', .slice eam' enm' ecm']] x.w fun e w'' => e = .returned (.bool (V.eqB l[j] l'[j])) /\ ∃ y : Sub wr.heap.size wr, w'' = y.w) :=
    sub_call fun w' hb => by
     refine (ihl l[j] (List.getElem_mem hjl) R R' l'[j] S S' _ _ w' (V.lies_keep (fun h => h) (fun x hx => (hb.block x (by have := hS x hx; omega)).trans (hk0 x hx)) (fun _ h => h) _ hlj) (V.lies_keep (fun h => h) (fun x hx => (hb.block x (by have := hS' x hx; omega)).trans (hk1 x hx)) (fun _ h => h) _ hlj') (fun x hx => by have := hS x hx; have := hb.size; omega) (fun x hx => by have := hS' x hx; have := hb.size; omega)).mono ?_
     rintro e w'' ⟨he, h2⟩
     exact ⟨he, hb.trans (h2.mono hb.size)⟩
   have HD : Hid (eqL l l' = (V.eqB l[j] l'[j] && eqL (l.drop (j + 1)) (l'.drop (j + 1)))) := by show _ = _; rw [HJ.out, eqL_drop H5.out hjl]
   generalize V.eqB l[j] l'[j] = Z at *
   clear hlj hlj' hrow hrow' rw0 rw1 HJ hk0 hk1
   go_wp2_with fail
   refine wp_region_sub wr.heap.size (by kernel_rfl) (by kernel_rfl) ?_
   repeat (go_big_quiet_step (exact CI.out _))
   refine wpQuiet_nil ?_
   rintro _ ⟨⟨wq, bq⟩, rfl⟩
   cases Z
   ·have HF : Hid (RR = false) := by show _ = _; rw [HE'.out, HD.out]; rfl
    go_wp2_with fail
    go_ret
    exact ⟨by rw [HF.out]; rfl, B0.trans ((bj.trans (bq.mono hzr)).mono (by omega))⟩
   ·have HF : Hid (eqL l l' = eqL (l.drop (j + 1)) (l'.drop (j + 1))) := by show _ = _; rw [HD.out]; rfl
    go_wp2_with fail
    go_roundw
    case rel => exact ⟨j + 1, by omega, by go_num, bj.trans (bq.mono hzr), HF⟩
    case measure => simp [RowKit.intOf]; omega
  ·obtain rfl : j = l.length := by omega
   have y1 : ¬ (l.length : Int) < l.length := by omega
   have HM2 : Hid (RR = eqM m m') := by
    show _ = _
    rw [HE'.out, HJ.out, List.drop_length, H5.out, List.drop_length]
    simp [eqL]
   clear HJ HE'
   go_wp2_with fail
   rename World => wA
   go_loopw [7] (fun e wr => ∃ j : Nat, j <= m.length /\ e = .int .i64 (j : Int) /\ Below w0.heap.size w0 wr /\ Hid (eqM m m' = eqM (m.drop j) (m'.drop j))) (fun e _ => m.length - (RowKit.intOf e).toNat)
   case atStart => exact ⟨0, by omega, rfl, bj, rfl⟩
   case round =>
    clear bj d0 d1 d2 d3 d4 d5 f0 f1 f2 f3 f4 f5
    obtain ⟨j, hj, rfl, bj, HJ⟩ := hrel
    obtain ⟨d0, d1, d2, d3, d4, d5⟩ := row6z (hb1.keep (bj.block _ (by omega)))
    obtain ⟨f0, f1, f2, f3, f4, f5⟩ := row6z (hb2.keep (bj.block _ (by omega)))
    by_cases hjl : j < m.length
    ·have y1 : (j : Int) < m.length := by omega
     have hjl' : j < m'.length := by have := H6.out; omega
     have y2 : (j : Int) < m'.length := by omega
     obtain ⟨hSb, hks, csj, hrow, hlj⟩ := liesM_get HM.out j hjl
     obtain ⟨hSb', hks', dsj, hrow', hlj'⟩ := liesM_get HM'.out j hjl'
     obtain rfl : am = some ⟨bm, om, none⟩ := ham.at_.resolve_left (by omega)
     obtain rfl : am' = some ⟨bm', om', none⟩ := ham'.at_.resolve_left (by omega)
     have hk0 : ∀ x, S x -> wr.heap[x]? = w.heap[x]? := fun x hx => (bj.block x (by have := hS x hx; omega)).trans (B0.block x (hS x hx))
     have hk1 : ∀ x, S' x -> wr.heap[x]? = w.heap[x]? := fun x hx => (bj.block x (by have := hS' x hx; omega)).trans (B0.block x (hS' x hx))
     obtain ⟨ek, eb, ei, es, eal, enl, ecl, eam, enm, ecm, rfl⟩ := V.ten hlj
     obtain ⟨ek', eb', ei', es', eal', enl', ecl', eam', enm', ecm', rfl⟩ := V.ten hlj'
     have rw0 := row7 (hrow.keep (hk0 _ hSb))
     have rw1 := row7 (hrow'.keep (hk1 _ hSb'))
     have hbl : bm < wr.heap.size := World.block_lt_of_cell? wr _ rw0.1
     have hbl' : bm' < wr.heap.size := World.block_lt_of_cell? wr _ rw1.1
     have hzr := bj.size
     have k0 : ∀ x : Sub wr.heap.size wr, _ := sub_cell rw0.1 hbl
     have k1 : ∀ x : Sub wr.heap.size wr, _ := sub_cell rw1.1 hbl'
     have u5 : ∀ x : Sub wr.heap.size wr, _ := sub_cell d5 (by omega)
     have v5 : ∀ x : Sub wr.heap.size wr, _ := sub_cell f5 (by omega)
     have HD : Hid (eqM m m' = (((m[j]).1.toList == (m'[j]).1.toList) && V.eqB (m[j]).2 (m'[j]).2 && eqM (m.drop (j + 1)) (m'.drop (j + 1)))) := by show _ = _; rw [HJ.out, eqM_drop H6.out hjl]
     have IH := ihm m[j] (List.getElem_mem hjl) R R' (m'[j]).2 S S'
     generalize V.eqB (m[j]).2 (m'[j]).2 = Z at *
     have hS0 := fun (w' : World) (hb : Below wr.heap.size wr w') => V.lies_keep (w' := w') (S' := S) (fun h => h) (fun x hx => (hb.block x (by have := hS x hx; omega)).trans (hk0 x hx)) (fun _ h => h) _ hlj
     have hS1 := fun (w' : World) (hb : Below wr.heap.size wr w') => V.lies_keep (w' := w') (S' := S') (fun h => h) (fun x hx => (hb.block x (by have := hS' x hx; omega)).trans (hk1 x hx)) (fun _ h => h) _ hlj'
     have IC : Hid (∀ w', Below wr.heap.size wr w' -> Calls Tryz.prog 27 #[.agg #[.int .i64 ek, .bool eb, .int .i64 ei, .string es, .slice eal enl ecl, .slice eam enm ecm], .agg #[.int .i64 ek', .bool eb', .int .i64 ei', .string es', .slice eal' enl' ecl', .slice eam' enm' ecm']] w' fun e w'' => e = .returned (.bool Z) /\ Below w'.heap.size w' w'') := fun w' hb =>
      IH _ _ w' (hS0 w' hb) (hS1 w' hb) (fun x hx => by have := hS x hx; have := hb.size; omega) (fun x hx => by have := hS' x hx; have := hb.size; omega)
     generalize (m[j]).1 = key at *
     generalize (m'[j]).1 = key' at *
     clear hlj hlj' hrow hrow' HJ IH hS0 hS1
     by_cases hK : key.toList = key'.toList
     ·have yK : (key.toList == key'.toList) = true := by rw [beq_iff_eq]; exact hK
      obtain rfl := bytes_eq hK
      clear hK
      go_wp2_with fail
      refine wp_region_sub wr.heap.size (by kernel_rfl) (by kernel_rfl) ?_
      repeat (go_big_quiet_step (fail))
      refine wpQuiet_nil ?_
      rintro wq ⟨⟨wq', bq⟩, hq⟩
      have hq' : wq = wq' := hq
      subst hq'
      clear hq
      have hzq := bq.size
      have p0 : ∀ x : Sub wq.heap.size wq, _ := sub_cell ((bq.cell (p := ⟨bm, om + j * 7 + 1, none⟩) hbl).trans rw0.2.1) (by omega)
      have p1 : ∀ x : Sub wq.heap.size wq, _ := sub_cell ((bq.cell (p := ⟨bm, om + j * 7 + 2, none⟩) hbl).trans rw0.2.2.1) (by omega)
      have p2 : ∀ x : Sub wq.heap.size wq, _ := sub_cell ((bq.cell (p := ⟨bm, om + j * 7 + 3, none⟩) hbl).trans rw0.2.2.2.1) (by omega)
      have p3 : ∀ x : Sub wq.heap.size wq, _ := sub_cell ((bq.cell (p := ⟨bm, om + j * 7 + 4, none⟩) hbl).trans rw0.2.2.2.2.1) (by omega)
      have p4 : ∀ x : Sub wq.heap.size wq, _ := sub_cell ((bq.cell (p := ⟨bm, om + j * 7 + 5, none⟩) hbl).trans rw0.2.2.2.2.2.1) (by omega)
      have p5 : ∀ x : Sub wq.heap.size wq, _ := sub_cell ((bq.cell (p := ⟨bm, om + j * 7 + 6, none⟩) hbl).trans rw0.2.2.2.2.2.2) (by omega)
      have q0 : ∀ x : Sub wq.heap.size wq, _ := sub_cell ((bq.cell (p := ⟨bm', om' + j * 7 + 1, none⟩) hbl').trans rw1.2.1) (by omega)
      have q1 : ∀ x : Sub wq.heap.size wq, _ := sub_cell ((bq.cell (p := ⟨bm', om' + j * 7 + 2, none⟩) hbl').trans rw1.2.2.1) (by omega)
      have q2 : ∀ x : Sub wq.heap.size wq, _ := sub_cell ((bq.cell (p := ⟨bm', om' + j * 7 + 3, none⟩) hbl').trans rw1.2.2.2.1) (by omega)
      have q3 : ∀ x : Sub wq.heap.size wq, _ := sub_cell ((bq.cell (p := ⟨bm', om' + j * 7 + 4, none⟩) hbl').trans rw1.2.2.2.2.1) (by omega)
      have q4 : ∀ x : Sub wq.heap.size wq, _ := sub_cell ((bq.cell (p := ⟨bm', om' + j * 7 + 5, none⟩) hbl').trans rw1.2.2.2.2.2.1) (by omega)
      have q5 : ∀ x : Sub wq.heap.size wq, _ := sub_cell ((bq.cell (p := ⟨bm', om' + j * 7 + 6, none⟩) hbl').trans rw1.2.2.2.2.2.2) (by omega)
      have u6 : ∀ x : Sub wq.heap.size wq, _ := sub_cell ((bq.cell (p := ⟨w.heap.size, 5, none⟩) (by show w.heap.size < _; omega)).trans d5) (by omega)
      have v6 : ∀ x : Sub wq.heap.size wq, _ := sub_cell ((bq.cell (p := ⟨w.heap.size + 1, 5, none⟩) (by show w.heap.size + 1 < _; omega)).trans f5) (by omega)
      have CI : Hid (∀ x : Sub wq.heap.size wq, Calls Tryz.prog 27 #[.agg #[.int .i64 ek, .bool eb, .int .i64 ei, .string es, .slice eal enl ecl, .slice eam enm ecm], .agg #[.int .i64 ek', .bool eb', .int .i64 ei', .string es', .slice eal' enl' ecl', .slice eam' enm' ecm']] x.w fun e w'' => e = .returned (.bool Z) /\ ∃ y : Sub wq.heap.size wq, w'' = y.w) := fun x => sub_call2 IC.out bq x
      clear rw0 rw1 k0 k1 u5 v5
      go_wp2_with fail
      refine wp_region_sub wq.heap.size (by kernel_rfl) (by kernel_rfl) ?_
      repeat (go_big_quiet_step (exact CI.out _))
      refine wpQuiet_nil ?_
      rintro _ ⟨⟨wz, bz⟩, rfl⟩
      have bwz := bj.trans ((bq.trans (bz.mono hzq)).mono hzr)
      cases Z
      ·have HF : Hid (RR = false) := by show _ = _; rw [HM2.out, HD.out, yK]; rfl
       go_wp2_with fail
       go_ret
       exact ⟨by rw [HF.out]; rfl, B0.trans (bwz.mono (by omega))⟩
      ·have HF : Hid (eqM m m' = eqM (m.drop (j + 1)) (m'.drop (j + 1))) := by show _ = _; rw [HD.out, yK]; rfl
       go_wp2_with fail
       go_roundw
       case rel => exact ⟨j + 1, by omega, by go_num, bwz, HF⟩
       case measure => simp [RowKit.intOf]; omega
     ·have yK : (key.toList == key'.toList) = false := by rw [beq_eq_false_iff_ne]; exact hK
      have HF : Hid (RR = false) := by show _ = _; rw [HM2.out, HD.out, yK]; rfl
      clear hK HD rw0 rw1
      go_wp2_with fail
      refine wp_region_sub wr.heap.size (by kernel_rfl) (by kernel_rfl) ?_
      repeat (go_big_quiet_step (fail))
      refine wpQuiet_nil ?_
      rintro _ ⟨⟨wq, bq⟩, rfl⟩
      go_wp2_with fail
      go_ret
      exact ⟨by rw [HF.out]; rfl, B0.trans ((bj.trans (bq.mono hzr)).mono (by omega))⟩
    ·obtain rfl : j = m.length := by omega
     have y1 : ¬ (m.length : Int) < m.length := by omega
     have HF : Hid (RR = true) := by
      show _ = _
      rw [HM2.out, HJ.out, List.drop_length, H6.out, List.drop_length]
      simp [eqM]
     go_wp2_with fail
     go_ret
     exact ⟨by rw [HF.out]; rfl, B0.trans (bj.mono (by omega))⟩
end Go.Proofs.YtdgfjdhobdfglaaGreatDoor
set_option maxRecDepth 100000
namespace Go.Proofs.YtdgfjdhobdfglaaGreatDoor
open Go.RowKit Go.Lib
structure Wk (B D n y d : Nat) (w : World) : Prop where
 b : w.heap[B]? = some (.cells #[.int .i64 (D : Int), .int .i64 (n : Int), .int .i64 (y : Int), .int .i64 (d : Int)] 55 (0, 0))
theorem Wk.lt {B D n y d : Nat} {w : World} (h : Wk B D n y d w) : B < w.heap.size := (Array.getElem?_eq_some_iff.1 h.b).1
theorem Wk.keep {B D n y d : Nat} {w w' : World} (h : Wk B D n y d w) (hb : w'.heap[B]? = w.heap[B]?) : Wk B D n y d w' := ⟨hb.trans h.b⟩
def keyB : List Mem -> Nat
 | [] => 0
 | x :: t => x.1.size + keyB t
theorem keyB_le : ∀ m : List Mem, keyB m <= wtM m
 | [] => by simp [keyB, wtM]
 | (k, x) :: t => by have := keyB_le t; simp only [keyB, wtM]; omega
theorem keyB_app : ∀ a b : List Mem, keyB (a ++ b) = keyB a + keyB b
 | [], b => by simp [keyB]
 | x :: t, b => by have := keyB_app t b; simp only [keyB, List.cons_append]; omega
theorem keyB_take {m : List Mem} {j : Nat} (h : j < m.length) : keyB (m.take (j + 1)) = keyB (m.take j) + (m[j]).1.size := by
 rw [List.take_succ_eq_append_getElem h, keyB_app]; simp [keyB]
theorem keyB_take_le (m : List Mem) (j : Nat) : keyB (m.take j) <= keyB m := by
 have := keyB_app (m.take j) (m.drop j)
 rw [List.take_append_drop] at this
 omega
def goodB (k : Int) (b : Bool) (i : Int) (s : ByteArray) (nl : Nat) (m : List Mem) : Bool := plainB k b i s nl m.length && utfB s && riseB m
def entF (D n y d lv : Nat) (g : Bool) (z : Nat) : Nat × Nat × Nat × Nat :=
 if 65536 <= n then (22, n, y, d) else if D < lv then (21, n, y, d) else if g = false then (20, n, y, d) else if 1048576 < y + z then (23, n + 1, y + z, max d lv) else (0, n + 1, y + z, max d lv)
def EntPost (B D : Nat) (r : Nat × Nat × Nat × Nat) (w : World) (e : Ending) (w' : World) : Prop := e = .returned (.int .i64 (r.1 : Int)) /\ Wk B D r.2.1 r.2.2.1 r.2.2.2 w' /\ w.grownBy w' (some B)
set_option maxHeartbeats 8000000 in
theorem enter_any (R : Bool) (k : Int) (b : Bool) (i : Int) (s : ByteArray) (l : List V) (m : List Mem) (B D n y d lv : Nat) (S : Nat -> Prop) (cs : List Value) (w : World) (t : Tb w)
 (hl : (V.mk k b i s l m).lies R w S cs) (hS : ∀ b, S b -> b ≠ B /\ b < w.heap.size) (hW : Wk B D n y d w) (hB : 1 < B)
 (hwt : (V.mk k b i s l m).wt <= 281474976710656) (hn : n <= 281474976710656) (hy : y <= 281474976710656) (hd : d <= 281474976710656) (hlv : lv <= 281474976710656) (hD : D <= 281474976710656) :
 Calls Tryz.prog 28 #[.pointer (some ⟨B, 0, none⟩), .agg cs.toArray, .int .i64 (lv : Int)] w (EntPost B D (entF D n y d lv (goodB k b i s l.length m) (s.size + keyB m)) w) := by
 rw [V.lies] at hl
 obtain ⟨al, cl, bl, ol, am, cm, bm, om, rfl, hk, hi, hs, hal, ham, hl1, hm1, _⟩ := hl
 have HM : Hid (liesM R w S m bm om) := hm1
 clear hl1 hm1
 rw [V.wt] at hwt
 have hmm := wtM_len m
 have hkb := keyB_le m
 have hBl := hW.lt
 have g0 : w.grownBy (w.alloc (.cells #[.int .i64 k, .bool b, .int .i64 i, .string s, .slice al l.length cl, .slice am m.length cm] 25)) (some B) := World.grownBy_alloc _ _ _
 have W0 : Wk B D n y d (w.alloc (.cells #[.int .i64 k, .bool b, .int .i64 i, .string s, .slice al l.length cl, .slice am m.length cm] 25)) := hW.keep (Below.heap_alloc w _ B hBl)
 have t0 : Tb (w.alloc (.cells #[.int .i64 k, .bool b, .int .i64 i, .string s, .slice al l.length cl, .slice am m.length cm] 25)) := t.grown g0 (fun r e => by cases e; exact hB)
 have c0 : (w.alloc (.cells #[.int .i64 k, .bool b, .int .i64 i, .string s, .slice al l.length cl, .slice am m.length cm] 25)).cell? ⟨B, 0, none⟩ = some (.int .i64 (D : Int)) := by rw [cell_of_block W0.b]; rfl
 have c1 : (w.alloc (.cells #[.int .i64 k, .bool b, .int .i64 i, .string s, .slice al l.length cl, .slice am m.length cm] 25)).cell? ⟨B, 1, none⟩ = some (.int .i64 (n : Int)) := by rw [cell_of_block W0.b]; rfl
 by_cases h1 : 65536 <= n
 ·have y1 : (65536 : Int) <= n := by omega
  have HF : Hid (entF D n y d lv (goodB k b i s l.length m) (s.size + keyB m) = (22, n, y, d)) := by show _ = _; simp [entF, h1]
  go_enter Tryz.func28, Tryz.ntmps28
  go_wp2_with fail
  go_ret
  rw [HF.out]
  exact ⟨rfl, W0, g0⟩
 have y1 : ¬ (65536 : Int) <= n := by omega
 by_cases h2 : D < lv
 ·have y2 : (D : Int) < lv := by omega
  have HF : Hid (entF D n y d lv (goodB k b i s l.length m) (s.size + keyB m) = (21, n, y, d)) := by show _ = _; simp [entF, h1, h2]
  go_enter Tryz.func28, Tryz.ntmps28
  go_wp2_with fail
  go_ret
  rw [HF.out]
  exact ⟨rfl, W0, g0⟩
 have y2 : ¬ (D : Int) < lv := by omega
 have cp := plain_any k b i s l.length m.length al am cl cm (w.alloc (.cells #[.int .i64 k, .bool b, .int .i64 i, .string s, .slice al l.length cl, .slice am m.length cm] 25))
 cases hP : plainB k b i s l.length m.length
 ·have HF : Hid (entF D n y d lv (goodB k b i s l.length m) (s.size + keyB m) = (20, n, y, d)) := by show _ = _; simp [entF, h1, h2, goodB, hP]
  rw [hP] at cp
  go_enter Tryz.func28, Tryz.ntmps28
  go_wp2_with fail
  refine cp.mono ?_
  rintro e w1 ⟨rfl, b1⟩
  go_wp2_with fail
  go_ret
  rw [HF.out]
  exact ⟨rfl, W0.keep (b1.block _ W0.lt), grown_trans g0 ⟨b1.os, b1.tape, b1.output, b1.size, fun q hq _ => b1.block q hq⟩⟩
 rw [hP] at cp
 have hsz : s.size <= 281474976710656 := by omega
 have hbx : rowAt (w.alloc (.cells #[.int .i64 k, .bool b, .int .i64 i, .string s, .slice al l.length cl, .slice am m.length cm] 25)) w.heap.size 0 [.int .i64 k, .bool b, .int .i64 i, .string s, .slice al l.length cl, .slice am m.length cm] := box_row w _ 25
 have hbw : w.heap.size < (w.alloc (.cells #[.int .i64 k, .bool b, .int .i64 i, .string s, .slice al l.length cl, .slice am m.length cm] 25)).heap.size := box_lt w _
 go_enter Tryz.func28, Tryz.ntmps28
 go_wp2_with fail
 refine cp.mono ?_
 rintro e w1 ⟨rfl, b1⟩
 have W1 : Wk B D n y d w1 := W0.keep (b1.block _ W0.lt)
 have t1 : Tb w1 := t0.below b1 (by have := t0.z; omega)
 have hb1 := hbx.keep (b1.block _ hbw)
 have g1 : w.grownBy w1 (some B) := grown_trans g0 ⟨b1.os, b1.tape, b1.output, b1.size, fun q hq _ => b1.block q hq⟩
 obtain ⟨d0, d1, d2, d3, d4, d5⟩ := row6z hb1
 have cv := validString_any s w1 hsz t1.u
 cases hV : validD s.data.toList
 ·have HF : Hid (entF D n y d lv (goodB k b i s l.length m) (s.size + keyB m) = (20, n, y, d)) := by show _ = _; simp [entF, h1, h2, goodB, utfB, hV]
  rw [hV] at cv
  go_wp2_with fail
  refine cv.mono ?_
  rintro e w2 ⟨rfl, b2⟩
  go_wp2_with fail
  go_ret
  rw [HF.out]
  exact ⟨rfl, W1.keep (b2.block _ W1.lt), grown_trans g1 ⟨b2.os, b2.tape, b2.output, b2.size, fun q hq _ => b2.block q hq⟩⟩
 rw [hV] at cv
 go_wp2_with fail
 refine cv.mono ?_
 rintro e w2 ⟨rfl, b2⟩
 have W2 : Wk B D n y d w2 := W1.keep (b2.block _ W1.lt)
 have t2 : Tb w2 := t1.below b2 (by have := t1.z; omega)
 have hb2 := hb1.keep (b2.block _ (by have := b1.size; omega))
 have g2 : w.grownBy w2 (some B) := grown_trans g1 ⟨b2.os, b2.tape, b2.output, b2.size, fun q hq _ => b2.block q hq⟩
 clear d0 d1 d2 d3 d4 d5
 obtain ⟨d0, d1, d2, d3, d4, d5⟩ := row6z hb2
 have hkeep : ∀ b, S b -> w2.heap[b]? = w.heap[b]? := fun b hb => g2.block b (hS b hb).2 (fun e => (hS b hb).1 (Option.some.inj e))
 have hm2 : liesM false w2 S m bm om := liesM_keep (fun h => by cases h) hkeep (fun _ h => h) m HM.out
 have cr := rising_any false m am cm bm om S w2 t2 ham hm2 (fun b hb => Nat.lt_of_lt_of_le (hS b hb).2 g2.size) (by omega)
 clear hm2
 cases hR : riseB m
 ·have HF : Hid (entF D n y d lv (goodB k b i s l.length m) (s.size + keyB m) = (20, n, y, d)) := by show _ = _; simp [entF, h1, h2, goodB, hR]
  rw [hR] at cr
  go_wp2_with fail
  refine cr.mono ?_
  rintro e w3 ⟨rfl, b3⟩
  go_wp2_with fail
  go_ret
  rw [HF.out]
  exact ⟨rfl, W2.keep (b3.block _ W2.lt), grown_trans g2 ⟨b3.os, b3.tape, b3.output, b3.size, fun q hq _ => b3.block q hq⟩⟩
 rw [hR] at cr
 go_wp2_with fail
 refine cr.mono ?_
 rintro e w3 ⟨rfl, b3⟩
 have W3 : Wk B D n y d w3 := W2.keep (b3.block _ W2.lt)
 have hb3 := hb2.keep (b3.block _ (by have := b1.size; have := b2.size; omega))
 have g3 : w.grownBy w3 (some B) := grown_trans g2 ⟨b3.os, b3.tape, b3.output, b3.size, fun q hq _ => b3.block q hq⟩
 have hg : goodB k b i s l.length m = true := by simp [goodB, hP, utfB, hV, hR]
 have HG : Hid (entF D n y d lv (goodB k b i s l.length m) (s.size + keyB m) = if 1048576 < y + (s.size + keyB m) then (23, n + 1, y + (s.size + keyB m), max d lv) else (0, n + 1, y + (s.size + keyB m), max d lv)) := by show _ = _; rw [hg]; simp [entF, h1, h2]
 clear d0 d1 d2 d3 d4 d5 hg hP hV hR cp cv cr
 obtain ⟨d0, d1, d2, d3, d4, d5⟩ := row6z hb3
 have e0 : w3.cell? ⟨B, 0, none⟩ = some (.int .i64 (D : Int)) := by rw [cell_of_block W3.b]; rfl
 have e1 : w3.cell? ⟨B, 1, none⟩ = some (.int .i64 (n : Int)) := by rw [cell_of_block W3.b]; rfl
 have e2 : w3.cell? ⟨B, 2, none⟩ = some (.int .i64 (y : Int)) := by rw [cell_of_block W3.b]; rfl
 have e3 : w3.cell? ⟨B, 3, none⟩ = some (.int .i64 (d : Int)) := by rw [cell_of_block W3.b]; rfl
 have ef : ∀ i, w3.frozen? ⟨B, i, none⟩ = false := frozen_of_block W3.b
 have hneB : B ≠ w.heap.size := by omega
 clear c0 c1
 go_wp2_with fail
 go_region
 go_wp2_with fail
 go_loopw [67] (fun e wr => ∃ j : Nat, j <= m.length /\ e = .int .i64 (j : Int) /\ Wk B D (n + 1) (y + s.size + keyB (m.take j)) (max d lv) wr /\ w.grownBy wr (some B)) (fun e _ => m.length - (RowKit.intOf e).toNat)
 case atStart =>
  refine ⟨0, by omega, rfl, ⟨?_⟩, ?_⟩
  ·have h := set_block (set_block (set_block W3.b 1 (.int .i64 ((n : Int) + 1))) 3 (.int .i64 (max (d : Int) (lv : Int)))) 2 (.int .i64 ((y : Int) + s.size))
   refine Eq.trans h ?_
   have q1 : (((n + 1 : Nat) : Int)) = (n : Int) + 1 := by omega
   have q2 : ((max d lv : Nat) : Int) = max (d : Int) (lv : Int) := by omega
   have q3 : ((y + s.size + keyB (m.take 0) : Nat) : Int) = (y : Int) + s.size := by simp [keyB]
   rw [q1, q2, q3]
   rfl
  ·exact grown_trans (grown_set (grown_set (grown_set g3 1 _) 3 _) 2 _) (grown_drew _ _)
 case round =>
  clear W3 e0 e1 e2 e3 ef d0 d1 d2 d3 d4 d5 hb1 hb2 hb3 W1 W2 t1 t2 b1 b2 b3
  obtain ⟨j, hj, rfl, Wj, gj⟩ := hrel
  by_cases hjl : j < m.length
  ·have y3 : (j : Int) < m.length := by omega
   obtain ⟨hSb, hks, csj, hrow, hlj⟩ := liesM_get HM.out j hjl
   obtain rfl : am = some ⟨bm, om, none⟩ := ham.at_.resolve_left (by omega)
   have hrow' := hrow.keep (gj.block _ (hS _ hSb).2 (fun e => (hS _ hSb).1 (Option.some.inj e)))
   obtain ⟨ek, eb, ei, es, eal, enl, ecl, eam, enm, ecm, rfl⟩ := V.ten hlj
   obtain ⟨q, q0, q1, q2, q3, q4, q5⟩ := row7 hrow'
   clear hlj hrow hrow'
   have hkz : (m[j]).1.size + (m[j]).2.wt <= wtM m := wtM_mem (List.getElem_mem hjl)
   have HT : Hid (keyB (m.take (j + 1)) = keyB (m.take j) + (m[j]).1.size) := keyB_take hjl
   have hkt := keyB_take_le m j
   generalize (m[j]).1 = key at *
   have Wa : ∀ o, Wk B D (n + 1) (y + s.size + keyB (m.take j)) (max d lv) (wr.alloc o) := fun o => Wj.keep (Below.heap_alloc wr o B Wj.lt)
   have e2 : ∀ o, (wr.alloc o).cell? ⟨B, 2, none⟩ = some (.int .i64 ((y + s.size + keyB (m.take j) : Nat) : Int)) := fun o => by rw [cell_of_block (Wa o).b]; rfl
   have ef : ∀ o i, (wr.alloc o).frozen? ⟨B, i, none⟩ = false := fun o => frozen_of_block (Wa o).b
   have hne : B ≠ wr.heap.size := by have := Wj.lt; omega
   generalize hY : y + s.size + keyB (m.take j) = Y at *
   have hYb : Y <= 844424930131968 := by omega
   have HY : Hid (y + s.size + keyB (m.take (j + 1)) = Y + key.size) := by show _ = _; rw [HT.out]; omega
   clear hY hkt
   go_wp2_with fail
   go_region
   go_wp2_with fail
   go_roundw
   case rel =>
    refine ⟨j + 1, by omega, by go_num, ⟨?_⟩, ?_⟩
    ·rw [HY.out]
     refine Eq.trans (set_block (Wa _).b 2 (.int .i64 ((Y : Int) + key.size))) ?_
     have q1 : ((Y + key.size : Nat) : Int) = (Y : Int) + key.size := by omega
     rw [q1]
     rfl
    ·exact grown_trans (grown_set (grown_alloc gj _) 2 _) (grown_drew _ _)
   case measure => simp [RowKit.intOf]; omega
  ·obtain rfl : j = m.length := by omega
   rw [List.take_length] at Wj
   have y3 : ¬ (m.length : Int) < m.length := by omega
   have e2 : wr.cell? ⟨B, 2, none⟩ = some (.int .i64 ((y + s.size + keyB m : Nat) : Int)) := by rw [cell_of_block Wj.b]; rfl
   have HA : Hid (y + (s.size + keyB m) = y + s.size + keyB m) := by show _ = _; omega
   by_cases hb : 1048576 < y + s.size + keyB m
   ·have y4 : (1048576 : Int) < ((y + s.size + keyB m : Nat) : Int) := by omega
    generalize y + s.size + keyB m = Y at *
    go_wp2_with fail
    go_ret
    rw [HG.out, HA.out, if_pos hb]
    exact ⟨rfl, Wj, gj⟩
   ·have y4 : ¬ (1048576 : Int) < ((y + s.size + keyB m : Nat) : Int) := by omega
    generalize y + s.size + keyB m = Y at *
    go_wp2_with fail
    go_ret
    rw [HG.out, HA.out, if_neg hb]
    exact ⟨rfl, Wj, gj⟩
end Go.Proofs.YtdgfjdhobdfglaaGreatDoor
