import Derived.Test.YtaecmgkckefgoaaDoorLefA
import Derived.Test.YtaecmgkckefgoaaDoorSamA
import Derived.Test.YtaecmgkckefgoaaDoorCmpA
/- the document's Is. -/
set_option linter.unusedSimpArgs false
set_option linter.unusedVariables false
namespace Go.Proofs.YtaecmgkckefgoaaDoor
open Go.RowKit Go.Lib
/-- is it one of the values that may be? -/
def inV (E : List V) (v : V) : Bool := E.any fun x => eqlV x v
def isV (k : Int) (E : List V) (v : V) : Bool := scB k && (decide (kindOf v = k) && (okV v && (decide (E.length = 0) || inV E v)))
theorem scB_true {k : Int} (h : scB k = true) : 1 ≤ k ∧ k ≤ 3 := by simpa [scB] using h
theorem chk_leaf (D : Nat) (k : Int) (b : Bool) (i : Int) (s : ByteArray) (l : List V) (m : List Mem) (hk : scB k = true) : (chkV D (.mk k b i s l m) 0 (0, 0, 0)).1 = (entF 0 0 0 0 0 (goodB k b i s l.length m) (s.size + keyB m)).1 := by
  have h3 := scB_true hk
  have e0 : (entF D 0 0 0 0 (goodB k b i s l.length m) (s.size + keyB m)) = (entF 0 0 0 0 0 (goodB k b i s l.length m) (s.size + keyB m)) := by simp [entF]
  rw [chkV]
  dsimp only
  rw [e0]
  by_cases hr : (entF 0 0 0 0 0 (goodB k b i s l.length m) (s.size + keyB m)).1 = 0
  · rw [if_pos hr]
    have hg : goodB k b i s l.length m = true := by
      cases hg : goodB k b i s l.length m
      · rw [hg] at hr; simp [entF] at hr
      · rfl
    have hp : plainB k b i s l.length m.length = true := by
      simp only [goodB, Bool.and_eq_true] at hg
      exact hg.1.1
    have hp' := of_decide_eq_true hp
    have hl : l = [] := List.length_eq_zero_iff.1 (by omega)
    have hm : m = [] := List.length_eq_zero_iff.1 (by omega)
    subst hl hm
    rw [chkL]
    simp only [if_true, chkM]
    exact hr.symm
  · rw [if_neg hr]
theorem chk_zero {v : V} {k : Int} (hk : scB k = true) (h : kindOf v = k) : chkE v 0 = 0 ↔ okV v = true := by
  obtain ⟨vk, vb, vi, vs, vl, vm⟩ := v
  have e : vk = k := h
  subst e
  rw [okV, decide_eq_true_iff, chk_leaf 40 _ _ _ _ _ _ hk, chkE, if_neg (by omega)]
  show (chkV 0 _ 0 (0, 0, 0)).1 = 0 ↔ _
  rw [chk_leaf 0 _ _ _ _ _ _ hk]
theorem isV_sc {k : Int} {E : List V} {v : V} (h : scB k = false) : isV k E v = false := by rw [isV, h]; rfl
theorem isV_kind {k : Int} {E : List V} {v : V} (h : kindOf v ≠ k) : isV k E v = false := by rw [isV, decide_eq_false h]; simp
theorem isV_ok {k : Int} {E : List V} {v : V} (h : okV v = false) : isV k E v = false := by rw [isV, h]; simp
theorem isV_no {k : Int} {E : List V} {v : V} (h1 : scB k = true) (h2 : kindOf v = k) (h3 : okV v = true) (h4 : E.length = 0) : isV k E v = true := by rw [isV, h1, decide_eq_true h2, h3, decide_eq_true h4]; rfl
theorem isV_in {k : Int} {E : List V} {v : V} (h1 : scB k = true) (h2 : kindOf v = k) (h3 : okV v = true) (h4 : ¬ E.length = 0) : isV k E v = inV E v := by rw [isV, h1, decide_eq_true h2, h3, decide_eq_false h4]; simp
theorem inV_drop {E : List V} {v : V} {j : Nat} (h : j < E.length) : inV (E.drop j) v = (eqlV E[j] v || inV (E.drop (j + 1)) v) := by
  unfold inV; rw [List.drop_eq_getElem_cons h, List.any_cons]
set_option maxHeartbeats 4000000 in
set_option maxRecDepth 100000 in
theorem ris_any (t : Ty) (v : V) (S S' : Nat → Prop) (cs ds : List Value) (w : World) (hl : t.lies w S cs) (hv : v.lies false w S' ds) (hS : ∀ b, S b → b < w.heap.size) (hS' : ∀ b, S' b → b < w.heap.size) (hwt : v.wt ≤ 1099511627776) (hwe : wtL t.enum ≤ 2147483647) :
    Calls Tryd.prog 10 #[.agg cs.toArray, .agg ds.toArray] w (BPost (isV t.kind t.enum v) w) := by
  obtain ⟨nm, k, a, F, el, rl, K, E⟩ := t
  obtain ⟨af, cf, bf, qf, ak, ck, bk, qk, ae, ce, be, qe, rfl, hk, hr, hnm, hel, haf, hak, hae, hF, hK, hE⟩ := hl
  dsimp only at hk hr hnm hel haf hak hae hF hK hE hwe ⊢
  obtain ⟨vk, vb, vi, vs, vl, vm⟩ := v
  have HV := hmk hv
  rw [V.lies] at hv
  obtain ⟨val, vcl, vbl, vol, vam, vcm, vbm, vom, rfl, _⟩ := hv
  have HE := hmk hE
  have HS := hmk hS
  have HS' := hmk hS'
  clear hF hK hE haf hak hnm hel hr hS hS'
  have hle : E.length ≤ 9223372036854775807 := Nat.le_trans hae.le hae.max
  have hb0 := box_row w [.string nm, .int .i64 k, .bool a, .slice af F.length cf, .string el, .int .i64 rl, .slice ak K.length ck, .slice ae E.length ce] 26
  have hb1 : rowAt ((w.alloc (.cells #[.string nm, .int .i64 k, .bool a, .slice af F.length cf, .string el, .int .i64 rl, .slice ak K.length ck, .slice ae E.length ce] 26)).alloc (.cells #[.int .i64 vk, .bool vb, .int .i64 vi, .string vs, .slice val vl.length vcl, .slice vam vm.length vcm] 29)) w.heap.size 0 [.string nm, .int .i64 k, .bool a, .slice af F.length cf, .string el, .int .i64 rl, .slice ak K.length ck, .slice ae E.length ce] := hb0.keep (Below.heap_alloc _ _ _ (by rw [alloc_size]; omega))
  have hb2 : rowAt ((w.alloc (.cells #[.string nm, .int .i64 k, .bool a, .slice af F.length cf, .string el, .int .i64 rl, .slice ak K.length ck, .slice ae E.length ce] 26)).alloc (.cells #[.int .i64 vk, .bool vb, .int .i64 vi, .string vs, .slice val vl.length vcl, .slice vam vm.length vcm] 29)) (w.heap.size + 1) 0 [.int .i64 vk, .bool vb, .int .i64 vi, .string vs, .slice val vl.length vcl, .slice vam vm.length vcm] := by
    have := box_row (w.alloc (.cells #[.string nm, .int .i64 k, .bool a, .slice af F.length cf, .string el, .int .i64 rl, .slice ak K.length ck, .slice ae E.length ce] 26)) [.int .i64 vk, .bool vb, .int .i64 vi, .string vs, .slice val vl.length vcl, .slice vam vm.length vcm] 29
    rwa [alloc_size] at this
  have B0 := two_below w (.cells #[.string nm, .int .i64 k, .bool a, .slice af F.length cf, .string el, .int .i64 rl, .slice ak K.length ck, .slice ae E.length ce] 26) (.cells #[.int .i64 vk, .bool vb, .int .i64 vi, .string vs, .slice val vl.length vcl, .slice vam vm.length vcm] 29)
  have hz0 : ((w.alloc (.cells #[.string nm, .int .i64 k, .bool a, .slice af F.length cf, .string el, .int .i64 rl, .slice ak K.length ck, .slice ae E.length ce] 26)).alloc (.cells #[.int .i64 vk, .bool vb, .int .i64 vi, .string vs, .slice val vl.length vcl, .slice vam vm.length vcm] 29)).heap.size = w.heap.size + 1 + 1 := by rw [alloc_size, alloc_size]
  clear hb0
  have HKi : Hid (kindOf (V.mk vk vb vi vs vl vm) = vk) := rfl
  have HW := hmk hwt
  generalize hvv : V.mk vk vb vi vs vl vm = v at *
  clear hvv hwt
  go_enter Tryd.func10, Tryd.ntmps10
  go_wp2_with fail
  generalize ((w.alloc (.cells #[.string nm, .int .i64 k, .bool a, .slice af F.length cf, .string el, .int .i64 rl, .slice ak K.length ck, .slice ae E.length ce] 26)).alloc (.cells #[.int .i64 vk, .bool vb, .int .i64 vi, .string vs, .slice val vl.length vcl, .slice vam vm.length vcm] 29)) = w0 at *
  have HVk : Hid (∀ w', Below w0.heap.size w0 w' → v.lies false w' S' [.int .i64 vk, .bool vb, .int .i64 vi, .string vs, .slice val vl.length vcl, .slice vam vm.length vcm]) := fun w' hb => V.lies_keep (fun h => h) (fun x hx => (hb.block x (by have := HS'.out x hx; omega)).trans (B0.block x (HS'.out x hx))) (fun _ h => h) _ HV.out
  obtain ⟨f0, f1, f2, f3, f4, f5⟩ := row6z hb2
  have c1 := hmk (rcheck_any false v 0 S' _ w0 (HVk.out w0 (Below.refl _ _)) (fun x hx => by have := HS'.out x hx; omega) HW.out)
  go_wp2_with fail
  refine c1.out.mono ?_
  rintro e w1 ⟨rfl, b1⟩
  clear f0 f1 f2 f3 f4 f5 c1
  obtain ⟨f0, f1, f2, f3, f4, f5⟩ := row6z (hb2.keep (b1.block _ (by omega)))
  obtain ⟨d0, d1, d2, d3, d4, d5, d6, d7⟩ := row8z (hb1.keep (b1.block _ (by omega)))
  have hz1 := b1.size
  have c2 := hmk (rscalar_any nm k a af F.length cf el rl ak K.length ck ae E.length ce w1)
  go_wp2_with fail
  refine c2.out.mono ?_
  rintro e w2 ⟨rfl, b2⟩
  clear f0 f1 f2 f3 f4 f5 d0 d1 d2 d3 d4 d5 d6 d7 c2
  have b2' : Below w0.heap.size w0 w2 := b1.trans (b2.mono hz1)
  clear b2 b1 hz1
  obtain ⟨f0, f1, f2, f3, f4, f5⟩ := row6z (hb2.keep (b2'.block _ (by omega)))
  obtain ⟨d0, d1, d2, d3, d4, d5, d6, d7⟩ := row8z (hb1.keep (b2'.block _ (by omega)))
  have hz2 := b2'.size
  have HB := hmk (B0.trans (b2'.mono (by omega)))
  cases hsc : scB k
  · go_wp2_with fail
    go_ret
    exact ⟨by rw [isV_sc hsc]; rfl, HB.out⟩
  by_cases hvk : vk = k
  case neg =>
    have y1 : (vk != k) = true := by rw [bne_iff_ne]; exact hvk
    go_wp2_with fail
    go_ret
    exact ⟨by rw [isV_kind (by rw [HKi.out]; exact hvk)]; rfl, HB.out⟩
  subst hvk
  by_cases hok : chkE v 0 = 0
  case neg =>
    have y1 : (((chkE v 0 : Nat) : Int) != 0) = true := by rw [bne_iff_ne]; omega
    have HO : Hid (okV v = false) := by
      show _ = _
      cases ho : okV v
      · rfl
      · exact absurd ((chk_zero hsc HKi.out).2 ho) hok
    generalize chkE v 0 = Z at *
    go_wp2_with fail
    go_ret
    exact ⟨by rw [isV_ok HO.out]; rfl, HB.out⟩
  have HO : Hid (okV v = true) := (chk_zero hsc HKi.out).1 hok
  have y1 : (((chkE v 0 : Nat) : Int) != 0) = false := by rw [hok]; rfl
  generalize chkE v 0 = Z at *
  by_cases he : E.length = 0
  · have y2 : ((E.length : Int) == 0) = true := by rw [he]; rfl
    go_wp2_with fail
    go_ret
    exact ⟨by rw [isV_no hsc HKi.out HO.out he]; rfl, HB.out⟩
  have y2 : ((E.length : Int) == 0) = false := by rw [beq_eq_false_iff_ne]; omega
  have HR : Hid (isV vk E v = inV E v) := isV_in hsc HKi.out HO.out he
  generalize isV vk E v = RR at *
  go_wp2_with fail
  go_loopw [6] (fun e wr => ∃ j : Nat, j ≤ E.length ∧ e = .int .i64 (j : Int) ∧ Below w0.heap.size w0 wr ∧ Hid (inV E v = inV (E.drop j) v)) (fun e _ => E.length - (RowKit.intOf e).toNat)
  case atStart => exact ⟨0, by omega, rfl, b2', rfl⟩
  case round =>
    clear f0 f1 f2 f3 f4 f5 d0 d1 d2 d3 d4 d5 d6 d7 hz2 HB y2
    obtain ⟨j, hj, rfl, bj, HJ⟩ := hrel
    obtain ⟨f0, f1, f2, f3, f4, f5⟩ := row6z (hb2.keep (bj.block _ (by omega)))
    obtain ⟨d0, d1, d2, d3, d4, d5, d6, d7⟩ := row8z (hb1.keep (bj.block _ (by omega)))
    have hzr := bj.size
    by_cases hjl : j < E.length
    · have y3 : (j : Int) < E.length := by omega
      obtain ⟨hSb, csj, hrow, hlj⟩ := liesL_get HE.out j hjl
      obtain rfl : ae = some ⟨be, qe, none⟩ := hae.at_.resolve_left (by omega)
      have hk0 : ∀ x, S x → wr.heap[x]? = w.heap[x]? := fun x hx => (bj.block x (by have := HS.out x hx; omega)).trans (B0.block x (HS.out x hx))
      have hwj : (E[j]).wt ≤ 1099511627776 := by have := wtL_mem (List.getElem_mem hjl); omega
      obtain ⟨ek, eb, ei, es, eal, enl, ecl, eam, enm, ecm, rfl⟩ := V.ten hlj
      have rw0 := row6 (hrow.keep (hk0 _ hSb))
      have hbl : be < wr.heap.size := World.block_lt_of_cell? wr _ rw0.1
      have p0 : ∀ x : Sub wr.heap.size wr, _ := sub_cell rw0.1 hbl
      have p1 : ∀ x : Sub wr.heap.size wr, _ := sub_cell rw0.2.1 hbl
      have p2 : ∀ x : Sub wr.heap.size wr, _ := sub_cell rw0.2.2.1 hbl
      have p3 : ∀ x : Sub wr.heap.size wr, _ := sub_cell rw0.2.2.2.1 hbl
      have p4 : ∀ x : Sub wr.heap.size wr, _ := sub_cell rw0.2.2.2.2.1 hbl
      have p5 : ∀ x : Sub wr.heap.size wr, _ := sub_cell rw0.2.2.2.2.2 hbl
      have q0 : ∀ x : Sub wr.heap.size wr, _ := sub_cell f0 (by omega)
      have q1 : ∀ x : Sub wr.heap.size wr, _ := sub_cell f1 (by omega)
      have q2 : ∀ x : Sub wr.heap.size wr, _ := sub_cell f2 (by omega)
      have q3 : ∀ x : Sub wr.heap.size wr, _ := sub_cell f3 (by omega)
      have q4 : ∀ x : Sub wr.heap.size wr, _ := sub_cell f4 (by omega)
      have q5 : ∀ x : Sub wr.heap.size wr, _ := sub_cell f5 (by omega)
      have u7 : ∀ x : Sub wr.heap.size wr, _ := sub_cell d7 (by omega)
      have CI : Hid (∀ x : Sub wr.heap.size wr, Calls Tryd.prog 22 #[.agg #[.int .i64 ek, .bool eb, .int .i64 ei, .string es, .slice eal enl ecl, .slice eam enm ecm], .agg #[.int .i64 vk, .bool vb, .int .i64 vi, .string vs, .slice val vl.length vcl, .slice vam vm.length vcm]] x.w fun e w'' => e = .returned (.bool (eqlV E[j] v)) ∧ ∃ y : Sub wr.heap.size wr, w'' = y.w) :=
        sub_call fun w' hb => by
          refine (requal_any E[j] v false false S S' _ _ w' (V.lies_keep (fun h => h) (fun x hx => (hb.block x (by have := HS.out x hx; omega)).trans (hk0 x hx)) (fun _ h => h) _ hlj) (HVk.out w' (bj.trans (hb.mono hzr))) (fun x hx => by have := HS.out x hx; have := hb.size; omega) (fun x hx => by have := HS'.out x hx; have := hb.size; omega) hwj HW.out).mono ?_
          rintro e w'' ⟨he, h2⟩
          exact ⟨he, hb.trans (h2.mono hb.size)⟩
      have HD : Hid (inV E v = (eqlV E[j] v || inV (E.drop (j + 1)) v)) := by show _ = _; rw [HJ.out, inV_drop hjl]
      generalize eqlV E[j] v = Z2 at *
      clear hlj hrow rw0 HJ hk0 hwj
      go_wp2_with fail
      refine wp_region_sub wr.heap.size (by kernel_rfl) (by kernel_rfl) ?_
      repeat (go_big_quiet_step (exact CI.out _))
      refine wpQuiet_nil ?_
      rintro _ ⟨⟨wq, bq⟩, rfl⟩
      cases Z2
      · have HF : Hid (inV E v = inV (E.drop (j + 1)) v) := by show _ = _; rw [HD.out]; rfl
        go_wp2_with fail
        go_roundw
        case rel => exact ⟨j + 1, by omega, by go_num, bj.trans (bq.mono hzr), HF⟩
        case measure => simp [RowKit.intOf]; omega
      · have HF : Hid (RR = true) := by show _ = _; rw [HR.out, HD.out]; rfl
        go_wp2_with fail
        go_ret
        exact ⟨by rw [HF.out]; rfl, B0.trans ((bj.trans (bq.mono hzr)).mono (by omega))⟩
    · obtain rfl : j = E.length := by omega
      have y3 : ¬ (E.length : Int) < E.length := by omega
      have HF : Hid (RR = false) := by show _ = _; rw [HR.out, HJ.out, List.drop_length]; rfl
      go_wp2_with fail
      go_ret
      exact ⟨by rw [HF.out]; rfl, B0.trans (bj.mono (by omega))⟩
end Go.Proofs.YtaecmgkckefgoaaDoor
