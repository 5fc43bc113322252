import Derived.Test.YtaecmgkckefgoaaDoorIsxA
/- Is. -/
set_option linter.unusedSimpArgs false
set_option linter.unusedVariables false
namespace Go.Proofs.YtaecmgkckefgoaaDoor
open Go.RowKit Go.Lib
/-- the table of kinds, as far as it is read -/
structure Kd (w : World) : Prop where
  k1 : w.cell? ⟨0, 5, none⟩ = some (.int .i64 1)
  k2 : w.cell? ⟨0, 8, none⟩ = some (.int .i64 2)
  k3 : w.cell? ⟨0, 11, none⟩ = some (.int .i64 3)
theorem Kd.below {w w' : World} {B : Nat} (h : Kd w) (hb : Below B w w') (hB : 0 < B) : Kd w' :=
  ⟨(hb.cell (p := ⟨0, 5, none⟩) hB).trans h.k1, (hb.cell (p := ⟨0, 8, none⟩) hB).trans h.k2, (hb.cell (p := ⟨0, 11, none⟩) hB).trans h.k3⟩
theorem siz_ok {k : Int} {v : V} (h : scB k = true) (hk : kindOf v = k) : sizS v = okV v := by
  have := scB_true h
  rw [sizS, hk, decide_eq_true this.1, decide_eq_true this.2]; simp
set_option maxHeartbeats 8000000 in
set_option maxRecDepth 100000 in
theorem is_any (t : Ty) (v : V) (S S' : Nat → Prop) (cs ds : List Value) (w : World) (tb : Tb w) (kd : Kd w) (hl : t.lies w S cs) (hv : v.lies false w S' ds) (hS : ∀ b, S b → b < w.heap.size) (hS' : ∀ b, S' b → b < w.heap.size) (hwt : v.wt ≤ 1099511627776) (hwe : wtL t.enum ≤ 2147483647) :
    Calls Tryd.prog 9 #[.agg cs.toArray, .agg ds.toArray] w (BPost (isV t.kind t.enum v) w) := by
  obtain ⟨nm, k, a, F, el, rl, K, E⟩ := t
  obtain ⟨af, cf, bf, qf, ak, ck, bk, qk, ae, ce, be, qe, rfl, hk, hr, hnm, hel, haf, hak, hae, hF, hK, hE⟩ := hl
  dsimp only at hk hr hnm hel haf hak hae hF hK hE hwe ⊢
  obtain ⟨vk, vb, vi, vs, vl, vm⟩ := v
  have HV := hmk hv
  rw [V.lies] at hv
  obtain ⟨val, vcl, vbl, vol, vam, vcm, vbm, vom, rfl, _⟩ := hv
  have HE := hmk hE
  have HS := hmk hS
  have HS' := hmk hS'
  have HT := hmk tb
  clear hF hK hE haf hak hnm hel hr hS hS' tb
  have hle : E.length ≤ 9223372036854775807 := Nat.le_trans hae.le hae.max
  have hb0 := box_row w [.string nm, .int .i64 k, .bool a, .slice af F.length cf, .string el, .int .i64 rl, .slice ak K.length ck, .slice ae E.length ce] 26
  have hb1 : rowAt ((w.alloc (.cells #[.string nm, .int .i64 k, .bool a, .slice af F.length cf, .string el, .int .i64 rl, .slice ak K.length ck, .slice ae E.length ce] 26)).alloc (.cells #[.int .i64 vk, .bool vb, .int .i64 vi, .string vs, .slice val vl.length vcl, .slice vam vm.length vcm] 29)) w.heap.size 0 [.string nm, .int .i64 k, .bool a, .slice af F.length cf, .string el, .int .i64 rl, .slice ak K.length ck, .slice ae E.length ce] := hb0.keep (Below.heap_alloc _ _ _ (by rw [alloc_size]; omega))
  have hb2 : rowAt ((w.alloc (.cells #[.string nm, .int .i64 k, .bool a, .slice af F.length cf, .string el, .int .i64 rl, .slice ak K.length ck, .slice ae E.length ce] 26)).alloc (.cells #[.int .i64 vk, .bool vb, .int .i64 vi, .string vs, .slice val vl.length vcl, .slice vam vm.length vcm] 29)) (w.heap.size + 1) 0 [.int .i64 vk, .bool vb, .int .i64 vi, .string vs, .slice val vl.length vcl, .slice vam vm.length vcm] := by
    have := box_row (w.alloc (.cells #[.string nm, .int .i64 k, .bool a, .slice af F.length cf, .string el, .int .i64 rl, .slice ak K.length ck, .slice ae E.length ce] 26)) [.int .i64 vk, .bool vb, .int .i64 vi, .string vs, .slice val vl.length vcl, .slice vam vm.length vcm] 29
    rwa [alloc_size] at this
  have B0 := two_below w (.cells #[.string nm, .int .i64 k, .bool a, .slice af F.length cf, .string el, .int .i64 rl, .slice ak K.length ck, .slice ae E.length ce] 26) (.cells #[.int .i64 vk, .bool vb, .int .i64 vi, .string vs, .slice val vl.length vcl, .slice vam vm.length vcm] 29)
  have hz0 : ((w.alloc (.cells #[.string nm, .int .i64 k, .bool a, .slice af F.length cf, .string el, .int .i64 rl, .slice ak K.length ck, .slice ae E.length ce] 26)).alloc (.cells #[.int .i64 vk, .bool vb, .int .i64 vi, .string vs, .slice val vl.length vcl, .slice vam vm.length vcm] 29)).heap.size = w.heap.size + 1 + 1 := by rw [alloc_size, alloc_size]
  clear hb0
  have HKi : Hid (kindOf (V.mk vk vb vi vs vl vm) = vk) := rfl
  have HW := hmk hwt
  generalize hvv : V.mk vk vb vi vs vl vm = v at *
  clear hvv hwt
  go_enter Tryd.func9, Tryd.ntmps9
  go_wp2_with fail
  generalize ((w.alloc (.cells #[.string nm, .int .i64 k, .bool a, .slice af F.length cf, .string el, .int .i64 rl, .slice ak K.length ck, .slice ae E.length ce] 26)).alloc (.cells #[.int .i64 vk, .bool vb, .int .i64 vi, .string vs, .slice val vl.length vcl, .slice vam vm.length vcm] 29)) = w0 at *
  have HVk : Hid (∀ w', Below w0.heap.size w0 w' → v.lies false w' S' [.int .i64 vk, .bool vb, .int .i64 vi, .string vs, .slice val vl.length vcl, .slice vam vm.length vcm]) := fun w' hb => V.lies_keep (fun h => h) (fun x hx => (hb.block x (by have := HS'.out x hx; omega)).trans (B0.block x (HS'.out x hx))) (fun _ h => h) _ HV.out
  have HSZ : Hid (∀ {k : Int}, scB k = true → kindOf v = k → sizS v = okV v) := fun h1 h2 => siz_ok h1 h2
  have HSC : Hid (∀ x : Sub w0.heap.size w0, Calls Tryd.prog 17 #[.agg #[.int .i64 vk, .bool vb, .int .i64 vi, .string vs, .slice val vl.length vcl, .slice vam vm.length vcm]] x.w fun e w'' => e = .returned (.bool (sizS v)) ∧ ∃ y : Sub w0.heap.size w0, w'' = y.w) :=
    sub_call fun w' hb => by
      refine (scalar_any false v S' _ w' (HT.out.below (B0.trans (hb.mono (by omega))) HT.out.z) (HVk.out w' hb) (fun x hx => by have := HS'.out x hx; have := hb.size; omega) HW.out).mono ?_
      rintro e w'' ⟨he, h2⟩
      exact ⟨he, hb.trans (h2.mono hb.size)⟩
  have HSI : Hid (∀ x : Sub w0.heap.size w0, Calls Tryd.prog 15 #[.agg #[.string nm, .int .i64 k, .bool a, .slice af F.length cf, .string el, .int .i64 rl, .slice ak K.length ck, .slice ae E.length ce]] x.w fun e w'' => e = .returned (.bool (scB k)) ∧ ∃ y : Sub w0.heap.size w0, w'' = y.w) :=
    sub_call fun w' hb => by
      refine (isscalar_any nm k a af F.length cf el rl ak K.length ck ae E.length ce w').mono ?_
      rintro e w'' ⟨he, h2⟩
      exact ⟨he, hb.trans (h2.mono hb.size)⟩
  obtain ⟨f0, f1, f2, f3, f4, f5⟩ := row6z hb2
  obtain ⟨d0, d1, d2, d3, d4, d5, d6, d7⟩ := row8z hb1
  have kd0 : Kd w0 := kd.below B0 (by have := HT.out.z; omega)
  have p0 : ∀ x : Sub w0.heap.size w0, _ := sub_cell d0 (by omega)
  have p1 : ∀ x : Sub w0.heap.size w0, _ := sub_cell d1 (by omega)
  have p2 : ∀ x : Sub w0.heap.size w0, _ := sub_cell d2 (by omega)
  have p3 : ∀ x : Sub w0.heap.size w0, _ := sub_cell d3 (by omega)
  have p4 : ∀ x : Sub w0.heap.size w0, _ := sub_cell d4 (by omega)
  have p5 : ∀ x : Sub w0.heap.size w0, _ := sub_cell d5 (by omega)
  have p6 : ∀ x : Sub w0.heap.size w0, _ := sub_cell d6 (by omega)
  have p7 : ∀ x : Sub w0.heap.size w0, _ := sub_cell d7 (by omega)
  have q0 : ∀ x : Sub w0.heap.size w0, _ := sub_cell f0 (by omega)
  have q1 : ∀ x : Sub w0.heap.size w0, _ := sub_cell f1 (by omega)
  have q2 : ∀ x : Sub w0.heap.size w0, _ := sub_cell f2 (by omega)
  have q3 : ∀ x : Sub w0.heap.size w0, _ := sub_cell f3 (by omega)
  have q4 : ∀ x : Sub w0.heap.size w0, _ := sub_cell f4 (by omega)
  have q5 : ∀ x : Sub w0.heap.size w0, _ := sub_cell f5 (by omega)
  have u1 : ∀ x : Sub w0.heap.size w0, _ := sub_cell kd0.k1 (by omega)
  have u2 : ∀ x : Sub w0.heap.size w0, _ := sub_cell kd0.k2 (by omega)
  have u3 : ∀ x : Sub w0.heap.size w0, _ := sub_cell kd0.k3 (by omega)
  clear kd0 kd
  cases hsc : scB k
  · have CI17 : Hid True := trivial
    have CI15 : Hid (∀ x : Sub w0.heap.size w0, Calls Tryd.prog 15 #[.agg #[.string nm, .int .i64 k, .bool a, .slice af F.length cf, .string el, .int .i64 rl, .slice ak K.length ck, .slice ae E.length ce]] x.w fun e w'' => e = .returned (.bool false) ∧ ∃ y : Sub w0.heap.size w0, w'' = y.w) := by
      have h := HSI.out
      rw [hsc] at h
      exact h
    go_wp2_with fail
    refine wp_region_sub w0.heap.size (by kernel_rfl) (by kernel_rfl) ?_
    repeat (go_big_quiet_step (first | exact CI15.out _ | exact CI17.out _))
    refine wpQuiet_nil ?_
    rintro wq ⟨⟨wq', bq⟩, hq⟩
    have hq' : wq = wq' := hq
    subst hq'
    clear hq
    have hzq := bq.size
    have HB := hmk (B0.trans (bq.mono (by omega)))
    go_wp2_with fail
    go_ret
    exact ⟨by rw [isV_sc hsc]; rfl, HB.out⟩
  have CI15 : Hid (∀ x : Sub w0.heap.size w0, Calls Tryd.prog 15 #[.agg #[.string nm, .int .i64 k, .bool a, .slice af F.length cf, .string el, .int .i64 rl, .slice ak K.length ck, .slice ae E.length ce]] x.w fun e w'' => e = .returned (.bool true) ∧ ∃ y : Sub w0.heap.size w0, w'' = y.w) := by
    have h := HSI.out
    rw [hsc] at h
    exact h
  clear HSI
  have h3 := scB_true hsc
  have hk3 : k = 1 ∨ k = 2 ∨ k = 3 := by omega
  rcases hk3 with rfl | rfl | rfl
  · by_cases hvk : vk = 1
    case neg =>
      have y1 : (vk != 1) = true := by rw [bne_iff_ne]; exact hvk
      have CI17 : Hid True := trivial
      go_wp2_with fail
      refine wp_region_sub w0.heap.size (by kernel_rfl) (by kernel_rfl) ?_
      repeat (go_big_quiet_step (first | exact CI15.out _ | exact CI17.out _))
      refine wpQuiet_nil ?_
      rintro wq ⟨⟨wq', bq⟩, hq⟩
      have hq' : wq = wq' := hq
      subst hq'
      clear hq
      have hzq := bq.size
      have HB := hmk (B0.trans (bq.mono (by omega)))
      go_wp2_with fail
      go_ret
      exact ⟨by rw [isV_kind (by rw [HKi.out]; exact hvk)]; rfl, HB.out⟩
    subst hvk
    cases hok : okV v with
    | false =>
      have CI17 : Hid (∀ x : Sub w0.heap.size w0, Calls Tryd.prog 17 #[.agg #[.int .i64 1, .bool vb, .int .i64 vi, .string vs, .slice val vl.length vcl, .slice vam vm.length vcm]] x.w fun e w'' => e = .returned (.bool false) ∧ ∃ y : Sub w0.heap.size w0, w'' = y.w) := by
        have h := HSC.out
        rw [HSZ.out hsc HKi.out, hok] at h
        exact h
      go_wp2_with fail
      refine wp_region_sub w0.heap.size (by kernel_rfl) (by kernel_rfl) ?_
      repeat (go_big_quiet_step (first | exact CI15.out _ | exact CI17.out _))
      refine wpQuiet_nil ?_
      rintro wq ⟨⟨wq', bq⟩, hq⟩
      have hq' : wq = wq' := hq
      subst hq'
      clear hq
      have hzq := bq.size
      have HB := hmk (B0.trans (bq.mono (by omega)))
      go_wp2_with fail
      go_ret
      exact ⟨by rw [isV_ok hok]; rfl, HB.out⟩
    | true =>
      have CI17 : Hid (∀ x : Sub w0.heap.size w0, Calls Tryd.prog 17 #[.agg #[.int .i64 1, .bool vb, .int .i64 vi, .string vs, .slice val vl.length vcl, .slice vam vm.length vcm]] x.w fun e w'' => e = .returned (.bool true) ∧ ∃ y : Sub w0.heap.size w0, w'' = y.w) := by
        have h := HSC.out
        rw [HSZ.out hsc HKi.out, hok] at h
        exact h
      go_wp2_with fail
      refine wp_region_sub w0.heap.size (by kernel_rfl) (by kernel_rfl) ?_
      repeat (go_big_quiet_step (first | exact CI15.out _ | exact CI17.out _))
      refine wpQuiet_nil ?_
      rintro wq ⟨⟨wq', bq⟩, hq⟩
      have hq' : wq = wq' := hq
      subst hq'
      clear hq
      have hzq := bq.size
      have HB := hmk (B0.trans (bq.mono (by omega)))
      clear d0 d1 d2 d3 d4 d5 d6 d7 f0 f1 f2 f3 f4 f5 p0 p1 p2 p3 p4 p5 p6 p7 q0 q1 q2 q3 q4 q5 u1 u2 u3 CI15 CI17
      obtain ⟨d0, d1, d2, d3, d4, d5, d6, d7⟩ := row8z (hb1.keep (bq.block _ (by omega)))
      by_cases he : E.length = 0
      · have y2 : ((E.length : Int) == 0) = true := by rw [he]; rfl
        go_wp2_with fail
        go_ret
        exact ⟨by rw [isV_no hsc HKi.out hok he]; rfl, HB.out⟩
      have y2 : ((E.length : Int) == 0) = false := by rw [beq_eq_false_iff_ne]; omega
      have HR : Hid (isV 1 E v = inV E v) := isV_in hsc HKi.out hok he
      have c := hmk (containsf_any E v (w.heap.size + 1) S S' ae ce be qe _ wq (HT.out.below HB.out HT.out.z) hae (liesL_keep (fun h => h) (fun x hx => HB.out.block x (HS.out x hx)) (fun _ h => h) _ HE.out) (HVk.out wq bq) (hb2.keep (bq.block _ (by omega))) (fun x hx => Nat.lt_of_lt_of_le (HS.out x hx) HB.out.size) (fun x hx => Nat.lt_of_lt_of_le (HS'.out x hx) HB.out.size) hwe HW.out)
      generalize isV 1 E v = RR at *
      go_wp2_with fail
      refine c.out.mono ?_
      rintro e w3 ⟨rfl, b3⟩
      go_wp2_with fail
      go_ret
      exact ⟨by rw [HR.out]; rfl, HB.out.trans (b3.mono HB.out.size)⟩
  · by_cases hvk : vk = 2
    case neg =>
      have y1 : (vk != 2) = true := by rw [bne_iff_ne]; exact hvk
      have CI17 : Hid True := trivial
      go_wp2_with fail
      refine wp_region_sub w0.heap.size (by kernel_rfl) (by kernel_rfl) ?_
      repeat (go_big_quiet_step (first | exact CI15.out _ | exact CI17.out _))
      refine wpQuiet_nil ?_
      rintro wq ⟨⟨wq', bq⟩, hq⟩
      have hq' : wq = wq' := hq
      subst hq'
      clear hq
      have hzq := bq.size
      have HB := hmk (B0.trans (bq.mono (by omega)))
      go_wp2_with fail
      go_ret
      exact ⟨by rw [isV_kind (by rw [HKi.out]; exact hvk)]; rfl, HB.out⟩
    subst hvk
    cases hok : okV v with
    | false =>
      have CI17 : Hid (∀ x : Sub w0.heap.size w0, Calls Tryd.prog 17 #[.agg #[.int .i64 2, .bool vb, .int .i64 vi, .string vs, .slice val vl.length vcl, .slice vam vm.length vcm]] x.w fun e w'' => e = .returned (.bool false) ∧ ∃ y : Sub w0.heap.size w0, w'' = y.w) := by
        have h := HSC.out
        rw [HSZ.out hsc HKi.out, hok] at h
        exact h
      go_wp2_with fail
      refine wp_region_sub w0.heap.size (by kernel_rfl) (by kernel_rfl) ?_
      repeat (go_big_quiet_step (first | exact CI15.out _ | exact CI17.out _))
      refine wpQuiet_nil ?_
      rintro wq ⟨⟨wq', bq⟩, hq⟩
      have hq' : wq = wq' := hq
      subst hq'
      clear hq
      have hzq := bq.size
      have HB := hmk (B0.trans (bq.mono (by omega)))
      go_wp2_with fail
      go_ret
      exact ⟨by rw [isV_ok hok]; rfl, HB.out⟩
    | true =>
      have CI17 : Hid (∀ x : Sub w0.heap.size w0, Calls Tryd.prog 17 #[.agg #[.int .i64 2, .bool vb, .int .i64 vi, .string vs, .slice val vl.length vcl, .slice vam vm.length vcm]] x.w fun e w'' => e = .returned (.bool true) ∧ ∃ y : Sub w0.heap.size w0, w'' = y.w) := by
        have h := HSC.out
        rw [HSZ.out hsc HKi.out, hok] at h
        exact h
      go_wp2_with fail
      refine wp_region_sub w0.heap.size (by kernel_rfl) (by kernel_rfl) ?_
      repeat (go_big_quiet_step (first | exact CI15.out _ | exact CI17.out _))
      refine wpQuiet_nil ?_
      rintro wq ⟨⟨wq', bq⟩, hq⟩
      have hq' : wq = wq' := hq
      subst hq'
      clear hq
      have hzq := bq.size
      have HB := hmk (B0.trans (bq.mono (by omega)))
      clear d0 d1 d2 d3 d4 d5 d6 d7 f0 f1 f2 f3 f4 f5 p0 p1 p2 p3 p4 p5 p6 p7 q0 q1 q2 q3 q4 q5 u1 u2 u3 CI15 CI17
      obtain ⟨d0, d1, d2, d3, d4, d5, d6, d7⟩ := row8z (hb1.keep (bq.block _ (by omega)))
      by_cases he : E.length = 0
      · have y2 : ((E.length : Int) == 0) = true := by rw [he]; rfl
        go_wp2_with fail
        go_ret
        exact ⟨by rw [isV_no hsc HKi.out hok he]; rfl, HB.out⟩
      have y2 : ((E.length : Int) == 0) = false := by rw [beq_eq_false_iff_ne]; omega
      have HR : Hid (isV 2 E v = inV E v) := isV_in hsc HKi.out hok he
      have c := hmk (containsf_any E v (w.heap.size + 1) S S' ae ce be qe _ wq (HT.out.below HB.out HT.out.z) hae (liesL_keep (fun h => h) (fun x hx => HB.out.block x (HS.out x hx)) (fun _ h => h) _ HE.out) (HVk.out wq bq) (hb2.keep (bq.block _ (by omega))) (fun x hx => Nat.lt_of_lt_of_le (HS.out x hx) HB.out.size) (fun x hx => Nat.lt_of_lt_of_le (HS'.out x hx) HB.out.size) hwe HW.out)
      generalize isV 2 E v = RR at *
      go_wp2_with fail
      refine c.out.mono ?_
      rintro e w3 ⟨rfl, b3⟩
      go_wp2_with fail
      go_ret
      exact ⟨by rw [HR.out]; rfl, HB.out.trans (b3.mono HB.out.size)⟩
  · by_cases hvk : vk = 3
    case neg =>
      have y1 : (vk != 3) = true := by rw [bne_iff_ne]; exact hvk
      have CI17 : Hid True := trivial
      go_wp2_with fail
      refine wp_region_sub w0.heap.size (by kernel_rfl) (by kernel_rfl) ?_
      repeat (go_big_quiet_step (first | exact CI15.out _ | exact CI17.out _))
      refine wpQuiet_nil ?_
      rintro wq ⟨⟨wq', bq⟩, hq⟩
      have hq' : wq = wq' := hq
      subst hq'
      clear hq
      have hzq := bq.size
      have HB := hmk (B0.trans (bq.mono (by omega)))
      go_wp2_with fail
      go_ret
      exact ⟨by rw [isV_kind (by rw [HKi.out]; exact hvk)]; rfl, HB.out⟩
    subst hvk
    cases hok : okV v with
    | false =>
      have CI17 : Hid (∀ x : Sub w0.heap.size w0, Calls Tryd.prog 17 #[.agg #[.int .i64 3, .bool vb, .int .i64 vi, .string vs, .slice val vl.length vcl, .slice vam vm.length vcm]] x.w fun e w'' => e = .returned (.bool false) ∧ ∃ y : Sub w0.heap.size w0, w'' = y.w) := by
        have h := HSC.out
        rw [HSZ.out hsc HKi.out, hok] at h
        exact h
      go_wp2_with fail
      refine wp_region_sub w0.heap.size (by kernel_rfl) (by kernel_rfl) ?_
      repeat (go_big_quiet_step (first | exact CI15.out _ | exact CI17.out _))
      refine wpQuiet_nil ?_
      rintro wq ⟨⟨wq', bq⟩, hq⟩
      have hq' : wq = wq' := hq
      subst hq'
      clear hq
      have hzq := bq.size
      have HB := hmk (B0.trans (bq.mono (by omega)))
      go_wp2_with fail
      go_ret
      exact ⟨by rw [isV_ok hok]; rfl, HB.out⟩
    | true =>
      have CI17 : Hid (∀ x : Sub w0.heap.size w0, Calls Tryd.prog 17 #[.agg #[.int .i64 3, .bool vb, .int .i64 vi, .string vs, .slice val vl.length vcl, .slice vam vm.length vcm]] x.w fun e w'' => e = .returned (.bool true) ∧ ∃ y : Sub w0.heap.size w0, w'' = y.w) := by
        have h := HSC.out
        rw [HSZ.out hsc HKi.out, hok] at h
        exact h
      go_wp2_with fail
      refine wp_region_sub w0.heap.size (by kernel_rfl) (by kernel_rfl) ?_
      repeat (go_big_quiet_step (first | exact CI15.out _ | exact CI17.out _))
      refine wpQuiet_nil ?_
      rintro wq ⟨⟨wq', bq⟩, hq⟩
      have hq' : wq = wq' := hq
      subst hq'
      clear hq
      have hzq := bq.size
      have HB := hmk (B0.trans (bq.mono (by omega)))
      clear d0 d1 d2 d3 d4 d5 d6 d7 f0 f1 f2 f3 f4 f5 p0 p1 p2 p3 p4 p5 p6 p7 q0 q1 q2 q3 q4 q5 u1 u2 u3 CI15 CI17
      obtain ⟨d0, d1, d2, d3, d4, d5, d6, d7⟩ := row8z (hb1.keep (bq.block _ (by omega)))
      by_cases he : E.length = 0
      · have y2 : ((E.length : Int) == 0) = true := by rw [he]; rfl
        go_wp2_with fail
        go_ret
        exact ⟨by rw [isV_no hsc HKi.out hok he]; rfl, HB.out⟩
      have y2 : ((E.length : Int) == 0) = false := by rw [beq_eq_false_iff_ne]; omega
      have HR : Hid (isV 3 E v = inV E v) := isV_in hsc HKi.out hok he
      have c := hmk (containsf_any E v (w.heap.size + 1) S S' ae ce be qe _ wq (HT.out.below HB.out HT.out.z) hae (liesL_keep (fun h => h) (fun x hx => HB.out.block x (HS.out x hx)) (fun _ h => h) _ HE.out) (HVk.out wq bq) (hb2.keep (bq.block _ (by omega))) (fun x hx => Nat.lt_of_lt_of_le (HS.out x hx) HB.out.size) (fun x hx => Nat.lt_of_lt_of_le (HS'.out x hx) HB.out.size) hwe HW.out)
      generalize isV 3 E v = RR at *
      go_wp2_with fail
      refine c.out.mono ?_
      rintro e w3 ⟨rfl, b3⟩
      go_wp2_with fail
      go_ret
      exact ⟨by rw [HR.out]; rfl, HB.out.trans (b3.mono HB.out.size)⟩
end Go.Proofs.YtaecmgkckefgoaaDoor
