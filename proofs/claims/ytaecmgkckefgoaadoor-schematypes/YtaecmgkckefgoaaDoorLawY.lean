import Derived.Test.YtaecmgkckefgoaaDoorTwtA
import Derived.Test.YtaecmgkckefgoaaDoorIsaA
import Derived.Test.YtaecmgkckefgoaaDoorSmtA
/- SchemaTypes: the law's own walk. -/
set_option linter.unusedSimpArgs false
set_option linter.unusedVariables false
namespace Go.Proofs.YtaecmgkckefgoaaDoor
open Go.RowKit Go.Lib
theorem ty_cells {w : World} {S : Nat → Prop} {t : Ty} {n e : ByteArray} {k r : Int} {a : Bool} {x y z : Value} (h : t.lies w S [.string n, .int .i64 k, .bool a, x, .string e, .int .i64 r, y, z]) : t.kind = k ∧ t.atomic = a ∧ t.rel = r := by
  obtain ⟨af, cf, bf, qf, ak, ck, bk, qk, ae, ce, be, qe, e, _⟩ := h
  simp only [List.cons.injEq, Value.int.injEq, Value.bool.injEq, true_and] at e
  exact ⟨e.2.1.symm, e.2.2.1.symm, e.2.2.2.2.2.1.symm⟩
set_option maxHeartbeats 8000000 in
set_option maxRecDepth 100000 in
theorem types_walk (t : Ty) (v : V) (cs ds : List Value) (w : World) (tb : Tb w) (kd : Kd w) (hl : t.lies w (Old w) cs) (hv : v.lies false w (Old w) ds) :
    Calls Tryd.prog 3 #[.agg cs.toArray, .agg ds.toArray] w (BPost true w) := by
  obtain ⟨nm, k, a, af, nf, cf, el, rl, ak, nk, ck, ae, ne, ce, rfl⟩ := Ty.eight hl
  obtain ⟨vk, vb, vi, vs, val, vnl, vcl, vam, vnm, vcm, rfl⟩ := V.ten hv
  have HL := hmk hl
  have HV := hmk hv
  have HT := hmk tb
  have HK := hmk kd
  have hb0 := box_row w [.string nm, .int .i64 k, .bool a, .slice af nf cf, .string el, .int .i64 rl, .slice ak nk ck, .slice ae ne ce] 26
  have hb1 : rowAt ((w.alloc (.cells #[.string nm, .int .i64 k, .bool a, .slice af nf cf, .string el, .int .i64 rl, .slice ak nk ck, .slice ae ne ce] 26)).alloc (.cells #[.int .i64 vk, .bool vb, .int .i64 vi, .string vs, .slice val vnl vcl, .slice vam vnm vcm] 29)) w.heap.size 0 [.string nm, .int .i64 k, .bool a, .slice af nf cf, .string el, .int .i64 rl, .slice ak nk ck, .slice ae ne ce] := hb0.keep (Below.heap_alloc _ _ _ (by rw [alloc_size]; omega))
  have hb2 : rowAt ((w.alloc (.cells #[.string nm, .int .i64 k, .bool a, .slice af nf cf, .string el, .int .i64 rl, .slice ak nk ck, .slice ae ne ce] 26)).alloc (.cells #[.int .i64 vk, .bool vb, .int .i64 vi, .string vs, .slice val vnl vcl, .slice vam vnm vcm] 29)) (w.heap.size + 1) 0 [.int .i64 vk, .bool vb, .int .i64 vi, .string vs, .slice val vnl vcl, .slice vam vnm vcm] := by
    have := box_row (w.alloc (.cells #[.string nm, .int .i64 k, .bool a, .slice af nf cf, .string el, .int .i64 rl, .slice ak nk ck, .slice ae ne ce] 26)) [.int .i64 vk, .bool vb, .int .i64 vi, .string vs, .slice val vnl vcl, .slice vam vnm vcm] 29
    rwa [alloc_size] at this
  have B0 := two_below w (.cells #[.string nm, .int .i64 k, .bool a, .slice af nf cf, .string el, .int .i64 rl, .slice ak nk ck, .slice ae ne ce] 26) (.cells #[.int .i64 vk, .bool vb, .int .i64 vi, .string vs, .slice val vnl vcl, .slice vam vnm vcm] 29)
  have hz0 : ((w.alloc (.cells #[.string nm, .int .i64 k, .bool a, .slice af nf cf, .string el, .int .i64 rl, .slice ak nk ck, .slice ae ne ce] 26)).alloc (.cells #[.int .i64 vk, .bool vb, .int .i64 vi, .string vs, .slice val vnl vcl, .slice vam vnm vcm] 29)).heap.size = w.heap.size + 1 + 1 := by rw [alloc_size, alloc_size]
  obtain ⟨d0, d1, d2, d3, d4, d5, d6, d7⟩ := row8z hb1
  have c1 := hmk (type_any t (Old w) _ ((w.alloc (.cells #[.string nm, .int .i64 k, .bool a, .slice af nf cf, .string el, .int .i64 rl, .slice ak nk ck, .slice ae ne ce] 26)).alloc (.cells #[.int .i64 vk, .bool vb, .int .i64 vi, .string vs, .slice val vnl vcl, .slice vam vnm vcm] 29)) (Ty.lies_keep (fun x hx => B0.block x hx) (fun _ h => h) HL.out) (fun x (hx : x < w.heap.size) => Nat.lt_of_lt_of_le hx B0.size))
  clear hb0 hl hv tb kd
  go_enter Tryd.func3, Tryd.ntmps3
  go_wp2_with fail
  refine c1.out.mono ?_
  rintro e w1 ⟨r, rfl, hfew, b1⟩
  clear d0 d1 d2 d3 d4 d5 d6 d7 c1
  generalize ((w.alloc (.cells #[.string nm, .int .i64 k, .bool a, .slice af nf cf, .string el, .int .i64 rl, .slice ak nk ck, .slice ae ne ce] 26)).alloc (.cells #[.int .i64 vk, .bool vb, .int .i64 vi, .string vs, .slice val vnl vcl, .slice vam vnm vcm] 29)) = w0 at *
  have b1' := B0.trans (b1.mono (by omega))
  cases r
  case true =>
    have HB := hmk b1'
    go_wp2_with fail
    go_ret
    exact ⟨rfl, HB.out⟩
  have HF := hmk (hfew rfl)
  clear hfew
  have hz1 := b1.size
  have r1 := hb1.keep (b1.block _ (by omega))
  have r2 := hb2.keep (b1.block _ (by omega))
  obtain ⟨f0, f1, f2, f3, f4, f5⟩ := row6z r2
  have c2 := hmk (beyond_any v (Old w) _ w1 (V.lies_keep (fun h => h) (fun x hx => b1'.block x hx) (fun _ h => h) _ HV.out) (fun x (hx : x < w.heap.size) => Nat.lt_of_lt_of_le hx b1'.size))
  go_wp2_with fail
  refine c2.out.mono ?_
  rintro e w2 ⟨r, rfl, hwt, b2⟩
  clear f0 f1 f2 f3 f4 f5 c2
  have hz2 := b2.size
  have b2' := b1'.trans (b2.mono b1'.size)
  cases r
  case true =>
    have HB := hmk b2'
    go_wp2_with fail
    go_ret
    exact ⟨rfl, HB.out⟩
  have hwt' := hwt rfl
  clear hwt
  have s1 := r1.keep (b2.block _ (by omega))
  have s2 := r2.keep (b2.block _ (by omega))
  clear hb1 hb2 r1 r2
  obtain ⟨d0, d1, d2, d3, d4, d5, d6, d7⟩ := row8z s1
  have c3 := hmk (twintype_any t (Old w) _ w2 (Ty.lies_keep (fun x hx => b2'.block x hx) (fun _ h => h) HL.out) (fun x (hx : x < w.heap.size) => Nat.lt_of_lt_of_le hx b2'.size) HF.out)
  go_wp2_with fail
  refine c3.out.mono ?_
  rintro e w3 ⟨gs, rfl, hg, b3⟩
  clear d0 d1 d2 d3 d4 d5 d6 d7 c3
  obtain ⟨nm', k', a', af', nf', cf', el', rl', ak', nk', ck', ae', ne', ce', rfl⟩ := Ty.eight hg
  have hz3 := b3.size
  have b3' := b2'.trans (b3.mono b2'.size)
  obtain ⟨e1, e2, e3⟩ := ty_cells HL.out
  obtain ⟨e1', e2', e3'⟩ := ty_cells hg
  obtain ⟨u1, u2, u3⟩ : k' = k ∧ a' = a ∧ rl' = rl := ⟨e1'.symm.trans e1, e2'.symm.trans e2, e3'.symm.trans e3⟩
  subst u1 u2 u3
  clear e2 e3 e1' e2' e3'
  have E1 := hmk e1
  clear e1
  have s3 := (s1.keep (b3.block _ (by omega)))
  have s4 := (s2.keep (b3.block _ (by omega)))
  have B4 : Below w.heap.size w (w3.alloc (.cells #[.string nm', .int .i64 k', .bool a', .slice af' nf' cf', .string el', .int .i64 rl', .slice ak' nk' ck', .slice ae' ne' ce'] 26)) := b3'.alloc b3'.size _
  have bl4 : Below w3.heap.size w3 (w3.alloc (.cells #[.string nm', .int .i64 k', .bool a', .slice af' nf' cf', .string el', .int .i64 rl', .slice ak' nk' ck', .slice ae' ne' ce'] 26)) := (Below.refl _ _).alloc (Nat.le_refl _) _
  have z4 : (w3.alloc (.cells #[.string nm', .int .i64 k', .bool a', .slice af' nf' cf', .string el', .int .i64 rl', .slice ak' nk' ck', .slice ae' ne' ce'] 26)).heap.size = w3.heap.size + 1 := alloc_size _ _
  have s5 := s3.keep (bl4.block _ (by omega))
  have s6 := s4.keep (bl4.block _ (by omega))
  have s7 := box_row w3 [.string nm', .int .i64 k', .bool a', .slice af' nf' cf', .string el', .int .i64 rl', .slice ak' nk' ck', .slice ae' ne' ce'] 26
  have HG : Hid (Ty.lies (w3.alloc (.cells #[.string nm', .int .i64 k', .bool a', .slice af' nf' cf', .string el', .int .i64 rl', .slice ak' nk' ck', .slice ae' ne' ce'] 26)) (Tw (Old w) w2 w3) t [.string nm', .int .i64 k', .bool a', .slice af' nf' cf', .string el', .int .i64 rl', .slice ak' nk' ck', .slice ae' ne' ce']) := Ty.lies_keep (fun x hx => bl4.block x (hx.elim (fun (h : x < w.heap.size) => by omega) (fun h => h.2))) (fun _ h => h) hg
  have HGl : Hid (∀ x, Tw (Old w) w2 w3 x → x < w3.heap.size) := fun x hx => hx.elim (fun (h : x < w.heap.size) => by omega) (fun h => h.2)
  obtain ⟨d0, d1, d2, d3, d4, d5, d6, d7⟩ := row8z s5
  obtain ⟨f0, f1, f2, f3, f4, f5⟩ := row6z s6
  obtain ⟨g0, g1, g2, g3, g4, g5, g6, g7⟩ := row8z s7
  clear s1 s2 s3 s4 s5 s6 s7 hg
  go_wp2_with fail
  generalize w3.alloc (.cells #[.string nm', .int .i64 k', .bool a', .slice af' nf' cf', .string el', .int .i64 rl', .slice ak' nk' ck', .slice ae' ne' ce'] 26) = w4 at *
  have KT : Hid (∀ W, Below w4.heap.size w4 W → Ty.lies W (Old w) t [.string nm, .int .i64 k', .bool a', .slice af nf cf, .string el, .int .i64 rl', .slice ak nk ck, .slice ae ne ce] ∧ V.lies false W (Old w) v [.int .i64 vk, .bool vb, .int .i64 vi, .string vs, .slice val vnl vcl, .slice vam vnm vcm] ∧ Ty.lies W (Tw (Old w) w2 w3) t [.string nm', .int .i64 k', .bool a', .slice af' nf' cf', .string el', .int .i64 rl', .slice ak' nk' ck', .slice ae' ne' ce'] ∧ Tb W ∧ Kd W ∧ (∀ x, Old w x → x < W.heap.size) ∧ (∀ x, Tw (Old w) w2 w3 x → x < W.heap.size)) := fun W hb => by
    have hB := B4.trans (hb.mono B4.size)
    have hbs := hb.size
    exact ⟨Ty.lies_keep (fun x hx => hB.block x hx) (fun _ h => h) HL.out, V.lies_keep (fun h => h) (fun x hx => hB.block x hx) (fun _ h => h) _ HV.out, Ty.lies_keep (fun x hx => hb.block x (by have := HGl.out x hx; omega)) (fun _ h => h) HG.out, HT.out.below hB HT.out.z, HK.out.below hB (by have := HT.out.z; omega), fun x (hx : x < w.heap.size) => Nat.lt_of_lt_of_le hx hB.size, fun x hx => by have := HGl.out x hx; omega⟩
  have C7 : Hid (∀ x : Sub w4.heap.size w4, Calls Tryd.prog 7 #[.agg #[.string nm', .int .i64 k', .bool a', .slice af' nf' cf', .string el', .int .i64 rl', .slice ak' nk' ck', .slice ae' ne' ce']] x.w fun e w'' => e = .returned (.bool (leafB k' a' rl')) ∧ ∃ y : Sub w4.heap.size w4, w'' = y.w) :=
    sub_call fun W hb => (leaf_any _ _ _ _ _ _ _ _ _ _ _ _ _ _ W).mono fun e w'' ⟨he, h2⟩ => ⟨he, hb.trans (h2.mono hb.size)⟩
  have C8 : Hid (∀ x : Sub w4.heap.size w4, Calls Tryd.prog 8 #[.agg #[.string nm, .int .i64 k', .bool a', .slice af nf cf, .string el, .int .i64 rl', .slice ak nk ck, .slice ae ne ce]] x.w fun e w'' => e = .returned (.bool (leafB k' a' rl')) ∧ ∃ y : Sub w4.heap.size w4, w'' = y.w) :=
    sub_call fun W hb => (rleaf_any _ _ _ _ _ _ _ _ _ _ _ _ _ _ W).mono fun e w'' ⟨he, h2⟩ => ⟨he, hb.trans (h2.mono hb.size)⟩
  have C9 : Hid (∀ x : Sub w4.heap.size w4, Calls Tryd.prog 9 #[.agg #[.string nm', .int .i64 k', .bool a', .slice af' nf' cf', .string el', .int .i64 rl', .slice ak' nk' ck', .slice ae' ne' ce'], .agg #[.int .i64 vk, .bool vb, .int .i64 vi, .string vs, .slice val vnl vcl, .slice vam vnm vcm]] x.w fun e w'' => e = .returned (.bool (isV t.kind t.enum v)) ∧ ∃ y : Sub w4.heap.size w4, w'' = y.w) :=
    sub_call fun W hb => by
      obtain ⟨k1, k2, k3, k4, k5, k6, k7⟩ := KT.out W hb
      exact (is_any t v _ _ _ _ W k4 k5 k3 k2 k7 k6 (by omega) HF.out.2.2).mono fun e w'' ⟨he, h2⟩ => ⟨he, hb.trans (h2.mono hb.size)⟩
  have C10 : Hid (∀ x : Sub w4.heap.size w4, Calls Tryd.prog 10 #[.agg #[.string nm, .int .i64 k', .bool a', .slice af nf cf, .string el, .int .i64 rl', .slice ak nk ck, .slice ae ne ce], .agg #[.int .i64 vk, .bool vb, .int .i64 vi, .string vs, .slice val vnl vcl, .slice vam vnm vcm]] x.w fun e w'' => e = .returned (.bool (isV t.kind t.enum v)) ∧ ∃ y : Sub w4.heap.size w4, w'' = y.w) :=
    sub_call fun W hb => by
      obtain ⟨k1, k2, k3, k4, k5, k6, k7⟩ := KT.out W hb
      exact (ris_any t v _ _ _ _ W k1 k2 k6 k6 (by omega) HF.out.2.2).mono fun e w'' ⟨he, h2⟩ => ⟨he, hb.trans (h2.mono hb.size)⟩
  have C11 : Hid (∀ x : Sub w4.heap.size w4, Calls Tryd.prog 11 #[.agg #[.string nm', .int .i64 k', .bool a', .slice af' nf' cf', .string el', .int .i64 rl', .slice ak' nk' ck', .slice ae' ne' ce'], .agg #[.string nm, .int .i64 k', .bool a', .slice af nf cf, .string el, .int .i64 rl', .slice ak nk ck, .slice ae ne ce]] x.w fun e w'' => e = .returned (.bool true) ∧ ∃ y : Sub w4.heap.size w4, w'' = y.w) :=
    sub_call fun W hb => by
      obtain ⟨k1, k2, k3, k4, k5, k6, k7⟩ := KT.out W hb
      exact (sametype_any t _ _ _ _ W k3 k1 k7 k6).mono fun e w'' ⟨he, h2⟩ => ⟨he, hb.trans (h2.mono hb.size)⟩
  have p0 : ∀ x : Sub w4.heap.size w4, _ := sub_cell d0 (by omega)
  have p1 : ∀ x : Sub w4.heap.size w4, _ := sub_cell d1 (by omega)
  have p2 : ∀ x : Sub w4.heap.size w4, _ := sub_cell d2 (by omega)
  have p3 : ∀ x : Sub w4.heap.size w4, _ := sub_cell d3 (by omega)
  have p4 : ∀ x : Sub w4.heap.size w4, _ := sub_cell d4 (by omega)
  have p5 : ∀ x : Sub w4.heap.size w4, _ := sub_cell d5 (by omega)
  have p6 : ∀ x : Sub w4.heap.size w4, _ := sub_cell d6 (by omega)
  have p7 : ∀ x : Sub w4.heap.size w4, _ := sub_cell d7 (by omega)
  have q0 : ∀ x : Sub w4.heap.size w4, _ := sub_cell f0 (by omega)
  have q1 : ∀ x : Sub w4.heap.size w4, _ := sub_cell f1 (by omega)
  have q2 : ∀ x : Sub w4.heap.size w4, _ := sub_cell f2 (by omega)
  have q3 : ∀ x : Sub w4.heap.size w4, _ := sub_cell f3 (by omega)
  have q4 : ∀ x : Sub w4.heap.size w4, _ := sub_cell f4 (by omega)
  have q5 : ∀ x : Sub w4.heap.size w4, _ := sub_cell f5 (by omega)
  have u0 : ∀ x : Sub w4.heap.size w4, _ := sub_cell g0 (by omega)
  have u1 : ∀ x : Sub w4.heap.size w4, _ := sub_cell g1 (by omega)
  have u2 : ∀ x : Sub w4.heap.size w4, _ := sub_cell g2 (by omega)
  have u3 : ∀ x : Sub w4.heap.size w4, _ := sub_cell g3 (by omega)
  have u4 : ∀ x : Sub w4.heap.size w4, _ := sub_cell g4 (by omega)
  have u5 : ∀ x : Sub w4.heap.size w4, _ := sub_cell g5 (by omega)
  have u6 : ∀ x : Sub w4.heap.size w4, _ := sub_cell g6 (by omega)
  have u7 : ∀ x : Sub w4.heap.size w4, _ := sub_cell g7 (by omega)
  generalize isV t.kind t.enum v = Z at *
  generalize leafB k' a' rl' = Y at *
  clear KT HG HGl
  have yY : (Y == Y) = true := by simp
  have yZ : (Z == Z) = true := by simp
  go_wp2_with fail
  refine wp_region_sub w4.heap.size (by kernel_rfl) (by kernel_rfl) ?_
  repeat (go_big_quiet_step (first | exact C7.out _ | exact C8.out _ | exact C9.out _ | exact C10.out _ | exact C11.out _))
  refine wpQuiet_nil ?_
  rintro wq ⟨⟨wq', bq⟩, hq⟩
  have hq' : wq = wq' := hq
  subst hq'
  clear hq
  have HB := hmk (B4.trans (bq.mono B4.size))
  go_wp2_with fail
  go_ret
  exact ⟨rfl, HB.out⟩
end Go.Proofs.YtaecmgkckefgoaaDoor
