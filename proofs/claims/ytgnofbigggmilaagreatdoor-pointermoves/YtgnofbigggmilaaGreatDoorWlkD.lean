import Derived.Test.YtgnofbigggmilaaGreatDoorG22
set_option linter.unusedSimpArgs false
set_option linter.unusedVariables false
namespace Go.Proofs.YtgnofbigggmilaaGreatDoor
open Go.RowKit Go.Lib
def DoC2 (f : Nat) (cap cap2 : Value) (F : V → V × Int) (S : Nat → Prop) (G : Nat) (D : V → World → World → Prop) (w : World) : Prop := ∀ (W : World) (x : V) (cs : List Value), Below w.heap.size w W → x.wt ≤ 1114112 → allG x → x.lies false W S cs → Calls Tryz.prog f #[.agg cs.toArray, cap, cap2] W (fun e W' => ∃ ds : List Value, e = .returned (.tuple #[.agg ds.toArray, .int .i64 (F x).2]) ∧ (F x).1.lies false W' (OrNew S W W') ds ∧ W.grownBy W' (some G) ∧ D x W W')
theorem DoC2.below {f : Nat} {cap cap2 : Value} {F : V → V × Int} {S : Nat → Prop} {G : Nat} {D : V → World → World → Prop} {w W : World} (h : DoC2 f cap cap2 F S G D w) (hb : Below w.heap.size w W) : DoC2 f cap cap2 F S G D W := fun W' x cs b' hwx hga hx => h W' x cs (hb.trans (b'.mono hb.size)) hwx hga hx
set_option maxHeartbeats 8000000 in
set_option maxRecDepth 100000 in
theorem walk_nil2 (f : Nat) (cap cap2 : Value) (F : V → V × Int) (S : Nat → Prop) (G : Nat) (D : V → World → World → Prop) (eg : ∀ args w, (callFunc f args).run Tryz.prog w = .ok (.enter f args) w) (v : V) (cs : List Value) (tv : Value) (w : World) (hv : v.lies false w S cs) (hS : ∀ b, S b → b < w.heap.size) (hG : G < w.heap.size) (hwt : v.wt ≤ 1114112) (hga : allG v) (ht : TokAt w tv []) (hd : DoC2 f cap cap2 F S G D w) :
 Calls Tryz.prog 38 #[.agg cs.toArray, tv, .func (.func f) #[] #[cap, cap2]] w (WkPost (wkV F v []) S G D w) := by
 obtain ⟨ta, tc, rfl⟩ : ∃ a c, tv = .slice a 0 c := by
  rcases ht with ⟨_, h⟩ | ⟨h, _⟩
  ·exact h
  ·simp at h
 have HV := hmk hv
 obtain ⟨k, b, i, s, al, nl, cl, am, nm, cm, rfl⟩ := V.ten hv
 clear hv
 have B0 : Below w.heap.size w ((w.alloc (.cells #[.int .i64 k, .bool b, .int .i64 i, .string s, .slice al nl cl, .slice am nm cm] 25)).alloc (.cells #[.int .i64 0, .bool false, .int .i64 0, .string ⟨#[]⟩, .slice none 0 0, .slice none 0 0] 25)) := two_below w _ _
 have hz0 : ((w.alloc (.cells #[.int .i64 k, .bool b, .int .i64 i, .string s, .slice al nl cl, .slice am nm cm] 25)).alloc (.cells #[.int .i64 0, .bool false, .int .i64 0, .string ⟨#[]⟩, .slice none 0 0, .slice none 0 0] 25)).heap.size = w.heap.size + 2 := by rw [alloc_size, alloc_size]
 have h1 := alloc2_new w (.cells #[.int .i64 k, .bool b, .int .i64 i, .string s, .slice al nl cl, .slice am nm cm] 25) (.cells #[.int .i64 0, .bool false, .int .i64 0, .string ⟨#[]⟩, .slice none 0 0, .slice none 0 0] 25)
 have hc := hd ((w.alloc (.cells #[.int .i64 k, .bool b, .int .i64 i, .string s, .slice al nl cl, .slice am nm cm] 25)).alloc (.cells #[.int .i64 0, .bool false, .int .i64 0, .string ⟨#[]⟩, .slice none 0 0, .slice none 0 0] 25)) v _ B0 hwt hga (lies_below HV.out hS B0)
 clear hd ht
 go_enter Tryz.func38, Tryz.ntmps38
 go_wp2_with fail
 generalize ((w.alloc (.cells #[.int .i64 k, .bool b, .int .i64 i, .string s, .slice al nl cl, .slice am nm cm] 25)).alloc (.cells #[.int .i64 0, .bool false, .int .i64 0, .string ⟨#[]⟩, .slice none 0 0, .slice none 0 0] 25)) = w0 at *
 refine hc.mono ?_
 rintro e w1 ⟨ds, rfl, hy, hg, hD⟩
 obtain ⟨ek, eb, ei, es, eal, enl, ecl, eam, enm, ecm, rfl⟩ := V.ten hy
 have HE := hmk (box_end B0 (by omega) hS hG hy hg hD 0 1 2 3 4 5 (.int .i64 ek) (.bool eb) (.int .i64 ei) (.string es) (.slice eal enl ecl) (.slice eam enm ecm))
 have t1 := (hg.block (w.heap.size + 1) (by omega) (fun e => by have := Option.some.inj e; omega)).trans h1
 obtain ⟨z0, z1, z2, z3, z4, z5⟩ := sixC t1
 have rf := frozen_of_block t1
 clear hy hg hD hc t1 h1
 go_wp2_with fail
 (try simp only [Exit.inBlock, Exit.then])
 refine bodyPost_ret (v := .tuple #[.agg #[.int .i64 ek, .bool eb, .int .i64 ei, .string es, .slice eal enl ecl, .slice eam enm ecm], .int .i64 (F v).2]) ?_ rfl ?_
 rotate_left
 ·exact ⟨[.int .i64 ek, .bool eb, .int .i64 ei, .string es, .slice eal enl ecl, .slice eam enm ecm], rfl, HE.out.1, HE.out.2.1, (fun x hx => by cases hx; exact HE.out.2.2), (fun h => by cases h)⟩
 ·rw [results_cell_tmp rfl]
  go_simp
set_option maxHeartbeats 8000000 in
set_option maxRecDepth 100000 in
theorem walk_cons2 (f : Nat) (cap cap2 : Value) (F : V → V × Int) (S : Nat → Prop) (G : Nat) (D : V → World → World → Prop) (eg : ∀ args w, (callFunc f args).run Tryz.prog w = .ok (.enter f args) w) (t : ByteArray) (ts : List ByteArray)
 (ih : ∀ (v : V) (cs : List Value) (tv : Value) (w : World), Tg w → v.lies false w S cs → (∀ b, S b → b < w.heap.size) → G < w.heap.size → v.wt ≤ 1114112 → allG v → TokAt w tv ts → DoC2 f cap cap2 F S G D w → Calls Tryz.prog 38 #[.agg cs.toArray, tv, .func (.func f) #[] #[cap, cap2]] w (WkPost (wkV F v ts) S G D w))
 (v : V) (cs : List Value) (tv : Value) (w : World) (tg : Tg w) (hv : v.lies false w S cs) (hS : ∀ b, S b → b < w.heap.size) (hSG : ¬ S G) (hG : G < w.heap.size) (hwt : v.wt ≤ 1114112) (ha : allG v) (ht : TokAt w tv (t :: ts)) (hk : t.size ≤ 281474976710656) (hl : ts.length ≤ 4000000) (hd : DoC2 f cap cap2 F S G D w) :
 Calls Tryz.prog 38 #[.agg cs.toArray, tv, .func (.func f) #[] #[cap, cap2]] w (WkPost (wkV F v (t :: ts)) S G D w) := by
 obtain ⟨tb, to_, tc, rfl, htc, htb, hrow⟩ : ∃ g o c, tv = .slice (some ⟨g, o, none⟩) (t :: ts).length c ∧ (t :: ts).length ≤ c ∧ g < w.heap.size ∧ ∀ j (h : j < (t :: ts).length), w.cell? ⟨g, o + j, none⟩ = some (.string (t :: ts)[j]) := by
  rcases ht with ⟨h, _⟩ | ⟨_, h⟩
  ·cases h
  ·exact h
 obtain ⟨tn, htn⟩ : ∃ tn, (t :: ts).length = tn := ⟨_, rfl⟩
 have htn1 : ts.length + 1 = tn := by simpa using htn
 rw [htn]
 rw [htn] at htc
 have HV := hmk hv
 obtain ⟨k, b, i, s, al, nl, cl, am, nm, cm, rfl⟩ := V.ten hv
 clear hv
 have B0 : Below w.heap.size w ((w.alloc (.cells #[.int .i64 k, .bool b, .int .i64 i, .string s, .slice al nl cl, .slice am nm cm] 25)).alloc (.cells #[.int .i64 0, .bool false, .int .i64 0, .string ⟨#[]⟩, .slice none 0 0, .slice none 0 0] 25)) := two_below w _ _
 have hz0 : ((w.alloc (.cells #[.int .i64 k, .bool b, .int .i64 i, .string s, .slice al nl cl, .slice am nm cm] 25)).alloc (.cells #[.int .i64 0, .bool false, .int .i64 0, .string ⟨#[]⟩, .slice none 0 0, .slice none 0 0] 25)).heap.size = w.heap.size + 2 := by rw [alloc_size, alloc_size]
 have h0 := alloc2_keep1 w (.cells #[.int .i64 k, .bool b, .int .i64 i, .string s, .slice al nl cl, .slice am nm cm] 25) (.cells #[.int .i64 0, .bool false, .int .i64 0, .string ⟨#[]⟩, .slice none 0 0, .slice none 0 0] 25)
 have h1 := alloc2_new w (.cells #[.int .i64 k, .bool b, .int .i64 i, .string s, .slice al nl cl, .slice am nm cm] 25) (.cells #[.int .i64 0, .bool false, .int .i64 0, .string ⟨#[]⟩, .slice none 0 0, .slice none 0 0] 25)
 have HR : Hid (∀ W, Below w.heap.size w W → W.cell? ⟨tb, to_, none⟩ = some (.string t) ∧ TokAt W (.slice (if tc = 1 then some ⟨tb, to_, none⟩ else some ⟨tb, to_ + 1, none⟩) (tn - 1) (tc - 1)) ts) := fun W hb => by
  refine ⟨(hb.cell (p := ⟨tb, to_, none⟩) htb).trans (hrow 0 (by omega)), ?_⟩
  have e : tn - 1 = ts.length := by omega
  rw [e]
  cases ts with
  | nil => exact .inl ⟨rfl, _, _, rfl⟩
  | cons t1 ts1 =>
   have h1 : (t1 :: ts1).length = ts1.length + 1 := rfl
   refine .inr ⟨by simp, tb, to_ + 1, tc - 1, by rw [if_neg (by omega)], by omega, Nat.lt_of_lt_of_le htb hb.size, fun j hj => ?_⟩
   have := hrow (j + 1) (by simpa using hj)
   rw [show to_ + 1 + j = to_ + (j + 1) by omega, (hb.cell (p := ⟨tb, to_ + (j + 1), none⟩) htb), this]
   rfl
 have HT : Hid (∀ W, Below w.heap.size w W → Tg W) := fun W hb => tg.below hb tg.z
 have HSz : Hid (∀ W, Below w.heap.size w W → ∀ b, S b → b < W.heap.size) := fun W hb x hx => Nat.lt_of_lt_of_le (hS x hx) hb.size
 have HLd : Hid (∀ W, Below w.heap.size w W → Calls Tryz.prog 44 #[.agg #[.int .i64 k, .bool b, .int .i64 i, .string s, .slice al nl cl, .slice am nm cm], .string t] W (LdPost (ledF v t) W)) := fun W hb => lead_any v t S _ W (tg.below hb tg.z) (lies_below HV.out hS hb) (fun x hx => Nat.lt_of_lt_of_le (hS x hx) hb.size) (Nat.le_trans hwt (by decide)) hk (allG_srt ha)
 have HW : Hid (wkV F v (t :: ts) = if (ledF v t).2 = 0 then (if (wkV F (kid v (ledF v t).1) ts).2.1 = 0 then (replV v (ledF v t).1 (wkV F (kid v (ledF v t).1) ts).1, 0, (wkV F (kid v (ledF v t).1) ts).2.2) else (nullV, (wkV F (kid v (ledF v t).1) ts).2.1, (wkV F (kid v (ledF v t).1) ts).2.2)) else (nullV, (ledF v t).2, none)) := by show _ = _; rfl
 have HK : Hid ((ledF v t).2 = 0 → kidAt v (ledF v t).1) := led_kid
 have IH := hmk ih
 have HD := hmk hd
 have HA := hmk ha
 clear ih hd ha ht hrow tg
 generalize wkV F v (t :: ts) = RR at *
 generalize ledF v t = P at *
 obtain ⟨p, er⟩ := P
 have y1 : (0 : Int) < tn := by omega
 have y2 : ¬ (tn : Int) = 0 := by omega
 obtain ⟨r0, r1, r2, r3, r4, r5⟩ := sixC h0
 go_enter Tryz.func38, Tryz.ntmps38
 go_wp2_with fail
 clear r0 r1 r2 r3 r4 r5
 generalize ((w.alloc (.cells #[.int .i64 k, .bool b, .int .i64 i, .string s, .slice al nl cl, .slice am nm cm] 25)).alloc (.cells #[.int .i64 0, .bool false, .int .i64 0, .string ⟨#[]⟩, .slice none 0 0, .slice none 0 0] 25)) = w0 at *
 have CL : Hid (∀ x : Sub w0.heap.size w0, Calls Tryz.prog 44 #[.agg #[.int .i64 k, .bool b, .int .i64 i, .string s, .slice al nl cl, .slice am nm cm], .string t] x.w fun e w'' => e = .returned (.tuple #[.int .i64 (p : Int), .int .i64 er]) ∧ ∃ y : Sub w0.heap.size w0, w'' = y.w) :=
  fun x => sub_call (fun w' hb => (HLd.out w' (B0.trans (hb.mono (by omega)))).mono fun e w'' ⟨he, h2⟩ => ⟨he, hb.trans (h2.mono hb.size)⟩) x
 have e1 : ∀ x : Sub w0.heap.size w0, x.w.cell? ⟨tb, to_, none⟩ = some (.string t) := fun x => (HR.out x.w (B0.trans (x.b.mono (by omega)))).1
 have s0 : ∀ x : Sub w0.heap.size w0, x.w.cell? ⟨w.heap.size, 0, none⟩ = some (.int .i64 k) := fun x => by rw [cell_of_block ((x.b.block w.heap.size (by omega)).trans h0)]; rfl
 have s1 : ∀ x : Sub w0.heap.size w0, x.w.cell? ⟨w.heap.size, 1, none⟩ = some (.bool b) := fun x => by rw [cell_of_block ((x.b.block w.heap.size (by omega)).trans h0)]; rfl
 have s2 : ∀ x : Sub w0.heap.size w0, x.w.cell? ⟨w.heap.size, 2, none⟩ = some (.int .i64 i) := fun x => by rw [cell_of_block ((x.b.block w.heap.size (by omega)).trans h0)]; rfl
 have s3 : ∀ x : Sub w0.heap.size w0, x.w.cell? ⟨w.heap.size, 3, none⟩ = some (.string s) := fun x => by rw [cell_of_block ((x.b.block w.heap.size (by omega)).trans h0)]; rfl
 have s4 : ∀ x : Sub w0.heap.size w0, x.w.cell? ⟨w.heap.size, 4, none⟩ = some (.slice al nl cl) := fun x => by rw [cell_of_block ((x.b.block w.heap.size (by omega)).trans h0)]; rfl
 have s5 : ∀ x : Sub w0.heap.size w0, x.w.cell? ⟨w.heap.size, 5, none⟩ = some (.slice am nm cm) := fun x => by rw [cell_of_block ((x.b.block w.heap.size (by omega)).trans h0)]; rfl
 refine wp_region_sub w0.heap.size (by kernel_rfl) (by kernel_rfl) ?_
 repeat (go_big_quiet_step (exact CL.out _))
 refine wpQuiet_nil ?_
 rintro wq ⟨⟨_, bq⟩, rfl⟩
 have hzq := bq.size
 have BQ := B0.trans (bq.mono (by omega))
 have q0 := (bq.block w.heap.size (by omega)).trans h0
 have q1 := (bq.block (w.heap.size + 1) (by omega)).trans h1
 clear CL e1 s0 s1 s2 s3 s4 s5 h0 h1 bq B0
 obtain ⟨a0, a1, a2, a3, a4, a5⟩ := sixC q0
 obtain ⟨z0, z1, z2, z3, z4, z5⟩ := sixC q1
 have f1 := frozen_of_block q1
 by_cases her : er = 0
 ·subst her
  have hkd := HK.out rfl
  have y3 : (1 : Int) ≤ tn := by omega
  have y4 : (tn : Int) ≤ tc := by omega
  go_wp2_with fail
  clear a0 a1 a2 a3 a4 a5
  refine wp_region_held_drew (S := fun W => W.heap[w.heap.size]? = some (.cells #[.int .i64 k, .bool b, .int .i64 i, .string s, .slice al nl cl, .slice am nm cm] 25)) (by kernel_rfl) q0 (fun hHeld => ?_)
  (refine tkA 0 ?_ ?_ ?_; rotate_left 1; (intro W0 hSw; (obtain ⟨x0, x1, x2, x3, x4, x5⟩ := sixC hSw); go_simp; (try with_reducible rfl)); (try simp only [Act.put, zA, zB, zC]))
  (refine tjA 1 ?_; (try simp only [Act.put, zA, zB, zC]))
  (refine tjA 3 ?_; (try simp only [Act.put, zA, zB, zC]))
  (refine tjA 5 ?_; (try simp only [Act.put, zA, zB, zC]))
  (refine tjA 4 ?_; (try simp only [Act.put, zA, zB, zC]))
  have TK := hmk (fun W hb => (HR.out W hb).2)
  have HH : Hid (∀ W, Below w.heap.size w W → Calls Tryz.prog 45 #[.agg #[.int .i64 k, .bool b, .int .i64 i, .string s, .slice al nl cl, .slice am nm cm], .int .i64 (p : Int)] W (HdPost (kid v p) S W)) := fun W hb => held_any v p S _ W (lies_below HV.out hS hb) (HSz.out W hb) (Nat.le_trans hwt (by decide)) hkd
  have HI : Hid (∀ (W : World) (cs : List Value) (tv : Value), Below w.heap.size w W → (kid v p).lies false W S cs → TokAt W tv ts → Calls Tryz.prog 38 #[.agg cs.toArray, tv, .func (.func f) #[] #[cap, cap2]] W (WkPost (wkV F (kid v p) ts) S G D W)) := fun W cs tv hb hx ht => IH.out (kid v p) cs tv W (HT.out W hb) hx (HSz.out W hb) (Nat.lt_of_lt_of_le hG hb.size) (Nat.le_trans (kid_wt hkd) hwt) (allG_kid HA.out hkd) ht (HD.out.below hb)
  have HRR : Hid (RR = if (wkV F (kid v p) ts).2.1 = 0 then (replV v p (wkV F (kid v p) ts).1, 0, (wkV F (kid v p) ts).2.2) else (nullV, (wkV F (kid v p) ts).2.1, (wkV F (kid v p) ts).2.2)) := by show _ = _; rw [HW.out]; rfl
  have HX : Hid (HdPost (kid v p) S = HdPost (kid v p) S) := rfl
  generalize wkV F (kid v p) ts = R3 at *
  obtain ⟨ry, re, rx⟩ := R3
  generalize (if tc = 1 then some (⟨tb, to_, none⟩ : Addr) else some ⟨tb, to_ + 1, none⟩) = tp at *
  clear HX HW HK IH HR HLd
  refine ryA [2, 10] ?_
  refine rA2 (fun K hK => ?_) fun K hK => ?_
  ·go_simp
   refine (HH.out wq.drew BQ.drew).mono ?_
   rintro e wh ⟨ch, rfl, hlh, bh⟩
   have bh' : Below wq.heap.size wq wh := ⟨bh.os, bh.tape, bh.output, bh.size, bh.block⟩
   have BH := BQ.trans (bh'.mono (by omega))
   obtain ⟨hk', hb', hi', hs', hal, hnl, hcl, ham, hnm, hcm, rfl⟩ := V.ten hlh
   have hzh : wq.heap.size ≤ wh.heap.size := bh'.size
   have u0 := (bh'.block w.heap.size (by omega)).trans q0
   have u1 := (bh'.block (w.heap.size + 1) (by omega)).trans q1
   go_simp
   refine hK.out _ _ u0 (fun hHeld => ?_)
   clear hK K
   (try simp only [Act.put, zA, zB, zC])
   refine ryA [6, 10] ?_
   refine rA2 (fun K hK => ?_) fun K hK => ?_
   ·go_simp
    refine (HI.out wh _ _ BH hlh (TK.out wh BH)).mono ?_
    rintro e ww ⟨cw, rfl, hlw, gw, lw, nw⟩
    obtain ⟨ek, eb, ei, es, eal, enl, ecl, eam, enm, ecm, rfl⟩ := V.ten hlw
    have hzw : wh.heap.size ≤ ww.heap.size := gw.size
    have v0 := (gw.block w.heap.size (by omega) (fun e => by have := Option.some.inj e; omega)).trans u0
    have v1 := (gw.block (w.heap.size + 1) (by omega) (fun e => by have := Option.some.inj e; omega)).trans u1
    go_simp
    refine hK.out _ _ v0 (fun hHeld => ?_)
    clear hK K
    (try simp only [Act.put, zA, zB, zC])
    (refine tjA 7 ?_; (try simp only [Act.put, zA, zB, zC]))
    (refine tjA 8 ?_; (try simp only [Act.put, zA, zB, zC]))
    (refine tjA 9 ?_; (try simp only [Act.put, zA, zB, zC]))
    refine ryA [10] ?_
    refine rA1 fun K hK => ?_
    go_simp
    have MF : MidF S G D w (ww.alloc (.cells #[.int .i64 0, .bool false, .int .i64 0, .string ⟨#[]⟩, .slice none 0 0, .slice none 0 0] 25)) ww.heap.size ry rx _ _ := mid_after hS hG BH (by omega) u0 u1 hlw gw lw nw
    clear gw lw nw hlw v0 v1 u0 u1 hlh
    generalize (ww.alloc (.cells #[.int .i64 0, .bool false, .int .i64 0, .string ⟨#[]⟩, .slice none 0 0, .slice none 0 0] 25)) = wy at *
    generalize ww.heap.size = X at *
    refine hK.out _ _ MF.vb (fun hHeld => ?_)
    clear hK K
    (try simp only [Act.put, zA, zB, zC])
    obtain ⟨x0, x1, x2, x3, x4, x5⟩ := sixC MF.bx
    have fx := frozen_of_block MF.bx
    refine ryA [11] ?_
    refine rA1 fun K hK => ?_
    go_simp
    have EF := end_of_mid hS hG MF
    clear x0 x1 x2 x3 x4 x5 fx MF
    generalize ((((((wy.setCell ⟨X, 0, none⟩ (.int .i64 ek)).setCell ⟨X, 1, none⟩ (.bool eb)).setCell ⟨X, 2, none⟩ (.int .i64 ei)).setCell ⟨X, 3, none⟩ (.string es)).setCell ⟨X, 4, none⟩ (.slice eal enl ecl)).setCell ⟨X, 5, none⟩ (.slice eam enm ecm)) = wz at *
    refine hK.out _ _ EF.vb (fun hHeld => ?_)
    clear hK K
    (try simp only [Act.put, zA, zB, zC])
    (refine tjA 12 ?_; (try simp only [Act.put, zA, zB, zC]))
    refine wpAnyH_done (by kernel_rfl) ?_ _
    (try dsimp only [Act.put, List.getElem_toArray, List.getElem_cons_succ, List.getElem_cons_zero, List.setIfInBounds_toArray, List.set_cons_zero, List.set_cons_succ])
    clear hHeld
    obtain ⟨d0, d1, d2, d3, d4, d5⟩ := sixC EF.rb
    have fr := frozen_of_block EF.rb
    by_cases hre : re = 0
    ·subst hre
     have HN : Hid (RR = (replV v p ry, 0, rx)) := by show _ = _; rw [HRR.out]; simp
     obtain ⟨b0, b1, b2, b3, b4, b5⟩ := sixC EF.vb
     obtain ⟨g0, g1, g2, g3, g4, g5⟩ := row6z EF.xr
     have hsz := EF.g.size
     have hSw : ∀ x, S x → wz.heap[x]? = w.heap[x]? := fun x hx => EF.g.block x (hS x hx) (fun e => hSG (by have := Option.some.inj e; rw [← this]; exact hx))
     have hrp := replaced_any v ry p (fun x => S x ∨ (w.heap.size + 2 ≤ x ∧ x < wz.heap.size)) _ _ wz (V.lies_keep (fun h => h) hSw (fun x hx => .inl hx) _ HV.out) EF.ly (fun x hx => by rcases hx with hx | hx; (have := hS x hx; omega); exact hx.2) (Nat.le_trans hwt (by decide)) hkd
     go_wp2_with fail
     refine hrp.mono ?_
     rintro e wv ⟨cv, rfl, hlv, bv⟩
     obtain ⟨vk, vb, vi, vs, val, vnl, vcl, vam, vnm, vcm, rfl⟩ := V.ten hlv
     have hi1 : w.heap.size + 1 < wz.heap.size := by have := EF.lo; have := EF.hi; omega
     have hrb := (bv.block _ hi1).trans EF.rb
     obtain ⟨m0, m1, m2, m3, m4, m5⟩ := sixC hrb
     have fr2 := frozen_of_block hrb
     have HF := hmk (fin_of_end hS hG EF bv hlv 0 (.int .i64 vk) (.bool vb) (.int .i64 vi) (.string vs) (.slice val vnl vcl) (.slice vam vnm vcm))
     clear hlv hrp EF hrb g0 g1 g2 g3 g4 g5 b0 b1 b2 b3 b4 b5 d0 d1 d2 d3 d4 d5 fr
     go_wp2_with fail
     (try simp only [Exit.inBlock, Exit.then])
     refine bodyPost_ret (v := .tuple #[.agg #[.int .i64 vk, .bool vb, .int .i64 vi, .string vs, .slice val vnl vcl, .slice vam vnm vcm], .int .i64 0]) ?_ rfl ?_
     rotate_left
     ·rw [HN.out]
      exact HF.out
     ·rw [results_cell_tmp rfl]
      go_simp
    ·have HN : Hid (RR = (nullV, re, rx)) := by show _ = _; rw [HRR.out]; simp [hre]
     have HF := hmk (fin_of_end (z := nullV) (ds := [.int .i64 0, .bool false, .int .i64 0, .string ⟨#[]⟩, .slice none 0 0, .slice none 0 0]) hS hG EF (Below.refl _ _) (null_lies _ _) re (.int .i64 0) (.bool false) (.int .i64 0) (.string ⟨#[]⟩) (.slice none 0 0) (.slice none 0 0))
     clear EF
     go_wp2_with fail
     (try simp only [Exit.inBlock, Exit.then])
     refine bodyPost_ret (v := .tuple #[.agg #[.int .i64 0, .bool false, .int .i64 0, .string ⟨#[]⟩, .slice none 0 0, .slice none 0 0], .int .i64 re]) ?_ rfl ?_
     rotate_left
     ·rw [HN.out]
      exact HF.out
     ·rw [results_cell_tmp rfl]
      go_simp
   ·go_simp
    have ba : Below wh.heap.size wh (wh.alloc (.cells #[.int .i64 0, .bool false, .int .i64 0, .string ⟨#[]⟩, .slice none 0 0, .slice none 0 0] 25)) := one_belowG _ _
    have hza : (wh.alloc (.cells #[.int .i64 0, .bool false, .int .i64 0, .string ⟨#[]⟩, .slice none 0 0, .slice none 0 0] 25)).heap.size = wh.heap.size + 1 := alloc_size _ _
    have hna := heap_alloc_new wh (.cells #[.int .i64 0, .bool false, .int .i64 0, .string ⟨#[]⟩, .slice none 0 0, .slice none 0 0] 25)
    have BA := BH.trans (ba.mono BH.size)
    have u0' := (ba.block w.heap.size (by omega)).trans u0
    have u1' := (ba.block (w.heap.size + 1) (by omega)).trans u1
    have hlh' := V.lies_keep (fun h => h) (fun x hx => ba.block x (HSz.out wh BH x hx)) (fun _ h => h) _ hlh
    clear u0 u1 hlh ba
    generalize (wh.alloc (.cells #[.int .i64 0, .bool false, .int .i64 0, .string ⟨#[]⟩, .slice none 0 0, .slice none 0 0] 25)) = wa at *
    refine hK.out _ _ u0' (fun hHeld => ?_)
    clear hK K
    (try simp only [Act.put, zA, zB, zC])
    refine ryA [6] ?_
    refine rA1 fun K hK => ?_
    go_simp
    refine (HI.out wa _ _ BA hlh' (TK.out wa BA)).mono ?_
    rintro e wy ⟨cw, rfl, hlw, gw, lw, nw⟩
    obtain ⟨ek, eb, ei, es, eal, enl, ecl, eam, enm, ecm, rfl⟩ := V.ten hlw
    have MF : MidF S G D w wy wh.heap.size ry rx _ _ := mid_before hS hG BA (by omega) (by omega) hna u0' u1' hlw gw lw nw
    clear gw lw nw hlw hlh' hna u0' u1'
    generalize wh.heap.size = X at *
    go_simp
    refine hK.out _ _ MF.vb (fun hHeld => ?_)
    clear hK K
    (try simp only [Act.put, zA, zB, zC])
    (refine tjA 7 ?_; (try simp only [Act.put, zA, zB, zC]))
    (refine tjA 8 ?_; (try simp only [Act.put, zA, zB, zC]))
    (refine tjA 9 ?_; (try simp only [Act.put, zA, zB, zC]))
    obtain ⟨x0, x1, x2, x3, x4, x5⟩ := sixC MF.bx
    have fx := frozen_of_block MF.bx
    refine ryA [11] ?_
    refine rA1 fun K hK => ?_
    go_simp
    have EF := end_of_mid hS hG MF
    clear x0 x1 x2 x3 x4 x5 fx MF
    generalize ((((((wy.setCell ⟨X, 0, none⟩ (.int .i64 ek)).setCell ⟨X, 1, none⟩ (.bool eb)).setCell ⟨X, 2, none⟩ (.int .i64 ei)).setCell ⟨X, 3, none⟩ (.string es)).setCell ⟨X, 4, none⟩ (.slice eal enl ecl)).setCell ⟨X, 5, none⟩ (.slice eam enm ecm)) = wz at *
    refine hK.out _ _ EF.vb (fun hHeld => ?_)
    clear hK K
    (try simp only [Act.put, zA, zB, zC])
    (refine tjA 12 ?_; (try simp only [Act.put, zA, zB, zC]))
    refine wpAnyH_done (by kernel_rfl) ?_ _
    (try dsimp only [Act.put, List.getElem_toArray, List.getElem_cons_succ, List.getElem_cons_zero, List.setIfInBounds_toArray, List.set_cons_zero, List.set_cons_succ])
    clear hHeld
    obtain ⟨d0, d1, d2, d3, d4, d5⟩ := sixC EF.rb
    have fr := frozen_of_block EF.rb
    by_cases hre : re = 0
    ·subst hre
     have HN : Hid (RR = (replV v p ry, 0, rx)) := by show _ = _; rw [HRR.out]; simp
     obtain ⟨b0, b1, b2, b3, b4, b5⟩ := sixC EF.vb
     obtain ⟨g0, g1, g2, g3, g4, g5⟩ := row6z EF.xr
     have hsz := EF.g.size
     have hSw : ∀ x, S x → wz.heap[x]? = w.heap[x]? := fun x hx => EF.g.block x (hS x hx) (fun e => hSG (by have := Option.some.inj e; rw [← this]; exact hx))
     have hrp := replaced_any v ry p (fun x => S x ∨ (w.heap.size + 2 ≤ x ∧ x < wz.heap.size)) _ _ wz (V.lies_keep (fun h => h) hSw (fun x hx => .inl hx) _ HV.out) EF.ly (fun x hx => by rcases hx with hx | hx; (have := hS x hx; omega); exact hx.2) (Nat.le_trans hwt (by decide)) hkd
     go_wp2_with fail
     refine hrp.mono ?_
     rintro e wv ⟨cv, rfl, hlv, bv⟩
     obtain ⟨vk, vb, vi, vs, val, vnl, vcl, vam, vnm, vcm, rfl⟩ := V.ten hlv
     have hi1 : w.heap.size + 1 < wz.heap.size := by have := EF.lo; have := EF.hi; omega
     have hrb := (bv.block _ hi1).trans EF.rb
     obtain ⟨m0, m1, m2, m3, m4, m5⟩ := sixC hrb
     have fr2 := frozen_of_block hrb
     have HF := hmk (fin_of_end hS hG EF bv hlv 0 (.int .i64 vk) (.bool vb) (.int .i64 vi) (.string vs) (.slice val vnl vcl) (.slice vam vnm vcm))
     clear hlv hrp EF hrb g0 g1 g2 g3 g4 g5 b0 b1 b2 b3 b4 b5 d0 d1 d2 d3 d4 d5 fr
     go_wp2_with fail
     (try simp only [Exit.inBlock, Exit.then])
     refine bodyPost_ret (v := .tuple #[.agg #[.int .i64 vk, .bool vb, .int .i64 vi, .string vs, .slice val vnl vcl, .slice vam vnm vcm], .int .i64 0]) ?_ rfl ?_
     rotate_left
     ·rw [HN.out]
      exact HF.out
     ·rw [results_cell_tmp rfl]
      go_simp
    ·have HN : Hid (RR = (nullV, re, rx)) := by show _ = _; rw [HRR.out]; simp [hre]
     have HF := hmk (fin_of_end (z := nullV) (ds := [.int .i64 0, .bool false, .int .i64 0, .string ⟨#[]⟩, .slice none 0 0, .slice none 0 0]) hS hG EF (Below.refl _ _) (null_lies _ _) re (.int .i64 0) (.bool false) (.int .i64 0) (.string ⟨#[]⟩) (.slice none 0 0) (.slice none 0 0))
     clear EF
     go_wp2_with fail
     (try simp only [Exit.inBlock, Exit.then])
     refine bodyPost_ret (v := .tuple #[.agg #[.int .i64 0, .bool false, .int .i64 0, .string ⟨#[]⟩, .slice none 0 0, .slice none 0 0], .int .i64 re]) ?_ rfl ?_
     rotate_left
     ·rw [HN.out]
      exact HF.out
     ·rw [results_cell_tmp rfl]
      go_simp
  ·go_simp
   have ba : Below wq.heap.size wq (wq.alloc (.cells #[.int .i64 0, .bool false, .int .i64 0, .string ⟨#[]⟩, .slice none 0 0, .slice none 0 0] 25)).drew := ((Below.refl _ _).alloc (Nat.le_refl _) _).drew
   have hza : (wq.alloc (.cells #[.int .i64 0, .bool false, .int .i64 0, .string ⟨#[]⟩, .slice none 0 0, .slice none 0 0] 25)).drew.heap.size = wq.heap.size + 1 := alloc_size wq (.cells #[.int .i64 0, .bool false, .int .i64 0, .string ⟨#[]⟩, .slice none 0 0, .slice none 0 0] 25)
   have hna : (wq.alloc (.cells #[.int .i64 0, .bool false, .int .i64 0, .string ⟨#[]⟩, .slice none 0 0, .slice none 0 0] 25)).drew.heap[wq.heap.size]? = _ := heap_alloc_new wq (.cells #[.int .i64 0, .bool false, .int .i64 0, .string ⟨#[]⟩, .slice none 0 0, .slice none 0 0] 25)
   have BA := BQ.trans (ba.mono BQ.size)
   have u0 := (ba.block w.heap.size (by omega)).trans q0
   have u1 := (ba.block (w.heap.size + 1) (by omega)).trans q1
   generalize (wq.alloc (.cells #[.int .i64 0, .bool false, .int .i64 0, .string ⟨#[]⟩, .slice none 0 0, .slice none 0 0] 25)).drew = wa at *
   refine hK.out _ _ u0 (fun hHeld => ?_)
   clear hK K
   (try simp only [Act.put, zA, zB, zC])
   refine ryA [2] ?_
   refine rA1 fun K hK => ?_
   go_simp
   refine (HH.out wa BA).mono ?_
   rintro e wh ⟨ch, rfl, hlh, bh⟩
   have BH := BA.trans (bh.mono BA.size)
   obtain ⟨hk', hb', hi', hs', hal, hnl, hcl, ham, hnm, hcm, rfl⟩ := V.ten hlh
   have hzh := bh.size
   have u0' := (bh.block w.heap.size (by omega)).trans u0
   have u1' := (bh.block (w.heap.size + 1) (by omega)).trans u1
   have hna' := (bh.block wq.heap.size (by omega)).trans hna
   clear hna u0 u1
   go_simp
   refine hK.out _ _ u0' (fun hHeld => ?_)
   clear hK K
   (try simp only [Act.put, zA, zB, zC])
   refine ryA [6] ?_
   refine rA1 fun K hK => ?_
   go_simp
   refine (HI.out wh _ _ BH hlh (TK.out wh BH)).mono ?_
   rintro e wy ⟨cw, rfl, hlw, gw, lw, nw⟩
   obtain ⟨ek, eb, ei, es, eal, enl, ecl, eam, enm, ecm, rfl⟩ := V.ten hlw
   have MF : MidF S G D w wy wq.heap.size ry rx _ _ := mid_before hS hG BH (by omega) (by omega) hna' u0' u1' hlw gw lw nw
   clear gw lw nw hlw hlh hna' u0' u1'
   generalize wq.heap.size = X at *
   go_simp
   refine hK.out _ _ MF.vb (fun hHeld => ?_)
   clear hK K
   (try simp only [Act.put, zA, zB, zC])
   (refine tjA 7 ?_; (try simp only [Act.put, zA, zB, zC]))
   (refine tjA 8 ?_; (try simp only [Act.put, zA, zB, zC]))
   (refine tjA 9 ?_; (try simp only [Act.put, zA, zB, zC]))
   obtain ⟨x0, x1, x2, x3, x4, x5⟩ := sixC MF.bx
   have fx := frozen_of_block MF.bx
   refine ryA [11] ?_
   refine rA1 fun K hK => ?_
   go_simp
   have EF := end_of_mid hS hG MF
   clear x0 x1 x2 x3 x4 x5 fx MF
   generalize ((((((wy.setCell ⟨X, 0, none⟩ (.int .i64 ek)).setCell ⟨X, 1, none⟩ (.bool eb)).setCell ⟨X, 2, none⟩ (.int .i64 ei)).setCell ⟨X, 3, none⟩ (.string es)).setCell ⟨X, 4, none⟩ (.slice eal enl ecl)).setCell ⟨X, 5, none⟩ (.slice eam enm ecm)) = wz at *
   refine hK.out _ _ EF.vb (fun hHeld => ?_)
   clear hK K
   (try simp only [Act.put, zA, zB, zC])
   (refine tjA 12 ?_; (try simp only [Act.put, zA, zB, zC]))
   refine wpAnyH_done (by kernel_rfl) ?_ _
   (try dsimp only [Act.put, List.getElem_toArray, List.getElem_cons_succ, List.getElem_cons_zero, List.setIfInBounds_toArray, List.set_cons_zero, List.set_cons_succ])
   clear hHeld
   obtain ⟨d0, d1, d2, d3, d4, d5⟩ := sixC EF.rb
   have fr := frozen_of_block EF.rb
   by_cases hre : re = 0
   ·subst hre
    have HN : Hid (RR = (replV v p ry, 0, rx)) := by show _ = _; rw [HRR.out]; simp
    obtain ⟨b0, b1, b2, b3, b4, b5⟩ := sixC EF.vb
    obtain ⟨g0, g1, g2, g3, g4, g5⟩ := row6z EF.xr
    have hsz := EF.g.size
    have hSw : ∀ x, S x → wz.heap[x]? = w.heap[x]? := fun x hx => EF.g.block x (hS x hx) (fun e => hSG (by have := Option.some.inj e; rw [← this]; exact hx))
    have hrp := replaced_any v ry p (fun x => S x ∨ (w.heap.size + 2 ≤ x ∧ x < wz.heap.size)) _ _ wz (V.lies_keep (fun h => h) hSw (fun x hx => .inl hx) _ HV.out) EF.ly (fun x hx => by rcases hx with hx | hx; (have := hS x hx; omega); exact hx.2) (Nat.le_trans hwt (by decide)) hkd
    go_wp2_with fail
    refine hrp.mono ?_
    rintro e wv ⟨cv, rfl, hlv, bv⟩
    obtain ⟨vk, vb, vi, vs, val, vnl, vcl, vam, vnm, vcm, rfl⟩ := V.ten hlv
    have hi1 : w.heap.size + 1 < wz.heap.size := by have := EF.lo; have := EF.hi; omega
    have hrb := (bv.block _ hi1).trans EF.rb
    obtain ⟨m0, m1, m2, m3, m4, m5⟩ := sixC hrb
    have fr2 := frozen_of_block hrb
    have HF := hmk (fin_of_end hS hG EF bv hlv 0 (.int .i64 vk) (.bool vb) (.int .i64 vi) (.string vs) (.slice val vnl vcl) (.slice vam vnm vcm))
    clear hlv hrp EF hrb g0 g1 g2 g3 g4 g5 b0 b1 b2 b3 b4 b5 d0 d1 d2 d3 d4 d5 fr
    go_wp2_with fail
    (try simp only [Exit.inBlock, Exit.then])
    refine bodyPost_ret (v := .tuple #[.agg #[.int .i64 vk, .bool vb, .int .i64 vi, .string vs, .slice val vnl vcl, .slice vam vnm vcm], .int .i64 0]) ?_ rfl ?_
    rotate_left
    ·rw [HN.out]
     exact HF.out
    ·rw [results_cell_tmp rfl]
     go_simp
   ·have HN : Hid (RR = (nullV, re, rx)) := by show _ = _; rw [HRR.out]; simp [hre]
    have HF := hmk (fin_of_end (z := nullV) (ds := [.int .i64 0, .bool false, .int .i64 0, .string ⟨#[]⟩, .slice none 0 0, .slice none 0 0]) hS hG EF (Below.refl _ _) (null_lies _ _) re (.int .i64 0) (.bool false) (.int .i64 0) (.string ⟨#[]⟩) (.slice none 0 0) (.slice none 0 0))
    clear EF
    go_wp2_with fail
    (try simp only [Exit.inBlock, Exit.then])
    refine bodyPost_ret (v := .tuple #[.agg #[.int .i64 0, .bool false, .int .i64 0, .string ⟨#[]⟩, .slice none 0 0, .slice none 0 0], .int .i64 re]) ?_ rfl ?_
    rotate_left
    ·rw [HN.out]
     exact HF.out
    ·rw [results_cell_tmp rfl]
     go_simp
 ·have HN : Hid (RR = (nullV, er, none)) := by show _ = _; rw [HW.out]; simp [her]
  have HX := hmk (Below.set6 BQ (show w.heap.size ≤ w.heap.size + 1 by omega) 0 1 2 3 4 5 (.int .i64 0) (.bool false) (.int .i64 0) (.string ⟨#[]⟩) (.slice none 0 0) (.slice none 0 0))
  go_wp2_with fail
  (try simp only [Exit.inBlock, Exit.then])
  refine bodyPost_ret (v := .tuple #[.agg #[.int .i64 0, .bool false, .int .i64 0, .string ⟨#[]⟩, .slice none 0 0, .slice none 0 0], .int .i64 er]) ?_ rfl ?_
  rotate_left
  ·rw [HN.out]
   exact ⟨[.int .i64 0, .bool false, .int .i64 0, .string ⟨#[]⟩, .slice none 0 0, .slice none 0 0], rfl, null_lies _ _, grown_below HX.out, (fun x h => by cases h), fun _ => HX.out⟩
  ·rw [results_cell_tmp rfl]
   go_simp
theorem walk_any2 (f : Nat) (cap cap2 : Value) (F : V → V × Int) (S : Nat → Prop) (G : Nat) (D : V → World → World → Prop) (eg : ∀ args w, (callFunc f args).run Tryz.prog w = .ok (.enter f args) w) (hSG : ¬ S G) :
 ∀ (ts : List ByteArray), (∀ t ∈ ts, t.size ≤ 281474976710656) → ts.length ≤ 4000000 → ∀ (v : V) (cs : List Value) (tv : Value) (w : World), Tg w → v.lies false w S cs → (∀ b, S b → b < w.heap.size) → G < w.heap.size → v.wt ≤ 1114112 → allG v → TokAt w tv ts → DoC2 f cap cap2 F S G D w →
 Calls Tryz.prog 38 #[.agg cs.toArray, tv, .func (.func f) #[] #[cap, cap2]] w (WkPost (wkV F v ts) S G D w)
 | [], _, _, v, cs, tv, w, _, hv, hS, hG, hwt, hga, ht, hd => walk_nil2 f cap cap2 F S G D eg v cs tv w hv hS hG hwt hga ht hd
 | t :: ts, hk, hl, v, cs, tv, w, tg, hv, hS, hG, hwt, ha, ht, hd =>
  walk_cons2 f cap cap2 F S G D eg t ts (walk_any2 f cap cap2 F S G D eg hSG ts (fun t' h => hk t' (List.mem_cons_of_mem _ h)) (by simp only [List.length_cons] at hl; omega)) v cs tv w tg hv hS hSG hG hwt ha ht (hk t List.mem_cons_self) (by simp only [List.length_cons] at hl; omega) hd
end Go.Proofs.YtgnofbigggmilaaGreatDoor
