import Derived.Test.YthlhkhcbkgbhfaaGreatDoorSmgL
/- samePath of whatever paths. -/
set_option linter.unusedSimpArgs false
set_option linter.unusedVariables false
namespace Go.Proofs.YthlhkhcbkgbhfaaGreatDoor
open Go.RowKit Go.Lib
noncomputable def sV : V → V → Bool
  | .mk k b i s l m, .mk k2 b2 i2 s2 l2 m2 => sv6 k b i s l.length m.length k2 b2 i2 s2 l2.length m2.length
open Classical in
noncomputable def sE (x y : El) : Bool := decide (x.kind = y.kind ∧ x.name = y.name ∧ x.key.length = y.key.length ∧ sV x.item y.item = true)
open Classical in
noncomputable def sM (a b : Mem) : Bool := decide (a.1 = b.1 ∧ sV a.2 b.2 = true)
/-- the same element by element -/
def sPr (p q : List El) : Prop := p.length = q.length ∧ ∀ j, (h : j < p.length) → (h' : j < q.length) → sE p[j] q[j] = true ∧ ∀ i, (hi : i < p[j].key.length) → (hi' : i < q[j].key.length) → sM p[j].key[i] q[j].key[i] = true
open Classical in
noncomputable def sP (p q : List El) : Bool := decide (sPr p q)
theorem V.tenG {R : Bool} {k : Int} {b : Bool} {i : Int} {s : ByteArray} {l : List V} {m : List Mem} {w : World} {S : Nat → Prop} {cs : List Value} (h : (V.mk k b i s l m).lies R w S cs) : ∃ (al : Option Addr) (cl : Nat) (am : Option Addr) (cm : Nat), cs = [.int .i64 k, .bool b, .int .i64 i, .string s, .slice al l.length cl, .slice am m.length cm] ∧ l.length ≤ 9223372036854775807 ∧ m.length ≤ 9223372036854775807 := by
  rw [V.lies] at h
  obtain ⟨al, cl, bl, ol, am, cm, bm, om, rfl, h1, h2, h0, h3, h4, _⟩ := h
  exact ⟨al, cl, am, cm, rfl, Nat.le_trans h3.le h3.max, Nat.le_trans h4.le h4.max⟩
open Classical in
theorem sP_no {p q : List El} (h : ¬ sPr p q) : sP p q = false := by rw [sP]; exact decide_eq_false h
open Classical in
theorem sP_yes {p q : List El} (h : sPr p q) : sP p q = true := by rw [sP]; exact decide_eq_true h
set_option maxHeartbeats 16000000 in
set_option maxRecDepth 100000 in
theorem spathG_any (p q : List El) (S S' : Nat → Prop) (ap : Option Addr) (cp bp op : Nat) (ap' : Option Addr) (cp' bp' op' : Nat) (w : World) (hap : Headed ap p.length cp bp op) (hp : liesP w S p bp op) (hap' : Headed ap' q.length cp' bp' op') (hp' : liesP w S' q bp' op') (hS : ∀ x, S x → x < w.heap.size) (hS' : ∀ x, S' x → x < w.heap.size) :
    Calls Tryz.prog 25 #[.slice ap p.length cp, .slice ap' q.length cp'] w (BPost (sP p q) w) := by
  have HP := hmk hp
  have HP' := hmk hp'
  clear hp hp'
  have hlp : p.length ≤ 9223372036854775807 := Nat.le_trans hap.le hap.max
  have hlq : q.length ≤ 9223372036854775807 := Nat.le_trans hap'.le hap'.max
  by_cases hlen : p.length = q.length
  rotate_left
  · have HF : Hid (sP p q = false) := sP_no fun h => hlen h.1
    have yy : (((p.length : Nat) : Int) != ((q.length : Nat) : Int)) = true := bne_iff_ne.2 (by omega)
    generalize sP p q = RR at *
    go_enter Tryz.func25, Tryz.ntmps25
    go_wp2_with fail
    go_ret
    exact ⟨by rw [HF.out]; rfl, Below.refl _ _⟩
  have yl : (((p.length : Nat) : Int) != ((q.length : Nat) : Int)) = false := by rw [hlen]; simp
  have HNO : Hid (∀ j, (h : j < p.length) → (h' : j < q.length) → ¬ (sE p[j] q[j] = true ∧ ∀ i, (hi : i < p[j].key.length) → (hi' : i < q[j].key.length) → sM p[j].key[i] q[j].key[i] = true) → sP p q = false) := fun j h h' hn => sP_no fun hh => hn (hh.2 j h h')
  have HYES : Hid ((∀ j, (h : j < p.length) → (h' : j < q.length) → j < p.length → sE p[j] q[j] = true ∧ ∀ i, (hi : i < p[j].key.length) → (hi' : i < q[j].key.length) → sM p[j].key[i] q[j].key[i] = true) → sP p q = true) := fun hh => sP_yes ⟨hlen, fun j h h' => hh j h h' h⟩
  generalize sP p q = RR at *
  go_enter Tryz.func25, Tryz.ntmps25
  go_wp2_with fail
  go_loopw [5] (fun e wr => ∃ j : Nat, j ≤ p.length ∧ e = .int .i64 (j : Int) ∧ Below w.heap.size w wr ∧ Hid (∀ i, (h : i < p.length) → (h' : i < q.length) → i < j → sE p[i] q[i] = true ∧ ∀ t, (hi : t < p[i].key.length) → (hi' : t < q[i].key.length) → sM p[i].key[t] q[i].key[t] = true)) (fun e _ => p.length - (RowKit.intOf e).toNat)
  case atStart => exact ⟨0, by omega, rfl, Below.refl _ _, fun i h h' hi => by omega⟩
  case round =>
    obtain ⟨j, hj, rfl, bj, HI⟩ := hrel
    have hzr := bj.size
    by_cases hjl : j < p.length
    case neg =>
      obtain rfl : j = p.length := by omega
      have y2 : ¬ (p.length : Int) < p.length := by omega
      have HF := hmk (HYES.out HI.out)
      go_wp2_with fail
      go_ret
      exact ⟨by rw [HF.out]; rfl, bj⟩
    have y2 : (j : Int) < p.length := by omega
    have hjq : j < q.length := by omega
    have y2q : (j : Int) < q.length := by omega
    obtain ⟨hSb, csj, hrow, hlj⟩ := HP.out j hjl
    obtain ⟨hSb', dsj, hrow', hlj'⟩ := HP'.out j hjq
    obtain rfl : ap = some ⟨bp, op, none⟩ := hap.at_.resolve_left (by omega)
    obtain rfl : ap' = some ⟨bp', op', none⟩ := hap'.at_.resolve_left (by omega)
    have HNJ := hmk (HNO.out j hjl hjq)
    have HST : Hid (sE p[j] q[j] = true → (∀ t, (hi : t < p[j].key.length) → (hi' : t < q[j].key.length) → t < p[j].key.length → sM p[j].key[t] q[j].key[t] = true) → ∀ i, (h : i < p.length) → (h' : i < q.length) → i < j + 1 → sE p[i] q[i] = true ∧ ∀ t, (hi : t < p[i].key.length) → (hi' : t < q[i].key.length) → sM p[i].key[t] q[i].key[t] = true) := fun h1 h2 i h h' hi => by
      by_cases e : i = j
      · subst e; exact ⟨h1, fun t hi hi' => h2 t hi hi' hi⟩
      · exact HI.out i h h' (by omega)
    clear HI HNO HYES
    generalize p[j] = pe at *
    generalize q[j] = qe at *
    obtain ⟨k, nm, m, v⟩ := pe
    obtain ⟨k', nm', m', v'⟩ := qe
    obtain ⟨xk, xb, xi, xs, xl, xm⟩ := v
    obtain ⟨yk, yb, yi, ys, yl2, ym⟩ := v'
    obtain ⟨am, cm, bm, om, is, rfl, hk, hnm, ham, hm, hv⟩ := hlj
    obtain ⟨am', cm', bm', om', is', rfl, hk', hnm', ham', hm', hv'⟩ := hlj'
    dsimp only at hk hnm ham hm hv hk' hnm' ham' hm' hv' HNJ HST hrow hrow'
    obtain ⟨xal, xcl, xam, xcm, rfl, hx1, hx2⟩ := V.tenG hv
    obtain ⟨yal, ycl, yam, ycm, rfl, hy1, hy2⟩ := V.tenG hv'
    have HM := hmk hm
    have HM' := hmk hm'
    clear hm hm' hv hv'
    have hml : m.length ≤ 9223372036854775807 := Nat.le_trans ham.le ham.max
    have hml' : m'.length ≤ 9223372036854775807 := Nat.le_trans ham'.le ham'.max
    have R0 : Hid (∀ W, Below w.heap.size w W → rowAt W bp (op + j * 9) [.int .i64 k, .string nm, .slice am m.length cm, .int .i64 xk, .bool xb, .int .i64 xi, .string xs, .slice xal xl.length xcl, .slice xam xm.length xcm]) := fun W hb => hrow.keep (hb.block _ (hS _ hSb))
    have R1 : Hid (∀ W, Below w.heap.size w W → rowAt W bp' (op' + j * 9) [.int .i64 k', .string nm', .slice am' m'.length cm', .int .i64 yk, .bool yb, .int .i64 yi, .string ys, .slice yal yl2.length ycl, .slice yam ym.length ycm]) := fun W hb => hrow'.keep (hb.block _ (hS' _ hSb'))
    have hbS := hS _ hSb
    have hbS' := hS' _ hSb'
    have rw0 := row9 (R0.out wr bj)
    have rw1 := row9 (R1.out wr bj)
    have p0 : ∀ x : Sub wr.heap.size wr, _ := sub_cell rw0.1 (show bp < wr.heap.size by omega)
    have p1 : ∀ x : Sub wr.heap.size wr, _ := sub_cell rw0.2.1 (show bp < wr.heap.size by omega)
    have p2 : ∀ x : Sub wr.heap.size wr, _ := sub_cell rw0.2.2.1 (show bp < wr.heap.size by omega)
    have p3 : ∀ x : Sub wr.heap.size wr, _ := sub_cell rw0.2.2.2.1 (show bp < wr.heap.size by omega)
    have p4 : ∀ x : Sub wr.heap.size wr, _ := sub_cell rw0.2.2.2.2.1 (show bp < wr.heap.size by omega)
    have p5 : ∀ x : Sub wr.heap.size wr, _ := sub_cell rw0.2.2.2.2.2.1 (show bp < wr.heap.size by omega)
    have p6 : ∀ x : Sub wr.heap.size wr, _ := sub_cell rw0.2.2.2.2.2.2.1 (show bp < wr.heap.size by omega)
    have p7 : ∀ x : Sub wr.heap.size wr, _ := sub_cell rw0.2.2.2.2.2.2.2.1 (show bp < wr.heap.size by omega)
    have p8 : ∀ x : Sub wr.heap.size wr, _ := sub_cell rw0.2.2.2.2.2.2.2.2 (show bp < wr.heap.size by omega)
    have q0 : ∀ x : Sub wr.heap.size wr, _ := sub_cell rw1.1 (show bp' < wr.heap.size by omega)
    have q1 : ∀ x : Sub wr.heap.size wr, _ := sub_cell rw1.2.1 (show bp' < wr.heap.size by omega)
    have q2 : ∀ x : Sub wr.heap.size wr, _ := sub_cell rw1.2.2.1 (show bp' < wr.heap.size by omega)
    have q3 : ∀ x : Sub wr.heap.size wr, _ := sub_cell rw1.2.2.2.1 (show bp' < wr.heap.size by omega)
    have q4 : ∀ x : Sub wr.heap.size wr, _ := sub_cell rw1.2.2.2.2.1 (show bp' < wr.heap.size by omega)
    have q5 : ∀ x : Sub wr.heap.size wr, _ := sub_cell rw1.2.2.2.2.2.1 (show bp' < wr.heap.size by omega)
    have q6 : ∀ x : Sub wr.heap.size wr, _ := sub_cell rw1.2.2.2.2.2.2.1 (show bp' < wr.heap.size by omega)
    have q7 : ∀ x : Sub wr.heap.size wr, _ := sub_cell rw1.2.2.2.2.2.2.2.1 (show bp' < wr.heap.size by omega)
    have q8 : ∀ x : Sub wr.heap.size wr, _ := sub_cell rw1.2.2.2.2.2.2.2.2 (show bp' < wr.heap.size by omega)
    have CI0 : Hid (∀ x : Sub wr.heap.size wr, Calls Tryz.prog 47 #[.agg #[.int .i64 xk, .bool xb, .int .i64 xi, .string xs, .slice xal xl.length xcl, .slice xam xm.length xcm], .agg #[.int .i64 yk, .bool yb, .int .i64 yi, .string ys, .slice yal yl2.length ycl, .slice yam ym.length ycm]] x.w fun e w'' => e = .returned (.bool (sv6 xk xb xi xs xl.length xm.length yk yb yi ys yl2.length ym.length)) ∧ ∃ y : Sub wr.heap.size wr, w'' = y.w) :=
      sub_call fun w' hb => (samevG_any xk xb xi xs xl.length xm.length xal xcl xam xcm yk yb yi ys yl2.length ym.length yal ycl yam ycm w' hx1 hx2 hy1 hy2).mono fun e w'' h => ⟨h.1, hb.trans (h.2.mono hb.size)⟩
    have HE1 : Hid (¬ (k = k' ∧ nm = nm' ∧ m.length = m'.length ∧ sv6 xk xb xi xs xl.length xm.length yk yb yi ys yl2.length ym.length = true) → RR = false) := fun h => HNJ.out fun hh => h (by have := hh.1; rw [sE] at this; exact of_decide_eq_true this)
    have HE2 : Hid (k = k' ∧ nm = nm' ∧ m.length = m'.length ∧ sv6 xk xb xi xs xl.length xm.length yk yb yi ys yl2.length ym.length = true → sE ⟨k, nm, m, .mk xk xb xi xs xl xm⟩ ⟨k', nm', m', .mk yk yb yi ys yl2 ym⟩ = true) := fun h => by rw [sE]; exact decide_eq_true h
    generalize sv6 xk xb xi xs xl.length xm.length yk yb yi ys yl2.length ym.length = SS at *
    clear hrow hrow' rw0 rw1
    by_cases h1 : k = k'
    rotate_left
    · have yy : (k != k') = true := bne_iff_ne.2 h1
      have HF := hmk (HE1.out fun h => h1 h.1)
      clear HNJ HST HE1 HE2 HM HM'
      go_wp2_with fail
      refine wp_region_sub wr.heap.size (by kernel_rfl) (by kernel_rfl) ?_
      repeat (go_big_quiet_step (fail))
      refine wpQuiet_nil ?_
      rintro wq ⟨⟨wq', bq⟩, hq⟩
      have hq' : wq = wq' := hq
      subst hq'
      clear hq
      go_wp2_with fail
      go_ret
      exact ⟨by rw [HF.out]; rfl, bj.trans (bq.mono hzr)⟩
    subst h1
    have yk0 : (k != k) = false := by simp
    by_cases h2 : nm = nm'
    rotate_left
    · have hn : nm.toList ≠ nm'.toList := fun q => h2 (bytes_eq q)
      have yy : (nm.toList != nm'.toList) = true := bne_iff_ne.2 hn
      have yz : (nm.toList == nm'.toList) = false := beq_eq_false_iff_ne.2 hn
      have HF := hmk (HE1.out fun h => h2 h.2.1)
      clear HNJ HST HE1 HE2 HM HM'
      go_wp2_with fail
      refine wp_region_sub wr.heap.size (by kernel_rfl) (by kernel_rfl) ?_
      repeat (go_big_quiet_step (fail))
      refine wpQuiet_nil ?_
      rintro wq ⟨⟨wq', bq⟩, hq⟩
      have hq' : wq = wq' := hq
      subst hq'
      clear hq
      go_wp2_with fail
      go_ret
      exact ⟨by rw [HF.out]; rfl, bj.trans (bq.mono hzr)⟩
    subst h2
    have yn0 : (nm.toList != nm.toList) = false := by simp
    have yn1 : (nm.toList == nm.toList) = true := by simp
    by_cases h3 : m.length = m'.length
    rotate_left
    · have yy : (((m.length : Nat) : Int) != ((m'.length : Nat) : Int)) = true := bne_iff_ne.2 (by omega)
      have HF := hmk (HE1.out fun h => h3 h.2.2.1)
      clear HNJ HST HE1 HE2 HM HM'
      go_wp2_with fail
      refine wp_region_sub wr.heap.size (by kernel_rfl) (by kernel_rfl) ?_
      repeat (go_big_quiet_step (fail))
      refine wpQuiet_nil ?_
      rintro wq ⟨⟨wq', bq⟩, hq⟩
      have hq' : wq = wq' := hq
      subst hq'
      clear hq
      go_wp2_with fail
      go_ret
      exact ⟨by rw [HF.out]; rfl, bj.trans (bq.mono hzr)⟩
    have ym0 : (((m.length : Nat) : Int) != ((m'.length : Nat) : Int)) = false := by rw [h3]; simp
    cases SS
    case false =>
      have HF := hmk (HE1.out fun h => by cases h.2.2.2)
      clear HNJ HST HE1 HE2 HM HM'
      go_wp2_with fail
      refine wp_region_sub wr.heap.size (by kernel_rfl) (by kernel_rfl) ?_
      repeat (go_big_quiet_step (exact CI0.out _))
      refine wpQuiet_nil ?_
      rintro wq ⟨⟨wq', bq⟩, hq⟩
      have hq' : wq = wq' := hq
      subst hq'
      clear hq
      go_wp2_with fail
      go_ret
      exact ⟨by rw [HF.out]; rfl, bj.trans (bq.mono hzr)⟩
    have HEY := hmk (HE2.out ⟨rfl, rfl, h3, rfl⟩)
    clear HE1 HE2
    go_wp2_with fail
    refine wp_region_sub wr.heap.size (by kernel_rfl) (by kernel_rfl) ?_
    repeat (go_big_quiet_step (exact CI0.out _))
    refine wpQuiet_nil ?_
    rintro wq ⟨⟨wq', bq⟩, hq⟩
    have hq' : wq = wq' := hq
    subst hq'
    clear hq
    have BQ := bj.trans (bq.mono hzr)
    clear p0 p1 p2 p3 p4 p5 p6 p7 p8 q0 q1 q2 q3 q4 q5 q6 q7 q8 CI0 bq bj hzr
    go_wp2_with fail
    go_loopw [6] (fun e wr => ∃ i : Nat, i ≤ m.length ∧ e = .int .i64 (i : Int) ∧ Below w.heap.size w wr ∧ Hid (∀ t, (hi : t < m.length) → (hi' : t < m'.length) → t < i → sM m[t] m'[t] = true)) (fun e _ => m.length - (RowKit.intOf e).toNat)
    case atStart => exact ⟨0, by omega, rfl, BQ, fun t hi hi' h => by omega⟩
    case round =>
      clear BQ
      obtain ⟨i, hi, rfl, bj, HIM⟩ := hrel
      have hzr := bj.size
      have rw0 := row9 (R0.out wr bj)
      have rw1 := row9 (R1.out wr bj)
      have t2 := rw0.2.2.1
      by_cases hil : i < m.length
      case neg =>
        obtain rfl : i = m.length := by omega
        have y4 : ¬ (m.length : Int) < m.length := by omega
        have HNX := hmk (HST.out HEY.out HIM.out)
        clear rw0 rw1
        go_wp2_with fail
        go_roundw
        case rel => exact ⟨j + 1, by omega, by go_num, bj, HNX⟩
        case measure => simp [RowKit.intOf]; omega
      have y4 : (i : Int) < m.length := by omega
      have hil' : i < m'.length := by omega
      have y4' : (i : Int) < m'.length := by omega
      obtain ⟨hSm, hks, csi, hrw, hli⟩ := liesM_get HM.out i hil
      obtain ⟨hSm', hks', dsi, hrw', hli'⟩ := liesM_get HM'.out i hil'
      obtain rfl : am = some ⟨bm, om, none⟩ := ham.at_.resolve_left (by omega)
      obtain rfl : am' = some ⟨bm', om', none⟩ := ham'.at_.resolve_left (by omega)
      have HNI : Hid (¬ sM m[i] m'[i] = true → RR = false) := fun h => HNJ.out fun hh => h (hh.2 i hil hil')
      have HSI : Hid (sM m[i] m'[i] = true → ∀ t, (hi : t < m.length) → (hi' : t < m'.length) → t < i + 1 → sM m[t] m'[t] = true) := fun h t hi hi' ht => by
        by_cases e : t = i
        · subst e; exact h
        · exact HIM.out t hi hi' (by omega)
      generalize m[i] = mi at *
      generalize m'[i] = mi' at *
      obtain ⟨zn, zv⟩ := mi
      obtain ⟨zn', zv'⟩ := mi'
      obtain ⟨ek, eb, ei, es, el, em⟩ := zv
      obtain ⟨fk, fb_, fi, fs, fl, fm⟩ := zv'
      dsimp only at hks hrw hli hks' hrw' hli'
      obtain ⟨eal, ecl, eam, ecm, rfl, he1, he2⟩ := V.tenG hli
      obtain ⟨fal, fcl, fam, fcm, rfl, hf1, hf2⟩ := V.tenG hli'
      have mm0 := row7 (hrw.keep (bj.block _ (hS _ hSm)))
      have mm1 := row7 (hrw'.keep (bj.block _ (hS' _ hSm')))
      have hbm := hS _ hSm
      have hbm' := hS' _ hSm'
      have p0 : ∀ x : Sub wr.heap.size wr, _ := sub_cell mm0.1 (show bm < wr.heap.size by omega)
      have p1 : ∀ x : Sub wr.heap.size wr, _ := sub_cell mm0.2.1 (show bm < wr.heap.size by omega)
      have p2 : ∀ x : Sub wr.heap.size wr, _ := sub_cell mm0.2.2.1 (show bm < wr.heap.size by omega)
      have p3 : ∀ x : Sub wr.heap.size wr, _ := sub_cell mm0.2.2.2.1 (show bm < wr.heap.size by omega)
      have p4 : ∀ x : Sub wr.heap.size wr, _ := sub_cell mm0.2.2.2.2.1 (show bm < wr.heap.size by omega)
      have p5 : ∀ x : Sub wr.heap.size wr, _ := sub_cell mm0.2.2.2.2.2.1 (show bm < wr.heap.size by omega)
      have p6 : ∀ x : Sub wr.heap.size wr, _ := sub_cell mm0.2.2.2.2.2.2 (show bm < wr.heap.size by omega)
      have q0 : ∀ x : Sub wr.heap.size wr, _ := sub_cell mm1.1 (show bm' < wr.heap.size by omega)
      have q1 : ∀ x : Sub wr.heap.size wr, _ := sub_cell mm1.2.1 (show bm' < wr.heap.size by omega)
      have q2 : ∀ x : Sub wr.heap.size wr, _ := sub_cell mm1.2.2.1 (show bm' < wr.heap.size by omega)
      have q3 : ∀ x : Sub wr.heap.size wr, _ := sub_cell mm1.2.2.2.1 (show bm' < wr.heap.size by omega)
      have q4 : ∀ x : Sub wr.heap.size wr, _ := sub_cell mm1.2.2.2.2.1 (show bm' < wr.heap.size by omega)
      have q5 : ∀ x : Sub wr.heap.size wr, _ := sub_cell mm1.2.2.2.2.2.1 (show bm' < wr.heap.size by omega)
      have q6 : ∀ x : Sub wr.heap.size wr, _ := sub_cell mm1.2.2.2.2.2.2 (show bm' < wr.heap.size by omega)
      have u2 : ∀ x : Sub wr.heap.size wr, _ := sub_cell rw0.2.2.1 (show bp < wr.heap.size by omega)
      have v2 : ∀ x : Sub wr.heap.size wr, _ := sub_cell rw1.2.2.1 (show bp' < wr.heap.size by omega)
      have CI : Hid (∀ x : Sub wr.heap.size wr, Calls Tryz.prog 47 #[.agg #[.int .i64 ek, .bool eb, .int .i64 ei, .string es, .slice eal el.length ecl, .slice eam em.length ecm], .agg #[.int .i64 fk, .bool fb_, .int .i64 fi, .string fs, .slice fal fl.length fcl, .slice fam fm.length fcm]] x.w fun e w'' => e = .returned (.bool (sv6 ek eb ei es el.length em.length fk fb_ fi fs fl.length fm.length)) ∧ ∃ y : Sub wr.heap.size wr, w'' = y.w) :=
        sub_call fun w' hb => (samevG_any ek eb ei es el.length em.length eal ecl eam ecm fk fb_ fi fs fl.length fm.length fal fcl fam fcm w' he1 he2 hf1 hf2).mono fun e w'' h => ⟨h.1, hb.trans (h.2.mono hb.size)⟩
      have HM1 : Hid (¬ (zn = zn' ∧ sv6 ek eb ei es el.length em.length fk fb_ fi fs fl.length fm.length = true) → RR = false) := fun h => HNI.out fun hh => h (by rw [sM] at hh; exact of_decide_eq_true hh)
      have HM2 : Hid (zn = zn' ∧ sv6 ek eb ei es el.length em.length fk fb_ fi fs fl.length fm.length = true → sM (zn, .mk ek eb ei es el em) (zn', .mk fk fb_ fi fs fl fm) = true) := fun h => by rw [sM]; exact decide_eq_true h
      generalize sv6 ek eb ei es el.length em.length fk fb_ fi fs fl.length fm.length = SS at *
      clear hli hli' hrw hrw' mm0 mm1 rw0 rw1 HM HM' HNI HIM
      by_cases h4 : zn = zn'
      rotate_left
      · have hn : zn.toList ≠ zn'.toList := fun q => h4 (bytes_eq q)
        have yy : (zn.toList != zn'.toList) = true := bne_iff_ne.2 hn
        have yz : (zn.toList == zn'.toList) = false := beq_eq_false_iff_ne.2 hn
        have HF := hmk (HM1.out fun h => h4 h.1)
        clear HM1 HM2 HSI
        go_wp2_with fail
        refine wp_region_sub wr.heap.size (by kernel_rfl) (by kernel_rfl) ?_
        repeat (go_big_quiet_step (fail))
        refine wpQuiet_nil ?_
        rintro wq ⟨⟨wq', bq⟩, hq⟩
        have hq' : wq = wq' := hq
        subst hq'
        clear hq
        go_wp2_with fail
        go_ret
        exact ⟨by rw [HF.out]; rfl, bj.trans (bq.mono hzr)⟩
      subst h4
      have yz0 : (zn.toList != zn.toList) = false := by simp
      have yz1 : (zn.toList == zn.toList) = true := by simp
      cases SS
      case false =>
        have HF := hmk (HM1.out fun h => by cases h.2)
        clear HM1 HM2 HSI
        go_wp2_with fail
        refine wp_region_sub wr.heap.size (by kernel_rfl) (by kernel_rfl) ?_
        repeat (go_big_quiet_step (exact CI.out _))
        refine wpQuiet_nil ?_
        rintro wq ⟨⟨wq', bq⟩, hq⟩
        have hq' : wq = wq' := hq
        subst hq'
        clear hq
        go_wp2_with fail
        go_ret
        exact ⟨by rw [HF.out]; rfl, bj.trans (bq.mono hzr)⟩
      have HNX := hmk (HSI.out (HM2.out ⟨rfl, rfl⟩))
      clear HM1 HM2 HSI
      go_wp2_with fail
      refine wp_region_sub wr.heap.size (by kernel_rfl) (by kernel_rfl) ?_
      repeat (go_big_quiet_step (exact CI.out _))
      refine wpQuiet_nil ?_
      rintro wq ⟨⟨wq', bq⟩, hq⟩
      have hq' : wq = wq' := hq
      subst hq'
      clear hq
      go_wp2_with fail
      go_roundw
      case rel => exact ⟨i + 1, by omega, by go_num, bj.trans (bq.mono hzr), HNX⟩
      case measure => simp [RowKit.intOf]; omega
end Go.Proofs.YthlhkhcbkgbhfaaGreatDoor
