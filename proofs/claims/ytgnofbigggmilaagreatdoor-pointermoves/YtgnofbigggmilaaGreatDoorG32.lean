/- joined: PutW RdyB SdoS -/
import Derived.Test.YtgnofbigggmilaaGreatDoorG24
set_option linter.unusedSimpArgs false
set_option linter.unusedVariables false
namespace Go.Proofs.YtgnofbigggmilaaGreatDoor
open Go.RowKit Go.Lib
theorem wtL_set : ∀ (l : List V) (j : Nat) (h : j < l.length) (y : V), wtL (l.set j y) + (l[j]).wt = wtL l + y.wt
 | [], j, h, y => by simp at h
 | x :: t, 0, h, y => by simp only [List.set_cons_zero, wtL, List.getElem_cons_zero]; omega
 | x :: t, j + 1, h, y => by
  have := wtL_set t j (by simpa using h) y
  simp only [List.set_cons_succ, wtL, List.getElem_cons_succ]; omega
theorem wtM_set : ∀ (l : List Mem) (j : Nat) (h : j < l.length) (y : V), wtM (l.set j ((l[j]).1, y)) + (l[j]).2.wt = wtM l + y.wt
 | [], j, h, y => by simp at h
 | (k, x) :: t, 0, h, y => by simp only [List.set_cons_zero, wtM, List.getElem_cons_zero]; omega
 | (k, x) :: t, j + 1, h, y => by
  have := wtM_set t j (by simpa using h) y
  simp only [List.set_cons_succ, wtM, List.getElem_cons_succ]; omega
theorem wtL_ins (l : List V) (j : Nat) (x : V) : wtL (insL l j x) = wtL l + x.wt := by
 have e : wtL l = wtL (l.take j) + wtL (l.drop j) := by rw [← wtL_app, List.take_append_drop]
 rw [insL, wtL_app, wtL_app, e]
 simp only [wtL]; omega
theorem wtM_ins (l : List Mem) (j : Nat) (t : ByteArray) (x : V) : wtM (insL l j (t, x)) = wtM l + t.size + x.wt := by
 have e : wtM l = wtM (l.take j) + wtM (l.drop j) := by rw [← wtM_app, List.take_append_drop]
 rw [insL, wtM_app, wtM_app, e]
 simp only [wtM]; omega
theorem wtL_out : ∀ (l : List V) (j : Nat), wtL (outL l j) ≤ wtL l
 | [], j => by simp [outL, wtL]
 | x :: t, 0 => by rw [outL_zero]; simp only [wtL]; omega
 | x :: t, j + 1 => by have := wtL_out t j; rw [outL_succ]; simp only [wtL]; omega
theorem wtM_out : ∀ (l : List Mem) (j : Nat), wtM (outL l j) ≤ wtM l
 | [], j => by simp [outL, wtM]
 | (k, x) :: t, 0 => by rw [outL_zero]; simp only [wtM]; omega
 | (k, x) :: t, j + 1 => by have := wtM_out t j; rw [outL_succ]; simp only [wtM]; omega
theorem repl_wt {v : V} {j : Nat} (hj : kidAt v j) (y : V) : (replV v j y).wt + (kid v j).wt = v.wt + y.wt := by
 obtain ⟨k, b, i, s, l, m⟩ := v
 rcases hj with ⟨hk, hj⟩ | ⟨hk, hj⟩
 ·have hk' : k = 4 := hk
  subst hk'
  have hj' : j < l.length := hj
  have e : kid (.mk 4 b i s l m) j = l[j] := by
   show (l.getD j nullV) = _
   rw [List.getD_eq_getElem?_getD, List.getElem?_eq_getElem hj']; rfl
  rw [e, replV, if_pos rfl]
  have := wtL_set l j hj' y
  simp only [V.wt]; omega
 ·have hk' : k = 5 := hk
  subst hk'
  have hj' : j < m.length := hj
  have e : kid (.mk 5 b i s l m) j = (m[j]).2 := by
   show (m.getD j (⟨#[]⟩, nullV)).2 = _
   rw [List.getD_eq_getElem?_getD, List.getElem?_eq_getElem hj']; rfl
  have e2 : (m.getD j (⟨#[]⟩, nullV)).1 = (m[j]).1 := by rw [List.getD_eq_getElem?_getD, List.getElem?_eq_getElem hj']; rfl
  rw [e, replV, if_neg (by decide), e2]
  have := wtM_set m j hj' y
  simp only [V.wt]; omega
theorem null_wt : nullV.wt = 1 := by decide
theorem wk_heavy (F : V → V × Int) (c : Nat) (hF : ∀ y, (F y).1.wt ≤ y.wt + c) : ∀ (ts : List ByteArray) (v : V), (wkV F v ts).1.wt ≤ v.wt + c
 | [], v => by rw [wkV]; exact hF v
 | t :: ts, v => by
  rw [wkV]
  have hp := V.wt_pos v
  have hn := null_wt
  split
  ·rename_i h0
   split
   ·have h1 := repl_wt (led_kid h0) (wkV F (kid v (ledF v t).1) ts).1
    have h2 := wk_heavy F c hF ts (kid v (ledF v t).1)
    show (replV _ _ _).wt ≤ _
    omega
   ·show nullV.wt ≤ _; omega
  ·show nullV.wt ≤ _; omega
theorem add_heavy (t : ByteArray) (x : V) (y : V) : (addF y t x).1.wt ≤ y.wt + (t.size + x.wt) := by
 obtain ⟨k, b, i, s, l, m⟩ := y
 have hp := V.wt_pos (.mk k b i s l m)
 have hn := null_wt
 rw [addF]
 split
 ·rename_i hk
  subst hk
  split
  ·rename_i hq
   have hp : posF m t < m.length := by
    rcases Nat.lt_or_ge (posF m t) m.length with h | h
    ·exact h
    ·rw [List.getElem?_eq_none h] at hq; simp [keyIs] at hq
   have := repl_wt (v := .mk 5 b i s l m) (j := posF m t) (.inr ⟨rfl, hp⟩) x
   simp only
   omega
  ·show (V.mk _ _ _ _ _ _).wt ≤ _
   simp only [V.wt, wtM_ins]; omega
 ·split
  ·cases gapF t l.length with
   | none => show nullV.wt ≤ _; omega
   | some j =>
    show (V.mk _ _ _ _ _ _).wt ≤ _
    simp only [V.wt, wtL_ins]; omega
  ·show nullV.wt ≤ _; omega
theorem tak_heavy (t : ByteArray) (y : V) : (takFn t y).1.wt ≤ y.wt + 0 := by
 have hp := V.wt_pos y
 have hn := null_wt
 rw [takFn]
 split
 ·obtain ⟨k, b, i, s, l, m⟩ := y
  simp only [remV]
  split
  ·have := wtL_out l (ledF (.mk k b i s l m) t).1
   simp only [V.wt]; omega
  ·have := wtM_out m (ledF (.mk k b i s l m) t).1
   simp only [V.wt]; omega
 ·show nullV.wt ≤ _; omega
def Rd2Post (rd : Int) (o : Option (List (List UInt8))) (w : World) (e : Ending) (w' : World) : Prop := ∃ (tv : Value) (l : List ByteArray), e = .returned (.tuple #[tv, .int .i64 rd]) ∧ (rd = 0 → dat l = o.getD []) ∧ (rd ≠ 0 → tv = .slice none 0 0 ∧ l = []) ∧ LiesS w' tv l ∧ Below w.heap.size w w'
set_option maxHeartbeats 8000000 in
set_option maxRecDepth 100000 in
theorem ready2_any (v : V) (p : ByteArray) (x : V) (S : Nat → Prop) (cs ds : List Value) (M : Nat) (w : World) (tb : Tb w) (tp : Tp w) (hv : v.lies false w S cs) (hx : x.lies false w S ds) (hrow : rowAt w M 0 ds) (hM : M < w.heap.size) (hS : ∀ b, S b → b < w.heap.size) (hwt : v.wt ≤ 1099511627776) (hwx : x.wt ≤ 1099511627776) (hp : p.size ≤ 3900000) : Calls Tryz.prog 36 #[.agg cs.toArray, .string p, .slice (some ⟨M, 0, none⟩) 1 1] w (Rd2Post (rd2F v p x) (parF p.data.toList) w) := by
 have HV := hmk hv
 have HX : Hid (∀ W, Below w.heap.size w W → Calls Tryz.prog 20 #[.agg ds.toArray, .int .i64 40] W (NPost (chkE x 40) W)) := fun W hb => check_any false x 40 S _ W (tb.below hb tb.z) (lies_below hx hS hb) (fun y hy => Nat.lt_of_lt_of_le (hS y hy) hb.size) hwx
 obtain ⟨k, b, i, s, al, nl, cl, am, nm, cm, rfl⟩ := V.ten hv
 obtain ⟨xk, xb, xi, xs, xal, xnl, xcl, xam, xnm, xcm, rfl⟩ := V.ten hx
 clear hv hx
 have B0 : Below w.heap.size w (w.alloc (.cells #[.int .i64 k, .bool b, .int .i64 i, .string s, .slice al nl cl, .slice am nm cm] 25)) := one_belowG w _
 have hz0 : w.heap.size < (w.alloc (.cells #[.int .i64 k, .bool b, .int .i64 i, .string s, .slice al nl cl, .slice am nm cm] 25)).heap.size := by rw [alloc_size]; omega
 have h0 : (w.alloc (.cells #[.int .i64 k, .bool b, .int .i64 i, .string s, .slice al nl cl, .slice am nm cm] 25)).heap[w.heap.size]? = _ := heap_alloc_new w _
 have HC := hmk (check_any false v 40 S _ (w.alloc (.cells #[.int .i64 k, .bool b, .int .i64 i, .string s, .slice al nl cl, .slice am nm cm] 25)) (tb.below B0 tb.z) (lies_below HV.out hS B0) (fun x hx => Nat.lt_of_lt_of_le (hS x hx) B0.size) hwt)
 have HP : Hid (∀ W, Below w.heap.size w W → Calls Tryz.prog 30 #[.string p] W (PaPost (parF p.data.toList) W)) := fun W hb => pparse_any p W (by omega) (tp.below hb tp.z)
 have HR : Hid (rd2F v p x = if (if chkE v 40 = 0 then (if (parF p.data.toList).isSome then 0 else 40) else (chkE v 40 : Int)) = 0 then (chkE x 40 : Int) else (if chkE v 40 = 0 then (if (parF p.data.toList).isSome then 0 else 40) else (chkE v 40 : Int))) := by show _ = _; rfl
 generalize rd2F v p x = rd at *
 generalize chkE v 40 = ce at *
 generalize chkE x 40 = cx at *
 generalize parF p.data.toList = O at *
 clear tb tp hwt
 have r0 : (w.alloc (.cells #[.int .i64 k, .bool b, .int .i64 i, .string s, .slice al nl cl, .slice am nm cm] 25)).cell? ⟨w.heap.size, 0, none⟩ = some (.int .i64 k) := by rw [cell_of_block h0]; rfl
 have r1 : (w.alloc (.cells #[.int .i64 k, .bool b, .int .i64 i, .string s, .slice al nl cl, .slice am nm cm] 25)).cell? ⟨w.heap.size, 1, none⟩ = some (.bool b) := by rw [cell_of_block h0]; rfl
 have r2 : (w.alloc (.cells #[.int .i64 k, .bool b, .int .i64 i, .string s, .slice al nl cl, .slice am nm cm] 25)).cell? ⟨w.heap.size, 2, none⟩ = some (.int .i64 i) := by rw [cell_of_block h0]; rfl
 have r3 : (w.alloc (.cells #[.int .i64 k, .bool b, .int .i64 i, .string s, .slice al nl cl, .slice am nm cm] 25)).cell? ⟨w.heap.size, 3, none⟩ = some (.string s) := by rw [cell_of_block h0]; rfl
 have r4 : (w.alloc (.cells #[.int .i64 k, .bool b, .int .i64 i, .string s, .slice al nl cl, .slice am nm cm] 25)).cell? ⟨w.heap.size, 4, none⟩ = some (.slice al nl cl) := by rw [cell_of_block h0]; rfl
 have r5 : (w.alloc (.cells #[.int .i64 k, .bool b, .int .i64 i, .string s, .slice al nl cl, .slice am nm cm] 25)).cell? ⟨w.heap.size, 5, none⟩ = some (.slice am nm cm) := by rw [cell_of_block h0]; rfl
 go_enter Tryz.func36, Tryz.ntmps36
 go_wp2_with fail
 clear r0 r1 r2 r3 r4 r5
 generalize (w.alloc (.cells #[.int .i64 k, .bool b, .int .i64 i, .string s, .slice al nl cl, .slice am nm cm] 25)) = w0 at *
 refine HC.out.mono ?_
 rintro e w1 ⟨rfl, b1⟩
 have hz1 := b1.size
 have B1 := B0.trans (b1.mono (by omega))
 by_cases hce : ce = 0
 ·subst hce
  go_wp2_with fail
  refine (HP.out w1 B1).mono ?_
  rintro e w2 ⟨tv, l, rfl, hd, hl, b2⟩
  have hz2 := b2.size
  have B2 := B1.trans (b2.mono (by omega))
  cases O with
  | none =>
   have HN : Hid (rd = 40) := by show _ = _; rw [HR.out]; simp
   go_wp2_with fail
   go_ret2
   exact ⟨_, [], by rw [HN.out]; rfl, (fun h => by rw [HN.out] at h; omega), (fun _ => ⟨rfl, rfl⟩), liesS_nil _, B2⟩
  | some o =>
   have HN : Hid (rd = (cx : Int)) := by show _ = _; rw [HR.out]; simp
   obtain ⟨c0, c1, c2, c3, c4, c5⟩ := row6z (fun q u hu => (B2.cell (p := ⟨M, _, none⟩) hM).trans (hrow q u hu))
   have bX : Below w2.heap.size w2 (w2.alloc (.cells #[.int .i64 xk, .bool xb, .int .i64 xi, .string xs, .slice xal xnl xcl, .slice xam xnm xcm] 25)) := one_belowG _ _
   have BX := B2.trans (bX.mono B2.size)
   have hX := heap_alloc_new w2 (.cells #[.int .i64 xk, .bool xb, .int .i64 xi, .string xs, .slice xal xnl xcl, .slice xam xnm xcm] 25)
   have e0 : (w2.alloc (.cells #[.int .i64 xk, .bool xb, .int .i64 xi, .string xs, .slice xal xnl xcl, .slice xam xnm xcm] 25)).cell? ⟨w2.heap.size, 0, none⟩ = some (.int .i64 xk) := by rw [cell_of_block hX]; rfl
   have e1 : (w2.alloc (.cells #[.int .i64 xk, .bool xb, .int .i64 xi, .string xs, .slice xal xnl xcl, .slice xam xnm xcm] 25)).cell? ⟨w2.heap.size, 1, none⟩ = some (.bool xb) := by rw [cell_of_block hX]; rfl
   have e2 : (w2.alloc (.cells #[.int .i64 xk, .bool xb, .int .i64 xi, .string xs, .slice xal xnl xcl, .slice xam xnm xcm] 25)).cell? ⟨w2.heap.size, 2, none⟩ = some (.int .i64 xi) := by rw [cell_of_block hX]; rfl
   have e3 : (w2.alloc (.cells #[.int .i64 xk, .bool xb, .int .i64 xi, .string xs, .slice xal xnl xcl, .slice xam xnm xcm] 25)).cell? ⟨w2.heap.size, 3, none⟩ = some (.string xs) := by rw [cell_of_block hX]; rfl
   have e4 : (w2.alloc (.cells #[.int .i64 xk, .bool xb, .int .i64 xi, .string xs, .slice xal xnl xcl, .slice xam xnm xcm] 25)).cell? ⟨w2.heap.size, 4, none⟩ = some (.slice xal xnl xcl) := by rw [cell_of_block hX]; rfl
   have e5 : (w2.alloc (.cells #[.int .i64 xk, .bool xb, .int .i64 xi, .string xs, .slice xal xnl xcl, .slice xam xnm xcm] 25)).cell? ⟨w2.heap.size, 5, none⟩ = some (.slice xam xnm xcm) := by rw [cell_of_block hX]; rfl
   have CX := hmk (HX.out _ BX)
   have hzX : w2.heap.size < (w2.alloc (.cells #[.int .i64 xk, .bool xb, .int .i64 xi, .string xs, .slice xal xnl xcl, .slice xam xnm xcm] 25)).heap.size := by rw [alloc_size]; omega
   go_wp2_with fail
   refine wp_loop_rounds 2 ?_
   rw [rounds_succ]
   go_wp2_with fail
   clear c0 c1 c2 c3 c4 c5 e0 e1 e2 e3 e4 e5 hX
   generalize (w2.alloc (.cells #[.int .i64 xk, .bool xb, .int .i64 xi, .string xs, .slice xal xnl xcl, .slice xam xnm xcm] 25)) = w3 at *
   refine CX.out.mono ?_
   rintro e w4 ⟨rfl, b4⟩
   have hz4 := b4.size
   have B4 := BX.trans (b4.mono BX.size)
   have b24 := bX.trans (b4.mono (by omega))
   by_cases hcx : cx = 0
   ·subst hcx
    have HL := hmk (hl.below b24)
    go_wp2_with fail
    rw [rounds_succ]
    go_wp2_with fail
    go_ret2
    exact ⟨tv, l, by rw [HN.out]; rfl, (fun _ => hd), (fun h => absurd HN.out h), HL.out, B4⟩
   ·have y1 : ¬ (cx : Int) = 0 := by omega
    go_wp2_with fail
    go_ret2
    exact ⟨_, [], by rw [HN.out]; rfl, (fun h => by rw [HN.out] at h; omega), (fun _ => ⟨rfl, rfl⟩), liesS_nil _, B4⟩
 ·have HN : Hid (rd = (ce : Int)) := by show _ = _; rw [HR.out, if_neg hce, if_neg (by omega)]
  have y1 : ¬ (ce : Int) = 0 := by omega
  go_wp2_with fail
  go_ret2
  exact ⟨_, [], by rw [HN.out]; rfl, (fun h => by rw [HN.out] at h; omega), (fun _ => ⟨rfl, rfl⟩), liesS_nil _, B1⟩
theorem psplit_any (ts : List ByteArray) (tv : Value) (w : World) (hl : LiesS w tv ts) (hn : ts ≠ []) (hlen : ts.length ≤ 4000000) : Calls Tryz.prog 40 #[tv] w (fun e w' => ∃ ta : Value, e = .returned (.tuple #[ta, .string (lastT ts)]) ∧ TokAt w' ta ts.dropLast ∧ Below w.heap.size w w') := by
 obtain ⟨⟨_, _, _⟩, h2⟩ := hl
 have hpos : 0 < ts.length := List.length_pos_iff.2 hn
 obtain ⟨g, o, c, rfl, hc, hg, hcell⟩ := h2 hpos
 have x := hcell (ts.length - 1) (by omega)
 have e1 : ts[ts.length - 1]'(by omega) = lastT ts := by
  rw [lastT, List.getLastD_eq_getLast?, List.getLast?_eq_getElem?, List.getElem?_eq_getElem (by omega)]; rfl
 rw [e1] at x
 have HT : Hid (∀ W, Below w.heap.size w W → TokAt W (.slice (some ⟨g, o, none⟩) (ts.length - 1) c) ts.dropLast) := fun W hb => by
  by_cases h1 : ts.length = 1
  ·refine .inl ⟨List.length_eq_zero_iff.1 (by rw [List.length_dropLast]; omega), some ⟨g, o, none⟩, c, by rw [h1]⟩
  ·refine .inr ⟨by rw [List.length_dropLast]; omega, g, o, c, by rw [List.length_dropLast], by rw [List.length_dropLast]; omega, Nat.lt_of_lt_of_le hg hb.size, fun j hj => ?_⟩
   rw [List.length_dropLast] at hj
   rw [List.getElem_dropLast]
   exact (hb.cell (p := ⟨g, o + j, none⟩) hg).trans (hcell j (by omega))
 obtain ⟨n, hn'⟩ : ∃ n, ts.length = n + 1 := ⟨ts.length - 1, by omega⟩
 rw [hn'] at x HT hc ⊢
 simp only [Nat.add_sub_cancel] at x HT
 generalize lastT ts = la at *
 have y1 : (n : Int) ≤ c := by omega
 have y2 : ((n + 1 : Nat) : Int) - 1 = (n : Int) := by omega
 have y3 : (n : Int) < ((n + 1 : Nat) : Int) := by omega
 have y4 : ((n + 1 : Nat) : Int) = (n : Int) + 1 := by omega
 clear hcell
 go_enter Tryz.func40, Tryz.ntmps40
 go_wp2_with fail
 go_quiet (fail)
 go_wp2_with fail
 go_ret2
 exact ⟨_, rfl, HT.out _ (below_drewN _ _ _), below_drewN _ _ _⟩
theorem do_fin {S : Nat → Prop} {W w3 : World} {B G : Nat} {x : V} {c0 c1 c2 c3 c4 c5 : Value} (hS : ∀ b, S b → b < W.heap.size) (B3 : W.grownBy w3 (some G)) (hB : W.heap.size + 2 ≤ B) (hz : W.heap.size + 2 ≤ w3.heap.size) (hG : G < W.heap.size) (hx : x.lies false w3 (fun y => S y ∨ (B ≤ y ∧ y < w3.heap.size)) [c0, c1, c2, c3, c4, c5]) :
 x.lies false ((((((w3.setCell ⟨W.heap.size + 1, 0, none⟩ (c0)).setCell ⟨W.heap.size + 1, 1, none⟩ (c1)).setCell ⟨W.heap.size + 1, 2, none⟩ (c2)).setCell ⟨W.heap.size + 1, 3, none⟩ (c3)).setCell ⟨W.heap.size + 1, 4, none⟩ (c4)).setCell ⟨W.heap.size + 1, 5, none⟩ (c5)) (OrNew S W ((((((w3.setCell ⟨W.heap.size + 1, 0, none⟩ (c0)).setCell ⟨W.heap.size + 1, 1, none⟩ (c1)).setCell ⟨W.heap.size + 1, 2, none⟩ (c2)).setCell ⟨W.heap.size + 1, 3, none⟩ (c3)).setCell ⟨W.heap.size + 1, 4, none⟩ (c4)).setCell ⟨W.heap.size + 1, 5, none⟩ (c5))) [c0, c1, c2, c3, c4, c5] ∧ W.grownBy ((((((w3.setCell ⟨W.heap.size + 1, 0, none⟩ (c0)).setCell ⟨W.heap.size + 1, 1, none⟩ (c1)).setCell ⟨W.heap.size + 1, 2, none⟩ (c2)).setCell ⟨W.heap.size + 1, 3, none⟩ (c3)).setCell ⟨W.heap.size + 1, 4, none⟩ (c4)).setCell ⟨W.heap.size + 1, 5, none⟩ (c5)) (some G) ∧ (∀ y, y ≠ W.heap.size + 1 → ((((((w3.setCell ⟨W.heap.size + 1, 0, none⟩ (c0)).setCell ⟨W.heap.size + 1, 1, none⟩ (c1)).setCell ⟨W.heap.size + 1, 2, none⟩ (c2)).setCell ⟨W.heap.size + 1, 3, none⟩ (c3)).setCell ⟨W.heap.size + 1, 4, none⟩ (c4)).setCell ⟨W.heap.size + 1, 5, none⟩ (c5)).heap[y]? = w3.heap[y]?) := by
 have hot : ∀ y, y ≠ W.heap.size + 1 → ((((((w3.setCell ⟨W.heap.size + 1, 0, none⟩ (c0)).setCell ⟨W.heap.size + 1, 1, none⟩ (c1)).setCell ⟨W.heap.size + 1, 2, none⟩ (c2)).setCell ⟨W.heap.size + 1, 3, none⟩ (c3)).setCell ⟨W.heap.size + 1, 4, none⟩ (c4)).setCell ⟨W.heap.size + 1, 5, none⟩ (c5)).heap[y]? = w3.heap[y]? := fun y hy => by
  repeat (rw [set_other hy])
 have g2 : w3.grownBy ((((((w3.setCell ⟨W.heap.size + 1, 0, none⟩ (c0)).setCell ⟨W.heap.size + 1, 1, none⟩ (c1)).setCell ⟨W.heap.size + 1, 2, none⟩ (c2)).setCell ⟨W.heap.size + 1, 3, none⟩ (c3)).setCell ⟨W.heap.size + 1, 4, none⟩ (c4)).setCell ⟨W.heap.size + 1, 5, none⟩ (c5)) (some (W.heap.size + 1)) := grown_set (grown_set (grown_set (grown_set (grown_set (grown_set (World.grownBy.refl w3 _) 0 c0) 1 c1) 2 c2) 3 c3) 4 c4) 5 c5
 have s2 : ((((((w3.setCell ⟨W.heap.size + 1, 0, none⟩ (c0)).setCell ⟨W.heap.size + 1, 1, none⟩ (c1)).setCell ⟨W.heap.size + 1, 2, none⟩ (c2)).setCell ⟨W.heap.size + 1, 3, none⟩ (c3)).setCell ⟨W.heap.size + 1, 4, none⟩ (c4)).setCell ⟨W.heap.size + 1, 5, none⟩ (c5)).heap.size = w3.heap.size := by simp only [size_set1]
 generalize ((((((w3.setCell ⟨W.heap.size + 1, 0, none⟩ (c0)).setCell ⟨W.heap.size + 1, 1, none⟩ (c1)).setCell ⟨W.heap.size + 1, 2, none⟩ (c2)).setCell ⟨W.heap.size + 1, 3, none⟩ (c3)).setCell ⟨W.heap.size + 1, 4, none⟩ (c4)).setCell ⟨W.heap.size + 1, 5, none⟩ (c5)) = wf at *
 refine ⟨V.lies_keep (fun h => h) (fun y hy => ?_) (fun y hy => ?_) _ hx, ⟨g2.os.trans B3.os, g2.tape.trans B3.tape, g2.output.trans B3.output, by have := B3.size; omega, fun q hq hne => (hot q (by omega)).trans (B3.block q hq hne)⟩, hot⟩
 ·rcases hy with hy | hy
  ·have := hS y hy; exact hot y (by omega)
  ·exact hot y (by omega)
 ·rcases hy with hy | hy
  ·exact .inl hy
  ·exact .inr ⟨by omega, by omega⟩
set_option maxHeartbeats 8000000 in
set_option maxRecDepth 100000 in
theorem setdo (S : Nat → Prop) (G : Nat) (w : World) (x : V) (xk : Int) (xb : Bool) (xi : Int) (xs : ByteArray) (xal : Option Addr) (xnl xcl : Nat) (xam : Option Addr) (xnm xcm : Nat) (hS : ∀ b, S b → b < w.heap.size) (hG : G < w.heap.size) (hbox : w.heap[G]? = some (.cells #[.int .i64 xk, .bool xb, .int .i64 xi, .string xs, .slice xal xnl xcl, .slice xam xnm xcm] 25)) (hx : x.lies false w S [.int .i64 xk, .bool xb, .int .i64 xi, .string xs, .slice xal xnl xcl, .slice xam xnm xcm]) : DoC 39 (.pointer (some ⟨G, 0, none⟩)) (fun _ => (x, 0)) S G (fun _ _ _ => True) w := by
 intro W y cs hb hwx hga hy
 have hGW : W.heap[G]? = _ := (hb.block G hG).trans hbox
 have hzW := hb.size
 obtain ⟨k, b, i, s, al, nl, cl, am, nm, cm, rfl⟩ := V.ten hy
 clear hy hga hwx
 have hSW : ∀ y, S y → y < W.heap.size := fun y hy => Nat.lt_of_lt_of_le (hS y hy) hzW
 have B0 : Below W.heap.size W ((W.alloc (.cells #[.int .i64 k, .bool b, .int .i64 i, .string s, .slice al nl cl, .slice am nm cm] 25)).alloc (.cells #[.int .i64 0, .bool false, .int .i64 0, .string ⟨#[]⟩, .slice none 0 0, .slice none 0 0] 25)) := two_below W _ _
 have hz0 : ((W.alloc (.cells #[.int .i64 k, .bool b, .int .i64 i, .string s, .slice al nl cl, .slice am nm cm] 25)).alloc (.cells #[.int .i64 0, .bool false, .int .i64 0, .string ⟨#[]⟩, .slice none 0 0, .slice none 0 0] 25)).heap.size = W.heap.size + 2 := by rw [alloc_size, alloc_size]
 have h1 := alloc2_new W (.cells #[.int .i64 k, .bool b, .int .i64 i, .string s, .slice al nl cl, .slice am nm cm] 25) (.cells #[.int .i64 0, .bool false, .int .i64 0, .string ⟨#[]⟩, .slice none 0 0, .slice none 0 0] 25)
 have hG0 := (B0.block G (by omega)).trans hGW
 have x0 : ((W.alloc (.cells #[.int .i64 k, .bool b, .int .i64 i, .string s, .slice al nl cl, .slice am nm cm] 25)).alloc (.cells #[.int .i64 0, .bool false, .int .i64 0, .string ⟨#[]⟩, .slice none 0 0, .slice none 0 0] 25)).cell? ⟨G, 0, none⟩ = some (.int .i64 xk) := by rw [cell_of_block hG0]; rfl
 have x1 : ((W.alloc (.cells #[.int .i64 k, .bool b, .int .i64 i, .string s, .slice al nl cl, .slice am nm cm] 25)).alloc (.cells #[.int .i64 0, .bool false, .int .i64 0, .string ⟨#[]⟩, .slice none 0 0, .slice none 0 0] 25)).cell? ⟨G, 1, none⟩ = some (.bool xb) := by rw [cell_of_block hG0]; rfl
 have x2 : ((W.alloc (.cells #[.int .i64 k, .bool b, .int .i64 i, .string s, .slice al nl cl, .slice am nm cm] 25)).alloc (.cells #[.int .i64 0, .bool false, .int .i64 0, .string ⟨#[]⟩, .slice none 0 0, .slice none 0 0] 25)).cell? ⟨G, 2, none⟩ = some (.int .i64 xi) := by rw [cell_of_block hG0]; rfl
 have x3 : ((W.alloc (.cells #[.int .i64 k, .bool b, .int .i64 i, .string s, .slice al nl cl, .slice am nm cm] 25)).alloc (.cells #[.int .i64 0, .bool false, .int .i64 0, .string ⟨#[]⟩, .slice none 0 0, .slice none 0 0] 25)).cell? ⟨G, 3, none⟩ = some (.string xs) := by rw [cell_of_block hG0]; rfl
 have x4 : ((W.alloc (.cells #[.int .i64 k, .bool b, .int .i64 i, .string s, .slice al nl cl, .slice am nm cm] 25)).alloc (.cells #[.int .i64 0, .bool false, .int .i64 0, .string ⟨#[]⟩, .slice none 0 0, .slice none 0 0] 25)).cell? ⟨G, 4, none⟩ = some (.slice xal xnl xcl) := by rw [cell_of_block hG0]; rfl
 have x5 : ((W.alloc (.cells #[.int .i64 k, .bool b, .int .i64 i, .string s, .slice al nl cl, .slice am nm cm] 25)).alloc (.cells #[.int .i64 0, .bool false, .int .i64 0, .string ⟨#[]⟩, .slice none 0 0, .slice none 0 0] 25)).cell? ⟨G, 5, none⟩ = some (.slice xam xnm xcm) := by rw [cell_of_block hG0]; rfl
 have HX : Hid (∀ o1 o2, x.lies false ((W.alloc o1).alloc o2) (OrNew S W ((W.alloc o1).alloc o2)) [.int .i64 xk, .bool xb, .int .i64 xi, .string xs, .slice xal xnl xcl, .slice xam xnm xcm]) := fun o1 o2 => V.lies_keep (fun h => h) (fun y hy => ((two_below W o1 o2).block y (hSW y hy)).trans (hb.block y (hS y hy))) (fun y hy => .inl hy) _ hx
 clear hx h1
 go_enter Tryz.func39, Tryz.ntmps39
 go_wp2_with fail
 (try simp only [Exit.inBlock, Exit.then])
 refine bodyPost_ret (v := .tuple #[.agg #[.int .i64 xk, .bool xb, .int .i64 xi, .string xs, .slice xal xnl xcl, .slice xam xnm xcm], .int .i64 0]) ?_ rfl ?_
 rotate_left
 ·exact ⟨[.int .i64 xk, .bool xb, .int .i64 xi, .string xs, .slice xal xnl xcl, .slice xam xnm xcm], rfl, HX.out _ _, grown_below (two_below W _ _), trivial⟩
 ·rw [results_cell_tmp rfl]
  go_simp
end Go.Proofs.YtgnofbigggmilaaGreatDoor
