import Derived.Test.YtfbmmilphcnolaaDoorBelS
/- PathsetParts: the law's own walk. -/
set_option linter.unusedSimpArgs false
set_option linter.unusedVariables false
namespace Go.Proofs.YtfbmmilphcnolaaDoor
open Go Go.RowKit Go.Lib
theorem liesQ_old {W W' : World} {l : List (List El)} {b o : Nat} (h : Below W.heap.size W W') (hl : liesQ W (Old W) l b o) : liesQ W' (Old W') l b o := liesQ_keep (fun x hx => h.block x hx) (fun x (hx : x < W.heap.size) => Nat.lt_of_lt_of_le hx h.size) hl
theorem liesP_old {W W' : World} {l : List El} {b o : Nat} (h : Below W.heap.size W W') (hl : liesP W (Old W) l b o) : liesP W' (Old W') l b o := liesP_keep (fun x hx => h.block x hx) (fun x (hx : x < W.heap.size) => Nat.lt_of_lt_of_le hx h.size) hl
theorem tw_old {W W' : World} (h : Below W.heap.size W W') (x : Nat) (hx : Tw (Old W) W W' x) : Old W' x := hx.elim (fun (hx : x < W.heap.size) => Nat.lt_of_lt_of_le hx h.size) (fun h => h.2)
theorem liesQ_tw {W W' : World} {l : List (List El)} {b o : Nat} (h : Below W.heap.size W W') (hl : liesQ W' (Tw (Old W) W W') l b o) : liesQ W' (Old W') l b o := liesQ_keep (fun _ _ => rfl) (tw_old h) hl
theorem liesP_tw {W W' : World} {l : List El} {b o : Nat} (h : Below W.heap.size W W') (hl : liesP W' (Tw (Old W) W W') l b o) : liesP W' (Old W') l b o := liesP_keep (fun _ _ => rfl) (tw_old h) hl
theorem old_lt (W : World) (x : Nat) (h : Old W x) : x < W.heap.size := h
set_option maxHeartbeats 8000000 in
set_option maxRecDepth 100000 in
theorem parts_walk (l : List (List El)) (p : List El) (al : Option Addr) (cl bl ol : Nat) (ap : Option Addr) (cp bp op : Nat) (w : World) (tb : Tb w) (hal : Headed al l.length cl bl ol) (hl : liesQ w (Old w) l bl ol) (hap : Headed ap p.length cp bp op) (hp : liesP w (Old w) p bp op) :
    Calls Tryd.prog 3 #[.slice al l.length cl, .slice ap p.length cp] w (BPost true w) := by
  have HL := hmk hl
  have HP := hmk hp
  have HT := hmk tb
  clear hl hp tb
  have c1 := hmk (bpathsQ_any l (Old w) al cl bl ol w hal HL.out (old_lt w))
  go_enter Tryd.func3, Tryd.ntmps3
  go_wp2_with fail
  refine c1.out.mono ?_
  rintro e w1 ⟨r, rfl, hwl, b1⟩
  cases r
  case true =>
    go_wp2_with fail
    go_ret
    exact ⟨rfl, b1⟩
  replace hwl := hwl rfl
  have c2 := hmk (bpath_any p (Old w1) ap cp bp op w1 hap (liesP_old b1 HP.out) (old_lt w1))
  clear c1
  go_wp2_with fail
  refine c2.out.mono ?_
  rintro e w2 ⟨r, rfl, hwp, b2⟩
  have B2 := b1.trans (b2.mono b1.size)
  clear b1 b2 c2
  cases r
  case true =>
    go_wp2_with fail
    go_ret
    exact ⟨rfl, B2⟩
  replace hwp := hwp rfl
  have L2 := hmk (liesQ_old B2 HL.out)
  have P2 := hmk (liesP_old B2 HP.out)
  have T2 := hmk (HT.out.below B2 HT.out.z)
  clear HL HP HT
  have c3 := hmk (twinq_any l (Old w2) al cl bl ol w2 hal L2.out (old_lt w2) hwl)
  go_wp2_with fail
  refine c3.out.mono ?_
  rintro e w3 ⟨al', cl', bl', ol', rfl, hal', hl', b3⟩
  have B3 := B2.trans (b3.mono B2.size)
  have L3' := hmk (liesQ_tw b3 hl')
  have L3 := hmk (liesQ_old b3 L2.out)
  have P3 := hmk (liesP_old b3 P2.out)
  have T3 := hmk (T2.out.below b3 T2.out.z)
  clear c3 hl' b3 B2 L2 P2 T2
  have c4 := hmk (twq_any p (Old w3) ap cp bp op w3 hap P3.out (old_lt w3) hwp)
  go_wp2_with fail
  refine c4.out.mono ?_
  rintro e w4 ⟨ap', cp', bp', op', rfl, hap', hp', b4⟩
  have B4 := B3.trans (b4.mono B3.size)
  have P4' := hmk (liesP_tw b4 hp')
  have L4 := hmk (liesQ_old b4 L3.out)
  have L4' := hmk (liesQ_old b4 L3'.out)
  have P4 := hmk (liesP_old b4 P3.out)
  have T4 := hmk (T3.out.below b4 T3.out.z)
  clear c4 hp' b4 B3 L3 P3 T3 L3'
  have c5 := hmk (below_any l p (Old w4) al' cl' bl' ol' ap' cp' bp' op' w4 T4.out hal' L4'.out hap' P4'.out (old_lt w4) hwl hwp)
  have C6 : Hid (∀ W, Below w4.heap.size w4 W → Calls Tryd.prog 10 #[.slice al l.length cl, .slice ap p.length cp] W (BwPost (belL l p) (errB l p) (Old W) W)) := fun W h => rbel_any l p (Old W) al cl bl ol ap cp bp op W hal (liesQ_old h L4.out) hap (liesP_old h P4.out) (old_lt W) hwl hwp
  have C9 : Hid (∀ W, Below w4.heap.size w4 W → Calls Tryd.prog 12 #[.slice al' l.length cl'] W (BwPost (endL l) (errS l) (Old W) W)) := fun W h => ends_any l (Old W) al' cl' bl' ol' W (T4.out.below h T4.out.z) hal' (liesQ_old h L4'.out) (old_lt W) hwl
  have C10 : Hid (∀ W, Below w4.heap.size w4 W → Calls Tryd.prog 13 #[.slice al l.length cl] W (BwPost (endL l) (errS l) (Old W) W)) := fun W h => rends_any l (Old W) al cl bl ol W hal (liesQ_old h L4.out) (old_lt W) hwl
  have C12 : Hid (∀ W, Below w4.heap.size w4 W → Calls Tryd.prog 11 #[.slice al' l.length cl', .slice al l.length cl] W (BPost true W)) := fun W h => sspath_any l (Old W) (Old W) al' cl' bl' ol' al cl bl ol W hal' (liesQ_old h L4'.out) hal (liesQ_old h L4.out) (old_lt W) (old_lt W)
  have C13 : Hid (∀ W, Below w4.heap.size w4 W → Calls Tryd.prog 14 #[.slice ap' p.length cp', .slice ap p.length cp] W (BPost true W)) := fun W h => spath_any p (Old W) (Old W) ap' cp' bp' op' ap cp bp op W hap' (liesP_old h P4'.out) hap (liesP_old h P4.out) (old_lt W) (old_lt W)
  clear L4 L4' P4 P4' T4
  generalize belL l p = RB at *
  generalize errB l p = EB at *
  generalize endL l = RE at *
  generalize errS l = EE at *
  have yB : (((EB : Nat) : Int) != (EB : Int)) = false := by simp
  have yE : (((EE : Nat) : Int) == (EE : Int)) = true := by simp
  go_wp2_with fail
  refine c5.out.mono ?_
  rintro e w5 ⟨sa, sc, sb, so, rfl, hhs, hls, b5⟩
  have S5 := hmk (liesQ_tw b5 hls)
  have c6 := hmk (C6.out w5 b5)
  clear hls c5 C6
  go_wp2_with fail
  refine c6.out.mono ?_
  rintro e w6 ⟨ta, tc, tb', to', rfl, hht, hlt, b6⟩
  have B6 := b5.trans (b6.mono b5.size)
  have c7 := hmk (sspath_any RB (Old w6) (Old w6) sa sc sb so ta tc tb' to' w6 hhs (liesQ_old b6 S5.out) hht (liesQ_tw b6 hlt) (old_lt w6) (old_lt w6))
  clear c6 S5 hlt b5 b6
  go_wp2_with fail
  refine c7.out.mono ?_
  rintro e w7 ⟨rfl, b7⟩
  have B7 := B6.trans (b7.mono B6.size)
  have c9 := hmk (C9.out w7 B7)
  clear c7 B6 b7 hhs hht C9
  go_wp2_with fail
  refine c9.out.mono ?_
  rintro e w8 ⟨sa, sc, sb, so, rfl, hhs, hls, b8⟩
  have S8 := hmk (liesQ_tw b8 hls)
  have B8 := B7.trans (b8.mono B7.size)
  have c10 := hmk (C10.out w8 B8)
  clear hls c9 C10 B7 b8
  go_wp2_with fail
  refine c10.out.mono ?_
  rintro e w9 ⟨ta, tc, tb', to', rfl, hht, hlt, b9⟩
  have B9 := B8.trans (b9.mono B8.size)
  have c11 := hmk (sspath_any RE (Old w9) (Old w9) sa sc sb so ta tc tb' to' w9 hhs (liesQ_old b9 S8.out) hht (liesQ_tw b9 hlt) (old_lt w9) (old_lt w9))
  clear c10 S8 hlt B8 b9
  go_wp2_with fail
  refine c11.out.mono ?_
  rintro e w10 ⟨rfl, b10⟩
  have B10 := B9.trans (b10.mono B9.size)
  have c12 := hmk (C12.out w10 B10)
  clear c11 B9 b10 C12
  go_wp2_with fail
  refine c12.out.mono ?_
  rintro e w11 ⟨rfl, b11⟩
  have B11 := B10.trans (b11.mono B10.size)
  have c13 := hmk (C13.out w11 B11)
  clear c12 B10 b11 C13
  go_wp2_with fail
  refine c13.out.mono ?_
  rintro e w12 ⟨rfl, b12⟩
  have B12 := B11.trans (b12.mono B11.size)
  go_wp2_with fail
  go_ret
  exact ⟨rfl, B4.trans (B12.mono B4.size)⟩
end Go.Proofs.YtfbmmilphcnolaaDoor
