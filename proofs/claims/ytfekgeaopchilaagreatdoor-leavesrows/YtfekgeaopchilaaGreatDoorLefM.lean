import Derived.Test.YtfekgeaopchilaaGreatDoorLefR
import Derived.Test.YtfekgeaopchilaaGreatDoorLefA
/- LeavesRows: the law's own walk. -/
set_option linter.unusedSimpArgs false
set_option linter.unusedVariables false
namespace Go.Proofs.YtfekgeaopchilaaGreatDoor
open Go.RowKit Go.Lib
abbrev AL (w : World) : Nat → Prop := fun b => b < w.heap.size
theorem alF {w w' : World} {l : List Lf} {b o : Nat} (hb : Below w.heap.size w w') (h : liesF w (AL w) l b o) : liesF w' (AL w') l b o := liesF_keep (fun x hx => hb.block x hx) (fun x hx => Nat.lt_of_lt_of_le hx hb.size) h
theorem alQ {w w' : World} {l : List (List El)} {b o : Nat} (hb : Below w.heap.size w w') (h : liesQ w (AL w) l b o) : liesQ w' (AL w') l b o := liesQ_keep (fun x hx => hb.block x hx) (fun x hx => Nat.lt_of_lt_of_le hx hb.size) h
theorem alP {w w' : World} {p : List El} {b o : Nat} (hb : Below w.heap.size w w') (h : liesP w (AL w) p b o) : liesP w' (AL w') p b o := liesP_keep (fun x hx => hb.block x hx) (fun x hx => Nat.lt_of_lt_of_le hx hb.size) h
theorem alV {w w' : World} {v : V} {cs : List Value} (hb : Below w.heap.size w w') (h : v.lies false w (AL w) cs) : v.lies false w' (AL w') cs := V.lies_keep (fun h => h) (fun x hx => hb.block x hx) (fun x hx => Nat.lt_of_lt_of_le hx hb.size) _ h
theorem twAL {w w' : World} (hb : Below w.heap.size w w') : ∀ x, Tw (AL w) w w' x → AL w' x := fun x hx => hx.elim (fun h => Nat.lt_of_lt_of_le h hb.size) (fun h => h.2)
theorem twFF {w w' : World} {l : List Lf} {b o : Nat} (hb : Below w.heap.size w w') (h : liesF w' (Tw (AL w) w w') l b o) : liesF w' (AL w') l b o := liesF_keep (fun _ _ => rfl) (twAL hb) h
theorem twQQ {w w' : World} {l : List (List El)} {b o : Nat} (hb : Below w.heap.size w w') (h : liesQ w' (Tw (AL w) w w') l b o) : liesQ w' (AL w') l b o := liesQ_keep (fun _ _ => rfl) (twAL hb) h
theorem twPP {w w' : World} {p : List El} {b o : Nat} (hb : Below w.heap.size w w') (h : liesP w' (Tw (AL w) w w') p b o) : liesP w' (AL w') p b o := liesP_keep (fun _ _ => rfl) (twAL hb) h
/-- what a call gave: a list of leaves, alive -/
def AF (L : List Lf) (w : World) (e : Ending) (w' : World) : Prop := ∃ a c b o, e = .returned (.slice a L.length c) ∧ Headed a L.length c b o ∧ liesF w' (AL w') L b o ∧ Below w.heap.size w w'
theorem af_of {L : List Lf} {w : World} {e : Ending} {w' : World} (h : TfPost L (AL w) w e w') : AF L w e w' := by
  obtain ⟨a, c, b, o, rfl, hd, hl, hb⟩ := h
  exact ⟨a, c, b, o, rfl, hd, twFF hb hl, hb⟩
/-- what Get gave, alive -/
def GA (R : Option V) (w : World) (e : Ending) (w' : World) : Prop := ∃ (k : Int) (b : Bool) (i : Int) (s : ByteArray) (al : Option Addr) (nl cl : Nat) (am : Option Addr) (nm cm : Nat) (v : V), e = .returned (.tuple #[.agg #[.int .i64 k, .bool b, .int .i64 i, .string s, .slice al nl cl, .slice am nm cm], .bool R.isSome]) ∧ v = R.getD nullV ∧ v.lies false w' (AL w') [.int .i64 k, .bool b, .int .i64 i, .string s, .slice al nl cl, .slice am nm cm] ∧ Below w.heap.size w w'
theorem ga_of {R : Option V} {w : World} {e : Ending} {w' : World} (h : GvP R (AL w) w e w') : GA R w e w' := by
  obtain ⟨hb, ⟨v, cs, rfl, rfl, hv⟩ | ⟨rfl, rfl⟩⟩ := h
  · obtain ⟨k, b, i, s, al, nl, cl, am, nm, cm, rfl⟩ := V.ten hv
    exact ⟨k, b, i, s, al, nl, cl, am, nm, cm, v, rfl, rfl, V.lies_keep (fun h => h) (fun _ _ => rfl) (twAL hb) _ hv, hb⟩
  · exact ⟨_, _, _, _, _, _, _, _, _, _, nullV, rfl, rfl, null_lies _ _, hb⟩
set_option maxHeartbeats 16000000 in
set_option maxRecDepth 100000 in
theorem rows_walk (l m : List Lf) (ps : List (List El)) (p : List El) (al : Option Addr) (cl bl ol : Nat) (am : Option Addr) (cm bm om : Nat) (aq : Option Addr) (cq bq oq : Nat) (ap : Option Addr) (cp bp op : Nat) (w : World) (tb : Tb w)
    (hal : Headed al l.length cl bl ol) (hl : liesF w (AL w) l bl ol) (ham : Headed am m.length cm bm om) (hm : liesF w (AL w) m bm om) (haq : Headed aq ps.length cq bq oq) (hq : liesQ w (AL w) ps bq oq) (hap : Headed ap p.length cp bp op) (hp : liesP w (AL w) p bp op) :
    Calls Tryz.prog 3 #[.slice al l.length cl, .slice am m.length cm, .slice aq ps.length cq, .slice ap p.length cp] w (BPost true w) := by
  have HE : Hid (∀ W, Below w.heap.size w W → Tb W ∧ liesF W (AL W) l bl ol ∧ liesF W (AL W) m bm om ∧ liesQ W (AL W) ps bq oq ∧ liesP W (AL W) p bp op) := fun W hb => ⟨tb.below hb tb.z, alF hb hl, alF hb hm, alQ hb hq, alP hb hp⟩
  clear hl hm hq hp tb
  have B0 : Below w.heap.size w w := Below.refl _ _
  have c1 := hmk (bleaves_any l (AL w) al cl bl ol w hal (HE.out w B0).2.1 (fun _ h => h))
  go_enter Tryz.func3, Tryz.ntmps3
  go_wp2_with fail
  refine c1.out.mono ?_
  rintro e w1 ⟨r, rfl, h1, B1⟩
  clear c1
  cases r with
  | true =>
    have HB := hmk B1
    clear B1
    go_wp2_with fail
    go_ret
    exact ⟨rfl, HB.out⟩
  | false =>
  have hwl := h1 rfl
  have c2 := hmk (bleaves_any m (AL w1) am cm bm om w1 ham (HE.out w1 B1).2.2.1 (fun _ h => h))
  clear h1
  go_wp2_with fail
  refine c2.out.mono ?_
  rintro e w2 ⟨r, rfl, h2, B12⟩
  have B2 := B1.trans (B12.mono B1.size)
  clear c2 B1 B12
  cases r with
  | true =>
    have HB := hmk B2
    clear B2
    go_wp2_with fail
    go_ret
    exact ⟨rfl, HB.out⟩
  | false =>
  have hwm := h2 rfl
  have c3 := hmk (bpathsQ_any ps (AL w2) aq cq bq oq w2 haq (HE.out w2 B2).2.2.2.1 (fun _ h => h))
  clear h2
  go_wp2_with fail
  refine c3.out.mono ?_
  rintro e w3 ⟨r, rfl, h3, B23⟩
  have B3 := B2.trans (B23.mono B2.size)
  clear c3 B2 B23
  cases r with
  | true =>
    have HB := hmk B3
    clear B3
    go_wp2_with fail
    go_ret
    exact ⟨rfl, HB.out⟩
  | false =>
  have hwq := h3 rfl
  have c4 := hmk (bpath_any p (AL w3) ap cp bp op w3 hap (HE.out w3 B3).2.2.2.2 (fun _ h => h))
  clear h3
  go_wp2_with fail
  refine c4.out.mono ?_
  rintro e w4 ⟨r, rfl, h4, B34⟩
  have B4 := B3.trans (B34.mono B3.size)
  clear c4 B3 B34
  cases r with
  | true =>
    have HB := hmk B4
    clear B4
    go_wp2_with fail
    go_ret
    exact ⟨rfl, HB.out⟩
  | false =>
  have hwp := h4 rfl
  have hwp1 : wtP p ≤ 2147483647 := hwp
  have c5 := hmk (twf_any l (AL w4) al cl bl ol w4 hal (HE.out w4 B4).2.1 (fun _ h => h) hwl)
  clear h4
  go_wp2_with fail
  refine c5.out.mono ?_
  rintro e w5 h5
  obtain ⟨aa, ca, ba, oa, rfl, hda, hla, B45⟩ := af_of h5
  have B5 := B4.trans (B45.mono B4.size)
  have c6 := hmk (twf_any m (AL w5) am cm bm om w5 ham (HE.out w5 B5).2.2.1 (fun _ h => h) hwm)
  clear c5 h5 B4 B45
  go_wp2_with fail
  refine c6.out.mono ?_
  rintro e w6 h6
  obtain ⟨ab, cb, bb, ob, rfl, hdb, hlb, B56⟩ := af_of h6
  have B6 := B5.trans (B56.mono B5.size)
  have HT : Hid (∀ W, Below w6.heap.size w6 W → Below w.heap.size w W ∧ liesF W (AL W) l ba oa ∧ liesF W (AL W) m bb ob) := fun W hb => ⟨B6.trans (hb.mono B6.size), alF (B56.trans (hb.mono B56.size)) hla, alF hb hlb⟩
  have D6 : Below w6.heap.size w6 w6 := Below.refl _ _
  clear c6 h6 B5 B56 hla hlb B6 B0
  have c7 := hmk (lrising_any l (AL w6) aa ca ba oa w6 hda (HT.out w6 D6).2.1 (fun _ h => h) hwl)
  go_wp2_with fail
  refine c7.out.mono ?_
  rintro e w7 ⟨r, rfl, h7, D7⟩
  clear c7
  cases r with
  | false =>
    have HB := hmk (HT.out w7 D7).1
    go_wp2_with fail
    go_ret
    exact ⟨rfl, HB.out⟩
  | true =>
  have rl := h7 rfl
  have c8 := hmk (lrising_any m (AL w7) ab cb bb ob w7 hdb (HT.out w7 D7).2.2 (fun _ h => h) hwm)
  clear h7
  go_wp2_with fail
  refine c8.out.mono ?_
  rintro e w8 ⟨r, rfl, h8, D78⟩
  have D8 := D7.trans (D78.mono D7.size)
  clear c8 D7 D78
  cases r with
  | false =>
    have HB := hmk (HT.out w8 D8).1
    go_wp2_with fail
    go_ret
    exact ⟨rfl, HB.out⟩
  | true =>
  have rm := h8 rfl
  have c9 := hmk (ltaken_any l (AL w8) aa ca ba oa w8 hda (HT.out w8 D8).2.1 (fun _ h => h) hwl)
  clear h8
  generalize hTL : takB l = TL at *
  go_wp2_with fail
  refine c9.out.mono ?_
  rintro e w9 ⟨rfl, D89⟩
  have D9 := D8.trans (D89.mono D8.size)
  clear c9 D8 D89
  cases TL with
  | false =>
    have HB := hmk (HT.out w9 D9).1
    go_wp2_with fail
    go_ret
    exact ⟨rfl, HB.out⟩
  | true =>
  have c10 := hmk (ltaken_any m (AL w9) ab cb bb ob w9 hdb (HT.out w9 D9).2.2 (fun _ h => h) hwm)
  generalize hTM : takB m = TM at *
  go_wp2_with fail
  refine c10.out.mono ?_
  rintro e w10 ⟨rfl, D90⟩
  have D10 := D9.trans (D90.mono D9.size)
  clear c10 D9 D90
  cases TM with
  | false =>
    have HB := hmk (HT.out w10 D10).1
    go_wp2_with fail
    go_ret
    exact ⟨rfl, HB.out⟩
  | true =>
  have okl : Hid (∀ x ∈ l, pathB x.1 = true ∧ okV x.2 = true) := fun x hx => ⟨by obtain ⟨j, hj, rfl⟩ := List.getElem_of_mem hx; exact rl.ok j hj, List.all_eq_true.1 hTL x hx⟩
  have okm : Hid (∀ x ∈ m, pathB x.1 = true ∧ okV x.2 = true) := fun x hx => ⟨by obtain ⟨j, hj, rfl⟩ := List.getElem_of_mem hx; exact rm.ok j hj, List.all_eq_true.1 hTM x hx⟩
  have RL := hmk rl
  have RM := hmk rm
  clear hTL hTM rl rm
  have c11 := hmk (get_any l (AL w10) al cl bl ol w10 hal (HE.out w10 (HT.out w10 D10).1).2.1 (fun _ h => h) hwl (HE.out w10 (HT.out w10 D10).1).1 RL.out okl.out p ap cp bp op hap (HE.out w10 (HT.out w10 D10).1).2.2.2.2 hwp1)
  go_wp2_with fail
  refine c11.out.mono ?_
  rintro e w11 h11
  obtain ⟨xk, xb, xi, xs, xal, xnl, xcl, xam, xnm, xcm, v1, rfl, hv1, hx1, DA⟩ := ga_of h11
  have D11 := D10.trans (DA.mono D10.size)
  have n11 := heap_alloc_new w11 (.cells #[.int .i64 xk, .bool xb, .int .i64 xi, .string xs, .slice xal xnl xcl, .slice xam xnm xcm] 33)
  have bA : Below w11.heap.size w11 (w11.alloc (.cells #[.int .i64 xk, .bool xb, .int .i64 xi, .string xs, .slice xal xnl xcl, .slice xam xnm xcm] 33)) := (Below.refl _ _).alloc (Nat.le_refl _) _
  have zA := alloc_size w11 (.cells #[.int .i64 xk, .bool xb, .int .i64 xi, .string xs, .slice xal xnl xcl, .slice xam xnm xcm] 33)
  have D12 := D11.trans (bA.mono D11.size)
  clear c11 h11 D10 DA
  go_wp2_with fail
  generalize hGX : w11.heap.size = GX at *
  have HX1 : Hid (∀ W, Below (w11.alloc (.cells #[.int .i64 xk, .bool xb, .int .i64 xi, .string xs, .slice xal xnl xcl, .slice xam xnm xcm] 33)).heap.size (w11.alloc (.cells #[.int .i64 xk, .bool xb, .int .i64 xi, .string xs, .slice xal xnl xcl, .slice xam xnm xcm] 33)) W → W.heap[GX]? = some (.cells #[.int .i64 xk, .bool xb, .int .i64 xi, .string xs, .slice xal xnl xcl, .slice xam xnm xcm] 33 (0, 0)) ∧ v1.lies false W (AL W) [.int .i64 xk, .bool xb, .int .i64 xi, .string xs, .slice xal xnl xcl, .slice xam xnm xcm] ∧ Below w6.heap.size w6 W ∧ GX < W.heap.size) := fun W hb =>
    ⟨(hb.block _ (by omega)).trans n11, alV hb (alV (by rw [hGX]; exact bA) hx1), D12.trans (hb.mono D12.size), by have := hb.size; omega⟩
  clear hx1 n11 bA zA D11 hGX
  generalize (w11.alloc (.cells #[.int .i64 xk, .bool xb, .int .i64 xi, .string xs, .slice xal xnl xcl, .slice xam xnm xcm] 33)) = w12 at *
  have c13 := hmk (twp_any p (AL w12) ap cp bp op w12 hap (HE.out w12 (HT.out w12 D12).1).2.2.2.2 (fun _ h => h) hwp1)
  refine c13.out.mono ?_
  rintro e w13 ⟨at', ct', bt', ot', rfl, hdt, hlt', DB⟩
  have hlt2 := twPP DB hlt'
  have D13 := D12.trans (DB.mono D12.size)
  have c14 := hmk (rget_any l (AL w13) aa ca ba oa w13 hda (HT.out w13 D13).2.1 (fun _ h => h) hwl RL.out p at' ct' bt' ot' hdt hlt2 hwp1)
  clear c13 hlt'
  go_wp2_with fail
  refine c14.out.mono ?_
  rintro e w14 h14
  obtain ⟨yk, yb, yi, ys, yal, ynl, ycl, yam, ynm, ycm, v2, rfl, hv2, hx2, DC⟩ := ga_of h14
  have E14 := DB.trans (DC.mono DB.size)
  obtain rfl : v1 = v2 := hv1.trans hv2.symm
  have n14 := heap_alloc_new w14 (.cells #[.int .i64 yk, .bool yb, .int .i64 yi, .string ys, .slice yal ynl ycl, .slice yam ynm ycm] 33)
  have bB : Below w14.heap.size w14 (w14.alloc (.cells #[.int .i64 yk, .bool yb, .int .i64 yi, .string ys, .slice yal ynl ycl, .slice yam ynm ycm] 33)) := (Below.refl _ _).alloc (Nat.le_refl _) _
  have E15 := E14.trans (bB.mono E14.size)
  obtain ⟨N1, V1, D15, G1⟩ := HX1.out _ E15
  have V2 := alV bB hx2
  have C15 := hmk (vsame_any v1 0 (AL _) (AL _) _ _ _ (by omega) (by omega) V1 V2 (fun _ h => h) (fun _ h => h))
  have x0 : (w14.alloc (.cells #[.int .i64 yk, .bool yb, .int .i64 yi, .string ys, .slice yal ynl ycl, .slice yam ynm ycm] 33)).cell? ⟨GX, 0, none⟩ = some (.int .i64 xk) := cell_of_block N1 0
  have x1 : (w14.alloc (.cells #[.int .i64 yk, .bool yb, .int .i64 yi, .string ys, .slice yal ynl ycl, .slice yam ynm ycm] 33)).cell? ⟨GX, 1, none⟩ = some (.bool xb) := cell_of_block N1 1
  have x2 : (w14.alloc (.cells #[.int .i64 yk, .bool yb, .int .i64 yi, .string ys, .slice yal ynl ycl, .slice yam ynm ycm] 33)).cell? ⟨GX, 2, none⟩ = some (.int .i64 xi) := cell_of_block N1 2
  have x3 : (w14.alloc (.cells #[.int .i64 yk, .bool yb, .int .i64 yi, .string ys, .slice yal ynl ycl, .slice yam ynm ycm] 33)).cell? ⟨GX, 3, none⟩ = some (.string xs) := cell_of_block N1 3
  have x4 : (w14.alloc (.cells #[.int .i64 yk, .bool yb, .int .i64 yi, .string ys, .slice yal ynl ycl, .slice yam ynm ycm] 33)).cell? ⟨GX, 4, none⟩ = some (.slice xal xnl xcl) := cell_of_block N1 4
  have x5 : (w14.alloc (.cells #[.int .i64 yk, .bool yb, .int .i64 yi, .string ys, .slice yal ynl ycl, .slice yam ynm ycm] 33)).cell? ⟨GX, 5, none⟩ = some (.slice xam xnm xcm) := cell_of_block N1 5
  have z0 : (w14.alloc (.cells #[.int .i64 yk, .bool yb, .int .i64 yi, .string ys, .slice yal ynl ycl, .slice yam ynm ycm] 33)).cell? ⟨w14.heap.size, 0, none⟩ = some (.int .i64 yk) := cell_of_block n14 0
  have z1 : (w14.alloc (.cells #[.int .i64 yk, .bool yb, .int .i64 yi, .string ys, .slice yal ynl ycl, .slice yam ynm ycm] 33)).cell? ⟨w14.heap.size, 1, none⟩ = some (.bool yb) := cell_of_block n14 1
  have z2 : (w14.alloc (.cells #[.int .i64 yk, .bool yb, .int .i64 yi, .string ys, .slice yal ynl ycl, .slice yam ynm ycm] 33)).cell? ⟨w14.heap.size, 2, none⟩ = some (.int .i64 yi) := cell_of_block n14 2
  have z3 : (w14.alloc (.cells #[.int .i64 yk, .bool yb, .int .i64 yi, .string ys, .slice yal ynl ycl, .slice yam ynm ycm] 33)).cell? ⟨w14.heap.size, 3, none⟩ = some (.string ys) := cell_of_block n14 3
  have z4 : (w14.alloc (.cells #[.int .i64 yk, .bool yb, .int .i64 yi, .string ys, .slice yal ynl ycl, .slice yam ynm ycm] 33)).cell? ⟨w14.heap.size, 4, none⟩ = some (.slice yal ynl ycl) := cell_of_block n14 4
  have z5 : (w14.alloc (.cells #[.int .i64 yk, .bool yb, .int .i64 yi, .string ys, .slice yal ynl ycl, .slice yam ynm ycm] 33)).cell? ⟨w14.heap.size, 5, none⟩ = some (.slice yam ynm ycm) := cell_of_block n14 5
  clear c14 h14 hx2 n14 bB E14 E15 N1 V1 V2 G1 HX1 hv1 hv2 hlt2 DB DC D13 D12
  generalize hGS : (getF l p).isSome = GS at *
  clear hGS
  go_wp2_with fail
  cases GS
  all_goals
    go_wp2_with fail
    refine C15.out.mono ?_
    rintro e w16 ⟨rfl, DD⟩
    have D16 := D15.trans (DD.mono D15.size)
    clear C15 DD D15 x0 x1 x2 x3 x4 x5 z0 z1 z2 z3 z4 z5
    have c17 := hmk (put_any l m (AL w16) al cl bl ol am cm bm om w16 hal (HE.out w16 (HT.out w16 D16).1).2.1 ham (HE.out w16 (HT.out w16 D16).1).2.2.1 (fun _ h => h) hwl hwm (HE.out w16 (HT.out w16 D16).1).1 okl.out okm.out (by omega))
    go_wp2_with fail
    refine c17.out.mono ?_
    rintro e w17 h17
    obtain ⟨a1, c1, b1, o1, rfl, hd1, hl1, d1⟩ := af_of h17
    have D17 := D16.trans (d1.mono D16.size)
    have c18 := hmk (rputF_any l m (AL w17) aa ca ba oa ab cb bb ob w17 hda (HT.out w17 D17).2.1 hdb (HT.out w17 D17).2.2 (fun _ h => h) hwl hwm RL.out RM.out)
    clear c17 h17 d1 D16
    go_wp2_with fail
    refine c18.out.mono ?_
    rintro e w18 h18
    obtain ⟨a2, c2, b2, o2, rfl, hd2, hl2, d2⟩ := af_of h18
    have D18 := D17.trans (d2.mono D17.size)
    have c19 := hmk (lsame_any (putF l m) (AL w18) (AL w18) a1 c1 b1 o1 a2 c2 b2 o2 w18 hd1 (alF d2 hl1) hd2 hl2 (fun _ h => h) (fun _ h => h))
    clear c18 h18 d2 D17 hl1 hl2
    go_wp2_with fail
    refine c19.out.mono ?_
    rintro e w19 ⟨rfl, d3⟩
    have D19 := D18.trans (d3.mono D18.size)
    have c20 := hmk (drop_any l (AL w19) al cl bl ol w19 hal (HE.out w19 (HT.out w19 D19).1).2.1 (fun _ h => h) hwl (HE.out w19 (HT.out w19 D19).1).1 RL.out okl.out ps aq cq bq oq haq (HE.out w19 (HT.out w19 D19).1).2.2.2.1 hwq)
    clear c19 d3 D18 hd1 hd2
    go_wp2_with fail
    refine c20.out.mono ?_
    rintro e w20 h20
    obtain ⟨a1, c1, b1, o1, rfl, hd1, hl1, d1⟩ := af_of h20
    have D20 := D19.trans (d1.mono D19.size)
    have c21 := hmk (rdrp_any l (AL w20) aa ca ba oa w20 hda (HT.out w20 D20).2.1 (fun _ h => h) hwl ps aq cq bq oq haq (HE.out w20 (HT.out w20 D20).1).2.2.2.1 (by omega))
    clear c20 h20 d1 D19
    go_wp2_with fail
    refine c21.out.mono ?_
    rintro e w21 h21
    obtain ⟨a2, c2, b2, o2, rfl, hd2, hl2, d2⟩ := af_of h21
    have D21 := D20.trans (d2.mono D20.size)
    have c22 := hmk (lsame_any (l.filter (stF ps)) (AL w21) (AL w21) a1 c1 b1 o1 a2 c2 b2 o2 w21 hd1 (alF d2 hl1) hd2 hl2 (fun _ h => h) (fun _ h => h))
    clear c21 h21 d2 D20 hl1 hl2
    go_wp2_with fail
    refine c22.out.mono ?_
    rintro e w22 ⟨rfl, d3⟩
    have D22 := D21.trans (d3.mono D21.size)
    have c23 := hmk (under_any l (AL w22) al cl bl ol w22 hal (HE.out w22 (HT.out w22 D22).1).2.1 (fun _ h => h) hwl (HE.out w22 (HT.out w22 D22).1).1 RL.out okl.out p ap cp bp op hap (HE.out w22 (HT.out w22 D22).1).2.2.2.2 hwp1)
    clear c22 d3 D21 hd1 hd2
    go_wp2_with fail
    refine c23.out.mono ?_
    rintro e w23 h23
    obtain ⟨a1, c1, b1, o1, rfl, hd1, hl1, d1⟩ := af_of h23
    have D23 := D22.trans (d1.mono D22.size)
    have c24 := hmk (rund_any l (AL w23) aa ca ba oa w23 hda (HT.out w23 D23).2.1 (fun _ h => h) hwl p ap cp bp op hap (HE.out w23 (HT.out w23 D23).1).2.2.2.2 hwp1)
    clear c23 h23 d1 D22
    go_wp2_with fail
    refine c24.out.mono ?_
    rintro e w24 h24
    obtain ⟨a2, c2, b2, o2, rfl, hd2, hl2, d2⟩ := af_of h24
    have D24 := D23.trans (d2.mono D23.size)
    have c25 := hmk (lsame_any (l.filter (fun x => abvP p x.1)) (AL w24) (AL w24) a1 c1 b1 o1 a2 c2 b2 o2 w24 hd1 (alF d2 hl1) hd2 hl2 (fun _ h => h) (fun _ h => h))
    clear c24 h24 d2 D23 hl1 hl2
    go_wp2_with fail
    refine c25.out.mono ?_
    rintro e w25 ⟨rfl, d3⟩
    have D25 := D24.trans (d3.mono D24.size)
    have c26 := hmk (paths_any l (AL w25) al cl bl ol w25 hal (HE.out w25 (HT.out w25 D25).1).2.1 (fun _ h => h) hwl RL.out)
    clear c25 d3 D24 hd1 hd2
    go_wp2_with fail
    refine c26.out.mono ?_
    rintro e w26 ⟨a1, c1, b1, o1, rfl, hd1, hl1', d1⟩
    have hl1 := twQQ d1 hl1'
    have D26 := D25.trans (d1.mono D25.size)
    have c27 := hmk (rpaths_any l (AL w26) aa ca ba oa w26 hda (HT.out w26 D26).2.1 (fun _ h => h) hwl)
    clear c26 d1 D25 hl1'
    go_wp2_with fail
    refine c27.out.mono ?_
    rintro e w27 ⟨a2, c2, b2, o2, rfl, hd2, hl2', d2⟩
    have hl2 := twQQ d2 hl2'
    have D27 := D26.trans (d2.mono D26.size)
    have HQ : Hid (∀ W, Below w27.heap.size w27 W → liesQ W (AL W) (pths l) b1 o1 ∧ liesQ W (AL W) (pths l) b2 o2 ∧ Below w6.heap.size w6 W) := fun W hb => ⟨alQ (d2.trans (hb.mono d2.size)) hl1, alQ hb hl2, D27.trans (hb.mono D27.size)⟩
    have c28 := hmk (lsame_any l (AL w27) (AL w27) al cl bl ol aa ca ba oa w27 hal (HE.out w27 (HT.out w27 D27).1).2.1 hda (HT.out w27 D27).2.1 (fun _ h => h) (fun _ h => h))
    clear c27 d2 D26 hl2' hl1 hl2
    go_wp2_with fail
    refine c28.out.mono ?_
    rintro e w28 ⟨rfl, F28⟩
    have c29 := hmk (lsame_any m (AL w28) (AL w28) am cm bm om ab cb bb ob w28 ham (HE.out w28 (HT.out w28 (HQ.out w28 F28).2.2).1).2.2.1 hdb (HT.out w28 (HQ.out w28 F28).2.2).2.2 (fun _ h => h) (fun _ h => h))
    clear c28
    go_wp2_with fail
    refine c29.out.mono ?_
    rintro e w29 ⟨rfl, F29'⟩
    have F29 := F28.trans (F29'.mono F28.size)
    clear c29 F28 F29' D27
    generalize hPL : pths l = PL at *
    have hpm : PL.length ≤ 9223372036854775807 := Nat.le_trans hd1.le hd1.max
    go_wp2_with fail
    go_loopw [17] (fun e wr => ∃ j : Nat, j ≤ PL.length ∧ e = .int .i64 (j : Int) ∧ Below w27.heap.size w27 wr) (fun e _ => PL.length - (RowKit.intOf e).toNat)
    case atStart => exact ⟨0, by omega, rfl, F29⟩
    case round =>
      clear F29
      obtain ⟨j, hj, rfl, bj⟩ := hrel
      obtain ⟨q1, q2, q3⟩ := HQ.out wr bj
      have HBF := hmk (HT.out wr q3).1
      have hzr := bj.size
      by_cases hjl : j < PL.length
      · have y1 : (j : Int) < PL.length := by omega
        obtain ⟨hSb, v, hv, aq1, cq1, bq1, oq1, rfl, hhq, hlq⟩ := q1 j hjl
        obtain ⟨hSb', v', hv', aq2, cq2, bq2, oq2, rfl, hhq', hlq'⟩ := q2 j hjl
        obtain rfl : a1 = some ⟨b1, o1, none⟩ := hd1.at_.resolve_left (by omega)
        obtain rfl : a2 = some ⟨b2, o2, none⟩ := hd2.at_.resolve_left (by omega)
        have xp : ∀ x : Sub wr.heap.size wr, _ := sub_cell hv hSb
        have xr : ∀ x : Sub wr.heap.size wr, _ := sub_cell hv' hSb'
        have C23 : Hid (∀ x : Sub wr.heap.size wr, Calls Tryz.prog 23 #[.slice aq1 (PL[j]).length cq1, .slice aq2 (PL[j]).length cq2] x.w fun e w'' => e = .returned (.bool true) ∧ ∃ y : Sub wr.heap.size wr, w'' = y.w) :=
          sub_call fun w' hb => (psame_any PL[j] (AL w') (AL w') aq1 cq1 bq1 oq1 aq2 cq2 bq2 oq2 w' hhq (alP hb hlq) hhq' (alP hb hlq') (fun _ h => h) (fun _ h => h)).mono fun e w'' ⟨he, h2⟩ => ⟨he, hb.trans (h2.mono hb.size)⟩
        clear q1 q2 q3 hlq hlq' hv hv'
        go_wp2_with fail
        refine wp_region_sub wr.heap.size (by kernel_rfl) (by kernel_rfl) ?_
        repeat (go_big_quiet_step (first | exact C23.out _))
        refine wpQuiet_nil ?_
        rintro wz ⟨⟨wz', bz⟩, hz⟩
        have hz' : wz = wz' := hz
        subst hz'
        clear hz
        have bj2 := bj.trans (bz.mono hzr)
        clear C23 xp xr bz
        go_wp2_with fail
        go_roundw
        case rel => exact ⟨j + 1, by omega, by go_num, bj2⟩
        case measure => simp [RowKit.intOf]; omega
      · obtain rfl : j = PL.length := by omega
        have y1 : ¬ (PL.length : Int) < PL.length := by omega
        go_wp2_with fail
        go_ret
        exact ⟨rfl, HBF.out⟩
end Go.Proofs.YtfekgeaopchilaaGreatDoor
