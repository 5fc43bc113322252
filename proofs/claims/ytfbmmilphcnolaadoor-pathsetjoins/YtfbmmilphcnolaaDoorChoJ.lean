import Derived.Test.YtfbmmilphcnolaaDoorFstJ
/- The document's Union, Meet, Minus and Within. -/
set_option linter.unusedSimpArgs false
set_option linter.unusedVariables false
namespace Go.Proofs.YtfbmmilphcnolaaDoor
open Go Go.RowKit Go.Lib Go.Shelf
set_option maxHeartbeats 16000000 in
set_option maxRecDepth 100000 in
theorem chosen_any (a b : List (List El)) (yes : Bool) (S : Nat → Prop) (aa : Option Addr) (ca ba oa : Nat) (ab : Option Addr) (cb bb ob : Nat) (w : World) (hha : Headed aa a.length ca ba oa) (hla : liesQ w S a ba oa) (hhb : Headed ab b.length cb bb ob) (hlb : liesQ w S b bb ob) (hS : ∀ b, S b → b < w.heap.size) (hwa : a.length + wtQ a ≤ 2147483647) (hwb : b.length + wtQ b ≤ 2147483647) :
    Calls Tryd.prog 41 #[.slice aa a.length ca, .slice ab b.length cb, .bool yes] w (BwPost (chL yes a b) (errJ a b) S w) := by
  have HL := hmk hla
  have HP := hmk hlb
  have HS := hmk hS
  have c1 := hmk (rtwo_any a b S aa ca ba oa ab cb bb ob w hha hla hhb hlb hS hwa hwb)
  clear hla hlb
  have hlen : a.length ≤ 9223372036854775807 := by omega
  by_cases h0 : errJ a b = 0
  case neg =>
    have y1 : (((errJ a b : Nat) : Int) != 0) = true := by rw [bne_iff_ne]; omega
    have HE : Hid (chL yes a b = []) := by show _ = _; rw [chL, if_neg h0]
    generalize chL yes a b = RB at *
    generalize errJ a b = Es at *
    clear h0
    go_enter Tryd.func41, Tryd.ntmps41
    go_wp2_with fail
    refine c1.out.mono ?_
    rintro e w1 ⟨rfl, b1⟩
    go_wp2_with fail
    go_ret2
    rw [HE.out]
    exact bw_nil b1 rfl
  have y1 : (((errJ a b : Nat) : Int) != 0) = false := by rw [h0]; rfl
  have HZ := hmk (setC_zero (errJ_zero h0).1)
  have HZB := hmk (setC_zero (errJ_zero h0).2)
  have HE : Hid (errJ a b = 0 ∧ chL yes a b = a.filter (fun p => memB b p == yes)) := ⟨h0, by rw [chL, if_pos h0]⟩
  have CQ : Hid (∀ (j : Nat) (hj : j < a.length), ∃ (X : PC w S) (aq : Option Addr) (cq : Nat), (X.p = a[j] ∧ X.enc = .slice aq (a[j]).length cq) ∧ (∀ W, Below w.heap.size w W → W.cell? ⟨ba, oa + j, none⟩ = some (.slice aq (a[j]).length cq)) ∧ ∀ W, Below w.heap.size w W → Calls Tryd.prog 55 #[.slice ab b.length cb, .slice aq (a[j]).length cq] W (BPost (memB b a[j]) W)) := fun j hj => by
    obtain ⟨hSb, v, hv, aq, cq, bq, oq, rfl, hhq, hlq⟩ := HL.out j hj
    exact ⟨⟨a[j], aq, cq, bq, oq, hhq, hlq⟩, aq, cq, ⟨rfl, rfl⟩, fun W hb => (World.cell?_of_block (w := w) (a := ⟨ba, oa + j, none⟩) (hb.block _ (HS.out _ hSb))).trans hv, fun W hb => rin_any b a[j] S S ab cb bb ob aq cq bq oq W hhb (liesQ_keep (fun x hx => hb.block x (HS.out x hx)) (fun _ h => h) HP.out) hhq (liesP_keep (fun x hx => hb.block x (HS.out x hx)) (fun _ h => h) hlq) (fun x hx => Nat.lt_of_lt_of_le (HS.out x hx) hb.size) (fun x hx => Nat.lt_of_lt_of_le (HS.out x hx) hb.size) hwb (by have := wtQ_mem (List.getElem_mem hj); omega) HZB.out.1 (HZ.out.1 _ (List.getElem_mem hj))⟩
  generalize chL yes a b = RB at *
  generalize errJ a b = Es at *
  clear h0
  obtain ⟨i0, hi0, hz0, hz1, hz2⟩ := info_parts info33
  have hI : Hid (Tryd.prog.info? 24 = some i0 ∧ i0.zero = some (.slice none 0 0) ∧ i0.size = 1 ∧ i0.bytes = 24) := ⟨hi0, hz0, hz1, hz2⟩
  clear hi0 hz0 hz1 hz2
  go_enter Tryd.func41, Tryd.ntmps41
  go_wp2_with fail
  refine c1.out.mono ?_
  rintro e w1 ⟨rfl, b1⟩
  clear c1
  go_wp2_with fail
  go_loopw [9, 10] (fun e9 e10 wr => ∃ (j : Nat) (R : List (PC w S)) (ov : Value), j ≤ a.length ∧ e9 = ov ∧ e10 = .int .i64 (j : Int) ∧ Below w.heap.size w wr ∧ Hid (R.map PC.p = (a.take j).filter (fun p => memB b p == yes)) ∧ Hid (wr.ownsRow w.heap.size 24 1 ov R.length (R.map PC.enc)) ∧ R.length ≤ j) (fun _ e10 _ => a.length - (RowKit.intOf e10).toNat)
  case atStart => exact ⟨0, [], _, by omega, rfl, rfl, b1, (by show _ = _; simp), World.ownsRow_nil _ _ _ _, Nat.le_refl _⟩
  case round =>
    clear b1
    obtain ⟨j, R, ov, hj, rfl, rfl, bj, HR, OR, hRj⟩ := hrel
    have hzr := bj.size
    by_cases hjl : j < a.length
    case neg =>
      obtain rfl : j = a.length := by omega
      have y3 : ¬ (a.length : Int) < a.length := by omega
      have HRE : Hid (R.map PC.p = RB) := by show _ = _; rw [HR.out, List.take_length, HE.out.2]
      obtain ⟨sa, sc, sb, so, rfl, hdl, hLs⟩ := own_lies (T := Tw S w wr) OR.out (fun b hb => bj.block b (hS b hb)) (fun b hb => .inl hb) (fun g h1 h2 => .inr ⟨h1, h2⟩)
      rw [HRE.out] at hdl hLs ⊢
      have HLs := hmk hLs
      have HHd := hmk hdl
      clear hLs OR HR hdl
      go_wp2_with fail
      go_ret2
      exact ⟨sa, sc, sb, so, by rw [HE.out.1]; rfl, HHd.out, HLs.out, bj⟩
    have y3 : (j : Int) < a.length := by omega
    obtain ⟨X, aq, cq, hX, hcell, hcall⟩ := CQ.out j hjl
    obtain rfl : aa = some ⟨ba, oa, none⟩ := hha.at_.resolve_left (by omega)
    have HX := hmk hX
    have RC := hmk hcell
    have c := hmk (hcall wr bj)
    have rq := hcell wr bj
    have HTP : Hid ((a.take (j + 1)).filter (fun p => memB b p == yes) = (a.take j).filter (fun p => memB b p == yes) ++ (if (memB b a[j] == yes) = true then [a[j]] else [])) := by
      show _ = _
      rw [List.take_succ_eq_append_getElem hjl, List.filter_append]
      congr 1
      by_cases h : (memB b a[j] == yes) = true <;> simp [h]
    clear hX hcell hcall
    generalize memB b a[j] = mm at *
    cases hb : mm == yes with
    | false =>
      rw [hb] at HTP
      have HR2 : Hid (R.map PC.p = (a.take (j + 1)).filter (fun p => memB b p == yes)) := by show _ = _; rw [HTP.out, HR.out]; simp
      clear HTP HR HX
      generalize a[j] = pj at *
      go_wp2_with fail
      refine c.out.mono ?_
      rintro e w3 ⟨rfl, b3⟩
      have O3 := hmk (own_below OR.out b3)
      go_wp2_with fail
      go_roundw
      case rel => exact ⟨j + 1, R, _, by omega, rfl, by go_num, bj.trans (b3.mono hzr), HR2, O3, by omega⟩
      case measure => simp [RowKit.intOf]; omega
    | true =>
      rw [hb] at HTP
      have HR2 : Hid ((R ++ [X]).map PC.p = (a.take (j + 1)).filter (fun p => memB b p == yes)) := by show _ = _; rw [HTP.out, List.map_append, HR.out]; simp [HX.out.1]
      clear HTP HR
      generalize a[j] = pj at *
      go_wp2_with fail
      refine c.out.mono ?_
      rintro e w2 ⟨rfl, b2⟩
      have BB := bj.trans (b2.mono hzr)
      have OW := hmk (own_below OR.out b2)
      have rq2 := RC.out w2 BB
      have hz2 := BB.size
      clear c rq b2 bj OR
      have hal1 := alloc_size w2 (.cells #[.slice aq pj.length cq] 24)
      have hne1 := heap_alloc_new w2 (.cells #[.slice aq pj.length cq] 24)
      have CLX : Hid (∀ j u, [Value.slice aq pj.length cq][j]? = some u → (w2.alloc (.cells #[.slice aq pj.length cq] 24)).cell? ⟨w2.heap.size, 0 + j, none⟩ = some u) := fun j u hu => by
        rw [Nat.zero_add, cell_of_block hne1]
        rw [← hu]
        rw [← Array.getElem?_toList]
      have gal : Hid (w2.grownBy (w2.alloc (.cells #[.slice aq pj.length cq] 24)) none) := World.grownBy_alloc _ _ _
      have hvr : Hid (∀ r, u9.ownBlock = some r → w.heap.size ≤ r ∧ r < w2.heap.size) := fun r hr => OW.out.lt r hr
      go_wp2_with (at_builtin; go_loud (refine wpl_catP rfl (.tmp 33) (.tmp 38) 22 rfl w.heap.size 24 i0 _ 1 24 Tryd.underlying22 hI.out.1 hI.out.2.1 hI.out.2.2.1 hI.out.2.2.2 rfl (by decide) (by decide) u9 _ _ rfl (own_keep OW.out gal.out (fun r e => by cases e)) (some ⟨w2.heap.size, 0, none⟩) 1 1 w2.heap.size 0 rfl ⟨Nat.le_refl _, by simp [maxLen], .inr rfl, fun h => by cases h⟩ [.slice aq pj.length cq] rfl CLX.out oneQ (by omega) (by omega) ?_))
      intro v3 w3 o3 g3
      have hz3 := g3.size
      have B3 : Hid (Below w.heap.size w w3) := (BB.grown gal.out (by omega) (fun r e => by cases e)).grown g3 (by omega) (fun r e => by have := (hvr.out r e).1; omega)
      have O3 : Hid (w3.ownsRow w.heap.size 24 1 v3 (R ++ [X]).length ((R ++ [X]).map PC.enc)) := by
        have e1 : (R ++ [X]).length = R.length + 1 := by simp
        have e2 : (R ++ [X]).map PC.enc = R.map PC.enc ++ [.slice aq pj.length cq] := by simp [HX.out.2]
        show World.ownsRow _ _ _ _ _ _ _
        rw [e1, e2]
        exact o3
      have hlen2 : (R ++ [X]).length ≤ j + 1 := by simp; omega
      clear o3 g3 OW
      go_wp2_with fail
      go_roundw
      case rel => exact ⟨j + 1, R ++ [X], _, by omega, rfl, by go_num, B3.out, HR2, O3, hlen2⟩
      case measure => simp [RowKit.intOf]; omega
set_option maxHeartbeats 4000000 in
theorem rmeet_any (a b : List (List El)) (S : Nat → Prop) (aa : Option Addr) (ca ba oa : Nat) (ab : Option Addr) (cb bb ob : Nat) (w : World) (hha : Headed aa a.length ca ba oa) (hla : liesQ w S a ba oa) (hhb : Headed ab b.length cb bb ob) (hlb : liesQ w S b bb ob) (hS : ∀ b, S b → b < w.heap.size) (hwa : a.length + wtQ a ≤ 2147483647) (hwb : b.length + wtQ b ≤ 2147483647) :
    Calls Tryd.prog 18 #[.slice aa a.length ca, .slice ab b.length cb] w (BwPost (joL tM a b) (errJ a b) S w) := by
  have c1 := hmk (chosen_any a b true S aa ca ba oa ab cb bb ob w hha hla hhb hlb hS hwa hwb)
  rw [ch_meet] at c1
  clear hla hlb
  generalize joL tM a b = RB at *
  generalize errJ a b = Es at *
  go_enter Tryd.func18, Tryd.ntmps18
  go_wp2_with fail
  refine c1.out.mono ?_
  rintro e w1 ⟨sa, sc, sb, so, rfl, hd, hl, b1⟩
  have H1 := hmk (And.intro hd hl)
  clear hd hl
  go_wp2_with fail
  go_ret2
  exact ⟨sa, sc, sb, so, rfl, H1.out.1, H1.out.2, b1⟩
set_option maxHeartbeats 4000000 in
theorem rminus_any (a b : List (List El)) (S : Nat → Prop) (aa : Option Addr) (ca ba oa : Nat) (ab : Option Addr) (cb bb ob : Nat) (w : World) (hha : Headed aa a.length ca ba oa) (hla : liesQ w S a ba oa) (hhb : Headed ab b.length cb bb ob) (hlb : liesQ w S b bb ob) (hS : ∀ b, S b → b < w.heap.size) (hwa : a.length + wtQ a ≤ 2147483647) (hwb : b.length + wtQ b ≤ 2147483647) :
    Calls Tryd.prog 20 #[.slice aa a.length ca, .slice ab b.length cb] w (BwPost (joL tN a b) (errJ a b) S w) := by
  have c1 := hmk (chosen_any a b false S aa ca ba oa ab cb bb ob w hha hla hhb hlb hS hwa hwb)
  rw [ch_minus] at c1
  clear hla hlb
  generalize joL tN a b = RB at *
  generalize errJ a b = Es at *
  go_enter Tryd.func20, Tryd.ntmps20
  go_wp2_with fail
  refine c1.out.mono ?_
  rintro e w1 ⟨sa, sc, sb, so, rfl, hd, hl, b1⟩
  have H1 := hmk (And.intro hd hl)
  clear hd hl
  go_wp2_with fail
  go_ret2
  exact ⟨sa, sc, sb, so, rfl, H1.out.1, H1.out.2, b1⟩
/-- whether all are in it, and the error -/
def wiB (a b : List (List El)) : Bool := decide (errJ a b = 0) && decide ((joL tN a b).length = 0)
def WiPost (r : Bool) (er : Nat) (w : World) (e : Ending) (w' : World) : Prop := e = .returned (.tuple #[.bool r, .int .i64 (er : Int)]) ∧ Below w.heap.size w w'
set_option maxHeartbeats 4000000 in
theorem rwithin_any (a b : List (List El)) (S : Nat → Prop) (aa : Option Addr) (ca ba oa : Nat) (ab : Option Addr) (cb bb ob : Nat) (w : World) (hha : Headed aa a.length ca ba oa) (hla : liesQ w S a ba oa) (hhb : Headed ab b.length cb bb ob) (hlb : liesQ w S b bb ob) (hS : ∀ b, S b → b < w.heap.size) (hwa : a.length + wtQ a ≤ 2147483647) (hwb : b.length + wtQ b ≤ 2147483647) :
    Calls Tryd.prog 22 #[.slice aa a.length ca, .slice ab b.length cb] w (WiPost (wiB a b) (errJ a b) w) := by
  have c1 := hmk (rminus_any a b S aa ca ba oa ab cb bb ob w hha hla hhb hlb hS hwa hwb)
  clear hla hlb
  have HE : Hid (wiB a b = (decide (errJ a b = 0) && decide ((joL tN a b).length = 0))) := rfl
  generalize wiB a b = RR at *
  generalize (joL tN a b) = RB at *
  generalize errJ a b = Es at *
  by_cases h0 : Es = 0
  · have y1 : (((Es : Nat) : Int) == 0) = true := by rw [h0]; rfl
    by_cases h1 : RB.length = 0
    · have y2 : (((RB.length : Nat) : Int) == 0) = true := by rw [h1]; rfl
      have HF : Hid (RR = true) := by show _ = _; rw [HE.out, decide_eq_true h0, decide_eq_true h1]; rfl
      clear h0 h1 HE
      go_enter Tryd.func22, Tryd.ntmps22
      go_wp2_with fail
      refine c1.out.mono ?_
      rintro e w1 ⟨sa, sc, sb, so, rfl, hd, hl, b1⟩
      clear hl
      go_wp2_with fail
      go_ret2
      exact ⟨by rw [HF.out]; rfl, b1⟩
    · have y2 : (((RB.length : Nat) : Int) == 0) = false := beq_eq_false_iff_ne.2 (by omega)
      have HF : Hid (RR = false) := by show _ = _; rw [HE.out, decide_eq_false h1, Bool.and_false]
      clear h0 h1 HE
      go_enter Tryd.func22, Tryd.ntmps22
      go_wp2_with fail
      refine c1.out.mono ?_
      rintro e w1 ⟨sa, sc, sb, so, rfl, hd, hl, b1⟩
      clear hl
      go_wp2_with fail
      go_ret2
      exact ⟨by rw [HF.out]; rfl, b1⟩
  · have y1 : (((Es : Nat) : Int) == 0) = false := beq_eq_false_iff_ne.2 (by omega)
    have HF : Hid (RR = false) := by show _ = _; rw [HE.out, decide_eq_false h0, Bool.false_and]
    clear h0 HE
    go_enter Tryd.func22, Tryd.ntmps22
    go_wp2_with fail
    refine c1.out.mono ?_
    rintro e w1 ⟨sa, sc, sb, so, rfl, hd, hl, b1⟩
    clear hl
    go_wp2_with fail
    go_ret2
    exact ⟨by rw [HF.out]; rfl, b1⟩
set_option maxHeartbeats 16000000 in
set_option maxRecDepth 100000 in
theorem runion_any (a b : List (List El)) (S : Nat → Prop) (aa : Option Addr) (ca ba oa : Nat) (ab : Option Addr) (cb bb ob : Nat) (w : World) (hha : Headed aa a.length ca ba oa) (hla : liesQ w S a ba oa) (hhb : Headed ab b.length cb bb ob) (hlb : liesQ w S b bb ob) (hS : ∀ b, S b → b < w.heap.size) (hwa : a.length + wtQ a ≤ 2147483647) (hwb : b.length + wtQ b ≤ 2147483647) :
    Calls Tryd.prog 16 #[.slice aa a.length ca, .slice ab b.length cb] w (BwPost (joL tU a b) (errJ a b) S w) := by
  have HL := hmk hla
  have HP := hmk hlb
  have HS := hmk hS
  have c1 := hmk (rtwo_any a b S aa ca ba oa ab cb bb ob w hha hla hhb hlb hS hwa hwb)
  clear hla hlb
  have hlen : a.length ≤ 9223372036854775807 := by omega
  have hlenb : b.length ≤ 9223372036854775807 := by omega
  by_cases h0 : errJ a b = 0
  case neg =>
    have y1 : (((errJ a b : Nat) : Int) != 0) = true := by rw [bne_iff_ne]; omega
    have HE : Hid (joL tU a b = []) := by show _ = _; rw [joL, if_neg h0]
    generalize joL tU a b = RB at *
    generalize errJ a b = Es at *
    clear h0
    go_enter Tryd.func16, Tryd.ntmps16
    go_wp2_with fail
    refine c1.out.mono ?_
    rintro e w1 ⟨rfl, b1⟩
    go_wp2_with fail
    go_ret2
    rw [HE.out]
    exact bw_nil b1 rfl
  have y1 : (((errJ a b : Nat) : Int) != 0) = false := by rw [h0]; rfl
  have HZ := hmk (setC_zero (errJ_zero h0).1)
  have HZB := hmk (setC_zero (errJ_zero h0).2)
  have HE : Hid (errJ a b = 0 ∧ ∀ R, Rs (a ++ b) R → R = joL tU a b) := ⟨h0, fun R h => jo_union h0 h⟩
  obtain ⟨xa, exa, hxa⟩ := pc_of HL.out
  obtain ⟨xb, exb, hxb⟩ := pc_of HP.out
  have hna : xa.length = a.length := by rw [← exa, List.length_map]
  have hnb : xb.length = b.length := by rw [← exb, List.length_map]
  have R0 : Hid (∀ W, Below w.heap.size w W → RdR W (fun x => S x ∨ w.heap.size ≤ x) aa ca ba oa xa) := fun W hb => ⟨by rw [hna]; exact hha, fun j hj => by
    have hSb : S ba := (HL.out j (by omega)).1
    exact (World.cell?_of_block (w := w) (a := ⟨ba, oa + j, none⟩) (hb.block _ (HS.out _ hSb))).trans (hxa j hj), fun h0 => .inl (HL.out 0 (by omega)).1⟩
  have HRS0 : Hid (Rs (a ++ b.take 0) (xa.map PC.p)) := by
    show Rs _ _
    rw [List.take_zero, List.append_nil, exa]
    exact ⟨HZ.out.2.1, fun p => Iff.rfl⟩
  have CB : Hid (∀ (j : Nat) (hj : j < b.length) (W : World), Below w.heap.size w W → W.cell? ⟨bb, ob + j, none⟩ = some (xb[j]'(by omega)).enc) := fun j hj W hb => by
    have hSb : S bb := (HP.out j hj).1
    exact (World.cell?_of_block (w := w) (a := ⟨bb, ob + j, none⟩) (hb.block _ (HS.out _ hSb))).trans (hxb j (by omega))
  have XB : Hid (∀ (j : Nat) (hj : j < b.length), (xb[j]'(by omega)).p = b[j]) := fun j hj => by
    have : (xb.map PC.p)[j]'(by rw [List.length_map]; omega) = b[j] := by simp only [exb]
    rw [List.getElem_map] at this
    exact this
  generalize joL tU a b = RB at *
  generalize errJ a b = Es at *
  clear h0
  go_enter Tryd.func16, Tryd.ntmps16
  go_wp2_with fail
  refine c1.out.mono ?_
  rintro e w1 ⟨rfl, b1⟩
  clear c1
  go_wp2_with fail
  go_loopw [7, 8] (fun e7 e8 wr => ∃ (j : Nat) (R : List (PC w S)) (a' : Option Addr) (c' b' o' : Nat), j ≤ b.length ∧ e7 = .slice a' R.length c' ∧ e8 = .int .i64 (j : Int) ∧ Below w.heap.size w wr ∧ Hid (Rs (a ++ b.take j) (R.map PC.p)) ∧ Hid (RdR wr (fun x => S x ∨ w.heap.size ≤ x) a' c' b' o' R) ∧ R.length ≤ a.length + j) (fun _ e8 _ => b.length - (RowKit.intOf e8).toNat)
  case atStart => exact ⟨0, xa, aa, ca, ba, oa, by omega, by rw [hna], rfl, b1, HRS0, R0.out _ b1, by omega⟩
  case round =>
    clear b1 R0 HRS0
    obtain ⟨j, R, a', c', b', o', hj, rfl, rfl, bj, HR, OR, hRj⟩ := hrel
    have hzr := bj.size
    by_cases hjl : j < b.length
    case neg =>
      obtain rfl : j = b.length := by omega
      have y3 : ¬ (b.length : Int) < b.length := by omega
      have HRE : Hid (R.map PC.p = RB) := HE.out.2 _ (by have := HR.out; rwa [List.take_length] at this)
      have HHd : Hid (Headed a' (R.map PC.p).length c' b' o') := by show Headed _ _ _ _ _; rw [List.length_map]; exact OR.out.hd
      have HLs : Hid (liesQ wr (Tw S w wr) (R.map PC.p) b' o') := fun i hi => by
        obtain ⟨q1, v, q2, q3⟩ := OR.out.lies (fun x hx => bj.block x (hS x hx)) (fun x hx => .inl hx) i hi
        have hlt : b' < wr.heap.size := World.block_lt_of_cell? wr _ q2
        refine ⟨q1.elim .inl (fun h => .inr ⟨h, hlt⟩), v, q2, ?_⟩
        rw [List.getElem_map]
        have hi' : i < R.length := by simpa using hi
        have e : v = (R[i]).enc := Option.some.inj (q2.symm.trans (OR.out.cell i hi'))
        rw [e]
        exact (R[i]).lies (fun x hx => bj.block x (hS x hx)) (fun x hx => .inl hx)
      have hRl : R.length = RB.length := by rw [← HRE.out, List.length_map]
      rw [HRE.out] at HHd HLs
      rw [hRl]
      clear OR HR
      go_wp2_with fail
      go_ret2
      exact ⟨a', c', b', o', by rw [HE.out.1]; rfl, HHd.out, HLs.out, bj⟩
    have y3 : (j : Int) < b.length := by omega
    obtain rfl : ab = some ⟨bb, ob, none⟩ := hhb.at_.resolve_left (by omega)
    have rq := CB.out j hjl wr bj
    have HTP : Hid (a ++ b.take (j + 1) = (a ++ b.take j) ++ [b[j]]) := by show _ = _; rw [List.take_succ_eq_append_getElem hjl, List.append_assoc]
    have HMP : Hid (∀ y ∈ R, pathB y.p = true ∧ wtP y.p ≤ 2147483647) := fun y hy => by
      have := (HR.out.2 _).1 (List.mem_map_of_mem hy)
      rcases List.mem_append.1 this with h | h
      · exact ⟨HZ.out.1 _ h, by have := wtQ_mem h; omega⟩
      · have h := List.mem_of_mem_take h
        exact ⟨HZB.out.1 _ h, by have := wtQ_mem h; omega⟩
    have hpj := HZB.out.1 _ (List.getElem_mem hjl)
    have hwj := wtQ_mem (List.getElem_mem hjl)
    rw [← XB.out j hjl] at hpj hwj HTP
    have c := hmk (rputj_any hS (fun x => S x ∨ w.heap.size ≤ x) (a ++ b.take j) (xb[j]'(by omega)) R a' c' b' o' wr (fun x hx => .inr (by omega)) bj OR.out HR.out (fun y hy => (HMP.out y hy).1) hpj (fun y hy => (HMP.out y hy).2) (by omega) (by omega))
    clear HMP hpj hwj OR HR
    generalize xb[j]'(by omega) = X at *
    obtain ⟨aq, nq, cq, hxe⟩ : ∃ a n c, X.enc = .slice a n c := ⟨_, _, _, rfl⟩
    rw [hxe] at rq c
    clear hxe
    go_wp2_with fail
    refine c.out.mono ?_
    rintro e w2 ⟨R', a2, c2, b2, o2, rfl, hrd, hrs, hlr, bw2⟩
    have OO := hmk hrd
    have HRR : Hid (Rs (a ++ b.take (j + 1)) (R'.map PC.p)) := by show Rs _ _; rw [HTP.out]; exact hrs
    have B2 := hmk (bj.trans (bw2.mono hzr))
    clear hrd hrs bw2 c rq bj
    go_wp2_with fail
    go_roundw
    case rel => exact ⟨j + 1, R', a2, c2, b2, o2, by omega, rfl, by go_num, B2.out, HRR, OO, by omega⟩
    case measure => simp [RowKit.intOf]; omega
end Go.Proofs.YtfbmmilphcnolaaDoor
