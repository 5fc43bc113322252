import Derived.Test.YthlhkhcbkgbhfaaGreatDoorG33
/- The search with its place; pathset.Ends. -/
set_option linter.unusedSimpArgs false
set_option linter.unusedVariables false
namespace Go.Proofs.YthlhkhcbkgbhfaaGreatDoor
open Go.RowKit Go.Lib
def BsPost2 (l : List (List El)) (p : List El) (r : Bool) (w : World) (e : Ending) (w' : World) : Prop := ∃ i : Nat, i ≤ l.length ∧ e = .returned (.tuple #[.int .i64 (i : Int), .bool r]) ∧ (∀ k, (hk : k < l.length) → k < i → lexL oeE l[k] p < 0) ∧ (∀ k, (hk : k < l.length) → i ≤ k → 0 ≤ lexL oeE l[k] p) ∧ ((r = true → ∃ h : i < l.length, lexL oeE l[i] p = 0) ∧ (r = false → ∀ h : i < l.length, lexL oeE l[i] p ≠ 0)) ∧ Below w.heap.size w w'
set_option maxHeartbeats 8000000 in
set_option maxRecDepth 100000 in
theorem bsearch2_any (l : List (List El)) (p : List El) (S S' : Nat → Prop) (al : Option Addr) (cl bl ol : Nat) (ap : Option Addr) (cp bp op : Nat) (w : World) (hal : Headed al l.length cl bl ol) (hl : liesQ w S l bl ol) (hap : Headed ap p.length cp bp op) (hp : liesP w S' p bp op) (hS : ∀ b, S b → b < w.heap.size) (hS' : ∀ b, S' b → b < w.heap.size) (hn : l.length ≤ 2147483647) (hr : l.Pairwise (fun a b => lexL oeE a b < 0)) :
    Calls Tryz.prog 37 #[.slice al l.length cl, .slice ap p.length cp, .func (.func 36) #[] #[]] w (BsPost2 l p (memB l p) w) := by
  have HL := hmk hl
  have HP := hmk hp
  have HR : Hid (∀ i j, (hi : i < l.length) → (hj : j < l.length) → i < j → lexL oeE l[i] l[j] < 0) := fun i j hi hj hij => List.pairwise_iff_getElem.1 hr i j hi hj hij
  clear hl hp hr
  have hlen : l.length ≤ 9223372036854775807 := by omega
  have HM1 : Hid (∀ j, (h : j < l.length) → lexL oeE l[j] p = 0 → memB l p = true) := fun j h e => memB_yes h e
  have HM2 : Hid ((∀ i, (hi : i < l.length) → lexL oeE l[i] p ≠ 0) → memB l p = false) := memB_no
  have CC : Hid (∀ (j : Nat) (hj : j < l.length), ∃ aq cq, (∀ W, Below w.heap.size w W → W.cell? ⟨bl, ol + j, none⟩ = some (.slice aq (l[j]).length cq)) ∧ ∀ W, Below w.heap.size w W → Calls Tryz.prog 36 #[.slice aq (l[j]).length cq, .slice ap p.length cp] W (JPost (lexL oeE l[j] p) W)) := fun j hj => by
    obtain ⟨hSb, v, hv, aq, cq, bq, oq, rfl, hhq, hlq⟩ := HL.out j hj
    exact ⟨aq, cq, fun W hb => (World.cell?_of_block (w := w) (a := ⟨bl, ol + j, none⟩) (hb.block _ (hS _ hSb))).trans hv, fun W hb => opaths_any l[j] p S S' aq cq bq oq ap cp bp op W hhq (liesP_keep (fun x hx => hb.block x (hS x hx)) (fun _ h => h) hlq) hap (liesP_keep (fun x hx => hb.block x (hS' x hx)) (fun _ h => h) HP.out) (fun x hx => Nat.lt_of_lt_of_le (hS x hx) hb.size) (fun x hx => Nat.lt_of_lt_of_le (hS' x hx) hb.size)⟩
  generalize memB l p = RR at *
  go_enter Tryz.func37, Tryz.ntmps37
  go_wp2_with fail
  go_loopw [9, 10] (fun e9 e10 wr => ∃ i j : Nat, i ≤ j ∧ j ≤ l.length ∧ e9 = .int .i64 (i : Int) ∧ e10 = .int .i64 (j : Int) ∧ Below w.heap.size w wr ∧ Hid (∀ k, (hk : k < l.length) → k < i → lexL oeE l[k] p < 0) ∧ Hid (∀ k, (hk : k < l.length) → j ≤ k → 0 ≤ lexL oeE l[k] p)) (fun e9 e10 _ => (RowKit.intOf e10).toNat - (RowKit.intOf e9).toNat)
  case atStart => exact ⟨0, l.length, by omega, by omega, rfl, rfl, Below.refl _ _, fun k hk h => by omega, fun k hk h => by omega⟩
  case round =>
    obtain ⟨i, j, hij0, hjl, rfl, rfl, bj, HLO, HHI⟩ := hrel
    have hzr := bj.size
    by_cases hij : i < j
    · have y1 : (i : Int) < j := by omega
      obtain ⟨h, hh, hh1, hh2⟩ : ∃ h : Nat, ((i : Int) + (j : Int)) / 2 = (h : Int) ∧ i ≤ h ∧ h < j := ⟨(i + j) / 2, by omega, by omega, by omega⟩
      have hhl : h < l.length := by omega
      have y2 : (h : Int) < l.length := by omega
      obtain ⟨aq, cq, hcell, hcall⟩ := CC.out h hhl
      obtain rfl : al = some ⟨bl, ol, none⟩ := hal.at_.resolve_left (by omega)
      have r0 := hcell wr bj
      have c := hmk (hcall wr bj)
      have HX1 : Hid (lexL oeE l[h] p < 0 → ∀ k, (hk : k < l.length) → k < h + 1 → lexL oeE l[k] p < 0) := fun e k hk hkh => by
        by_cases ek : k = h
        · subst ek; exact e
        · exact wk_P.tri _ _ _ (HR.out k h hk hhl (by omega)) e
      have HX2 : Hid (0 ≤ lexL oeE l[h] p → ∀ k, (hk : k < l.length) → h ≤ k → 0 ≤ lexL oeE l[k] p) := fun e k hk hkh => by
        by_cases ek : k = h
        · subst ek; exact e
        · by_cases e2 : lexL oeE l[k] p < 0
          · have := wk_P.tri _ _ _ (HR.out h k hhl hk (by omega)) e2
            omega
          · omega
      generalize lexL oeE l[h] p = Z at *
      clear hcell hcall HM1 HM2
      generalize l[h] = ph at *
      by_cases hZ : Z < 0
      · have HF := hmk (HX1.out hZ)
        clear HX1 HX2
        go_wp2_with fail
        refine c.out.mono ?_
        rintro e w3 ⟨rfl, b3⟩
        go_wp2_with fail
        go_roundw
        case rel => exact ⟨h + 1, j, by omega, by omega, by go_num, rfl, bj.trans (b3.mono hzr), HF, HHI⟩
        case measure => simp [RowKit.intOf]; omega
      · have HF := hmk (HX2.out (by omega))
        clear HX1 HX2
        go_wp2_with fail
        refine c.out.mono ?_
        rintro e w3 ⟨rfl, b3⟩
        go_wp2_with fail
        go_roundw
        case rel => exact ⟨i, h, by omega, by omega, rfl, rfl, bj.trans (b3.mono hzr), HLO, HF⟩
        case measure => simp [RowKit.intOf]; omega
    · obtain rfl : i = j := by omega
      have y1 : ¬ (i : Int) < i := by omega
      by_cases hpos : i < l.length
      · have y2 : (i : Int) < l.length := by omega
        obtain ⟨aq, cq, hcell, hcall⟩ := CC.out i hpos
        obtain rfl : al = some ⟨bl, ol, none⟩ := hal.at_.resolve_left (by omega)
        have r0 := hcell wr bj
        have c := hmk (hcall wr bj)
        have HF : Hid (RR = (lexL oeE l[i] p == 0)) := by
          show _ = _
          by_cases e : lexL oeE l[i] p = 0
          · rw [HM1.out i hpos e, e]; rfl
          · rw [beq_eq_false_iff_ne.2 e]
            refine HM2.out fun k hk e2 => ?_
            rcases Nat.lt_trichotomy k i with h | h | h
            · have := HLO.out k hk h; omega
            · subst h; exact e e2
            · have h1 := HR.out i k hpos hk h
              have h2 := HHI.out i hpos (Nat.le_refl _)
              rw [wk_P.congR e2] at h1
              omega
        have HM3 : Hid ((RR = true → ∃ h : i < l.length, lexL oeE l[i] p = 0) ∧ (RR = false → ∀ h : i < l.length, lexL oeE l[i] p ≠ 0)) := ⟨fun h => ⟨hpos, by rw [HF.out] at h; simpa using h⟩, fun h _ => by rw [HF.out] at h; simpa using h⟩
        generalize lexL oeE l[i] p = Z at *
        clear hcell hcall HM1 HM2 HR
        generalize l[i] = ph at *
        go_wp2_with fail
        refine c.out.mono ?_
        rintro e w3 ⟨rfl, b3⟩
        go_wp2_with fail
        go_ret2
        exact ⟨i, by omega, by rw [HF.out]; rfl, HLO.out, HHI.out, HM3.out, bj.trans (b3.mono hzr)⟩
      · have y2 : ¬ (i : Int) < l.length := by omega
        have HF : Hid (RR = false) := HM2.out fun k hk e2 => by have := HLO.out k hk (by omega); omega
        clear HM1 HM2 HR
        go_wp2_with fail
        go_ret2
        exact ⟨i, by omega, by rw [HF.out]; rfl, HLO.out, HHI.out, ⟨fun h => (by rw [HF.out] at h; cases h), fun _ h => absurd h hpos⟩, bj⟩
set_option maxHeartbeats 16000000 in
set_option maxRecDepth 100000 in
theorem ends_any (l : List (List El)) (S : Nat → Prop) (al : Option Addr) (cl bl ol : Nat) (w : World) (tb : Tb w) (hal : Headed al l.length cl bl ol) (hl : liesQ w S l bl ol) (hS : ∀ b, S b → b < w.heap.size) (hwt : l.length + wtQ l ≤ 2147483647) :
    Calls Tryz.prog 23 #[.slice al l.length cl] w (BwPost (endL l) (errS l) S w) := by
  have HL := hmk hl
  have HS := hmk hS
  have c1 := hmk (schk_any l S al cl bl ol w tb hal HL.out hS hwt)
  clear hl tb
  have hlen : l.length ≤ 9223372036854775807 := by omega
  by_cases h0 : errS l = 0
  case neg =>
    have y1 : (((errS l : Nat) : Int) != 0) = true := by rw [bne_iff_ne]; omega
    have HE : Hid (endL l = []) := by show _ = _; rw [endL, if_neg h0]
    generalize endL l = RB at *
    generalize errS l = Es at *
    clear h0
    go_enter Tryz.func23, Tryz.ntmps23
    go_wp2_with fail
    refine c1.out.mono ?_
    rintro e w1 ⟨rfl, b1⟩
    go_wp2_with fail
    go_ret2
    rw [HE.out]
    exact bw_nil b1 rfl
  have y1 : (((errS l : Nat) : Int) != 0) = false := by rw [h0]; rfl
  have HZ := hmk (setC_zero h0)
  have HE : Hid (endL l = l.filter (endB l)) := by show _ = _; rw [endL, if_pos h0]
  have HE0 := hmk h0
  have HEN : Hid (∀ (j : Nat) (hj : j < l.length), endB l l[j] = (decide (j + 1 = l.length) || !(match l[j + 1]? with | some x => cabP l[j] x | none => false))) := fun j hj => end_next HZ.out.2.1 hj
  generalize endL l = RB at *
  generalize errS l = Es at *
  clear h0
  obtain ⟨i0, hi0, hz0, hz1, hz2⟩ := info_parts info33
  have hI : Hid (Tryz.prog.info? 32 = some i0 ∧ i0.zero = some (.slice none 0 0) ∧ i0.size = 1 ∧ i0.bytes = 24) := ⟨hi0, hz0, hz1, hz2⟩
  clear hi0 hz0 hz1 hz2
  go_enter Tryz.func23, Tryz.ntmps23
  go_wp2_with fail
  refine c1.out.mono ?_
  rintro e w1 ⟨rfl, b1⟩
  clear c1
  go_wp2_with fail
  go_loopw [5, 15] (fun e5 e15 wr => ∃ (j : Nat) (R : List (List El)) (pv : Value) (SP : Nat → Prop), j ≤ l.length ∧ e5 = pv ∧ e15 = .int .i64 (j : Int) ∧ Below w.heap.size w wr ∧ Hid (R = (l.take j).filter (endB l)) ∧ OwnQ wr 0 SP pv R ∧ Hid (∀ r, pv.ownBlock = some r → w.heap.size ≤ r) ∧ Hid (∀ b, SP b → w.heap.size ≤ b) ∧ R.length ≤ j) (fun _ e15 _ => l.length - (RowKit.intOf e15).toNat)
  case atStart => exact ⟨0, [], _, _, by omega, rfl, rfl, b1, (by show _ = _; simp), OwnR.nil _ _, fun r h => by simp [Value.ownBlock] at h, fun b (h : False) => h.elim, Nat.le_refl _⟩
  case round =>
    clear b1
    obtain ⟨j, R, pv, SP, hj, rfl, rfl, bj, HR, oO, HO, HSP, hRj⟩ := hrel
    have hzr := bj.size
    by_cases hjl : j < l.length
    case neg =>
      obtain rfl : j = l.length := by omega
      have y3 : ¬ (l.length : Int) < l.length := by omega
      have HRE : R = RB := by rw [HR.out, List.take_length, HE.out]
      obtain ⟨sa, sc, sb, so, rfl, hdl, hLs⟩ := own_listQ (T := Tw S w wr) oO (fun b hb => .inr ⟨HSP.out b hb, (oO.off b hb).2.1⟩) (fun g hg => .inr ⟨HO.out g hg, (oO.lt hg).2⟩)
      rw [HRE] at hdl hLs ⊢
      have HLs := hmk hLs
      have HHd := hmk hdl
      clear hLs oO HR hdl HRE
      go_wp2_with fail
      go_ret2
      exact ⟨sa, sc, sb, so, by rw [HE0.out]; rfl, HHd.out, HLs.out, bj⟩
    have y3 : (j : Int) < l.length := by omega
    obtain ⟨hSb, v, hv, aq, cq, bq, oq, rfl, hhq, hlq⟩ := HL.out j hjl
    obtain rfl : al = some ⟨bl, ol, none⟩ := hal.at_.resolve_left (by omega)
    have hkw : ∀ b, S b → wr.heap[b]? = w.heap[b]? := fun b hb => bj.block b (hS b hb)
    have rq : wr.cell? ⟨bl, ol + j, none⟩ = some (.slice aq (l[j]).length cq) := (World.cell?_of_block (w := w) (a := ⟨bl, ol + j, none⟩) (hkw _ hSb)).trans hv
    have hwj : wtP l[j] ≤ 2147483647 := by have := wtQ_mem (List.getElem_mem hjl); omega
    have HT1 : Hid (endB l l[j] = true → R ++ [l[j]] = (l.take (j + 1)).filter (endB l)) := fun h => by rw [List.take_succ_eq_append_getElem hjl, List.filter_append, HR.out]; simp [h]
    have HT0 : Hid (endB l l[j] = false → R = (l.take (j + 1)).filter (endB l)) := fun h => by rw [List.take_succ_eq_append_getElem hjl, List.filter_append, HR.out]; simp [h]
    have CPY : Hid (∀ W, Below w.heap.size w W → Calls Tryz.prog 46 #[.slice aq (l[j]).length cq] W (CyPost l[j] W)) := fun W hb => by
      have := copy_any l[j] S aq cq bq oq W hhq (liesP_keep (fun x hx => hb.block x (HS.out x hx)) (fun _ h => h) hlq) (fun x hx => Nat.lt_of_lt_of_le (HS.out x hx) hb.size) hwj
      rwa [anP_same (HZ.out.1 _ (List.getElem_mem hjl))] at this
    have hown : ∀ r, u5.ownBlock = some r → w.heap.size ≤ r ∧ r < wr.heap.size := fun r hr => ⟨HO.out r hr, (oO.lt hr).2⟩
    have PSH : Hid (∀ w1, Below wr.heap.size wr w1 → endB l l[j] = true → True) := fun _ _ _ => trivial
    have HEJ := hmk (HEN.out j hjl)
    have HHQ := hmk hhq
    have HLQ := hmk hlq
    clear hv hhq hlq
    by_cases hlast : j + 1 = l.length
    · have y4 : ((j : Int) + 1 == (l.length : Int)) = true := by rw [beq_iff_eq]; omega
      have HR2 : Hid (R ++ [l[j]] = (l.take (j + 1)).filter (endB l)) := HT1.out (by rw [HEJ.out]; simp [hlast])
      have o1 := oO
      clear HT1 HT0 HEJ hlast
      generalize l[j] = pj at *
      have c2 := hmk (CPY.out wr bj)
      have hz1 := bj.size
      go_wp2_with fail
      refine c2.out.mono ?_
      rintro e w2 ⟨gg, rfl, hlg, b2⟩
      have hz2 := b2.size
      have o2 := o1.below keepQ b2
      have HX : Hid (EQ pj w2 (New wr w2) [.slice (some ⟨gg, 0, none⟩) pj.length pj.length]) := ⟨_, rfl, _, _, gg, 0, rfl, ⟨Nat.le_refl _, Nat.le_trans HHQ.out.le HHQ.out.max, .inr rfl, fun h => by cases h⟩, hlg⟩
      have HKk : Hid (∀ b, New wr w2 b → 0 ≤ b ∧ b < w2.heap.size ∧ some b ≠ u5.ownBlock) := fun b hb => ⟨Nat.zero_le _, hb.2, fun e => by have := (hown b e.symm).2; have := hb.1; omega⟩
      have HO2 := hmk o2
      have B2 := hmk (bj.trans (b2.mono bj.size))
      clear hlg o2 b2 c2 o1
      go_wp2_with (at_builtin; go_loud (refine wpl_push keepQ _ rfl (.tmp 35) (.tmp 38) 22 rfl 0 i0 _ 24 Tryz.underlying22 hI.out.1 hI.out.2.1 hI.out.2.2.1 hI.out.2.2.2 rfl (by decide) (by decide) u5 pj rfl (HO2.out.alloc keepQ _) w2.heap.size 1 (0, 0) rfl (heap_alloc_new w2 _) rfl oneQ (keepQ _ _ _ _ _ _ (fun b hb => Below.heap_alloc w2 _ b (HKk.out b hb).2.1) (fun _ h => h) HX.out) (fun b hb => ⟨(HKk.out b hb).1, by rw [alloc_size]; have := (HKk.out b hb).2.1; omega, (HKk.out b hb).2.2⟩) (by omega) (Nat.zero_le _) ?_))
      intro g cap w5 o5 g5 e5
      have hg : w.heap.size ≤ g := by
        rcases e5 with e | e
        · exact (hown g e).1
        · (try rw [alloc_size] at e); omega
      have b5 : Below w.heap.size w w5 := (B2.out.alloc (by omega) _).grown g5 (by rw [alloc_size]; omega) (fun r e => (hown r e).1)
      go_wp2_with fail
      go_roundw
      case rel => exact ⟨j + 1, R ++ [pj], _, _, by omega, rfl, by go_num, b5, HR2, o5, fun r e => by (simp [Value.ownBlock] at e; omega), fun b hb => (by
        rcases hb with hb | hb
        · exact HSP.out b hb
        · have := hb.1; omega), by simp; omega⟩
      case measure => simp [RowKit.intOf]; omega
    have hj1 : j + 1 < l.length := by omega
    have y4 : ((j : Int) + 1 == (l.length : Int)) = false := by rw [beq_eq_false_iff_ne]; omega
    have y5 : (j : Int) + 1 < l.length := by omega
    have y7 : (((j : Int) + 1)).toNat = j + 1 := by omega
    obtain ⟨hSb1, v1, hv1, ap, cp, bp, op, rfl, hhp, hlp⟩ := HL.out (j + 1) hj1
    have r1 : wr.cell? ⟨bl, ol + (j + 1), none⟩ = some (.slice ap (l[j + 1]).length cp) := (World.cell?_of_block (w := w) (a := ⟨bl, ol + (j + 1), none⟩) (hkw _ hSb1)).trans hv1
    have c := hmk (cabP_any l[j] l[j + 1] S S aq cq bq oq ap cp bp op wr HHQ.out (liesP_keep hkw (fun _ h => h) HLQ.out) hhp (liesP_keep hkw (fun _ h => h) hlp) (fun x hx => Nat.lt_of_lt_of_le (hS x hx) hzr) (fun x hx => Nat.lt_of_lt_of_le (hS x hx) hzr))
    have HEV : Hid (endB l l[j] = !cabP l[j] l[j + 1]) := by show _ = _; rw [HEJ.out, List.getElem?_eq_getElem hj1]; simp [hlast]
    generalize cabP l[j] l[j + 1] = ZZ at *
    clear hv1 hhp hlp HEJ HLQ hkw
    generalize l[j + 1] = pn at *
    cases ZZ with
    | true =>
      have HR2 := hmk (HT0.out (by rw [HEV.out]; rfl))
      clear HT1 HT0 HEV
      generalize l[j] = pj at *
      go_wp2_with fail
      refine c.out.mono ?_
      rintro e w1 ⟨rfl, b1⟩
      have o1 := oO.below keepQ b1
      have B1 := bj.trans (b1.mono hzr)
      clear oO
      go_wp2_with fail
      go_roundw
      case rel => exact ⟨j + 1, R, _, _, by omega, rfl, by go_num, B1, HR2, o1, HO, HSP, by omega⟩
      case measure => simp [RowKit.intOf]; omega
    | false =>
      have HR2 := hmk (HT1.out (by rw [HEV.out]; rfl))
      clear HT1 HT0 HEV
      generalize l[j] = pj at *
      go_wp2_with fail
      refine c.out.mono ?_
      rintro e w1 ⟨rfl, b1⟩
      have o1 := oO.below keepQ b1
      have B1 := bj.trans (b1.mono hzr)
      have hz1' := b1.size
      clear oO c b1
      have c2 := hmk (CPY.out w1 B1)
      have hz1 := B1.size
      go_wp2_with fail
      refine c2.out.mono ?_
      rintro e w2 ⟨gg, rfl, hlg, b2⟩
      have hz2 := b2.size
      have o2 := o1.below keepQ b2
      have HX : Hid (EQ pj w2 (New w1 w2) [.slice (some ⟨gg, 0, none⟩) pj.length pj.length]) := ⟨_, rfl, _, _, gg, 0, rfl, ⟨Nat.le_refl _, Nat.le_trans HHQ.out.le HHQ.out.max, .inr rfl, fun h => by cases h⟩, hlg⟩
      have HKk : Hid (∀ b, New w1 w2 b → 0 ≤ b ∧ b < w2.heap.size ∧ some b ≠ u5.ownBlock) := fun b hb => ⟨Nat.zero_le _, hb.2, fun e => by have := (hown b e.symm).2; have := hb.1; omega⟩
      have HO2 := hmk o2
      have B2 := hmk (B1.trans (b2.mono B1.size))
      clear hlg o2 b2 c2 o1
      go_wp2_with (at_builtin; go_loud (refine wpl_push keepQ _ rfl (.tmp 35) (.tmp 38) 22 rfl 0 i0 _ 24 Tryz.underlying22 hI.out.1 hI.out.2.1 hI.out.2.2.1 hI.out.2.2.2 rfl (by decide) (by decide) u5 pj rfl (HO2.out.alloc keepQ _) w2.heap.size 1 (0, 0) rfl (heap_alloc_new w2 _) rfl oneQ (keepQ _ _ _ _ _ _ (fun b hb => Below.heap_alloc w2 _ b (HKk.out b hb).2.1) (fun _ h => h) HX.out) (fun b hb => ⟨(HKk.out b hb).1, by rw [alloc_size]; have := (HKk.out b hb).2.1; omega, (HKk.out b hb).2.2⟩) (by omega) (Nat.zero_le _) ?_))
      intro g cap w5 o5 g5 e5
      have hg : w.heap.size ≤ g := by
        rcases e5 with e | e
        · exact (hown g e).1
        · (try rw [alloc_size] at e); omega
      have b5 : Below w.heap.size w w5 := (B2.out.alloc (by omega) _).grown g5 (by rw [alloc_size]; omega) (fun r e => (hown r e).1)
      go_wp2_with fail
      go_roundw
      case rel => exact ⟨j + 1, R ++ [pj], _, _, by omega, rfl, by go_num, b5, HR2, o5, fun r e => by (simp [Value.ownBlock] at e; omega), fun b hb => (by
        rcases hb with hb | hb
        · exact HSP.out b hb
        · have := hb.1; omega), by simp; omega⟩
      case measure => simp [RowKit.intOf]; omega
end Go.Proofs.YthlhkhcbkgbhfaaGreatDoor
