/- put. -/
import Derived.Test.YtpbejbpimcidjaaSwYT
set_option linter.unusedSimpArgs false
set_option linter.unusedVariables false
namespace Go.Proofs.Ytpbejbpimcidjaa
open Go Go.Lib Go.RowKit Go.Maps Go.Sort

set_option maxHeartbeats 8000000 in
set_option maxRecDepth 100000 in
theorem put_any (w0 W : World) (S B : Nat) (first : Int) (hh : List He) (fl : Nat) (row : List Value) (sv evv : Value) (hs : StX w0 W S first hh fl) (hb : Bok w0 W B (first + (hh.length : Int)) first hh row sv evv) (hfl : fl ≤ hh.length) (hlen : hh.length < 400) (h0 : 0 ≤ first) (hr : first + (hh.length : Int) ≤ 9007199254740991)
    (pk pkd pr : Int) (a : Option Addr) (n c : Nat) (dd : ByteArray) (hdd : BytA W (.slice a n c) dd) (hds : dd.size ≤ 140737488351232) :
    Calls Try.prog 8 #[.pointer (some ⟨B, 0, none⟩), .pointer (some ⟨S, 0, none⟩), .agg #[.int .i64 pk, .int .i64 pkd, .int .i64 pr, .slice a n c]] W (PutPost w0 S B first hh fl) := by
  have hT := heap_alloc_new W (.cells #[.int .i64 pk, .int .i64 pkd, .int .i64 pr, .slice a n c] 42)
  have b1 := one_belowG W (.cells #[.int .i64 pk, .int .i64 pkd, .int .i64 pr, .slice a n c] 42)
  have x0 : (W.alloc (.cells #[.int .i64 pk, .int .i64 pkd, .int .i64 pr, .slice a n c] 42)).cell? ⟨W.heap.size, 0, none⟩ = some (.int .i64 pk) := by rw [cell_of_block hT]; rfl
  have HS := hmk hs
  have HB := hmk hb
  have HD := hmk hdd
  have HT := hmk hT
  have B1 := hmk b1
  have hz : W.heap.size < (W.alloc (.cells #[.int .i64 pk, .int .i64 pkd, .int .i64 pr, .slice a n c] 42)).heap.size := by rw [alloc_size]; omega
  clear hs hb hdd hT b1
  go_enter Try.func8, Try.ntmps8
  go_wp2_with fail
  clear x0
  generalize W.alloc (.cells #[.int .i64 pk, .int .i64 pkd, .int .i64 pr, .slice a n c] 42) = W1 at *
  refine (within_any pk 5 W1 (by decide) (by decide)).mono ?_
  rintro e W2 ⟨⟨k, hk, rfl⟩, b2⟩
  have hk5 : (k : Int) < 5 := hk
  have B2 := hmk (B1.out.trans (b2.mono B1.out.size))
  have hT2 := (b2.block _ hz).trans HT.out
  have hB2 := HB.out.keep (Kb.of_below B2.out)
  obtain ⟨va, vb, vc, y0, y1, y2, hsn⟩ := hB2.seen k (by omega)
  obtain ⟨ox, orv, oad, on, ocp, rfl, rfl, rfl⟩ := hsn.form
  have hz2 := lt_of_block hT2
  have b3 := one_belowG W2 (.cells #[.bool ox, .int .i64 orv, .slice oad on ocp] 32)
  have hX8 := heap_alloc_new W2 (.cells #[.bool ox, .int .i64 orv, .slice oad on ocp] 32)
  have hT3 := (b3.block _ hz2).trans hT2
  have x3 : (W2.alloc (.cells #[.bool ox, .int .i64 orv, .slice oad on ocp] 32)).cell? ⟨W.heap.size, 3, none⟩ = some (.slice a n c) := by rw [cell_of_block hT3]; rfl
  have B3 := hmk (B2.out.trans (b3.mono B2.out.size))
  have HSN := hmk (hsn.keep (fun y c fr e => b3.block y (lt_of_block e)))
  have HX8 := hmk hX8
  have HT3 := hmk hT3
  have hz3 : W2.heap.size < (W2.alloc (.cells #[.bool ox, .int .i64 orv, .slice oad on ocp] 32)).heap.size := by rw [alloc_size]; omega
  have CC := hmk (copied_any _ dd _ (HD.out.below B3.out) hds)
  clear b2 hT2 hB2 hsn b3 hX8 hT3 HT B1 hz HD
  go_wp2_with fail
  clear x3 y0 y1 y2
  generalize (W2.alloc (.cells #[.bool ox, .int .i64 orv, .slice oad on ocp] 32)) = W3 at *
  refine CC.out.mono ?_
  rintro e W4 ⟨⟨dv, rfl, hdv⟩, b4⟩
  obtain ⟨a9, c9, rfl⟩ := hdv.form
  have B4 := hmk (B3.out.trans (b4.mono B3.out.size))
  have HSN4 := hmk (HSN.out.keep (fun y c fr e => b4.block y (lt_of_block e)))
  have HX4 := hmk ((b4.block _ hz3).trans HX8.out)
  have HT4 := hmk ((b4.block _ (lt_of_block HT3.out)).trans HT3.out)
  have HDV := hmk hdv
  clear CC b4 B3 HSN HX8 HT3 hdv B2 hz3 hz2
  go_upto_if 30 with fail
  go_cut [9] (fun e9 wx => (∃ d, Byt wx e9 d ∧ d.size ≤ 4096) ∧ wx = W4)
  case first =>
    by_cases hbig : (4096 : Int) < (dd.size : Int)
    · rcases HDV.out with ⟨e, h⟩ | ⟨g, c9', cur, fr, e, hc, hbk, h⟩
      · omega
      · simp only [Value.slice.injEq] at e
        obtain ⟨rfl, _, rfl⟩ := e
        have hc2 : (4096 : Int) ≤ (c9 : Int) := by omega
        go_wp2_with fail
        go_meet
        refine ⟨⟨dd.extract 0 4096, .inr ⟨g, c9, cur, fr, ?_, ?_, hbk, fun j hj => ?_⟩, ?_⟩, rfl⟩
        · rw [ByteArray.size_extract]; congr 1; omega
        · rw [ByteArray.size_extract]; omega
        · rw [ByteArray.size_extract] at hj
          rw [h j (by omega)]
          simp [ByteArray.getElem_extract]
        · rw [ByteArray.size_extract]; omega
    · go_wp2_with fail
      go_meet
      exact ⟨⟨dd, HDV.out, by omega⟩, rfl⟩
  case rest =>
    obtain ⟨⟨d, hd, hd2⟩, hwc⟩ := hcut
    subst hwc
    obtain ⟨ad, cd, rfl⟩ := hd.form
    have hB4 := HB.out.keep (Kb.of_below B4.out)
    have p0 : wc.cell? ⟨W.heap.size, 0, none⟩ = some (.int .i64 pk) := by rw [cell_of_block HT4.out]; rfl
    have p1 : wc.cell? ⟨W.heap.size, 1, none⟩ = some (.int .i64 pkd) := by rw [cell_of_block HT4.out]; rfl
    have p2 : wc.cell? ⟨W.heap.size, 2, none⟩ = some (.int .i64 pr) := by rw [cell_of_block HT4.out]; rfl
    have p3 : wc.cell? ⟨W.heap.size, 3, none⟩ = some (.slice a n c) := by rw [cell_of_block HT4.out]; rfl
    have CWi := hmk (wish_any w0 wc B _ first hh row sv evv hB4 pk pkd pr a n c)
    have HDV5 := hmk hd
    clear HDV hd hB4
    go_wp2_with fail
    refine CWi.out.mono ?_
    rintro e W5 ⟨⟨rr, rfl⟩, b5⟩
    have p1' : W5.cell? ⟨W.heap.size, 1, none⟩ = some (.int .i64 pkd) := by rw [cell_of_block ((b5.block _ (lt_of_block HT4.out)).trans HT4.out)]; rfl
    have B5 := hmk (B4.out.trans (b5.mono B4.out.size))
    have HSN5 := hmk (HSN4.out.keep (fun y c fr e => b5.block y (lt_of_block e)))
    have HX5 := hmk ((b5.block _ (lt_of_block HX4.out)).trans HX4.out)
    have HD5 := hmk (HDV5.out.below b5)
    clear CWi b5 B4 HSN4 HX4 HT4 HDV5 p0 p1 p2 p3
    go_wp2_with fail
    refine (within_any pkd 3 W5 (by decide) (by decide)).mono ?_
    rintro e W6 ⟨⟨q, hq, rfl⟩, b6⟩
    have B6 := hmk (B5.out.trans (b6.mono B5.out.size))
    have HSN6 := hmk (HSN5.out.keep (fun y c fr e => b6.block y (lt_of_block e)))
    have HX6 := hmk ((b6.block _ (lt_of_block HX5.out)).trans HX5.out)
    have HD6 := hmk (HD5.out.below b6)
    clear b6 B5 HSN5 HX5 HD5 p1'
    go_upto_block 0 with fail
    go_cut [11, 12, 13, 14] (fun e11 e12 e13 e14 wx => Hid (Mid w0 W6 S first hh fl k d (dtS (runA A0 first hh k)) e11 e12 e13 e14 wx))
    case first =>
      have hq3 : q = 0 ∨ q = 1 ∨ q = 2 := by omega
      rcases hq3 with rfl | rfl | rfl
      · have C1 := hmk (name_any k W6 (by omega))
        go_wp2_with fail
        refine C1.out.mono ?_
        rintro e W7 ⟨rfl, b7⟩
        have B7 := hmk b7
        have C2 := hmk (copied_any _ d W7 (HD6.out.below b7).read (by omega))
        clear C1 b7
        go_wp2_with fail
        refine C2.out.mono ?_
        rintro e W8 ⟨⟨v8, rfl, h8⟩, b8⟩
        have B8 := hmk (B7.out.trans (b8.mono B7.out.size))
        have CO := hmk (create_op w0 W8 S first hh fl (HS.out.below (B6.out.trans (B8.out.mono B6.out.size))) HB.out.ok hfl (by omega) h0 hr k (by omega) v8 d h8 hd2)
        clear C2 b8 B7 h8
        go_wp2_with fail
        refine CO.out.mono ?_
        clear CO
        have hox : ox = (runA A0 first hh k).isSome := by have := HSN6.out.there; simpa using this
        rintro e W9 (⟨hw, hlt, rfl, hst, hkb⟩ | ⟨hw, hm, rfl, hst, hkb⟩ | ⟨hw, rfl, hst, hkb⟩)
        all_goals
          have hK := (Kb.of_below B8.out).trans hkb
          have hx8 := (hK _ _ _ _ HX6.out (.inr (.inr (.inr (.inr rfl))))).trans HX6.out
          have z0 : W9.cell? ⟨W2.heap.size, 0, none⟩ = some (.bool ox) := by rw [cell_of_block hx8]; rfl
          have HK := hmk hK
          have HST := hmk hst
          clear hK hx8 hkb hst B8
        · have ho : ox = false := by
            rw [hox]; unfold crW at hw; split at hw
            · cases hw
            · cases hh2 : (runA A0 first hh k).isSome
              · rfl
              · exact absurd hh2 ‹¬ _›
          subst ho
          have HL := hmk hlt
          clear hlt hw hox
          go_wp2_with fail
          go_meet
          exact .inr ⟨1, d, rfl, rfl, rfl, rfl, HL.out, .inr ⟨.inl rfl, rfl⟩, HST.out, HK.out⟩
        · have ho : ox = false := by
            rw [hox]; unfold crW at hw; split at hw
            · cases hw
            · cases hh2 : (runA A0 first hh k).isSome
              · rfl
              · exact absurd hh2 ‹¬ _›
          subst ho
          have HL := hmk hm
          clear hm hw hox
          go_wp2_with fail
          go_meet
          exact .inl ⟨194, 0, 1, rfl, rfl, rfl, rfl, by decide, .inl ⟨rfl, HL.out, rfl⟩, HST.out, HK.out⟩
        · have ho : ox = true := by
            rw [hox]; unfold crW at hw; split at hw
            · assumption
            · exact absurd rfl hw
          rw [crW_ne _ hw]
          subst ho
          clear hw hox
          go_wp2_with fail
          go_meet
          exact .inl ⟨191, 191, 1, rfl, rfl, rfl, rfl, by decide, .inr ⟨by decide, rfl⟩, HST.out, HK.out⟩
      · have C1 := hmk (name_any k W6 (by omega))
        go_wp2_with fail
        refine C1.out.mono ?_
        rintro e W7 ⟨rfl, b7⟩
        have B7 := hmk b7
        have C2 := hmk (copied_any _ d W7 (HD6.out.below b7).read (by omega))
        clear C1 b7
        go_wp2_with fail
        refine C2.out.mono ?_
        rintro e W8 ⟨⟨v8, rfl, h8⟩, b8⟩
        have B8 := hmk (B7.out.trans (b8.mono B7.out.size))
        have CO := hmk (swap_op w0 W8 S first hh fl (HS.out.below (B6.out.trans (B8.out.mono B6.out.size))) HB.out.ok hfl (by omega) h0 hr k (by omega) v8 d rr h8 hd2)
        clear C2 b8 B7 h8
        go_wp2_with fail
        refine CO.out.mono ?_
        clear CO
        rintro e W9 (⟨hw, hlt, rfl, hst, hkb⟩ | ⟨hw, hm, rfl, hst, hkb⟩ | ⟨hw, rfl, hst, hkb⟩)
        all_goals
          have hK := (Kb.of_below B8.out).trans hkb
          have hx8 := (hK _ _ _ _ HX6.out (.inr (.inr (.inr (.inr rfl))))).trans HX6.out
          have z0 : W9.cell? ⟨W2.heap.size, 0, none⟩ = some (.bool ox) := by rw [cell_of_block hx8]; rfl
          have z1 : W9.cell? ⟨W2.heap.size, 1, none⟩ = some (.int .i64 orv) := by rw [cell_of_block hx8]; rfl
          have z2 : W9.cell? ⟨W2.heap.size, 2, none⟩ = some (.slice oad on ocp) := by rw [cell_of_block hx8]; rfl
          have CH := hmk (held_any _ _ _ _ rr W9 (HSN6.out.keep (fun y c fr e => hK y c 5 fr e (.inr (.inr (.inr (.inl rfl)))))))
          have HK := hmk hK
          have HST := hmk hst
          have HW := hmk hw
          clear hK hx8 hkb hst hw B8
        · go_wp2_with fail
          refine CH.out.mono ?_
          rintro e W10 ⟨rfl, b10⟩
          rw [HW.out]
          have HKx := hmk (HK.out.trans (Kb.of_below b10))
          have HSx := hmk (HST.out.below b10)
          have HL := hmk hlt
          clear b10 CH z0 z1 z2 hlt
          go_wp2_with fail
          go_meet
          exact .inr ⟨2, d, rfl, rfl, rfl, rfl, HL.out, .inr ⟨.inr rfl, rfl⟩, HSx.out, HKx.out⟩
        · go_wp2_with fail
          refine CH.out.mono ?_
          rintro e W10 ⟨rfl, b10⟩
          rw [HW.out]
          have HKx := hmk (HK.out.trans (Kb.of_below b10))
          have HSx := hmk (HST.out.below b10)
          have HL := hmk hm
          clear b10 CH z0 z1 z2 hm
          go_wp2_with fail
          go_meet
          exact .inl ⟨194, 0, 2, rfl, rfl, rfl, rfl, by decide, .inl ⟨rfl, HL.out, rfl⟩, HSx.out, HKx.out⟩
        · go_wp2_with fail
          refine CH.out.mono ?_
          rintro e W10 ⟨rfl, b10⟩
          generalize hdW (runA A0 first hh k) rr = hv at *
          have HKx := hmk (HK.out.trans (Kb.of_below b10))
          have HSx := hmk (HST.out.below b10)
          clear b10 CH z0 z1 z2
          go_wp2_with fail
          go_meet
          exact .inl ⟨hv, hv, 2, rfl, rfl, rfl, rfl, HW.out, .inr ⟨HW.out, rfl⟩, HSx.out, HKx.out⟩
      · have C1 := hmk (name_any k W6 (by omega))
        have hdo := HSN6.out.byt.2
        go_wp2_with fail
        refine C1.out.mono ?_
        rintro e W8 ⟨rfl, b7⟩
        have B8 := hmk b7
        have CO := hmk (remove_op w0 W8 S first hh fl (HS.out.below (B6.out.trans (B8.out.mono B6.out.size))) HB.out.ok hfl (by omega) h0 hr k (by omega) rr hdo)
        clear C1 b7 hdo
        go_wp2_with fail
        refine CO.out.mono ?_
        clear CO
        rintro e W9 (⟨hw, hlt, rfl, hst, hkb⟩ | ⟨hw, hm, rfl, hst, hkb⟩ | ⟨hw, rfl, hst, hkb⟩)
        all_goals
          have hK := (Kb.of_below B8.out).trans hkb
          have hx8 := (hK _ _ _ _ HX6.out (.inr (.inr (.inr (.inr rfl))))).trans HX6.out
          have z0 : W9.cell? ⟨W2.heap.size, 0, none⟩ = some (.bool ox) := by rw [cell_of_block hx8]; rfl
          have z1 : W9.cell? ⟨W2.heap.size, 1, none⟩ = some (.int .i64 orv) := by rw [cell_of_block hx8]; rfl
          have z2 : W9.cell? ⟨W2.heap.size, 2, none⟩ = some (.slice oad on ocp) := by rw [cell_of_block hx8]; rfl
          have CH := hmk (held_any _ _ _ _ rr W9 (HSN6.out.keep (fun y c fr e => hK y c 5 fr e (.inr (.inr (.inr (.inl rfl)))))))
          have HK := hmk hK
          have HST := hmk hst
          have HW := hmk hw
          clear hK hx8 hkb hst hw B8
        · go_wp2_with fail
          refine CH.out.mono ?_
          rintro e W10 ⟨rfl, b10⟩
          rw [HW.out]
          have HKx := hmk (HK.out.trans (Kb.of_below b10))
          have HSx := hmk (HST.out.below b10)
          have HL := hmk hlt
          clear b10 CH z0 z1 z2 hlt
          go_wp2_with fail
          go_meet
          exact .inr ⟨3, dtS (runA A0 first hh k), rfl, rfl, rfl, rfl, HL.out, .inl ⟨rfl, rfl⟩, HSx.out, HKx.out⟩
        · go_wp2_with fail
          refine CH.out.mono ?_
          rintro e W10 ⟨rfl, b10⟩
          rw [HW.out]
          have HKx := hmk (HK.out.trans (Kb.of_below b10))
          have HSx := hmk (HST.out.below b10)
          have HL := hmk hm
          clear b10 CH z0 z1 z2 hm
          go_wp2_with fail
          go_meet
          exact .inl ⟨194, 0, 3, rfl, rfl, rfl, rfl, by decide, .inl ⟨rfl, HL.out, rfl⟩, HSx.out, HKx.out⟩
        · go_wp2_with fail
          refine CH.out.mono ?_
          rintro e W10 ⟨rfl, b10⟩
          generalize hdW (runA A0 first hh k) rr = hv at *
          have HKx := hmk (HK.out.trans (Kb.of_below b10))
          have HSx := hmk (HST.out.below b10)
          clear b10 CH z0 z1 z2
          go_wp2_with fail
          go_meet
          exact .inl ⟨hv, hv, 3, rfl, rfl, rfl, rfl, HW.out, .inr ⟨HW.out, rfl⟩, HSx.out, HKx.out⟩
    case rest =>
      rcases hcut.out with ⟨x, want, kd, rfl, rfl, rfl, rfl, hx, hor, hst, hkb⟩ | ⟨kd, dk, rfl, rfl, rfl, rfl, hlt, hkd, hst, hkb⟩
      · have hBc := HB.out.keep ((Kb.of_below B6.out).trans hkb)
        have c0 := hBc.c0
        have hBl := lt_of_block hBc.box
        have sc0 : ∀ y : Sub wc.heap.size wc, _ := sub_cell c0 hBl
        have CR : Hid (∀ y : Sub wc.heap.size wc, Calls Try.prog 13 #[.pointer (some ⟨S, 0, none⟩)] y.w fun e w'' => e = .returned (.int .i64 (first + (hh.length : Int))) ∧ ∃ z : Sub wc.heap.size wc, w'' = z.w) :=
          sub_call fun w' hb => (rev_op w0 w' S first hh fl (hst.below hb)).mono (by rintro e w'' ⟨rfl, rfl⟩; exact ⟨rfl, hb⟩)
        have HST := hmk hst
        have HBC := hmk hBc
        clear hcut hst hkb hBc hBl
        rcases hor with ⟨rfl, hm, rfl⟩ | ⟨hw, rfl⟩
        · have hmb : (first + (hh.length : Int) == 9007199254740991) = true := by rw [hm]; rfl
          have HM := hmk hm
          clear hm
          go_wp2_with fail
          refine wp_region_sub wc.heap.size (by kernel_rfl) (by kernel_rfl) ?_
          repeat (go_big_quiet_step (exact CR.out _))
          refine wpQuiet_nil ?_
          rintro _ ⟨⟨wq, bq⟩, rfl⟩
          have HSQ := hmk (HST.out.below bq)
          have HBQ := hmk (HBC.out.keep (Kb.of_below bq))
          clear bq sc0 CR
          go_wp2_with fail
          go_ret
          exact ⟨rfl, hh, row, sv, evv, Nat.le_refl _, by omega, HSQ.out, HBQ.out, hr⟩
        · have hwb : (x == 0) = false := by rw [beq_eq_false_iff_ne]; exact hx
          go_wp2_with fail
          refine wp_region_sub wc.heap.size (by kernel_rfl) (by kernel_rfl) ?_
          repeat (go_big_quiet_step (exact CR.out _))
          refine wpQuiet_nil ?_
          rintro _ ⟨⟨wq, bq⟩, rfl⟩
          have HSQ := hmk (HST.out.below bq)
          have HBQ := hmk (HBC.out.keep (Kb.of_below bq))
          clear bq sc0 CR
          go_wp2_with fail
          go_ret
          exact ⟨rfl, hh, row, sv, evv, Nat.le_refl _, by omega, HSQ.out, HBQ.out, hr⟩
      · have hK6 := (Kb.of_below B6.out).trans hkb
        have hBc := HB.out.keep hK6
        have hl15 := hBc.now.1
        have hbox : wc.heap[B]? = some (.cells (bbx (first + (hh.length : Int)) row sv evv) 37) := hBc.box
        have c0 := hBc.c0
        have f0 : wc.frozen? ⟨B, 0, none⟩ = false := frozen_of_block hbox 0
        have hB0 : ¬ F0 w0 B := fun q => by have := hBc.b; unfold F0 at q; omega
        have hlt2 : first + (hh.length : Int) < 9007199254740991 := hlt
        have hmb : (first + (hh.length : Int) == 9007199254740991) = false := by rw [beq_eq_false_iff_ne]; omega
        have hboxd := set_block hbox 0 (.int .i64 (first + (hh.length : Int) + 1))
        rw [bbx_set0] at hboxd
        have hod : ∀ y, y ≠ B → (wc.setCell ⟨B, 0, none⟩ (.int .i64 (first + (hh.length : Int) + 1))).heap[y]? = wc.heap[y]? := fun y hy => set_other hy
        have hsd := hst.keepB (hst.bel.grown (grown_set1 wc B 0 (.int .i64 (first + (hh.length : Int) + 1))) hB0) (Ks.of_block hod hbox (.inl rfl))
        have HBD := hmk hboxd
        have HOD := hmk hod
        have HSD := hmk hsd
        have HBC := hmk hBc
        have HK6 := hmk hK6
        have HKC := hmk hkb
        have hxc := (hkb _ _ _ _ HX6.out (.inr (.inr (.inr (.inr rfl))))).trans HX6.out
        have HXC := hmk hxc
        have HDC := hmk (HD6.out.keep (fun y c fr e => hkb y c 5 fr e (.inr (.inr (.inr (.inl rfl))))))
        have HSC := hmk (HSN6.out.keep (fun y c fr e => hkb y c 5 fr e (.inr (.inr (.inr (.inl rfl))))))
        clear hxc
        have hw0c := hst.bel.size
        have hsz1 : wc.heap.size ≤ (wc.setCell ⟨B, 0, none⟩ (.int .i64 (first + (hh.length : Int) + 1))).heap.size := by rw [size_set1]; exact Nat.le_refl _
        have HSZ1 := hmk hsz1
        clear hsz1
        clear hcut hst hkb hboxd hod hsd hlt hK6
        go_wp2_with fail
        clear c0 f0
        generalize (wc.setCell ⟨B, 0, none⟩ (.int .i64 (first + (hh.length : Int) + 1))) = Wd at *
        have hc0 : Wd.cell? ⟨B, 0, none⟩ = some (.int .i64 (first + (hh.length : Int) + 1)) := by rw [cell_of_block HBD.out]; exact bbx_c0 _ _ _ _
        have sc0 : ∀ y : Sub Wd.heap.size Wd, _ := sub_cell hc0 (lt_of_block HBD.out)
        have hlen1 : first + ((hh ++ [(kd, k, dk)]).length : Int) = first + (hh.length : Int) + 1 := by rw [List.length_append, List.length_singleton]; omega
        have CR : Hid (∀ y : Sub Wd.heap.size Wd, Calls Try.prog 13 #[.pointer (some ⟨S, 0, none⟩)] y.w fun e w'' => e = .returned (.int .i64 (first + (hh.length : Int) + 1)) ∧ ∃ z : Sub Wd.heap.size Wd, w'' = z.w) :=
          sub_call fun w' hb => (rev_op w0 w' S first (hh ++ [(kd, k, dk)]) fl (HSD.out.below hb)).mono (by rw [hlen1]; rintro e w'' ⟨rfl, rfl⟩; exact ⟨rfl, hb⟩)
        clear hc0
        refine wp_region_sub Wd.heap.size (by kernel_rfl) (by kernel_rfl) ?_
        repeat (go_big_quiet_step (exact CR.out _))
        refine wpQuiet_nil ?_
        rintro We ⟨⟨wq, bq⟩, hwe⟩
        obtain rfl : wq = We := hwe.symm
        have HBE := hmk ((bq.block B (lt_of_block HBD.out)).trans HBD.out)
        have HSE := hmk (HSD.out.below bq)
        have HZ := hmk bq
        have HSZ2 := hmk (Nat.le_trans HSZ1.out bq.size)
        clear hwe bq sc0 CR HSD HSZ1
        obtain ⟨ra, rb, rc, r1, r2, r3, _⟩ := HBC.out.now.2 k (by omega)
        have e1 : wq.cell? ⟨B, 1 + k * 3, none⟩ = some ra := by rw [cell_of_block HBE.out]; exact bbx_cr _ _ _ _ _ r1
        have e2 : wq.cell? ⟨B, 1 + k * 3 + 1, none⟩ = some rb := by rw [cell_of_block HBE.out]; exact bbx_cr _ _ _ _ _ r2
        have e3 : wq.cell? ⟨B, 1 + k * 3 + 2, none⟩ = some rc := by rw [cell_of_block HBE.out]; exact bbx_cr _ _ _ _ _ r3
        have fB : ∀ i, wq.frozen? ⟨B, i, none⟩ = false := frozen_of_block HBE.out
        go_wp2_with fail
        clear e1 e2 e3 fB
        have hboxe := set_block (set_block (set_block HBE.out (1 + k * 3) (.bool true)) (1 + k * 3 + 1) (.int .i64 (first + (hh.length : Int) + 1))) (1 + k * 3 + 2) (.slice ad d.size cd)
        rw [set3_bbx _ _ _ _ _ _ _ _ (by omega) hl15] at hboxe
        have hoe : ∀ y, y ≠ B → (((wq.setCell ⟨B, 1 + k * 3, none⟩ (.bool true)).setCell ⟨B, 1 + k * 3 + 1, none⟩ (.int .i64 (first + (hh.length : Int) + 1))).setCell ⟨B, 1 + k * 3 + 2, none⟩ (.slice ad d.size cd)).heap[y]? = wq.heap[y]? := fun y hy => ((set_other hy).trans (set_other hy)).trans (set_other hy)
        have hse := HSE.out.keepB (((HSE.out.bel.grown (grown_set1 wq B (1 + k * 3) (.bool true)) hB0).grown (grown_set1 _ B (1 + k * 3 + 1) (.int .i64 (first + (hh.length : Int) + 1))) hB0).grown (grown_set1 _ B (1 + k * 3 + 2) (.slice ad d.size cd)) hB0) (Ks.of_block hoe HBE.out (.inl rfl))
        have hkn := ((Kn.of_block HOD.out hbox).trans (Kn.of_below HZ.out)).trans (Kn.of_block hoe HBE.out)
        have HSV := hmk hse
        have HBV := hmk hboxe
        have HKV := hmk hkn
        have hsz3 : wc.heap.size ≤ (((wq.setCell ⟨B, 1 + k * 3, none⟩ (.bool true)).setCell ⟨B, 1 + k * 3 + 1, none⟩ (.int .i64 (first + (hh.length : Int) + 1))).setCell ⟨B, 1 + k * 3 + 2, none⟩ (.slice ad d.size cd)).heap.size := by rw [size_set1, size_set1, size_set1]; exact HSZ2.out
        have HSZ3 := hmk hsz3
        clear hboxe hoe hse hkn HSE HBE HZ HOD HBD hsz3 HSZ2
        generalize (((wq.setCell ⟨B, 1 + k * 3, none⟩ (.bool true)).setCell ⟨B, 1 + k * 3 + 1, none⟩ (.int .i64 (first + (hh.length : Int) + 1))).setCell ⟨B, 1 + k * 3 + 2, none⟩ (.slice ad d.size cd)) = Wv at *
        refine (name_any k Wv (by omega)).mono ?_
        rintro e Wf ⟨rfl, bf⟩
        have bg := bf.trans ((one_belowG Wf (.cells #[.int .i64 (first + (hh.length : Int) + 1), .int .i64 kd, .string (nm k), .slice ad d.size cd] 70)).mono bf.size)
        have hX15 := heap_alloc_new Wf (.cells #[.int .i64 (first + (hh.length : Int) + 1), .int .i64 kd, .string (nm k), .slice ad d.size cd] 70)
        have HSG := hmk (HSV.out.below bg)
        have HBG := hmk ((bg.block B (lt_of_block HBV.out)).trans HBV.out)
        have HKG := hmk (HKV.out.trans (Kn.of_below bg))
        have HX15 := hmk hX15
        have hsz4 := Nat.le_trans HSZ3.out bf.size
        have hBf : B < Wf.heap.size := Nat.lt_of_lt_of_le (lt_of_block HBV.out) bf.size
        clear bf bg hX15 HSV HBV HKV HSZ3
        go_upto_if 143 with fail
        go_cut [15] (fun e15 wx => e15 = .pointer (some ⟨Wf.heap.size, 0, none⟩) ∧ Hid (TailP w0 wc S B first hh fl k kd dk sv evv Wf.heap.size wx))
        case first =>
          have hXG := (HKG.out _ _ _ _ HXC.out (by decide)).trans HXC.out
          have hBG := HBG.out
          have hX15 := HX15.out
          generalize (Wf.alloc (.cells #[.int .i64 (first + (hh.length : Int) + 1), .int .i64 kd, .string (nm k), .slice ad d.size cd] 70)) = Wg at *
          rcases hkd with ⟨rfl, rfl⟩ | ⟨hkd, rfl⟩
          · have g1 : Wg.cell? ⟨B, 1 + k * 3, none⟩ = some (.bool true) := by rw [cell_of_block hBG]; exact bbx_cr _ _ _ _ _ (by simp [set3, List.getElem?_set]; omega)
            have g2 : Wg.cell? ⟨B, 1 + k * 3 + 1, none⟩ = some (.int .i64 (first + (hh.length : Int) + 1)) := by rw [cell_of_block hBG]; exact bbx_cr (j := k * 3 + 1) _ _ _ _ _ (by simp [set3, List.getElem?_set]; omega)
            have g3 : Wg.cell? ⟨B, 1 + k * 3 + 2, none⟩ = some (.slice ad d.size cd) := by rw [cell_of_block hBG]; exact bbx_cr (j := k * 3 + 2) _ _ _ _ _ (by simp [set3, List.getElem?_set]; omega)
            have fG : ∀ i, Wg.frozen? ⟨B, i, none⟩ = false := frozen_of_block hBG
            have hb3 := set_block (set_block (set_block hBG (1 + k * 3) (.bool false)) (1 + k * 3 + 1) (.int .i64 0)) (1 + k * 3 + 2) (.slice none 0 0)
            rw [set3_bbx _ _ _ _ _ _ _ _ (by omega) (by rw [set3_len]; exact hl15), set3_twice _ _ _ _ _ _ _ _ (by omega) hl15] at hb3
            have ho3 : ∀ y, y ≠ B → (((Wg.setCell ⟨B, 1 + k * 3, none⟩ (.bool false)).setCell ⟨B, 1 + k * 3 + 1, none⟩ (.int .i64 0)).setCell ⟨B, 1 + k * 3 + 2, none⟩ (.slice none 0 0)).heap[y]? = Wg.heap[y]? := fun y hy => ((set_other hy).trans (set_other hy)).trans (set_other hy)
            have hn8 : W2.heap.size ≠ B := fun q => by rw [q, hBG] at hXG; simp at hXG
            have hn15 : Wf.heap.size ≠ B := by omega
            have c8 : (((Wg.setCell ⟨B, 1 + k * 3, none⟩ (.bool false)).setCell ⟨B, 1 + k * 3 + 1, none⟩ (.int .i64 0)).setCell ⟨B, 1 + k * 3 + 2, none⟩ (.slice none 0 0)).cell? ⟨W2.heap.size, 2, none⟩ = some (.slice oad on ocp) := by rw [cell_of_block ((ho3 _ hn8).trans hXG)]; rfl
            have c15 : (((Wg.setCell ⟨B, 1 + k * 3, none⟩ (.bool false)).setCell ⟨B, 1 + k * 3 + 1, none⟩ (.int .i64 0)).setCell ⟨B, 1 + k * 3 + 2, none⟩ (.slice none 0 0)).cell? ⟨Wf.heap.size, 3, none⟩ = some (.slice ad d.size cd) := by rw [cell_of_block ((ho3 _ hn15).trans hX15)]; rfl
            have f15 : (((Wg.setCell ⟨B, 1 + k * 3, none⟩ (.bool false)).setCell ⟨B, 1 + k * 3 + 1, none⟩ (.int .i64 0)).setCell ⟨B, 1 + k * 3 + 2, none⟩ (.slice none 0 0)).frozen? ⟨Wf.heap.size, 3, none⟩ = false := frozen_of_block ((ho3 _ hn15).trans hX15) 3
            go_wp2_with fail
            go_meet
            have hX8 : ∀ y, y ≠ Wf.heap.size → ((((Wg.setCell ⟨B, 1 + k * 3, none⟩ (.bool false)).setCell ⟨B, 1 + k * 3 + 1, none⟩ (.int .i64 0)).setCell ⟨B, 1 + k * 3 + 2, none⟩ (.slice none 0 0)).setCell ⟨Wf.heap.size, 3, none⟩ (.slice oad on ocp)).heap[y]? = (((Wg.setCell ⟨B, 1 + k * 3, none⟩ (.bool false)).setCell ⟨B, 1 + k * 3 + 1, none⟩ (.int .i64 0)).setCell ⟨B, 1 + k * 3 + 2, none⟩ (.slice none 0 0)).heap[y]? := fun y hy => set_other hy
            have hkz : Kn wc ((((Wg.setCell ⟨B, 1 + k * 3, none⟩ (.bool false)).setCell ⟨B, 1 + k * 3 + 1, none⟩ (.int .i64 0)).setCell ⟨B, 1 + k * 3 + 2, none⟩ (.slice none 0 0)).setCell ⟨Wf.heap.size, 3, none⟩ (.slice oad on ocp)) := fun y c t fr e ht => (hX8 y (by have := lt_of_block e; omega)).trans ((HKG.out.trans (Kn.of_block ho3 hBG)) y c t fr e ht)
            have hFX : ¬ F0 w0 Wf.heap.size := fun q => by unfold F0 at q; omega
            have hx3 := (ho3 _ hn15).trans hX15
            have hsz := HSG.out.keepB (((HSG.out.bel.grown (grown_set1 Wg B (1 + k * 3) (.bool false)) hB0).grown (grown_set1 _ B (1 + k * 3 + 1) (.int .i64 0)) hB0).grown (grown_set1 _ B (1 + k * 3 + 2) (.slice none 0 0)) hB0) (Ks.of_block ho3 hBG (.inl rfl))
            refine ⟨rfl, set3 row k (.bool false) (.int .i64 0) (.slice none 0 0), .slice oad on ocp, (hX8 B (fun q => hn15 q.symm)).trans hb3, set_block hx3 3 _, hkz, hsz.keepB (hsz.bel.grown (grown_set1 _ Wf.heap.size 3 (.slice oad on ocp)) hFX) (Ks.of_block hX8 hx3 (.inr (.inr (.inl rfl)))), HSC.out.byt.1.keep hkz.b5, HSC.out.byt.2, ?_, by rw [set3_len]; exact hl15⟩
            have hrw := set3_row (HBC.out.now.keep hkz.b5) k (by omega) none (.bool false) (.int .i64 0) (.slice none 0 0) ⟨rfl, rfl, rfl⟩
            rw [runA_snoc]
            have e1 : upA (runA A0 first hh) (first + (hh.length : Int) + 1) (3, k, dtS (runA A0 first hh k)) = fun j => if j = k then none else runA A0 first hh j := by funext j; simp [upA]
            rw [e1]
            exact hrw
          · have hk3 : ¬ kd = 3 := by omega
            have hk3b : (kd == 3) = false := by rw [beq_eq_false_iff_ne]; exact hk3
            go_wp2_with fail
            go_meet
            refine ⟨rfl, set3 row k (.bool true) (.int .i64 (first + (hh.length : Int) + 1)) (.slice ad dk.size cd), .slice ad dk.size cd, hBG, hX15, HKG.out, HSG.out, HDC.out.keep HKG.out.b5, hd2, ?_, by rw [set3_len]; exact hl15⟩
            have hrw := set3_row (HBC.out.now.keep HKG.out.b5) k (by omega) (some (first + (hh.length : Int) + 1, dk)) _ _ _ ⟨rfl, rfl, HDC.out.keep HKG.out.b5, hd2⟩
            rw [runA_snoc]
            have e1 : upA (runA A0 first hh) (first + (hh.length : Int) + 1) (kd, k, dk) = fun j => if j = k then some (first + (hh.length : Int) + 1, dk) else runA A0 first hh j := by funext j; simp [upA, hk3]
            rw [e1]
            exact hrw
        case rest =>
          obtain ⟨rfl, HT⟩ := hcut
          obtain ⟨row2, dv2, hBB, hX, hkn, hst, hby, hdk, hrow, hl2⟩ := HT.out
          obtain ⟨a2, c2, rfl⟩ := hby.form
          obtain ⟨L, l1, l2, l3⟩ := HBC.out.events
          obtain ⟨R, t1, t2, t3⟩ := HBC.out.states
          have HEV := hmk (row_keep l2 (fun y c fr e => hkn y c 70 fr e (by decide)))
          have HGE := hmk (fun g hg => Nat.lt_of_lt_of_le (l2.lt g hg).2 hsz4)
          have HL1 := hmk l1
          have HL3 := hmk (fun x hx => (l3 x hx).keep hkn.b5)
          have HR1 := hmk t1
          have HR2 := hmk (row_keep t2 (fun y c fr e => hkn y c 33 fr e (by decide)))
          have HR3 := hmk (fun i rw hi => (t3 i rw hi).keep hkn.b5)
          have HBB := hmk hBB
          have HX := hmk hX
          have HSTx := hmk hst
          have HBY := hmk hby
          have HROW := hmk hrow
          have HBb := hmk HBC.out.b
          have HOKx := hmk HBC.out.ok
          have HOK1 : Hid (Hok (kd, k, dk)) := ⟨by show kd = 1 ∨ kd = 2 ∨ kd = 3; omega, by show k < 5; omega, hdk⟩
          have hXl := lt_of_block hX
          have hBl := lt_of_block hBB
          have hXB : Wf.heap.size ≠ B := fun q => by rw [q, hBB] at hX; simp at hX
          refine (‹∀ (a : Act) (w : World), Code.wp Try.prog _ _ a w → _› _ _ ?_)
          exact put_tail w0 wc S B _ first hh fl k kd dk sv evv row2 a2 c2 R L h0 hlen hlt2 hBB hX hst hby hrow hl2 HR1 HR2 HR3 HL1 HEV HL3 HGE HBb HOKx HOK1 _ _ _ _ _ _ _ _ _ _ _ _ _ _ _ _ _ _ _ _ _ _ _ _ _ _ _ _ _ _ _ _ _ _ _ _ _ _ _ _ _ _ _ _ _ _ _ _ _ _ _ _ _ _ _ _ _ _ _ _ _ _ _ _ _ _ _ _ _ _ _ _ _ _ _ _ _ _ _ _ _ _ _ _ _ _ _ _ _ _ _ _ _ _ _ _ _ _ _ _ _ _ _ _ _ _ _ _ _ _ _ _ _ _ _ _ _ _ _ _ _ _ _ _ _ _ _ _ _ _ _ _ _ _ _ _ _ _ _ _ _ _ _ _ _ _ _ _ _ _ _ _ _ _ _ _ _ _ _ _ _ _ _ _ _ _ _ _ _ _ _ _ _ _
end Go.Proofs.Ytpbejbpimcidjaa
