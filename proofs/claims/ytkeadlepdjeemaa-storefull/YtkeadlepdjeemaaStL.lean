/- The law. -/
import Derived.Test.YtkeadlepdjeemaaStK
import Derived.Test.YtkeadlepdjeemaaQSub
set_option linter.unusedSimpArgs false
set_option linter.unusedVariables false
namespace Go.Proofs.Ytkeadlepdjeemaa
open Go Go.Lib Go.RowKit Go.Maps Go.Sort

abbrev yb : ByteArray := ⟨#[121]⟩
theorem y_new (a : Int) (i : Nat) : has (DM a i) (kL yb) = false := by
  cases h : has (DM a i) (kL yb)
  · rfl
  · obtain ⟨j, hj, e⟩ := (DM_has a i [121]).1 h
    simp [dgl] at e
theorem y_ne (q : Nat) : kL yb ≠ kL (dg q) := fun e => by
  have e2 : [121] = dgl q := Lit.string.inj e
  simp [dgl] at e2
/-- the state behind the removal, and behind the one more -/
def D1 (a : Int) (q : Nat) (r : Int) (d : ByteArray) : DataW Unit := wr (DM a 4096) 3 (dg q) r d
def D2 (a : Int) (q : Nat) (r r' : Int) (d d' : ByteArray) : DataW Unit := wr (D1 a q r d) 1 yb r' d'
theorem D1_has (a : Int) (q : Nat) (r : Int) (d : ByteArray) : has (D1 a q r d) (kL yb) = false := by
  unfold D1
  rw [wr_del, has_del_other (y_ne q)]
  exact y_new a 4096
theorem D1_tidy (a : Int) (q : Nat) (r : Int) (d : ByteArray) : Tidy (D1 a q r d) := by
  unfold D1
  rw [wr_del]
  exact (DM_tidy a 4096).del _
theorem D1_size (a : Int) (q : Nat) (hq : q < 4096) (r : Int) (d : ByteArray) : size (D1 a q r d) = 4095 := by
  unfold D1
  rw [wr_del]
  have h := size_del (k := kL (dg q)) (DM_tidy a 4096)
  rw [DM_size a 4096 (Nat.le_refl _), kL_dg, (DM_has a 4096 (dgl q)).2 ⟨q, hq, rfl⟩] at h
  rw [kL_dg]
  simpa using h
theorem D2_size (a : Int) (q : Nat) (hq : q < 4096) (r r' : Int) (d d' : ByteArray) : size (D2 a q r r' d d') = 4096 := by
  unfold D2
  rw [wr_put, size_put (D1_tidy a q r d), D1_has, D1_size a q hq]
  rfl
theorem D2_has (a : Int) (q : Nat) (r r' : Int) (d d' : ByteArray) : has (D2 a q r r' d d') (kL (dg q)) = false := by
  unfold D2
  rw [wr_put, has_put_other (fun e => y_ne q e.symm)]
  unfold D1
  rw [wr_del]
  exact has_del_same
theorem D2_in (a : Int) (q j : Nat) (hq : q < 4096) (hj : j < 4096) (hne : j ≠ q) (r r' : Int) (d d' : ByteArray) : has (D2 a q r r' d d') (.string (dgl j)) = true := by
  unfold D2
  rw [wr_put, ← kL_dg, has_put_other (fun e => y_ne j e.symm), kL_dg]
  unfold D1
  rw [wr_del, has_del_other (k := kL (dg q)) (k' := .string (dgl j)) (fun e => hne (dgl_inj hj hq (Lit.string.inj e)))]
  exact (DM_has a 4096 _).2 ⟨j, hj, rfl⟩
abbrev xb : ByteArray := ⟨#[120]⟩
theorem ok_dg (q j : Nat) (hj : j < 4096) (h : q ≤ j) : okK xb (dg q) (dgl j) = true := by
  unfold okK
  rw [toList_data, dg_list, dgl_le hj h]
  rfl
theorem two_of {ss : List (List UInt8)} {x y : List UInt8} (hx : x ∈ ss) (hy : y ∈ ss) (h : x ≠ y) : 2 ≤ ss.length := by
  rcases ss with _ | ⟨u, _ | ⟨v, t⟩⟩
  · cases hx
  · exact absurd ((List.mem_singleton.1 hx).trans (List.mem_singleton.1 hy).symm) h
  · simp
theorem many (a : Int) (q : Nat) (hq : q < 4094) (r r' : Int) (d d' : ByteArray) {ss : List (List UInt8)} (h : KS xb (dg q) (D2 a q r r' d d') ss) : 2 ≤ ss.length :=
  two_of ((h.2.1 (dgl 4094)).2 ⟨D2_in a q 4094 (by omega) (by omega) (by omega) r r' d d', ok_dg q 4094 (by omega) (by omega)⟩) ((h.2.1 (dgl 4095)).2 ⟨D2_in a q 4095 (by omega) (by omega) (by omega) r r' d d', ok_dg q 4095 (by omega) (by omega)⟩) (by decide)
theorem above (a : Int) (q : Nat) (r r' : Int) (d d' : ByteArray) {ss : List (List UInt8)} (h : KS xb (dg q) (D2 a q r r' d d') ss) {x : List UInt8} (hx : x ∈ ss) : ∀ W, (binOp .gtr 9 (encStr x) (.string (dg q))).run Try.prog W = .ok (.bool true) W := fun W => by
  obtain ⟨h1, h2⟩ := (h.2.1 x).1 hx
  have hxd : (ByteArray.mk x.toArray).toList = x := by rw [toList_data]
  have hne : x ≠ dgl q := fun e => by
    have h3 := D2_has a q r r' d d'
    rw [kL_dg, ← e, h1] at h3
    cases h3
  unfold okK at h2
  rw [Bool.and_eq_true, toList_data, dg_list] at h2
  have h4 : Op.bytesLess x (dgl q) = false := by simpa using h2.2
  show (binOp .gtr 9 (.string (ByteArray.mk x.toArray)) (.string (dg q))).run Try.prog W = _
  simp [binOp, Op.stringOp, hxd, toList_data, dg_list, h4, hne]
set_option maxHeartbeats 8000000 in
set_option maxRecDepth 100000 in
theorem law_any (z g : Int) (w : World) : Calls Try.prog 3 #[.int .i64 z, .int .i64 g] w fun e w' => e = .returned (.bool true) ∧ Below w.heap.size w w' := by
  have CW := hmk (within_any z 1000 w (by decide) (by decide))
  go_enter Try.func3, Try.ntmps3
  go_wp2_with fail
  refine CW.out.mono ?_
  rintro e w1 ⟨⟨p, hp, rfl⟩, b1⟩
  clear CW
  have B1 := hmk b1
  clear b1
  generalize ha : (p : Int) = a at *
  have ha0 : 0 ≤ a := by omega
  clear ha p
  go_wp2_with fail
  refine (new_any a w1 ha0 (by omega)).mono ?_
  rintro e W ⟨rfl, hW⟩
  have hbx := heap_alloc_new w1 (.cells #[.int .i64 a, .int .i64 a, .map none, .map none, .slice none 0 0] 43)
  rw [← hW] at hbx
  have hbl : Below w.heap.size w W := by rw [hW]; exact B1.out.alloc B1.out.size _
  have h0 : St w W w1.heap.size a 0 := .inl ⟨rfl, hbl, hbx, B1.out.size⟩
  have H0 := hmk h0
  clear h0 hbl hbx hW B1
  generalize w1.heap.size = S at *
  go_wp2_with fail
  go_loopw [7] (fun e7 wr => ∃ i : Nat, e7 = .int .i64 (i : Int) ∧ i ≤ 4096 ∧ Hid (St w wr S a i)) (fun e7 _ => 4096 - (RowKit.intOf e7).toNat)
  case atStart => exact ⟨0, rfl, by omega, H0⟩
  case round =>
    obtain ⟨i, rfl, hi, HI⟩ := hrel
    clear H0
    by_cases hlt : (i : Int) < 4096
    · have C1 := hmk (digits_any i wr (by omega))
      go_wp2_with fail
      refine C1.out.mono ?_
      rintro e W2 ⟨rfl, b2⟩
      have h2 := (HI.out.keep b2).keep (one_belowG W2 (.cells #[.int .u8 ((i : Int) % 256)] 5))
      have CC := hmk (h2.create ⟨ha0, hp⟩ (by omega) W2.heap.size (heap_alloc_new W2 _))
      clear C1 HI b2 h2
      go_wp2_with fail
      refine CC.out.mono ?_
      rintro e W3 ⟨rfl, h3⟩
      have H3 := hmk h3
      clear h3 CC
      have hne : a + (i : Int) + 1 = a + 1 + (i : Int) := by omega
      go_wp2_with fail
      refine ⟨⟨i + 1, congrArg (Value.int .i64) (by omega), by omega, H3⟩, ?_⟩
      simp only [RowKit.intOf]
      omega
    · obtain rfl : i = 4096 := by omega
      rcases HI.out with ⟨h0, _⟩ | ⟨h0, bb, bn, n, D, pv, l, hn, hl, hS⟩
      · omega
      · clear HI hi hlt h0
        rw [show (a + ((4096 : Nat) : Int)) = a + 4096 by omega] at hS
        have HS := hmk hS
        have CF := hmk (create_full w wr S _ _ bb bn n D _ pv l hS yb none 0 0 (by decide) (by decide) (by decide) (y_new a 4096) (by rw [DM_size a 4096 (Nat.le_refl _)]; exact Nat.le_refl _))
        clear hS
        go_wp2_with fail
        refine CF.out.mono ?_
        rintro e W2 ⟨rfl, b2⟩
        have S2 := hmk (HS.out.keep b2)
        clear CF HS b2
        have C7 := hmk (digits_any 7 W2 (by decide))
        go_wp2_with fail
        refine C7.out.mono ?_
        rintro e W3 ⟨rfl, b3⟩
        have S3 := hmk (S2.out.keep b3)
        clear C7 S2 b3
        have CE := hmk (create_exists w W3 S _ _ bb bn n D _ pv l S3.out (dg 7) none 0 0 (by decide) (by decide) (by decide) ((DM_has a 4096 (dgl 7)).2 ⟨7, by decide, rfl⟩))
        go_wp2_with fail
        refine CE.out.mono ?_
        rintro e W4 ⟨rfl, b4⟩
        have S4 := hmk (S3.out.keep b4)
        clear CE S3 b4
        have CL := hmk (len_any S _ _ _ _ bn n _ W4 S4.out.box S4.out.now)
        have CR := hmk (rev_any S _ _ _ _ _ W4 S4.out.box)
        rw [DM_size a 4096 (Nat.le_refl _)] at CL
        go_wp2_with fail
        refine CL.out.mono ?_
        rintro e W5 ⟨rfl, rfl⟩
        go_wp2_with fail
        refine CR.out.mono ?_
        rintro e W6 ⟨rfl, rfl⟩
        clear CL CR
        have CW := hmk (within_any g 4096 W6 (by decide) (by decide))
        go_wp2_with fail
        refine CW.out.mono ?_
        rintro e W7 ⟨⟨q, hq, rfl⟩, b7⟩
        have S7 := hmk (S4.out.keep b7)
        clear CW S4 b7
        have hq2 : q < 4096 := by omega
        have C8 := hmk (digits_any q W7 hq2)
        go_wp2_with fail
        refine C8.out.mono ?_
        rintro e W8 ⟨rfl, b8⟩
        have S8 := hmk (S7.out.keep b8)
        clear C8 S7 b8
        have CM := hmk (remove_ok w W8 S _ _ bb bn n D _ pv l S8.out (dg q) ⟨#[UInt8.ofNat q]⟩ (a + (q : Int) + 1) (by omega) (by rw [dg_size]; decide) (by rw [dg_size]; decide) (by omega) (by omega) (DM_at a 4096 q (Nat.le_refl _) hq2))
        rw [show a + (q : Int) + 1 = a + 1 + (q : Int) by omega] at CM
        go_wp2_with fail
        refine CM.out.mono ?_
        rintro e W9 ⟨rfl, pv9, h9⟩
        have S9 := hmk (h9.keep (one_belowG W9 (.cells #[.int .u8 5] 5)))
        clear CM S8 h9
        have CY := hmk (create_ok w (W9.alloc (.cells #[.int .u8 5] 5)) S _ _ bb bn (n + 1) D _ pv9 _ S9.out yb ⟨#[5]⟩ (some ⟨W9.heap.size, 0, none⟩) 1 1 (by omega) (by decide) (by decide) (by decide) (Rd.one (heap_alloc_new W9 (.cells #[.int .u8 5] 5))) (by rw [List.length_append, hl, List.length_singleton]; decide) (by omega) (D1_has a q _ _) (by have := D1_size a q hq2 (a + 4096 + 1) ⟨#[UInt8.ofNat q]⟩; unfold D1 at this; omega))
        clear S9
        go_wp2_with fail
        refine CY.out.mono ?_
        rintro e W10 ⟨rfl, pv10, h10⟩
        have S10 : Hid (Sto w W10 S (a + 4096 + 1 + 1) a bb bn (n + 1 + 1) D (D2 a q (a + 4096 + 1) (a + 4096 + 1 + 1) ⟨#[UInt8.ofNat q]⟩ ⟨#[5]⟩) pv10 _) := h10
        clear CY h10
        have C11 := hmk (digits_any q W10 hq2)
        go_wp2_with fail
        refine C11.out.mono ?_
        rintro e W11 ⟨rfl, b11⟩
        have S11 := hmk (S10.out.keep b11)
        clear C11 S10 b11
        have CG := hmk (create_full w W11 S _ _ bb bn _ D _ pv10 _ S11.out (dg q) none 0 0 (by rw [dg_size]; decide) (by rw [dg_size]; decide) (by decide) (D2_has a q _ _ _ _) (by rw [D2_size a q hq2]; exact Nat.le_refl _))
        go_wp2_with fail
        refine CG.out.mono ?_
        rintro e W12 ⟨rfl, b12⟩
        have S12 := hmk (S11.out.keep b12)
        clear CG S11 b12
        have C13 := hmk (digits_any q W12 hq2)
        go_wp2_with fail
        refine C13.out.mono ?_
        rintro e W13 ⟨rfl, b13⟩
        have S13 := hmk (S12.out.keep b13)
        clear C13 S12 b13
        have CLs := hmk (list_now S _ _ _ pv10 bn _ _ xb (dg q) 2 W13 S13.out.box S13.out.now (by omega) (by omega) (by decide) (by rw [D2_size a q hq2]; decide))
        go_wp2_with fail
        refine CLs.out.mono ?_
        rintro e W14 ⟨v, ss, li, rfl, hks, hlen, hits, b14⟩
        have S14 := hmk (S13.out.keep b14)
        clear CLs S13 b14
        have hbxS := S14.out.box
        have hSlt := lt_of_block hbxS
        have CFl : Hid (∀ x : Sub W14.heap.size W14, Calls Try.prog 12 #[.pointer (some ⟨S, 0, none⟩)] x.w fun e w'' => e = .returned (.int .i64 a) ∧ ∃ y : Sub W14.heap.size W14, w'' = y.w) :=
          sub_call fun w' hb => (floor_any S _ _ _ _ _ w' ((hb.block S hSlt).trans hbxS)).mono (by rintro e w'' ⟨rfl, rfl⟩; exact ⟨rfl, hb⟩)
        have CDg : Hid (∀ x : Sub W14.heap.size W14, Calls Try.prog 7 #[.int .i64 (q : Int)] x.w fun e w'' => e = .returned (.string (dg q)) ∧ ∃ y : Sub W14.heap.size W14, w'' = y.w) :=
          sub_call fun w' hb => (digits_any q w' hq2).mono (by rintro e w'' ⟨rfl, h2⟩; exact ⟨rfl, hb.trans (h2.mono hb.size)⟩)
        have HBL := hmk S14.out.bel
        have HKS := hmk hks
        have HIT := hmk hits
        clear hbxS S14 hks hits
        rcases li with _ | ⟨x, t⟩
        · have hss : ss.length = 0 := by simp at hlen; omega
          have hge : (4094 : Int) ≤ (q : Int) := by
            rcases Nat.lt_or_ge q 4094 with h | h
            · have := many a q h _ _ _ _ HKS.out; omega
            · omega
          obtain ⟨av, cv, rfl⟩ : ∃ av cv, v = .slice av 0 cv := by
            rcases HIT.out.row.2 with ⟨rfl, _⟩ | ⟨gg, cc, cur, rfl, _⟩
            · exact ⟨_, _, rfl⟩
            · exact ⟨_, _, rfl⟩
          clear HIT HKS hlen hss
          go_wp2_with fail
          refine wp_region_sub W14.heap.size (by kernel_rfl) (by kernel_rfl) ?_
          repeat (go_big_quiet_step (first | exact CFl.out _ | exact CDg.out _))
          refine wpQuiet_nil ?_
          rintro _ ⟨⟨wq, bq⟩, rfl⟩
          go_wp2_with fail
          go_ret
          exact ⟨rfl, HBL.out.trans (bq.mono HBL.out.size)⟩
        · have hxs : x.key ∈ ss := by
            have h1 := HIT.out.keys
            rcases ss with _ | ⟨u, ss⟩
            · simp at h1
            · simp only [List.map_cons, List.length_cons, List.take_succ_cons, List.cons.injEq] at h1
              rw [h1.1]
              exact List.mem_cons_self
          have hgt := above a q _ _ _ _ HKS.out hxs
          obtain ⟨gg, cc, rfl, hggl, hc0⟩ : ∃ gg cc, v = .slice (some ⟨gg, 0, none⟩) (t.length + 1) cc ∧ gg < W14.heap.size ∧ W14.cell? ⟨gg, 0, none⟩ = some (encStr x.key) := by
            rcases HIT.out.row.2 with ⟨_, h⟩ | ⟨gg, cc, cur, rfl, p1, p2, p3⟩
            · simp at h
            · refine ⟨gg, cc, rfl, lt_of_block p2, ?_⟩
              have := HIT.out.row.cells (g := gg) (by simp [Value.ownBlock]) 0 (encStr x.key) rfl
              rwa [Go.WideShapes.add_plain, Nat.zero_add] at this
          have hcx : ∀ x_1 : Sub W14.heap.size W14, _ := sub_cell hc0 hggl
          have hlen2 : t.length + 1 = min 2 ss.length := hlen
          generalize hke : x.key = key at *
          by_cases h2 : t.length + 1 = 2
          · rw [h2]
            clear HIT HKS hlen hlen2 hxs h2 hc0 hke
            go_wp2_with fail
            refine wp_region_sub W14.heap.size (by kernel_rfl) (by kernel_rfl) ?_
            repeat (go_big_quiet_step (first | exact CFl.out _ | exact CDg.out _))
            refine wpQuiet_nil ?_
            rintro _ ⟨⟨wq, bq⟩, rfl⟩
            go_wp2_with fail
            go_ret
            exact ⟨rfl, HBL.out.trans (bq.mono HBL.out.size)⟩
          · have h1 : t.length + 1 = 1 := by omega
            have hge : (4094 : Int) ≤ (q : Int) := by
              rcases Nat.lt_or_ge q 4094 with h | h
              · have := many a q h _ _ _ _ HKS.out; omega
              · omega
            rw [h1]
            clear HIT HKS hlen hlen2 hxs h2 hc0 hke h1
            go_wp2_with fail
            refine wp_region_sub W14.heap.size (by kernel_rfl) (by kernel_rfl) ?_
            repeat (go_big_quiet_step (first | exact CFl.out _ | exact CDg.out _))
            refine wpQuiet_nil ?_
            rintro _ ⟨⟨wq, bq⟩, rfl⟩
            go_wp2_with fail
            go_ret
            exact ⟨rfl, HBL.out.trans (bq.mono HBL.out.size)⟩
end Go.Proofs.Ytkeadlepdjeemaa
