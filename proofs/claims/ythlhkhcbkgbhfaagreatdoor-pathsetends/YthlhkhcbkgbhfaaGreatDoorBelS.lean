import Derived.Test.YthlhkhcbkgbhfaaGreatDoorG38
/- pathset.Below. -/
set_option linter.unusedSimpArgs false
set_option linter.unusedVariables false
namespace Go.Proofs.YthlhkhcbkgbhfaaGreatDoor
open Go Go.RowKit Go.Lib Go.Shelf
set_option maxHeartbeats 8000000 in
set_option maxRecDepth 100000 in
theorem below_any (l : List (List El)) (p : List El) (S : Nat → Prop) (al : Option Addr) (cl bl ol : Nat) (ap : Option Addr) (cp bp op : Nat) (w : World) (tb : Tb w) (hal : Headed al l.length cl bl ol) (hl : liesQ w S l bl ol) (hap : Headed ap p.length cp bp op) (hp : liesP w S p bp op) (hS : ∀ b, S b → b < w.heap.size) (hwt : l.length + wtQ l ≤ 2147483647) (hwp : wtP p ≤ 2147483647) :
    Calls Tryz.prog 22 #[.slice al l.length cl, .slice ap p.length cp] w (BwPost (belL l p) (errB l p) S w) := by
  have HL := hmk hl
  have HP := hmk hp
  have HS := hmk hS
  have c1 := hmk (schk_any l S al cl bl ol w tb hal HL.out hS hwt)
  have C2 : Hid (∀ W, Below w.heap.size w W → Calls Tryz.prog 21 #[.slice ap p.length cp] W (NPost (errP p) W)) := fun W hb => pcheck_any p S ap cp bp op W (tb.below hb tb.z) hap (liesP_keep (fun x hx => hb.block x (hS x hx)) (fun _ h => h) HP.out) (fun x hx => Nat.lt_of_lt_of_le (hS x hx) hb.size) hwp
  clear hl hp tb
  have hlen : l.length ≤ 9223372036854775807 := by omega
  by_cases h0 : errS l = 0
  case neg =>
    have y1 : (((errS l : Nat) : Int) != 0) = true := by rw [bne_iff_ne]; omega
    have HE : Hid (errB l p = errS l ∧ belL l p = []) := by
      have e : errB l p = errS l := by rw [errB, if_neg h0]
      exact ⟨e, by rw [belL, e, if_neg h0]⟩
    generalize errB l p = Eb at *
    generalize belL l p = RB at *
    generalize errS l = Es at *
    clear h0 C2
    go_enter Tryz.func22, Tryz.ntmps22
    go_wp2_with fail
    refine c1.out.mono ?_
    rintro e w1 ⟨rfl, b1⟩
    go_wp2_with fail
    go_ret2
    rw [HE.out.2]
    exact bw_nil b1 (by rw [HE.out.1]; rfl)
  have y1 : (((errS l : Nat) : Int) != 0) = false := by rw [h0]; rfl
  have HZ := hmk (setC_zero h0)
  cases hpb : pathB p with
  | false =>
    have ya : (((errP p : Nat) : Int) != 0) = true := by rw [errP_no hpb]; rfl
    have HE : Hid (errB l p = 90 ∧ belL l p = []) := by
      have e : errB l p = 90 := by rw [errB, if_pos h0, errP_no hpb]
      exact ⟨e, by rw [belL, e]; rfl⟩
    have HA : Hid (errP p = 90) := errP_no hpb
    generalize errB l p = Eb at *
    generalize belL l p = RB at *
    generalize errS l = Es at *
    generalize errP p = Ea at *
    clear h0 hpb HZ
    go_enter Tryz.func22, Tryz.ntmps22
    go_wp2_with fail
    refine c1.out.mono ?_
    rintro e w1 ⟨rfl, b1⟩
    have c2 := hmk (C2.out w1 b1)
    go_wp2_with fail
    refine c2.out.mono ?_
    rintro e w2 ⟨rfl, b2⟩
    go_wp2_with fail
    go_ret2
    rw [HE.out.2]
    exact bw_nil (b1.trans (b2.mono b1.size)) (by rw [HE.out.1, HA.out]; rfl)
  | true =>
  have ya : (((errP p : Nat) : Int) != 0) = false := by rw [errP_yes hpb]; rfl
  have HE : Hid (errB l p = 0 ∧ belL l p = l.filter (isB p)) := by
    have e : errB l p = 0 := by rw [errB, if_pos h0, errP_yes hpb]
    exact ⟨e, by rw [belL, e]; rfl⟩
  have C3 : Hid (∀ W, Below w.heap.size w W → Calls Tryz.prog 37 #[.slice al l.length cl, .slice ap p.length cp, .func (.func 36) #[] #[]] W (BsPost2 l p (memB l p) W)) := fun W hb => bsearch2_any l p S S al cl bl ol ap cp bp op W hal (liesQ_keep (fun x hx => hb.block x (hS x hx)) (fun _ h => h) HL.out) hap (liesP_keep (fun x hx => hb.block x (hS x hx)) (fun _ h => h) HP.out) (fun x hx => Nat.lt_of_lt_of_le (hS x hx) hb.size) (fun x hx => Nat.lt_of_lt_of_le (hS x hx) hb.size) (by omega) HZ.out.2.1
  have CQ : Hid (∀ (j : Nat) (hj : j < l.length), ∃ (aq : Option Addr) (cq : Nat), (∀ W, Below w.heap.size w W → W.cell? ⟨bl, ol + j, none⟩ = some (.slice aq (l[j]).length cq)) ∧ ∀ W, Below w.heap.size w W → Calls Tryz.prog 43 #[.slice ap p.length cp, .slice aq (l[j]).length cq] W (BPost (cabP p l[j]) W)) := fun j hj => by
    obtain ⟨hSb, v, hv, aq, cq, bq, oq, rfl, hhq, hlq⟩ := HL.out j hj
    exact ⟨aq, cq, fun W hb => (World.cell?_of_block (w := w) (a := ⟨bl, ol + j, none⟩) (hb.block _ (HS.out _ hSb))).trans hv, fun W hb => cabP_any p l[j] S S ap cp bp op aq cq bq oq W hap (liesP_keep (fun x hx => hb.block x (HS.out x hx)) (fun _ h => h) HP.out) hhq (liesP_keep (fun x hx => hb.block x (HS.out x hx)) (fun _ h => h) hlq) (fun x hx => Nat.lt_of_lt_of_le (HS.out x hx) hb.size) (fun x hx => Nat.lt_of_lt_of_le (HS.out x hx) hb.size)⟩
  generalize errB l p = Eb at *
  generalize belL l p = RB at *
  generalize errS l = Es at *
  generalize errP p = Ea at *
  clear h0 hpb
  have HM : Hid (∃ m, memB l p = m) := ⟨_, rfl⟩
  generalize memB l p = mm at *
  go_enter Tryz.func22, Tryz.ntmps22
  go_wp2_with fail
  refine c1.out.mono ?_
  rintro e w1 ⟨rfl, b1⟩
  have c2 := hmk (C2.out w1 b1)
  go_wp2_with fail
  refine c2.out.mono ?_
  rintro e w2 ⟨rfl, b2⟩
  have B2 := b1.trans (b2.mono b1.size)
  have c3 := hmk (C3.out w2 B2)
  clear b1 b2 c1 c2 C2 C3
  go_wp2_with fail
  refine c3.out.mono ?_
  rintro e w3 ⟨i, hi, rfl, f1, f2, f3, b3⟩
  have B3 := B2.trans (b3.mono B2.size)
  have HF := hmk (bs_from HZ.out.2.1 hi f1 f2 f3.1 f3.2)
  clear f1 f2 f3 b3 c3 B2
  have FI : Hid (∀ j, frB mm i ≤ j → j ≤ l.length → (∀ k, (hk : k < l.length) → frB mm i ≤ k → k < j → cabP p l[k] = true) → (∀ hj : j < l.length, cabP p l[j] = false) → RB = (l.take j).drop (frB mm i)) := fun j h1 h2 h3 h4 => by
    rw [HE.out.2]
    exact below_run HZ.out.2.1 h1 h2 HF.out.2.1 h3 HF.out.2.2 h4
  cases mm with
  | true =>
    have hfr : frB true i = i + 1 := rfl
    rw [hfr] at HF FI
    have hfl : (i + 1) ≤ l.length := HF.out.1
    go_wp2_with fail
    go_loopw [10] (fun e10 wr => ∃ j : Nat, (i + 1) ≤ j ∧ j ≤ l.length ∧ e10 = .int .i64 (j : Int) ∧ Below w.heap.size w wr ∧ Hid (∀ k, (hk : k < l.length) → (i + 1) ≤ k → k < j → cabP p l[k] = true)) (fun e10 _ => l.length - (RowKit.intOf e10).toNat)
    case atStart => exact ⟨(i + 1), Nat.le_refl _, hfl, by first | rfl | go_num, B3, fun k hk h1 h2 => by omega⟩
    case round =>
      clear B3
      obtain ⟨j, hfj, hj, rfl, bj, HC⟩ := hrel
      have hzr := bj.size
      by_cases hjl : j < l.length
      case neg =>
        obtain rfl : j = l.length := by omega
        have y3 : ¬ (l.length : Int) < l.length := by omega
        have FIN := hmk (FI.out l.length hfl (Nat.le_refl _) HC.out (fun h => by omega))
        have hcl : l.length ≤ cl := hal.le
        have hRB : l.length - ((i + 1)) = RB.length := by rw [FIN.out]; first | (simp; done) | (simp; omega)
        have TL : Hid (∀ (W : World) (a' : Option Addr) (A1 c' : Nat), Below w.heap.size w W → Headed a' RB.length c' bl (ol + ((i + 1))) → W.heap[A1]? = some (.cells #[.slice a' RB.length c'] 22 (0, 0)) → Calls Tryz.prog 44 #[.func (.func 66) #[] #[.pointer (some ⟨A1, 0, none⟩)]] W (CopPost RB W)) := fun W a' A1 c' hb hh hc => copval_any HS.out RB a' _ _ _ A1 W hb hh (by rw [FIN.out]; exact liesQ_part HL.out _ _ (by omega)) (fun q hq => HZ.out.1 q (by rw [FIN.out] at hq; exact List.mem_of_mem_take (List.mem_of_mem_drop hq))) (fun q hq => by rw [FIN.out] at hq; have := wtQ_mem (List.mem_of_mem_take (List.mem_of_mem_drop hq)); omega) (by omega) hc
        have HD0 : Hid (cl = ((i + 1)) → Headed al RB.length 0 bl (ol + ((i + 1)))) := fun e => ⟨by omega, Nat.zero_le _, .inl (by omega), fun _ => rfl⟩
        have HD1 : Hid (Headed (al.map (fun x : Addr => (⟨x.block, x.off + ((i + 1)), none⟩ : Addr))) RB.length (cl - ((i + 1))) bl (ol + ((i + 1)))) := ⟨by omega, by have := hal.max; omega, (by
          rcases hal.at_ with e | e
          · exact .inl (by omega)
          · exact .inr (by rw [e]; rfl)), fun e => by
          have e2 : al = none := by simpa using e
          have := hal.nil e2; omega⟩
        go_wp2_with fail
        · try rw [hRB]
          refine (values_any _ _ _ wr).mono ?_
          rintro e w5 ⟨rfl, rfl⟩
          have bX : Below w.heap.size w (wr.alloc (.cells #[.slice al RB.length 0] 22)) := bj.alloc (by have := bj.size; omega) _
          have cX := hmk (TL.out _ al wr.heap.size _ bX (HD0.out h) (heap_alloc_new wr _))
          clear HL HP HC
          go_wp2_with fail
          refine cX.out.mono ?_
          rintro e w6 ⟨sa, sc, sb, so, rfl, hd, hls, b6⟩
          have HHd := hmk hd
          have HLs := hmk hls
          clear hd hls
          go_wp2_with fail
          go_ret2
          exact ⟨sa, sc, sb, so, by rw [HE.out.1]; rfl, HHd.out, liesQ_keep (fun _ _ => rfl) (fun b hb => .inr ⟨by have h9 := hb.1; have := bX.size; omega, hb.2⟩) HLs.out, bX.trans (b6.mono bX.size)⟩
        · try rw [hRB]
          refine (values_any _ _ _ wr).mono ?_
          rintro e w5 ⟨rfl, rfl⟩
          have bX : Below w.heap.size w (wr.alloc (.cells #[.slice (al.map (fun x : Addr => (⟨x.block, x.off + ((i + 1)), none⟩ : Addr))) RB.length (cl - ((i + 1)))] 22)) := bj.alloc (by have := bj.size; omega) _
          have cX := hmk (TL.out _ _ wr.heap.size _ bX HD1.out (heap_alloc_new wr _))
          clear HL HP HC
          go_wp2_with fail
          refine cX.out.mono ?_
          rintro e w6 ⟨sa, sc, sb, so, rfl, hd, hls, b6⟩
          have HHd := hmk hd
          have HLs := hmk hls
          clear hd hls
          go_wp2_with fail
          go_ret2
          exact ⟨sa, sc, sb, so, by rw [HE.out.1]; rfl, HHd.out, liesQ_keep (fun _ _ => rfl) (fun b hb => .inr ⟨by have h9 := hb.1; have := bX.size; omega, hb.2⟩) HLs.out, bX.trans (b6.mono bX.size)⟩
      have y3 : (j : Int) < l.length := by omega
      obtain ⟨aq, cq, hq, CC⟩ := CQ.out j hjl
      have rq := hq wr bj
      obtain rfl : al = some ⟨bl, ol, none⟩ := hal.at_.resolve_left (by omega)
      have c := hmk (CC wr bj)
      have HN : Hid (cabP p l[j] = true → ∀ k, (hk : k < l.length) → (i + 1) ≤ k → k < j + 1 → cabP p l[k] = true) := fun h k hk h1 h2 => by
        by_cases e : k = j
        · subst e; exact h
        · exact HC.out k hk h1 (by omega)
      have FIN : Hid (cabP p l[j] = false → RB = (l.take j).drop ((i + 1))) := fun h => FI.out j hfj (by omega) HC.out (fun _ => h)
      clear CC hq
      generalize cabP p l[j] = ZZ at *
      generalize l[j] = pj at *
      cases ZZ with
      | true =>
        go_wp2_with fail
        refine c.out.mono ?_
        rintro e w4 ⟨rfl, b4⟩
        go_wp2_with fail
        go_roundw
        case rel => exact ⟨j + 1, by omega, by omega, by go_num, bj.trans (b4.mono hzr), HN.out trivial⟩
        case measure => simp [RowKit.intOf]; omega
      | false =>
        have hcl : l.length ≤ cl := hal.le
        have jcl : j ≤ cl := by omega
        have FINJ := hmk (FIN.out rfl)
        have hRB : j - ((i + 1)) = RB.length := by rw [FINJ.out]; first | (simp; done) | (simp; omega)
        have TL : Hid (∀ (W : World) (a' : Option Addr) (A1 c' : Nat), Below w.heap.size w W → Headed a' RB.length c' bl (ol + ((i + 1))) → W.heap[A1]? = some (.cells #[.slice a' RB.length c'] 22 (0, 0)) → Calls Tryz.prog 44 #[.func (.func 66) #[] #[.pointer (some ⟨A1, 0, none⟩)]] W (CopPost RB W)) := fun W a' A1 c' hb hh hc => copval_any HS.out RB a' _ _ _ A1 W hb hh (by rw [FINJ.out]; exact liesQ_part HL.out _ _ (by omega)) (fun q hq => HZ.out.1 q (by rw [FINJ.out] at hq; exact List.mem_of_mem_take (List.mem_of_mem_drop hq))) (fun q hq => by rw [FINJ.out] at hq; have := wtQ_mem (List.mem_of_mem_take (List.mem_of_mem_drop hq)); omega) (by omega) hc
        have HD1 : Hid (Headed ((some ⟨bl, ol, none⟩ : Option Addr).map (fun x : Addr => (⟨x.block, x.off + ((i + 1)), none⟩ : Addr))) RB.length (cl - ((i + 1))) bl (ol + ((i + 1)))) := ⟨by omega, by have := hal.max; omega, (by
          rcases hal.at_ with e | e
          · exact .inl (by omega)
          · exact .inr (by rw [e]; rfl)), fun e => by
          simp at e⟩
        go_wp2_with fail
        refine c.out.mono ?_
        rintro e w4 ⟨rfl, b4⟩
        have B4 := bj.trans (b4.mono hzr)
        go_wp2_with fail
        try rw [hRB]
        refine (values_any _ _ _ w4).mono ?_
        rintro e w5 ⟨rfl, rfl⟩
        have bX : Below w.heap.size w (w4.alloc (.cells #[.slice (some ⟨bl, ol + ((i + 1)), none⟩) RB.length (cl - ((i + 1)))] 22)) := B4.alloc (by have := B4.size; omega) _
        have cX := hmk (TL.out _ _ w4.heap.size _ bX HD1.out (heap_alloc_new w4 _))
        clear HL HP HC HN
        go_wp2_with fail
        refine cX.out.mono ?_
        rintro e w6 ⟨sa, sc, sb, so, rfl, hd, hls, b6⟩
        have HHd := hmk hd
        have HLs := hmk hls
        clear hd hls
        go_wp2_with fail
        go_ret2
        exact ⟨sa, sc, sb, so, by rw [HE.out.1]; rfl, HHd.out, liesQ_keep (fun _ _ => rfl) (fun b hb => .inr ⟨by have h9 := hb.1; have := bX.size; omega, hb.2⟩) HLs.out, bX.trans (b6.mono bX.size)⟩
  | false =>
    have hfr : frB false i = i := rfl
    rw [hfr] at HF FI
    have hfl : i ≤ l.length := HF.out.1
    go_wp2_with fail
    go_loopw [10] (fun e10 wr => ∃ j : Nat, i ≤ j ∧ j ≤ l.length ∧ e10 = .int .i64 (j : Int) ∧ Below w.heap.size w wr ∧ Hid (∀ k, (hk : k < l.length) → i ≤ k → k < j → cabP p l[k] = true)) (fun e10 _ => l.length - (RowKit.intOf e10).toNat)
    case atStart => exact ⟨i, Nat.le_refl _, hfl, by first | rfl | go_num, B3, fun k hk h1 h2 => by omega⟩
    case round =>
      clear B3
      obtain ⟨j, hfj, hj, rfl, bj, HC⟩ := hrel
      have hzr := bj.size
      by_cases hjl : j < l.length
      case neg =>
        obtain rfl : j = l.length := by omega
        have y3 : ¬ (l.length : Int) < l.length := by omega
        have FIN := hmk (FI.out l.length hfl (Nat.le_refl _) HC.out (fun h => by omega))
        have hcl : l.length ≤ cl := hal.le
        have hRB : l.length - (i) = RB.length := by rw [FIN.out]; first | (simp; done) | (simp; omega)
        have TL : Hid (∀ (W : World) (a' : Option Addr) (A1 c' : Nat), Below w.heap.size w W → Headed a' RB.length c' bl (ol + (i)) → W.heap[A1]? = some (.cells #[.slice a' RB.length c'] 22 (0, 0)) → Calls Tryz.prog 44 #[.func (.func 66) #[] #[.pointer (some ⟨A1, 0, none⟩)]] W (CopPost RB W)) := fun W a' A1 c' hb hh hc => copval_any HS.out RB a' _ _ _ A1 W hb hh (by rw [FIN.out]; exact liesQ_part HL.out _ _ (by omega)) (fun q hq => HZ.out.1 q (by rw [FIN.out] at hq; exact List.mem_of_mem_take (List.mem_of_mem_drop hq))) (fun q hq => by rw [FIN.out] at hq; have := wtQ_mem (List.mem_of_mem_take (List.mem_of_mem_drop hq)); omega) (by omega) hc
        have HD0 : Hid (cl = (i) → Headed al RB.length 0 bl (ol + (i))) := fun e => ⟨by omega, Nat.zero_le _, .inl (by omega), fun _ => rfl⟩
        have HD1 : Hid (Headed (al.map (fun x : Addr => x.add i)) RB.length (cl - (i)) bl (ol + (i))) := ⟨by omega, by have := hal.max; omega, (by
          rcases hal.at_ with e | e
          · exact .inl (by omega)
          · exact .inr (by rw [e]; show some (Addr.add ⟨bl, ol, none⟩ i) = _; unfold Addr.add; (try split) <;> simp_all)), fun e => by
          have e2 : al = none := by simpa using e
          have := hal.nil e2; omega⟩
        go_wp2_with fail
        · try rw [hRB]
          refine (values_any _ _ _ wr).mono ?_
          rintro e w5 ⟨rfl, rfl⟩
          have bX : Below w.heap.size w (wr.alloc (.cells #[.slice al RB.length 0] 22)) := bj.alloc (by have := bj.size; omega) _
          have cX := hmk (TL.out _ al wr.heap.size _ bX (HD0.out h) (heap_alloc_new wr _))
          clear HL HP HC
          go_wp2_with fail
          refine cX.out.mono ?_
          rintro e w6 ⟨sa, sc, sb, so, rfl, hd, hls, b6⟩
          have HHd := hmk hd
          have HLs := hmk hls
          clear hd hls
          go_wp2_with fail
          go_ret2
          exact ⟨sa, sc, sb, so, by rw [HE.out.1]; rfl, HHd.out, liesQ_keep (fun _ _ => rfl) (fun b hb => .inr ⟨by have h9 := hb.1; have := bX.size; omega, hb.2⟩) HLs.out, bX.trans (b6.mono bX.size)⟩
        · try rw [hRB]
          refine (values_any _ _ _ wr).mono ?_
          rintro e w5 ⟨rfl, rfl⟩
          have bX : Below w.heap.size w (wr.alloc (.cells #[.slice (al.map (fun x : Addr => x.add i)) RB.length (cl - (i))] 22)) := bj.alloc (by have := bj.size; omega) _
          have cX := hmk (TL.out _ _ wr.heap.size _ bX HD1.out (heap_alloc_new wr _))
          clear HL HP HC
          go_wp2_with fail
          refine cX.out.mono ?_
          rintro e w6 ⟨sa, sc, sb, so, rfl, hd, hls, b6⟩
          have HHd := hmk hd
          have HLs := hmk hls
          clear hd hls
          go_wp2_with fail
          go_ret2
          exact ⟨sa, sc, sb, so, by rw [HE.out.1]; rfl, HHd.out, liesQ_keep (fun _ _ => rfl) (fun b hb => .inr ⟨by have h9 := hb.1; have := bX.size; omega, hb.2⟩) HLs.out, bX.trans (b6.mono bX.size)⟩
      have y3 : (j : Int) < l.length := by omega
      obtain ⟨aq, cq, hq, CC⟩ := CQ.out j hjl
      have rq := hq wr bj
      obtain rfl : al = some ⟨bl, ol, none⟩ := hal.at_.resolve_left (by omega)
      have c := hmk (CC wr bj)
      have HN : Hid (cabP p l[j] = true → ∀ k, (hk : k < l.length) → i ≤ k → k < j + 1 → cabP p l[k] = true) := fun h k hk h1 h2 => by
        by_cases e : k = j
        · subst e; exact h
        · exact HC.out k hk h1 (by omega)
      have FIN : Hid (cabP p l[j] = false → RB = (l.take j).drop (i)) := fun h => FI.out j hfj (by omega) HC.out (fun _ => h)
      clear CC hq
      generalize cabP p l[j] = ZZ at *
      generalize l[j] = pj at *
      cases ZZ with
      | true =>
        go_wp2_with fail
        refine c.out.mono ?_
        rintro e w4 ⟨rfl, b4⟩
        go_wp2_with fail
        go_roundw
        case rel => exact ⟨j + 1, by omega, by omega, by go_num, bj.trans (b4.mono hzr), HN.out trivial⟩
        case measure => simp [RowKit.intOf]; omega
      | false =>
        have hcl : l.length ≤ cl := hal.le
        have jcl : j ≤ cl := by omega
        have FINJ := hmk (FIN.out rfl)
        have hRB : j - (i) = RB.length := by rw [FINJ.out]; first | (simp; done) | (simp; omega)
        have TL : Hid (∀ (W : World) (a' : Option Addr) (A1 c' : Nat), Below w.heap.size w W → Headed a' RB.length c' bl (ol + (i)) → W.heap[A1]? = some (.cells #[.slice a' RB.length c'] 22 (0, 0)) → Calls Tryz.prog 44 #[.func (.func 66) #[] #[.pointer (some ⟨A1, 0, none⟩)]] W (CopPost RB W)) := fun W a' A1 c' hb hh hc => copval_any HS.out RB a' _ _ _ A1 W hb hh (by rw [FINJ.out]; exact liesQ_part HL.out _ _ (by omega)) (fun q hq => HZ.out.1 q (by rw [FINJ.out] at hq; exact List.mem_of_mem_take (List.mem_of_mem_drop hq))) (fun q hq => by rw [FINJ.out] at hq; have := wtQ_mem (List.mem_of_mem_take (List.mem_of_mem_drop hq)); omega) (by omega) hc
        have HD1 : Hid (Headed ((some ⟨bl, ol, none⟩ : Option Addr).map (fun x : Addr => (⟨x.block, x.off + (i), none⟩ : Addr))) RB.length (cl - (i)) bl (ol + (i))) := ⟨by omega, by have := hal.max; omega, (by
          rcases hal.at_ with e | e
          · exact .inl (by omega)
          · exact .inr (by rw [e]; rfl)), fun e => by
          simp at e⟩
        go_wp2_with fail
        refine c.out.mono ?_
        rintro e w4 ⟨rfl, b4⟩
        have B4 := bj.trans (b4.mono hzr)
        go_wp2_with fail
        try rw [hRB]
        refine (values_any _ _ _ w4).mono ?_
        rintro e w5 ⟨rfl, rfl⟩
        have bX : Below w.heap.size w (w4.alloc (.cells #[.slice (some ⟨bl, ol + (i), none⟩) RB.length (cl - (i))] 22)) := B4.alloc (by have := B4.size; omega) _
        have cX := hmk (TL.out _ _ w4.heap.size _ bX HD1.out (heap_alloc_new w4 _))
        clear HL HP HC HN
        go_wp2_with fail
        refine cX.out.mono ?_
        rintro e w6 ⟨sa, sc, sb, so, rfl, hd, hls, b6⟩
        have HHd := hmk hd
        have HLs := hmk hls
        clear hd hls
        go_wp2_with fail
        go_ret2
        exact ⟨sa, sc, sb, so, by rw [HE.out.1]; rfl, HHd.out, liesQ_keep (fun _ _ => rfl) (fun b hb => .inr ⟨by have h9 := hb.1; have := bX.size; omega, hb.2⟩) HLs.out, bX.trans (b6.mono bX.size)⟩
end Go.Proofs.YthlhkhcbkgbhfaaGreatDoor
