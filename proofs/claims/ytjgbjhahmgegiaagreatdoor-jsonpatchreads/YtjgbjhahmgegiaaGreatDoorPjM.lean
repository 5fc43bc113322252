import Derived.Test.YtjgbjhahmgegiaaGreatDoorPjK
/- the document's Parse. -/
set_option linter.unusedSimpArgs false
set_option linter.unusedVariables false
set_option maxRecDepth 100000
namespace Go.Proofs.YtjgbjhahmgegiaaGreatDoor
open Go.RowKit Go.Lib
set_option maxHeartbeats 8000000 in
theorem dparse_any (v : V) (S : Nat → Prop) (cs : List Value) (w : World) (hv : v.lies false w S cs) (hS : ∀ b, S b → b < w.heap.size) (hwt : v.wt ≤ 2147483648) :
    Calls Tryz.prog 9 #[.agg cs.toArray] w (PrT (parR v) w) := by
  obtain ⟨k, b, i, s, l, m⟩ := v
  have HV := hmk hv
  rw [V.lies] at hv
  obtain ⟨al, cl, bl, ol, am, cm, bm, om, rfl, hk, hi, hs, hal, ham, hl1, _, _⟩ := hv
  have HL := hmk hl1
  clear hl1
  have HW : Hid (∀ x ∈ l, x.wt ≤ 2147483648) := fun x hx => by have := wtL_mem hx; rw [V.wt] at hwt; omega
  have B0 : Below w.heap.size w (w.alloc (.cells #[.int .i64 k, .bool b, .int .i64 i, .string s, .slice al l.length cl, .slice am m.length cm] 25)) := (Below.refl _ _).alloc (Nat.le_refl _) _
  have z0 := alloc_size w (.cells #[.int .i64 k, .bool b, .int .i64 i, .string s, .slice al l.length cl, .slice am m.length cm] 25)
  have N0 := heap_alloc_new w (.cells #[.int .i64 k, .bool b, .int .i64 i, .string s, .slice al l.length cl, .slice am m.length cm] 25)
  obtain ⟨W0, hW0⟩ : ∃ W0, W0 = w.alloc (.cells #[.int .i64 k, .bool b, .int .i64 i, .string s, .slice al l.length cl, .slice am m.length cm] 25) := ⟨_, rfl⟩
  rw [← hW0] at B0 z0 N0
  have HK : Hid (∀ W, Below W0.heap.size W0 W → W.heap[w.heap.size]? = some (.cells #[.int .i64 k, .bool b, .int .i64 i, .string s, .slice al l.length cl, .slice am m.length cm] 25) ∧ (V.mk k b i s l m).lies false W S [.int .i64 k, .bool b, .int .i64 i, .string s, .slice al l.length cl, .slice am m.length cm] ∧ liesL false W S l bl ol ∧ Below w.heap.size w W ∧ (∀ b, S b → b < W.heap.size)) := fun W h => by
    have bW := B0.trans (h.mono (by omega))
    exact ⟨(h.block _ (by omega)).trans N0, V.lies_keep (fun h => h) (fun x hx => bW.block x (hS x hx)) (fun _ h => h) _ HV.out, liesL_keep (fun h => h) (fun x hx => bW.block x (hS x hx)) (fun _ h => h) _ HL.out, bW, fun x hx => by have := hS x hx; have := bW.size; omega⟩
  have C1 := rcheck_any false (V.mk k b i s l m) 40 S _ W0 (HK.out W0 (Below.refl _ _)).2.1 (HK.out W0 (Below.refl _ _)).2.2.2.2 (by omega)
  obtain ⟨n, hn⟩ : ∃ n, chkE (V.mk k b i s l m) 40 = n := ⟨_, rfl⟩
  have HN := hmk hn
  rw [hn] at C1
  have C1H := hmk C1
  clear C1 hn HV HL
  have a0 : W0.cell? ⟨w.heap.size, 0, none⟩ = some (.int .i64 k) := by rw [cell_of_block N0]; rfl
  have a1 : W0.cell? ⟨w.heap.size, 1, none⟩ = some (.bool b) := by rw [cell_of_block N0]; rfl
  have a2 : W0.cell? ⟨w.heap.size, 2, none⟩ = some (.int .i64 i) := by rw [cell_of_block N0]; rfl
  have a3 : W0.cell? ⟨w.heap.size, 3, none⟩ = some (.string s) := by rw [cell_of_block N0]; rfl
  have a4 : W0.cell? ⟨w.heap.size, 4, none⟩ = some (.slice al l.length cl) := by rw [cell_of_block N0]; rfl
  have a5 : W0.cell? ⟨w.heap.size, 5, none⟩ = some (.slice am m.length cm) := by rw [cell_of_block N0]; rfl
  clear N0
  go_enter Tryz.func9, Tryz.ntmps9
  go_wp2_with fail
  rw [← hW0]
  clear hW0
  refine C1H.out.mono ?_
  rintro e w1 ⟨rfl, b1⟩
  have z1 := b1.size
  obtain ⟨N1, _, _, BB1, _⟩ := HK.out w1 b1
  clear C1H a0 a1 a2 a3 a4 a5
  have a0 : w1.cell? ⟨w.heap.size, 0, none⟩ = some (.int .i64 k) := by rw [cell_of_block N1]; rfl
  have a1 : w1.cell? ⟨w.heap.size, 1, none⟩ = some (.bool b) := by rw [cell_of_block N1]; rfl
  have a2 : w1.cell? ⟨w.heap.size, 2, none⟩ = some (.int .i64 i) := by rw [cell_of_block N1]; rfl
  have a3 : w1.cell? ⟨w.heap.size, 3, none⟩ = some (.string s) := by rw [cell_of_block N1]; rfl
  have a4 : w1.cell? ⟨w.heap.size, 4, none⟩ = some (.slice al l.length cl) := by rw [cell_of_block N1]; rfl
  have a5 : w1.cell? ⟨w.heap.size, 5, none⟩ = some (.slice am m.length cm) := by rw [cell_of_block N1]; rfl
  by_cases hn : n = 0
  rotate_left
  · have HF : Hid (parR (V.mk k b i s l m) = ([], -1, n)) := par_chk HN.out hn
    have yn : ((n : Int) != 0) = true := by simp; omega
    have yn' : ((n : Int) == 0) = false := by simp; omega
    clear N1
    go_wp2_with fail
    go_ret3
    rw [HF.out]
    exact prT_none _ _ BB1
  subst hn
  by_cases hk4 : k = 4
  rotate_left
  · have HF : Hid (parR (V.mk k b i s l m) = ([], -1, 60)) := par_knd HN.out hk4
    have yn : (k != 4) = true := by simp [hk4]
    have yn' : (k == 4) = false := by simp [hk4]
    clear N1
    go_wp2_with fail
    go_ret3
    rw [HF.out]
    exact prT_none _ _ BB1
  subst hk4
  by_cases h256 : 256 < l.length
  · have HF : Hid (parR (V.mk 4 b i s l m) = ([], -1, 63)) := par_many HN.out rfl h256
    have yn : (256 : Int) < l.length := by omega
    clear N1 h256
    go_wp2_with fail
    go_ret3
    rw [HF.out]
    exact prT_none _ _ BB1
  have HF : Hid (parR (V.mk 4 b i s l m) = prsL l 0 []) := par_rows HN.out rfl h256
  have y256 : ¬ (256 : Int) < l.length := by omega
  have hlen : l.length ≤ 256 := by omega
  clear h256 HN
  obtain ⟨i0, hi0, hz0, hz1, hz2⟩ := info_parts infoT
  have hI : Hid (Tryz.prog.info? 51 = some i0 ∧ i0.zero = some (.agg #[.string ⟨#[]⟩, .string ⟨#[]⟩, .string ⟨#[]⟩, .int .i64 0, .bool false, .int .i64 0, .string ⟨#[]⟩, .slice none 0 0, .slice none 0 0]) ∧ i0.size = 9 ∧ i0.bytes = 136) := ⟨hi0, hz0, hz1, hz2⟩
  clear hi0 hz0 hz1 hz2 N1
  go_wp2_with fail
  clear a0 a1 a2 a3 a4 a5
  go_loopw [6, 7] (fun e6 e7 wr => ∃ (j : Nat) (acc : List Stp) (SL : Nat → Prop) (sl : Value), j ≤ l.length ∧ e6 = sl ∧ e7 = .int .i64 (j : Int) ∧ Hid (acc.length = j) ∧ Hid (prsL l 0 [] = prsL (l.drop j) j acc) ∧ OwnT wr w1.heap.size SL sl acc ∧ Below w1.heap.size w1 wr) (fun _ e _ => l.length - (RowKit.intOf e).toNat)
  case atStart => exact ⟨0, [], _, _, by omega, rfl, rfl, rfl, rfl, OwnR.nil _ _, Below.refl _ _⟩
  case round =>
    obtain ⟨j, acc, SL, sl0, hj, rfl, rfl, HA, HP, oj, bj⟩ := hrel
    have zj := bj.size
    have DJ := b1.trans (bj.mono (by omega))
    obtain ⟨NJ, _, LJ, BJ, SJ⟩ := HK.out wr DJ
    have a0 : wr.cell? ⟨w.heap.size, 0, none⟩ = some (.int .i64 4) := by rw [cell_of_block NJ]; rfl
    have a1 : wr.cell? ⟨w.heap.size, 1, none⟩ = some (.bool b) := by rw [cell_of_block NJ]; rfl
    have a2 : wr.cell? ⟨w.heap.size, 2, none⟩ = some (.int .i64 i) := by rw [cell_of_block NJ]; rfl
    have a3 : wr.cell? ⟨w.heap.size, 3, none⟩ = some (.string s) := by rw [cell_of_block NJ]; rfl
    have a4 : wr.cell? ⟨w.heap.size, 4, none⟩ = some (.slice al l.length cl) := by rw [cell_of_block NJ]; rfl
    have a5 : wr.cell? ⟨w.heap.size, 5, none⟩ = some (.slice am m.length cm) := by rw [cell_of_block NJ]; rfl
    clear NJ
    by_cases hjl : j < l.length
    · have y1 : (j : Int) < l.length := by omega
      obtain ⟨hSb, csj, hrow, hlj⟩ := liesL_get LJ j hjl
      obtain rfl : al = some ⟨bl, ol, none⟩ := hal.at_.resolve_left (by omega)
      have hlj0 := hlj
      have hwx := HW.out _ (List.getElem_mem hjl)
      have HG := hmk (fun h => prs_go (l := l) (acc := acc) hjl h)
      have HX := hmk (fun h => prs_bad (l := l) (acc := acc) hjl h)
      obtain ⟨x, hx⟩ : ∃ x, l[j] = x := ⟨_, rfl⟩
      rw [hx] at hlj hlj0 hwx HG HX
      obtain ⟨ek, eb, ei, es, eal, enl, ecl, eam, enm, ecm, rfl⟩ := V.ten hlj
      obtain ⟨q0, q1, q2, q3, q4, q5⟩ := row6 hrow
      have hc := rread_any x false S _ wr hlj0 SJ hwx (get_wt _ hwx) (wrd_str _ _) (wrd_str _ _)
      obtain ⟨⟨n, op, pa, fr, y⟩, hr⟩ : ∃ r, rdF x = r := ⟨_, rfl⟩
      rw [hr] at hc HG HX
      unfold RdP at hc
      dsimp only at hc HG HX
      have HC := hmk hc
      clear hlj hlj0 hrow hc hr hx LJ SJ
      go_wp2_with fail
      refine HC.out.mono ?_
      rintro e w4 ⟨csu, rfl, hlu, b4⟩
      obtain ⟨uk, ub, ui, us, ual, unl, ucl, uam, unm, ucm, rfl⟩ := V.ten hlu
      have z4 := b4.size
      have zb := alloc_size w4 (.cells #[.string op, .string pa, .string fr, .int .i64 uk, .bool ub, .int .i64 ui, .string us, .slice ual unl ucl, .slice uam unm ucm] 51)
      have bb : Below w4.heap.size w4 (w4.alloc (.cells #[.string op, .string pa, .string fr, .int .i64 uk, .bool ub, .int .i64 ui, .string us, .slice ual unl ucl, .slice uam unm ucm] 51)) := (Below.refl _ _).alloc (Nat.le_refl _) _
      have NB := heap_alloc_new w4 (.cells #[.string op, .string pa, .string fr, .int .i64 uk, .bool ub, .int .i64 ui, .string us, .slice ual unl ucl, .slice uam unm ucm] 51)
      have ab := b4.trans (bb.mono z4)
      have B4 := bj.trans (ab.mono (by omega))
      have HO4 := hmk (oj.below keepT ab)
      have HLU : Hid (ET (op, pa, fr, y) (w4.alloc (.cells #[.string op, .string pa, .string fr, .int .i64 uk, .bool ub, .int .i64 ui, .string us, .slice ual unl ucl, .slice uam unm ucm] 51)) (New wr w4) [.string op, .string pa, .string fr, .int .i64 uk, .bool ub, .int .i64 ui, .string us, .slice ual unl ucl, .slice uam unm ucm]) := ⟨_, rfl, V.lies_keep (fun h => h) (fun x hx => bb.block x hx.2) (fun _ h => h) _ hlu⟩
      have hown : ∀ r, u6.ownBlock = some r → w1.heap.size ≤ r ∧ r < wr.heap.size := fun r hr => oj.lt hr
      clear hlu HC q0 q1 q2 q3 q4 q5 a0 a1 a2 a3 a4 a5 b4 bb ab oj bj
      go_upto_region 13 with fail
      generalize (w4.alloc (.cells #[.string op, .string pa, .string fr, .int .i64 uk, .bool ub, .int .i64 ui, .string us, .slice ual unl ucl, .slice uam unm ucm] 51)) = wb at *
      by_cases hn : n = 0
      · subst hn
        have HP2 : Hid (prsL l 0 [] = prsL (l.drop (j + 1)) (j + 1) (acc ++ [(op, pa, fr, y)])) := HP.out.trans (HG.out rfl)
        have HA2 : Hid ((acc ++ [(op, pa, fr, y)]).length = j + 1) := by show _ = _; rw [List.length_append, HA.out]; rfl
        have HO : Hid (∀ b, New wr w4 b → w1.heap.size ≤ b ∧ b < wb.heap.size ∧ some b ≠ u6.ownBlock) := fun b hb => ⟨by have := hb.1; omega, by have := hb.2; omega, fun e => by have := (hown b e.symm).2; have := hb.1; omega⟩
        have r0 : wb.cell? ⟨w4.heap.size, 0, none⟩ = some (.string op) := by rw [cell_of_block NB]; rfl
        have r1 : wb.cell? ⟨w4.heap.size, 1, none⟩ = some (.string pa) := by rw [cell_of_block NB]; rfl
        have r2 : wb.cell? ⟨w4.heap.size, 2, none⟩ = some (.string fr) := by rw [cell_of_block NB]; rfl
        have r3 : wb.cell? ⟨w4.heap.size, 3, none⟩ = some (.int .i64 uk) := by rw [cell_of_block NB]; rfl
        have r4 : wb.cell? ⟨w4.heap.size, 4, none⟩ = some (.bool ub) := by rw [cell_of_block NB]; rfl
        have r5 : wb.cell? ⟨w4.heap.size, 5, none⟩ = some (.int .i64 ui) := by rw [cell_of_block NB]; rfl
        have r6 : wb.cell? ⟨w4.heap.size, 6, none⟩ = some (.string us) := by rw [cell_of_block NB]; rfl
        have r7 : wb.cell? ⟨w4.heap.size, 7, none⟩ = some (.slice ual unl ucl) := by rw [cell_of_block NB]; rfl
        have r8 : wb.cell? ⟨w4.heap.size, 8, none⟩ = some (.slice uam unm ucm) := by rw [cell_of_block NB]; rfl
        clear NB HG HX
        have hzc := alloc_size wb (.cells #[.string op, .string pa, .string fr, .int .i64 uk, .bool ub, .int .i64 ui, .string us, .slice ual unl ucl, .slice uam unm ucm] 51)
        have bc : Below wb.heap.size wb (wb.alloc (.cells #[.string op, .string pa, .string fr, .int .i64 uk, .bool ub, .int .i64 ui, .string us, .slice ual unl ucl, .slice uam unm ucm] 51)) := (Below.refl _ _).alloc (Nat.le_refl _) _
        have NC : (wb.alloc (.cells #[.string op, .string pa, .string fr, .int .i64 uk, .bool ub, .int .i64 ui, .string us, .slice ual unl ucl, .slice uam unm ucm] 51)).heap[w4.heap.size + 1]? = some (.cells #[.string op, .string pa, .string fr, .int .i64 uk, .bool ub, .int .i64 ui, .string us, .slice ual unl ucl, .slice uam unm ucm] 51) := by rw [← zb]; exact heap_alloc_new wb (.cells #[.string op, .string pa, .string fr, .int .i64 uk, .bool ub, .int .i64 ui, .string us, .slice ual unl ucl, .slice uam unm ucm] 51)
        have hal2 : acc.length ≤ 4294967296 := by rw [HA.out]; omega
        go_wp2_with (at_builtin; go_loud (refine wpl_push keepT _ rfl (.tmp 42) (.tmp 44) 28 rfl w1.heap.size i0 _ 136 Tryz.underlying28 hI.out.1 hI.out.2.1 hI.out.2.2.1 hI.out.2.2.2 rfl (by decide) (by decide) u6 (op, pa, fr, y) rfl (HO4.out.alloc keepT _) (w4.heap.size + 1) 1 (0, 0) rfl NC rfl oneT (keepT _ _ _ _ _ _ (fun b hb => bc.block b (HO.out b hb).2.1) (fun _ h => h) HLU.out) (fun b hb => ⟨(HO.out b hb).1, by have := (HO.out b hb).2.1; omega, (HO.out b hb).2.2⟩) hal2 (by have := B4.size; omega) ?_))
        intro g cap w5 o5 g5 e5
        have B5 : Below w1.heap.size w1 w5 := (B4.trans (bc.mono (by have := B4.size; omega))).grown g5 (by have := B4.size; omega) (fun r e => (hown r e).1)
        have HO5 := hmk o5
        have hl5 : acc.length = j := HA.out
        clear o5
        rw [hl5] at HO5 ⊢
        clear hl5
        go_wp2_with fail
        go_roundw
        case rel => exact ⟨j + 1, _, _, _, by omega, rfl, by go_num, HA2, HP2, HO5.out, B5⟩
        case measure => simp [RowKit.intOf]; omega
      · have yn : ((n : Int) != 0) = true := by simp; omega
        have yn' : ((n : Int) == 0) = false := by simp; omega
        have HF2 : Hid (parR (V.mk 4 b i s l m) = ([], (j : Int), n)) := HF.out.trans (HP.out.trans (HX.out hn))
        have BX := (HK.out _ (b1.trans (B4.mono (by omega)))).2.2.2.1
        clear NB B4 HLU HG HX HO4
        go_wp2_with fail
        go_ret3
        rw [HF2.out]
        exact prT_none _ _ BX
    · obtain rfl : j = l.length := by omega
      have y1 : ¬ (l.length : Int) < l.length := by omega
      have HF2 : Hid (parR (V.mk 4 b i s l m) = (acc, -1, 0)) := HF.out.trans (HP.out.trans prs_end)
      obtain ⟨ta, tc, tb, to_, rfl, hdt, hlt⟩ := own_listT (T := New w wr) oj (fun b hb => ⟨by have := (oj.off b hb).1; have := BB1.size; omega, (oj.off b hb).2.1⟩) (fun g hg => ⟨by have := (oj.lt hg).1; have := BB1.size; omega, (oj.lt hg).2⟩)
      have HT := hmk hlt
      clear hlt LJ oj
      go_wp2_with fail
      go_ret3
      rw [HF2.out]
      exact ⟨_, _, _, _, rfl, hdt, HT.out, BJ⟩
end Go.Proofs.YtjgbjhahmgegiaaGreatDoor
