import Derived.Test.YtjgbjhahmgegiaaGreatDoorPjJ
import Derived.Test.YtjgbjhahmgegiaaGreatDoorPjK
/- jsonpatch.Parse. -/
set_option linter.unusedSimpArgs false
set_option linter.unusedVariables false
set_option maxRecDepth 100000
namespace Go.Proofs.YtjgbjhahmgegiaaGreatDoor
open Go.RowKit Go.Lib
set_option maxHeartbeats 8000000 in
theorem jparse_any (v : V) (S : Nat → Prop) (cs : List Value) (w : World) (tp : Tp w) (hv : v.lies false w S cs) (hS : ∀ b, S b → b < w.heap.size) (hwt : v.wt ≤ 2147483648) :
    Calls Tryz.prog 8 #[.agg cs.toArray] w (PrT (parR v) w) := by
  obtain ⟨k, b, i, s, l, m⟩ := v
  have HV := hmk hv
  rw [V.lies] at hv
  obtain ⟨al, cl, bl, ol, am, cm, bm, om, rfl, hk, hi, hs, hal, ham, hl1, _, _⟩ := hv
  have HL := hmk hl1
  clear hl1
  have HW : Hid (∀ x ∈ l, x.wt ≤ 2147483648) := fun x hx => by have := wtL_mem hx; rw [V.wt] at hwt; omega
  have B0 : Below w.heap.size w (w.alloc (.cells #[.int .i64 k, .bool b, .int .i64 i, .string s, .slice al l.length cl, .slice am m.length cm] 25)) := (Below.refl _ _).alloc (Nat.le_refl _) _
  have z0 := alloc_size w (.cells #[.int .i64 k, .bool b, .int .i64 i, .string s, .slice al l.length cl, .slice am m.length cm] 25)
  have N0 := heap_alloc_new w (.cells #[.int .i64 k, .bool b, .int .i64 i, .string s, .slice al l.length cl, .slice am m.length cm] 25)
  obtain ⟨W0, hW0⟩ : ∃ W0, W0 = w.alloc (.cells #[.int .i64 k, .bool b, .int .i64 i, .string s, .slice al l.length cl, .slice am m.length cm] 25) := ⟨_, rfl⟩
  rw [← hW0] at B0 z0 N0
  have HK : Hid (∀ W, Below W0.heap.size W0 W → W.heap[w.heap.size]? = some (.cells #[.int .i64 k, .bool b, .int .i64 i, .string s, .slice al l.length cl, .slice am m.length cm] 25) ∧ (V.mk k b i s l m).lies false W S [.int .i64 k, .bool b, .int .i64 i, .string s, .slice al l.length cl, .slice am m.length cm] ∧ liesL false W S l bl ol ∧ Below w.heap.size w W ∧ (∀ b, S b → b < W.heap.size) ∧ Tp W) := fun W h => by
    have bW := B0.trans (h.mono (by omega))
    exact ⟨(h.block _ (by omega)).trans N0, V.lies_keep (fun h => h) (fun x hx => bW.block x (hS x hx)) (fun _ h => h) _ HV.out, liesL_keep (fun h => h) (fun x hx => bW.block x (hS x hx)) (fun _ h => h) _ HL.out, bW, fun x hx => by have := hS x hx; have := bW.size; omega, tp.below bW tp.z⟩
  have C1 := check_any false (V.mk k b i s l m) 40 S _ W0 ⟨(HK.out W0 (Below.refl _ _)).2.2.2.2.2.u, (HK.out W0 (Below.refl _ _)).2.2.2.2.2.z⟩ (HK.out W0 (Below.refl _ _)).2.1 (HK.out W0 (Below.refl _ _)).2.2.2.2.1 (by omega)
  obtain ⟨n, hn⟩ : ∃ n, chkE (V.mk k b i s l m) 40 = n := ⟨_, rfl⟩
  have HN := hmk hn
  rw [hn] at C1
  have C1H := hmk C1
  clear C1 hn HV HL tp
  have a0 : W0.cell? ⟨w.heap.size, 0, none⟩ = some (.int .i64 k) := by rw [cell_of_block N0]; rfl
  have a1 : W0.cell? ⟨w.heap.size, 1, none⟩ = some (.bool b) := by rw [cell_of_block N0]; rfl
  have a2 : W0.cell? ⟨w.heap.size, 2, none⟩ = some (.int .i64 i) := by rw [cell_of_block N0]; rfl
  have a3 : W0.cell? ⟨w.heap.size, 3, none⟩ = some (.string s) := by rw [cell_of_block N0]; rfl
  have a4 : W0.cell? ⟨w.heap.size, 4, none⟩ = some (.slice al l.length cl) := by rw [cell_of_block N0]; rfl
  have a5 : W0.cell? ⟨w.heap.size, 5, none⟩ = some (.slice am m.length cm) := by rw [cell_of_block N0]; rfl
  clear N0
  go_enter Tryz.func8, Tryz.ntmps8
  go_wp2_with fail
  rw [← hW0]
  clear hW0
  refine C1H.out.mono ?_
  rintro e w1 ⟨rfl, b1⟩
  have z1 := b1.size
  obtain ⟨N1, _, _, BB1, _, _⟩ := HK.out w1 b1
  clear C1H a0 a1 a2 a3 a4 a5
  have a0 : w1.cell? ⟨w.heap.size, 0, none⟩ = some (.int .i64 k) := by rw [cell_of_block N1]; rfl
  have a1 : w1.cell? ⟨w.heap.size, 1, none⟩ = some (.bool b) := by rw [cell_of_block N1]; rfl
  have a2 : w1.cell? ⟨w.heap.size, 2, none⟩ = some (.int .i64 i) := by rw [cell_of_block N1]; rfl
  have a3 : w1.cell? ⟨w.heap.size, 3, none⟩ = some (.string s) := by rw [cell_of_block N1]; rfl
  have a4 : w1.cell? ⟨w.heap.size, 4, none⟩ = some (.slice al l.length cl) := by rw [cell_of_block N1]; rfl
  have a5 : w1.cell? ⟨w.heap.size, 5, none⟩ = some (.slice am m.length cm) := by rw [cell_of_block N1]; rfl
  by_cases hn : n = 0
  rotate_left
  · have HF : Hid (parR (V.mk k b i s l m) = ([], -1, n)) := par_chk HN.out hn
    have yn : ((n : Int) != 0) = true := by simp; omega
    have yn' : ((n : Int) == 0) = false := by simp; omega
    clear N1
    go_wp2_with fail
    go_ret3
    rw [HF.out]
    exact prT_none _ _ BB1
  subst hn
  by_cases hk4 : k = 4
  rotate_left
  · have HF : Hid (parR (V.mk k b i s l m) = ([], -1, 60)) := par_knd HN.out hk4
    have yn : (k != 4) = true := by simp [hk4]
    have yn' : (k == 4) = false := by simp [hk4]
    clear N1
    go_wp2_with fail
    go_ret3
    rw [HF.out]
    exact prT_none _ _ BB1
  subst hk4
  by_cases h256 : 256 < l.length
  · have HF : Hid (parR (V.mk 4 b i s l m) = ([], -1, 63)) := par_many HN.out rfl h256
    have yn : (256 : Int) < l.length := by omega
    clear N1 h256
    go_wp2_with fail
    go_ret3
    rw [HF.out]
    exact prT_none _ _ BB1
  have HF : Hid (parR (V.mk 4 b i s l m) = prsL l 0 []) := par_rows HN.out rfl h256
  have y256 : ¬ (256 : Int) < l.length := by omega
  have hlen : l.length ≤ 256 := by omega
  clear h256 HN
  obtain ⟨i0, hi0, hz0, hz1, hz2⟩ := info_parts infoT
  have hmkq : ∀ W, (Instr.makeSlice 28 (.int .i64 (l.length : Int)) (.int .i64 (l.length : Int))).run Tryz.prog W = .ok (.slice (some ⟨W.heap.size, 0, none⟩) l.length l.length) (W.alloc (.cells (madeCells #[.string ⟨#[]⟩, .string ⟨#[]⟩, .string ⟨#[]⟩, .int .i64 0, .bool false, .int .i64 0, .string ⟨#[]⟩, .slice none 0 0, .slice none 0 0] (l.length * 9)) 51)) := fun W => by
    have h := run_make (P := Tryz.prog) W 28 51 i0 _ Tryz.underlying28 hi0 hz0 .i64 .i64 (l.length : Int) (l.length : Int) (by omega) (by omega) (by rw [hz2]; omega) (by omega)
    rw [hz1] at h
    simpa [Value.cells] using h
  clear hi0 hz0 hz1 hz2
  have C2 := hmk (operations_any w1)
  go_wp2_with fail
  refine C2.out.mono ?_
  rintro e w2 ⟨ob, rfl, om2, b2⟩
  have z2 := b2.size
  have D2 := b1.trans (b2.mono (by omega))
  obtain ⟨N2, _, _, _, _, _⟩ := HK.out w2 D2
  clear C2 a0 a1 a2 a3 a4 a5 N1 BB1
  have a0 : w2.cell? ⟨w.heap.size, 0, none⟩ = some (.int .i64 4) := by rw [cell_of_block N2]; rfl
  have a1 : w2.cell? ⟨w.heap.size, 1, none⟩ = some (.bool b) := by rw [cell_of_block N2]; rfl
  have a2 : w2.cell? ⟨w.heap.size, 2, none⟩ = some (.int .i64 i) := by rw [cell_of_block N2]; rfl
  have a3 : w2.cell? ⟨w.heap.size, 3, none⟩ = some (.string s) := by rw [cell_of_block N2]; rfl
  have a4 : w2.cell? ⟨w.heap.size, 4, none⟩ = some (.slice al l.length cl) := by rw [cell_of_block N2]; rfl
  have a5 : w2.cell? ⟨w.heap.size, 5, none⟩ = some (.slice am m.length cm) := by rw [cell_of_block N2]; rfl
  have g4 : (w2.alloc (.cells (madeCells #[.string ⟨#[]⟩, .string ⟨#[]⟩, .string ⟨#[]⟩, .int .i64 0, .bool false, .int .i64 0, .string ⟨#[]⟩, .slice none 0 0, .slice none 0 0] (l.length * 9)) 51)).cell? ⟨w.heap.size, 4, none⟩ = some (.slice al l.length cl) := by rw [((Below.refl w2.heap.size w2).alloc (Nat.le_refl _) _).cell (p := ⟨w.heap.size, 4, none⟩) (by show w.heap.size < _; omega)]; exact a4
  have hzm := alloc_size w2 (.cells (madeCells #[.string ⟨#[]⟩, .string ⟨#[]⟩, .string ⟨#[]⟩, .int .i64 0, .bool false, .int .i64 0, .string ⟨#[]⟩, .slice none 0 0, .slice none 0 0] (l.length * 9)) 51)
  have B3 : Below w2.heap.size w2 (w2.alloc (.cells (madeCells #[.string ⟨#[]⟩, .string ⟨#[]⟩, .string ⟨#[]⟩, .int .i64 0, .bool false, .int .i64 0, .string ⟨#[]⟩, .slice none 0 0, .slice none 0 0] (l.length * 9)) 51)) := (Below.refl _ _).alloc (Nat.le_refl _) _
  have K0 : Blk w2.heap.size 51 (l.length * 9) (w2.alloc (.cells (madeCells #[.string ⟨#[]⟩, .string ⟨#[]⟩, .string ⟨#[]⟩, .int .i64 0, .bool false, .int .i64 0, .string ⟨#[]⟩, .slice none 0 0, .slice none 0 0] (l.length * 9)) 51)) := ⟨_, heap_alloc_new w2 _, size_madeCells _ _⟩
  have OM2 := hmk om2
  clear om2 N2
  go_upto_region 11 with fail
  clear hmkq a0 a1 a2 a3 a4 a5 g4
  generalize (w2.alloc (.cells (madeCells #[.string ⟨#[]⟩, .string ⟨#[]⟩, .string ⟨#[]⟩, .int .i64 0, .bool false, .int .i64 0, .string ⟨#[]⟩, .slice none 0 0, .slice none 0 0] (l.length * 9)) 51)) = w3 at *
  go_loopw [32] (fun e wr => ∃ (j : Nat) (acc : List Stp), j ≤ l.length ∧ e = .int .i64 (j : Int) ∧ Hid (acc.length = j) ∧ w3.heap.size ≤ wr.heap.size ∧ Hid (prsL l 0 [] = prsL (l.drop j) j acc) ∧ Hid (RowsT acc w2.heap.size wr) ∧ Hid (Blk w2.heap.size 51 (l.length * 9) wr) ∧ Below w2.heap.size w2 wr) (fun e _ => l.length - (RowKit.intOf e).toNat)
  case atStart => exact ⟨0, [], by omega, rfl, rfl, by omega, rfl, (fun i hi => by simp at hi), K0, B3⟩
  case round =>
    clear K0 B3
    obtain ⟨j, acc, hj, rfl, HA, hzr, HP, HR, HB, bj⟩ := hrel
    have DJ := D2.trans (bj.mono (by omega))
    by_cases hjl : j < l.length
    · have y1 : (j : Int) < l.length := by omega
      obtain ⟨NJ, _, LJ, _, SJ, TJ⟩ := HK.out wr DJ
      obtain ⟨hSb, csj, hrow, hlj⟩ := liesL_get LJ j hjl
      obtain rfl : al = some ⟨bl, ol, none⟩ := hal.at_.resolve_left (by omega)
      have hlj0 := hlj
      have hwx := HW.out _ (List.getElem_mem hjl)
      have HG := hmk (fun h => prs_go (l := l) (acc := acc) hjl h)
      have HX := hmk (fun h => prs_bad (l := l) (acc := acc) hjl h)
      obtain ⟨x, hx⟩ : ∃ x, l[j] = x := ⟨_, rfl⟩
      rw [hx] at hlj hlj0 hwx HG HX
      obtain ⟨ek, eb, ei, es, eal, enl, ecl, eam, enm, ecm, rfl⟩ := V.ten hlj
      obtain ⟨q0, q1, q2, q3, q4, q5⟩ := row6 hrow
      have hza := alloc_size wr (.cells #[.int .i64 ek, .bool eb, .int .i64 ei, .string es, .slice eal enl ecl, .slice eam enm ecm] 25)
      have ba : Below wr.heap.size wr (wr.alloc (.cells #[.int .i64 ek, .bool eb, .int .i64 ei, .string es, .slice eal enl ecl, .slice eam enm ecm] 25)) := (Below.refl _ _).alloc (Nat.le_refl _) _
      have DA := DJ.trans (ba.mono (by have := DJ.size; omega))
      have BA := bj.trans (ba.mono (by omega))
      obtain ⟨_, _, _, _, SA, TA⟩ := HK.out _ DA
      have hc := pread_any ob x false S _ (wr.alloc (.cells #[.int .i64 ek, .bool eb, .int .i64 ei, .string es, .slice eal enl ecl, .slice eam enm ecm] 25)) (OM2.out.below BA) TA (V.lies_keep (fun h => h) (fun y hy => ba.block y (SJ y hy)) (fun _ h => h) _ hlj0) SA hwx (get_wt _ hwx) (wrd_str _ _) (wrd_str _ _) (wrd_str _ _)
      obtain ⟨⟨n, op, pa, fr, y⟩, hr⟩ : ∃ r, rdF x = r := ⟨_, rfl⟩
      rw [hr] at hc HG HX
      unfold RdP at hc
      dsimp only at hc HG HX
      have HC := hmk hc
      have HR1 : Hid (RowsT acc w2.heap.size (wr.alloc (.cells #[.int .i64 ek, .bool eb, .int .i64 ei, .string es, .slice eal enl ecl, .slice eam enm ecm] 25))) := HR.out.below (by omega) ba
      have HB1 : Hid (Blk w2.heap.size 51 (l.length * 9) (wr.alloc (.cells #[.int .i64 ek, .bool eb, .int .i64 ei, .string es, .slice eal enl ecl, .slice eam enm ecm] 25))) := HB.out.keep (ba.block _ (by omega))
      clear hlj hlj0 hrow hc hr hx HR HB NJ LJ SJ TJ SA TA
      go_wp2_with fail
      generalize (wr.alloc (.cells #[.int .i64 ek, .bool eb, .int .i64 ei, .string es, .slice eal enl ecl, .slice eam enm ecm] 25)) = wa at *
      refine HC.out.mono ?_
      rintro e w4 ⟨csu, rfl, hlu, b4⟩
      obtain ⟨uk, ub, ui, us, ual, unl, ucl, uam, unm, ucm, rfl⟩ := V.ten hlu
      have z4 := b4.size
      have zb := alloc_size w4 (.cells #[.string op, .string pa, .string fr, .int .i64 uk, .bool ub, .int .i64 ui, .string us, .slice ual unl ucl, .slice uam unm ucm] 51)
      have bb : Below w4.heap.size w4 (w4.alloc (.cells #[.string op, .string pa, .string fr, .int .i64 uk, .bool ub, .int .i64 ui, .string us, .slice ual unl ucl, .slice uam unm ucm] 51)) := (Below.refl _ _).alloc (Nat.le_refl _) _
      have NB := heap_alloc_new w4 (.cells #[.string op, .string pa, .string fr, .int .i64 uk, .bool ub, .int .i64 ui, .string us, .slice ual unl ucl, .slice uam unm ucm] 51)
      have ab := b4.trans (bb.mono z4)
      have HR4 := hmk (HR1.out.below (by omega) ab)
      have HB4 : Hid (Blk w2.heap.size 51 (l.length * 9) (w4.alloc (.cells #[.string op, .string pa, .string fr, .int .i64 uk, .bool ub, .int .i64 ui, .string us, .slice ual unl ucl, .slice uam unm ucm] 51))) := HB1.out.keep (ab.block _ (by omega))
      have B4 := BA.trans (ab.mono (by omega))
      have DB := DA.trans (ab.mono (by have := DA.size; omega))
      have HLU : Hid (ET (op, pa, fr, y) (w4.alloc (.cells #[.string op, .string pa, .string fr, .int .i64 uk, .bool ub, .int .i64 ui, .string us, .slice ual unl ucl, .slice uam unm ucm] 51)) (fun x => w2.heap.size < x ∧ x < (w4.alloc (.cells #[.string op, .string pa, .string fr, .int .i64 uk, .bool ub, .int .i64 ui, .string us, .slice ual unl ucl, .slice uam unm ucm] 51)).heap.size) [.string op, .string pa, .string fr, .int .i64 uk, .bool ub, .int .i64 ui, .string us, .slice ual unl ucl, .slice uam unm ucm]) := ⟨_, rfl, V.lies_keep (fun h => h) (fun x hx => bb.block x hx.2) (fun x hx => ⟨by have := hx.1; omega, by have := hx.2; omega⟩) _ hlu⟩
      clear hlu HR1 HB1 HC q0 q1 q2 q3 q4 q5 ba b4 bb ab BA DA
      go_upto_region 14 with fail
      generalize (w4.alloc (.cells #[.string op, .string pa, .string fr, .int .i64 uk, .bool ub, .int .i64 ui, .string us, .slice ual unl ucl, .slice uam unm ucm] 51)) = wb at *
      by_cases hn : n = 0
      · subst hn
        have HP2 : Hid (prsL l 0 [] = prsL (l.drop (j + 1)) (j + 1) (acc ++ [(op, pa, fr, y)])) := HP.out.trans (HG.out rfl)
        have HA2 : Hid ((acc ++ [(op, pa, fr, y)]).length = j + 1) := by show _ = _; rw [List.length_append, HA.out]; rfl
        clear HG HX
        have HS : Hid _ := HR4.out.store HB4.out HA.out (by omega) HLU.out B4 (Nat.le_refl _)
        obtain ⟨v0, k0⟩ := HB4.out.cell (j * 9) (by omega)
        obtain ⟨v1, k1⟩ := HB4.out.cell (j * 9 + 1) (by omega)
        obtain ⟨v2, k2⟩ := HB4.out.cell (j * 9 + 2) (by omega)
        obtain ⟨v3, k3⟩ := HB4.out.cell (j * 9 + 3) (by omega)
        obtain ⟨v4, k4⟩ := HB4.out.cell (j * 9 + 4) (by omega)
        obtain ⟨v5, k5⟩ := HB4.out.cell (j * 9 + 5) (by omega)
        obtain ⟨v6, k6⟩ := HB4.out.cell (j * 9 + 6) (by omega)
        obtain ⟨v7, k7⟩ := HB4.out.cell (j * 9 + 7) (by omega)
        obtain ⟨v8, k8⟩ := HB4.out.cell (j * 9 + 8) (by omega)
        have kf := HB4.out.frozen
        have r0 : wb.cell? ⟨w4.heap.size, 0, none⟩ = some (.string op) := by rw [cell_of_block NB]; rfl
        have r1 : wb.cell? ⟨w4.heap.size, 1, none⟩ = some (.string pa) := by rw [cell_of_block NB]; rfl
        have r2 : wb.cell? ⟨w4.heap.size, 2, none⟩ = some (.string fr) := by rw [cell_of_block NB]; rfl
        have r3 : wb.cell? ⟨w4.heap.size, 3, none⟩ = some (.int .i64 uk) := by rw [cell_of_block NB]; rfl
        have r4 : wb.cell? ⟨w4.heap.size, 4, none⟩ = some (.bool ub) := by rw [cell_of_block NB]; rfl
        have r5 : wb.cell? ⟨w4.heap.size, 5, none⟩ = some (.int .i64 ui) := by rw [cell_of_block NB]; rfl
        have r6 : wb.cell? ⟨w4.heap.size, 6, none⟩ = some (.string us) := by rw [cell_of_block NB]; rfl
        have r7 : wb.cell? ⟨w4.heap.size, 7, none⟩ = some (.slice ual unl ucl) := by rw [cell_of_block NB]; rfl
        have r8 : wb.cell? ⟨w4.heap.size, 8, none⟩ = some (.slice uam unm ucm) := by rw [cell_of_block NB]; rfl
        clear NB HR4 HB4 B4 DB HLU
        go_wp2_with fail
        go_roundw
        case rel => exact ⟨j + 1, _, by omega, by go_num, HA2, by simp [size_set1]; omega, HP2, HS.out.1, HS.out.2.1, HS.out.2.2⟩
        case measure => simp [RowKit.intOf]; omega
      · have yn : ((n : Int) != 0) = true := by simp; omega
        have yn' : ((n : Int) == 0) = false := by simp; omega
        have HF2 : Hid (parR (V.mk 4 b i s l m) = ([], (j : Int), n)) := HF.out.trans (HP.out.trans (HX.out hn))
        obtain ⟨_, _, _, BX, _, _⟩ := HK.out _ DB
        clear NB HR4 HB4 B4 DB HLU HG HX
        go_wp2_with fail
        go_ret3
        rw [HF2.out]
        exact prT_none _ _ BX
    · obtain rfl : j = l.length := by omega
      have y1 : ¬ (l.length : Int) < l.length := by omega
      have HF2 : Hid (parR (V.mk 4 b i s l m) = (acc, -1, 0)) := HF.out.trans (HP.out.trans prs_end)
      obtain ⟨_, _, _, BX, _, _⟩ := HK.out _ DJ
      have HT : Hid (liesT wr (New w wr) acc w2.heap.size 0) := fun i hi => by
        obtain ⟨cs, r, _, ds, rfl, lies⟩ := HR.out i hi
        exact ⟨⟨by omega, by omega⟩, ds, by rw [Nat.zero_add]; exact r, V.lies_keep (fun h => h) (fun _ _ => rfl) (fun x hx => ⟨by have := hx.1; omega, hx.2⟩) _ lies⟩
      clear HR HB
      go_wp2_with fail
      go_ret3
      rw [HF2.out]
      exact ⟨_, l.length, w2.heap.size, 0, by rw [HA.out]; rfl, ⟨by rw [HA.out]; exact Nat.le_refl _, by simp only [maxLen]; omega, .inr rfl, fun h => by cases h⟩, HT.out, BX⟩
end Go.Proofs.YtjgbjhahmgegiaaGreatDoor
