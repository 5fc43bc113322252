import Derived.Test.YtjgbjhahmgegiaaGreatDoorPwC
/- the document's Print. -/
set_option linter.unusedSimpArgs false
set_option linter.unusedVariables false
set_option maxRecDepth 100000
namespace Go
theorem results_ctt {fn : Func} {p q u : Tmp} {ty : TypeId} (h : fn.results = #[.cell p ty, .tmp q, .tmp u]) (tmps : Array Value) (P : Program) (w : World) :
    (results fn tmps).run P w =
      ((asAddr (tmps.getD p undef)).run P w).andThen fun a w₁ => ((loadVar ty a).run P w₁).andThen fun v w₂ => .ok (.tuple #[v, tmps.getD q undef, tmps.getD u undef]) w₂ := by
  simp only [results, h]
  simp [Sem.run_bind, Result.andThen]
end Go
namespace Go.Proofs.YtjgbjhahmgegiaaGreatDoor
open Go.RowKit Go.Lib
/-- a list that is put together in a box -/
structure Lst (W0 : World) (gv : Nat) (S SM : Nat → Prop) (l : List V) (slv : Value) (W : World) : Prop where
  gr : W0.grownBy W (some gv)
  bx : W.heap[gv]? = some (.cells #[.int .i64 4, .bool false, .int .i64 0, .string ⟨#[]⟩, slv, .slice none 0 0] 25 (0, 0))
  ow : OwnL false W 0 SM slv (l.map some)
  fl : ∀ r, slv.ownBlock = some r → W0.heap.size ≤ r
  sm : ∀ b, SM b → S b ∨ W0.heap.size ≤ b
theorem Lst.below {W0 W W' : World} {gv : Nat} {S SM : Nat → Prop} {l : List V} {slv : Value} (h : Lst W0 gv S SM l slv W) (hg : gv < W0.heap.size) (hb : Below W.heap.size W W') : Lst W0 gv S SM l slv W' :=
  ⟨grown_far h.gr (grown_of_below hb) (fun r e => by cases e), (hb.block gv (Nat.lt_of_lt_of_le hg h.gr.size)).trans h.bx, h.ow.below (keepL false) hb, h.fl, h.sm⟩
theorem Lst.store {W0 W w5 : World} {gv g n cap : Nat} {S SM SX : Nat → Prop} {l l' : List V} {slv : Value} (h : Lst W0 gv S SM l slv W) (hg : gv < W0.heap.size) (hS : ∀ b, S b → b < W0.heap.size ∧ b ≠ gv)
    (o5 : OwnL false w5 0 (fun b => SM b ∨ SX b) (.slice (some ⟨g, 0, none⟩) n cap) (l'.map some)) (g5 : W.grownBy w5 slv.ownBlock) (e5 : slv.ownBlock = some g ∨ W.heap.size ≤ g) (hSX : ∀ b, SX b → S b ∨ W0.heap.size ≤ b) :
    Lst W0 gv S (fun b => SM b ∨ SX b) l' (.slice (some ⟨g, 0, none⟩) n cap) (w5.setCell ⟨gv, 4, none⟩ (.slice (some ⟨g, 0, none⟩) n cap)) := by
  have hsm : ∀ b, SM b ∨ SX b → S b ∨ W0.heap.size ≤ b := fun b hb => hb.elim (h.sm b) (hSX b)
  have hge : W0.heap.size ≤ g := e5.elim (fun e => h.fl g e) (fun e => Nat.le_trans h.gr.size e)
  have b5 : w5.heap[gv]? = some (.cells #[.int .i64 4, .bool false, .int .i64 0, .string ⟨#[]⟩, slv, .slice none 0 0] 25 (0, 0)) := (g5.block gv (Nat.lt_of_lt_of_le hg h.gr.size) (fun e => by have := h.fl gv e.symm; omega)).trans h.bx
  refine ⟨grown_set (grown_far h.gr g5 (fun r e => .inl (h.fl r e))) 4 _, ?_, o5.set0 (keepL false) (fun hb => ?_) (fun e => by simp [Value.ownBlock] at e; omega) 4 _, fun r e => by simp [Value.ownBlock] at e; omega, hsm⟩
  · rw [set_block b5]; rfl
  · rcases hsm gv hb with q | q
    · exact (hS gv q).2 rfl
    · omega
theorem Lst.out {W0 W : World} {gv : Nat} {S SM : Nat → Prop} {l : List V} {slv : Value} (h : Lst W0 gv S SM l slv W) :
    ∃ ta tc tb to_, slv = .slice ta l.length tc ∧ Headed ta l.length tc tb to_ ∧ liesL false W (fun b => S b ∨ (W0.heap.size ≤ b ∧ b < W.heap.size)) l tb to_ :=
  own_listL0 h.ow (fun b hb => (h.sm b hb).imp id (fun q => ⟨q, (h.ow.off b hb).2.1⟩)) (fun g hg => .inr ⟨h.fl g hg, (h.ow.lt hg).2⟩)
theorem lis_lies {l : List V} {ta : Option Addr} {tc tb to_ : Nat} {W : World} {T : Nat → Prop} (hd : Headed ta l.length tc tb to_) (h : liesL false W T l tb to_) : (lisV l).lies false W T [.int .i64 4, .bool false, .int .i64 0, .string ⟨#[]⟩, .slice ta l.length tc, .slice none 0 0] :=
  lies_S (by simp [In64]) (by simp [In64]) (by decide) hd ⟨Nat.le_refl _, by simp [maxLen], .inl rfl, fun _ => rfl⟩ (bm := 0) (om := 0) h (by rw [liesM]; trivial)
/-- what Print answers -/
def PnPost (p : V × Int × Nat) (S : Nat → Prop) (w : World) (e : Ending) (w' : World) : Prop := ∃ cs : List Value, e = .returned (.tuple #[.agg cs.toArray, .int .i64 p.2.1, .int .i64 p.2.2]) ∧ p.1.lies false w' (Tw S w w') cs ∧ Below w.heap.size w w'
set_option maxHeartbeats 8000000 in
theorem rprint_any (l : List Stp) (S : Nat → Prop) (al : Option Addr) (cl bl ol : Nat) (w : World) (hd : Headed al l.length cl bl ol) (hl : liesT w S l bl ol) (hS : ∀ b, S b → b < w.heap.size) (hwt : wtT l ≤ 2147483647) (hz : SzT l) :
    Calls Tryz.prog 15 #[.slice al l.length cl] w (PnPost (prnF l) S w) := by
  have HL := hmk hl
  have HW : Hid (∀ x ∈ l, x.2.2.2.wt ≤ 2147483648 ∧ x.2.1.size ≤ 2147483648 ∧ x.2.2.1.size ≤ 2147483648) := fun x hx => by have := wtT_mem hx; simp only [stW] at this; exact ⟨by omega, by omega, by omega⟩
  have HZ := hmk hz
  have HWT := hmk hwt
  clear hl hz hwt
  obtain ⟨i0, hi0, hz0, hz1, hz2⟩ := info_parts info25
  have hI : Hid (Tryz.prog.info? 25 = some i0 ∧ i0.zero = some (.agg #[.int .i64 0, .bool false, .int .i64 0, .string ⟨#[]⟩, .slice none 0 0, .slice none 0 0]) ∧ i0.size = 6 ∧ i0.bytes = 88) := ⟨hi0, hz0, hz1, hz2⟩
  clear hi0 hz0 hz1 hz2
  have hnl : l.length ≤ 9223372036854775807 := Nat.le_trans hd.le hd.max
  have NZ := heap_alloc_new w (.cells #[.int .i64 0, .bool false, .int .i64 0, .string ⟨#[]⟩, .slice none 0 0, .slice none 0 0] 25)
  have BZ0 : Below w.heap.size w (w.alloc (.cells #[.int .i64 0, .bool false, .int .i64 0, .string ⟨#[]⟩, .slice none 0 0, .slice none 0 0] 25)) := (Below.refl _ _).alloc (Nat.le_refl _) _
  by_cases h256 : 256 < l.length
  · have HF := hmk (prn_many h256)
    have yn : (256 : Int) < l.length := by omega
    clear h256
    obtain ⟨wz, hwz⟩ : ∃ wz, wz = w.alloc (.cells #[.int .i64 0, .bool false, .int .i64 0, .string ⟨#[]⟩, .slice none 0 0, .slice none 0 0] 25) := ⟨_, rfl⟩
    rw [← hwz] at NZ BZ0
    go_enter Tryz.func15, Tryz.ntmps15
    go_upto_region 1 with fail
    rw [← hwz]
    clear hwz
    have r0 : wz.cell? ⟨w.heap.size, 0, none⟩ = some (.int .i64 0) := by rw [cell_of_block NZ]; rfl
    have r1 : wz.cell? ⟨w.heap.size, 1, none⟩ = some (.bool false) := by rw [cell_of_block NZ]; rfl
    have r2 : wz.cell? ⟨w.heap.size, 2, none⟩ = some (.int .i64 0) := by rw [cell_of_block NZ]; rfl
    have r3 : wz.cell? ⟨w.heap.size, 3, none⟩ = some (.string ⟨#[]⟩) := by rw [cell_of_block NZ]; rfl
    have r4 : wz.cell? ⟨w.heap.size, 4, none⟩ = some (.slice none 0 0) := by rw [cell_of_block NZ]; rfl
    have r5 : wz.cell? ⟨w.heap.size, 5, none⟩ = some (.slice none 0 0) := by rw [cell_of_block NZ]; rfl
    have rf : ∀ i, wz.frozen? ⟨w.heap.size, i, none⟩ = false := frozen_of_block NZ
    go_wp2_with fail
    (try simp only [Exit.inBlock, Exit.then])
    refine bodyPost_ret (v := .tuple #[.agg #[.int .i64 0, .bool false, .int .i64 0, .string ⟨#[]⟩, .slice none 0 0, .slice none 0 0], .int .i64 (-1), .int .i64 63]) ?_ rfl (by rw [HF.out]; exact ⟨[.int .i64 0, .bool false, .int .i64 0, .string ⟨#[]⟩, .slice none 0 0, .slice none 0 0], rfl, null_lies _ _, Below.set6 BZ0 (by omega) _ _ _ _ _ _ _ _ _ _ _ _⟩)
    rw [Go.results_ctt rfl]
    go_simp
  have HF := hmk (prn_rows h256)
  have y256 : ¬ (256 : Int) < l.length := by omega
  have hlen : l.length ≤ 256 := by omega
  clear h256 NZ BZ0
  have z0 : ((w.alloc (.cells #[.int .i64 0, .bool false, .int .i64 0, .string ⟨#[]⟩, .slice none 0 0, .slice none 0 0] 25)).alloc (.cells #[.int .i64 4, .bool false, .int .i64 0, .string ⟨#[]⟩, .slice none 0 0, .slice none 0 0] 25)).heap.size = w.heap.size + 2 := by rw [alloc_size, alloc_size]
  have B0 : Below w.heap.size w ((w.alloc (.cells #[.int .i64 0, .bool false, .int .i64 0, .string ⟨#[]⟩, .slice none 0 0, .slice none 0 0] 25)).alloc (.cells #[.int .i64 4, .bool false, .int .i64 0, .string ⟨#[]⟩, .slice none 0 0, .slice none 0 0] 25)) := two_below w _ _
  have N0 := alloc2_keep1 w (.cells #[.int .i64 0, .bool false, .int .i64 0, .string ⟨#[]⟩, .slice none 0 0, .slice none 0 0] 25) (.cells #[.int .i64 4, .bool false, .int .i64 0, .string ⟨#[]⟩, .slice none 0 0, .slice none 0 0] 25)
  have N1 := alloc2_new w (.cells #[.int .i64 0, .bool false, .int .i64 0, .string ⟨#[]⟩, .slice none 0 0, .slice none 0 0] 25) (.cells #[.int .i64 4, .bool false, .int .i64 0, .string ⟨#[]⟩, .slice none 0 0, .slice none 0 0] 25)
  obtain ⟨W0, hW0⟩ : ∃ W0, W0 = (w.alloc (.cells #[.int .i64 0, .bool false, .int .i64 0, .string ⟨#[]⟩, .slice none 0 0, .slice none 0 0] 25)).alloc (.cells #[.int .i64 4, .bool false, .int .i64 0, .string ⟨#[]⟩, .slice none 0 0, .slice none 0 0] 25) := ⟨_, rfl⟩
  rw [← hW0] at z0 B0 N0 N1
  have HS : Hid (∀ b, S b → b < W0.heap.size ∧ b ≠ w.heap.size + 1) := fun b hb => ⟨by have := hS b hb; omega, by have := hS b hb; omega⟩
  have HK : Hid (∀ W, W0.grownBy W (some (w.heap.size + 1)) → W.heap[w.heap.size]? = some (.cells #[.int .i64 0, .bool false, .int .i64 0, .string ⟨#[]⟩, .slice none 0 0, .slice none 0 0] 25) ∧ liesT W S l bl ol ∧ Below w.heap.size w W) := fun W h => by
    have bW := B0.grown h (by omega) (fun r e => by have := Option.some.inj e; omega)
    exact ⟨(h.block _ (by omega) (fun e => by have := Option.some.inj e; omega)).trans N0, liesT_keep (fun x hx => bW.block x (hS x hx)) (fun _ h => h) HL.out, bW⟩
  have X0 : Lst W0 (w.heap.size + 1) S NoB [] (.slice none 0 0) W0 := ⟨World.grownBy.refl _ _, N1, OwnR.nil _ _, fun r h => by simp [Value.ownBlock] at h, fun b (h : NoB b) => False.elim h⟩
  clear HL N0 N1
  go_enter Tryz.func15, Tryz.ntmps15
  go_upto_region 5 with fail
  rw [← hW0]
  clear hW0
  go_loopw [6] (fun e wr => ∃ (j : Nat) (acc : List V) (SM : Nat → Prop) (slv : Value), j ≤ l.length ∧ e = .int .i64 (j : Int) ∧ Hid (acc = (l.take j).map wrV) ∧ Hid (prnL l 0 [] = prnL (l.drop j) j acc) ∧ Hid (Lst W0 (w.heap.size + 1) S SM acc slv wr)) (fun e _ => l.length - (RowKit.intOf e).toNat)
  case atStart => exact ⟨0, [], NoB, _, by omega, rfl, by show _ = _; simp, rfl, X0⟩
  case round =>
    clear X0
    obtain ⟨j, acc, SM, slv, hj, rfl, HA, HP, X⟩ := hrel
    have zr := X.out.gr.size
    by_cases hjl : j < l.length
    · have y1 : (j : Int) < l.length := by omega
      obtain ⟨_, LT, BW⟩ := HK.out wr X.out.gr
      obtain ⟨hSb, csj, hrow, hlj⟩ := LT j hjl
      obtain ⟨s1, s2, s3⟩ := HZ.out _ (List.getElem_mem hjl)
      obtain ⟨x1, x2, x3⟩ := HW.out _ (List.getElem_mem hjl)
      obtain rfl : al = some ⟨bl, ol, none⟩ := hd.at_.resolve_left (by omega)
      have HG := hmk (fun h => prn_go (l := l) (acc := acc) hjl h)
      have HX := hmk (fun h => prn_bad (l := l) (acc := acc) hjl h)
      have HT : Hid (l.take (j + 1) = l.take j ++ [l[j]]) := by show _ = _; rw [List.take_succ_eq_append_getElem hjl]
      obtain ⟨x, hx⟩ : ∃ x, l[j] = x := ⟨_, rfl⟩
      rw [hx] at hrow hlj HG HX HT s1 s2 s3 x1 x2 x3
      obtain ⟨op, pa, fr, v⟩ := x
      dsimp only at hrow hlj s1 s2 s3 x1 x2 x3
      obtain ⟨ek, eb, ei, es, eal, enl, ecl, eam, enm, ecm, rfl⟩ := V.ten hlj
      have HR : Hid (∀ W', Below w.heap.size w W' → W'.heap[bl]? = wr.heap[bl]?) := fun W' h => (h.block _ (hS _ hSb)).trans (BW.block _ (hS _ hSb)).symm
      have HLV : Hid (∀ W', Below w.heap.size w W' → v.lies false W' S [.int .i64 ek, .bool eb, .int .i64 ei, .string es, .slice eal enl ecl, .slice eam enm ecm]) := fun W' h => V.lies_keep (fun h => h) (fun y hy => (h.block y (hS y hy)).trans (BW.block y (hS y hy)).symm) (fun _ h => h) _ hlj
      obtain ⟨q0, q1, q2, q3, q4, q5, q6, q7, q8⟩ := row9 hrow
      have CF := fault_any op pa fr v false S _ wr hlj (fun b hb => by have := hS b hb; have := BW.size; omega) x1 x2 x3
      obtain ⟨n, hn⟩ : ∃ n, fltF op pa fr v = n := ⟨_, rfl⟩
      have HN : Hid (stE (op, pa, fr, v) = n) := hn
      rw [hn] at CF
      have CFH := hmk CF
      have HRO := hmk hrow
      clear CF hn hrow hlj LT hx
      go_wp2_with fail
      refine CFH.out.mono ?_
      rintro e w1 ⟨rfl, b1⟩
      have z1 := b1.size
      have X1 := hmk (X.out.below (by omega) b1)
      obtain ⟨NR, _, BW1⟩ := HK.out w1 X1.out.gr
      clear CFH q0 q1 q2 q3 q4 q5 q6 q7 q8
      by_cases hn : n = 0
      rotate_left
      · have yn : ((n : Int) != 0) = true := by simp; omega
        have yn' : ((n : Int) == 0) = false := by simp; omega
        have HF2 : Hid (prnF l = (nullV, (j : Int), n)) := by show _ = _; rw [HF.out, HP.out, HX.out (by rw [HN.out]; exact hn), HN.out]
        clear HG HX
        have r0 : w1.cell? ⟨w.heap.size, 0, none⟩ = some (.int .i64 0) := by rw [cell_of_block NR]; rfl
        have r1 : w1.cell? ⟨w.heap.size, 1, none⟩ = some (.bool false) := by rw [cell_of_block NR]; rfl
        have r2 : w1.cell? ⟨w.heap.size, 2, none⟩ = some (.int .i64 0) := by rw [cell_of_block NR]; rfl
        have r3 : w1.cell? ⟨w.heap.size, 3, none⟩ = some (.string ⟨#[]⟩) := by rw [cell_of_block NR]; rfl
        have r4 : w1.cell? ⟨w.heap.size, 4, none⟩ = some (.slice none 0 0) := by rw [cell_of_block NR]; rfl
        have r5 : w1.cell? ⟨w.heap.size, 5, none⟩ = some (.slice none 0 0) := by rw [cell_of_block NR]; rfl
        have rf : ∀ i, w1.frozen? ⟨w.heap.size, i, none⟩ = false := frozen_of_block NR
        go_wp2_with fail
        (try simp only [Exit.inBlock, Exit.then])
        refine bodyPost_ret (v := .tuple #[.agg #[.int .i64 0, .bool false, .int .i64 0, .string ⟨#[]⟩, .slice none 0 0, .slice none 0 0], .int .i64 (j), .int .i64 n]) ?_ rfl (by rw [HF2.out]; exact ⟨[.int .i64 0, .bool false, .int .i64 0, .string ⟨#[]⟩, .slice none 0 0, .slice none 0 0], rfl, null_lies _ _, Below.set6 BW1 (by omega) _ _ _ _ _ _ _ _ _ _ _ _⟩)
        rw [Go.results_ctt rfl]
        go_simp
      subst hn
      have HP2 : Hid (prnL l 0 [] = prnL (l.drop (j + 1)) (j + 1) (acc ++ [wrV (op, pa, fr, v)])) := HP.out.trans (HG.out HN.out)
      have HA2 : Hid (acc ++ [wrV (op, pa, fr, v)] = (l.take (j + 1)).map wrV) := by show _ = _; rw [HA.out, HT.out, List.map_append]; rfl
      clear HG HX X
      obtain ⟨q0, q1, q2, q3, q4, q5, q6, q7, q8⟩ := row9 (HRO.out.keep (HR.out w1 BW1))
      have CW := hmk (rwrite_any op pa fr v S _ w1 (HLV.out w1 BW1) (fun b hb => by have := hS b hb; have := BW1.size; omega) s1 s2 s3)
      obtain ⟨y, hy⟩ : ∃ y, wrV (op, pa, fr, v) = y := ⟨_, rfl⟩
      rw [hy] at CW HP2 HA2
      clear hy NR
      go_wp2_with fail
      refine CW.out.mono ?_
      rintro e w2 ⟨csu, rfl, hlu, b2⟩
      obtain ⟨uk, ub, ui, us, ual, unl, ucl, uam, unm, ucm, rfl⟩ := V.ten hlu
      have z2 := b2.size
      have bb : Below w2.heap.size w2 (w2.alloc (.cells #[.int .i64 uk, .bool ub, .int .i64 ui, .string us, .slice ual unl ucl, .slice uam unm ucm] 25)) := (Below.refl _ _).alloc (Nat.le_refl _) _
      have zb := alloc_size w2 (.cells #[.int .i64 uk, .bool ub, .int .i64 ui, .string us, .slice ual unl ucl, .slice uam unm ucm] 25)
      have NB := heap_alloc_new w2 (.cells #[.int .i64 uk, .bool ub, .int .i64 ui, .string us, .slice ual unl ucl, .slice uam unm ucm] 25)
      have X3 := hmk (X1.out.below (by omega) (b2.trans (bb.mono (by omega))))
      have HLU : Hid (y.lies false (w2.alloc (.cells #[.int .i64 uk, .bool ub, .int .i64 ui, .string us, .slice ual unl ucl, .slice uam unm ucm] 25)) (Tw S w1 w2) [.int .i64 uk, .bool ub, .int .i64 ui, .string us, .slice ual unl ucl, .slice uam unm ucm]) := V.lies_keep (fun h => h) (fun y hy => bb.block y (by rcases hy with h | h; (have := hS y h; have := BW1.size; omega); exact h.2)) (fun _ h => h) _ hlu
      have HOW : Hid (∀ r, slv.ownBlock = some r → W0.heap.size ≤ r ∧ r < w1.heap.size) := fun r e => ⟨X1.out.fl r e, (X1.out.ow.lt e).2⟩
      clear hlu q0 q1 q2 q3 q4 q5 q6 q7 q8 CW X1 bb
      go_upto_region 11 with fail
      generalize (w2.alloc (.cells #[.int .i64 uk, .bool ub, .int .i64 ui, .string us, .slice ual unl ucl, .slice uam unm ucm] 25)) = w3 at *
      have d0 : w3.cell? ⟨w2.heap.size, 0, none⟩ = some (.int .i64 uk) := by rw [cell_of_block NB]; rfl
      have d1 : w3.cell? ⟨w2.heap.size, 1, none⟩ = some (.bool ub) := by rw [cell_of_block NB]; rfl
      have d2 : w3.cell? ⟨w2.heap.size, 2, none⟩ = some (.int .i64 ui) := by rw [cell_of_block NB]; rfl
      have d3 : w3.cell? ⟨w2.heap.size, 3, none⟩ = some (.string us) := by rw [cell_of_block NB]; rfl
      have d4 : w3.cell? ⟨w2.heap.size, 4, none⟩ = some (.slice ual unl ucl) := by rw [cell_of_block NB]; rfl
      have d5 : w3.cell? ⟨w2.heap.size, 5, none⟩ = some (.slice uam unm ucm) := by rw [cell_of_block NB]; rfl
      have m4 : w3.cell? ⟨w.heap.size + 1, 4, none⟩ = some slv := by rw [cell_of_block X3.out.bx]; rfl
      have bA : Below w3.heap.size w3 (w3.alloc (.cells #[.int .i64 uk, .bool ub, .int .i64 ui, .string us, .slice ual unl ucl, .slice uam unm ucm] 25)) := (Below.refl _ _).alloc (Nat.le_refl _) _
      have zA := alloc_size w3 (.cells #[.int .i64 uk, .bool ub, .int .i64 ui, .string us, .slice ual unl ucl, .slice uam unm ucm] 25)
      have NC : (w3.alloc (.cells #[.int .i64 uk, .bool ub, .int .i64 ui, .string us, .slice ual unl ucl, .slice uam unm ucm] 25)).heap[w2.heap.size + 1]? = some (.cells #[.int .i64 uk, .bool ub, .int .i64 ui, .string us, .slice ual unl ucl, .slice uam unm ucm] 25) := by rw [← zb]; exact heap_alloc_new w3 (.cells #[.int .i64 uk, .bool ub, .int .i64 ui, .string us, .slice ual unl ucl, .slice uam unm ucm] 25)
      have XA := hmk (X3.out.below (by omega) bA)
      have HE : Hid (EL false (some y) (w3.alloc (.cells #[.int .i64 uk, .bool ub, .int .i64 ui, .string us, .slice ual unl ucl, .slice uam unm ucm] 25)) (Tw S w1 w2) [.int .i64 uk, .bool ub, .int .i64 ui, .string us, .slice ual unl ucl, .slice uam unm ucm]) := V.lies_keep (fun h => h) (fun y hy => bA.block y (by rcases hy with h | h; (have := hS y h; have := BW1.size; omega); have := h.2; omega)) (fun _ h => h) _ HLU.out
      have HSX : Hid (∀ b, Tw S w1 w2 b → 0 ≤ b ∧ b < (w3.alloc (.cells #[.int .i64 uk, .bool ub, .int .i64 ui, .string us, .slice ual unl ucl, .slice uam unm ucm] 25)).heap.size ∧ some b ≠ slv.ownBlock) := fun b hb => by
        rcases hb with h | h
        · have := hS b h
          have := BW1.size
          exact ⟨Nat.zero_le _, by omega, fun e => by have := (HOW.out b e.symm).1; omega⟩
        · exact ⟨Nat.zero_le _, by have := h.2; omega, fun e => by have := (HOW.out b e.symm).2; have := h.1; omega⟩
      have hac : acc.length = j := by rw [HA.out]; simp; omega
      have hll : (acc.map some).length = j := by rw [List.length_map]; exact hac
      have hn4 : (acc.map some).length ≤ 4294967296 := by rw [hll]; omega
      have HLL : Hid ((acc.map some).length + 1 = j + 1) := by show _ = _; rw [hll]
      clear NB hac hll HLU HOW
      go_wp2_with (at_builtin; go_loud (refine wpl_push (keepL false) _ rfl (.tmp 37) (.tmp 39) 22 rfl 0 i0 _ 88 Tryz.underlying22 hI.out.1 hI.out.2.1 hI.out.2.2.1 hI.out.2.2.2 rfl (by decide) (by decide) slv (some y) rfl XA.out.ow (w2.heap.size + 1) 1 (0, 0) rfl NC rfl one6 HE.out HSX.out hn4 (Nat.zero_le _) ?_; rw [HLL.out]))
      intro g cap w5 o5 g5 e5
      obtain ⟨jj, hjj⟩ : ∃ jj, j + 1 = jj := ⟨_, rfl⟩
      have HJ := hmk hjj
      rw [hjj] at o5 HP2 HA2 ⊢
      clear hjj
      have X5 := hmk (XA.out.store (SX := Tw S w1 w2) (l' := acc ++ [y]) (by omega) HS.out (by rw [List.map_append]; exact o5) g5 (by rcases e5 with e | e; (exact .inl e); exact .inr (by rw [alloc_size]; omega)) (fun b hb => hb.imp id (fun h => by have := h.1; omega)))
      have f5 : w5.heap[w.heap.size + 1]? = _ := (g5.block (w.heap.size + 1) (Nat.lt_of_lt_of_le (show w.heap.size + 1 < W0.heap.size by omega) XA.out.gr.size) (fun e => by have := XA.out.fl _ e.symm; omega)).trans XA.out.bx
      have e6 : w5.cell? ⟨w.heap.size + 1, 4, none⟩ = some slv := by rw [cell_of_block f5]; rfl
      have e7 : w5.frozen? ⟨w.heap.size + 1, 4, none⟩ = false := frozen_of_block f5 4
      clear f5 d0 d1 d2 d3 d4 d5 m4 o5 g5 e5 HE HSX hn4 XA bA HLL NC X3
      go_wp2_with fail
      go_roundw
      case rel => exact ⟨jj, _, _, _, by have := HJ.out; omega, by rw [← HJ.out]; go_num, HA2, HP2, X5⟩
      case measure => have := HJ.out; simp [RowKit.intOf]; omega
    · obtain rfl : j = l.length := by omega
      have y1 : ¬ (l.length : Int) < l.length := by omega
      obtain ⟨NR, _, BW⟩ := HK.out wr X.out.gr
      obtain ⟨ta, tc, tb, to_, hse, hdl, hLs⟩ := X.out.out
      have bx := X.out.bx
      rw [hse] at bx
      have HLL := hmk (lis_lies hdl hLs)
      have hacw : wtL acc ≤ 2147483647 + 5120 := by
        have h1 := wr_wtL l
        have h2 := HA.out
        rw [List.take_length] at h2
        rw [h2]
        have := HWT.out
        omega
      have hlw := lis_wt acc
      have HTS : Hid (∀ b, (S b ∨ (W0.heap.size ≤ b ∧ b < wr.heap.size)) → b < wr.heap.size) := fun b hb => by
        rcases hb with h | h
        · have := hS b h; have := BW.size; omega
        · exact h.2
      have CC := rcheck_any false (lisV acc) 40 _ _ wr HLL.out HTS.out (by omega)
      obtain ⟨n, hn⟩ : ∃ n, chkE (lisV acc) 40 = n := ⟨_, rfl⟩
      have HN := hmk hn
      rw [hn] at CC
      have CCH := hmk CC
      have HO := hmk (fun h => prn_over (l := l) (acc := acc) h)
      have HE := hmk (fun h => prn_end (l := l) (acc := acc) h)
      clear CC hn hse hLs hdl hacw hlw HTS
      obtain ⟨an, han⟩ : ∃ an, acc.length = an := ⟨_, rfl⟩
      rw [han] at bx HLL CCH
      clear han
      have d0 : wr.cell? ⟨w.heap.size + 1, 0, none⟩ = some (.int .i64 4) := by rw [cell_of_block bx]; rfl
      have d1 : wr.cell? ⟨w.heap.size + 1, 1, none⟩ = some (.bool false) := by rw [cell_of_block bx]; rfl
      have d2 : wr.cell? ⟨w.heap.size + 1, 2, none⟩ = some (.int .i64 0) := by rw [cell_of_block bx]; rfl
      have d3 : wr.cell? ⟨w.heap.size + 1, 3, none⟩ = some (.string ⟨#[]⟩) := by rw [cell_of_block bx]; rfl
      have d4 : wr.cell? ⟨w.heap.size + 1, 4, none⟩ = some (.slice ta an tc) := by rw [cell_of_block bx]; rfl
      have d5 : wr.cell? ⟨w.heap.size + 1, 5, none⟩ = some (.slice none 0 0) := by rw [cell_of_block bx]; rfl
      go_wp2_with fail
      refine CCH.out.mono ?_
      rintro e w1 ⟨rfl, b1⟩
      have z1 := b1.size
      have bx1 := (b1.block (w.heap.size + 1) (by omega)).trans bx
      have NR1 := (b1.block w.heap.size (by omega)).trans NR
      have BW1 := BW.trans (b1.mono BW.size)
      clear CCH d0 d1 d2 d3 d4 d5 bx NR
      by_cases hn : n = 0
      rotate_left
      · have yn : ((n : Int) != 0) = true := by simp; omega
        have yn' : ((n : Int) == 0) = false := by simp; omega
        have HF2 : Hid (prnF l = (nullV, -1, n)) := by show _ = _; rw [HF.out, HP.out, HO.out (by rw [HN.out]; exact hn), HN.out]
        clear HO HE bx1
        have r0 : w1.cell? ⟨w.heap.size, 0, none⟩ = some (.int .i64 0) := by rw [cell_of_block NR1]; rfl
        have r1 : w1.cell? ⟨w.heap.size, 1, none⟩ = some (.bool false) := by rw [cell_of_block NR1]; rfl
        have r2 : w1.cell? ⟨w.heap.size, 2, none⟩ = some (.int .i64 0) := by rw [cell_of_block NR1]; rfl
        have r3 : w1.cell? ⟨w.heap.size, 3, none⟩ = some (.string ⟨#[]⟩) := by rw [cell_of_block NR1]; rfl
        have r4 : w1.cell? ⟨w.heap.size, 4, none⟩ = some (.slice none 0 0) := by rw [cell_of_block NR1]; rfl
        have r5 : w1.cell? ⟨w.heap.size, 5, none⟩ = some (.slice none 0 0) := by rw [cell_of_block NR1]; rfl
        have rf : ∀ i, w1.frozen? ⟨w.heap.size, i, none⟩ = false := frozen_of_block NR1
        go_wp2_with fail
        (try simp only [Exit.inBlock, Exit.then])
        refine bodyPost_ret (v := .tuple #[.agg #[.int .i64 0, .bool false, .int .i64 0, .string ⟨#[]⟩, .slice none 0 0, .slice none 0 0], .int .i64 (-1), .int .i64 n]) ?_ rfl (by rw [HF2.out]; exact ⟨[.int .i64 0, .bool false, .int .i64 0, .string ⟨#[]⟩, .slice none 0 0, .slice none 0 0], rfl, null_lies _ _, Below.set6 BW1 (by omega) _ _ _ _ _ _ _ _ _ _ _ _⟩)
        rw [Go.results_ctt rfl]
        go_simp
      subst hn
      have HF2 : Hid (prnF l = (lisV acc, -1, 0)) := by show _ = _; rw [HF.out, HP.out, HE.out HN.out]
      clear HO HE
      have d0 : w1.cell? ⟨w.heap.size + 1, 0, none⟩ = some (.int .i64 4) := by rw [cell_of_block bx1]; rfl
      have d1 : w1.cell? ⟨w.heap.size + 1, 1, none⟩ = some (.bool false) := by rw [cell_of_block bx1]; rfl
      have d2 : w1.cell? ⟨w.heap.size + 1, 2, none⟩ = some (.int .i64 0) := by rw [cell_of_block bx1]; rfl
      have d3 : w1.cell? ⟨w.heap.size + 1, 3, none⟩ = some (.string ⟨#[]⟩) := by rw [cell_of_block bx1]; rfl
      have d4 : w1.cell? ⟨w.heap.size + 1, 4, none⟩ = some (.slice ta an tc) := by rw [cell_of_block bx1]; rfl
      have d5 : w1.cell? ⟨w.heap.size + 1, 5, none⟩ = some (.slice none 0 0) := by rw [cell_of_block bx1]; rfl
      have r0 : w1.cell? ⟨w.heap.size, 0, none⟩ = some (.int .i64 0) := by rw [cell_of_block NR1]; rfl
      have r1 : w1.cell? ⟨w.heap.size, 1, none⟩ = some (.bool false) := by rw [cell_of_block NR1]; rfl
      have r2 : w1.cell? ⟨w.heap.size, 2, none⟩ = some (.int .i64 0) := by rw [cell_of_block NR1]; rfl
      have r3 : w1.cell? ⟨w.heap.size, 3, none⟩ = some (.string ⟨#[]⟩) := by rw [cell_of_block NR1]; rfl
      have r4 : w1.cell? ⟨w.heap.size, 4, none⟩ = some (.slice none 0 0) := by rw [cell_of_block NR1]; rfl
      have r5 : w1.cell? ⟨w.heap.size, 5, none⟩ = some (.slice none 0 0) := by rw [cell_of_block NR1]; rfl
      have rf : ∀ i, w1.frozen? ⟨w.heap.size, i, none⟩ = false := frozen_of_block NR1
      clear NR1 bx1
      go_wp2_with fail
      (try simp only [Exit.inBlock, Exit.then])
      refine bodyPost_ret (v := .tuple #[.agg #[.int .i64 4, .bool false, .int .i64 0, .string ⟨#[]⟩, .slice ta an tc, .slice none 0 0], .int .i64 (-1), .int .i64 0]) ?_ rfl (by rw [HF2.out]; exact ⟨[.int .i64 4, .bool false, .int .i64 0, .string ⟨#[]⟩, .slice ta an tc, .slice none 0 0], rfl, V.lies_keep (fun h => h) (fun _ _ => rfl) (fun b hb => hb.imp id (fun q => ⟨by omega, by simp [size_set1]; omega⟩)) _ (lies_set6T (T := fun b => S b ∨ (W0.heap.size ≤ b ∧ b < wr.heap.size)) (V.lies_keep (fun h => h) (fun y hy => b1.block y (by rcases hy with h | h; (have := hS y h; have := BW.size; omega); exact h.2)) (fun _ h => h) _ HLL.out) (fun h => by rcases h with h | h; (have := hS _ h; omega); omega) _ _ _ _ _ _ _ _ _ _ _ _), Below.set6 BW1 (by omega) _ _ _ _ _ _ _ _ _ _ _ _⟩)
      rw [Go.results_ctt rfl]
      go_simp
end Go.Proofs.YtjgbjhahmgegiaaGreatDoor
