import Derived.Test.YtjgbjhahmgegiaaGreatDoorPwF
import Derived.Test.YtjgbjhahmgegiaaGreatDoorPwD
/- jsonpatch.Print. -/
set_option linter.unusedSimpArgs false
set_option linter.unusedVariables false
set_option maxRecDepth 100000
namespace Go.Proofs.YtjgbjhahmgegiaaGreatDoor
open Go.RowKit Go.Lib
theorem OpM.keep {w w' : World} {b : Nat} (h : OpM w b) (e : w'.heap[b]? = w.heap[b]?) : OpM w' b := by
  obtain ⟨es, clock, hk, F, hs, hD⟩ := h
  exact ⟨es, clock, e.trans hk, F, hs, hD⟩
theorem OpM.lt {w : World} {b : Nat} (h : OpM w b) : b < w.heap.size := World.ownsMap.lt h
theorem flt_op {op pa fr : ByteArray} {v : V} (h : fltF op pa fr v = 0) : ∃ f q n, opOf op = some (f, q, n) := by
  cases ho : opOf op with
  | none =>
    rw [fltF, if_pos (by rw [shpB, isF, ho]; rfl)] at h
    cases h
  | some r => exact ⟨r.1, r.2.1, r.2.2, rfl⟩
set_option maxHeartbeats 16000000 in
theorem pprint_any (l : List Stp) (S : Nat → Prop) (al : Option Addr) (cl bl ol : Nat) (w : World) (tp : Tp w) (hd : Headed al l.length cl bl ol) (hl : liesT w S l bl ol) (hS : ∀ b, S b → b < w.heap.size) (hwt : wtT l ≤ 2147483647) (hz : SzT l) :
    Calls Tryz.prog 14 #[.slice al l.length cl] w (PnPost (prnF l) S w) := by
  have HL := hmk hl
  have HW : Hid (∀ x ∈ l, x.2.2.2.wt ≤ 2147483648 ∧ x.2.1.size ≤ 2147483648 ∧ x.2.2.1.size ≤ 2147483648) := fun x hx => by have := wtT_mem hx; simp only [stW] at this; exact ⟨by omega, by omega, by omega⟩
  have HZ := hmk hz
  have HWT := hmk hwt
  clear hl hz hwt
  obtain ⟨i0, hi0, hz0, hz1, hz2⟩ := info_parts info25
  have hI : Hid (Tryz.prog.info? 25 = some i0 ∧ i0.zero = some (.agg #[.int .i64 0, .bool false, .int .i64 0, .string ⟨#[]⟩, .slice none 0 0, .slice none 0 0]) ∧ i0.size = 6 ∧ i0.bytes = 88) := ⟨hi0, hz0, hz1, hz2⟩
  clear hi0 hz0 hz1 hz2
  have hnl : l.length ≤ 9223372036854775807 := Nat.le_trans hd.le hd.max
  have NZ := heap_alloc_new w (.cells #[.int .i64 0, .bool false, .int .i64 0, .string ⟨#[]⟩, .slice none 0 0, .slice none 0 0] 25)
  have BZ0 : Below w.heap.size w (w.alloc (.cells #[.int .i64 0, .bool false, .int .i64 0, .string ⟨#[]⟩, .slice none 0 0, .slice none 0 0] 25)) := (Below.refl _ _).alloc (Nat.le_refl _) _
  have zz0 := alloc_size w (.cells #[.int .i64 0, .bool false, .int .i64 0, .string ⟨#[]⟩, .slice none 0 0, .slice none 0 0] 25)
  obtain ⟨wz, hwz⟩ : ∃ wz, wz = w.alloc (.cells #[.int .i64 0, .bool false, .int .i64 0, .string ⟨#[]⟩, .slice none 0 0, .slice none 0 0] 25) := ⟨_, rfl⟩
  rw [← hwz] at NZ BZ0 zz0
  by_cases h256 : 256 < l.length
  · have HF := hmk (prn_many h256)
    have yn : (256 : Int) < l.length := by omega
    clear h256
    go_enter Tryz.func14, Tryz.ntmps14
    go_upto_region 1 with fail
    rw [← hwz]
    clear hwz
    have r0 : wz.cell? ⟨w.heap.size, 0, none⟩ = some (.int .i64 0) := by rw [cell_of_block NZ]; rfl
    have r1 : wz.cell? ⟨w.heap.size, 1, none⟩ = some (.bool false) := by rw [cell_of_block NZ]; rfl
    have r2 : wz.cell? ⟨w.heap.size, 2, none⟩ = some (.int .i64 0) := by rw [cell_of_block NZ]; rfl
    have r3 : wz.cell? ⟨w.heap.size, 3, none⟩ = some (.string ⟨#[]⟩) := by rw [cell_of_block NZ]; rfl
    have r4 : wz.cell? ⟨w.heap.size, 4, none⟩ = some (.slice none 0 0) := by rw [cell_of_block NZ]; rfl
    have r5 : wz.cell? ⟨w.heap.size, 5, none⟩ = some (.slice none 0 0) := by rw [cell_of_block NZ]; rfl
    have rf : ∀ i, wz.frozen? ⟨w.heap.size, i, none⟩ = false := frozen_of_block NZ
    go_wp2_with fail
    (try simp only [Exit.inBlock, Exit.then])
    refine bodyPost_ret (v := .tuple #[.agg #[.int .i64 0, .bool false, .int .i64 0, .string ⟨#[]⟩, .slice none 0 0, .slice none 0 0], .int .i64 (-1), .int .i64 63]) ?_ rfl (by rw [HF.out]; exact ⟨[.int .i64 0, .bool false, .int .i64 0, .string ⟨#[]⟩, .slice none 0 0, .slice none 0 0], rfl, null_lies _ _, Below.set6 BZ0 (by omega) _ _ _ _ _ _ _ _ _ _ _ _⟩)
    rw [Go.results_ctt rfl]
    go_simp
  have HF := hmk (prn_rows h256)
  have y256 : ¬ (256 : Int) < l.length := by omega
  have hlen : l.length ≤ 256 := by omega
  clear h256
  have CO := hmk (operations_any wz)
  go_enter Tryz.func14, Tryz.ntmps14
  go_wp2_with fail
  rw [← hwz]
  clear hwz
  refine CO.out.mono ?_
  rintro e wo ⟨ob, rfl, hm, bo⟩
  have zo := bo.size
  have hob := hm.lt
  have zg := alloc_size wo (.cells #[.int .i64 4, .bool false, .int .i64 0, .string ⟨#[]⟩, .slice none 0 0, .slice none 0 0] 25)
  have N1 := heap_alloc_new wo (.cells #[.int .i64 4, .bool false, .int .i64 0, .string ⟨#[]⟩, .slice none 0 0, .slice none 0 0] 25)
  have bg : Below wo.heap.size wo (wo.alloc (.cells #[.int .i64 4, .bool false, .int .i64 0, .string ⟨#[]⟩, .slice none 0 0, .slice none 0 0] 25)) := (Below.refl _ _).alloc (Nat.le_refl _) _
  have NZ2 := (bg.block w.heap.size (by omega)).trans ((bo.block w.heap.size (by omega)).trans NZ)
  have B0 := BZ0.trans ((bo.trans (bg.mono (by omega))).mono (by omega))
  have hm0 := hm.below bg
  clear CO hm NZ BZ0
  go_upto_region 6 with fail
  obtain ⟨W0, hW0⟩ : ∃ W0, W0 = wo.alloc (.cells #[.int .i64 4, .bool false, .int .i64 0, .string ⟨#[]⟩, .slice none 0 0, .slice none 0 0] 25) := ⟨_, rfl⟩
  rw [← hW0] at zg N1 bg NZ2 B0 hm0 ⊢
  obtain ⟨gv, hgv⟩ : ∃ gv, wo.heap.size = gv := ⟨_, rfl⟩
  have zz : w.heap.size < gv ∧ ob < gv ∧ W0.heap.size = gv + 1 := ⟨by omega, by omega, by omega⟩
  rw [hgv] at N1 ⊢
  obtain ⟨h1g, h2g, h3g⟩ := zz
  clear hW0 hgv zg bg bo zo zz0 hob
  have HS : Hid (∀ b, S b → b < W0.heap.size ∧ b ≠ gv) := fun b hb => ⟨by have := hS b hb; omega, by have := hS b hb; omega⟩
  have HK : Hid (∀ W, W0.grownBy W (some gv) → W.heap[w.heap.size]? = some (.cells #[.int .i64 0, .bool false, .int .i64 0, .string ⟨#[]⟩, .slice none 0 0, .slice none 0 0] 25) ∧ liesT W S l bl ol ∧ Below w.heap.size w W ∧ OpM W ob ∧ Tp W) := fun W h => by
    have bW := B0.grown h (by omega) (fun r e => by have := Option.some.inj e; omega)
    exact ⟨(h.block _ (by omega) (fun e => by have := Option.some.inj e; omega)).trans NZ2, liesT_keep (fun x hx => bW.block x (hS x hx)) (fun _ h => h) HL.out, bW, hm0.keep (h.block _ (by omega) (fun e => by have := Option.some.inj e; omega)), tp.below bW tp.z⟩
  have X0 : Lst W0 gv S NoB [] (.slice none 0 0) W0 := ⟨World.grownBy.refl _ _, N1, OwnR.nil _ _, fun r h => by simp [Value.ownBlock] at h, fun b (h : NoB b) => False.elim h⟩
  clear HL N1 NZ2 hm0 tp
  go_loopw [19] (fun e wr => ∃ (j : Nat) (acc : List V) (SM : Nat → Prop) (slv : Value), j ≤ l.length ∧ e = .int .i64 (j : Int) ∧ Hid (acc = (l.take j).map wrV) ∧ Hid (prnL l 0 [] = prnL (l.drop j) j acc) ∧ Hid (Lst W0 gv S SM acc slv wr)) (fun e _ => l.length - (RowKit.intOf e).toNat)
  case atStart => exact ⟨0, [], NoB, _, by omega, rfl, by show _ = _; simp, rfl, X0⟩
  case round =>
    clear X0
    obtain ⟨j, acc, SM, slv, hj, rfl, HA, HP, X⟩ := hrel
    have zr := X.out.gr.size
    by_cases hjl : j < l.length
    · have y1 : (j : Int) < l.length := by omega
      obtain ⟨_, LT, BW, _, _⟩ := HK.out wr X.out.gr
      obtain ⟨hSb, csj, hrow, hlj⟩ := LT j hjl
      obtain ⟨s1, s2, s3⟩ := HZ.out _ (List.getElem_mem hjl)
      obtain ⟨x1, x2, x3⟩ := HW.out _ (List.getElem_mem hjl)
      obtain rfl : al = some ⟨bl, ol, none⟩ := hd.at_.resolve_left (by omega)
      have HG := hmk (fun h => prn_go (l := l) (acc := acc) hjl h)
      have HX := hmk (fun h => prn_bad (l := l) (acc := acc) hjl h)
      have HT : Hid (l.take (j + 1) = l.take j ++ [l[j]]) := by show _ = _; rw [List.take_succ_eq_append_getElem hjl]
      obtain ⟨x, hx⟩ : ∃ x, l[j] = x := ⟨_, rfl⟩
      rw [hx] at hrow hlj HG HX HT s1 s2 s3 x1 x2 x3
      obtain ⟨op, pa, fr, v⟩ := x
      dsimp only at hrow hlj s1 s2 s3 x1 x2 x3
      obtain ⟨ek, eb, ei, es, eal, enl, ecl, eam, enm, ecm, rfl⟩ := V.ten hlj
      have HLV : Hid (∀ W', Below w.heap.size w W' → v.lies false W' S [.int .i64 ek, .bool eb, .int .i64 ei, .string es, .slice eal enl ecl, .slice eam enm ecm]) := fun W' h => V.lies_keep (fun h => h) (fun y hy => (h.block y (hS y hy)).trans (BW.block y (hS y hy)).symm) (fun _ h => h) _ hlj
      have HSW : Hid (∀ W', Below w.heap.size w W' → ∀ b, S b → b < W'.heap.size) := fun W' h b hb => by have := hS b hb; have := h.size; omega
      obtain ⟨q0, q1, q2, q3, q4, q5, q6, q7, q8⟩ := row9 hrow
      have hza := alloc_size wr (.cells #[.string op, .string pa, .string fr, .int .i64 ek, .bool eb, .int .i64 ei, .string es, .slice eal enl ecl, .slice eam enm ecm] 51)
      have HNE : ¬ some wr.heap.size = slv.ownBlock := fun e => by have := (X.out.ow.lt e.symm).2; omega
      have ba : Below wr.heap.size wr (wr.alloc (.cells #[.string op, .string pa, .string fr, .int .i64 ek, .bool eb, .int .i64 ei, .string es, .slice eal enl ecl, .slice eam enm ecm] 51)) := (Below.refl _ _).alloc (Nat.le_refl _) _
      have NA := heap_alloc_new wr (.cells #[.string op, .string pa, .string fr, .int .i64 ek, .bool eb, .int .i64 ei, .string es, .slice eal enl ecl, .slice eam enm ecm] 51)
      have XA0 := hmk (X.out.below (by omega) ba)
      obtain ⟨_, _, BWA, OMA, TPA⟩ := HK.out _ XA0.out.gr
      have CF := pcheck_any ob op pa fr v false S _ (wr.alloc (.cells #[.string op, .string pa, .string fr, .int .i64 ek, .bool eb, .int .i64 ei, .string es, .slice eal enl ecl, .slice eam enm ecm] 51)) OMA (HLV.out _ BWA) (HSW.out _ BWA) x1 s1 x2 x3 TPA
      obtain ⟨n, hn⟩ : ∃ n, fltF op pa fr v = n := ⟨_, rfl⟩
      have HN : Hid (fltF op pa fr v = n) := hn
      rw [hn] at CF
      have CFH := hmk CF
      clear CF hn hrow hlj LT hx OMA TPA X
      go_upto_region 8 with fail
      clear q0 q1 q2 q3 q4 q5 q6 q7 q8
      generalize (wr.alloc (.cells #[.string op, .string pa, .string fr, .int .i64 ek, .bool eb, .int .i64 ei, .string es, .slice eal enl ecl, .slice eam enm ecm] 51)) = wa at *
      have a0 : wa.cell? ⟨wr.heap.size, 0, none⟩ = some (.string op) := by rw [cell_of_block NA]; rfl
      have a1 : wa.cell? ⟨wr.heap.size, 1, none⟩ = some (.string pa) := by rw [cell_of_block NA]; rfl
      have a2 : wa.cell? ⟨wr.heap.size, 2, none⟩ = some (.string fr) := by rw [cell_of_block NA]; rfl
      have a3 : wa.cell? ⟨wr.heap.size, 3, none⟩ = some (.int .i64 ek) := by rw [cell_of_block NA]; rfl
      have a4 : wa.cell? ⟨wr.heap.size, 4, none⟩ = some (.bool eb) := by rw [cell_of_block NA]; rfl
      have a5 : wa.cell? ⟨wr.heap.size, 5, none⟩ = some (.int .i64 ei) := by rw [cell_of_block NA]; rfl
      have a6 : wa.cell? ⟨wr.heap.size, 6, none⟩ = some (.string es) := by rw [cell_of_block NA]; rfl
      have a7 : wa.cell? ⟨wr.heap.size, 7, none⟩ = some (.slice eal enl ecl) := by rw [cell_of_block NA]; rfl
      have a8 : wa.cell? ⟨wr.heap.size, 8, none⟩ = some (.slice eam enm ecm) := by rw [cell_of_block NA]; rfl
      go_wp2_with fail
      refine CFH.out.mono ?_
      rintro e w1 ⟨rfl, b1⟩
      have z1 := b1.size
      have X1 := hmk (XA0.out.below (by omega) b1)
      have NA1 := (b1.block wr.heap.size (by omega)).trans NA
      obtain ⟨NR, _, BW1, OM1, _⟩ := HK.out w1 X1.out.gr
      clear CFH a0 a1 a2 a3 a4 a5 a6 a7 a8 NA XA0
      by_cases hn : n = 0
      rotate_left
      · have yn : ((n : Int) != 0) = true := by simp; omega
        have yn' : ((n : Int) == 0) = false := by simp; omega
        have HF2 : Hid (prnF l = (nullV, (j : Int), n)) := by show _ = _; rw [HF.out, HP.out, HX.out (show stE (op, pa, fr, v) ≠ 0 from (fun e => hn (HN.out.symm.trans e)))]; exact congrArg (fun z => (nullV, (j : Int), z)) HN.out
        clear HG HX NA1 OM1
        have r0 : w1.cell? ⟨w.heap.size, 0, none⟩ = some (.int .i64 0) := by rw [cell_of_block NR]; rfl
        have r1 : w1.cell? ⟨w.heap.size, 1, none⟩ = some (.bool false) := by rw [cell_of_block NR]; rfl
        have r2 : w1.cell? ⟨w.heap.size, 2, none⟩ = some (.int .i64 0) := by rw [cell_of_block NR]; rfl
        have r3 : w1.cell? ⟨w.heap.size, 3, none⟩ = some (.string ⟨#[]⟩) := by rw [cell_of_block NR]; rfl
        have r4 : w1.cell? ⟨w.heap.size, 4, none⟩ = some (.slice none 0 0) := by rw [cell_of_block NR]; rfl
        have r5 : w1.cell? ⟨w.heap.size, 5, none⟩ = some (.slice none 0 0) := by rw [cell_of_block NR]; rfl
        have rf : ∀ i, w1.frozen? ⟨w.heap.size, i, none⟩ = false := frozen_of_block NR
        go_wp2_with fail
        (try simp only [Exit.inBlock, Exit.then])
        refine bodyPost_ret (v := .tuple #[.agg #[.int .i64 0, .bool false, .int .i64 0, .string ⟨#[]⟩, .slice none 0 0, .slice none 0 0], .int .i64 (j), .int .i64 n]) ?_ rfl (by rw [HF2.out]; exact ⟨[.int .i64 0, .bool false, .int .i64 0, .string ⟨#[]⟩, .slice none 0 0, .slice none 0 0], rfl, null_lies _ _, Below.set6 BW1 (by omega) _ _ _ _ _ _ _ _ _ _ _ _⟩)
        rw [Go.results_ctt rfl]
        go_simp
      subst hn
      obtain ⟨f, q, nn, ho⟩ := flt_op HN.out
      have HP2 : Hid (prnL l 0 [] = prnL (l.drop (j + 1)) (j + 1) (acc ++ [wrV (op, pa, fr, v)])) := HP.out.trans (HG.out HN.out)
      have HA2 : Hid (acc ++ [wrV (op, pa, fr, v)] = (l.take (j + 1)).map wrV) := by show _ = _; rw [HA.out, HT.out, List.map_append]; rfl
      have HCW : Hid (∀ W', Below w1.heap.size w1 W' → Calls Tryz.prog 26 #[.map (some ob), .agg (.string op :: .string pa :: .string fr :: [.int .i64 ek, .bool eb, .int .i64 ei, .string es, .slice eal enl ecl, .slice eam enm ecm]).toArray] W' (TvPost (wrV (op, pa, fr, v)) S W')) := fun W' h => by
        have hB := BW1.trans (h.mono BW1.size)
        exact pwritten_any ob op pa fr v f q nn S _ W' (OM1.below h) ho (HLV.out W' hB) (HSW.out W' hB) s1 s2 s3
      obtain ⟨y, hy⟩ : ∃ y, wrV (op, pa, fr, v) = y := ⟨_, rfl⟩
      rw [hy] at HCW HP2 HA2
      clear HG HX hy NR OM1 ho
      have hac : acc.length = j := by rw [HA.out]; simp; omega
      have hll : (acc.map some).length = j := by rw [List.length_map]; exact hac
      have hn4 : (acc.map some).length ≤ 4294967296 := by rw [hll]; omega
      obtain ⟨jj, hjj⟩ : ∃ jj, j + 1 = jj := ⟨_, rfl⟩
      have HLL : Hid ((acc.map some).length + 1 = jj) := by show _ = _; rw [hll]; exact hjj
      have HJ := hmk hjj
      rw [hjj] at HP2 HA2
      clear hac hll hjj
      have a0 : w1.cell? ⟨wr.heap.size, 0, none⟩ = some (.string op) := by rw [cell_of_block NA1]; rfl
      have a1 : w1.cell? ⟨wr.heap.size, 1, none⟩ = some (.string pa) := by rw [cell_of_block NA1]; rfl
      have a2 : w1.cell? ⟨wr.heap.size, 2, none⟩ = some (.string fr) := by rw [cell_of_block NA1]; rfl
      have a3 : w1.cell? ⟨wr.heap.size, 3, none⟩ = some (.int .i64 ek) := by rw [cell_of_block NA1]; rfl
      have a4 : w1.cell? ⟨wr.heap.size, 4, none⟩ = some (.bool eb) := by rw [cell_of_block NA1]; rfl
      have a5 : w1.cell? ⟨wr.heap.size, 5, none⟩ = some (.int .i64 ei) := by rw [cell_of_block NA1]; rfl
      have a6 : w1.cell? ⟨wr.heap.size, 6, none⟩ = some (.string es) := by rw [cell_of_block NA1]; rfl
      have a7 : w1.cell? ⟨wr.heap.size, 7, none⟩ = some (.slice eal enl ecl) := by rw [cell_of_block NA1]; rfl
      have a8 : w1.cell? ⟨wr.heap.size, 8, none⟩ = some (.slice eam enm ecm) := by rw [cell_of_block NA1]; rfl
      have HM4 : Hid (∀ W', Below w1.heap.size w1 W' → W'.cell? ⟨gv, 4, none⟩ = some slv) := fun W' h => by rw [cell_of_block (X1.out.below (by omega) h).bx]; rfl
      have HAA : Hid (∀ b, (fun b => b = wr.heap.size) b → b < w1.heap.size ∧ b ≠ gv ∧ some b ≠ slv.ownBlock) := fun b hb => by
        subst hb
        exact ⟨by omega, by omega, fun e => HNE e⟩
      have KP : Hid (∀ W', Below w1.heap.size w1 W' → KeepB w1 (fun b => b = wr.heap.size) W') := fun W' hb => (KeepB.refl w1 _).below hb (fun b h => (HAA.out b h).1)
      have BD : Hid (Below w1.heap.size w1 w1.drew) := (Below.refl _ _).drew
      have HOW : Hid (∀ r, slv.ownBlock = some r → W0.heap.size ≤ r ∧ r < w1.heap.size) := fun r e => ⟨X1.out.fl r e, (X1.out.ow.lt e).2⟩
      clear NA1
      go_upto_region 11 with fail
      refine wp_region_held_drew (S := KeepB w1 (fun b => b = wr.heap.size)) (by kernel_rfl) (KeepB.drew _ _) (fun hHeld => ?_)
      (refine wpAnyH_take (i := 0) (v := ?_) rfl (by kernel_rfl) (by kernel_rfl) (by kernel_rfl) (fun _ _ _ h => h) (Or.inl ⟨by kernel_rfl, ?_⟩) (by assumption) ?_; rotate_left 1; (intro W0 hSw; (try dsimp only at hSw); go_simp; (try with_reducible rfl)); (try simp only [Act.put, List.setIfInBounds_toArray, List.set_cons_zero, List.set_cons_succ]))
      (refine wpAnyH_take (i := 2) (v := ?_) rfl (by kernel_rfl) (by kernel_rfl) (by kernel_rfl) (fun _ _ _ h => h) (Or.inl ⟨by kernel_rfl, ?_⟩) (by assumption) ?_; rotate_left 1; (intro W0 hSw; (try dsimp only at hSw); go_simp; (try with_reducible rfl)); (try simp only [Act.put, List.setIfInBounds_toArray, List.set_cons_zero, List.set_cons_succ]))
      (refine wpAnyH_take (i := 3) (v := ?_) rfl (by kernel_rfl) (by kernel_rfl) (by kernel_rfl) (fun _ _ _ h => h) (Or.inl ⟨by kernel_rfl, ?_⟩) (by assumption) ?_; rotate_left 1; (intro W0 hSw; obtain ⟨b0, b1_, b2_, b3_, b4_, b5_, b6_, b7_, b8_⟩ := (⟨hSw.cell rfl a0, hSw.cell rfl a1, hSw.cell rfl a2, hSw.cell rfl a3, hSw.cell rfl a4, hSw.cell rfl a5, hSw.cell rfl a6, hSw.cell rfl a7, hSw.cell rfl a8⟩ : _ ∧ _ ∧ _ ∧ _ ∧ _ ∧ _ ∧ _ ∧ _ ∧ _); go_simp; (try with_reducible rfl)); (try simp only [Act.put, List.setIfInBounds_toArray, List.set_cons_zero, List.set_cons_succ]))
      refine wpAnyH_ready (rs := [1, 4]) (by kernel_rfl) (by simp) ?_
      refine AllReadyH.cons rfl (fun K hK => ?_) (AllReadyH.cons rfl (fun K hK => ?_) AllReadyH.nil)
      · have m4 := HM4.out _ BD.out
        go_simp
        refine hK.out _ _ (KP.out _ BD.out) (fun hHeld => ?_)
        clear hK K m4
        (try simp only [Act.put, List.setIfInBounds_toArray, List.set_cons_zero, List.set_cons_succ])
        refine wpAnyH_ready (rs := [4]) (by kernel_rfl) (by simp) ?_
        refine AllReadyH.cons rfl (fun K hK => ?_) AllReadyH.nil
        go_simp
        refine (HCW.out _ BD.out).mono ?_
        rintro e w3 ⟨csu, rfl, hlu, b3⟩
        obtain ⟨uk, ub, ui, us, ual, unl, ucl, uam, unm, ucm, rfl⟩ := V.ten hlu
        have B3 : Below w1.heap.size w1 w3 := (BD.out).trans (b3.mono (BD.out).size)
        have HLU := hmk hlu
        clear hlu
        go_wp2_with fail
        refine hK.out _ _ (KP.out _ B3) (fun hHeld => ?_)
        clear hK K
        (try simp only [Act.put, List.setIfInBounds_toArray, List.set_cons_zero, List.set_cons_succ])
        refine wpAnyH_ready (rs := [5]) (by kernel_rfl) (by simp) ?_
        refine AllReadyH.cons rfl (fun K hK => ?_) AllReadyH.nil
        have bA : Below w3.heap.size w3 (w3.alloc (.cells #[.int .i64 uk, .bool ub, .int .i64 ui, .string us, .slice ual unl ucl, .slice uam unm ucm] 25)) := (Below.refl _ _).alloc (Nat.le_refl _) _
        have BA : Below w1.heap.size w1 (w3.alloc (.cells #[.int .i64 uk, .bool ub, .int .i64 ui, .string us, .slice ual unl ucl, .slice uam unm ucm] 25)) := B3.trans (bA.mono B3.size)
        go_simp
        refine hK.out _ _ (KP.out _ BA) (fun hHeld => ?_)
        clear hK K
        (try simp only [Act.put, List.setIfInBounds_toArray, List.set_cons_zero, List.set_cons_succ])
        have XA := hmk (X1.out.below (show gv < W0.heap.size by omega) BA)
        have zA := alloc_size w3 (.cells #[.int .i64 uk, .bool ub, .int .i64 ui, .string us, .slice ual unl ucl, .slice uam unm ucm] 25)
        have z3 := B3.size
        have HE : Hid (EL false (some y) (w3.alloc (.cells #[.int .i64 uk, .bool ub, .int .i64 ui, .string us, .slice ual unl ucl, .slice uam unm ucm] 25)) (Tw S w1.drew w3) [.int .i64 uk, .bool ub, .int .i64 ui, .string us, .slice ual unl ucl, .slice uam unm ucm]) := V.lies_keep (fun h => h) (fun y hy => bA.block y (by rcases hy with h | h; (have := hS y h; have := BW1.size; omega); exact h.2)) (fun _ h => h) _ HLU.out
        have HSX : Hid (∀ b, Tw S w1.drew w3 b → 0 ≤ b ∧ b < (w3.alloc (.cells #[.int .i64 uk, .bool ub, .int .i64 ui, .string us, .slice ual unl ucl, .slice uam unm ucm] 25)).heap.size ∧ some b ≠ slv.ownBlock) := fun b hb => by
          rcases hb with h | h
          · have := hS b h
            have := BW1.size
            exact ⟨Nat.zero_le _, by omega, fun e => by have := (HOW.out b e.symm).1; omega⟩
          · have h1 : w1.heap.size ≤ b := h.1
            exact ⟨Nat.zero_le _, by have := h.2; omega, fun e => by have := (HOW.out b e.symm).2; omega⟩
        refine wpAnyH_ready (rs := [6]) (by kernel_rfl) (by simp) ?_
        refine AllReadyH.cons rfl (fun K hK => ?_) AllReadyH.nil
        refine step_push (keepL false) rfl (.tmp 33) (.tmp 37) 22 rfl 0 i0 _ 88 Tryz.underlying22 hI.out.1 hI.out.2.1 hI.out.2.2.1 hI.out.2.2.2 rfl (by decide) (by decide) slv (some y) rfl XA.out.ow w3.heap.size 1 (0, 0) rfl (heap_alloc_new w3 _) rfl one6 HE.out HSX.out hn4 (Nat.zero_le _) ?_
        intro g cap w9 o5 g5 e5
        rw [HLL.out] at o5 ⊢
        have X9 := hmk (XA.out.store (SX := Tw S w1.drew w3) (l' := acc ++ [y]) (by omega) HS.out (by rw [List.map_append]; exact o5) g5 (by first | exact e5 | (rw [alloc_size]; exact e5)) (fun b hb => hb.imp id (fun h => by have h1 : w1.heap.size ≤ b := h.1; have := X1.out.gr.size; omega)))
        have f5 : w9.heap[gv]? = _ := (g5.block gv (Nat.lt_of_lt_of_le (show gv < W0.heap.size by omega) XA.out.gr.size) (fun e => by have := XA.out.fl _ e.symm; omega)).trans XA.out.bx
        have e6 : w9.cell? ⟨gv, 4, none⟩ = some slv := by rw [cell_of_block f5]; rfl
        have e7 : w9.frozen? ⟨gv, 4, none⟩ = false := frozen_of_block f5 4
        have K5 : Hid (KeepB w1 (fun b => b = wr.heap.size) w9) := (KP.out _ BA).grown g5 (fun b hb => ⟨Nat.lt_of_lt_of_le (HAA.out b hb).1 BA.size, (HAA.out b hb).2.2⟩)
        have K6 : Hid (∀ u, KeepB w1 (fun b => b = wr.heap.size) (w9.setCell ⟨gv, 4, none⟩ u)) := fun u => K5.out.set (fun b hb => (HAA.out b hb).2.1) 4 u
        refine hK.out _ _ K5.out (fun hHeld => ?_)
        clear hK K f5
        (try simp only [Act.put, List.setIfInBounds_toArray, List.set_cons_zero, List.set_cons_succ])
        (refine wpAnyH_take (i := 7) (v := ?_) rfl (by kernel_rfl) (by kernel_rfl) (by kernel_rfl) (fun _ _ _ h => h) (Or.inl ⟨by kernel_rfl, ?_⟩) (by assumption) ?_; rotate_left 1; (intro W0 hSw; (try dsimp only at hSw); go_simp; (try with_reducible rfl)); (try simp only [Act.put, List.setIfInBounds_toArray, List.set_cons_zero, List.set_cons_succ]))
        refine wpAnyH_ready (rs := [8]) (by kernel_rfl) (by simp) ?_
        refine AllReadyH.cons rfl (fun K hK => ?_) AllReadyH.nil
        go_simp
        refine hK.out _ _ (K6.out _) (fun hHeld => ?_)
        clear hK K
        (try simp only [Act.put, List.setIfInBounds_toArray, List.set_cons_zero, List.set_cons_succ])
        refine wpAnyH_done (by kernel_rfl) ?_ _
        (try dsimp only [Act.put, List.getElem_toArray, List.getElem_cons_succ, List.getElem_cons_zero, List.setIfInBounds_toArray, List.set_cons_zero, List.set_cons_succ])
        clear hHeld K5 K6 e6 e7 XA HE HSX o5 g5 e5
        clear HM4 HAA KP BD hn4 HLL a0 a1 a2 a3 a4 a5 a6 a7 a8 HCW HOW
        go_wp2_with fail
        go_roundw
        case rel => exact ⟨jj, _, _, _, by have := HJ.out; omega, by rw [← HJ.out]; go_num, HA2, HP2, X9⟩
        case measure => have := HJ.out; simp [RowKit.intOf]; omega
      · go_simp
        refine (HCW.out _ BD.out).mono ?_
        rintro e w3 ⟨csu, rfl, hlu, b3⟩
        obtain ⟨uk, ub, ui, us, ual, unl, ucl, uam, unm, ucm, rfl⟩ := V.ten hlu
        have B3 : Below w1.heap.size w1 w3 := (BD.out).trans (b3.mono (BD.out).size)
        have HLU := hmk hlu
        clear hlu
        go_wp2_with fail
        refine hK.out _ _ (KP.out _ B3) (fun hHeld => ?_)
        clear hK K
        (try simp only [Act.put, List.setIfInBounds_toArray, List.set_cons_zero, List.set_cons_succ])
        refine wpAnyH_ready (rs := [1, 5]) (by kernel_rfl) (by simp) ?_
        refine AllReadyH.cons rfl (fun K hK => ?_) (AllReadyH.cons rfl (fun K hK => ?_) AllReadyH.nil)
        · have m4 := HM4.out _ B3
          go_simp
          refine hK.out _ _ (KP.out _ B3) (fun hHeld => ?_)
          clear hK K m4
          (try simp only [Act.put, List.setIfInBounds_toArray, List.set_cons_zero, List.set_cons_succ])
          refine wpAnyH_ready (rs := [5]) (by kernel_rfl) (by simp) ?_
          refine AllReadyH.cons rfl (fun K hK => ?_) AllReadyH.nil
          have bA : Below w3.heap.size w3 (w3.alloc (.cells #[.int .i64 uk, .bool ub, .int .i64 ui, .string us, .slice ual unl ucl, .slice uam unm ucm] 25)) := (Below.refl _ _).alloc (Nat.le_refl _) _
          have BA : Below w1.heap.size w1 (w3.alloc (.cells #[.int .i64 uk, .bool ub, .int .i64 ui, .string us, .slice ual unl ucl, .slice uam unm ucm] 25)) := B3.trans (bA.mono B3.size)
          go_simp
          refine hK.out _ _ (KP.out _ BA) (fun hHeld => ?_)
          clear hK K
          (try simp only [Act.put, List.setIfInBounds_toArray, List.set_cons_zero, List.set_cons_succ])
          have XA := hmk (X1.out.below (show gv < W0.heap.size by omega) BA)
          have zA := alloc_size w3 (.cells #[.int .i64 uk, .bool ub, .int .i64 ui, .string us, .slice ual unl ucl, .slice uam unm ucm] 25)
          have z3 := B3.size
          have HE : Hid (EL false (some y) (w3.alloc (.cells #[.int .i64 uk, .bool ub, .int .i64 ui, .string us, .slice ual unl ucl, .slice uam unm ucm] 25)) (Tw S w1.drew w3) [.int .i64 uk, .bool ub, .int .i64 ui, .string us, .slice ual unl ucl, .slice uam unm ucm]) := V.lies_keep (fun h => h) (fun y hy => bA.block y (by rcases hy with h | h; (have := hS y h; have := BW1.size; omega); exact h.2)) (fun _ h => h) _ HLU.out
          have HSX : Hid (∀ b, Tw S w1.drew w3 b → 0 ≤ b ∧ b < (w3.alloc (.cells #[.int .i64 uk, .bool ub, .int .i64 ui, .string us, .slice ual unl ucl, .slice uam unm ucm] 25)).heap.size ∧ some b ≠ slv.ownBlock) := fun b hb => by
            rcases hb with h | h
            · have := hS b h
              have := BW1.size
              exact ⟨Nat.zero_le _, by omega, fun e => by have := (HOW.out b e.symm).1; omega⟩
            · have h1 : w1.heap.size ≤ b := h.1
              exact ⟨Nat.zero_le _, by have := h.2; omega, fun e => by have := (HOW.out b e.symm).2; omega⟩
          refine wpAnyH_ready (rs := [6]) (by kernel_rfl) (by simp) ?_
          refine AllReadyH.cons rfl (fun K hK => ?_) AllReadyH.nil
          refine step_push (keepL false) rfl (.tmp 33) (.tmp 37) 22 rfl 0 i0 _ 88 Tryz.underlying22 hI.out.1 hI.out.2.1 hI.out.2.2.1 hI.out.2.2.2 rfl (by decide) (by decide) slv (some y) rfl XA.out.ow w3.heap.size 1 (0, 0) rfl (heap_alloc_new w3 _) rfl one6 HE.out HSX.out hn4 (Nat.zero_le _) ?_
          intro g cap w9 o5 g5 e5
          rw [HLL.out] at o5 ⊢
          have X9 := hmk (XA.out.store (SX := Tw S w1.drew w3) (l' := acc ++ [y]) (by omega) HS.out (by rw [List.map_append]; exact o5) g5 (by first | exact e5 | (rw [alloc_size]; exact e5)) (fun b hb => hb.imp id (fun h => by have h1 : w1.heap.size ≤ b := h.1; have := X1.out.gr.size; omega)))
          have f5 : w9.heap[gv]? = _ := (g5.block gv (Nat.lt_of_lt_of_le (show gv < W0.heap.size by omega) XA.out.gr.size) (fun e => by have := XA.out.fl _ e.symm; omega)).trans XA.out.bx
          have e6 : w9.cell? ⟨gv, 4, none⟩ = some slv := by rw [cell_of_block f5]; rfl
          have e7 : w9.frozen? ⟨gv, 4, none⟩ = false := frozen_of_block f5 4
          have K5 : Hid (KeepB w1 (fun b => b = wr.heap.size) w9) := (KP.out _ BA).grown g5 (fun b hb => ⟨Nat.lt_of_lt_of_le (HAA.out b hb).1 BA.size, (HAA.out b hb).2.2⟩)
          have K6 : Hid (∀ u, KeepB w1 (fun b => b = wr.heap.size) (w9.setCell ⟨gv, 4, none⟩ u)) := fun u => K5.out.set (fun b hb => (HAA.out b hb).2.1) 4 u
          refine hK.out _ _ K5.out (fun hHeld => ?_)
          clear hK K f5
          (try simp only [Act.put, List.setIfInBounds_toArray, List.set_cons_zero, List.set_cons_succ])
          (refine wpAnyH_take (i := 7) (v := ?_) rfl (by kernel_rfl) (by kernel_rfl) (by kernel_rfl) (fun _ _ _ h => h) (Or.inl ⟨by kernel_rfl, ?_⟩) (by assumption) ?_; rotate_left 1; (intro W0 hSw; (try dsimp only at hSw); go_simp; (try with_reducible rfl)); (try simp only [Act.put, List.setIfInBounds_toArray, List.set_cons_zero, List.set_cons_succ]))
          refine wpAnyH_ready (rs := [8]) (by kernel_rfl) (by simp) ?_
          refine AllReadyH.cons rfl (fun K hK => ?_) AllReadyH.nil
          go_simp
          refine hK.out _ _ (K6.out _) (fun hHeld => ?_)
          clear hK K
          (try simp only [Act.put, List.setIfInBounds_toArray, List.set_cons_zero, List.set_cons_succ])
          refine wpAnyH_done (by kernel_rfl) ?_ _
          (try dsimp only [Act.put, List.getElem_toArray, List.getElem_cons_succ, List.getElem_cons_zero, List.setIfInBounds_toArray, List.set_cons_zero, List.set_cons_succ])
          clear hHeld K5 K6 e6 e7 XA HE HSX o5 g5 e5
          clear HM4 HAA KP BD hn4 HLL a0 a1 a2 a3 a4 a5 a6 a7 a8 HCW HOW
          go_wp2_with fail
          go_roundw
          case rel => exact ⟨jj, _, _, _, by have := HJ.out; omega, by rw [← HJ.out]; go_num, HA2, HP2, X9⟩
          case measure => have := HJ.out; simp [RowKit.intOf]; omega
        · have bA : Below w3.heap.size w3 (w3.alloc (.cells #[.int .i64 uk, .bool ub, .int .i64 ui, .string us, .slice ual unl ucl, .slice uam unm ucm] 25)) := (Below.refl _ _).alloc (Nat.le_refl _) _
          have BA : Below w1.heap.size w1 (w3.alloc (.cells #[.int .i64 uk, .bool ub, .int .i64 ui, .string us, .slice ual unl ucl, .slice uam unm ucm] 25)) := B3.trans (bA.mono B3.size)
          go_simp
          refine hK.out _ _ (KP.out _ BA) (fun hHeld => ?_)
          clear hK K
          (try simp only [Act.put, List.setIfInBounds_toArray, List.set_cons_zero, List.set_cons_succ])
          refine wpAnyH_ready (rs := [1]) (by kernel_rfl) (by simp) ?_
          refine AllReadyH.cons rfl (fun K hK => ?_) AllReadyH.nil
          have m4 := HM4.out _ BA
          go_simp
          refine hK.out _ _ (KP.out _ BA) (fun hHeld => ?_)
          clear hK K m4
          (try simp only [Act.put, List.setIfInBounds_toArray, List.set_cons_zero, List.set_cons_succ])
          have XA := hmk (X1.out.below (show gv < W0.heap.size by omega) BA)
          have zA := alloc_size w3 (.cells #[.int .i64 uk, .bool ub, .int .i64 ui, .string us, .slice ual unl ucl, .slice uam unm ucm] 25)
          have z3 := B3.size
          have HE : Hid (EL false (some y) (w3.alloc (.cells #[.int .i64 uk, .bool ub, .int .i64 ui, .string us, .slice ual unl ucl, .slice uam unm ucm] 25)) (Tw S w1.drew w3) [.int .i64 uk, .bool ub, .int .i64 ui, .string us, .slice ual unl ucl, .slice uam unm ucm]) := V.lies_keep (fun h => h) (fun y hy => bA.block y (by rcases hy with h | h; (have := hS y h; have := BW1.size; omega); exact h.2)) (fun _ h => h) _ HLU.out
          have HSX : Hid (∀ b, Tw S w1.drew w3 b → 0 ≤ b ∧ b < (w3.alloc (.cells #[.int .i64 uk, .bool ub, .int .i64 ui, .string us, .slice ual unl ucl, .slice uam unm ucm] 25)).heap.size ∧ some b ≠ slv.ownBlock) := fun b hb => by
            rcases hb with h | h
            · have := hS b h
              have := BW1.size
              exact ⟨Nat.zero_le _, by omega, fun e => by have := (HOW.out b e.symm).1; omega⟩
            · have h1 : w1.heap.size ≤ b := h.1
              exact ⟨Nat.zero_le _, by have := h.2; omega, fun e => by have := (HOW.out b e.symm).2; omega⟩
          refine wpAnyH_ready (rs := [6]) (by kernel_rfl) (by simp) ?_
          refine AllReadyH.cons rfl (fun K hK => ?_) AllReadyH.nil
          refine step_push (keepL false) rfl (.tmp 33) (.tmp 37) 22 rfl 0 i0 _ 88 Tryz.underlying22 hI.out.1 hI.out.2.1 hI.out.2.2.1 hI.out.2.2.2 rfl (by decide) (by decide) slv (some y) rfl XA.out.ow w3.heap.size 1 (0, 0) rfl (heap_alloc_new w3 _) rfl one6 HE.out HSX.out hn4 (Nat.zero_le _) ?_
          intro g cap w9 o5 g5 e5
          rw [HLL.out] at o5 ⊢
          have X9 := hmk (XA.out.store (SX := Tw S w1.drew w3) (l' := acc ++ [y]) (by omega) HS.out (by rw [List.map_append]; exact o5) g5 (by first | exact e5 | (rw [alloc_size]; exact e5)) (fun b hb => hb.imp id (fun h => by have h1 : w1.heap.size ≤ b := h.1; have := X1.out.gr.size; omega)))
          have f5 : w9.heap[gv]? = _ := (g5.block gv (Nat.lt_of_lt_of_le (show gv < W0.heap.size by omega) XA.out.gr.size) (fun e => by have := XA.out.fl _ e.symm; omega)).trans XA.out.bx
          have e6 : w9.cell? ⟨gv, 4, none⟩ = some slv := by rw [cell_of_block f5]; rfl
          have e7 : w9.frozen? ⟨gv, 4, none⟩ = false := frozen_of_block f5 4
          have K5 : Hid (KeepB w1 (fun b => b = wr.heap.size) w9) := (KP.out _ BA).grown g5 (fun b hb => ⟨Nat.lt_of_lt_of_le (HAA.out b hb).1 BA.size, (HAA.out b hb).2.2⟩)
          have K6 : Hid (∀ u, KeepB w1 (fun b => b = wr.heap.size) (w9.setCell ⟨gv, 4, none⟩ u)) := fun u => K5.out.set (fun b hb => (HAA.out b hb).2.1) 4 u
          refine hK.out _ _ K5.out (fun hHeld => ?_)
          clear hK K f5
          (try simp only [Act.put, List.setIfInBounds_toArray, List.set_cons_zero, List.set_cons_succ])
          (refine wpAnyH_take (i := 7) (v := ?_) rfl (by kernel_rfl) (by kernel_rfl) (by kernel_rfl) (fun _ _ _ h => h) (Or.inl ⟨by kernel_rfl, ?_⟩) (by assumption) ?_; rotate_left 1; (intro W0 hSw; (try dsimp only at hSw); go_simp; (try with_reducible rfl)); (try simp only [Act.put, List.setIfInBounds_toArray, List.set_cons_zero, List.set_cons_succ]))
          refine wpAnyH_ready (rs := [8]) (by kernel_rfl) (by simp) ?_
          refine AllReadyH.cons rfl (fun K hK => ?_) AllReadyH.nil
          go_simp
          refine hK.out _ _ (K6.out _) (fun hHeld => ?_)
          clear hK K
          (try simp only [Act.put, List.setIfInBounds_toArray, List.set_cons_zero, List.set_cons_succ])
          refine wpAnyH_done (by kernel_rfl) ?_ _
          (try dsimp only [Act.put, List.getElem_toArray, List.getElem_cons_succ, List.getElem_cons_zero, List.setIfInBounds_toArray, List.set_cons_zero, List.set_cons_succ])
          clear hHeld K5 K6 e6 e7 XA HE HSX o5 g5 e5
          clear HM4 HAA KP BD hn4 HLL a0 a1 a2 a3 a4 a5 a6 a7 a8 HCW HOW
          go_wp2_with fail
          go_roundw
          case rel => exact ⟨jj, _, _, _, by have := HJ.out; omega, by rw [← HJ.out]; go_num, HA2, HP2, X9⟩
          case measure => have := HJ.out; simp [RowKit.intOf]; omega
    · obtain rfl : j = l.length := by omega
      have y1 : ¬ (l.length : Int) < l.length := by omega
      obtain ⟨NR, _, BW, _, TPr⟩ := HK.out wr X.out.gr
      obtain ⟨ta, tc, tb, to_, hse, hdl, hLs⟩ := X.out.out
      have bx := X.out.bx
      rw [hse] at bx
      have HLL := hmk (lis_lies hdl hLs)
      have hacw : wtL acc ≤ 2147483647 + 5120 := by
        have h1 := wr_wtL l
        have h2 := HA.out
        rw [List.take_length] at h2
        rw [h2]
        have := HWT.out
        omega
      have hlw := lis_wt acc
      have HTS : Hid (∀ b, (S b ∨ (W0.heap.size ≤ b ∧ b < wr.heap.size)) → b < wr.heap.size) := fun b hb => by
        rcases hb with h | h
        · have := hS b h; have := BW.size; omega
        · exact h.2
      have CC := check_any false (lisV acc) 40 _ _ wr ⟨TPr.u, TPr.z⟩ HLL.out HTS.out (by omega)
      obtain ⟨n, hn⟩ : ∃ n, chkE (lisV acc) 40 = n := ⟨_, rfl⟩
      have HN := hmk hn
      rw [hn] at CC
      have CCH := hmk CC
      have HO := hmk (fun h => prn_over (l := l) (acc := acc) h)
      have HE := hmk (fun h => prn_end (l := l) (acc := acc) h)
      have hwl : (lisV acc).wt ≤ 1099511627776 := by omega
      clear CC hn hse hLs hdl hacw hlw
      obtain ⟨an, han⟩ : ∃ an, acc.length = an := ⟨_, rfl⟩
      rw [han] at bx HLL CCH
      clear han
      have d0 : wr.cell? ⟨gv, 0, none⟩ = some (.int .i64 4) := by rw [cell_of_block bx]; rfl
      have d1 : wr.cell? ⟨gv, 1, none⟩ = some (.bool false) := by rw [cell_of_block bx]; rfl
      have d2 : wr.cell? ⟨gv, 2, none⟩ = some (.int .i64 0) := by rw [cell_of_block bx]; rfl
      have d3 : wr.cell? ⟨gv, 3, none⟩ = some (.string ⟨#[]⟩) := by rw [cell_of_block bx]; rfl
      have d4 : wr.cell? ⟨gv, 4, none⟩ = some (.slice ta an tc) := by rw [cell_of_block bx]; rfl
      have d5 : wr.cell? ⟨gv, 5, none⟩ = some (.slice none 0 0) := by rw [cell_of_block bx]; rfl
      go_wp2_with fail
      refine CCH.out.mono ?_
      rintro e w1 ⟨rfl, b1⟩
      have z1 := b1.size
      have bx1 := (b1.block gv (by omega)).trans bx
      have NR1 := (b1.block w.heap.size (by omega)).trans NR
      have BW1 := BW.trans (b1.mono BW.size)
      clear CCH d0 d1 d2 d3 d4 d5 bx NR
      by_cases hn : n = 0
      rotate_left
      · have yn : ((n : Int) != 0) = true := by simp; omega
        have yn' : ((n : Int) == 0) = false := by simp; omega
        have HF2 : Hid (prnF l = (nullV, -1, n)) := by show _ = _; rw [HF.out, HP.out, HO.out (by rw [HN.out]; exact hn), HN.out]
        clear HO HE bx1
        have r0 : w1.cell? ⟨w.heap.size, 0, none⟩ = some (.int .i64 0) := by rw [cell_of_block NR1]; rfl
        have r1 : w1.cell? ⟨w.heap.size, 1, none⟩ = some (.bool false) := by rw [cell_of_block NR1]; rfl
        have r2 : w1.cell? ⟨w.heap.size, 2, none⟩ = some (.int .i64 0) := by rw [cell_of_block NR1]; rfl
        have r3 : w1.cell? ⟨w.heap.size, 3, none⟩ = some (.string ⟨#[]⟩) := by rw [cell_of_block NR1]; rfl
        have r4 : w1.cell? ⟨w.heap.size, 4, none⟩ = some (.slice none 0 0) := by rw [cell_of_block NR1]; rfl
        have r5 : w1.cell? ⟨w.heap.size, 5, none⟩ = some (.slice none 0 0) := by rw [cell_of_block NR1]; rfl
        have rf : ∀ i, w1.frozen? ⟨w.heap.size, i, none⟩ = false := frozen_of_block NR1
        go_wp2_with fail
        (try simp only [Exit.inBlock, Exit.then])
        refine bodyPost_ret (v := .tuple #[.agg #[.int .i64 0, .bool false, .int .i64 0, .string ⟨#[]⟩, .slice none 0 0, .slice none 0 0], .int .i64 (-1), .int .i64 n]) ?_ rfl (by rw [HF2.out]; exact ⟨[.int .i64 0, .bool false, .int .i64 0, .string ⟨#[]⟩, .slice none 0 0, .slice none 0 0], rfl, null_lies _ _, Below.set6 BW1 (by omega) _ _ _ _ _ _ _ _ _ _ _ _⟩)
        rw [Go.results_ctt rfl]
        go_simp
      subst hn
      have HF2 : Hid (prnF l = (lisV acc, -1, 0)) := by show _ = _; rw [HF.out, HP.out, HE.out HN.out]
      have CN := clone_any (lisV acc) false _ _ w1 ⟨(TPr.below b1 (by have := TPr.z; omega)).u, (TPr.below b1 (by have := TPr.z; omega)).z⟩ (V.lies_keep (fun h => h) (fun y hy => b1.block y (HTS.out y hy)) (fun _ h => h) _ HLL.out) (fun b hb => by have := HTS.out b hb; omega) hwl
      have hcl : clnV (lisV acc) = lisV acc := by rw [clnV, if_pos (by rw [okV, ← chkE40, HN.out]; rfl)]
      rw [hcl] at CN
      have CNH := hmk CN
      clear HO HE CN hcl HLL
      have d0 : w1.cell? ⟨gv, 0, none⟩ = some (.int .i64 4) := by rw [cell_of_block bx1]; rfl
      have d1 : w1.cell? ⟨gv, 1, none⟩ = some (.bool false) := by rw [cell_of_block bx1]; rfl
      have d2 : w1.cell? ⟨gv, 2, none⟩ = some (.int .i64 0) := by rw [cell_of_block bx1]; rfl
      have d3 : w1.cell? ⟨gv, 3, none⟩ = some (.string ⟨#[]⟩) := by rw [cell_of_block bx1]; rfl
      have d4 : w1.cell? ⟨gv, 4, none⟩ = some (.slice ta an tc) := by rw [cell_of_block bx1]; rfl
      have d5 : w1.cell? ⟨gv, 5, none⟩ = some (.slice none 0 0) := by rw [cell_of_block bx1]; rfl
      go_wp2_with fail
      refine CNH.out.mono ?_
      rintro e w2 ⟨csu, rfl, hlu, b2⟩
      obtain ⟨uk, ub, ui, us, ual, unl, ucl, uam, unm, ucm, rfl⟩ := V.ten hlu
      have z2 := b2.size
      have NR2 := (b2.block w.heap.size (by omega)).trans NR1
      have BW2 := BW1.trans (b2.mono BW1.size)
      have HLU := hmk hlu
      clear hlu CNH d0 d1 d2 d3 d4 d5 bx1 NR1
      have r0 : w2.cell? ⟨w.heap.size, 0, none⟩ = some (.int .i64 0) := by rw [cell_of_block NR2]; rfl
      have r1 : w2.cell? ⟨w.heap.size, 1, none⟩ = some (.bool false) := by rw [cell_of_block NR2]; rfl
      have r2 : w2.cell? ⟨w.heap.size, 2, none⟩ = some (.int .i64 0) := by rw [cell_of_block NR2]; rfl
      have r3 : w2.cell? ⟨w.heap.size, 3, none⟩ = some (.string ⟨#[]⟩) := by rw [cell_of_block NR2]; rfl
      have r4 : w2.cell? ⟨w.heap.size, 4, none⟩ = some (.slice none 0 0) := by rw [cell_of_block NR2]; rfl
      have r5 : w2.cell? ⟨w.heap.size, 5, none⟩ = some (.slice none 0 0) := by rw [cell_of_block NR2]; rfl
      have rf : ∀ i, w2.frozen? ⟨w.heap.size, i, none⟩ = false := frozen_of_block NR2
      clear NR2
      go_wp2_with fail
      (try simp only [Exit.inBlock, Exit.then])
      refine bodyPost_ret (v := .tuple #[.agg #[.int .i64 uk, .bool ub, .int .i64 ui, .string us, .slice ual unl ucl, .slice uam unm ucm], .int .i64 (-1), .int .i64 0]) ?_ rfl (by rw [HF2.out]; exact ⟨[.int .i64 uk, .bool ub, .int .i64 ui, .string us, .slice ual unl ucl, .slice uam unm ucm], rfl, V.lies_keep (fun h => h) (fun _ _ => rfl) (fun b hb => .inr ⟨by have := hb.1; have := BW1.size; omega, by simp [size_set1]; exact hb.2⟩) _ (lies_set6T (T := New w1 w2) HLU.out (fun h => by have := h.1; have := BW1.size; omega) _ _ _ _ _ _ _ _ _ _ _ _), Below.set6 BW2 (by omega) _ _ _ _ _ _ _ _ _ _ _ _⟩)
      rw [Go.results_ctt rfl]
      go_simp
end Go.Proofs.YtjgbjhahmgegiaaGreatDoor
