import Derived.Test.YtljgofmmihmmfaaDoorHldA
import Derived.Test.YtljgofmmihmmfaaDoorJD
/- the document's Without. -/
set_option linter.unusedSimpArgs false
set_option linter.unusedVariables false
namespace Go.Proofs.YtljgofmmihmmfaaDoor
open Go.RowKit Go.Lib

/-- a map that is being made, at M; all that was in w is as it was -/
structure McF (w : World) (M : Nat) (c0 c1 c2 c3 c4 smv : Value) (wr : World) : Prop where
  lt : w.heap.size ≤ M
  below : Below M w wr
  b1 : wr.heap[M]? = some (.cells #[c0, c1, c2, c3, c4, smv] 25 (0, 0))
theorem McF.sz {w : World} {M : Nat} {c0 c1 c2 c3 c4 smv : Value} {wr : World} (h : McF w M c0 c1 c2 c3 c4 smv wr) : M + 1 ≤ wr.heap.size := (Array.getElem?_eq_some_iff.1 h.b1).1
theorem McF.grown {w : World} {M : Nat} {c0 c1 c2 c3 c4 smv : Value} {wr wr' : World} (h : McF w M c0 c1 c2 c3 c4 smv wr) {row : Option Nat} (g : wr.grownBy wr' row) (hr : ∀ r, row = some r → M + 1 ≤ r) : McF w M c0 c1 c2 c3 c4 smv wr' := by
  have hs := h.sz
  have hl := h.lt
  have hn : ∀ q, q < M + 1 → some q ≠ row := fun q hq e => by have := hr q e.symm; omega
  exact ⟨hl, h.below.grown g (by omega) (fun r e => by have := hr r e; omega), (g.block _ (by omega) (hn _ (by omega))).trans h.b1⟩
theorem McF.set {w : World} {M : Nat} {c0 c1 c2 c3 c4 smv : Value} {wr : World} (h : McF w M c0 c1 c2 c3 c4 smv wr) (u : Value) : McF w M c0 c1 c2 c3 c4 u (wr.setCell ⟨M, 5, none⟩ u) := by
  have hs := h.sz
  have hl := h.lt
  have g := grown_set1 wr M 5 u
  refine ⟨hl, h.below.grown g (by omega) (fun r e => by cases e; omega), ?_⟩
  rw [set_block h.b1]
  rfl

set_option maxHeartbeats 3000000 in
set_option maxRecDepth 100000 in
theorem rwithout_any (v : V) (key : ByteArray) (R : Bool) (S : Nat → Prop) (cs : List Value) (w : World) (hv : v.lies R w S cs) (hS : ∀ b, S b → b < w.heap.size) (hwt : v.wt ≤ 2147483648) :
    Calls Tryd.prog 37 #[.agg cs.toArray, .string key] w (AnPost (woutV v key) w) := by
  obtain ⟨k, b, i, s, l, m⟩ := v
  have hv0 := hv
  rw [V.lies] at hv
  obtain ⟨al, cl, bl, ol, am, cm, bm, om, rfl, hk, hi, hs, hal, ham, hl0, hm, _⟩ := hv
  have hz2 : ((w.alloc (.cells #[.int .i64 k, .bool b, .int .i64 i, .string s, .slice al l.length cl, .slice am m.length cm] 25)).alloc (.cells #[.int .i64 0, .bool false, .int .i64 0, .string ⟨#[]⟩, .slice none 0 0, .slice none 0 0] 25)).heap.size = w.heap.size + 2 := by rw [alloc_size, alloc_size]
  have B0 : Below w.heap.size w ((w.alloc (.cells #[.int .i64 k, .bool b, .int .i64 i, .string s, .slice al l.length cl, .slice am m.length cm] 25)).alloc (.cells #[.int .i64 0, .bool false, .int .i64 0, .string ⟨#[]⟩, .slice none 0 0, .slice none 0 0] 25)) := two_below w _ _
  have h0 := alloc2_keep1 w (.cells #[.int .i64 k, .bool b, .int .i64 i, .string s, .slice al l.length cl, .slice am m.length cm] 25) (.cells #[.int .i64 0, .bool false, .int .i64 0, .string ⟨#[]⟩, .slice none 0 0, .slice none 0 0] 25)
  have h1 := alloc2_new w (.cells #[.int .i64 k, .bool b, .int .i64 i, .string s, .slice al l.length cl, .slice am m.length cm] 25) (.cells #[.int .i64 0, .bool false, .int .i64 0, .string ⟨#[]⟩, .slice none 0 0, .slice none 0 0] 25)
  have HV : Hid (∀ W, Below w.heap.size w W → (V.mk k b i s l m).lies R W S [.int .i64 k, .bool b, .int .i64 i, .string s, .slice al l.length cl, .slice am m.length cm] ∧ (∀ b, S b → b < W.heap.size)) := fun W hb => ⟨V.lies_keep (fun h => h) (fun x hx => hb.block x (hS x hx)) (fun _ h => h) _ hv0, fun x hx => Nat.lt_of_lt_of_le (hS x hx) hb.size⟩
  have HM : Hid (∀ W, Below w.heap.size w W → liesM R W S m bm om) := fun W hb => liesM_keep (fun h => h) (fun x hx => hb.block x (hS x hx)) (fun _ h => h) _ hm
  have hml : m.length ≤ 2147483648 := by have := wtM_len m; simp only [V.wt] at hwt; omega
  have HW : Hid (∀ j (h : j < m.length), (m[j]).2.wt ≤ 2147483648) := fun j h => by
    have := wtM_mem (List.getElem_mem h : m[j] ∈ m)
    simp only [V.wt] at hwt; omega
  have d0 : ((w.alloc (.cells #[.int .i64 k, .bool b, .int .i64 i, .string s, .slice al l.length cl, .slice am m.length cm] 25)).alloc (.cells #[.int .i64 0, .bool false, .int .i64 0, .string ⟨#[]⟩, .slice none 0 0, .slice none 0 0] 25)).cell? ⟨w.heap.size, 0, none⟩ = some (.int .i64 k) := by rw [cell_of_block h0]; rfl
  have d1 : ((w.alloc (.cells #[.int .i64 k, .bool b, .int .i64 i, .string s, .slice al l.length cl, .slice am m.length cm] 25)).alloc (.cells #[.int .i64 0, .bool false, .int .i64 0, .string ⟨#[]⟩, .slice none 0 0, .slice none 0 0] 25)).cell? ⟨w.heap.size, 1, none⟩ = some (.bool b) := by rw [cell_of_block h0]; rfl
  have d2 : ((w.alloc (.cells #[.int .i64 k, .bool b, .int .i64 i, .string s, .slice al l.length cl, .slice am m.length cm] 25)).alloc (.cells #[.int .i64 0, .bool false, .int .i64 0, .string ⟨#[]⟩, .slice none 0 0, .slice none 0 0] 25)).cell? ⟨w.heap.size, 2, none⟩ = some (.int .i64 i) := by rw [cell_of_block h0]; rfl
  have d3 : ((w.alloc (.cells #[.int .i64 k, .bool b, .int .i64 i, .string s, .slice al l.length cl, .slice am m.length cm] 25)).alloc (.cells #[.int .i64 0, .bool false, .int .i64 0, .string ⟨#[]⟩, .slice none 0 0, .slice none 0 0] 25)).cell? ⟨w.heap.size, 3, none⟩ = some (.string s) := by rw [cell_of_block h0]; rfl
  have d4 : ((w.alloc (.cells #[.int .i64 k, .bool b, .int .i64 i, .string s, .slice al l.length cl, .slice am m.length cm] 25)).alloc (.cells #[.int .i64 0, .bool false, .int .i64 0, .string ⟨#[]⟩, .slice none 0 0, .slice none 0 0] 25)).cell? ⟨w.heap.size, 4, none⟩ = some (.slice al l.length cl) := by rw [cell_of_block h0]; rfl
  have d5 : ((w.alloc (.cells #[.int .i64 k, .bool b, .int .i64 i, .string s, .slice al l.length cl, .slice am m.length cm] 25)).alloc (.cells #[.int .i64 0, .bool false, .int .i64 0, .string ⟨#[]⟩, .slice none 0 0, .slice none 0 0] 25)).cell? ⟨w.heap.size, 5, none⟩ = some (.slice am m.length cm) := by rw [cell_of_block h0]; rfl
  clear hv0 hm hl0
  go_enter Tryd.func37, Tryd.ntmps37
  go_wp2_with fail
  clear d0 d1 d2 d3 d4 d5
  generalize ((w.alloc (.cells #[.int .i64 k, .bool b, .int .i64 i, .string s, .slice al l.length cl, .slice am m.length cm] 25)).alloc (.cells #[.int .i64 0, .bool false, .int .i64 0, .string ⟨#[]⟩, .slice none 0 0, .slice none 0 0] 25)) = w0 at *
  refine (rtaken_any R (V.mk k b i s l m) S _ w0 (HV.out w0 B0).1 (HV.out w0 B0).2 (by omega)).mono ?_
  rintro e w1 ⟨rfl, b1⟩
  have hz1 := b1.size
  have B1 := B0.trans (b1.mono (by omega))
  have t0 := (b1.block w.heap.size (by omega)).trans h0
  have t1 := (b1.block (w.heap.size + 1) (by omega)).trans h1
  clear h0 h1 B0 b1
  cases ho : okV (V.mk k b i s l m) with
  | false =>
    have HF : Hid (woutV (V.mk k b i s l m) key = nullV) := by show _ = _; rw [woutV, if_neg (by rw [ho]; simp)]
    have r0 : w1.cell? ⟨w.heap.size + 1, 0, none⟩ = some (.int .i64 0) := by rw [cell_of_block t1]; rfl
    have r1 : w1.cell? ⟨w.heap.size + 1, 1, none⟩ = some (.bool false) := by rw [cell_of_block t1]; rfl
    have r2 : w1.cell? ⟨w.heap.size + 1, 2, none⟩ = some (.int .i64 0) := by rw [cell_of_block t1]; rfl
    have r3 : w1.cell? ⟨w.heap.size + 1, 3, none⟩ = some (.string ⟨#[]⟩) := by rw [cell_of_block t1]; rfl
    have r4 : w1.cell? ⟨w.heap.size + 1, 4, none⟩ = some (.slice none 0 0) := by rw [cell_of_block t1]; rfl
    have r5 : w1.cell? ⟨w.heap.size + 1, 5, none⟩ = some (.slice none 0 0) := by rw [cell_of_block t1]; rfl
    have rf : ∀ i, w1.frozen? ⟨w.heap.size + 1, i, none⟩ = false := frozen_of_block t1
    clear t0 t1 ho
    go_wp2_with fail
    (try simp only [Exit.inBlock, Exit.then])
    refine bodyPost_ret (v := .agg #[.int .i64 0, .bool false, .int .i64 0, .string ⟨#[]⟩, .slice none 0 0, .slice none 0 0]) (by rw [results_cell1 rfl]; go_simp) rfl ?_
    rw [HF.out]
    exact ⟨[.int .i64 0, .bool false, .int .i64 0, .string ⟨#[]⟩, .slice none 0 0, .slice none 0 0], rfl, null_lies _ _, Below.set6 B1 (by omega) _ _ _ _ _ _ _ _ _ _ _ _⟩
  | true =>
    have HF : Hid (woutV (V.mk k b i s l m) key = V.mk k b i s l (fL (othKey key) m m.length)) := by show _ = _; rw [woutV, if_pos ho, fL_all, wout_filter (srt_ok ho)]
    have d0 : w1.cell? ⟨w.heap.size, 0, none⟩ = some (.int .i64 k) := by rw [cell_of_block t0]; rfl
    have d1 : w1.cell? ⟨w.heap.size, 1, none⟩ = some (.bool b) := by rw [cell_of_block t0]; rfl
    have d2 : w1.cell? ⟨w.heap.size, 2, none⟩ = some (.int .i64 i) := by rw [cell_of_block t0]; rfl
    have d3 : w1.cell? ⟨w.heap.size, 3, none⟩ = some (.string s) := by rw [cell_of_block t0]; rfl
    have d4 : w1.cell? ⟨w.heap.size, 4, none⟩ = some (.slice al l.length cl) := by rw [cell_of_block t0]; rfl
    have d5 : w1.cell? ⟨w.heap.size, 5, none⟩ = some (.slice am m.length cm) := by rw [cell_of_block t0]; rfl
    clear ho
    go_wp2_with fail
    refine (rclone_any (V.mk k b i s l m) R S _ w1 (HV.out w1 B1).1 (HV.out w1 B1).2 hwt).mono ?_
    rintro e w2 ⟨csu, rfl, hlu, b2⟩
    rw [V.lies] at hlu
    obtain ⟨xl, xc, yl, zl, xm, xd, ym, zm, rfl, _, _, _, hxl, _, hll, _, _⟩ := hlu
    have hz3 := b2.size
    have ba : Below w2.heap.size w2 (w2.alloc (.cells #[.int .i64 k, .bool b, .int .i64 i, .string s, .slice xl l.length xc, .slice xm m.length xd] 25)) := (Below.refl _ _).alloc (Nat.le_refl _) _
    have HLL : Hid (∀ W, Below w2.heap.size w2 W → liesL false W (New w1 w2) l yl zl) := fun W hb => liesL_keep (fun h => h) (fun x hx => hb.block x hx.2) (fun _ h => h) _ hll
    have nb := heap_alloc_new w2 (.cells #[.int .i64 k, .bool b, .int .i64 i, .string s, .slice xl l.length xc, .slice xm m.length xd] 25)
    have n5 : (w2.alloc (.cells #[.int .i64 k, .bool b, .int .i64 i, .string s, .slice xl l.length xc, .slice xm m.length xd] 25)).cell? ⟨w2.heap.size, 5, none⟩ = some (.slice xm m.length xd) := by rw [cell_of_block nb]; rfl
    have nf : (w2.alloc (.cells #[.int .i64 k, .bool b, .int .i64 i, .string s, .slice xl l.length xc, .slice xm m.length xd] 25)).frozen? ⟨w2.heap.size, 5, none⟩ = false := frozen_of_block nb 5
    have r0 : McF w2 w2.heap.size (.int .i64 k) (.bool b) (.int .i64 i) (.string s) (.slice xl l.length xc) (.slice none 0 0) (w2.alloc (.cells #[.int .i64 k, .bool b, .int .i64 i, .string s, .slice xl l.length xc, .slice none 0 0] 25)) := ⟨Nat.le_refl _, (Below.refl _ _).alloc (Nat.le_refl _) _, heap_alloc_new w2 _⟩
    obtain ⟨i1, hi1, hy0, hy1, hy2⟩ := info_parts info44
    have hJ : Hid (Tryd.prog.info? 44 = some i1 ∧ i1.zero = some (.agg #[.string ⟨#[]⟩, .int .i64 0, .bool false, .int .i64 0, .string ⟨#[]⟩, .slice none 0 0, .slice none 0 0]) ∧ i1.size = 7 ∧ i1.bytes = 104) := ⟨hi1, hy0, hy1, hy2⟩
    clear d0 d1 d2 d3 d4 d5 hll nb ba hi1 hy0 hy1 hy2
    go_wp2_with fail
    have KB : Hid (∀ W, Below w2.heap.size w2 W → Below w.heap.size w W ∧ W.heap[w.heap.size]? = some (.cells #[.int .i64 k, .bool b, .int .i64 i, .string s, .slice al l.length cl, .slice am m.length cm] 25 (0, 0)) ∧ W.heap[w.heap.size + 1]? = some (.cells #[.int .i64 0, .bool false, .int .i64 0, .string ⟨#[]⟩, .slice none 0 0, .slice none 0 0] 25 (0, 0))) := fun W hb => ⟨(B1.trans (b2.mono (by omega))).trans (hb.mono (by omega)), (hb.block _ (by omega)).trans ((b2.block _ (by omega)).trans t0), (hb.block _ (by omega)).trans ((b2.block _ (by omega)).trans t1)⟩
    have hwM : w.heap.size + 2 ≤ w2.heap.size := by omega
    have HM1 : Hid (w1.heap.size ≤ w2.heap.size) := hz3
    clear t0 t1 n5 nf b2 hz3
    have HMe : Hid (∀ x, New w1 w2 x → w.heap.size + 2 ≤ x ∧ x < w2.heap.size) := fun x hx => ⟨by have := hx.1; omega, hx.2⟩
    generalize w2.heap.size = M at *
    go_loopw [7] (fun e wq => ∃ (j : Nat) (smv : Value) (SM : Nat → Prop), j ≤ m.length ∧ e = .int .i64 (j : Int) ∧ McF w2 M (.int .i64 k) (.bool b) (.int .i64 i) (.string s) (.slice xl l.length xc) smv wq ∧ OwnM false wq (M + 1) SM smv ((fL (othKey key) m j).map some)) (fun e _ => m.length - (RowKit.intOf e).toNat)
    case atStart => exact ⟨0, _, _, by omega, rfl, r0, by rw [fL_zero]; exact OwnR.nil _ _⟩
    case round =>
      rename World => wp
      clear r0
      obtain ⟨j, smv, SM, hj, rfl, rj, oj⟩ := hrel
      have hzp := rj.sz
      have BMj := rj.below
      obtain ⟨Bj, tj, tz⟩ := KB.out wp BMj
      have d5 : wp.cell? ⟨w.heap.size, 5, none⟩ = some (.slice am m.length cm) := by rw [cell_of_block tj]; rfl
      by_cases hjl : j < m.length
      · have y1 : (j : Int) < m.length := by omega
        obtain rfl : am = some ⟨bm, om, none⟩ := ham.at_.resolve_left (by omega)
        obtain ⟨hSb, hks, csj, hrow, hlj⟩ := liesM_get (HM.out wp Bj) j hjl
        have HJ : Hid ((m[j]).2.lies R wp S csj) := hlj
        have hwj := HW.out j hjl
        obtain ⟨ek, eb, ei, es, eal, enl, ecl, eam, enm, ecm, rfl⟩ := V.ten hlj
        have HTy : Hid (othKey key m[j] = true → (fL (othKey key) m (j + 1)).map some = (fL (othKey key) m j).map some ++ [some m[j]]) := fun h => by rw [fL_yes hjl h, List.map_append]; rfl
        have HTn : Hid (othKey key m[j] = false → (fL (othKey key) m (j + 1)).map some = (fL (othKey key) m j).map some) := fun h => by rw [fL_no hjl h]
        have hfl := fL_len (othKey key) m j
        rcases hxj : m[j] with ⟨ekey, xv⟩
        rw [hxj] at hks hrow hwj HTy HTn HJ
        simp only at hks hrow hwj
        obtain ⟨q, q0, q1, q2, q3, q4, q5⟩ := row7 hrow
        clear hlj hxj
        by_cases he : ekey.toList = key.toList
        · have ye : (ekey.toList == key.toList) = true := by rw [beq_iff_eq]; exact he
          have HT : Hid ((fL (othKey key) m (j + 1)).map some = (fL (othKey key) m j).map some) := HTn.out (by rw [othKey, ye]; rfl)
          clear he q0 q1 q2 q3 q4 q5 HTy HTn HJ tj tz hrow hfl
          go_wp2_with fail
          go_roundw
          case rel => exact ⟨j + 1, smv, SM, by omega, by go_num, rj, by rw [HT.out]; exact oj⟩
          case measure => simp [RowKit.intOf]; omega
        · have ye : (ekey.toList == key.toList) = false := by rw [beq_eq_false_iff_ne]; exact he
          have HT : Hid ((fL (othKey key) m (j + 1)).map some = (fL (othKey key) m j).map some ++ [some (ekey, xv)]) := HTy.out (by rw [othKey, ye]; rfl)
          clear he HTy HTn
          obtain ⟨sa, sc, sb, so, rfl, hd, hls⟩ := own_listM oj
          have hll : ((fL (othKey key) m j).map some).length = (fL (othKey key) m j).length := List.length_map ..
          obtain ⟨n, hn⟩ : ∃ n, (fL (othKey key) m j).length = n := ⟨_, rfl⟩
          rw [hn] at rj oj hd hll hfl
          clear hls hd hn tz
          go_wp2_with fail
          refine (rclone_any xv R S _ wp HJ.out (HV.out wp Bj).2 hwj).mono ?_
          rintro e w3 ⟨csu, rfl, hx3, bl3⟩
          obtain ⟨uk, ub, ui, us, ual, unl, ucl, uam, unm, ucm, rfl⟩ := V.ten hx3
          have hz3' := bl3.size
          have t3 := rj.grown (grown_of_below bl3) (fun r e => by cases e)
          have o3 := oj.below (keepM false) bl3
          have hown : ∀ r, (Value.slice sa n sc).ownBlock = some r → M + 1 ≤ r ∧ r < wp.heap.size := fun r hr => oj.lt hr
          have hbm : bm < w.heap.size := hS bm hSb
          have t4 := t3.grown (World.grownBy_alloc w3 (.cells #[.int .i64 uk, .bool ub, .int .i64 ui, .string us, .slice ual unl ucl, .slice uam unm ucm] 25) none) (fun r e => by cases e)
          have o4 := o3.alloc (keepM false) (.cells #[.int .i64 uk, .bool ub, .int .i64 ui, .string us, .slice ual unl ucl, .slice uam unm ucm] 25)
          have nb4 := heap_alloc_new w3 (.cells #[.int .i64 uk, .bool ub, .int .i64 ui, .string us, .slice ual unl ucl, .slice uam unm ucm] 25)
          have hz4 : w3.heap.size < (w3.alloc (.cells #[.int .i64 uk, .bool ub, .int .i64 ui, .string us, .slice ual unl ucl, .slice uam unm ucm] 25)).heap.size := by rw [alloc_size]; exact Nat.lt_succ_self _
          have HW43 : Hid (∀ b, b < w3.heap.size → (w3.alloc (.cells #[.int .i64 uk, .bool ub, .int .i64 ui, .string us, .slice ual unl ucl, .slice uam unm ucm] 25)).heap[b]? = w3.heap[b]?) := fun b hb => Below.heap_alloc w3 (.cells #[.int .i64 uk, .bool ub, .int .i64 ui, .string us, .slice ual unl ucl, .slice uam unm ucm] 25) b hb
          clear q q0 q1 q2 q3 q4 q5 d5 HJ
          go_wp2_with fail
          generalize (w3.alloc (.cells #[.int .i64 uk, .bool ub, .int .i64 ui, .string us, .slice ual unl ucl, .slice uam unm ucm] 25)) = w4 at *
          have R4 : rowAt w4 w3.heap.size 0 [.int .i64 uk, .bool ub, .int .i64 ui, .string us, .slice ual unl ucl, .slice uam unm ucm] := row_of_block nb4
          have D5 : w4.cell? ⟨w.heap.size, 5, none⟩ = some (.slice (some ⟨bm, om, none⟩) m.length cm) := by rw [cell_of_block ((HW43.out _ (by omega)).trans ((bl3.block _ (by omega)).trans tj))]; rfl
          have Q4 : w4.cell? ⟨bm, om + j * 7, none⟩ = some (.string ekey) := (World.cell?_of_block (w := w3) (HW43.out bm (by omega))).trans ((bl3.cell (p := ⟨bm, om + j * 7, none⟩) (by show bm < _; omega)).trans (by have h := hrow 0 _ rfl; rwa [Nat.add_zero] at h))
          have M5 : w4.cell? ⟨M, 5, none⟩ = some (.slice sa n sc) := by rw [cell_of_block t4.b1]; rfl
          have M5a : ∀ o, (w4.alloc o).cell? ⟨M, 5, none⟩ = some (.slice sa n sc) := fun o => (World.cell?_of_block (w := w4) (a := ⟨M, 5, none⟩) (Below.heap_alloc w4 o M (by omega))).trans M5
          have HA : Hid (∀ b, (fun b => b = w.heap.size ∨ b = bm ∨ b = w3.heap.size) b → b < w4.heap.size ∧ b ≠ M ∧ some b ≠ (Value.slice sa n sc).ownBlock) := fun b hb => by
            rcases hb with rfl | rfl | rfl
            · exact ⟨by omega, by omega, fun e => by have := (hown _ e.symm).1; omega⟩
            · exact ⟨by omega, by omega, fun e => by have := (hown _ e.symm).1; omega⟩
            · exact ⟨by omega, by omega, fun e => by have := (hown _ e.symm).2; omega⟩
          have KA : Hid (KeepB w4 (fun b => b = w.heap.size ∨ b = bm ∨ b = w3.heap.size) (w4.alloc (.cells #[.string ekey, .int .i64 uk, .bool ub, .int .i64 ui, .string us, .slice ual unl ucl, .slice uam unm ucm] 44)).drew) := (KeepB.refl w4 _).alloc (fun b hb => (HA.out b hb).1) _
          have ta := (t4.grown (World.grownBy_alloc w4 (.cells #[.string ekey, .int .i64 uk, .bool ub, .int .i64 ui, .string us, .slice ual unl ucl, .slice uam unm ucm] 44) none) (fun r e => by cases e)).grown (grown_drew _ none) (fun r e => by cases e)
          have oa := (o4.alloc (keepM false) (.cells #[.string ekey, .int .i64 uk, .bool ub, .int .i64 ui, .string us, .slice ual unl ucl, .slice uam unm ucm] 44)).drew (keepM false)
          clear t3 o3 t4 o4 tj hrow rj oj
          refine wp_region_held_drew (S := KeepB w4 (fun b => b = w.heap.size ∨ b = bm ∨ b = w3.heap.size)) (by kernel_rfl) (KeepB.drew _ _) (fun hHeld => ?_)
          (refine wpAnyH_take (i := 0) (v := ?_) rfl (by kernel_rfl) (by kernel_rfl) (by kernel_rfl) (fun _ _ _ h => h) (Or.inl ⟨by rfl, ?_⟩) (by assumption) ?_; rotate_left 1; (intro W0 hSw; (try dsimp only at hSw); go_simp; (try with_reducible rfl)); (try simp only [Act.put, List.setIfInBounds_toArray, List.set_cons_zero, List.set_cons_succ]))
          (refine wpAnyH_take (i := 2) (v := ?_) rfl (by kernel_rfl) (by kernel_rfl) (by kernel_rfl) (fun _ _ _ h => h) (Or.inl ⟨by rfl, ?_⟩) (by assumption) ?_; rotate_left 1; (intro W0 hSw; (try dsimp only at hSw); go_simp; (try with_reducible rfl)); (try simp only [Act.put, List.setIfInBounds_toArray, List.set_cons_zero, List.set_cons_succ]))
          (refine wpAnyH_take (i := 3) (v := ?_) rfl (by kernel_rfl) (by kernel_rfl) (by kernel_rfl) (fun _ _ _ h => h) (Or.inl ⟨by rfl, ?_⟩) (by assumption) ?_; rotate_left 1; (intro W0 hSw; have z := hSw.cell (.inl rfl) D5; go_simp; (try with_reducible rfl)); (try simp only [Act.put, List.setIfInBounds_toArray, List.set_cons_zero, List.set_cons_succ]))
          (refine wpAnyH_take (i := 4) (v := ?_) rfl (by kernel_rfl) (by kernel_rfl) (by kernel_rfl) (fun _ _ _ h => h) (Or.inl ⟨by rfl, ?_⟩) (by assumption) ?_; rotate_left 1; (intro W0 hSw; (try dsimp only at hSw); go_simp; (try with_reducible rfl)); (try simp only [Act.put, List.setIfInBounds_toArray, List.set_cons_zero, List.set_cons_succ]))
          (refine wpAnyH_take (i := 5) (v := ?_) rfl (by kernel_rfl) (by kernel_rfl) (by kernel_rfl) (fun _ _ _ h => h) (Or.inl ⟨by rfl, ?_⟩) (by assumption) ?_; rotate_left 1; (intro W0 hSw; (try dsimp only at hSw); go_simp; (try with_reducible rfl)); (try simp only [Act.put, List.setIfInBounds_toArray, List.set_cons_zero, List.set_cons_succ]))
          (refine wpAnyH_take (i := 6) (v := ?_) rfl (by kernel_rfl) (by kernel_rfl) (by kernel_rfl) (fun _ _ _ h => h) (Or.inl ⟨by rfl, ?_⟩) (by assumption) ?_; rotate_left 1; (intro W0 hSw; (try dsimp only at hSw); go_simp; (try with_reducible rfl)); (try simp only [Act.put, List.setIfInBounds_toArray, List.set_cons_zero, List.set_cons_succ]))
          (refine wpAnyH_take (i := 7) (v := ?_) rfl (by kernel_rfl) (by kernel_rfl) (by kernel_rfl) (fun _ _ _ h => h) (Or.inl ⟨by rfl, ?_⟩) (by assumption) ?_; rotate_left 1; (intro W0 hSw; have z := hSw.cell (.inr (.inl rfl)) Q4; go_simp; (try with_reducible rfl)); (try simp only [Act.put, List.setIfInBounds_toArray, List.set_cons_zero, List.set_cons_succ]))
          (refine wpAnyH_take (i := 8) (v := ?_) rfl (by kernel_rfl) (by kernel_rfl) (by kernel_rfl) (fun _ _ _ h => h) (Or.inl ⟨by rfl, ?_⟩) (by assumption) ?_; rotate_left 1; (intro W0 hSw; obtain ⟨z0, z1, z2, z3, z4, z5⟩ := row6z (hSw.row (.inr (.inr rfl)) R4); go_simp; (try with_reducible rfl)); (try simp only [Act.put, List.setIfInBounds_toArray, List.set_cons_zero, List.set_cons_succ]))
          (refine wpAnyH_take (i := 9) (v := ?_) rfl (by kernel_rfl) (by kernel_rfl) (by kernel_rfl) (fun _ _ _ h => h) (Or.inl ⟨by rfl, ?_⟩) (by assumption) ?_; rotate_left 1; (intro W0 hSw; (try dsimp only at hSw); go_simp; (try with_reducible rfl)); (try simp only [Act.put, List.setIfInBounds_toArray, List.set_cons_zero, List.set_cons_succ]))
          refine wpAnyH_ready (rs := [1, 10]) (by kernel_rfl) (by simp) ?_
          refine AllReadyH.cons rfl (fun K hK => ?_) (AllReadyH.cons rfl (fun K hK => ?_) AllReadyH.nil)
          · go_simp
            refine hK.out _ _ (KeepB.drew _ _) (fun hHeld => ?_)
            clear hK K
            (try simp only [Act.put, List.setIfInBounds_toArray, List.set_cons_zero, List.set_cons_succ])
            refine wpAnyH_ready (rs := [10]) (by kernel_rfl) (by simp) ?_
            refine AllReadyH.cons rfl (fun K hK => ?_) AllReadyH.nil
            go_simp
            refine hK.out _ _ KA.out (fun hHeld => ?_)
            clear hK K
            (try simp only [Act.put, List.setIfInBounds_toArray, List.set_cons_zero, List.set_cons_succ])
            refine wpAnyH_ready (rs := [11]) (by kernel_rfl) (by simp) ?_
            refine AllReadyH.cons rfl (fun K hK => ?_) AllReadyH.nil
            refine step_push (keepM false) rfl (.tmp 40) (.tmp 49) 23 rfl (M + 1) i1 _ 104 Tryd.underlying23 hJ.out.1 hJ.out.2.1 hJ.out.2.2.1 hJ.out.2.2.2 rfl (by decide) (by decide) (.slice sa n sc) (some (ekey, xv)) rfl oa w4.heap.size 1 (0, 0) rfl (heap_alloc_new w4 _) rfl one7 (keepM false _ _ _ _ _ _ (fun b hb => (Below.heap_alloc w4 _ b (by have := hb.2; omega)).trans (HW43.out b hb.2)) (fun _ h => h) ⟨_, rfl, hks, hx3⟩) (fun b hb => ⟨by have := hb.1; omega, by have := hb.2; show b < (w4.alloc _).heap.size; rw [alloc_size]; omega, fun e => by have := (hown b e.symm).2; have := hb.1; omega⟩) (by rw [hll]; omega) (by show M + 1 ≤ (w4.alloc _).heap.size; rw [alloc_size]; omega) ?_
            intro g cap w5 o5 g5 e5
            rw [hll] at o5 ⊢
            have t5 := ta.grown g5 (fun r e => (hown r e).1)
            have c6 : w5.cell? ⟨M, 5, none⟩ = some (.slice sa n sc) := by rw [cell_of_block t5.b1]; rfl
            have f6 : w5.frozen? ⟨M, 5, none⟩ = false := frozen_of_block t5.b1 5
            have K5 : Hid (KeepB w4 (fun b => b = w.heap.size ∨ b = bm ∨ b = w3.heap.size) w5) := KA.out.grown g5 (fun b hb => ⟨by show b < (w4.alloc _).heap.size; rw [alloc_size]; have := (HA.out b hb).1; omega, (HA.out b hb).2.2⟩)
            have K6 : Hid (∀ u, KeepB w4 (fun b => b = w.heap.size ∨ b = bm ∨ b = w3.heap.size) (w5.setCell ⟨M, 5, none⟩ u)) := fun u => K5.out.set (fun b hb => (HA.out b hb).2.1) 5 u
            refine hK.out _ _ K5.out (fun hHeld => ?_)
            clear hK K
            (try simp only [Act.put, List.setIfInBounds_toArray, List.set_cons_zero, List.set_cons_succ])
            (refine wpAnyH_take (i := 12) (v := ?_) rfl (by kernel_rfl) (by kernel_rfl) (by kernel_rfl) (fun _ _ _ h => h) (Or.inl ⟨by rfl, ?_⟩) (by assumption) ?_; rotate_left 1; (intro W0 hSw; (try dsimp only at hSw); go_simp; (try with_reducible rfl)); (try simp only [Act.put, List.setIfInBounds_toArray, List.set_cons_zero, List.set_cons_succ]))
            refine wpAnyH_ready (rs := [13]) (by kernel_rfl) (by simp) ?_
            refine AllReadyH.cons rfl (fun K hK => ?_) AllReadyH.nil
            go_simp
            refine hK.out _ _ (K6.out _) (fun hHeld => ?_)
            clear hK K
            (try simp only [Act.put, List.setIfInBounds_toArray, List.set_cons_zero, List.set_cons_succ])
            refine wpAnyH_done (by kernel_rfl) ?_ _
            (try dsimp only [Act.put, List.getElem_toArray, List.getElem_cons_succ, List.getElem_cons_zero, List.setIfInBounds_toArray, List.set_cons_zero, List.set_cons_succ])
            clear hHeld KA K5 K6 HA M5 M5a D5 Q4 R4 c6 f6
            go_wp2_with fail
            go_roundw
            case rel => exact ⟨j + 1, _, _, by omega, by go_num, t5.set _, by rw [HT.out]; exact o5.set (keepM false) (by omega) _ _⟩
            case measure => simp [RowKit.intOf]; omega
          · go_simp
            refine hK.out _ _ KA.out (fun hHeld => ?_)
            clear hK K
            (try simp only [Act.put, List.setIfInBounds_toArray, List.set_cons_zero, List.set_cons_succ])
            refine wpAnyH_ready (rs := [1]) (by kernel_rfl) (by simp) ?_
            refine AllReadyH.cons rfl (fun K hK => ?_) AllReadyH.nil
            go_simp
            refine hK.out _ _ KA.out (fun hHeld => ?_)
            clear hK K
            (try simp only [Act.put, List.setIfInBounds_toArray, List.set_cons_zero, List.set_cons_succ])
            refine wpAnyH_ready (rs := [11]) (by kernel_rfl) (by simp) ?_
            refine AllReadyH.cons rfl (fun K hK => ?_) AllReadyH.nil
            refine step_push (keepM false) rfl (.tmp 40) (.tmp 49) 23 rfl (M + 1) i1 _ 104 Tryd.underlying23 hJ.out.1 hJ.out.2.1 hJ.out.2.2.1 hJ.out.2.2.2 rfl (by decide) (by decide) (.slice sa n sc) (some (ekey, xv)) rfl oa w4.heap.size 1 (0, 0) rfl (heap_alloc_new w4 _) rfl one7 (keepM false _ _ _ _ _ _ (fun b hb => (Below.heap_alloc w4 _ b (by have := hb.2; omega)).trans (HW43.out b hb.2)) (fun _ h => h) ⟨_, rfl, hks, hx3⟩) (fun b hb => ⟨by have := hb.1; omega, by have := hb.2; show b < (w4.alloc _).heap.size; rw [alloc_size]; omega, fun e => by have := (hown b e.symm).2; have := hb.1; omega⟩) (by rw [hll]; omega) (by show M + 1 ≤ (w4.alloc _).heap.size; rw [alloc_size]; omega) ?_
            intro g cap w5 o5 g5 e5
            rw [hll] at o5 ⊢
            have t5 := ta.grown g5 (fun r e => (hown r e).1)
            have c6 : w5.cell? ⟨M, 5, none⟩ = some (.slice sa n sc) := by rw [cell_of_block t5.b1]; rfl
            have f6 : w5.frozen? ⟨M, 5, none⟩ = false := frozen_of_block t5.b1 5
            have K5 : Hid (KeepB w4 (fun b => b = w.heap.size ∨ b = bm ∨ b = w3.heap.size) w5) := KA.out.grown g5 (fun b hb => ⟨by show b < (w4.alloc _).heap.size; rw [alloc_size]; have := (HA.out b hb).1; omega, (HA.out b hb).2.2⟩)
            have K6 : Hid (∀ u, KeepB w4 (fun b => b = w.heap.size ∨ b = bm ∨ b = w3.heap.size) (w5.setCell ⟨M, 5, none⟩ u)) := fun u => K5.out.set (fun b hb => (HA.out b hb).2.1) 5 u
            refine hK.out _ _ K5.out (fun hHeld => ?_)
            clear hK K
            (try simp only [Act.put, List.setIfInBounds_toArray, List.set_cons_zero, List.set_cons_succ])
            (refine wpAnyH_take (i := 12) (v := ?_) rfl (by kernel_rfl) (by kernel_rfl) (by kernel_rfl) (fun _ _ _ h => h) (Or.inl ⟨by rfl, ?_⟩) (by assumption) ?_; rotate_left 1; (intro W0 hSw; (try dsimp only at hSw); go_simp; (try with_reducible rfl)); (try simp only [Act.put, List.setIfInBounds_toArray, List.set_cons_zero, List.set_cons_succ]))
            refine wpAnyH_ready (rs := [13]) (by kernel_rfl) (by simp) ?_
            refine AllReadyH.cons rfl (fun K hK => ?_) AllReadyH.nil
            go_simp
            refine hK.out _ _ (K6.out _) (fun hHeld => ?_)
            clear hK K
            (try simp only [Act.put, List.setIfInBounds_toArray, List.set_cons_zero, List.set_cons_succ])
            refine wpAnyH_done (by kernel_rfl) ?_ _
            (try dsimp only [Act.put, List.getElem_toArray, List.getElem_cons_succ, List.getElem_cons_zero, List.setIfInBounds_toArray, List.set_cons_zero, List.set_cons_succ])
            clear hHeld KA K5 K6 HA M5 M5a D5 Q4 R4 c6 f6
            go_wp2_with fail
            go_roundw
            case rel => exact ⟨j + 1, _, _, by omega, by go_num, t5.set _, by rw [HT.out]; exact o5.set (keepM false) (by omega) _ _⟩
            case measure => simp [RowKit.intOf]; omega
      · obtain rfl : j = m.length := by omega
        have y1 : ¬ (m.length : Int) < m.length := by omega
        obtain ⟨sa, sc, sb, so, rfl, hd, hls⟩ := own_listM oj
        have u1 := rj.b1
        have HU : Hid ((V.mk k b i s l (fL (othKey key) m m.length)).lies false wp (From (w.heap.size + 2) wp) [.int .i64 k, .bool b, .int .i64 i, .string s, .slice xl l.length xc, .slice sa (fL (othKey key) m m.length).length sc]) := lies_S hk hi hs hxl hd (liesL_keep (fun h => h) (fun _ _ => rfl) (fun x hx => ⟨(HMe.out x hx).1, by have := (HMe.out x hx).2; omega⟩) _ (HLL.out wp BMj)) (liesM_keep (fun h => h) (fun _ _ => rfl) (fun x hx => ⟨by have := hx.1; omega, hx.2⟩) _ hls)
        generalize fL (othKey key) m m.length = L at *
        have n0 : wp.cell? ⟨M, 0, none⟩ = some (.int .i64 k) := by rw [cell_of_block u1]; rfl
        have n1 : wp.cell? ⟨M, 1, none⟩ = some (.bool b) := by rw [cell_of_block u1]; rfl
        have n2 : wp.cell? ⟨M, 2, none⟩ = some (.int .i64 i) := by rw [cell_of_block u1]; rfl
        have n3 : wp.cell? ⟨M, 3, none⟩ = some (.string s) := by rw [cell_of_block u1]; rfl
        have n4 : wp.cell? ⟨M, 4, none⟩ = some (.slice xl l.length xc) := by rw [cell_of_block u1]; rfl
        have n5 : wp.cell? ⟨M, 5, none⟩ = some (.slice sa L.length sc) := by rw [cell_of_block u1]; rfl
        have r0 : wp.cell? ⟨w.heap.size + 1, 0, none⟩ = some (.int .i64 0) := by rw [cell_of_block tz]; rfl
        have r1 : wp.cell? ⟨w.heap.size + 1, 1, none⟩ = some (.bool false) := by rw [cell_of_block tz]; rfl
        have r2 : wp.cell? ⟨w.heap.size + 1, 2, none⟩ = some (.int .i64 0) := by rw [cell_of_block tz]; rfl
        have r3 : wp.cell? ⟨w.heap.size + 1, 3, none⟩ = some (.string ⟨#[]⟩) := by rw [cell_of_block tz]; rfl
        have r4 : wp.cell? ⟨w.heap.size + 1, 4, none⟩ = some (.slice none 0 0) := by rw [cell_of_block tz]; rfl
        have r5 : wp.cell? ⟨w.heap.size + 1, 5, none⟩ = some (.slice none 0 0) := by rw [cell_of_block tz]; rfl
        have rf : ∀ i, wp.frozen? ⟨w.heap.size + 1, i, none⟩ = false := frozen_of_block tz
        clear tj tz u1 oj rj hls
        go_wp2_with fail
        (try simp only [Exit.inBlock, Exit.then])
        refine bodyPost_ret (v := .agg #[.int .i64 k, .bool b, .int .i64 i, .string s, .slice xl l.length xc, .slice sa L.length sc]) (by rw [results_cell1 rfl]; go_simp) rfl ?_
        rw [HF.out]
        exact ⟨[.int .i64 k, .bool b, .int .i64 i, .string s, .slice xl l.length xc, .slice sa L.length sc], rfl, V.lies_keep (fun h => h) (fun _ _ => rfl) (fun x hx => ⟨by have := hx.1; omega, hx.2⟩) _ (lies_set6A HU.out (show w.heap.size + 1 < w.heap.size + 2 by omega) _ _ _ _ _ _ _ _ _ _ _ _), Below.set6 Bj (by omega) _ _ _ _ _ _ _ _ _ _ _ _⟩
end Go.Proofs.YtljgofmmihmmfaaDoor
