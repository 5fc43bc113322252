import Derived.Test.YthgfomblodhoaaaDoorG16
/- (*rows).take: the slices of a value, the deepest first. -/
set_option linter.unusedSimpArgs false
set_option linter.unusedVariables false
namespace Go.Proofs.YthgfomblodhoaaaDoor
open Go Go.RowKit Go.Lib Go.Shelf
def TkPost (M B : Nat) (sl sm : Value) (ls ms : List Value) (W : World) (e : Ending) (W' : World) : Prop := e = .returned (.tuple #[]) ∧ ∃ sl' sm', RowsAt M B sl' sm' ls ms W' ∧ TkR M sl sm sl' sm' W W'
theorem tk_ten {v : V} {w : World} {S : Nat → Prop} {cs xs ys : List Value} (h : v.tk w S cs xs ys) : ∃ k b i s al nl cl am nm cm, cs = [.int .i64 k, .bool b, .int .i64 i, .string s, .slice al nl cl, .slice am nm cm] := by
  obtain ⟨k, b, i, s, l, m⟩ := v
  rw [V.tk] at h
  obtain ⟨al, cl, bl, ol, am, cm, bm, om, x1, y1, x2, y2, e, _⟩ := h
  exact ⟨_, _, _, _, _, _, _, _, _, _, e⟩
theorem tkE_at {w : World} {S : Nat → Prop} {l : List V} {b o j : Nat} {xs ys : List Value} (hj : j < l.length) (h : tkE w S (l.drop j) b (o + j * 6) xs ys) : S b ∧ ∃ cs x1 y1 x2 y2, rowAt w b (o + j * 6) cs ∧ (l[j]).tk w S cs x1 y1 ∧ tkE w S (l.drop (j + 1)) b (o + (j + 1) * 6) x2 y2 ∧ xs = x1 ++ x2 ∧ ys = y1 ++ y2 := by
  rw [List.drop_eq_getElem_cons hj, tkE] at h
  rw [show o + (j + 1) * 6 = o + j * 6 + 6 by omega]
  exact h
theorem tkF_at {w : World} {S : Nat → Prop} {l : List Mem} {b o j : Nat} {xs ys : List Value} (hj : j < l.length) (h : tkF w S (l.drop j) b (o + j * 7) xs ys) : S b ∧ ∃ cs x1 y1 x2 y2, rowAt w b (o + j * 7) (.string (l[j]).1 :: cs) ∧ (l[j]).2.tk w S cs x1 y1 ∧ tkF w S (l.drop (j + 1)) b (o + (j + 1) * 7) x2 y2 ∧ xs = x1 ++ x2 ∧ ys = y1 ++ y2 := by
  rw [List.drop_eq_getElem_cons hj] at h
  rw [show o + (j + 1) * 7 = o + j * 7 + 7 by omega]
  revert h
  generalize l[j] = q
  obtain ⟨qk, qv⟩ := q
  intro h
  rw [tkF] at h
  exact h
set_option maxHeartbeats 4000000 in
set_option maxRecDepth 100000 in
theorem take_any (v : V) : ∀ (M B : Nat) (S : Nat → Prop) (cs xs ys ls ms : List Value) (sl sm : Value) (W : World), v.tk W S cs xs ys → (∀ y, S y → y < B ∧ y ≠ M) → M < B → B ≤ W.heap.size → RowsAt M B sl sm ls ms W → ls.length + xs.length ≤ 1000000000000 → ms.length + ys.length ≤ 1000000000000 →
    Calls Tryd.prog 20 #[.pointer (some ⟨M, 0, none⟩), .agg cs.toArray] W (TkPost M B sl sm (ls ++ xs) (ms ++ ys) W) := by
  induction v using V.ind_v with
  | h k b i s l m ihl ihm =>
  intro M B S cs xs ys ls ms sl sm W htk hS hM hB hR hn1 hn2
  rw [V.tk] at htk
  obtain ⟨al, cl, bl, ol, am, cm, bm, om, x1, y1, x2, y2, rfl, hal, ham, hE, hF, rfl, rfl⟩ := htk
  have hll : l.length ≤ 9223372036854775807 := Nat.le_trans hal.le hal.max
  have hml : m.length ≤ 9223372036854775807 := Nat.le_trans ham.le ham.max
  simp only [List.length_append, List.length_singleton] at hn1 hn2
  have B0 : Below W.heap.size W (W.alloc (.cells #[.int .i64 k, .bool b, .int .i64 i, .string s, .slice al l.length cl, .slice am m.length cm] 25)) := one_belowG _ _
  have hz0 : (W.alloc (.cells #[.int .i64 k, .bool b, .int .i64 i, .string s, .slice al l.length cl, .slice am m.length cm] 25)).heap.size = W.heap.size + 1 := alloc_size _ _
  have hb0 := heap_alloc_new W (.cells #[.int .i64 k, .bool b, .int .i64 i, .string s, .slice al l.length cl, .slice am m.length cm] 25)
  have hW : ∀ y, S y → y < W.heap.size := fun y hy => by have := hS y hy; omega
  have HE : Hid (tkE (W.alloc (.cells #[.int .i64 k, .bool b, .int .i64 i, .string s, .slice al l.length cl, .slice am m.length cm] 25)) S l bl ol x1 y1) := tkE_keep (fun y hy => B0.block y (hW y hy)) (fun _ h => h) l hE
  have HF : Hid (tkF (W.alloc (.cells #[.int .i64 k, .bool b, .int .i64 i, .string s, .slice al l.length cl, .slice am m.length cm] 25)) S m bm om x2 y2) := tkF_keep (fun y hy => B0.block y (hW y hy)) (fun _ h => h) m hF
  have hR0 := hR.below B0
  have T0 : TkR M sl sm sl sm W (W.alloc (.cells #[.int .i64 k, .bool b, .int .i64 i, .string s, .slice al l.length cl, .slice am m.length cm] 25)) := TkR.of_below B0
  have ol_ : ∀ y, sl.ownBlock = some y → B ≤ y ∧ y < W.heap.size := fun y e => ⟨(owns_at hR.l e).1, by obtain ⟨_, c, e2⟩ := owns_at hR.l e; exact heap_lt e2⟩
  have om_ : ∀ y, sm.ownBlock = some y → B ≤ y ∧ y < W.heap.size := fun y e => ⟨(owns_at hR.m e).1, by obtain ⟨_, c, e2⟩ := owns_at hR.m e; exact heap_lt e2⟩
  have HK : Hid (∀ (sa sb : Value) (wr : World), TkR M sl sm sa sb (W.alloc (.cells #[.int .i64 k, .bool b, .int .i64 i, .string s, .slice al l.length cl, .slice am m.length cm] 25)) wr → wr.heap[W.heap.size]? = some (.cells #[.int .i64 k, .bool b, .int .i64 i, .string s, .slice al l.length cl, .slice am m.length cm] 25) ∧ (∀ y, S y → wr.heap[y]? = (W.alloc (.cells #[.int .i64 k, .bool b, .int .i64 i, .string s, .slice al l.length cl, .slice am m.length cm] 25)).heap[y]?) ∧ B ≤ wr.heap.size) := by
    intro sa sb wr T
    refine ⟨(T.blk _ (by omega) (by omega) (fun e => by have := ol_ _ e; omega) (fun e => by have := om_ _ e; omega)).trans hb0, fun y hy => T.blk y (by have := hW y hy; omega) (hS y hy).2 (fun e => by have := ol_ _ e; have := hS y hy; omega) (fun e => by have := om_ _ e; have := hS y hy; omega), by have := T.size; omega⟩
  have IHL := hmk ihl
  have IHM := hmk ihm
  have HS := hmk hS
  clear hE hF hR B0 hb0 hW ol_ om_ ihl ihm hS
  go_enter Tryd.func20, Tryd.ntmps20
  go_wp2_with fail
  generalize (W.alloc (.cells #[.int .i64 k, .bool b, .int .i64 i, .string s, .slice al l.length cl, .slice am m.length cm] 25)) = w0 at *
  go_loopw [4] (fun e wr => ∃ (j : Nat) (xa ya xr yr : List Value) (sa sb : Value), j ≤ l.length ∧ e = .int .i64 (j : Int) ∧ x1 = xa ++ xr ∧ y1 = ya ++ yr ∧ Hid (tkE w0 S (l.drop j) bl (ol + j * 6) xr yr) ∧ RowsAt M B sa sb (ls ++ xa) (ms ++ ya) wr ∧ TkR M sl sm sa sb w0 wr) (fun e _ => l.length - (RowKit.intOf e).toNat)
  case atStart => exact ⟨0, [], [], x1, y1, sl, sm, by omega, rfl, rfl, rfl, by rw [List.drop_zero, Nat.zero_mul, Nat.add_zero]; exact HE, by rw [List.append_nil, List.append_nil]; exact hR0, TkR.of_below (Below.refl _ _)⟩
  case round =>
    obtain ⟨j, xa, ya, xr, yr, sa, sb, hj, rfl, rfl, rfl, HT, hRr, hTr⟩ := hrel
    obtain ⟨hbN, hkS, hBr⟩ := HK.out sa sb wr hTr
    have c4 : wr.cell? ⟨W.heap.size, 4, none⟩ = some (.slice al l.length cl) := by rw [cell_of_block hbN]; rfl
    have c5 : wr.cell? ⟨W.heap.size, 5, none⟩ = some (.slice am m.length cm) := by rw [cell_of_block hbN]; rfl
    by_cases hjl : j < l.length
    · have y1 : (j : Int) < l.length := by omega
      obtain ⟨hSb, csj, xj, yj, xt, yt, hrow, htj, htt, rfl, rfl⟩ := tkE_at hjl HT.out
      obtain rfl : al = some ⟨bl, ol, none⟩ := hal.at_.resolve_left (by omega)
      obtain ⟨ek, eb, ei, es, eal, enl, ecl, eam, enm, ecm, rfl⟩ := tk_ten htj
      obtain ⟨q0, q1, q2, q3, q4, q5⟩ := row6 (hrow.keep (hkS _ hSb))
      simp only [List.length_append] at hn1 hn2
      have IC := IHL.out l[j] (List.getElem_mem hjl) M B S _ xj yj (ls ++ xa) (ms ++ ya) sa sb wr (V.tk_keep hkS (fun _ h => h) _ htj) HS.out hM hBr hRr (by rw [List.length_append]; omega) (by rw [List.length_append]; omega)
      have HTT := hmk htt
      clear htj htt hrow HT hkS
      go_wp2_with fail
      refine IC.mono ?_
      rintro e w3 ⟨rfl, sc, sd, hR3, hT3⟩
      clear IC
      have hT4 := hTr.trans hT3
      clear hbN c4 c5 q0 q1 q2 q3 q4 q5
      go_wp2_with fail
      go_roundw
      case rel => exact ⟨j + 1, xa ++ xj, ya ++ yj, xt, yt, sc, sd, by omega, by go_num, by rw [List.append_assoc], by rw [List.append_assoc], HTT, by rw [← List.append_assoc, ← List.append_assoc]; exact hR3, hT4⟩
      case measure => simp [RowKit.intOf]; omega
    · obtain rfl : j = l.length := by omega
      have y1 : ¬ (l.length : Int) < l.length := by omega
      have hz : xr = [] ∧ yr = [] := by have h := HT.out; rw [List.drop_length, tkE] at h; exact h
      obtain ⟨rfl, rfl⟩ := hz
      clear HT hbN hkS
      go_wp2_with fail
      clear c4 c5
      rename World => wA
      have hTA := hTr
      simp only [List.append_nil] at hn1 hn2 ⊢
      go_loopw [5] (fun e wr => ∃ (j : Nat) (xb yb xr yr : List Value) (sc sd : Value), j ≤ m.length ∧ e = .int .i64 (j : Int) ∧ x2 = xb ++ xr ∧ y2 = yb ++ yr ∧ Hid (tkF w0 S (m.drop j) bm (om + j * 7) xr yr) ∧ RowsAt M B sc sd (ls ++ xa ++ xb) (ms ++ ya ++ yb) wr ∧ TkR M sl sm sc sd w0 wr) (fun e _ => m.length - (RowKit.intOf e).toNat)
      case atStart => exact ⟨0, [], [], x2, y2, sa, sb, by omega, rfl, rfl, rfl, by rw [List.drop_zero, Nat.zero_mul, Nat.add_zero]; exact HF, by rw [List.append_nil, List.append_nil]; exact hRr, hTr⟩
      case round =>
        clear hRr hTr hTA
        obtain ⟨j, xb, yb, xr, yr, sc, sd, hj, rfl, rfl, rfl, HT, hRr, hTr⟩ := hrel
        obtain ⟨hbN, hkS, hBr⟩ := HK.out sc sd wr hTr
        have c4 : wr.cell? ⟨W.heap.size, 4, none⟩ = some (.slice al l.length cl) := by rw [cell_of_block hbN]; rfl
        have c5 : wr.cell? ⟨W.heap.size, 5, none⟩ = some (.slice am m.length cm) := by rw [cell_of_block hbN]; rfl
        by_cases hjl : j < m.length
        · have y1 : (j : Int) < m.length := by omega
          obtain ⟨hSb, csj, xj, yj, xt, yt, hrow, htj, htt, rfl, rfl⟩ := tkF_at hjl HT.out
          obtain rfl : am = some ⟨bm, om, none⟩ := ham.at_.resolve_left (by omega)
          obtain ⟨ek, eb, ei, es, eal, enl, ecl, eam, enm, ecm, rfl⟩ := tk_ten htj
          obtain ⟨q, q0, q1, q2, q3, q4, q5⟩ := row7 (hrow.keep (hkS _ hSb))
          simp only [List.length_append] at hn1 hn2
          have IC := IHM.out m[j] (List.getElem_mem hjl) M B S _ xj yj (ls ++ xa ++ xb) (ms ++ ya ++ yb) sc sd wr (V.tk_keep hkS (fun _ h => h) _ htj) HS.out hM hBr hRr (by rw [List.length_append, List.length_append]; omega) (by rw [List.length_append, List.length_append]; omega)
          have HTT := hmk htt
          generalize (m[j]).1 = key at *
          clear htj htt hrow HT hkS
          go_wp2_with fail
          refine IC.mono ?_
          rintro e w3 ⟨rfl, se, sf, hR3, hT3⟩
          clear IC
          have hT4 := hTr.trans hT3
          clear hbN c4 c5 q q0 q1 q2 q3 q4 q5
          go_wp2_with fail
          go_roundw
          case rel => exact ⟨j + 1, xb ++ xj, yb ++ yj, xt, yt, se, sf, by omega, by go_num, by rw [List.append_assoc], by rw [List.append_assoc], HTT, by rw [← List.append_assoc, ← List.append_assoc]; exact hR3, hT4⟩
          case measure => simp [RowKit.intOf]; omega
        · obtain rfl : j = m.length := by omega
          have y1 : ¬ (m.length : Int) < m.length := by omega
          have hz : xr = [] ∧ yr = [] := by have h := HT.out; rw [List.drop_length, tkF] at h; exact h
          obtain ⟨rfl, rfl⟩ := hz
          clear HT hkS
          simp only [List.append_nil] at hn1 hn2 ⊢
          obtain ⟨L0, hL0⟩ : ∃ L0, ls ++ xa ++ xb = L0 := ⟨_, rfl⟩
          obtain ⟨M0, hM0⟩ : ∃ M0, ms ++ ya ++ yb = M0 := ⟨_, rfl⟩
          have hLn : L0.length + 1 ≤ 1000000000000 := by rw [← hL0]; simp only [List.length_append]; omega
          have hMn : M0.length + 1 ≤ 1000000000000 := by rw [← hM0]; simp only [List.length_append]; omega
          rw [hL0, hM0] at hRr
          have hL1 : L0 ++ [.slice al l.length cl] = ls ++ (xa ++ (xb ++ [.slice al l.length cl])) := by rw [← hL0]; simp only [List.append_assoc]
          have hM1 : M0 ++ [.slice am m.length cm] = ms ++ (ya ++ (yb ++ [.slice am m.length cm])) := by rw [← hM0]; simp only [List.append_assoc]
          go_wp2_with fail
          clear c4 c5
          rename World => wB
          have hbNwB := hbN
          have bAwB : Below wB.heap.size wB (wB.alloc (.cells #[.slice al l.length cl] 22)).drew := (one_belowG wB _).drew
          have nbwB : (wB.alloc (.cells #[.slice al l.length cl] 22)).drew.heap[wB.heap.size]? = some (.cells #[.slice al l.length cl] 22) := heap_alloc_new wB _
          have R2wB := hRr.below bAwB
          have hNswB : W.heap.size < wB.heap.size := heap_lt hbNwB
          have hNowB : (sc).ownBlock ≠ some W.heap.size := fun e => by
            obtain ⟨_, c, e2⟩ := owns_at hRr.l e
            rw [hbNwB] at e2
            simp at e2
          have hN2wB := (bAwB.block W.heap.size hNswB).trans hbNwB
          have m0wB : wB.cell? ⟨M, 0, none⟩ = some (sc) := by rw [cell_of_block hRr.b]; rfl
          have m2wB : ∀ o, (wB.alloc o).cell? ⟨M, 0, none⟩ = some (sc) := fun o => (World.cell?_of_block (w := wB) (a := ⟨M, 0, none⟩) (Below.heap_alloc wB o M (heap_lt hRr.b))).trans m0wB
          refine wp_region_held_drew (S := fun W' => W'.heap[W.heap.size]? = some (.cells #[.int .i64 k, .bool b, .int .i64 i, .string s, .slice al l.length cl, .slice am m.length cm] 25)) (by kernel_rfl) hbNwB (fun hHeld => ?_)
          (refine wpAnyH_take (i := 0) (v := ?_) rfl (by kernel_rfl) (by kernel_rfl) (by kernel_rfl) (fun _ _ _ h => h) (Or.inl ⟨by kernel_rfl, ?_⟩) (by assumption) ?_; rotate_left 1; (intro W0 hSw; (try dsimp only at hSw); go_simp; (try with_reducible rfl)); (try simp only [Act.put, List.setIfInBounds_toArray, List.set_cons_zero, List.set_cons_succ]))
          (refine wpAnyH_take (i := 1) (v := ?_) rfl (by kernel_rfl) (by kernel_rfl) (by kernel_rfl) (fun _ _ _ h => h) (Or.inl ⟨by kernel_rfl, ?_⟩) (by assumption) ?_; rotate_left 1; (intro W0 hSw; (try dsimp only at hSw); go_simp; (try with_reducible rfl)); (try simp only [Act.put, List.setIfInBounds_toArray, List.set_cons_zero, List.set_cons_succ]))
          (refine wpAnyH_take (i := 2) (v := ?_) rfl (by kernel_rfl) (by kernel_rfl) (by kernel_rfl) (fun _ _ _ h => h) (Or.inl ⟨by kernel_rfl, ?_⟩) (by assumption) ?_; rotate_left 1; (intro W0 hSw; (try dsimp only at hSw); go_simp; (try with_reducible rfl)); (try simp only [Act.put, List.setIfInBounds_toArray, List.set_cons_zero, List.set_cons_succ]))
          (refine wpAnyH_take (i := 3) (v := ?_) rfl (by kernel_rfl) (by kernel_rfl) (by kernel_rfl) (fun _ _ _ h => h) (Or.inl ⟨by kernel_rfl, ?_⟩) (by assumption) ?_; rotate_left 1; (intro W0 hSw; (try dsimp only at hSw); go_simp; (try with_reducible rfl)); (try simp only [Act.put, List.setIfInBounds_toArray, List.set_cons_zero, List.set_cons_succ]))
          (refine wpAnyH_take (i := 5) (v := ?_) rfl (by kernel_rfl) (by kernel_rfl) (by kernel_rfl) (fun _ _ _ h => h) (Or.inl ⟨by kernel_rfl, ?_⟩) (by assumption) ?_; rotate_left 1; (intro W0 hSw; (try dsimp only at hSw); go_simp; (try with_reducible rfl)); (try simp only [Act.put, List.setIfInBounds_toArray, List.set_cons_zero, List.set_cons_succ]))
          (refine wpAnyH_take (i := 6) (v := ?_) rfl (by kernel_rfl) (by kernel_rfl) (by kernel_rfl) (fun _ _ _ h => h) (Or.inl ⟨by kernel_rfl, ?_⟩) (by assumption) ?_; rotate_left 1; (intro W0 hSw; (have o9 : W0.cell? ⟨W.heap.size, 4, none⟩ = some (.slice al l.length cl) := by rw [cell_of_block hSw]; rfl); go_simp; (try with_reducible rfl)); (try simp only [Act.put, List.setIfInBounds_toArray, List.set_cons_zero, List.set_cons_succ]))
          refine wpAnyH_ready (rs := [4, 7]) (by kernel_rfl) (by simp) ?_
          refine AllReadyH.cons rfl (fun K hK => ?_) (AllReadyH.cons rfl (fun K hK => ?_) AllReadyH.nil)
          · go_simp
            refine hK.out _ _ hbNwB (fun hHeld => ?_)
            clear hK K
            (try simp only [Act.put, List.setIfInBounds_toArray, List.set_cons_zero, List.set_cons_succ])
            refine wpAnyH_ready (rs := [7]) (by kernel_rfl) (by simp) ?_
            refine AllReadyH.cons rfl (fun K hK => ?_) AllReadyH.nil
            go_simp
            refine hK.out _ _ hN2wB (fun hHeld => ?_)
            clear hK K
            (try simp only [Act.put, List.setIfInBounds_toArray, List.set_cons_zero, List.set_cons_succ])
            generalize (wB.alloc (.cells #[.slice al l.length cl] 22)).drew = wca at *
            refine wpAnyH_ready (rs := [8]) (by kernel_rfl) (by simp) ?_
            refine AllReadyH.cons rfl (fun K hK => ?_) AllReadyH.nil
            refine step_slL rfl (.tmp 39) (.tmp 42) rfl B (sc) (L0).length (L0) rfl R2wB.l wB.heap.size _ _ _ rfl nbwB (by omega) (by have := bAwB.size; omega) ?_
            intro ga capa wda h5a g5a l5a
            have hN5a := (g5a.block W.heap.size (by have := bAwB.size; omega) (fun e => hNowB e.symm)).trans hN2wB
            refine hK.out _ _ hN5a (fun hHeld => ?_)
            clear hK K
            (try simp only [Act.put, List.setIfInBounds_toArray, List.set_cons_zero, List.set_cons_succ])
            have hMoa : (sc).ownBlock ≠ some M := fun e => by have := (owns_at hRr.l e).1; omega
            have hM5a := (g5a.block M (heap_lt R2wB.b) (fun e => hMoa e.symm)).trans R2wB.b
            have c5a : wda.cell? ⟨M, 0, none⟩ = some (sc) := by rw [cell_of_block hM5a]; rfl
            have f5a : wda.frozen? ⟨M, 0, none⟩ = false := frozen_of_block hM5a 0
            obtain ⟨R6a, T6a⟩ := rows_pushL hRr hM bAwB h5a g5a l5a
            have hN6a : (wda.setCell ⟨M, 0, none⟩ (.slice (some ⟨ga, 0, none⟩) ((L0).length + 1) capa)).heap[W.heap.size]? = some (.cells #[.int .i64 k, .bool b, .int .i64 i, .string s, .slice al l.length cl, .slice am m.length cm] 25) := by rw [set_other (show W.heap.size ≠ M by omega)]; exact hN5a
            have T7a := hTr.trans T6a
            (refine wpAnyH_take (i := 9) (v := ?_) rfl (by kernel_rfl) (by kernel_rfl) (by kernel_rfl) (fun _ _ _ h => h) (Or.inl ⟨by kernel_rfl, ?_⟩) (by assumption) ?_; rotate_left 1; (intro W0 hSw; (try dsimp only at hSw); go_simp; (try with_reducible rfl)); (try simp only [Act.put, List.setIfInBounds_toArray, List.set_cons_zero, List.set_cons_succ]))
            (refine wpAnyH_take (i := 10) (v := ?_) rfl (by kernel_rfl) (by kernel_rfl) (by kernel_rfl) (fun _ _ _ h => h) (Or.inl ⟨by kernel_rfl, ?_⟩) (by assumption) ?_; rotate_left 1; (intro W0 hSw; (try dsimp only at hSw); go_simp; (try with_reducible rfl)); (try simp only [Act.put, List.setIfInBounds_toArray, List.set_cons_zero, List.set_cons_succ]))
            refine wpAnyH_ready (rs := [11]) (by kernel_rfl) (by simp) ?_
            refine AllReadyH.cons rfl (fun K hK => ?_) AllReadyH.nil
            go_simp
            refine hK.out _ _ hN6a (fun hHeld => ?_)
            clear hK K
            (try simp only [Act.put, List.setIfInBounds_toArray, List.set_cons_zero, List.set_cons_succ])
            refine wpAnyH_done (by kernel_rfl) ?_ _
            (try dsimp only [Act.put, List.getElem_toArray, List.getElem_cons_succ, List.getElem_cons_zero, List.setIfInBounds_toArray, List.set_cons_zero, List.set_cons_succ])
            clear hHeld c5a f5a h5a g5a l5a hM5a hN5a hMoa
            generalize (wda.setCell ⟨M, 0, none⟩ (.slice (some ⟨ga, 0, none⟩) ((L0).length + 1) capa)) = wea at *
            go_wp2_with fail
            have hbNwea := hN6a
            have bAwea : Below wea.heap.size wea (wea.alloc (.cells #[.slice am m.length cm] 23)).drew := (one_belowG wea _).drew
            have nbwea : (wea.alloc (.cells #[.slice am m.length cm] 23)).drew.heap[wea.heap.size]? = some (.cells #[.slice am m.length cm] 23) := heap_alloc_new wea _
            have R2wea := R6a.below bAwea
            have hNswea : W.heap.size < wea.heap.size := heap_lt hbNwea
            have hNowea : (sd).ownBlock ≠ some W.heap.size := fun e => by
              obtain ⟨_, c, e2⟩ := owns_at R6a.m e
              rw [hbNwea] at e2
              simp at e2
            have hN2wea := (bAwea.block W.heap.size hNswea).trans hbNwea
            have m0wea : wea.cell? ⟨M, 1, none⟩ = some (sd) := by rw [cell_of_block R6a.b]; rfl
            have m2wea : ∀ o, (wea.alloc o).cell? ⟨M, 1, none⟩ = some (sd) := fun o => (World.cell?_of_block (w := wea) (a := ⟨M, 1, none⟩) (Below.heap_alloc wea o M (heap_lt R6a.b))).trans m0wea
            refine wp_region_held_drew (S := fun W' => W'.heap[W.heap.size]? = some (.cells #[.int .i64 k, .bool b, .int .i64 i, .string s, .slice al l.length cl, .slice am m.length cm] 25)) (by kernel_rfl) hbNwea (fun hHeld => ?_)
            (refine wpAnyH_take (i := 0) (v := ?_) rfl (by kernel_rfl) (by kernel_rfl) (by kernel_rfl) (fun _ _ _ h => h) (Or.inl ⟨by kernel_rfl, ?_⟩) (by assumption) ?_; rotate_left 1; (intro W0 hSw; (try dsimp only at hSw); go_simp; (try with_reducible rfl)); (try simp only [Act.put, List.setIfInBounds_toArray, List.set_cons_zero, List.set_cons_succ]))
            (refine wpAnyH_take (i := 1) (v := ?_) rfl (by kernel_rfl) (by kernel_rfl) (by kernel_rfl) (fun _ _ _ h => h) (Or.inl ⟨by kernel_rfl, ?_⟩) (by assumption) ?_; rotate_left 1; (intro W0 hSw; (try dsimp only at hSw); go_simp; (try with_reducible rfl)); (try simp only [Act.put, List.setIfInBounds_toArray, List.set_cons_zero, List.set_cons_succ]))
            (refine wpAnyH_take (i := 2) (v := ?_) rfl (by kernel_rfl) (by kernel_rfl) (by kernel_rfl) (fun _ _ _ h => h) (Or.inl ⟨by kernel_rfl, ?_⟩) (by assumption) ?_; rotate_left 1; (intro W0 hSw; (try dsimp only at hSw); go_simp; (try with_reducible rfl)); (try simp only [Act.put, List.setIfInBounds_toArray, List.set_cons_zero, List.set_cons_succ]))
            (refine wpAnyH_take (i := 3) (v := ?_) rfl (by kernel_rfl) (by kernel_rfl) (by kernel_rfl) (fun _ _ _ h => h) (Or.inl ⟨by kernel_rfl, ?_⟩) (by assumption) ?_; rotate_left 1; (intro W0 hSw; (try dsimp only at hSw); go_simp; (try with_reducible rfl)); (try simp only [Act.put, List.setIfInBounds_toArray, List.set_cons_zero, List.set_cons_succ]))
            (refine wpAnyH_take (i := 5) (v := ?_) rfl (by kernel_rfl) (by kernel_rfl) (by kernel_rfl) (fun _ _ _ h => h) (Or.inl ⟨by kernel_rfl, ?_⟩) (by assumption) ?_; rotate_left 1; (intro W0 hSw; (try dsimp only at hSw); go_simp; (try with_reducible rfl)); (try simp only [Act.put, List.setIfInBounds_toArray, List.set_cons_zero, List.set_cons_succ]))
            (refine wpAnyH_take (i := 6) (v := ?_) rfl (by kernel_rfl) (by kernel_rfl) (by kernel_rfl) (fun _ _ _ h => h) (Or.inl ⟨by kernel_rfl, ?_⟩) (by assumption) ?_; rotate_left 1; (intro W0 hSw; (have o9 : W0.cell? ⟨W.heap.size, 5, none⟩ = some (.slice am m.length cm) := by rw [cell_of_block hSw]; rfl); go_simp; (try with_reducible rfl)); (try simp only [Act.put, List.setIfInBounds_toArray, List.set_cons_zero, List.set_cons_succ]))
            refine wpAnyH_ready (rs := [4, 7]) (by kernel_rfl) (by simp) ?_
            refine AllReadyH.cons rfl (fun K hK => ?_) (AllReadyH.cons rfl (fun K hK => ?_) AllReadyH.nil)
            · go_simp
              refine hK.out _ _ hbNwea (fun hHeld => ?_)
              clear hK K
              (try simp only [Act.put, List.setIfInBounds_toArray, List.set_cons_zero, List.set_cons_succ])
              refine wpAnyH_ready (rs := [7]) (by kernel_rfl) (by simp) ?_
              refine AllReadyH.cons rfl (fun K hK => ?_) AllReadyH.nil
              go_simp
              refine hK.out _ _ hN2wea (fun hHeld => ?_)
              clear hK K
              (try simp only [Act.put, List.setIfInBounds_toArray, List.set_cons_zero, List.set_cons_succ])
              generalize (wea.alloc (.cells #[.slice am m.length cm] 23)).drew = wcaa at *
              refine wpAnyH_ready (rs := [8]) (by kernel_rfl) (by simp) ?_
              refine AllReadyH.cons rfl (fun K hK => ?_) AllReadyH.nil
              refine step_slM rfl (.tmp 50) (.tmp 53) rfl B (sd) (M0).length (M0) rfl R2wea.m wea.heap.size _ _ _ rfl nbwea (by omega) (by have := bAwea.size; omega) ?_
              intro gaa capaa wdaa h5aa g5aa l5aa
              have hN5aa := (g5aa.block W.heap.size (by have := bAwea.size; omega) (fun e => hNowea e.symm)).trans hN2wea
              refine hK.out _ _ hN5aa (fun hHeld => ?_)
              clear hK K
              (try simp only [Act.put, List.setIfInBounds_toArray, List.set_cons_zero, List.set_cons_succ])
              have hMoaa : (sd).ownBlock ≠ some M := fun e => by have := (owns_at R6a.m e).1; omega
              have hM5aa := (g5aa.block M (heap_lt R2wea.b) (fun e => hMoaa e.symm)).trans R2wea.b
              have c5aa : wdaa.cell? ⟨M, 1, none⟩ = some (sd) := by rw [cell_of_block hM5aa]; rfl
              have f5aa : wdaa.frozen? ⟨M, 1, none⟩ = false := frozen_of_block hM5aa 1
              obtain ⟨R6aa, T6aa⟩ := rows_pushM R6a hM bAwea h5aa g5aa l5aa
              have hN6aa : (wdaa.setCell ⟨M, 1, none⟩ (.slice (some ⟨gaa, 0, none⟩) ((M0).length + 1) capaa)).heap[W.heap.size]? = some (.cells #[.int .i64 k, .bool b, .int .i64 i, .string s, .slice al l.length cl, .slice am m.length cm] 25) := by rw [set_other (show W.heap.size ≠ M by omega)]; exact hN5aa
              have T7aa := T7a.trans T6aa
              (refine wpAnyH_take (i := 9) (v := ?_) rfl (by kernel_rfl) (by kernel_rfl) (by kernel_rfl) (fun _ _ _ h => h) (Or.inl ⟨by kernel_rfl, ?_⟩) (by assumption) ?_; rotate_left 1; (intro W0 hSw; (try dsimp only at hSw); go_simp; (try with_reducible rfl)); (try simp only [Act.put, List.setIfInBounds_toArray, List.set_cons_zero, List.set_cons_succ]))
              (refine wpAnyH_take (i := 10) (v := ?_) rfl (by kernel_rfl) (by kernel_rfl) (by kernel_rfl) (fun _ _ _ h => h) (Or.inl ⟨by kernel_rfl, ?_⟩) (by assumption) ?_; rotate_left 1; (intro W0 hSw; (try dsimp only at hSw); go_simp; (try with_reducible rfl)); (try simp only [Act.put, List.setIfInBounds_toArray, List.set_cons_zero, List.set_cons_succ]))
              refine wpAnyH_ready (rs := [11]) (by kernel_rfl) (by simp) ?_
              refine AllReadyH.cons rfl (fun K hK => ?_) AllReadyH.nil
              go_simp
              refine hK.out _ _ hN6aa (fun hHeld => ?_)
              clear hK K
              (try simp only [Act.put, List.setIfInBounds_toArray, List.set_cons_zero, List.set_cons_succ])
              refine wpAnyH_done (by kernel_rfl) ?_ _
              (try dsimp only [Act.put, List.getElem_toArray, List.getElem_cons_succ, List.getElem_cons_zero, List.setIfInBounds_toArray, List.set_cons_zero, List.set_cons_succ])
              clear hHeld c5aa f5aa h5aa g5aa l5aa hM5aa hN5aa hMoaa
              generalize (wdaa.setCell ⟨M, 1, none⟩ (.slice (some ⟨gaa, 0, none⟩) ((M0).length + 1) capaa)) = weaa at *
              go_wp2_with fail
              (try simp only [Exit.inBlock, Exit.then])
              refine bodyPost_ret (v := .tuple #[]) (results_none rfl _ _ _) rfl ?_
              refine ⟨rfl, _, _, ?_, T0.trans T7aa⟩
              simp only [List.append_assoc, List.append_nil]
              rw [← hL1, ← hM1]
              exact R6aa
            · go_simp
              refine hK.out _ _ hN2wea (fun hHeld => ?_)
              clear hK K
              (try simp only [Act.put, List.setIfInBounds_toArray, List.set_cons_zero, List.set_cons_succ])
              refine wpAnyH_ready (rs := [4]) (by kernel_rfl) (by simp) ?_
              refine AllReadyH.cons rfl (fun K hK => ?_) AllReadyH.nil
              go_simp
              refine hK.out _ _ hN2wea (fun hHeld => ?_)
              clear hK K
              (try simp only [Act.put, List.setIfInBounds_toArray, List.set_cons_zero, List.set_cons_succ])
              generalize (wea.alloc (.cells #[.slice am m.length cm] 23)).drew = wcab at *
              refine wpAnyH_ready (rs := [8]) (by kernel_rfl) (by simp) ?_
              refine AllReadyH.cons rfl (fun K hK => ?_) AllReadyH.nil
              refine step_slM rfl (.tmp 50) (.tmp 53) rfl B (sd) (M0).length (M0) rfl R2wea.m wea.heap.size _ _ _ rfl nbwea (by omega) (by have := bAwea.size; omega) ?_
              intro gab capab wdab h5ab g5ab l5ab
              have hN5ab := (g5ab.block W.heap.size (by have := bAwea.size; omega) (fun e => hNowea e.symm)).trans hN2wea
              refine hK.out _ _ hN5ab (fun hHeld => ?_)
              clear hK K
              (try simp only [Act.put, List.setIfInBounds_toArray, List.set_cons_zero, List.set_cons_succ])
              have hMoab : (sd).ownBlock ≠ some M := fun e => by have := (owns_at R6a.m e).1; omega
              have hM5ab := (g5ab.block M (heap_lt R2wea.b) (fun e => hMoab e.symm)).trans R2wea.b
              have c5ab : wdab.cell? ⟨M, 1, none⟩ = some (sd) := by rw [cell_of_block hM5ab]; rfl
              have f5ab : wdab.frozen? ⟨M, 1, none⟩ = false := frozen_of_block hM5ab 1
              obtain ⟨R6ab, T6ab⟩ := rows_pushM R6a hM bAwea h5ab g5ab l5ab
              have hN6ab : (wdab.setCell ⟨M, 1, none⟩ (.slice (some ⟨gab, 0, none⟩) ((M0).length + 1) capab)).heap[W.heap.size]? = some (.cells #[.int .i64 k, .bool b, .int .i64 i, .string s, .slice al l.length cl, .slice am m.length cm] 25) := by rw [set_other (show W.heap.size ≠ M by omega)]; exact hN5ab
              have T7ab := T7a.trans T6ab
              (refine wpAnyH_take (i := 9) (v := ?_) rfl (by kernel_rfl) (by kernel_rfl) (by kernel_rfl) (fun _ _ _ h => h) (Or.inl ⟨by kernel_rfl, ?_⟩) (by assumption) ?_; rotate_left 1; (intro W0 hSw; (try dsimp only at hSw); go_simp; (try with_reducible rfl)); (try simp only [Act.put, List.setIfInBounds_toArray, List.set_cons_zero, List.set_cons_succ]))
              (refine wpAnyH_take (i := 10) (v := ?_) rfl (by kernel_rfl) (by kernel_rfl) (by kernel_rfl) (fun _ _ _ h => h) (Or.inl ⟨by kernel_rfl, ?_⟩) (by assumption) ?_; rotate_left 1; (intro W0 hSw; (try dsimp only at hSw); go_simp; (try with_reducible rfl)); (try simp only [Act.put, List.setIfInBounds_toArray, List.set_cons_zero, List.set_cons_succ]))
              refine wpAnyH_ready (rs := [11]) (by kernel_rfl) (by simp) ?_
              refine AllReadyH.cons rfl (fun K hK => ?_) AllReadyH.nil
              go_simp
              refine hK.out _ _ hN6ab (fun hHeld => ?_)
              clear hK K
              (try simp only [Act.put, List.setIfInBounds_toArray, List.set_cons_zero, List.set_cons_succ])
              refine wpAnyH_done (by kernel_rfl) ?_ _
              (try dsimp only [Act.put, List.getElem_toArray, List.getElem_cons_succ, List.getElem_cons_zero, List.setIfInBounds_toArray, List.set_cons_zero, List.set_cons_succ])
              clear hHeld c5ab f5ab h5ab g5ab l5ab hM5ab hN5ab hMoab
              generalize (wdab.setCell ⟨M, 1, none⟩ (.slice (some ⟨gab, 0, none⟩) ((M0).length + 1) capab)) = weab at *
              go_wp2_with fail
              (try simp only [Exit.inBlock, Exit.then])
              refine bodyPost_ret (v := .tuple #[]) (results_none rfl _ _ _) rfl ?_
              refine ⟨rfl, _, _, ?_, T0.trans T7ab⟩
              simp only [List.append_assoc, List.append_nil]
              rw [← hL1, ← hM1]
              exact R6ab
          · go_simp
            refine hK.out _ _ hN2wB (fun hHeld => ?_)
            clear hK K
            (try simp only [Act.put, List.setIfInBounds_toArray, List.set_cons_zero, List.set_cons_succ])
            refine wpAnyH_ready (rs := [4]) (by kernel_rfl) (by simp) ?_
            refine AllReadyH.cons rfl (fun K hK => ?_) AllReadyH.nil
            go_simp
            refine hK.out _ _ hN2wB (fun hHeld => ?_)
            clear hK K
            (try simp only [Act.put, List.setIfInBounds_toArray, List.set_cons_zero, List.set_cons_succ])
            generalize (wB.alloc (.cells #[.slice al l.length cl] 22)).drew = wcb at *
            refine wpAnyH_ready (rs := [8]) (by kernel_rfl) (by simp) ?_
            refine AllReadyH.cons rfl (fun K hK => ?_) AllReadyH.nil
            refine step_slL rfl (.tmp 39) (.tmp 42) rfl B (sc) (L0).length (L0) rfl R2wB.l wB.heap.size _ _ _ rfl nbwB (by omega) (by have := bAwB.size; omega) ?_
            intro gb capb wdb h5b g5b l5b
            have hN5b := (g5b.block W.heap.size (by have := bAwB.size; omega) (fun e => hNowB e.symm)).trans hN2wB
            refine hK.out _ _ hN5b (fun hHeld => ?_)
            clear hK K
            (try simp only [Act.put, List.setIfInBounds_toArray, List.set_cons_zero, List.set_cons_succ])
            have hMob : (sc).ownBlock ≠ some M := fun e => by have := (owns_at hRr.l e).1; omega
            have hM5b := (g5b.block M (heap_lt R2wB.b) (fun e => hMob e.symm)).trans R2wB.b
            have c5b : wdb.cell? ⟨M, 0, none⟩ = some (sc) := by rw [cell_of_block hM5b]; rfl
            have f5b : wdb.frozen? ⟨M, 0, none⟩ = false := frozen_of_block hM5b 0
            obtain ⟨R6b, T6b⟩ := rows_pushL hRr hM bAwB h5b g5b l5b
            have hN6b : (wdb.setCell ⟨M, 0, none⟩ (.slice (some ⟨gb, 0, none⟩) ((L0).length + 1) capb)).heap[W.heap.size]? = some (.cells #[.int .i64 k, .bool b, .int .i64 i, .string s, .slice al l.length cl, .slice am m.length cm] 25) := by rw [set_other (show W.heap.size ≠ M by omega)]; exact hN5b
            have T7b := hTr.trans T6b
            (refine wpAnyH_take (i := 9) (v := ?_) rfl (by kernel_rfl) (by kernel_rfl) (by kernel_rfl) (fun _ _ _ h => h) (Or.inl ⟨by kernel_rfl, ?_⟩) (by assumption) ?_; rotate_left 1; (intro W0 hSw; (try dsimp only at hSw); go_simp; (try with_reducible rfl)); (try simp only [Act.put, List.setIfInBounds_toArray, List.set_cons_zero, List.set_cons_succ]))
            (refine wpAnyH_take (i := 10) (v := ?_) rfl (by kernel_rfl) (by kernel_rfl) (by kernel_rfl) (fun _ _ _ h => h) (Or.inl ⟨by kernel_rfl, ?_⟩) (by assumption) ?_; rotate_left 1; (intro W0 hSw; (try dsimp only at hSw); go_simp; (try with_reducible rfl)); (try simp only [Act.put, List.setIfInBounds_toArray, List.set_cons_zero, List.set_cons_succ]))
            refine wpAnyH_ready (rs := [11]) (by kernel_rfl) (by simp) ?_
            refine AllReadyH.cons rfl (fun K hK => ?_) AllReadyH.nil
            go_simp
            refine hK.out _ _ hN6b (fun hHeld => ?_)
            clear hK K
            (try simp only [Act.put, List.setIfInBounds_toArray, List.set_cons_zero, List.set_cons_succ])
            refine wpAnyH_done (by kernel_rfl) ?_ _
            (try dsimp only [Act.put, List.getElem_toArray, List.getElem_cons_succ, List.getElem_cons_zero, List.setIfInBounds_toArray, List.set_cons_zero, List.set_cons_succ])
            clear hHeld c5b f5b h5b g5b l5b hM5b hN5b hMob
            generalize (wdb.setCell ⟨M, 0, none⟩ (.slice (some ⟨gb, 0, none⟩) ((L0).length + 1) capb)) = web at *
            go_wp2_with fail
            have hbNweb := hN6b
            have bAweb : Below web.heap.size web (web.alloc (.cells #[.slice am m.length cm] 23)).drew := (one_belowG web _).drew
            have nbweb : (web.alloc (.cells #[.slice am m.length cm] 23)).drew.heap[web.heap.size]? = some (.cells #[.slice am m.length cm] 23) := heap_alloc_new web _
            have R2web := R6b.below bAweb
            have hNsweb : W.heap.size < web.heap.size := heap_lt hbNweb
            have hNoweb : (sd).ownBlock ≠ some W.heap.size := fun e => by
              obtain ⟨_, c, e2⟩ := owns_at R6b.m e
              rw [hbNweb] at e2
              simp at e2
            have hN2web := (bAweb.block W.heap.size hNsweb).trans hbNweb
            have m0web : web.cell? ⟨M, 1, none⟩ = some (sd) := by rw [cell_of_block R6b.b]; rfl
            have m2web : ∀ o, (web.alloc o).cell? ⟨M, 1, none⟩ = some (sd) := fun o => (World.cell?_of_block (w := web) (a := ⟨M, 1, none⟩) (Below.heap_alloc web o M (heap_lt R6b.b))).trans m0web
            refine wp_region_held_drew (S := fun W' => W'.heap[W.heap.size]? = some (.cells #[.int .i64 k, .bool b, .int .i64 i, .string s, .slice al l.length cl, .slice am m.length cm] 25)) (by kernel_rfl) hbNweb (fun hHeld => ?_)
            (refine wpAnyH_take (i := 0) (v := ?_) rfl (by kernel_rfl) (by kernel_rfl) (by kernel_rfl) (fun _ _ _ h => h) (Or.inl ⟨by kernel_rfl, ?_⟩) (by assumption) ?_; rotate_left 1; (intro W0 hSw; (try dsimp only at hSw); go_simp; (try with_reducible rfl)); (try simp only [Act.put, List.setIfInBounds_toArray, List.set_cons_zero, List.set_cons_succ]))
            (refine wpAnyH_take (i := 1) (v := ?_) rfl (by kernel_rfl) (by kernel_rfl) (by kernel_rfl) (fun _ _ _ h => h) (Or.inl ⟨by kernel_rfl, ?_⟩) (by assumption) ?_; rotate_left 1; (intro W0 hSw; (try dsimp only at hSw); go_simp; (try with_reducible rfl)); (try simp only [Act.put, List.setIfInBounds_toArray, List.set_cons_zero, List.set_cons_succ]))
            (refine wpAnyH_take (i := 2) (v := ?_) rfl (by kernel_rfl) (by kernel_rfl) (by kernel_rfl) (fun _ _ _ h => h) (Or.inl ⟨by kernel_rfl, ?_⟩) (by assumption) ?_; rotate_left 1; (intro W0 hSw; (try dsimp only at hSw); go_simp; (try with_reducible rfl)); (try simp only [Act.put, List.setIfInBounds_toArray, List.set_cons_zero, List.set_cons_succ]))
            (refine wpAnyH_take (i := 3) (v := ?_) rfl (by kernel_rfl) (by kernel_rfl) (by kernel_rfl) (fun _ _ _ h => h) (Or.inl ⟨by kernel_rfl, ?_⟩) (by assumption) ?_; rotate_left 1; (intro W0 hSw; (try dsimp only at hSw); go_simp; (try with_reducible rfl)); (try simp only [Act.put, List.setIfInBounds_toArray, List.set_cons_zero, List.set_cons_succ]))
            (refine wpAnyH_take (i := 5) (v := ?_) rfl (by kernel_rfl) (by kernel_rfl) (by kernel_rfl) (fun _ _ _ h => h) (Or.inl ⟨by kernel_rfl, ?_⟩) (by assumption) ?_; rotate_left 1; (intro W0 hSw; (try dsimp only at hSw); go_simp; (try with_reducible rfl)); (try simp only [Act.put, List.setIfInBounds_toArray, List.set_cons_zero, List.set_cons_succ]))
            (refine wpAnyH_take (i := 6) (v := ?_) rfl (by kernel_rfl) (by kernel_rfl) (by kernel_rfl) (fun _ _ _ h => h) (Or.inl ⟨by kernel_rfl, ?_⟩) (by assumption) ?_; rotate_left 1; (intro W0 hSw; (have o9 : W0.cell? ⟨W.heap.size, 5, none⟩ = some (.slice am m.length cm) := by rw [cell_of_block hSw]; rfl); go_simp; (try with_reducible rfl)); (try simp only [Act.put, List.setIfInBounds_toArray, List.set_cons_zero, List.set_cons_succ]))
            refine wpAnyH_ready (rs := [4, 7]) (by kernel_rfl) (by simp) ?_
            refine AllReadyH.cons rfl (fun K hK => ?_) (AllReadyH.cons rfl (fun K hK => ?_) AllReadyH.nil)
            · go_simp
              refine hK.out _ _ hbNweb (fun hHeld => ?_)
              clear hK K
              (try simp only [Act.put, List.setIfInBounds_toArray, List.set_cons_zero, List.set_cons_succ])
              refine wpAnyH_ready (rs := [7]) (by kernel_rfl) (by simp) ?_
              refine AllReadyH.cons rfl (fun K hK => ?_) AllReadyH.nil
              go_simp
              refine hK.out _ _ hN2web (fun hHeld => ?_)
              clear hK K
              (try simp only [Act.put, List.setIfInBounds_toArray, List.set_cons_zero, List.set_cons_succ])
              generalize (web.alloc (.cells #[.slice am m.length cm] 23)).drew = wcba at *
              refine wpAnyH_ready (rs := [8]) (by kernel_rfl) (by simp) ?_
              refine AllReadyH.cons rfl (fun K hK => ?_) AllReadyH.nil
              refine step_slM rfl (.tmp 50) (.tmp 53) rfl B (sd) (M0).length (M0) rfl R2web.m web.heap.size _ _ _ rfl nbweb (by omega) (by have := bAweb.size; omega) ?_
              intro gba capba wdba h5ba g5ba l5ba
              have hN5ba := (g5ba.block W.heap.size (by have := bAweb.size; omega) (fun e => hNoweb e.symm)).trans hN2web
              refine hK.out _ _ hN5ba (fun hHeld => ?_)
              clear hK K
              (try simp only [Act.put, List.setIfInBounds_toArray, List.set_cons_zero, List.set_cons_succ])
              have hMoba : (sd).ownBlock ≠ some M := fun e => by have := (owns_at R6b.m e).1; omega
              have hM5ba := (g5ba.block M (heap_lt R2web.b) (fun e => hMoba e.symm)).trans R2web.b
              have c5ba : wdba.cell? ⟨M, 1, none⟩ = some (sd) := by rw [cell_of_block hM5ba]; rfl
              have f5ba : wdba.frozen? ⟨M, 1, none⟩ = false := frozen_of_block hM5ba 1
              obtain ⟨R6ba, T6ba⟩ := rows_pushM R6b hM bAweb h5ba g5ba l5ba
              have hN6ba : (wdba.setCell ⟨M, 1, none⟩ (.slice (some ⟨gba, 0, none⟩) ((M0).length + 1) capba)).heap[W.heap.size]? = some (.cells #[.int .i64 k, .bool b, .int .i64 i, .string s, .slice al l.length cl, .slice am m.length cm] 25) := by rw [set_other (show W.heap.size ≠ M by omega)]; exact hN5ba
              have T7ba := T7b.trans T6ba
              (refine wpAnyH_take (i := 9) (v := ?_) rfl (by kernel_rfl) (by kernel_rfl) (by kernel_rfl) (fun _ _ _ h => h) (Or.inl ⟨by kernel_rfl, ?_⟩) (by assumption) ?_; rotate_left 1; (intro W0 hSw; (try dsimp only at hSw); go_simp; (try with_reducible rfl)); (try simp only [Act.put, List.setIfInBounds_toArray, List.set_cons_zero, List.set_cons_succ]))
              (refine wpAnyH_take (i := 10) (v := ?_) rfl (by kernel_rfl) (by kernel_rfl) (by kernel_rfl) (fun _ _ _ h => h) (Or.inl ⟨by kernel_rfl, ?_⟩) (by assumption) ?_; rotate_left 1; (intro W0 hSw; (try dsimp only at hSw); go_simp; (try with_reducible rfl)); (try simp only [Act.put, List.setIfInBounds_toArray, List.set_cons_zero, List.set_cons_succ]))
              refine wpAnyH_ready (rs := [11]) (by kernel_rfl) (by simp) ?_
              refine AllReadyH.cons rfl (fun K hK => ?_) AllReadyH.nil
              go_simp
              refine hK.out _ _ hN6ba (fun hHeld => ?_)
              clear hK K
              (try simp only [Act.put, List.setIfInBounds_toArray, List.set_cons_zero, List.set_cons_succ])
              refine wpAnyH_done (by kernel_rfl) ?_ _
              (try dsimp only [Act.put, List.getElem_toArray, List.getElem_cons_succ, List.getElem_cons_zero, List.setIfInBounds_toArray, List.set_cons_zero, List.set_cons_succ])
              clear hHeld c5ba f5ba h5ba g5ba l5ba hM5ba hN5ba hMoba
              generalize (wdba.setCell ⟨M, 1, none⟩ (.slice (some ⟨gba, 0, none⟩) ((M0).length + 1) capba)) = weba at *
              go_wp2_with fail
              (try simp only [Exit.inBlock, Exit.then])
              refine bodyPost_ret (v := .tuple #[]) (results_none rfl _ _ _) rfl ?_
              refine ⟨rfl, _, _, ?_, T0.trans T7ba⟩
              simp only [List.append_assoc, List.append_nil]
              rw [← hL1, ← hM1]
              exact R6ba
            · go_simp
              refine hK.out _ _ hN2web (fun hHeld => ?_)
              clear hK K
              (try simp only [Act.put, List.setIfInBounds_toArray, List.set_cons_zero, List.set_cons_succ])
              refine wpAnyH_ready (rs := [4]) (by kernel_rfl) (by simp) ?_
              refine AllReadyH.cons rfl (fun K hK => ?_) AllReadyH.nil
              go_simp
              refine hK.out _ _ hN2web (fun hHeld => ?_)
              clear hK K
              (try simp only [Act.put, List.setIfInBounds_toArray, List.set_cons_zero, List.set_cons_succ])
              generalize (web.alloc (.cells #[.slice am m.length cm] 23)).drew = wcbb at *
              refine wpAnyH_ready (rs := [8]) (by kernel_rfl) (by simp) ?_
              refine AllReadyH.cons rfl (fun K hK => ?_) AllReadyH.nil
              refine step_slM rfl (.tmp 50) (.tmp 53) rfl B (sd) (M0).length (M0) rfl R2web.m web.heap.size _ _ _ rfl nbweb (by omega) (by have := bAweb.size; omega) ?_
              intro gbb capbb wdbb h5bb g5bb l5bb
              have hN5bb := (g5bb.block W.heap.size (by have := bAweb.size; omega) (fun e => hNoweb e.symm)).trans hN2web
              refine hK.out _ _ hN5bb (fun hHeld => ?_)
              clear hK K
              (try simp only [Act.put, List.setIfInBounds_toArray, List.set_cons_zero, List.set_cons_succ])
              have hMobb : (sd).ownBlock ≠ some M := fun e => by have := (owns_at R6b.m e).1; omega
              have hM5bb := (g5bb.block M (heap_lt R2web.b) (fun e => hMobb e.symm)).trans R2web.b
              have c5bb : wdbb.cell? ⟨M, 1, none⟩ = some (sd) := by rw [cell_of_block hM5bb]; rfl
              have f5bb : wdbb.frozen? ⟨M, 1, none⟩ = false := frozen_of_block hM5bb 1
              obtain ⟨R6bb, T6bb⟩ := rows_pushM R6b hM bAweb h5bb g5bb l5bb
              have hN6bb : (wdbb.setCell ⟨M, 1, none⟩ (.slice (some ⟨gbb, 0, none⟩) ((M0).length + 1) capbb)).heap[W.heap.size]? = some (.cells #[.int .i64 k, .bool b, .int .i64 i, .string s, .slice al l.length cl, .slice am m.length cm] 25) := by rw [set_other (show W.heap.size ≠ M by omega)]; exact hN5bb
              have T7bb := T7b.trans T6bb
              (refine wpAnyH_take (i := 9) (v := ?_) rfl (by kernel_rfl) (by kernel_rfl) (by kernel_rfl) (fun _ _ _ h => h) (Or.inl ⟨by kernel_rfl, ?_⟩) (by assumption) ?_; rotate_left 1; (intro W0 hSw; (try dsimp only at hSw); go_simp; (try with_reducible rfl)); (try simp only [Act.put, List.setIfInBounds_toArray, List.set_cons_zero, List.set_cons_succ]))
              (refine wpAnyH_take (i := 10) (v := ?_) rfl (by kernel_rfl) (by kernel_rfl) (by kernel_rfl) (fun _ _ _ h => h) (Or.inl ⟨by kernel_rfl, ?_⟩) (by assumption) ?_; rotate_left 1; (intro W0 hSw; (try dsimp only at hSw); go_simp; (try with_reducible rfl)); (try simp only [Act.put, List.setIfInBounds_toArray, List.set_cons_zero, List.set_cons_succ]))
              refine wpAnyH_ready (rs := [11]) (by kernel_rfl) (by simp) ?_
              refine AllReadyH.cons rfl (fun K hK => ?_) AllReadyH.nil
              go_simp
              refine hK.out _ _ hN6bb (fun hHeld => ?_)
              clear hK K
              (try simp only [Act.put, List.setIfInBounds_toArray, List.set_cons_zero, List.set_cons_succ])
              refine wpAnyH_done (by kernel_rfl) ?_ _
              (try dsimp only [Act.put, List.getElem_toArray, List.getElem_cons_succ, List.getElem_cons_zero, List.setIfInBounds_toArray, List.set_cons_zero, List.set_cons_succ])
              clear hHeld c5bb f5bb h5bb g5bb l5bb hM5bb hN5bb hMobb
              generalize (wdbb.setCell ⟨M, 1, none⟩ (.slice (some ⟨gbb, 0, none⟩) ((M0).length + 1) capbb)) = webb at *
              go_wp2_with fail
              (try simp only [Exit.inBlock, Exit.then])
              refine bodyPost_ret (v := .tuple #[]) (results_none rfl _ _ _) rfl ?_
              refine ⟨rfl, _, _, ?_, T0.trans T7bb⟩
              simp only [List.append_assoc, List.append_nil]
              rw [← hL1, ← hM1]
              exact R6bb
end Go.Proofs.YthgfomblodhoaaaDoor
