import Derived.Test.YtgnofbigggmilaaGreatDoorPutW
/- pointer.ready with one value more; pointer.split. -/
set_option linter.unusedSimpArgs false
set_option linter.unusedVariables false
namespace Go.Proofs.YtgnofbigggmilaaGreatDoor
open Go.RowKit Go.Lib
def Rd2Post (rd : Int) (o : Option (List (List UInt8))) (w : World) (e : Ending) (w' : World) : Prop := ∃ (tv : Value) (l : List ByteArray), e = .returned (.tuple #[tv, .int .i64 rd]) ∧ (rd = 0 → dat l = o.getD []) ∧ (rd ≠ 0 → tv = .slice none 0 0 ∧ l = []) ∧ LiesS w' tv l ∧ Below w.heap.size w w'
set_option maxHeartbeats 1600000 in
set_option maxRecDepth 100000 in
theorem ready2_any (v : V) (p : ByteArray) (x : V) (S : Nat → Prop) (cs ds : List Value) (M : Nat) (w : World) (tb : Tb w) (tp : Tp w) (hv : v.lies false w S cs) (hx : x.lies false w S ds) (hrow : rowAt w M 0 ds) (hM : M < w.heap.size) (hS : ∀ b, S b → b < w.heap.size) (hwt : v.wt ≤ 1099511627776) (hwx : x.wt ≤ 1099511627776) (hp : p.size ≤ 1100000) : Calls Tryz.prog 36 #[.agg cs.toArray, .string p, .slice (some ⟨M, 0, none⟩) 1 1] w (Rd2Post (rd2F v p x) (parF p.data.toList) w) := by
  have HV := hmk hv
  have HX : Hid (∀ W, Below w.heap.size w W → Calls Tryz.prog 20 #[.agg ds.toArray, .int .i64 40] W (NPost (chkE x 40) W)) := fun W hb => check_any false x 40 S _ W (tb.below hb tb.z) (lies_below hx hS hb) (fun y hy => Nat.lt_of_lt_of_le (hS y hy) hb.size) hwx
  obtain ⟨k, b, i, s, al, nl, cl, am, nm, cm, rfl⟩ := V.ten hv
  obtain ⟨xk, xb, xi, xs, xal, xnl, xcl, xam, xnm, xcm, rfl⟩ := V.ten hx
  clear hv hx
  have B0 : Below w.heap.size w (w.alloc (.cells #[.int .i64 k, .bool b, .int .i64 i, .string s, .slice al nl cl, .slice am nm cm] 25)) := one_belowG w _
  have hz0 : w.heap.size < (w.alloc (.cells #[.int .i64 k, .bool b, .int .i64 i, .string s, .slice al nl cl, .slice am nm cm] 25)).heap.size := by rw [alloc_size]; omega
  have h0 : (w.alloc (.cells #[.int .i64 k, .bool b, .int .i64 i, .string s, .slice al nl cl, .slice am nm cm] 25)).heap[w.heap.size]? = _ := heap_alloc_new w _
  have HC := hmk (check_any false v 40 S _ (w.alloc (.cells #[.int .i64 k, .bool b, .int .i64 i, .string s, .slice al nl cl, .slice am nm cm] 25)) (tb.below B0 tb.z) (lies_below HV.out hS B0) (fun x hx => Nat.lt_of_lt_of_le (hS x hx) B0.size) hwt)
  have HP : Hid (∀ W, Below w.heap.size w W → Calls Tryz.prog 30 #[.string p] W (PaPost (parF p.data.toList) W)) := fun W hb => pparse_any p W (by omega) (tp.below hb tp.z)
  have HR : Hid (rd2F v p x = if (if chkE v 40 = 0 then (if (parF p.data.toList).isSome then 0 else 40) else (chkE v 40 : Int)) = 0 then (chkE x 40 : Int) else (if chkE v 40 = 0 then (if (parF p.data.toList).isSome then 0 else 40) else (chkE v 40 : Int))) := by show _ = _; rfl
  generalize rd2F v p x = rd at *
  generalize chkE v 40 = ce at *
  generalize chkE x 40 = cx at *
  generalize parF p.data.toList = O at *
  clear tb tp hwt
  have r0 : (w.alloc (.cells #[.int .i64 k, .bool b, .int .i64 i, .string s, .slice al nl cl, .slice am nm cm] 25)).cell? ⟨w.heap.size, 0, none⟩ = some (.int .i64 k) := by rw [cell_of_block h0]; rfl
  have r1 : (w.alloc (.cells #[.int .i64 k, .bool b, .int .i64 i, .string s, .slice al nl cl, .slice am nm cm] 25)).cell? ⟨w.heap.size, 1, none⟩ = some (.bool b) := by rw [cell_of_block h0]; rfl
  have r2 : (w.alloc (.cells #[.int .i64 k, .bool b, .int .i64 i, .string s, .slice al nl cl, .slice am nm cm] 25)).cell? ⟨w.heap.size, 2, none⟩ = some (.int .i64 i) := by rw [cell_of_block h0]; rfl
  have r3 : (w.alloc (.cells #[.int .i64 k, .bool b, .int .i64 i, .string s, .slice al nl cl, .slice am nm cm] 25)).cell? ⟨w.heap.size, 3, none⟩ = some (.string s) := by rw [cell_of_block h0]; rfl
  have r4 : (w.alloc (.cells #[.int .i64 k, .bool b, .int .i64 i, .string s, .slice al nl cl, .slice am nm cm] 25)).cell? ⟨w.heap.size, 4, none⟩ = some (.slice al nl cl) := by rw [cell_of_block h0]; rfl
  have r5 : (w.alloc (.cells #[.int .i64 k, .bool b, .int .i64 i, .string s, .slice al nl cl, .slice am nm cm] 25)).cell? ⟨w.heap.size, 5, none⟩ = some (.slice am nm cm) := by rw [cell_of_block h0]; rfl
  go_enter Tryz.func36, Tryz.ntmps36
  go_wp2_with fail
  clear r0 r1 r2 r3 r4 r5
  generalize (w.alloc (.cells #[.int .i64 k, .bool b, .int .i64 i, .string s, .slice al nl cl, .slice am nm cm] 25)) = w0 at *
  refine HC.out.mono ?_
  rintro e w1 ⟨rfl, b1⟩
  have hz1 := b1.size
  have B1 := B0.trans (b1.mono (by omega))
  by_cases hce : ce = 0
  · subst hce
    go_wp2_with fail
    refine (HP.out w1 B1).mono ?_
    rintro e w2 ⟨tv, l, rfl, hd, hl, b2⟩
    have hz2 := b2.size
    have B2 := B1.trans (b2.mono (by omega))
    cases O with
    | none =>
      have HN : Hid (rd = 40) := by show _ = _; rw [HR.out]; simp
      go_wp2_with fail
      go_ret2
      exact ⟨_, [], by rw [HN.out]; rfl, (fun h => by rw [HN.out] at h; omega), (fun _ => ⟨rfl, rfl⟩), liesS_nil _, B2⟩
    | some o =>
      have HN : Hid (rd = (cx : Int)) := by show _ = _; rw [HR.out]; simp
      obtain ⟨c0, c1, c2, c3, c4, c5⟩ := row6z (fun q u hu => (B2.cell (p := ⟨M, _, none⟩) hM).trans (hrow q u hu))
      have bX : Below w2.heap.size w2 (w2.alloc (.cells #[.int .i64 xk, .bool xb, .int .i64 xi, .string xs, .slice xal xnl xcl, .slice xam xnm xcm] 25)) := one_belowG _ _
      have BX := B2.trans (bX.mono B2.size)
      have hX := heap_alloc_new w2 (.cells #[.int .i64 xk, .bool xb, .int .i64 xi, .string xs, .slice xal xnl xcl, .slice xam xnm xcm] 25)
      have e0 : (w2.alloc (.cells #[.int .i64 xk, .bool xb, .int .i64 xi, .string xs, .slice xal xnl xcl, .slice xam xnm xcm] 25)).cell? ⟨w2.heap.size, 0, none⟩ = some (.int .i64 xk) := by rw [cell_of_block hX]; rfl
      have e1 : (w2.alloc (.cells #[.int .i64 xk, .bool xb, .int .i64 xi, .string xs, .slice xal xnl xcl, .slice xam xnm xcm] 25)).cell? ⟨w2.heap.size, 1, none⟩ = some (.bool xb) := by rw [cell_of_block hX]; rfl
      have e2 : (w2.alloc (.cells #[.int .i64 xk, .bool xb, .int .i64 xi, .string xs, .slice xal xnl xcl, .slice xam xnm xcm] 25)).cell? ⟨w2.heap.size, 2, none⟩ = some (.int .i64 xi) := by rw [cell_of_block hX]; rfl
      have e3 : (w2.alloc (.cells #[.int .i64 xk, .bool xb, .int .i64 xi, .string xs, .slice xal xnl xcl, .slice xam xnm xcm] 25)).cell? ⟨w2.heap.size, 3, none⟩ = some (.string xs) := by rw [cell_of_block hX]; rfl
      have e4 : (w2.alloc (.cells #[.int .i64 xk, .bool xb, .int .i64 xi, .string xs, .slice xal xnl xcl, .slice xam xnm xcm] 25)).cell? ⟨w2.heap.size, 4, none⟩ = some (.slice xal xnl xcl) := by rw [cell_of_block hX]; rfl
      have e5 : (w2.alloc (.cells #[.int .i64 xk, .bool xb, .int .i64 xi, .string xs, .slice xal xnl xcl, .slice xam xnm xcm] 25)).cell? ⟨w2.heap.size, 5, none⟩ = some (.slice xam xnm xcm) := by rw [cell_of_block hX]; rfl
      have CX := hmk (HX.out _ BX)
      have hzX : w2.heap.size < (w2.alloc (.cells #[.int .i64 xk, .bool xb, .int .i64 xi, .string xs, .slice xal xnl xcl, .slice xam xnm xcm] 25)).heap.size := by rw [alloc_size]; omega
      go_wp2_with fail
      refine wp_loop_rounds 2 ?_
      rw [rounds_succ]
      go_wp2_with fail
      clear c0 c1 c2 c3 c4 c5 e0 e1 e2 e3 e4 e5 hX
      generalize (w2.alloc (.cells #[.int .i64 xk, .bool xb, .int .i64 xi, .string xs, .slice xal xnl xcl, .slice xam xnm xcm] 25)) = w3 at *
      refine CX.out.mono ?_
      rintro e w4 ⟨rfl, b4⟩
      have hz4 := b4.size
      have B4 := BX.trans (b4.mono BX.size)
      have b24 := bX.trans (b4.mono (by omega))
      by_cases hcx : cx = 0
      · subst hcx
        have HL := hmk (hl.below b24)
        go_wp2_with fail
        rw [rounds_succ]
        go_wp2_with fail
        go_ret2
        exact ⟨tv, l, by rw [HN.out]; rfl, (fun _ => hd), (fun h => absurd HN.out h), HL.out, B4⟩
      · have y1 : ¬ (cx : Int) = 0 := by omega
        go_wp2_with fail
        go_ret2
        exact ⟨_, [], by rw [HN.out]; rfl, (fun h => by rw [HN.out] at h; omega), (fun _ => ⟨rfl, rfl⟩), liesS_nil _, B4⟩
  · have HN : Hid (rd = (ce : Int)) := by show _ = _; rw [HR.out, if_neg hce, if_neg (by omega)]
    have y1 : ¬ (ce : Int) = 0 := by omega
    go_wp2_with fail
    go_ret2
    exact ⟨_, [], by rw [HN.out]; rfl, (fun h => by rw [HN.out] at h; omega), (fun _ => ⟨rfl, rfl⟩), liesS_nil _, B1⟩
/-- all but the last, and the last -/
theorem psplit_any (ts : List ByteArray) (tv : Value) (w : World) (hl : LiesS w tv ts) (hn : ts ≠ []) (hlen : ts.length ≤ 4000000) : Calls Tryz.prog 40 #[tv] w (fun e w' => ∃ ta : Value, e = .returned (.tuple #[ta, .string (lastT ts)]) ∧ TokAt w' ta ts.dropLast ∧ Below w.heap.size w w') := by
  obtain ⟨⟨_, _, _⟩, h2⟩ := hl
  have hpos : 0 < ts.length := List.length_pos_iff.2 hn
  obtain ⟨g, o, c, rfl, hc, hg, hcell⟩ := h2 hpos
  have x := hcell (ts.length - 1) (by omega)
  have e1 : ts[ts.length - 1]'(by omega) = lastT ts := by
    rw [lastT, List.getLastD_eq_getLast?, List.getLast?_eq_getElem?, List.getElem?_eq_getElem (by omega)]; rfl
  rw [e1] at x
  have HT : Hid (∀ W, Below w.heap.size w W → TokAt W (.slice (some ⟨g, o, none⟩) (ts.length - 1) c) ts.dropLast) := fun W hb => by
    by_cases h1 : ts.length = 1
    · refine .inl ⟨List.length_eq_zero_iff.1 (by rw [List.length_dropLast]; omega), some ⟨g, o, none⟩, c, by rw [h1]⟩
    · refine .inr ⟨by rw [List.length_dropLast]; omega, g, o, c, by rw [List.length_dropLast], by rw [List.length_dropLast]; omega, Nat.lt_of_lt_of_le hg hb.size, fun j hj => ?_⟩
      rw [List.length_dropLast] at hj
      rw [List.getElem_dropLast]
      exact (hb.cell (p := ⟨g, o + j, none⟩) hg).trans (hcell j (by omega))
  obtain ⟨n, hn'⟩ : ∃ n, ts.length = n + 1 := ⟨ts.length - 1, by omega⟩
  rw [hn'] at x HT hc ⊢
  simp only [Nat.add_sub_cancel] at x HT
  generalize lastT ts = la at *
  have y1 : (n : Int) ≤ c := by omega
  have y2 : ((n + 1 : Nat) : Int) - 1 = (n : Int) := by omega
  have y3 : (n : Int) < ((n + 1 : Nat) : Int) := by omega
  have y4 : ((n + 1 : Nat) : Int) = (n : Int) + 1 := by omega
  clear hcell
  go_enter Tryz.func40, Tryz.ntmps40
  go_wp2_with fail
  go_quiet (fail)
  go_wp2_with fail
  go_ret2
  exact ⟨_, rfl, HT.out _ (below_drewN _ _ _), below_drewN _ _ _⟩
end Go.Proofs.YtgnofbigggmilaaGreatDoor
