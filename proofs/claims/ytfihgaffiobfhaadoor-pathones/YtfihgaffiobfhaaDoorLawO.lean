import Derived.Test.YtfihgaffiobfhaaDoorLasD
/- PathOnes: the law's own walk. -/
set_option linter.unusedSimpArgs false
set_option linter.unusedVariables false
namespace Go.Proofs.YtfihgaffiobfhaaDoor
open Go.RowKit Go.Lib
theorem plast_any (p : List El) (S : Nat → Prop) (ap : Option Addr) (cp bp op : Nat) (w : World) (t : Td w) (hap : Headed ap p.length cp bp op) (hp : liesP w S p bp op) (hS : ∀ b, S b → b < w.heap.size) (hwt : wtP p ≤ 2147483647) :
    Calls Tryd.prog 8 #[.slice ap p.length cp] w (LaPost p w) := by
  cases hB : pathB p with
  | false => exact plast_bad p S ap cp bp op w t hap hp hS hwt (.inl hB)
  | true =>
    rcases Nat.eq_zero_or_pos p.length with h0 | h0
    · exact plast_bad p S ap cp bp op w t hap hp hS hwt (.inr h0)
    · exact plast_good p S ap cp bp op w t hap hp hS hwt hB (p.length - 1) (by omega)
theorem rlast_any (p : List El) (S : Nat → Prop) (ap : Option Addr) (cp bp op : Nat) (w : World) (hap : Headed ap p.length cp bp op) (hp : liesP w S p bp op) (hS : ∀ b, S b → b < w.heap.size) (hwt : wtP p ≤ 2147483647) :
    Calls Tryd.prog 9 #[.slice ap p.length cp] w (LaPost p w) := by
  cases hB : pathB p with
  | false => exact rlast_bad p S ap cp bp op w hap hp hS hwt (.inl hB)
  | true =>
    rcases Nat.eq_zero_or_pos p.length with h0 | h0
    · exact rlast_bad p S ap cp bp op w hap hp hS hwt (.inr h0)
    · exact rlast_good p S ap cp bp op w hap hp hS hwt hB (p.length - 1) (by omega)
set_option maxHeartbeats 8000000 in
set_option maxRecDepth 100000 in
theorem ones_walk (p : List El) (ap : Option Addr) (cp bp op : Nat) (w : World) (td : Td w) (hap : Headed ap p.length cp bp op) (hp : liesP w (Old w) p bp op) :
    Calls Tryd.prog 3 #[.slice ap p.length cp] w (BPost true w) := by
  have HP := hmk hp
  have HT := hmk td
  clear hp td
  have KP : Hid (∀ W, Below w.heap.size w W → liesP W (Old w) p bp op ∧ (∀ x, Old w x → x < W.heap.size) ∧ Td W) := fun W h =>
    ⟨liesP_keep (fun x hx => h.block x hx) (fun _ h => h) HP.out, fun x (hx : x < w.heap.size) => Nat.lt_of_lt_of_le hx h.size, HT.out.below h HT.out.z h.size⟩
  obtain ⟨k1, k3, k4⟩ := KP.out w (Below.refl _ _)
  have c1 := hmk (bpath_any p (Old w) ap cp bp op w hap k1 k3)
  clear k1 k3 k4
  go_enter Tryd.func3, Tryd.ntmps3
  go_wp2_with fail
  refine c1.out.mono ?_
  rintro e w1 ⟨r, rfl, hwp, b1⟩
  cases r
  case true =>
    go_wp2_with fail
    go_ret
    exact ⟨rfl, b1⟩
  replace hwp := hwp rfl
  obtain ⟨k1, k3, k4⟩ := KP.out w1 b1
  have c3 := hmk (twp_any p (Old w) ap cp bp op w1 hap k1 k3 hwp)
  clear k1 k3 k4 c1
  go_wp2_with fail
  refine c3.out.mono ?_
  rintro e w3 ⟨ap', cp', bp', op', rfl, hap', hp', b3⟩
  have B3 := b1.trans (b3.mono b1.size)
  have HP' := hmk hp'
  have hz1 := b1.size
  have hz3 := b3.size
  have HS1 : Hid (∀ x, Tw (Old w) w1 w3 x → x < w3.heap.size) := fun x hx => hx.elim (fun (h : x < w.heap.size) => by omega) (fun h => h.2)
  have K3 : Hid (∀ W, Below w3.heap.size w3 W → Below w.heap.size w W ∧ liesP W (Tw (Old w) w1 w3) p bp' op' ∧ (∀ x, Tw (Old w) w1 w3 x → x < W.heap.size)) := fun W h =>
    ⟨B3.trans (h.mono B3.size), liesP_keep (fun x hx => h.block x (HS1.out x hx)) (fun _ h => h) HP'.out, fun x hx => by have := HS1.out x hx; have := h.size; omega⟩
  clear hp' c3 b3 b1
  obtain ⟨k1, k3, k4⟩ := KP.out w3 B3
  have c4 := hmk (text_any p (Old w) ap cp bp op w3 k4 hap k1 k3 hwp)
  clear k1 k3 k4
  generalize hE : errP p = E at *
  go_wp2_with fail
  refine c4.out.mono ?_
  rintro e w4 ⟨rfl, b4⟩
  rw [hE]
  obtain ⟨j1, j2, j3⟩ := K3.out w4 b4
  have c5 := hmk (rptext_any p _ ap' cp' bp' op' w4 hap' j2 j3 hwp)
  clear j1 j2 j3 c4
  generalize hT : tT p = T at *
  go_wp2_with fail
  refine c5.out.mono ?_
  rintro e w5 ⟨rfl, b5⟩
  rw [hE, hT]
  have B5 := b4.trans (b5.mono b4.size)
  clear b4 b5 c5
  obtain ⟨j1, j2, j3⟩ := K3.out w5 B5
  obtain ⟨k1, k3, k4⟩ := KP.out w5 j1
  have c6 := hmk (plast_any p (Old w) ap cp bp op w5 k4 hap k1 k3 hwp)
  clear j1 j2 j3 k1 k3 k4
  go_wp2_with fail
  refine c6.out.mono ?_
  rintro e w6 ⟨aq, cq, bq, oq, ds, S6, rfl, haq, hq, hx, hS6, b6⟩
  have B6 := B5.trans (b6.mono B5.size)
  obtain ⟨kx, sx, amx, nmx, cmx, vkx, vbx, vix, vsx, valx, vnlx, vclx, vamx, vnmx, vcmx, rfl⟩ := El.nine hx
  have HQ := hmk hq
  have HX := hmk hx
  have HS6 : Hid (∀ y, S6 y → y < w6.heap.size) := hS6
  clear c6 hq hx hS6 b6
  have bSx : Below w6.heap.size w6 (w6.alloc (.cells #[.int .i64 kx, .string sx, .slice amx nmx cmx, .int .i64 vkx, .bool vbx, .int .i64 vix, .string vsx, .slice valx vnlx vclx, .slice vamx vnmx vcmx] 34)) := (Below.refl _ _).alloc (Nat.le_refl _) _
  have nSx := heap_alloc_new w6 (.cells #[.int .i64 kx, .string sx, .slice amx nmx cmx, .int .i64 vkx, .bool vbx, .int .i64 vix, .string vsx, .slice valx vnlx vclx, .slice vamx vnmx vcmx] 34)
  go_wp2_with fail
  generalize (w6.alloc (.cells #[.int .i64 kx, .string sx, .slice amx nmx cmx, .int .i64 vkx, .bool vbx, .int .i64 vix, .string vsx, .slice valx vnlx vclx, .slice vamx vnmx vcmx] 34)) = u6 at *
  have zSx : w6.heap.size < u6.heap.size := by
    rcases Nat.lt_or_ge w6.heap.size u6.heap.size with h | h
    · exact h
    · rw [Array.getElem?_eq_none h] at nSx; cases nSx
  have U6 := B6.trans (bSx.mono B6.size)
  obtain ⟨j1, j2, j3⟩ := K3.out u6 U6
  have c7 := hmk (rlast_any p _ ap' cp' bp' op' u6 hap' j2 j3 hwp)
  clear j1 j2 j3
  refine c7.out.mono ?_
  rintro e w7 ⟨ar, cr, br, or, es, S7, rfl, har, hr, hy, hS7, b7⟩
  have B7 := U6.trans (b7.mono U6.size)
  obtain ⟨ky, sy, amy, nmy, cmy, vky, vby, viy, vsy, valy, vnly, vcly, vamy, vnmy, vcmy, rfl⟩ := El.nine hy
  have HR := hmk hr
  have HY := hmk hy
  have HS7 : Hid (∀ y, S7 y → y < w7.heap.size) := hS7
  clear c7 hr hy hS7
  have bSy : Below w7.heap.size w7 (w7.alloc (.cells #[.int .i64 ky, .string sy, .slice amy nmy cmy, .int .i64 vky, .bool vby, .int .i64 viy, .string vsy, .slice valy vnly vcly, .slice vamy vnmy vcmy] 34)) := (Below.refl _ _).alloc (Nat.le_refl _) _
  have nSy := heap_alloc_new w7 (.cells #[.int .i64 ky, .string sy, .slice amy nmy cmy, .int .i64 vky, .bool vby, .int .i64 viy, .string vsy, .slice valy vnly vcly, .slice vamy vnmy vcmy] 34)
  go_wp2_with fail
  generalize (w7.alloc (.cells #[.int .i64 ky, .string sy, .slice amy nmy cmy, .int .i64 vky, .bool vby, .int .i64 viy, .string vsy, .slice valy vnly vcly, .slice vamy vnmy vcmy] 34)) = u7 at *
  have zSy : w7.heap.size < u7.heap.size := by
    rcases Nat.lt_or_ge w7.heap.size u7.heap.size with h | h
    · exact h
    · rw [Array.getElem?_eq_none h] at nSy; cases nSy
  have U7 := B7.trans (bSy.mono B7.size)
  have hzb := b7.size
  have hz6 := bSx.size
  have hz7 := bSy.size
  have KX : Hid (∀ W, Below u7.heap.size u7 W → Below w3.heap.size w3 W ∧ liesP W S6 (lasQ p) bq oq ∧ (lasX p).lies W S6 [.int .i64 kx, .string sx, .slice amx nmx cmx, .int .i64 vkx, .bool vbx, .int .i64 vix, .string vsx, .slice valx vnlx vclx, .slice vamx vnmx vcmx] ∧ liesP W S7 (lasQ p) br or ∧ (lasX p).lies W S7 [.int .i64 ky, .string sy, .slice amy nmy cmy, .int .i64 vky, .bool vby, .int .i64 viy, .string vsy, .slice valy vnly vcly, .slice vamy vnmy vcmy] ∧ (∀ y, S6 y → y < W.heap.size) ∧ (∀ y, S7 y → y < W.heap.size) ∧ W.heap[w6.heap.size]? = some (.cells #[.int .i64 kx, .string sx, .slice amx nmx cmx, .int .i64 vkx, .bool vbx, .int .i64 vix, .string vsx, .slice valx vnlx vclx, .slice vamx vnmx vcmx] 34 (0, 0)) ∧ W.heap[w7.heap.size]? = some (.cells #[.int .i64 ky, .string sy, .slice amy nmy cmy, .int .i64 vky, .bool vby, .int .i64 viy, .string vsy, .slice valy vnly vcly, .slice vamy vnmy vcmy] 34 (0, 0))) := fun W h => by
    have hzW := h.size
    have k6 : ∀ x, S6 x → W.heap[x]? = w6.heap[x]? := fun x hx => by
      have := HS6.out x hx
      exact (h.block x (by omega)).trans ((bSy.block x (by omega)).trans ((b7.block x (by omega)).trans (bSx.block x (by omega))))
    have k7 : ∀ x, S7 x → W.heap[x]? = w7.heap[x]? := fun x hx => by
      have := HS7.out x hx
      exact (h.block x (by omega)).trans (bSy.block x (by omega))
    exact ⟨U7.trans (h.mono U7.size), liesP_keep k6 (fun _ h => h) HQ.out, El.lies_keep k6 (fun _ h => h) HX.out, liesP_keep k7 (fun _ h => h) HR.out, El.lies_keep k7 (fun _ h => h) HY.out, fun y hy => by have := HS6.out y hy; omega, fun y hy => by have := HS7.out y hy; omega, (h.block _ (by omega)).trans ((bSy.block _ (by omega)).trans ((b7.block _ (by omega)).trans nSx)), (h.block _ (by omega)).trans nSy⟩
  clear bSx bSy nSx nSy zSx zSy b7 hzb hz6 hz7 B6 B7 U6
  obtain ⟨j1, j2, j3⟩ := K3.out u7 U7
  obtain ⟨k1, k3, k4⟩ := KP.out u7 j1
  have c8 := hmk (pcheck_any p (Old w) ap cp bp op u7 k4.tb hap k1 k3 hwp)
  rw [hE] at c8
  clear j1 j2 j3 k1 k3 k4
  refine c8.out.mono ?_
  rintro e w8 ⟨rfl, b8⟩
  obtain ⟨q1, q2, q3, q4, q5, q6, q7, q8, q9⟩ := KX.out w8 b8
  obtain ⟨j1, j2, j3⟩ := K3.out w8 q1
  have c9 := hmk (rpcheck_any p _ ap' cp' bp' op' w8 hap' j2 j3 hwp)
  rw [hE] at c9
  clear j1 j2 j3 q1 q2 q3 q4 q5 q6 q7 q8 q9 c8
  go_wp2_with fail
  refine c9.out.mono ?_
  rintro e w9 ⟨rfl, b9⟩
  have B9 := b8.trans (b9.mono b8.size)
  clear b8 b9 c9 hE hT
  obtain ⟨q1, q2, q3, q4, q5, q6, q7, q8, q9⟩ := KX.out w9 B9
  have c10 := hmk (psame_any (lasQ p) S6 S7 aq cq bq oq ar cr br or w9 haq q2 har q4 q6 q7)
  clear q1 q2 q3 q4 q5 q6 q7 q8 q9
  have yE : (((E : Nat) : Int) == (E : Int)) = true := by simp
  have yB : (lasB p == lasB p) = true := by simp
  go_wp2_with fail
  refine c10.out.mono ?_
  rintro e w10 ⟨rfl, b10⟩
  have B10 := B9.trans (b10.mono B9.size)
  clear b10 c10 B9
  obtain ⟨q1, q2, q3, q4, q5, q6, q7, q8, q9⟩ := KX.out w10 B10
  have c11 := hmk (esame_any (lasX p) S6 S7 _ _ w10 q3 q5 q6 q7)
  have dx0 : w10.cell? ⟨w6.heap.size, 0, none⟩ = some (.int .i64 kx) := cell_of_block q8 0
  have dy0 : w10.cell? ⟨w7.heap.size, 0, none⟩ = some (.int .i64 ky) := cell_of_block q9 0
  have dx1 : w10.cell? ⟨w6.heap.size, 1, none⟩ = some (.string sx) := cell_of_block q8 1
  have dy1 : w10.cell? ⟨w7.heap.size, 1, none⟩ = some (.string sy) := cell_of_block q9 1
  have dx2 : w10.cell? ⟨w6.heap.size, 2, none⟩ = some (.slice amx nmx cmx) := cell_of_block q8 2
  have dy2 : w10.cell? ⟨w7.heap.size, 2, none⟩ = some (.slice amy nmy cmy) := cell_of_block q9 2
  have dx3 : w10.cell? ⟨w6.heap.size, 3, none⟩ = some (.int .i64 vkx) := cell_of_block q8 3
  have dy3 : w10.cell? ⟨w7.heap.size, 3, none⟩ = some (.int .i64 vky) := cell_of_block q9 3
  have dx4 : w10.cell? ⟨w6.heap.size, 4, none⟩ = some (.bool vbx) := cell_of_block q8 4
  have dy4 : w10.cell? ⟨w7.heap.size, 4, none⟩ = some (.bool vby) := cell_of_block q9 4
  have dx5 : w10.cell? ⟨w6.heap.size, 5, none⟩ = some (.int .i64 vix) := cell_of_block q8 5
  have dy5 : w10.cell? ⟨w7.heap.size, 5, none⟩ = some (.int .i64 viy) := cell_of_block q9 5
  have dx6 : w10.cell? ⟨w6.heap.size, 6, none⟩ = some (.string vsx) := cell_of_block q8 6
  have dy6 : w10.cell? ⟨w7.heap.size, 6, none⟩ = some (.string vsy) := cell_of_block q9 6
  have dx7 : w10.cell? ⟨w6.heap.size, 7, none⟩ = some (.slice valx vnlx vclx) := cell_of_block q8 7
  have dy7 : w10.cell? ⟨w7.heap.size, 7, none⟩ = some (.slice valy vnly vcly) := cell_of_block q9 7
  have dx8 : w10.cell? ⟨w6.heap.size, 8, none⟩ = some (.slice vamx vnmx vcmx) := cell_of_block q8 8
  have dy8 : w10.cell? ⟨w7.heap.size, 8, none⟩ = some (.slice vamy vnmy vcmy) := cell_of_block q9 8
  clear q1 q2 q3 q4 q5 q6 q7 q8 q9
  go_wp2_with fail
  refine c11.out.mono ?_
  rintro e w11 ⟨rfl, b11⟩
  have B11 := B10.trans (b11.mono B10.size)
  clear b11 c11 B10 dx0 dx1 dx2 dx3 dx4 dx5 dx6 dx7 dx8 dy0 dy1 dy2 dy3 dy4 dy5 dy6 dy7 dy8
  obtain ⟨q1, q2, q3, q4, q5, q6, q7, q8, q9⟩ := KX.out w11 B11
  obtain ⟨j1, j2, j3⟩ := K3.out w11 q1
  obtain ⟨k1, k3, k4⟩ := KP.out w11 j1
  have c12 := hmk (psame_any p (Old w) _ ap cp bp op ap' cp' bp' op' w11 hap k1 hap' j2 k3 j3)
  have HB := hmk j1
  clear k1 k3 k4 j1 j2 j3 q1 q2 q3 q4 q5 q6 q7 q8 q9
  go_wp2_with fail
  refine c12.out.mono ?_
  rintro e w12 ⟨rfl, b12⟩
  go_wp2_with fail
  go_ret
  exact ⟨rfl, HB.out.trans (b12.mono HB.out.size)⟩
end Go.Proofs.YtfihgaffiobfhaaDoor
