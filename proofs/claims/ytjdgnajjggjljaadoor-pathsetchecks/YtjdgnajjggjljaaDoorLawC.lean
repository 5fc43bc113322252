import Derived.Test.YtjdgnajjggjljaaDoorSamS
/- PathsetChecks: the law's own walk. -/
set_option linter.unusedSimpArgs false
set_option linter.unusedVariables false
namespace Go.Proofs.YtjdgnajjggjljaaDoor
open Go.RowKit Go.Lib
set_option maxHeartbeats 8000000 in
set_option maxRecDepth 100000 in
theorem checks_walk (l : List (List El)) (p : List El) (al : Option Addr) (cl bl ol : Nat) (ap : Option Addr) (cp bp op : Nat) (w : World) (tb : Tb w) (hal : Headed al l.length cl bl ol) (hl : liesQ w (Old w) l bl ol) (hap : Headed ap p.length cp bp op) (hp : liesP w (Old w) p bp op) :
    Calls Tryd.prog 5 #[.slice al l.length cl, .slice ap p.length cp] w (BPost true w) := by
  have HL := hmk hl
  have HP := hmk hp
  have HT := hmk tb
  clear hl hp tb
  have KP : Hid (∀ W, Below w.heap.size w W → liesQ W (Old w) l bl ol ∧ liesP W (Old w) p bp op ∧ (∀ x, Old w x → x < W.heap.size) ∧ Tb W) := fun W h =>
    ⟨liesQ_keep (fun x hx => h.block x hx) (fun _ h => h) HL.out, liesP_keep (fun x hx => h.block x hx) (fun _ h => h) HP.out, fun x (hx : x < w.heap.size) => Nat.lt_of_lt_of_le hx h.size, HT.out.below h HT.out.z⟩
  obtain ⟨k1, k2, k3, k4⟩ := KP.out w (Below.refl _ _)
  have c1 := hmk (bpathsQ_any l (Old w) al cl bl ol w hal k1 k3)
  clear k1 k2 k3 k4
  go_enter Tryd.func5, Tryd.ntmps5
  go_wp2_with fail
  refine c1.out.mono ?_
  rintro e w1 ⟨r, rfl, hwl, b1⟩
  cases r
  case true =>
    go_wp2_with fail
    go_ret
    exact ⟨rfl, b1⟩
  replace hwl := hwl rfl
  obtain ⟨k1, k2, k3, k4⟩ := KP.out w1 b1
  have c2 := hmk (bpath_any p (Old w) ap cp bp op w1 hap k2 k3)
  clear k1 k2 k3 k4 c1
  go_wp2_with fail
  refine c2.out.mono ?_
  rintro e w2 ⟨r, rfl, hwp, b2⟩
  have B2 := b1.trans (b2.mono b1.size)
  clear b1 b2 c2
  cases r
  case true =>
    go_wp2_with fail
    go_ret
    exact ⟨rfl, B2⟩
  replace hwp := hwp rfl
  obtain ⟨k1, k2, k3, k4⟩ := KP.out w2 B2
  have c3 := hmk (twinq_any l (Old w) al cl bl ol w2 hal k1 k3 hwl)
  clear k1 k2 k3 k4
  go_wp2_with fail
  refine c3.out.mono ?_
  rintro e w3 ⟨al', cl', bl', ol', rfl, hal', hl', b3⟩
  have B3 := B2.trans (b3.mono B2.size)
  have HL' := hmk hl'
  have hz2 := B2.size
  have hz3 := b3.size
  have HS1 : Hid (∀ x, Tw (Old w) w2 w3 x → x < w3.heap.size) := fun x hx => hx.elim (fun (h : x < w.heap.size) => by omega) (fun h => h.2)
  have K3 : Hid (∀ W, Below w3.heap.size w3 W → Below w.heap.size w W ∧ liesQ W (Tw (Old w) w2 w3) l bl' ol' ∧ (∀ x, Tw (Old w) w2 w3 x → x < W.heap.size)) := fun W h =>
    ⟨B3.trans (h.mono B3.size), liesQ_keep (fun x hx => h.block x (HS1.out x hx)) (fun _ h => h) HL'.out, fun x hx => by have := HS1.out x hx; have := h.size; omega⟩
  clear hl' c3 b3 B2
  obtain ⟨j1, j2, j3⟩ := K3.out w3 (Below.refl _ _)
  have c4 := hmk (schk_any l (Tw (Old w) w2 w3) al' cl' bl' ol' w3 (KP.out w3 j1).2.2.2 hal' j2 j3 hwl)
  clear j1 j2 j3
  have HES := hmk (setC_cases l none)
  generalize hE : errS l = Es at *
  go_wp2_with fail
  refine c4.out.mono ?_
  rintro e w4 ⟨rfl, b4⟩
  obtain ⟨j1, j2, j3⟩ := K3.out w4 b4
  obtain ⟨k1, k2, k3, k4⟩ := KP.out w4 j1
  have c5 := hmk (rschk_any l (Old w) al cl bl ol w4 hal k1 k3 hwl)
  rw [hE] at c5
  clear j1 j2 j3 k1 k2 k3 k4 c4
  have yE : (((Es : Nat) : Int) != (Es : Int)) = false := by simp
  have HE := hmk hE
  clear hE
  go_wp2_with fail
  refine c5.out.mono ?_
  rintro e w5 ⟨rfl, b5⟩
  have B5 := b4.trans (b5.mono b4.size)
  clear b4 b5 c5
  obtain ⟨j1, j2, j3⟩ := K3.out w5 B5
  obtain ⟨k1, k2, k3, k4⟩ := KP.out w5 j1
  have c6 := hmk (twq_any p (Old w) ap cp bp op w5 hap k2 k3 hwp)
  clear j1 j2 j3 k1 k2 k3 k4
  go_wp2_with fail
  refine c6.out.mono ?_
  rintro e w6 ⟨ap', cp', bp', op', rfl, hap', hp', b6⟩
  have B6 := B5.trans (b6.mono B5.size)
  have hz6 := b6.size
  have hz5 := B5.size
  obtain ⟨j1, j2, j3⟩ := K3.out w6 B6
  have hS6 : ∀ x, Tw (Old w) w5 w6 x → x < w6.heap.size := fun x hx => hx.elim (fun (h : x < w.heap.size) => by omega) (fun h => h.2)
  have c7 := hmk (has_any l p (Tw (Old w) w2 w3) (Tw (Old w) w5 w6) al' cl' bl' ol' ap' cp' bp' op' w6 (KP.out w6 j1).2.2.2 hal' j2 hap' hp' j3 hS6 hwl hwp)
  clear j1 j2 j3 hp' b6 B5 c6
  generalize hH : hasB l p = Hs at *
  go_wp2_with fail
  refine c7.out.mono ?_
  rintro e w7 ⟨rfl, b7⟩
  have B7 := B6.trans (b7.mono B6.size)
  obtain ⟨j1, j2, j3⟩ := K3.out w7 B7
  obtain ⟨k1, k2, k3, k4⟩ := KP.out w7 j1
  have c8 := hmk (rhas_any l p (Old w) (Old w) al cl bl ol ap cp bp op w7 hal k1 hap k2 k3 k3 hwl hwp)
  rw [hH] at c8
  clear j1 j2 j3 k1 k2 k3 k4 c7 hH b7 B6
  have yH : (Hs != Hs) = false := by simp
  go_wp2_with fail
  refine c8.out.mono ?_
  rintro e w8 ⟨rfl, b8⟩
  have B8 := B7.trans (b8.mono B7.size)
  clear b8 c8 B7
  obtain ⟨j1, j2, j3⟩ := K3.out w8 B8
  have c9 := hmk (of_any l (Tw (Old w) w2 w3) al' cl' bl' ol' w8 (KP.out w8 j1).2.2.2 hal' j2 j3 hwl)
  clear j1 j2 j3
  go_wp2_with fail
  refine c9.out.mono ?_
  rintro e w9 ⟨b9, h9⟩
  have B9 := B8.trans (b9.mono B8.size)
  obtain ⟨j1, j2, j3⟩ := K3.out w9 B9
  obtain ⟨k1, k2, k3, k4⟩ := KP.out w9 j1
  have c10 := hmk (rof_any l (Old w) al cl bl ol w9 hal k1 k3 hwl)
  clear j1 j2 j3 k1 k2 k3 k4 c9
  have hz9 := b9.size
  have hz8 := B8.size
  rcases h9 with ⟨hall, R, sa, sc, sb, so, hR, rfl, hhs, hls⟩ | ⟨hno, rfl⟩
  · have HLS := hmk hls
    have HR := hmk hR
    have HA := hmk hall
    clear hls hR hall
    go_wp2_with fail
    refine c10.out.mono ?_
    rintro e w10 ⟨b10, h10⟩
    have hz10 := b10.size
    have B10 := B9.trans (b10.mono B9.size)
    rcases h10 with ⟨_, R', ta, tc, tb', to', hR', rfl, hht, hlt⟩ | ⟨hno, rfl⟩
    · obtain rfl : R' = R := hR'.uniq HR.out
      have hx3 : ∀ x, New w8 w9 x → x < w10.heap.size := fun x hx => by have := hx.2; omega
      have hx4 : ∀ x, Tw (Old w) w9 w10 x → x < w10.heap.size := fun x hx => hx.elim (fun (h : x < w.heap.size) => by have := B3.size; omega) (fun h => h.2)
      have c11 := hmk (sspath_any R' _ _ sa sc sb so ta tc tb' to' w10 hhs (liesQ_keep (fun x hx => b10.block x hx.2) (fun _ h => h) HLS.out) hht hlt hx3 hx4)
      have BB := hmk B10
      clear hlt hR' c10 B10
      go_wp2_with fail
      refine c11.out.mono ?_
      rintro e w11 ⟨rfl, b11⟩
      have B11 := BB.out.trans (b11.mono BB.out.size)
      obtain ⟨j1, j2, j3⟩ := K3.out w11 B11
      obtain ⟨k1, k2, k3, k4⟩ := KP.out w11 j1
      have c12 := hmk (sspath_any l _ (Old w) al' cl' bl' ol' al cl bl ol w11 hal' j2 hal k1 j3 k3)
      have HB := hmk j1
      clear k1 k2 k3 k4 j1 j2 j3 c11 B11
      go_wp2_with fail
      refine c12.out.mono ?_
      rintro e w12 ⟨rfl, b12⟩
      go_wp2_with fail
      go_ret
      exact ⟨rfl, HB.out.trans (b12.mono HB.out.size)⟩
    · exact absurd HA.out hno
  · have HN := hmk hno
    clear hno
    go_wp2_with fail
    refine c10.out.mono ?_
    rintro e w10 ⟨b10, h10⟩
    have hz10 := b10.size
    have B10 := B9.trans (b10.mono B9.size)
    rcases h10 with ⟨hall, _⟩ | ⟨_, rfl⟩
    · exact absurd hall HN.out
    · have hnil : Headed none ([] : List (List El)).length 0 0 0 := ⟨Nat.le_refl _, by simp [maxLen], .inl rfl, fun _ => rfl⟩
      have c11 := hmk (sspath_any [] (fun _ => False) (fun _ => False) none 0 0 0 none 0 0 0 w10 hnil (fun j hj => by simp at hj) hnil (fun j hj => by simp at hj) (fun x h => h.elim) (fun x h => h.elim))
      have BB := hmk B10
      clear c10 B10
      go_wp2_with fail
      refine c11.out.mono ?_
      rintro e w11 ⟨rfl, b11⟩
      have B11 := BB.out.trans (b11.mono BB.out.size)
      obtain ⟨j1, j2, j3⟩ := K3.out w11 B11
      obtain ⟨k1, k2, k3, k4⟩ := KP.out w11 j1
      have c12 := hmk (sspath_any l _ (Old w) al' cl' bl' ol' al cl bl ol w11 hal' j2 hal k1 j3 k3)
      have HB := hmk j1
      clear k1 k2 k3 k4 j1 j2 j3 c11 B11
      go_wp2_with fail
      refine c12.out.mono ?_
      rintro e w12 ⟨rfl, b12⟩
      go_wp2_with fail
      go_ret
      exact ⟨rfl, HB.out.trans (b12.mono HB.out.size)⟩
end Go.Proofs.YtjdgnajjggjljaaDoor
