import Derived.Test.YtjdgnajjggjljaaDoorRsrR
/- PathSorts: the law's own walk. -/
set_option linter.unusedSimpArgs false
set_option linter.unusedVariables false
namespace Go.Proofs.YtjdgnajjggjljaaDoor
open Go.RowKit Go.Lib
set_option maxHeartbeats 8000000 in
set_option maxRecDepth 100000 in
theorem sorts_walk (l : List (List El)) (al : Option Addr) (cl bl ol : Nat) (w : World) (tb : Tb w) (hal : Headed al l.length cl bl ol) (hl : liesQ w (Old w) l bl ol) :
    Calls Tryd.prog 4 #[.slice al l.length cl] w (BPost true w) := by
  have HP := hmk hl
  have HT := hmk tb
  clear hl tb
  have KP : Hid (∀ W, Below w.heap.size w W → liesQ W (Old w) l bl ol ∧ (∀ x, Old w x → x < W.heap.size) ∧ Tb W) := fun W h =>
    ⟨liesQ_keep (fun x hx => h.block x hx) (fun _ h => h) HP.out, fun x (hx : x < w.heap.size) => Nat.lt_of_lt_of_le hx h.size, HT.out.below h HT.out.z⟩
  obtain ⟨k1, k2, k3⟩ := KP.out w (Below.refl _ _)
  have c1 := hmk (bpathsQ_any l (Old w) al cl bl ol w hal k1 k2)
  clear k1 k2 k3
  go_enter Tryd.func4, Tryd.ntmps4
  go_wp2_with fail
  refine c1.out.mono ?_
  rintro e w1 ⟨r, rfl, hwp, b1⟩
  cases r
  case true =>
    go_wp2_with fail
    go_ret
    exact ⟨rfl, b1⟩
  replace hwp := hwp rfl
  obtain ⟨k1, k2, k3⟩ := KP.out w1 b1
  have c2 := hmk (twins_any l (Old w) al cl bl ol w1 hal k1 k2 hwp)
  clear k1 k2 k3 c1
  go_wp2_with fail
  refine c2.out.mono ?_
  rintro e w2 ⟨al', cl', bl', ol', rfl, hal', hl', b2⟩
  have B2 := b1.trans (b2.mono b1.size)
  have HL' := hmk hl'
  have hz1 := b1.size
  have hz2 := b2.size
  have HS1 : Hid (∀ x, Tw (Old w) w1 w2 x → x < w2.heap.size) := fun x hx => hx.elim (fun (h : x < w.heap.size) => by omega) (fun h => h.2)
  have K2 : Hid (∀ W, Below w2.heap.size w2 W → liesQ W (Tw (Old w) w1 w2) l bl' ol' ∧ (∀ x, Tw (Old w) w1 w2 x → x < W.heap.size)) := fun W h =>
    ⟨liesQ_keep (fun x hx => h.block x (HS1.out x hx)) (fun _ h => h) HL'.out, fun x hx => by have := HS1.out x hx; have := h.size; omega⟩
  obtain ⟨k1, k2, k3⟩ := KP.out w2 B2
  have c3 := hmk (sort_any l (Old w) al cl bl ol w2 k3 hal k1 k2 hwp)
  clear k1 k2 k3 c2 hl' b1 b2
  go_wp2_with fail
  refine c3.out.mono ?_
  rintro e w3 ⟨b3, h3⟩
  obtain ⟨k1, k2⟩ := K2.out w3 b3
  have c4 := hmk (rsort_any l (Tw (Old w) w1 w2) al' cl' bl' ol' w3 hal' k1 k2 hwp)
  clear k1 k2 c3
  have hz3 := b3.size
  have B3 := B2.trans (b3.mono B2.size)
  rcases h3 with ⟨hall, R, sa, sc, sb, so, hR, rfl, hhs, hls⟩ | ⟨hno, rfl⟩
  · have HLS := hmk hls
    have HR := hmk hR
    have HA := hmk hall
    clear hls hR hall
    go_wp2_with fail
    refine c4.out.mono ?_
    rintro e w4 ⟨b4, h4⟩
    have hz4 := b4.size
    have B4 := B3.trans (b4.mono B3.size)
    rcases h4 with ⟨_, R', ta, tc, tb', to', hR', rfl, hht, hlt⟩ | ⟨hno, rfl⟩
    · obtain rfl : R' = R := hR'.uniq HR.out
      have hx3 : ∀ x, New w2 w3 x → x < w4.heap.size := fun x hx => by have := hx.2; omega
      have hx4 : ∀ x, Tw (Tw (Old w) w1 w2) w3 w4 x → x < w4.heap.size := fun x hx => hx.elim (fun h => by have := HS1.out x h; omega) (fun h => h.2)
      have c5 := hmk (pssame_any R' _ _ sa sc sb so ta tc tb' to' w4 hhs (liesQ_keep (fun x hx => b4.block x hx.2) (fun _ h => h) HLS.out) hht hlt hx3 hx4)
      have BB := hmk B4
      have BA := hmk (b3.trans (b4.mono b3.size))
      clear hlt hR' c4 B4
      go_wp2_with fail
      refine c5.out.mono ?_
      rintro e w5 ⟨rfl, b5⟩
      have B5 := BB.out.trans (b5.mono BB.out.size)
      obtain ⟨k1, k2, k3⟩ := KP.out w5 B5
      obtain ⟨j1, j2⟩ := K2.out w5 (BA.out.trans (b5.mono BA.out.size))
      have c6 := hmk (pssame_any l (Old w) _ al cl bl ol al' cl' bl' ol' w5 hal k1 hal' j1 k2 j2)
      have HB5 := hmk B5
      clear k1 k2 k3 j1 j2 c5 B5
      go_wp2_with fail
      refine c6.out.mono ?_
      rintro e w6 ⟨rfl, b6⟩
      go_wp2_with fail
      go_ret
      exact ⟨rfl, HB5.out.trans (b6.mono HB5.out.size)⟩
    · exact absurd HA.out hno
  · have HN := hmk hno
    clear hno
    go_wp2_with fail
    refine c4.out.mono ?_
    rintro e w4 ⟨b4, h4⟩
    have hz4 := b4.size
    have B4 := B3.trans (b4.mono B3.size)
    rcases h4 with ⟨hall, _⟩ | ⟨_, rfl⟩
    · exact absurd hall HN.out
    · have hnil : Headed none ([] : List (List El)).length 0 0 0 := ⟨Nat.le_refl _, by simp [maxLen], .inl rfl, fun _ => rfl⟩
      have c5 := hmk (pssame_any [] (fun _ => False) (fun _ => False) none 0 0 0 none 0 0 0 w4 hnil (fun j hj => by simp at hj) hnil (fun j hj => by simp at hj) (fun x h => h.elim) (fun x h => h.elim))
      have BB := hmk B4
      have BA := hmk (b3.trans (b4.mono b3.size))
      clear c4 B4
      go_wp2_with fail
      refine c5.out.mono ?_
      rintro e w5 ⟨rfl, b5⟩
      have B5 := BB.out.trans (b5.mono BB.out.size)
      obtain ⟨k1, k2, k3⟩ := KP.out w5 B5
      obtain ⟨j1, j2⟩ := K2.out w5 (BA.out.trans (b5.mono BA.out.size))
      have c6 := hmk (pssame_any l (Old w) _ al cl bl ol al' cl' bl' ol' w5 hal k1 hal' j1 k2 j2)
      have HB5 := hmk B5
      clear k1 k2 k3 j1 j2 c5 B5
      go_wp2_with fail
      refine c6.out.mono ?_
      rintro e w6 ⟨rfl, b6⟩
      go_wp2_with fail
      go_ret
      exact ⟨rfl, HB5.out.trans (b6.mono HB5.out.size)⟩
end Go.Proofs.YtjdgnajjggjljaaDoor
