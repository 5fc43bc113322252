import Derived.Test.YtjdgnajjggjljaaDoorAbvR
import Derived.Test.YtjdgnajjggjljaaDoorCntP
import Derived.Test.YtjdgnajjggjljaaDoorSmpB
import Derived.Test.YtjdgnajjggjljaaDoorTwpA
/- PathPairs: the law's own walk. -/
set_option linter.unusedSimpArgs false
set_option linter.unusedVariables false
namespace Go.Proofs.YtjdgnajjggjljaaDoor
open Go.RowKit Go.Lib
set_option maxHeartbeats 8000000 in
set_option maxRecDepth 100000 in
theorem pairs_walk (p q : List El) (ap : Option Addr) (cp bp op : Nat) (aq : Option Addr) (cq bq oq : Nat) (w : World) (tb : Tb w) (hap : Headed ap p.length cp bp op) (hp : liesP w (Old w) p bp op) (haq : Headed aq q.length cq bq oq) (hq : liesP w (Old w) q bq oq) :
    Calls Tryd.prog 3 #[.slice ap p.length cp, .slice aq q.length cq] w (BPost true w) := by
  have HP := hmk hp
  have HQ := hmk hq
  have HT := hmk tb
  clear hp hq tb
  have KP : Hid (∀ W, Below w.heap.size w W → liesP W (Old w) p bp op ∧ liesP W (Old w) q bq oq ∧ (∀ x, Old w x → x < W.heap.size) ∧ Tb W) := fun W h =>
    ⟨liesP_keep (fun x hx => h.block x hx) (fun _ h => h) HP.out, liesP_keep (fun x hx => h.block x hx) (fun _ h => h) HQ.out, fun x (hx : x < w.heap.size) => Nat.lt_of_lt_of_le hx h.size, HT.out.below h HT.out.z⟩
  obtain ⟨k1, k2, k3, k4⟩ := KP.out w (Below.refl _ _)
  have c1 := hmk (bpath_any p (Old w) ap cp bp op w hap k1 k3)
  clear k1 k2 k3 k4
  go_enter Tryd.func3, Tryd.ntmps3
  go_wp2_with fail
  refine c1.out.mono ?_
  rintro e w1 ⟨r, rfl, hwp, b1⟩
  cases r
  case true =>
    go_wp2_with fail
    go_ret
    exact ⟨rfl, b1⟩
  replace hwp := hwp rfl
  obtain ⟨k1, k2, k3, k4⟩ := KP.out w1 b1
  have c2 := hmk (bpath_any q (Old w) aq cq bq oq w1 haq k2 k3)
  clear k1 k2 k3 k4 c1
  go_wp2_with fail
  refine c2.out.mono ?_
  rintro e w2 ⟨r, rfl, hwq, b2⟩
  have B2 := b1.trans (b2.mono b1.size)
  clear b1 b2 c2
  cases r
  case true =>
    go_wp2_with fail
    go_ret
    exact ⟨rfl, B2⟩
  replace hwq := hwq rfl
  obtain ⟨k1, k2, k3, k4⟩ := KP.out w2 B2
  have c3 := hmk (twp_any p (Old w) ap cp bp op w2 hap k1 k3 hwp)
  clear k1 k2 k3 k4
  go_wp2_with fail
  refine c3.out.mono ?_
  rintro e w3 ⟨ap', cp', bp', op', rfl, hap', hp', b3⟩
  have B3 := B2.trans (b3.mono B2.size)
  obtain ⟨k1, k2, k3, k4⟩ := KP.out w3 B3
  have c4 := hmk (twp_any q (Old w) aq cq bq oq w3 haq k2 k3 hwq)
  have HP' := hmk hp'
  clear k1 k2 k3 k4 c3 hp'
  go_wp2_with fail
  refine c4.out.mono ?_
  rintro e w4 ⟨aq', cq', bq', oq', rfl, haq', hq', b4⟩
  have B4 := B3.trans (b4.mono B3.size)
  have HQ' := hmk hq'
  have hz3 := b3.size
  have hz4 := b4.size
  have hz2 := B2.size
  have HS1 : Hid (∀ x, Tw (Old w) w2 w3 x → x < w3.heap.size) := fun x hx => hx.elim (fun (h : x < w.heap.size) => by omega) (fun h => h.2)
  have HS2 : Hid (∀ x, Tw (Old w) w3 w4 x → x < w4.heap.size) := fun x hx => hx.elim (fun (h : x < w.heap.size) => by omega) (fun h => h.2)
  have K4 : Hid (∀ W, Below w4.heap.size w4 W → Below w.heap.size w W ∧ liesP W (Tw (Old w) w2 w3) p bp' op' ∧ liesP W (Tw (Old w) w3 w4) q bq' oq' ∧ (∀ x, Tw (Old w) w2 w3 x → x < W.heap.size) ∧ (∀ x, Tw (Old w) w3 w4 x → x < W.heap.size)) := fun W h =>
    ⟨B4.trans (h.mono B4.size), liesP_keep (fun x hx => (h.block x (by have := HS1.out x hx; omega)).trans (b4.block x (HS1.out x hx))) (fun _ h => h) HP'.out, liesP_keep (fun x hx => h.block x (HS2.out x hx)) (fun _ h => h) HQ'.out, fun x hx => by have := HS1.out x hx; have := h.size; omega, fun x hx => by have := HS2.out x hx; have := h.size; omega⟩
  clear hq' c4 b3 b4
  obtain ⟨j1, j2, j3, j4, j5⟩ := K4.out w4 (Below.refl _ _)
  obtain ⟨k1, k2, k3, k4⟩ := KP.out w4 j1
  have c5 := hmk (cmpP_any p q (Old w) (Old w) ap cp bp op aq cq bq oq w4 k4 hap k1 haq k2 k3 k3 hwp hwq)
  clear k1 k2 k3 k4 j1 j2 j3 j4 j5
  generalize hC : cmpP p q = C at *
  go_wp2_with fail
  refine c5.out.mono ?_
  rintro e w5 ⟨rfl, b5⟩
  obtain ⟨j1, j2, j3, j4, j5⟩ := K4.out w5 b5
  have c6 := hmk (rcmpP_any p q _ _ ap' cp' bp' op' aq' cq' bq' oq' w5 hap' j2 haq' j3 j4 j5 hwp hwq)
  rw [hC] at c6
  clear j1 j2 j3 j4 j5 c5 hC
  go_wp2_with fail
  refine c6.out.mono ?_
  rintro e w6 ⟨rfl, b6⟩
  have B6 := b5.trans (b6.mono b5.size)
  clear b5 b6 c6
  obtain ⟨j1, j2, j3, j4, j5⟩ := K4.out w6 B6
  obtain ⟨k1, k2, k3, k4⟩ := KP.out w6 j1
  have c7 := hmk (abvP_any p q (Old w) (Old w) ap cp bp op aq cq bq oq w6 k4 hap k1 haq k2 k3 k3 hwp hwq)
  clear k1 k2 k3 k4 j1 j2 j3 j4 j5
  generalize hA : abvP p q = A at *
  have yC : (C == C) = true := by simp
  go_wp2_with fail
  refine c7.out.mono ?_
  rintro e w7 ⟨rfl, b7⟩
  have B7 := B6.trans (b7.mono B6.size)
  clear B6 b7 c7
  obtain ⟨j1, j2, j3, j4, j5⟩ := K4.out w7 B7
  have c8 := hmk (rabvP_any p q _ _ ap' cp' bp' op' aq' cq' bq' oq' w7 hap' j2 haq' j3 j4 j5 hwp hwq)
  rw [hA] at c8
  clear j1 j2 j3 j4 j5 hA
  go_wp2_with fail
  refine c8.out.mono ?_
  rintro e w8 ⟨rfl, b8⟩
  have B8 := B7.trans (b8.mono B7.size)
  clear B7 b8 c8
  obtain ⟨j1, j2, j3, j4, j5⟩ := K4.out w8 B8
  obtain ⟨k1, k2, k3, k4⟩ := KP.out w8 j1
  have c9 := hmk (psame_any p (Old w) _ ap cp bp op ap' cp' bp' op' w8 hap k1 hap' j2 k3 j4)
  clear k1 k2 k3 k4 j1 j2 j3 j4 j5
  have yA : (A == A) = true := by simp
  go_wp2_with fail
  refine c9.out.mono ?_
  rintro e w9 ⟨rfl, b9⟩
  have B9 := B8.trans (b9.mono B8.size)
  clear B8 b9 c9
  obtain ⟨j1, j2, j3, j4, j5⟩ := K4.out w9 B9
  obtain ⟨k1, k2, k3, k4⟩ := KP.out w9 j1
  have c10 := hmk (psame_any q (Old w) _ aq cq bq oq aq' cq' bq' oq' w9 haq k2 haq' j3 k3 j5)
  have HB := hmk j1
  clear k1 k2 k3 k4 j1 j2 j3 j4 j5
  go_wp2_with fail
  refine c10.out.mono ?_
  rintro e w10 ⟨rfl, b10⟩
  go_wp2_with fail
  go_ret
  exact ⟨rfl, HB.out.trans (b10.mono HB.out.size)⟩
end Go.Proofs.YtjdgnajjggjljaaDoor
