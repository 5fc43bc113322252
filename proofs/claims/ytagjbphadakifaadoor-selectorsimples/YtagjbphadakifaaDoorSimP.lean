import Derived.Test.YtagjbphadakifaaDoorSimO
import Derived.Test.YtagjbphadakifaaDoorSimF
/- SelectorSimples: the law's own walk. -/
set_option linter.unusedSimpArgs false
set_option linter.unusedVariables false
namespace Go.Proofs.YtagjbphadakifaaDoor
open Go.RowKit Go.Lib
theorem liesT_take {R : Bool} {w : World} {S : Nat → Prop} {l : List Trm} {b o : Nat} (h : liesT R w S l b o) (i : Nat) : liesT R w S (l.take i) b o := fun j hj => by
  rw [List.length_take] at hj
  obtain ⟨h1, cs, h2, h3⟩ := h j (by omega)
  exact ⟨h1, cs, h2, by rw [List.getElem_take]; exact h3⟩
theorem head_take {a : Option Addr} {n c b o : Nat} (h : Headed a n c b o) {i : Nat} (hi : i ≤ n) : Headed a i c b o := ⟨Nat.le_trans hi h.le, h.max, by
  rcases h.at_ with e | e
  · left; omega
  · exact .inr e, h.nil⟩
set_option maxHeartbeats 8000000 in
set_option maxRecDepth 100000 in
theorem simples_walk (l : List Trm) (al : Option Addr) (cl bl ol : Nat) (w : World) (hT : Tb w)
    (hh : Headed al l.length cl bl ol) (hl : liesT false w (Old w) l bl ol) :
    Calls Tryd.prog 5 #[.slice al l.length cl] w (BPost true w) := by
  have HH := hmk hh
  have HL : Hid (∀ W, Below w.heap.size w W → liesT false W (Old w) l bl ol) := fun W hW => hl.keep (fun h => h) (fun y hy => hW.block y hy) (fun _ h => h)
  have HTB : Hid (∀ W, Below w.heap.size w W → Tb W) := fun W hW => hT.below hW hT.z
  have HOLD : Hid (∀ W, Below w.heap.size w W → ∀ y, Old w y → y < W.heap.size) := fun W hW y hy => Nat.lt_of_lt_of_le hy hW.size
  have H0 := hmk (terms_any l false (Old w) al cl bl ol w hh hl (fun y hy => hy))
  clear hh hl hT
  go_enter Tryd.func5, Tryd.ntmps5
  go_wp2_with fail
  refine H0.out.mono ?_
  rintro e w1 ⟨r, rfl, hr, b1⟩
  have B1 := hmk b1
  cases r with
  | true =>
    go_wp2_with fail
    go_ret
    exact ⟨rfl, B1.out⟩
  | false =>
    have hwt := hr rfl
    clear hr b1 H0
    have C1 := hmk (roomyT_any l (Old w) al cl bl ol w1 HH.out (HL.out _ B1.out) (HOLD.out _ B1.out) hwt)
    go_wp2_with fail
    refine C1.out.mono ?_
    rintro e w2 ⟨g, cap, rfl, hc1, hc2, hg1, hg2, hR, hRm, b2⟩
    have B2 : Hid (Below w.heap.size w w2) := B1.out.trans (b2.mono B1.out.size)
    have HRT : Hid (∀ W, Below w2.heap.size w2 W → liesT true W (New w1 w2) l g 0 ∧ (∀ k, k < 70 → W.cell? ⟨g, (l.length + k) * 3 + 1, none⟩ = some (.int .i64 (-9))) ∧ (∀ y, New w1 w2 y → y < W.heap.size) ∧ g < W.heap.size) := fun W hW => ⟨hR.keep (fun h => h) (fun y hy => hW.block y hy.2) (fun _ h => h), fun k hk => (hW.cell (p := ⟨g, (l.length + k) * 3 + 1, none⟩) hg2).trans (hRm k hk), fun y hy => Nat.lt_of_lt_of_le hy.2 hW.size, Nat.lt_of_lt_of_le hg2 hW.size⟩
    have hhg : Headed (some ⟨g, 0, none⟩) l.length cap g 0 := ⟨by omega, hc2, .inr rfl, fun h => by cases h⟩
    have HCAP : Hid (l.length + 70 ≤ cap ∧ cap ≤ maxLen) := ⟨hc1, hc2⟩
    have h2 := HRT.out w2 (Below.refl _ _)
    have C2 : Hid (Calls Tryd.prog 18 #[.slice (some ⟨g, 0, none⟩) l.length cap] w2 (SmPost (simplV l) w2)) := simp_any l true (New w1 w2) (some ⟨g, 0, none⟩) cap g 0 w2 hhg h2.1 h2.2.2.1 hwt (HTB.out _ B2.out)
    have CR : Hid (∀ W, Below w.heap.size w W → Calls Tryd.prog 19 #[.slice al l.length cl] W (SmPost (simplV l) W)) := fun W hW => rsimp_any l false (Old w) al cl bl ol W HH.out (HL.out _ hW) (HOLD.out _ hW) hwt
    clear hR hRm b2 hc1 hc2 hg1 hg2 hhg C1 h2
    unfold SmPost at C2 CR
    generalize simplV l = r at *
    go_wp2_with fail
    refine C2.out.mono ?_
    rintro e w3 ⟨a3, c3, b3', o3, rfl, h3h, h3l, b3⟩
    have B23 : Hid (Below w2.heap.size w2 w3) := b3
    have B3 : Hid (Below w.heap.size w w3) := B2.out.trans (b3.mono B2.out.size)
    have C3 := hmk (CR.out w3 B3.out)
    have H3 := hmk (And.intro h3h h3l)
    clear b3 C2 CR h3h h3l
    go_wp2_with fail
    refine C3.out.mono ?_
    rintro e w4 ⟨a4, c4, b4', o4, rfl, h4h, h4l, b4⟩
    have B34 := hmk b4
    have B24 : Hid (Below w2.heap.size w2 w4) := B23.out.trans (b4.mono B23.out.size)
    have B4 : Hid (Below w.heap.size w w4) := B3.out.trans (b4.mono B3.out.size)
    have C4 := hmk (same_any (r.getD []) false false (New w2 w3) (New w3 w4) a3 a4 c3 c4 b3' b4' o3 o4 w4 H3.out.1 h4h (H3.out.2.keep (fun h => h) (fun y hy => B34.out.block y hy.2) (fun _ h => h)) h4l (fun y hy => Nat.lt_of_lt_of_le hy.2 B34.out.size) (fun y hy => hy.2))
    have h4 := HRT.out w4 B24.out
    clear b4 C3 h4h h4l H3
    generalize hL : r.getD [] = L at *
    generalize hrb : r.isSome = rb at *
    have yb : (rb != rb) = false := by simp
    clear hL hrb
    go_wp2_with fail
    refine C4.out.mono ?_
    rintro e w5 ⟨rfl, b5⟩
    have B25 : Hid (Below w2.heap.size w2 w5) := B24.out.trans (b5.mono B24.out.size)
    have B5 : Hid (Below w.heap.size w w5) := B4.out.trans (b5.mono B4.out.size)
    have h5 := HRT.out w5 B25.out
    have C5 : Hid (Calls Tryd.prog 13 #[.slice (some ⟨g, 0, none⟩) l.length cap, .slice al l.length cl] w5 (BPost true w5)) := keptT_any l (New w1 w2) (Old w) al g cap cl bl ol w5 HCAP.out.1 HCAP.out.2 h5.1 h5.2.1 h5.2.2.2 HH.out (HL.out _ B5.out) h5.2.2.1 (HOLD.out _ B5.out) hwt
    clear b5 C4 h4 h5
    go_wp2_with fail
    refine C5.out.mono ?_
    rintro e w6 ⟨rfl, b6⟩
    have B6 : Hid (Below w.heap.size w w6) := B5.out.trans (b6.mono B5.out.size)
    have C6 : Hid (Calls Tryd.prog 7 #[.slice al l.length cl] w6 (ShPost l w6)) := shaped_any l (Old w) al cl bl ol w6 HH.out (HL.out _ B6.out) (HOLD.out _ B6.out) hwt
    have XS := shaped_small l
    have hxl := XS.1
    have HWX : Hid (∀ i, wtT ((shapedV l).take i) ≤ 2147483647) := fun i => by
      have h1 := wtT_le (l := (shapedV l).take i) (k := 28) (fun t ht => XS.2 t (List.mem_of_mem_take ht))
      have h2 : ((shapedV l).take i).length ≤ 8 := Nat.le_trans (List.length_take_le' _ _) hxl
      omega
    unfold ShPost at C6
    clear b6 C5 HRT HCAP B23 B24 B25 B34 XS
    generalize shapedV l = X at *
    go_wp2_with fail
    refine C6.out.mono ?_
    rintro e w7 ⟨xa, xc, xb, xo, rfl, hXh, hXl, b7⟩
    have B7 : Hid (Below w.heap.size w w7) := B6.out.trans (b7.mono B6.out.size)
    have HXH := hmk hXh
    have HXL : Hid (∀ W, Below w7.heap.size w7 W → liesT false W (New w6 w7) X xb xo ∧ ∀ y, New w6 w7 y → y < W.heap.size) := fun W hW => ⟨hXl.keep (fun h => h) (fun y hy => hW.block y hy.2) (fun _ h => h), fun y hy => Nat.lt_of_lt_of_le hy.2 hW.size⟩
    have HBW : Hid (∀ W, Below w7.heap.size w7 W → Below w.heap.size w W) := fun W hW => B7.out.trans (hW.mono B7.out.size)
    clear b7 C6 hXh hXl
    go_wp2_with fail
    go_loopw [9] (fun e9 wi => ∃ i : Nat, i ≤ X.length + 1 ∧ e9 = .int .i64 (i : Int) ∧ Below w7.heap.size w7 wi) (fun e9 _ => X.length + 1 - (RowKit.intOf e9).toNat)
    case atStart => exact ⟨0, by omega, rfl, Below.refl _ _⟩
    case round =>
      obtain ⟨i, hi, rfl, Bi⟩ := hrel
      by_cases hil : i ≤ X.length
      · have y1 : (i : Int) ≤ X.length := by omega
        have hlen : (X.take i).length = i := by rw [List.length_take]; omega
        have hcap := (HXH.out.le)
        have hmx := (HXH.out.max)
        have hx := HXL.out _ Bi
        have CP := simp_any (X.take i) false (New w6 w7) xa xc xb xo wr (by rw [hlen]; exact head_take HXH.out hil) (liesT_take hx.1 i) hx.2 (HWX.out i) (HTB.out _ (HBW.out _ Bi))
        have CD : ∀ W, Below w7.heap.size w7 W → Calls Tryd.prog 19 #[.slice xa (X.take i).length xc] W (SmPost (simplV (X.take i)) W) := fun W hW => rsimp_any (X.take i) false (New w6 w7) xa xc xb xo W (by rw [hlen]; exact head_take HXH.out hil) (liesT_take (HXL.out _ hW).1 i) (HXL.out _ hW).2 (HWX.out i)
        rw [hlen] at CP CD
        have C1 := hmk CP
        have CDH := hmk CD
        have yc : (i : Int) ≤ xc := by omega
        have BI := hmk Bi
        clear CP CD hx hlen
        unfold SmPost at C1 CDH
        generalize simplV (X.take i) = q at *
        go_wp2_with fail
        refine C1.out.mono ?_
        rintro e v1 ⟨a3, c3, b3', o3, rfl, h3h, h3l, b3⟩
        have Bv1 := hmk (Bi.trans (b3.mono Bi.size))
        have H3 := hmk (And.intro h3h h3l)
        have C2 := hmk (CDH.out v1 Bv1.out)
        clear b3 C1 h3h h3l
        go_wp2_with fail
        refine C2.out.mono ?_
        rintro e v2 ⟨a4, c4, b4', o4, rfl, h4h, h4l, b4⟩
        have Bv2 := hmk (Bv1.out.trans (b4.mono Bv1.out.size))
        have C4 := hmk (same_any (q.getD []) false false (New wr v1) (New v1 v2) a3 a4 c3 c4 b3' b4' o3 o4 v2 H3.out.1 h4h (H3.out.2.keep (fun h => h) (fun y hy => b4.block y hy.2) (fun _ h => h)) h4l (fun y hy => Nat.lt_of_lt_of_le hy.2 b4.size) (fun y hy => hy.2))
        clear b4 C2 CDH h4h h4l H3
        generalize hL : q.getD [] = L at *
        generalize hrb : q.isSome = rc at *
        have yb2 : (rc != rc) = false := by simp
        clear hL hrb
        go_wp2_with fail
        refine C4.out.mono ?_
        rintro e v3 ⟨rfl, b5⟩
        have Bv3 := Bv2.out.trans (b5.mono Bv2.out.size)
        clear b5 C4
        go_wp2_with fail
        go_roundw
        case rel => exact ⟨i + 1, by omega, by go_num, Bv3⟩
        case measure => simp [RowKit.intOf]; omega
      · have y1 : ¬ (i : Int) ≤ X.length := by omega
        have BF := hmk (HBW.out _ Bi)
        go_wp2_with fail
        (try simp only [Exit.inBlock, Exit.then])
        go_ret
        exact ⟨rfl, BF.out⟩
end Go.Proofs.YtagjbphadakifaaDoor
