/- ValueChecks: the law's own walk. -/
import Derived.Test.YtljgofmmihmmfaaDoorGodE
import Derived.Test.YtljgofmmihmmfaaDoorKepA
set_option linter.unusedSimpArgs false
set_option linter.unusedVariables false
namespace Go.Proofs.YtljgofmmihmmfaaDoor
open Go.RowKit

theorem Gb4 : Gb 4 = 5068021 := by simp [Gb]

set_option maxHeartbeats 1600000 in
set_option maxRecDepth 100000 in
theorem checks_walk (v : V) (depth : Int) (cs : List Value) (w : World) (t : Tb w) (hv : v.lies false w (Old w) cs) : Calls Tryd.prog 3 #[.agg cs.toArray, .int .i64 depth] w (BPost true w) := by
  obtain ⟨k, b, i, s, l, m⟩ := v
  have HV : Hid ((V.mk k b i s l m).lies false w (Old w) cs) := hv
  rw [V.lies] at hv
  obtain ⟨al, cl, bl, ol, am, cm, bm, om, rfl, hk, hi, hs, hal, ham, _⟩ := hv
  have hb0 := box_row w [.int .i64 k, .bool b, .int .i64 i, .string s, .slice al l.length cl, .slice am m.length cm] 25
  have hz0 := alloc_size w (.cells #[.int .i64 k, .bool b, .int .i64 i, .string s, .slice al l.length cl, .slice am m.length cm] 25)
  have B0 : Below w.heap.size w (w.alloc (.cells #[.int .i64 k, .bool b, .int .i64 i, .string s, .slice al l.length cl, .slice am m.length cm] 25)) := (Below.refl _ _).alloc (Nat.le_refl _) _
  have HL : Hid (∀ W, Below w.heap.size w W → (V.mk k b i s l m).lies false W (Old W) [.int .i64 k, .bool b, .int .i64 i, .string s, .slice al l.length cl, .slice am m.length cm]) := fun W hB => V.lies_keep (fun h => h) (fun x hx => hB.block x hx) (fun x hx => Nat.lt_of_lt_of_le hx hB.size) _ HV.out
  have HT : Hid (∀ W, Below w.heap.size w W → Tb W) := fun W hB => t.below hB t.z
  clear hal ham HV
  go_enter Tryd.func3, Tryd.ntmps3
  go_wp2_with fail
  generalize (w.alloc (.cells #[.int .i64 k, .bool b, .int .i64 i, .string s, .slice al l.length cl, .slice am m.length cm] 25)) = w0 at *
  refine (beyond_any (V.mk k b i s l m) (Old w0) _ w0 (HL.out w0 B0) (fun x hx => hx)).mono ?_
  rintro e w1 ⟨r, rfl, hr, b1⟩
  have hz1 := b1.size
  have B1 := B0.trans (b1.mono (by omega))
  have hb1 := hb0.keep (b1.block _ (by omega))
  obtain ⟨d0, d1, d2, d3, d4, d5⟩ := row6z hb1
  cases r with
  | true =>
    go_wp2_with fail
    go_ret
    exact ⟨rfl, B1⟩
  | false =>
    have hwt := hr rfl
    clear hr hb0 b1
    go_wp2_with fail
    refine (roomy_any k b i s l m (Old w1) _ w1 (HL.out w1 B1) (fun x hx => hx) (by omega)).mono ?_
    rintro e w2 ⟨gl, cl2, gm, cm2, SL, SM, rfl, b2, oL, oM⟩
    clear d0 d1 d2 d3 d4 d5
    have hz2 := b2.size
    have hz3 := alloc_size w2 (.cells #[.int .i64 k, .bool b, .int .i64 i, .string s, .slice (some ⟨gl, 0, none⟩) l.length cl2, .slice (some ⟨gm, 0, none⟩) m.length cm2] 25)
    have hn3 := box_row w2 [.int .i64 k, .bool b, .int .i64 i, .string s, .slice (some ⟨gl, 0, none⟩) l.length cl2, .slice (some ⟨gm, 0, none⟩) m.length cm2] 25
    have b23 : Below w2.heap.size w2 (w2.alloc (.cells #[.int .i64 k, .bool b, .int .i64 i, .string s, .slice (some ⟨gl, 0, none⟩) l.length cl2, .slice (some ⟨gm, 0, none⟩) m.length cm2] 25)) := (Below.refl _ _).alloc (Nat.le_refl _) _
    have B2 := B1.trans (b2.mono (by omega))
    have B3 := B2.trans (b23.mono (by omega))
    have RM : Roomy k b i s l m w1.heap.size gl cl2 gm cm2 SL SM w2 := ⟨oL, oM⟩
    have RM3 := RM.below b23
    have hb3 := (hb1.keep (b2.block _ (by omega))).keep (b23.block _ (by omega))
    clear oL oM RM B1 B2 b2 b23 hb1
    go_wp2_with fail
    generalize (w2.alloc (.cells #[.int .i64 k, .bool b, .int .i64 i, .string s, .slice (some ⟨gl, 0, none⟩) l.length cl2, .slice (some ⟨gm, 0, none⟩) m.length cm2] 25)) = w3 at *
    refine (check_any true (V.mk k b i s l m) depth (fun x => w1.heap.size ≤ x ∧ x < w3.heap.size) _ w3 (HT.out w3 B3) (RM3.lies hk hi hs) (fun b h => h.2) (by omega)).mono ?_
    rintro e w4 ⟨rfl, b4⟩
    have hz4 := b4.size
    have B4 := B3.trans (b4.mono (by omega))
    have hb4 := hb3.keep (b4.block _ (by omega))
    have hn4 := hn3.keep (b4.block _ (by omega))
    have RM4 := RM3.below b4
    obtain ⟨d0, d1, d2, d3, d4, d5⟩ := row6z hb4
    clear RM3 hb3 hn3 B3 b4
    go_wp2_with fail
    refine (rcheck_any false (V.mk k b i s l m) depth (Old w4) _ w4 (HL.out w4 B4) (fun x h => h) (by omega)).mono ?_
    rintro e w5 ⟨rfl, b5⟩
    have hz5 := b5.size
    have B5 := B4.trans (b5.mono (by omega))
    have hb5 := hb4.keep (b5.block _ (by omega))
    have hn5 := hn4.keep (b5.block _ (by omega))
    have RM5 := RM4.below b5
    clear d0 d1 d2 d3 d4 d5
    obtain ⟨d0, d1, d2, d3, d4, d5⟩ := row6z hb5
    obtain ⟨n0, n1, n2, n3, n4, n5⟩ := row6z hn5
    clear RM4 hb4 hn4 B4 b5
    generalize ((chkE (V.mk k b i s l m) depth : Nat) : Int) = c at *
    go_wp2_with fail
    refine (kept_any k b i s l m w1.heap.size gl cl2 gm cm2 SL SM (Old w5) _ w5 RM5 (HL.out w5 B5) (fun x h => h) (by omega)).mono ?_
    rintro e w6 ⟨rfl, b6⟩
    have hz6 := b6.size
    have B6 := B5.trans (b6.mono (by omega))
    have hb6 := hb5.keep (b6.block _ (by omega))
    clear d0 d1 d2 d3 d4 d5 n0 n1 n2 n3 n4 n5
    obtain ⟨d0, d1, d2, d3, d4, d5⟩ := row6z hb6
    clear RM5 hb5 hn5 B5 b6
    go_wp2_with fail
    refine (good_any 4 0 rfl (V.mk k b i s l m) _ w6 (HL.out w6 B6) (by omega)).mono ?_
    rintro e w7 ⟨u, csu, rfl, hlu, hwu, b7⟩
    have hz7 := b7.size
    have B7 := B6.trans (b7.mono (by omega))
    rw [Gb4] at hwu
    clear d0 d1 d2 d3 d4 d5
    obtain ⟨uk, ub, ui, us, ual, unl, ucl, uam, unm, ucm, rfl⟩ := V.ten hlu
    have hz8 := alloc_size w7 (.cells #[.int .i64 uk, .bool ub, .int .i64 ui, .string us, .slice ual unl ucl, .slice uam unm ucm] 25)
    have hn8 := box_row w7 [.int .i64 uk, .bool ub, .int .i64 ui, .string us, .slice ual unl ucl, .slice uam unm ucm] 25
    have b78 : Below w7.heap.size w7 (w7.alloc (.cells #[.int .i64 uk, .bool ub, .int .i64 ui, .string us, .slice ual unl ucl, .slice uam unm ucm] 25)) := (Below.refl _ _).alloc (Nat.le_refl _) _
    have B8 := B7.trans (b78.mono (by omega))
    have HU : Hid (u.lies false (w7.alloc (.cells #[.int .i64 uk, .bool ub, .int .i64 ui, .string us, .slice ual unl ucl, .slice uam unm ucm] 25)) (Old (w7.alloc (.cells #[.int .i64 uk, .bool ub, .int .i64 ui, .string us, .slice ual unl ucl, .slice uam unm ucm] 25))) [.int .i64 uk, .bool ub, .int .i64 ui, .string us, .slice ual unl ucl, .slice uam unm ucm]) := V.lies_keep (fun h => h) (fun x hx => b78.block x hx.2) (fun x hx => by have := hx.2; show x < _; omega) _ hlu
    clear hlu b78 hb6 B6 b7 B7
    go_wp2_with fail
    generalize (w7.alloc (.cells #[.int .i64 uk, .bool ub, .int .i64 ui, .string us, .slice ual unl ucl, .slice uam unm ucm] 25)) = w8 at *
    go_loopw [9] (fun e wr => ∃ n : Nat, n ≤ 14 ∧ e = .int .i64 (n : Int) ∧ Below w8.heap.size w8 wr) (fun e _ => 14 - (RowKit.intOf e).toNat)
    case atStart => exact ⟨0, by omega, rfl, Below.refl _ _⟩
    case round =>
      obtain ⟨n, hn, rfl, bn⟩ := hrel
      have hzr := bn.size
      have Br := B8.trans (bn.mono (by omega))
      have hnr := hn8.keep (bn.block _ (by omega))
      have HUr := V.lies_keep (R' := false) (S' := Old wr) (fun h => h) (fun x hx => bn.block x hx) (fun x hx => Nat.lt_of_lt_of_le hx hzr) _ HU.out
      obtain ⟨n0, n1, n2, n3, n4, n5⟩ := row6z hnr
      by_cases h14 : n < 14
      · have y1 : (n : Int) < 14 := by omega
        have hf := faulty_any u n _ wr HUr h14 (by omega)
        go_wp2_with fail
        refine hf.mono ?_
        rintro e wx ⟨y, csy, rfl, hly, hwy, bx⟩
        have hzx := bx.size
        obtain ⟨yk, yb, yi, ys, yal, ynl, ycl, yam, ynm, ycm, rfl⟩ := V.ten hly
        have hzy := alloc_size wx (.cells #[.int .i64 yk, .bool yb, .int .i64 yi, .string ys, .slice yal ynl ycl, .slice yam ynm ycm] 25)
        have hny := box_row wx [.int .i64 yk, .bool yb, .int .i64 yi, .string ys, .slice yal ynl ycl, .slice yam ynm ycm] 25
        have bxy : Below wx.heap.size wx (wx.alloc (.cells #[.int .i64 yk, .bool yb, .int .i64 yi, .string ys, .slice yal ynl ycl, .slice yam ynm ycm] 25)) := (Below.refl _ _).alloc (Nat.le_refl _) _
        have HY : Hid (y.lies false (wx.alloc (.cells #[.int .i64 yk, .bool yb, .int .i64 yi, .string ys, .slice yal ynl ycl, .slice yam ynm ycm] 25)) (Old (wx.alloc (.cells #[.int .i64 yk, .bool yb, .int .i64 yi, .string ys, .slice yal ynl ycl, .slice yam ynm ycm] 25))) [.int .i64 yk, .bool yb, .int .i64 yi, .string ys, .slice yal ynl ycl, .slice yam ynm ycm]) := V.lies_keep (fun h => h) (fun x hx => bxy.block x hx) (fun x hx => Nat.lt_of_lt_of_le hx bxy.size) _ hly
        have Bx := Br.trans (bx.mono (by omega))
        have By := Bx.trans (bxy.mono (by omega))
        have bny := (bn.trans (bx.mono hzr)).trans (bxy.mono (by omega))
        clear n0 n1 n2 n3 n4 n5 hf HUr Br Bx bx bxy hly hnr bn
        go_wp2_with fail
        generalize (wx.alloc (.cells #[.int .i64 yk, .bool yb, .int .i64 yi, .string ys, .slice yal ynl ycl, .slice yam ynm ycm] 25)) = wy at *
        obtain ⟨n0, n1, n2, n3, n4, n5⟩ := row6z hny
        have hlt : wx.heap.size < wy.heap.size := by omega
        have x0 : ∀ x : Sub wy.heap.size wy, _ := sub_cell n0 hlt
        have x1 : ∀ x : Sub wy.heap.size wy, _ := sub_cell n1 hlt
        have x2 : ∀ x : Sub wy.heap.size wy, _ := sub_cell n2 hlt
        have x3 : ∀ x : Sub wy.heap.size wy, _ := sub_cell n3 hlt
        have x4 : ∀ x : Sub wy.heap.size wy, _ := sub_cell n4 hlt
        have x5 : ∀ x : Sub wy.heap.size wy, _ := sub_cell n5 hlt
        have CT : ∀ W, Below wy.heap.size wy W → Tb W ∧ y.lies false W (Old W) [.int .i64 yk, .bool yb, .int .i64 yi, .string ys, .slice yal ynl ycl, .slice yam ynm ycm] := fun W hb => ⟨HT.out W (By.trans (hb.mono (by omega))), V.lies_keep (fun h => h) (fun x hx => hb.block x hx) (fun x hx => Nat.lt_of_lt_of_le hx hb.size) _ HY.out⟩
        obtain ⟨F, hF⟩ : ∃ F : Int → Int, ∀ d, ((chkE y d : Nat) : Int) = F d := ⟨_, fun _ => rfl⟩
        have C1 : Hid (∀ (d : Int) (x : Sub wy.heap.size wy), Calls Tryd.prog 11 #[.agg #[.int .i64 yk, .bool yb, .int .i64 yi, .string ys, .slice yal ynl ycl, .slice yam ynm ycm], .int .i64 d] x.w fun e w'' => e = .returned (.int .i64 (F d)) ∧ ∃ z : Sub wy.heap.size wy, w'' = z.w) := fun d => sub_call fun W hb => (check_any false y d (Old W) _ W (CT W hb).1 (CT W hb).2 (fun x h => h) (by omega)).mono fun e w'' h => ⟨by rw [← hF]; exact h.1, hb.trans (h.2.mono hb.size)⟩
        have C2 : Hid (∀ (d : Int) (x : Sub wy.heap.size wy), Calls Tryd.prog 12 #[.agg #[.int .i64 yk, .bool yb, .int .i64 yi, .string ys, .slice yal ynl ycl, .slice yam ynm ycm], .int .i64 d] x.w fun e w'' => e = .returned (.int .i64 (F d)) ∧ ∃ z : Sub wy.heap.size wy, w'' = z.w) := fun d => sub_call fun W hb => (rcheck_any false y d (Old W) _ W (CT W hb).2 (fun x h => h) (by omega)).mono fun e w'' h => ⟨by rw [← hF]; exact h.1, hb.trans (h.2.mono hb.size)⟩
        clear CT HY hny hF n0 n1 n2 n3 n4 n5
        refine wp_region_sub wy.heap.size (by kernel_rfl) (by kernel_rfl) ?_
        repeat (go_big_quiet_step (first | exact C1.out _ _ | exact C2.out _ _))
        refine wpQuiet_nil ?_
        rintro wq ⟨⟨wq', bq⟩, hq⟩
        have hq' : wq = wq' := hq
        subst hq'
        clear hq
        have bq8 := bny.trans (bq.mono (by omega))
        clear x0 x1 x2 x3 x4 x5 C1 C2
        go_wp2_with fail
        go_roundw
        case rel => exact ⟨n + 1, by omega, by go_num, bq8⟩
        case measure => simp [RowKit.intOf]; omega
      · obtain rfl : n = 14 := by omega
        have y1 : ¬ ((14 : Nat) : Int) < 14 := by omega
        go_wp2_with fail
        go_ret
        exact ⟨rfl, Br⟩
end Go.Proofs.YtljgofmmihmmfaaDoor
