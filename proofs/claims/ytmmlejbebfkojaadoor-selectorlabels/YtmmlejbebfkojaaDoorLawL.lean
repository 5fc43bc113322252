import Derived.Test.YtmmlejbebfkojaaDoorDepL
import Derived.Test.YtmmlejbebfkojaaDoorVkpA
/- SelectorLabels: the law's own walk. -/
set_option linter.unusedSimpArgs false
set_option linter.unusedVariables false
namespace Go.Proofs.YtmmlejbebfkojaaDoor
open Go.RowKit Go.Lib
theorem lab_str (v : V) : ∀ x ∈ labV v, isStr x = true := fun x hx => by
  unfold labV at hx
  split at hx
  · exact (List.mem_filter.1 hx).2
  · cases hx
set_option maxHeartbeats 8000000 in
set_option maxRecDepth 100000 in
theorem labels_walk (v : V) (cs : List Value) (w : World) (t : Tb w) (hv : v.lies false w (Old w) cs) : Calls Tryd.prog 3 #[.agg cs.toArray] w (BPost true w) := by
  obtain ⟨k, b, i, s, l, m⟩ := v
  have HV : Hid ((V.mk k b i s l m).lies false w (Old w) cs) := hv
  rw [V.lies] at hv
  obtain ⟨al, cl, bl, ol, am, cm, bm, om, rfl, hk, hi, hs, _⟩ := hv
  have hb0 := heap_alloc_new w (.cells #[.int .i64 k, .bool b, .int .i64 i, .string s, .slice al l.length cl, .slice am m.length cm] 25)
  have hz0 := alloc_size w (.cells #[.int .i64 k, .bool b, .int .i64 i, .string s, .slice al l.length cl, .slice am m.length cm] 25)
  have B0 : Below w.heap.size w (w.alloc (.cells #[.int .i64 k, .bool b, .int .i64 i, .string s, .slice al l.length cl, .slice am m.length cm] 25)) := (Below.refl _ _).alloc (Nat.le_refl _) _
  have HL : Hid (∀ W, Below w.heap.size w W → (V.mk k b i s l m).lies false W (Old W) [.int .i64 k, .bool b, .int .i64 i, .string s, .slice al l.length cl, .slice am m.length cm]) := fun W hB => V.lies_keep (fun h => h) (fun x hx => hB.block x hx) (fun x hx => Nat.lt_of_lt_of_le hx hB.size) _ HV.out
  have HT : Hid (∀ W, Below w.heap.size w W → Tb W) := fun W hB => t.below hB t.z
  obtain ⟨d0, d1, d2, d3, d4, d5⟩ := row6z (cs_row hb0)
  clear HV
  go_enter Tryd.func3, Tryd.ntmps3
  go_wp2_with fail
  clear d0 d1 d2 d3 d4 d5
  generalize (w.alloc (.cells #[.int .i64 k, .bool b, .int .i64 i, .string s, .slice al l.length cl, .slice am m.length cm] 25)) = w0 at *
  refine (beyond_any (V.mk k b i s l m) (Old w0) _ w0 (HL.out w0 B0) (fun x hx => hx)).mono ?_
  rintro e w1 ⟨r, rfl, hr, b1⟩
  have hz1 := b1.size
  have B1 := B0.trans (b1.mono (by omega))
  have hb1 := (b1.block _ (by omega)).trans hb0
  clear hb0
  cases r with
  | true =>
    go_wp2_with fail
    go_ret
    exact ⟨rfl, B1⟩
  | false =>
    have hwt := hr rfl
    have D0 : Calls Tryd.prog 5 #[.int .i64 30] w1 (BPost true w1) := deep_any 30 (by decide) w1 (HT.out w1 B1)
    clear hr b1
    go_wp2_with fail
    refine D0.mono ?_
    rintro e w2 ⟨rfl, b2⟩
    have hz2 := b2.size
    have B2 := B1.trans (b2.mono (by omega))
    have hb2 := (b2.block _ (by omega)).trans hb1
    have D1 : Calls Tryd.prog 5 #[.int .i64 31] w2 (BPost true w2) := deep_any 31 (by decide) w2 (HT.out w2 B2)
    clear D0 b2 hb1 B1
    go_wp2_with fail
    refine D1.mono ?_
    rintro e w3 ⟨rfl, b3⟩
    have hz3 := b3.size
    have B3 := B2.trans (b3.mono (by omega))
    have hb3 := (b3.block _ (by omega)).trans hb2
    have D2 : Calls Tryd.prog 5 #[.int .i64 32] w3 (BPost true w3) := deep_any 32 (by decide) w3 (HT.out w3 B3)
    clear D1 b3 hb2 B2
    go_wp2_with fail
    refine D2.mono ?_
    rintro e w4 ⟨rfl, b4⟩
    have hz4 := b4.size
    have B4 := B3.trans (b4.mono (by omega))
    have hb4 := (b4.block _ (by omega)).trans hb3
    obtain ⟨d0, d1, d2, d3, d4, d5⟩ := row6z (cs_row hb4)
    clear D2 b4 hb3 B3
    go_wp2_with fail
    clear d0 d1 d2 d3 d4 d5
    refine (twin_any (V.mk k b i s l m) (Old w4) _ w4 (HL.out w4 B4) (fun x hx => hx) (by omega)).mono ?_
    rintro e w5 ⟨gl, cl2, gm, cm2, SL, SM, rfl, b5, oL, oM, _⟩
    have hz5 := b5.size
    have B5 := B4.trans (b5.mono (by omega))
    have hl5 := TwinPost.lies (b := b) hk hi hs oL oM
    have hb5 := (b5.block _ (by omega)).trans hb4
    have a6 : Below w5.heap.size w5 (w5.alloc (.cells #[.int .i64 k, .bool b, .int .i64 i, .string s, .slice (some ⟨gl, 0, none⟩) l.length cl2, .slice (some ⟨gm, 0, none⟩) m.length cm2] 25)) := (Below.refl _ _).alloc (Nat.le_refl _) _
    have hn6 := heap_alloc_new w5 (.cells #[.int .i64 k, .bool b, .int .i64 i, .string s, .slice (some ⟨gl, 0, none⟩) l.length cl2, .slice (some ⟨gm, 0, none⟩) m.length cm2] 25)
    have hz6 := alloc_size w5 (.cells #[.int .i64 k, .bool b, .int .i64 i, .string s, .slice (some ⟨gl, 0, none⟩) l.length cl2, .slice (some ⟨gm, 0, none⟩) m.length cm2] 25)
    have hb6 := (a6.block _ (by omega)).trans hb5
    have B6 : Below w.heap.size w (w5.alloc (.cells #[.int .i64 k, .bool b, .int .i64 i, .string s, .slice (some ⟨gl, 0, none⟩) l.length cl2, .slice (some ⟨gm, 0, none⟩) m.length cm2] 25)) := B5.trans (a6.mono (by omega))
    have HTW : Hid (∀ W, Below w5.heap.size w5 W → (V.mk k b i s l m).lies true W (fun x => w4.heap.size ≤ x ∧ x < w5.heap.size) [.int .i64 k, .bool b, .int .i64 i, .string s, .slice (some ⟨gl, 0, none⟩) l.length cl2, .slice (some ⟨gm, 0, none⟩) m.length cm2]) := fun W hB => V.lies_keep (fun h => h) (fun x hx => hB.block x hx.2) (fun _ h => h) _ hl5
    obtain ⟨d0, d1, d2, d3, d4, d5⟩ := row6z (cs_row hn6)
    have CL := hmk (labels_any (V.mk k b i s l m) true _ _ (w5.alloc (.cells #[.int .i64 k, .bool b, .int .i64 i, .string s, .slice (some ⟨gl, 0, none⟩) l.length cl2, .slice (some ⟨gm, 0, none⟩) m.length cm2] 25)) (HT.out _ B6) (HTW.out _ a6) (fun x hx => by have := hx.2; omega) (by omega))
    clear oL oM hl5 b5 hb4 hb5 B4 B5
    go_wp2_with fail
    clear d0 d1 d2 d3 d4 d5
    generalize (w5.alloc (.cells #[.int .i64 k, .bool b, .int .i64 i, .string s, .slice (some ⟨gl, 0, none⟩) l.length cl2, .slice (some ⟨gm, 0, none⟩) m.length cm2] 25)) = w6 at *
    have HST := hmk (lab_str (V.mk k b i s l m))
    have CR : Hid (∀ W, Below w.heap.size w W → Calls Tryd.prog 8 #[.agg #[.int .i64 k, .bool b, .int .i64 i, .string s, .slice al l.length cl, .slice am m.length cm]] W (LbPost (labV (V.mk k b i s l m)) W)) := fun W hB => rlabels_any (V.mk k b i s l m) false _ _ W (HT.out W hB) (HL.out W hB) (fun x hx => hx) (by omega)
    generalize labV (V.mk k b i s l m) = L at *
    refine CL.out.mono ?_
    rintro e w7 ⟨a1, c1, b1', o1, rfl, hh1, hm1, b7⟩
    have hz7 := b7.size
    have B7 := B6.trans (b7.mono (by omega))
    have hb7 := (b7.block _ (by omega)).trans hb6
    have hn7 := (b7.block _ (by omega)).trans hn6
    obtain ⟨d0, d1, d2, d3, d4, d5⟩ := row6z (cs_row hb7)
    have CR7 := hmk (CR.out w7 B7)
    have HH1 := hmk hh1
    have HM1 := hmk hm1
    clear CL CR hb6 hn6 hh1 hm1
    go_wp2_with fail
    clear d0 d1 d2 d3 d4 d5
    refine CR7.out.mono ?_
    rintro e w8 ⟨a2, c2, b2', o2, rfl, hh2, hm2, b8⟩
    have hz8 := b8.size
    have B8 := B7.trans (b8.mono (by omega))
    have hb8 := (b8.block _ (by omega)).trans hb7
    have hn8 := (b8.block _ (by omega)).trans hn7
    have HM18 : Hid (liesM false w8 (New w6 w7) L b1' o1) := liesM_keep (fun h => h) (fun x hx => b8.block x hx.2) (fun _ h => h) _ HM1.out
    have HH2 := hmk hh2
    have HM2 := hmk hm2
    obtain ⟨d0, d1, d2, d3, d4, d5⟩ := row6z (cs_row hb8)
    obtain ⟨f0, f1, f2, f3, f4, f5⟩ := row6z (cs_row hn8)
    have CV := hmk (vkept_any (V.mk k b i s l m) (fun x => w4.heap.size ≤ x ∧ x < w5.heap.size) (Old w8) _ _ w8 (HTW.out w8 (a6.trans ((b7.mono (by omega)).trans (b8.mono (by omega))))) (HL.out w8 B8) (fun x hx => by have := hx.2; omega) (fun x hx => hx))
    have hll : L.length ≤ 9223372036854775807 := Nat.le_trans HH2.out.le HH2.out.max
    clear CR7 b7 hb7 hn7 hh2 hm2 HM1
    go_wp2_with fail
    clear d0 d1 d2 d3 d4 d5 f0 f1 f2 f3 f4 f5
    refine CV.out.mono ?_
    rintro e w9 ⟨rfl, b9⟩
    have hz9 := b9.size
    have B9 := B8.trans (b9.mono (by omega))
    have HM19 : Hid (liesM false w9 (New w6 w7) L b1' o1) := liesM_keep (fun h => h) (fun x hx => b9.block x (by have := hx.2; omega)) (fun _ h => h) _ HM18.out
    have HM29 : Hid (liesM false w9 (New w7 w8) L b2' o2) := liesM_keep (fun h => h) (fun x hx => b9.block x hx.2) (fun _ h => h) _ HM2.out
    clear CV b8 b9 hb8 hn8 HM18 HM2 HTW HL HT B6 B7 B8
    go_wp2_with fail
    go_loopw [6] (fun e6 wr => ∃ j : Nat, j ≤ L.length ∧ e6 = .int .i64 (j : Int) ∧ Below w9.heap.size w9 wr) (fun e6 _ => L.length - (RowKit.intOf e6).toNat)
    case atStart => exact ⟨0, by omega, rfl, Below.refl _ _⟩
    case round =>
      obtain ⟨j, hj, rfl, bj⟩ := hrel
      have hzr := bj.size
      by_cases hjl : j < L.length
      · have y1 : (j : Int) < L.length := by omega
        obtain ⟨hS1, _, cs1, hrow1, hl1⟩ := liesM_get HM19.out j hjl
        obtain ⟨hS2, _, cs2, hrow2, hl2⟩ := liesM_get HM29.out j hjl
        obtain rfl : a1 = some ⟨b1', o1, none⟩ := HH1.out.at_.resolve_left (by omega)
        obtain rfl : a2 = some ⟨b2', o2, none⟩ := HH2.out.at_.resolve_left (by omega)
        have hst := HST.out _ (List.getElem_mem hjl)
        obtain ⟨xm, hxm⟩ : ∃ xm, L[j] = xm := ⟨_, rfl⟩
        rw [hxm] at hl1 hl2 hst hrow1 hrow2
        obtain ⟨xk, xv⟩ := xm
        have hkx : ∃ kk b i s l m, xv = V.mk kk b i s l m := by cases xv; exact ⟨_, _, _, _, _, _, rfl⟩
        obtain ⟨kk, kb, ki, ks, kl, km, rfl⟩ := hkx
        obtain rfl : kk = 3 := by simpa [isStr, kindV] using hst
        rw [V.lies] at hl1 hl2
        obtain ⟨_, _, _, _, _, _, _, _, rfl, _⟩ := hl1
        obtain ⟨_, _, _, _, _, _, _, _, rfl, _⟩ := hl2
        have h1 := hS1.2
        have h2 := hS2.2
        obtain ⟨q, q0, _, _, q3, _⟩ := row7 (hrow1.keep (bj.block _ (by omega)))
        obtain ⟨p, p0, _, _, p3, _⟩ := row7 (hrow2.keep (bj.block _ (by omega)))
        have x1 : ∀ x : Sub wr.heap.size wr, _ := sub_cell q (by omega)
        have x2 : ∀ x : Sub wr.heap.size wr, _ := sub_cell q0 (by omega)
        have x3 : ∀ x : Sub wr.heap.size wr, _ := sub_cell q3 (by omega)
        have x4 : ∀ x : Sub wr.heap.size wr, _ := sub_cell p (by omega)
        have x5 : ∀ x : Sub wr.heap.size wr, _ := sub_cell p3 (by omega)
        have hjb : (j : Int) < (L.length : Int) := y1
        clear hxm hst hrow1 hrow2 q q0 q3 p p0 p3 hS1 hS2
        go_wp2_with fail
        refine wp_region_sub wr.heap.size (by kernel_rfl) (by kernel_rfl) ?_
        repeat (go_big_quiet_step (fail))
        refine wpQuiet_nil ?_
        rintro wq ⟨⟨wq', bq⟩, hq⟩
        have hq' : wq = wq' := hq
        subst hq'
        clear hq x1 x2 x3 x4 x5
        go_wp2_with fail
        go_roundw
        case rel => exact ⟨j + 1, by omega, by go_num, bj.trans (bq.mono (by omega))⟩
        case measure => simp [RowKit.intOf]; omega
      · obtain rfl : j = L.length := by omega
        have y1 : ¬ (L.length : Int) < L.length := by omega
        go_wp2_with fail
        (try simp only [Exit.inBlock, Exit.then])
        go_ret
        exact ⟨rfl, B9.trans (bj.mono (by omega))⟩
end Go.Proofs.YtmmlejbebfkojaaDoor
