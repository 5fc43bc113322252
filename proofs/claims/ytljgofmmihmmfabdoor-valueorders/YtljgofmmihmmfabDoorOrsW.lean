import Derived.Test.YtljgofmmihmmfabDoorOrsP
import Derived.Test.YtljgofmmihmmfabDoorAwkA
import Derived.Test.YtljgofmmihmmfabDoorSamA
import Derived.Test.YtljgofmmihmmfabDoorQSub
import Derived.Deep.RegionHeld3
/- ValueOrders: the law's own walk. -/
set_option linter.unusedSimpArgs false
set_option linter.unusedVariables false
namespace Go.Proofs.YtljgofmmihmmfabDoor
open Go.RowKit Go.Lib

set_option maxHeartbeats 4000000 in
set_option maxRecDepth 100000 in
theorem orders_walk (v : V) (cs : List Value) (l : List Mem) (am : Option Addr) (cm bm om : Nat) (n : Int) (w : World) (t : Tb w) (hv : v.lies false w (Old w) cs) (ham : Headed am l.length cm bm om) (hl : liesM false w (Old w) l bm om) : Calls Tryd.prog 3 #[.agg cs.toArray, .slice am l.length cm, .int .i64 n] w (BPost true w) := by
  obtain ⟨k, b, i, s, l0, m⟩ := v
  have hv0 := hv
  rw [V.lies] at hv
  obtain ⟨al, cl, bl, ol, av, cv, bv, ov, rfl, _, _, _, _, hav, _, hmv, _⟩ := hv
  have hz0 := alloc_size w (.cells #[.int .i64 k, .bool b, .int .i64 i, .string s, .slice al l0.length cl, .slice av m.length cv] 25)
  have B0 : Below w.heap.size w (w.alloc (.cells #[.int .i64 k, .bool b, .int .i64 i, .string s, .slice al l0.length cl, .slice av m.length cv] 25)) := (Below.refl _ _).alloc (Nat.le_refl _) _
  have hbA := box_row w [.int .i64 k, .bool b, .int .i64 i, .string s, .slice al l0.length cl, .slice av m.length cv] 25
  have HL : Hid (∀ W, Below w.heap.size w W → (V.mk k b i s l0 m).lies false W (Old W) [.int .i64 k, .bool b, .int .i64 i, .string s, .slice al l0.length cl, .slice av m.length cv] ∧ liesM false W (Old W) l bm om ∧ liesM false W (Old W) m bv ov) := fun W hB => ⟨V.lies_keep (fun h => h) (fun x hx => hB.block x hx) (fun x hx => Nat.lt_of_lt_of_le hx hB.size) _ hv0, liesM_keep (fun h => h) (fun x hx => hB.block x hx) (fun x hx => Nat.lt_of_lt_of_le hx hB.size) _ hl, liesM_keep (fun h => h) (fun x hx => hB.block x hx) (fun x hx => Nat.lt_of_lt_of_le hx hB.size) _ hmv⟩
  have HT : Hid (∀ W, Below w.heap.size w W → Tb W) := fun W hB => t.below hB t.z
  have hml : l.length ≤ 9223372036854775807 := Nat.le_trans ham.le ham.max
  obtain ⟨d0, d1, d2, d3, d4, d5⟩ := row6z hbA
  clear hv0 hl hmv t
  go_enter Tryd.func3, Tryd.ntmps3
  go_wp2_with fail
  clear d0 d1 d2 d3 d4 d5
  generalize (w.alloc (.cells #[.int .i64 k, .bool b, .int .i64 i, .string s, .slice al l0.length cl, .slice av m.length cv] 25)) = w0 at *
  have K0 : Hid (∀ W, Below w0.heap.size w0 W → Below w.heap.size w W ∧ rowAt W w.heap.size 0 [.int .i64 k, .bool b, .int .i64 i, .string s, .slice al l0.length cl, .slice av m.length cv]) := fun W hB => ⟨B0.trans (hB.mono (by omega)), hbA.keep (hB.block _ (by omega))⟩
  clear hbA
  refine (beyond_any (V.mk k b i s l0 m) (Old w0) _ w0 (HL.out w0 B0).1 (fun x hx => hx)).mono ?_
  rintro e w1 ⟨r, rfl, hr, c1⟩
  have B1 := (K0.out w1 c1).1
  cases r with
  | true =>
    go_wp2_with fail
    go_ret
    exact ⟨rfl, B1⟩
  | false =>
  have hwt := hr rfl
  clear hr
  have cM := beyondM_any l (Old w1) am cm bm om w1 ham (HL.out w1 B1).2.1 (fun x hx => hx)
  go_wp2_with fail
  refine cM.mono ?_
  rintro e w2 ⟨r, rfl, hr, b2⟩
  have c2 := c1.trans (b2.mono c1.size)
  clear b2 c1 B1 cM B0
  have B2 := (K0.out w2 c2).1
  cases r with
  | true =>
    go_wp2_with fail
    go_ret
    exact ⟨rfl, B2⟩
  | false =>
  have hwl := hr rfl
  clear hr
  have hll := wtM_len l
  have hmm : wtM m ≤ 2147483647 := by simp only [V.wt] at hwt; omega
  have hlm := wtM_len m
  have CBL : Hid (∀ W, Below w.heap.size w W → Calls Tryd.prog 10 #[.slice am l.length cm] W (VePost (bvV l).1 (bvV l).2 W)) := fun W hB => (buildH_any l false (Old W) am cm bm om W (HT.out W hB) ham (HL.out W hB).2.1 (fun _ h => h) (by omega)).mono fun e w' h => bv_val (bv_of_bld h)
  have CBT : Hid (∀ W, Below w.heap.size w W → ∀ (lx : List Mem) (a : Option Addr) (c bx o : Nat), wtM lx ≤ 2147483647 → Headed a lx.length c bx o → liesM false W (Old W) (trnL lx n) bx o → Calls Tryd.prog 10 #[.slice a lx.length c] W (VePost (bvV lx).1 (bvV lx).2 W)) := fun W hB lx a c bx o hw hd hx => by
    have hlen : (trnL lx n).length = lx.length := (trn_perm lx n).length_eq
    have h := (buildH_any (trnL lx n) false (Old W) a c bx o W (HT.out W hB) (by rw [hlen]; exact hd) hx (fun _ h => h) (by rw [wtM_perm (trn_perm lx n)]; omega)).mono fun e w' h => bv_val (bv_of_bld h)
    rw [hlen, bv_trn] at h
    exact h
  have CTL : Hid (∀ W, Below w.heap.size w W → Calls Tryd.prog 11 #[.slice am l.length cm, .int .i64 n] W (TrnPost l n W)) := fun W hB => turned_any l n (Old W) am cm bm om W ham (HL.out W hB).2.1 (fun _ h => h) (by omega)
  have CTM : Hid (∀ W, Below w.heap.size w W → Calls Tryd.prog 11 #[.slice av m.length cv, .int .i64 n] W (TrnPost m n W)) := fun W hB => turned_any m n (Old W) av cv bv ov W hav (HL.out W hB).2.2 (fun _ h => h) (by omega)
  have AW := awake_any w2 (HT.out w2 B2)
  go_wp2_with fail
  refine AW.mono ?_
  rintro e w3 ⟨rfl, b3⟩
  have c3 := c2.trans (b3.mono c2.size)
  clear AW b3 c2 B2
  obtain ⟨d0, d1, d2, d3, d4, d5⟩ := row6z (K0.out w3 c3).2
  have cP := lmapOf_any false (V.mk k b i s l0 m) (Old w3) _ w3 (HT.out w3 (K0.out w3 c3).1) (HL.out w3 (K0.out w3 c3).1).1 (fun x hx => hx) (by omega)
  go_wp2_with fail
  refine cP.mono ?_
  rintro e w4 ⟨rfl, b4⟩
  have c4 := c3.trans (b4.mono c3.size)
  clear cP b4 c3 d0 d1 d2 d3 d4 d5
  have HWA : Hid (∀ (va : V) {sl : List Mem}, va = V.mk 5 false 0 ⟨#[]⟩ [] sl → sl.Perm l → va.wt ≤ 1099511627776) := fun va sl h hp => by
    have z0 : (⟨#[]⟩ : ByteArray).size = 0 := rfl
    have := wtM_perm hp
    rw [h]; simp only [V.wt, wtL]; omega
  cases hmb : mapB (V.mk k b i s l0 m) with
  | false =>
    clear hmb
    have CB := CBL.out w4 (K0.out w4 c4).1
    have HVA : Hid ((¬ (bvV l).2 = 0 → (bvV l).1 = nullV) ∧ ((bvV l).2 = 0 → ∃ s, s.Perm l ∧ Srt s ∧ (bvV l).1 = V.mk 5 false 0 ⟨#[]⟩ [] s ∧ okV (V.mk 5 false 0 ⟨#[]⟩ [] s) = true)) := ⟨bv_bad, bv_good⟩
    have CBX : Hid (∀ W, Below w.heap.size w W → ∀ (a : Option Addr) (c bx o : Nat), Headed a l.length c bx o → liesM false W (Old W) (trnL l n) bx o → Calls Tryd.prog 10 #[.slice a l.length c] W (VePost (bvV l).1 (bvV l).2 W)) := fun W hB a c bx o hd hx => CBT.out W hB l a c bx o hwl hd hx
    generalize (bvV l).1 = va at *
    generalize (bvV l).2 = ea at *
    go_wp2_with fail
    refine CB.mono ?_
    rintro e w5 ⟨csu, rfl, hlu, b5⟩
    have HU0 : Hid (va.lies false w5 (New w4 w5) csu) := hlu
    obtain ⟨uk, ub, ui, us, ual, unl, ucl, uam, unm, ucm, rfl⟩ := V.ten hlu
    have hz5 := b5.size
    have hz6 := alloc_size w5 (.cells #[.int .i64 uk, .bool ub, .int .i64 ui, .string us, .slice ual unl ucl, .slice uam unm ucm] 25)
    have b6 : Below w5.heap.size w5 (w5.alloc (.cells #[.int .i64 uk, .bool ub, .int .i64 ui, .string us, .slice ual unl ucl, .slice uam unm ucm] 25)) := (Below.refl _ _).alloc (Nat.le_refl _) _
    have hbu := box_row w5 [.int .i64 uk, .bool ub, .int .i64 ui, .string us, .slice ual unl ucl, .slice uam unm ucm] 25
    have c6 : Below w0.heap.size w0 (w5.alloc (.cells #[.int .i64 uk, .bool ub, .int .i64 ui, .string us, .slice ual unl ucl, .slice uam unm ucm] 25)) := (c4.trans (b5.mono c4.size)).trans (b6.mono (by have := c4.size; omega))
    have cT := CTL.out _ (K0.out _ c6).1
    clear hlu CB
    go_wp2_with fail
    have HUx : Hid (∀ W, Below (w5.alloc (.cells #[.int .i64 uk, .bool ub, .int .i64 ui, .string us, .slice ual unl ucl, .slice uam unm ucm] 25)).heap.size (w5.alloc (.cells #[.int .i64 uk, .bool ub, .int .i64 ui, .string us, .slice ual unl ucl, .slice uam unm ucm] 25)) W → Below w0.heap.size w0 W ∧ rowAt W w5.heap.size 0 [.int .i64 uk, .bool ub, .int .i64 ui, .string us, .slice ual unl ucl, .slice uam unm ucm] ∧ va.lies false W (New w4 w5) [.int .i64 uk, .bool ub, .int .i64 ui, .string us, .slice ual unl ucl, .slice uam unm ucm] ∧ w5.heap.size < W.heap.size) := fun W hb => ⟨c6.trans (hb.mono c6.size), hbu.keep (hb.block _ (by omega)), V.lies_keep (fun h => h) (fun x hx => (hb.block x (by have := hx.2; omega)).trans (b6.block x hx.2)) (fun _ h => h) _ HU0.out, by have := hb.size; omega⟩
    clear hbu b6 c6 HU0 b5 c4
    generalize (w5.alloc (.cells #[.int .i64 uk, .bool ub, .int .i64 ui, .string us, .slice ual unl ucl, .slice uam unm ucm] 25)) = w6 at *
    refine cT.mono ?_
    rintro e w7 ⟨ta, tc, tb, tq, rfl, hdt, hlt, c7⟩
    have cX := CBX.out w7 (K0.out w7 (HUx.out w7 c7).1).1 ta tc tb tq hdt hlt
    clear cT hlt
    go_wp2_with fail
    refine cX.mono ?_
    rintro e w8 ⟨cst, rfl, hlt, b8⟩
    have HT0 : Hid (va.lies false w8 (New w7 w8) cst) := hlt
    obtain ⟨tk, tb, ti, ts, tal, tnl, tcl, tam, tnm, tcm, rfl⟩ := V.ten hlt
    have c8 := c7.trans (b8.mono c7.size)
    have hz9 := alloc_size w8 (.cells #[.int .i64 tk, .bool tb, .int .i64 ti, .string ts, .slice tal tnl tcl, .slice tam tnm tcm] 25)
    have b9 : Below w8.heap.size w8 (w8.alloc (.cells #[.int .i64 tk, .bool tb, .int .i64 ti, .string ts, .slice tal tnl tcl, .slice tam tnm tcm] 25)) := (Below.refl _ _).alloc (Nat.le_refl _) _
    have hbt := box_row w8 [.int .i64 tk, .bool tb, .int .i64 ti, .string ts, .slice tal tnl tcl, .slice tam tnm tcm] 25
    have c9 : Below w6.heap.size w6 (w8.alloc (.cells #[.int .i64 tk, .bool tb, .int .i64 ti, .string ts, .slice tal tnl tcl, .slice tam tnm tcm] 25)) := c8.trans (b9.mono c8.size)
    have hz8 := b8.size
    clear hlt cX
    have cN := num_any (ea : Int) (w8.alloc (.cells #[.int .i64 tk, .bool tb, .int .i64 ti, .string ts, .slice tal tnl tcl, .slice tam tnm tcm] 25))
    go_wp2_with fail
    have HTx : Hid (∀ W, Below (w8.alloc (.cells #[.int .i64 tk, .bool tb, .int .i64 ti, .string ts, .slice tal tnl tcl, .slice tam tnm tcm] 25)).heap.size (w8.alloc (.cells #[.int .i64 tk, .bool tb, .int .i64 ti, .string ts, .slice tal tnl tcl, .slice tam tnm tcm] 25)) W → (Below w0.heap.size w0 W ∧ rowAt W w5.heap.size 0 [.int .i64 uk, .bool ub, .int .i64 ui, .string us, .slice ual unl ucl, .slice uam unm ucm] ∧ va.lies false W (New w4 w5) [.int .i64 uk, .bool ub, .int .i64 ui, .string us, .slice ual unl ucl, .slice uam unm ucm] ∧ w5.heap.size < W.heap.size) ∧ rowAt W w8.heap.size 0 [.int .i64 tk, .bool tb, .int .i64 ti, .string ts, .slice tal tnl tcl, .slice tam tnm tcm] ∧ va.lies false W (New w7 w8) [.int .i64 tk, .bool tb, .int .i64 ti, .string ts, .slice tal tnl tcl, .slice tam tnm tcm] ∧ w8.heap.size < W.heap.size) := fun W hb => ⟨HUx.out W (c9.trans (hb.mono c9.size)), hbt.keep (hb.block _ (by omega)), V.lies_keep (fun h => h) (fun x hx => (hb.block x (by have := hx.2; omega)).trans (b9.block x hx.2)) (fun _ h => h) _ HT0.out, by have := hb.size; omega⟩
    clear hbt b9 c9 HT0 b8 c8 c7 HUx hdt
    generalize (w8.alloc (.cells #[.int .i64 tk, .bool tb, .int .i64 ti, .string ts, .slice tal tnl tcl, .slice tam tnm tcm] 25)) = w9 at *
    refine cN.mono ?_
    rintro e w10 ⟨rfl, c10⟩
    clear cN
    by_cases he : ea = 0
    · subst he
      obtain ⟨sl, hsp, hss, hva, hso⟩ := HVA.out.2 rfl
      have HVV : Hid (va = V.mk 5 false 0 ⟨#[]⟩ [] sl) := hva
      have HSL : Hid (sl.Perm l ∧ Srt sl ∧ okV (V.mk 5 false 0 ⟨#[]⟩ [] sl) = true) := ⟨hsp, hss, hso⟩
      have hsl : sl.length = l.length := hsp.length_eq
      have HNM : Hid (∀ W, va.lies false W (New w4 w5) [.int .i64 uk, .bool ub, .int .i64 ui, .string us, .slice ual unl ucl, .slice uam unm ucm] → unm = l.length) := fun W h => by
        rw [HVV.out, V.lies] at h
        obtain ⟨_, _, _, _, _, _, _, _, e, _⟩ := h
        simp at e
        omega
      clear hsp hss hso hva HVA CBX CBL CTL CTM CBT
      have hnm : unm = l.length := HNM.out w10 (HTx.out w10 c10).1.2.2.1
      subst hnm
      have cN := num_any 0 w10
      go_wp2_with fail
      refine cN.mono ?_
      rintro e w11 ⟨rfl, b11⟩
      have c11 := c10.trans (b11.mono c10.size)
      clear cN b11 c10
      obtain ⟨hA, hT1, hT2, hT3⟩ := HTx.out w11 c11
      obtain ⟨f0, f1, f2, f3, f4, f5⟩ := row6z hA.2.1
      obtain ⟨g0, g1, g2, g3, g4, g5⟩ := row6z hT1
      have cS := same_any va false false va (New w4 w5) (New w7 w8) _ _ w11 hA.2.2.1 hT2 (fun x h => by have := h.2; have := hA.2.2.2; omega) (fun x h => by have := h.2; omega)
      rw [V.eqB_refl] at cS
      clear hA hT1 hT2 hT3
      go_wp2_with fail
      refine cS.mono ?_
      rintro e w12 ⟨rfl, b12⟩
      have c12 := c11.trans (b12.mono c11.size)
      clear cS b12 c11 f0 f1 f2 f3 f4 f5 g0 g1 g2 g3 g4 g5
      obtain ⟨hA, _⟩ := HTx.out w12 c12
      obtain ⟨f0, f1, f2, f3, f4, f5⟩ := row6z hA.2.1
      have cP := lmapOf_any false va (New w4 w5) _ w12 (HT.out w12 (K0.out w12 hA.1).1) hA.2.2.1 (fun x h => by have := h.2; have := hA.2.2.2; omega) (HWA.out va HVV.out HSL.out.1)
      have hmb : mapB va = true := by rw [HVV.out]; simp [mapB, kindOf, HSL.out.2.2]
      rw [hmb] at cP
      clear hA hmb
      go_wp2_with fail
      refine cP.mono ?_
      rintro e w13 ⟨rfl, b13⟩
      have c13 := c12.trans (b13.mono c12.size)
      clear cP b13 c12 f0 f1 f2 f3 f4 f5
      obtain ⟨hA, _⟩ := HTx.out w13 c13
      obtain ⟨f0, f1, f2, f3, f4, f5⟩ := row6z hA.2.1
      clear hA
      go_wp2_with fail
      clear f0 f1 f2 f3 f4 f5
      go_loopw [14] (fun e14 wq => ∃ j : Nat, j ≤ l.length ∧ e14 = .int .i64 (j : Int) ∧ Hid (Below w9.heap.size w9 wq)) (fun e14 _ => l.length - (RowKit.intOf e14).toNat)
      case atStart => exact ⟨0, by omega, rfl, c13⟩
      case round =>
        rename World => wx
        obtain ⟨j, hj, rfl, bx⟩ := hrel
        have hzx := bx.out.size
        obtain ⟨hA, _⟩ := HTx.out wx bx.out
        have Bx := (K0.out wx hA.1).1
        by_cases hjl : j < l.length
        · have y1 : (j : Int) < l.length := by omega
          obtain rfl : am = some ⟨bm, om, none⟩ := ham.at_.resolve_left (by omega)
          obtain ⟨hSb, hks, csj, hrow, hlj⟩ := liesM_get (HL.out wx Bx).2.1 j hjl
          have hbm : bm < wx.heap.size := hSb
          have HJ : Hid ((l[j]).2.lies false wx (Old wx) csj) := hlj
          obtain ⟨ek, eb, ei, es, eal, enl, ecl, eam, enm, ecm, rfl⟩ := V.ten hlj
          obtain ⟨ikey, hik⟩ : ∃ ikey, (l[j]).1 = ikey := ⟨_, rfl⟩
          have HEG : Hid (getV va ikey = ((l[j]).2, true)) := by show _ = _; rw [HVV.out, ← hik]; exact get_hit HSL.out.1 HSL.out.2.1 HSL.out.2.2 hjl
          have HG : Hid (∀ W, Below wx.heap.size wx W → Calls Tryd.prog 14 #[.agg #[.int .i64 uk, .bool ub, .int .i64 ui, .string us, .slice ual unl ucl, .slice uam l.length ucm], .string ikey] W (GtPost ((l[j]).2, true) W)) := fun W hb => by
            have hB := HTx.out W (bx.out.trans (hb.mono hzx))
            have h := get_any va ikey false (New w4 w5) _ W (HT.out W (K0.out W hB.1.1).1) hB.1.2.2.1 (fun x h => by have := h.2; have := hB.1.2.2.2; omega) (HWA.out va HVV.out HSL.out.1)
            rw [HEG.out] at h
            exact h
          rw [hik] at hrow
          obtain ⟨q, q0, q1, q2, q3, q4, q5⟩ := row7 hrow
          obtain ⟨f0, f1, f2, f3, f4, f5⟩ := row6z hA.2.1
          have hw5 := hA.2.2.2
          have KP : Hid (∀ W', Below wx.heap.size wx W' → W'.cell? ⟨w5.heap.size, 0, none⟩ = some (.int .i64 uk) ∧ W'.cell? ⟨w5.heap.size, 1, none⟩ = some (.bool ub) ∧ W'.cell? ⟨w5.heap.size, 2, none⟩ = some (.int .i64 ui) ∧ W'.cell? ⟨w5.heap.size, 3, none⟩ = some (.string us) ∧ W'.cell? ⟨w5.heap.size, 4, none⟩ = some (.slice ual unl ucl) ∧ W'.cell? ⟨w5.heap.size, 5, none⟩ = some (.slice uam l.length ucm) ∧ W'.cell? ⟨bm, om + j * 7, none⟩ = some (.string ikey)) := fun W' hb =>
            ⟨(hb.cell (p := ⟨w5.heap.size, 0, none⟩) hw5).trans f0, (hb.cell (p := ⟨w5.heap.size, 1, none⟩) hw5).trans f1, (hb.cell (p := ⟨w5.heap.size, 2, none⟩) hw5).trans f2, (hb.cell (p := ⟨w5.heap.size, 3, none⟩) hw5).trans f3, (hb.cell (p := ⟨w5.heap.size, 4, none⟩) hw5).trans f4, (hb.cell (p := ⟨w5.heap.size, 5, none⟩) hw5).trans f5, (hb.cell (p := ⟨bm, om + j * 7, none⟩) hbm).trans q⟩
          have BD : Hid (Below wx.heap.size wx wx.drew) := (Below.refl _ _).drew
          have BA : Hid (Below wx.heap.size wx (wx.alloc (.cells #[.int .i64 0, .bool false, .int .i64 0, .string ⟨#[]⟩, .slice none 0 0, .slice none 0 0] 25)).drew) := ((Below.refl _ _).alloc (Nat.le_refl _) _).drew
          have hzA : (wx.alloc (.cells #[.int .i64 0, .bool false, .int .i64 0, .string ⟨#[]⟩, .slice none 0 0, .slice none 0 0] 25)).drew.heap.size = wx.heap.size + 1 := alloc_size wx _
          have hAn : (wx.alloc (.cells #[.int .i64 0, .bool false, .int .i64 0, .string ⟨#[]⟩, .slice none 0 0, .slice none 0 0] 25)).drew.heap[wx.heap.size]? = some (.cells #[.int .i64 0, .bool false, .int .i64 0, .string ⟨#[]⟩, .slice none 0 0, .slice none 0 0] 25 (0, 0)) := heap_alloc_new wx _
          have HA : Hid (∀ w3 : World, Below (wx.alloc (.cells #[.int .i64 0, .bool false, .int .i64 0, .string ⟨#[]⟩, .slice none 0 0, .slice none 0 0] 25)).drew.heap.size (wx.alloc (.cells #[.int .i64 0, .bool false, .int .i64 0, .string ⟨#[]⟩, .slice none 0 0, .slice none 0 0] 25)).drew w3 → w3.heap[wx.heap.size]? = some (.cells #[.int .i64 0, .bool false, .int .i64 0, .string ⟨#[]⟩, .slice none 0 0, .slice none 0 0] 25 (0, 0)) ∧ Below wx.heap.size wx w3 ∧ wx.heap.size ≤ w3.heap.size) := fun w3 h =>
            ⟨(h.block _ (by rw [hzA]; omega)).trans hAn, BA.out.trans (h.mono (by rw [hzA]; omega)), by have := h.size; rw [hzA] at this; omega⟩
          have HNA : Hid (∀ (w3 : World) (x : Nat), New (wx.alloc (.cells #[.int .i64 0, .bool false, .int .i64 0, .string ⟨#[]⟩, .slice none 0 0, .slice none 0 0] 25)).drew w3 x → From (wx.heap.size + 1) w3 x) := fun w3 x h => ⟨by have h1 := h.1; rw [hzA] at h1; exact h1, h.2⟩
          clear hAn hzA hrow hlj q q0 q1 q2 q3 q4 q5 f0 f1 f2 f3 f4 f5 hA hik
          go_wp2_with fail
          refine wp_region_held_drew (S := (fun W' => W'.cell? ⟨w5.heap.size, 0, none⟩ = some (.int .i64 uk) ∧ W'.cell? ⟨w5.heap.size, 1, none⟩ = some (.bool ub) ∧ W'.cell? ⟨w5.heap.size, 2, none⟩ = some (.int .i64 ui) ∧ W'.cell? ⟨w5.heap.size, 3, none⟩ = some (.string us) ∧ W'.cell? ⟨w5.heap.size, 4, none⟩ = some (.slice ual unl ucl) ∧ W'.cell? ⟨w5.heap.size, 5, none⟩ = some (.slice uam l.length ucm) ∧ W'.cell? ⟨bm, om + j * 7, none⟩ = some (.string ikey))) (by kernel_rfl) (KP.out _ BD.out) (fun hHeld => ?_)
          (refine wpAnyH_take (i := 0) (v := ?_) rfl (by kernel_rfl) (by kernel_rfl) (by kernel_rfl) (fun _ _ _ h => h) (Or.inl ⟨by rfl, ?_⟩) (by assumption) ?_; rotate_left 1; (intro W0 hSw; (try dsimp only at hSw); go_simp; (try with_reducible rfl)); (try simp only [Act.put, List.setIfInBounds_toArray, List.set_cons_zero, List.set_cons_succ]))
          (refine wpAnyH_take (i := 1) (v := ?_) rfl (by kernel_rfl) (by kernel_rfl) (by kernel_rfl) (fun _ _ _ h => h) (Or.inl ⟨by rfl, ?_⟩) (by assumption) ?_; rotate_left 1; (intro W0 hSw; (try dsimp only at hSw); go_simp; (try with_reducible rfl)); (try simp only [Act.put, List.setIfInBounds_toArray, List.set_cons_zero, List.set_cons_succ]))
          (refine wpAnyH_take (i := 2) (v := ?_) rfl (by kernel_rfl) (by kernel_rfl) (by kernel_rfl) (fun _ _ _ h => h) (Or.inl ⟨by rfl, ?_⟩) (by assumption) ?_; rotate_left 1; (intro W0 hSw; (try dsimp only at hSw); go_simp; (try with_reducible rfl)); (try simp only [Act.put, List.setIfInBounds_toArray, List.set_cons_zero, List.set_cons_succ]))
          (refine wpAnyH_take (i := 3) (v := ?_) rfl (by kernel_rfl) (by kernel_rfl) (by kernel_rfl) (fun _ _ _ h => h) (Or.inl ⟨by rfl, ?_⟩) (by assumption) ?_; rotate_left 1; (intro W0 hSw; (try dsimp only at hSw); go_simp; (try with_reducible rfl)); (try simp only [Act.put, List.setIfInBounds_toArray, List.set_cons_zero, List.set_cons_succ]))
          (refine wpAnyH_take (i := 4) (v := ?_) rfl (by kernel_rfl) (by kernel_rfl) (by kernel_rfl) (fun _ _ _ h => h) (Or.inl ⟨by rfl, ?_⟩) (by assumption) ?_; rotate_left 1; (intro W0 hSw; (try dsimp only at hSw); go_simp; (try with_reducible rfl)); (try simp only [Act.put, List.setIfInBounds_toArray, List.set_cons_zero, List.set_cons_succ]))
          (refine wpAnyH_take (i := 5) (v := ?_) rfl (by kernel_rfl) (by kernel_rfl) (by kernel_rfl) (fun _ _ _ h => h) (Or.inl ⟨by rfl, ?_⟩) (by assumption) ?_; rotate_left 1; (intro W0 hSw; (try dsimp only at hSw); go_simp; (try with_reducible rfl)); (try simp only [Act.put, List.setIfInBounds_toArray, List.set_cons_zero, List.set_cons_succ]))
          refine wpAnyH_ready (rs := [6, 10]) (by kernel_rfl) (by simp) ?_
          refine AllReadyH.cons rfl (fun K hK => ?_) (AllReadyH.cons rfl (fun K hK => ?_) AllReadyH.nil)
          · go_simp
            refine (HG.out wx.drew BD.out).mono ?_
            rintro e w3 ⟨csg, rfl, hlg, b3⟩
            have HLG : Hid ((l[j]).2.lies false w3 (From wx.heap.size w3) csg) := V.lies_keep (fun h => h) (fun _ _ => rfl) (fun x hx => ⟨hx.1, hx.2⟩) _ hlg
            obtain ⟨gk, gb, gi, gs, gal, gnl, gcl, gam, gnm, gcm, rfl⟩ := V.ten hlg
            have bw3 : Hid (Below wx.heap.size wx w3) := BD.out.trans b3
            have hs3 : Hid (wx.heap.size ≤ w3.heap.size) := b3.size
            clear hlg b3
            go_wp2_with fail
            refine hK.out _ _ (KP.out _ bw3.out) (fun hHeld => ?_)
            clear hK K
            (try simp only [Act.put, List.setIfInBounds_toArray, List.set_cons_zero, List.set_cons_succ])
            (refine wpAnyH_take (i := 7) (v := ?_) rfl (by kernel_rfl) (by kernel_rfl) (by kernel_rfl) (fun _ _ _ h => h) (Or.inl ⟨by rfl, ?_⟩) (by assumption) ?_; rotate_left 1; (intro W0 hSw; (try dsimp only at hSw); go_simp; (try with_reducible rfl)); (try simp only [Act.put, List.setIfInBounds_toArray, List.set_cons_zero, List.set_cons_succ]))
            (refine wpAnyH_take (i := 8) (v := ?_) rfl (by kernel_rfl) (by kernel_rfl) (by kernel_rfl) (fun _ _ _ h => h) (Or.inl ⟨by rfl, ?_⟩) (by assumption) ?_; rotate_left 1; (intro W0 hSw; (try dsimp only at hSw); go_simp; (try with_reducible rfl)); (try simp only [Act.put, List.setIfInBounds_toArray, List.set_cons_zero, List.set_cons_succ]))
            (refine wpAnyH_take (i := 9) (v := ?_) rfl (by kernel_rfl) (by kernel_rfl) (by kernel_rfl) (fun _ _ _ h => h) (Or.inl ⟨by rfl, ?_⟩) (by assumption) ?_; rotate_left 1; (intro W0 hSw; (try dsimp only at hSw); go_simp; (try with_reducible rfl)); (try simp only [Act.put, List.setIfInBounds_toArray, List.set_cons_zero, List.set_cons_succ]))
            refine wpAnyH_ready (rs := [10]) (by kernel_rfl) (by simp) ?_
            refine AllReadyH.cons rfl (fun K hK => ?_) AllReadyH.nil
            go_simp
            refine hK.out _ _ (KP.out _ (bw3.out.alloc hs3.out _)) (fun hHeld => ?_)
            clear hK K
            (try simp only [Act.put, List.setIfInBounds_toArray, List.set_cons_zero, List.set_cons_succ])
            refine wpAnyH_ready (rs := [11]) (by kernel_rfl) (by simp) ?_
            refine AllReadyH.cons rfl (fun K hK => ?_) AllReadyH.nil
            go_simp
            refine hK.out _ _ (by first | exact KP.out _ (bw3.out.alloc hs3.out _) | exact KP.out _ (Below.set6 (bw3.out.alloc hs3.out _) hs3.out _ _ _ _ _ _ _ _ _ _ _ _)) (fun hHeld => ?_)
            clear hK K
            (try simp only [Act.put, List.setIfInBounds_toArray, List.set_cons_zero, List.set_cons_succ])
            (refine wpAnyH_take (i := 12) (v := ?_) rfl (by kernel_rfl) (by kernel_rfl) (by kernel_rfl) (fun _ _ _ h => h) (Or.inl ⟨by rfl, ?_⟩) (by assumption) ?_; rotate_left 1; (intro W0 hSw; (try dsimp only at hSw); go_simp; (try with_reducible rfl)); (try simp only [Act.put, List.setIfInBounds_toArray, List.set_cons_zero, List.set_cons_succ]))
            refine wpAnyH_done (by kernel_rfl) ?_ _
            (try dsimp only [Act.put, List.getElem_toArray, List.getElem_cons_succ, List.getElem_cons_zero, List.setIfInBounds_toArray, List.set_cons_zero, List.set_cons_succ])
            (try simp only [Act.put, List.getElem_toArray, List.getElem_cons_succ, List.getElem_cons_zero, List.setIfInBounds_toArray, List.set_cons_zero, List.set_cons_succ])
            have hs3' := hs3.out
            have hz4 := alloc_size w3 (.cells #[.int .i64 gk, .bool gb, .int .i64 gi, .string gs, .slice gal gnl gcl, .slice gam gnm gcm] 25)
            have ba : Below w3.heap.size w3 (w3.alloc (.cells #[.int .i64 gk, .bool gb, .int .i64 gi, .string gs, .slice gal gnl gcl, .slice gam gnm gcm] 25)) := (Below.refl _ _).alloc (Nat.le_refl _) _
            have hrg := box_row w3 [.int .i64 gk, .bool gb, .int .i64 gi, .string gs, .slice gal gnl gcl, .slice gam gnm gcm] 25
            have hlg : (l[j]).2.lies false (w3.alloc (.cells #[.int .i64 gk, .bool gb, .int .i64 gi, .string gs, .slice gal gnl gcl, .slice gam gnm gcm] 25)) (Old (w3.alloc (.cells #[.int .i64 gk, .bool gb, .int .i64 gi, .string gs, .slice gal gnl gcl, .slice gam gnm gcm] 25))) [.int .i64 gk, .bool gb, .int .i64 gi, .string gs, .slice gal gnl gcl, .slice gam gnm gcm] := V.lies_keep (fun h => h) (fun x hx => ba.block x hx.2) (fun x hx => Nat.lt_of_lt_of_le hx.2 ba.size) _ HLG.out
            have b4 : Below wx.heap.size wx (w3.alloc (.cells #[.int .i64 gk, .bool gb, .int .i64 gi, .string gs, .slice gal gnl gcl, .slice gam gnm gcm] 25)) := bw3.out.trans (ba.mono hs3')
            have hNb : w3.heap.size < (w3.alloc (.cells #[.int .i64 gk, .bool gb, .int .i64 gi, .string gs, .slice gal gnl gcl, .slice gam gnm gcm] 25)).heap.size := by omega
            generalize (w3.alloc (.cells #[.int .i64 gk, .bool gb, .int .i64 gi, .string gs, .slice gal gnl gcl, .slice gam gnm gcm] 25)) = wy at *
            clear ba HLG bw3 hs3 HNA HA BA BD KP HG
            have hB4 := HTx.out wy (bx.out.trans (b4.mono hzx))
            have By := (K0.out wy hB4.1.1).1
            have hzy := b4.size
            obtain ⟨_, _, csj, hrow, hlj⟩ := liesM_get (HL.out wy By).2.1 j hjl
            have hlj0 := hlj
            obtain ⟨hk, hb, hi, hs, hal, hnl, hcl, ham, hnm, hcm, rfl⟩ := V.ten hlj
            obtain ⟨q, q0, q1, q2, q3, q4, q5⟩ := row7 hrow
            obtain ⟨f0, f1, f2, f3, f4, f5⟩ := row6z hrg
            have hbmy : bm < wy.heap.size := Nat.lt_of_lt_of_le hbm hzy
            have CI : Hid (∀ x : Sub wy.heap.size wy, Calls Tryd.prog 13 #[.agg #[.int .i64 gk, .bool gb, .int .i64 gi, .string gs, .slice gal gnl gcl, .slice gam gnm gcm], .agg #[.int .i64 hk, .bool hb, .int .i64 hi, .string hs, .slice hal hnl hcl, .slice ham hnm hcm]] x.w fun e w'' => e = .returned (.bool true) ∧ ∃ y : Sub wy.heap.size wy, w'' = y.w) := fun x =>
              sub_call (fun w' hb => by
                have h := same_any (l[j]).2 false false (l[j]).2 (Old wy) (Old wy) _ _ w' (V.lies_keep (fun h => h) (fun y hy => hb.block y hy) (fun _ h => h) _ hlg) (V.lies_keep (fun h => h) (fun y hy => hb.block y hy) (fun _ h => h) _ hlj0) (fun y hy => Nat.lt_of_lt_of_le hy hb.size) (fun y hy => Nat.lt_of_lt_of_le hy hb.size)
                rw [V.eqB_refl] at h
                exact h.mono fun e w'' ⟨he, h2⟩ => ⟨he, hb.trans (h2.mono hb.size)⟩) x
            have a0 : ∀ x : Sub wy.heap.size wy, _ := sub_cell q0 hbmy
            have a1 : ∀ x : Sub wy.heap.size wy, _ := sub_cell q1 hbmy
            have a2 : ∀ x : Sub wy.heap.size wy, _ := sub_cell q2 hbmy
            have a3 : ∀ x : Sub wy.heap.size wy, _ := sub_cell q3 hbmy
            have a4 : ∀ x : Sub wy.heap.size wy, _ := sub_cell q4 hbmy
            have a5 : ∀ x : Sub wy.heap.size wy, _ := sub_cell q5 hbmy
            have k0 : ∀ x : Sub wy.heap.size wy, _ := sub_cell f0 hNb
            have k1 : ∀ x : Sub wy.heap.size wy, _ := sub_cell f1 hNb
            have k2 : ∀ x : Sub wy.heap.size wy, _ := sub_cell f2 hNb
            have k3 : ∀ x : Sub wy.heap.size wy, _ := sub_cell f3 hNb
            have k4 : ∀ x : Sub wy.heap.size wy, _ := sub_cell f4 hNb
            have k5 : ∀ x : Sub wy.heap.size wy, _ := sub_cell f5 hNb
            have c5 := bx.out.trans (b4.mono hzx)
            have hz5y := c5.size
            clear hrow hlj hlj0 hlg hrg q q0 q1 q2 q3 q4 q5 f0 f1 f2 f3 f4 f5 hB4
            go_wp2_with fail
            refine wp_region_sub wy.heap.size (by kernel_rfl) (by kernel_rfl) ?_
            repeat (go_big_quiet_step (exact CI.out _))
            refine wpQuiet_nil ?_
            rintro _ ⟨⟨wz, bz⟩, rfl⟩
            have b10 := c5.trans (bz.mono hz5y)
            go_wp2_with fail
            go_roundw
            case rel => exact ⟨j + 1, by omega, by go_num, b10⟩
            case measure => simp [RowKit.intOf]; omega
          · go_simp
            refine hK.out _ _ (KP.out _ BA.out) (fun hHeld => ?_)
            clear hK K
            (try simp only [Act.put, List.setIfInBounds_toArray, List.set_cons_zero, List.set_cons_succ])
            refine wpAnyH_ready (rs := [6]) (by kernel_rfl) (by simp) ?_
            refine AllReadyH.cons rfl (fun K hK => ?_) AllReadyH.nil
            go_simp
            refine (HG.out _ BA.out).mono ?_
            rintro e w3 ⟨csg, rfl, hlg, b3⟩
            have HLG : Hid ((l[j]).2.lies false w3 (From (wx.heap.size + 1) w3) csg) := V.lies_keep (fun h => h) (fun _ _ => rfl) (fun x hx => HNA.out w3 x hx) _ hlg
            obtain ⟨gk, gb, gi, gs, gal, gnl, gcl, gam, gnm, gcm, rfl⟩ := V.ten hlg
            have zb := (HA.out w3 b3).1
            have z0 : w3.cell? ⟨wx.heap.size, 0, none⟩ = some (.int .i64 0) := by rw [cell_of_block zb]; rfl
            have z1 : w3.cell? ⟨wx.heap.size, 1, none⟩ = some (.bool false) := by rw [cell_of_block zb]; rfl
            have z2 : w3.cell? ⟨wx.heap.size, 2, none⟩ = some (.int .i64 0) := by rw [cell_of_block zb]; rfl
            have z3 : w3.cell? ⟨wx.heap.size, 3, none⟩ = some (.string ⟨#[]⟩) := by rw [cell_of_block zb]; rfl
            have z4 : w3.cell? ⟨wx.heap.size, 4, none⟩ = some (.slice none 0 0) := by rw [cell_of_block zb]; rfl
            have z5 : w3.cell? ⟨wx.heap.size, 5, none⟩ = some (.slice none 0 0) := by rw [cell_of_block zb]; rfl
            have zf : ∀ i, w3.frozen? ⟨wx.heap.size, i, none⟩ = false := frozen_of_block zb
            have HZB : Hid (w3.heap[wx.heap.size]? = some (.cells #[.int .i64 0, .bool false, .int .i64 0, .string ⟨#[]⟩, .slice none 0 0, .slice none 0 0] 25 (0, 0))) := zb
            have bw3 : Hid (Below wx.heap.size wx w3) := (HA.out w3 b3).2.1
            have hs3 : Hid (wx.heap.size ≤ w3.heap.size) := (HA.out w3 b3).2.2
            clear hlg b3 zb
            go_wp2_with fail
            refine hK.out _ _ (KP.out _ bw3.out) (fun hHeld => ?_)
            clear hK K
            (try simp only [Act.put, List.setIfInBounds_toArray, List.set_cons_zero, List.set_cons_succ])
            (refine wpAnyH_take (i := 7) (v := ?_) rfl (by kernel_rfl) (by kernel_rfl) (by kernel_rfl) (fun _ _ _ h => h) (Or.inl ⟨by rfl, ?_⟩) (by assumption) ?_; rotate_left 1; (intro W0 hSw; (try dsimp only at hSw); go_simp; (try with_reducible rfl)); (try simp only [Act.put, List.setIfInBounds_toArray, List.set_cons_zero, List.set_cons_succ]))
            (refine wpAnyH_take (i := 8) (v := ?_) rfl (by kernel_rfl) (by kernel_rfl) (by kernel_rfl) (fun _ _ _ h => h) (Or.inl ⟨by rfl, ?_⟩) (by assumption) ?_; rotate_left 1; (intro W0 hSw; (try dsimp only at hSw); go_simp; (try with_reducible rfl)); (try simp only [Act.put, List.setIfInBounds_toArray, List.set_cons_zero, List.set_cons_succ]))
            (refine wpAnyH_take (i := 9) (v := ?_) rfl (by kernel_rfl) (by kernel_rfl) (by kernel_rfl) (fun _ _ _ h => h) (Or.inl ⟨by rfl, ?_⟩) (by assumption) ?_; rotate_left 1; (intro W0 hSw; (try dsimp only at hSw); go_simp; (try with_reducible rfl)); (try simp only [Act.put, List.setIfInBounds_toArray, List.set_cons_zero, List.set_cons_succ]))
            refine wpAnyH_ready (rs := [11]) (by kernel_rfl) (by simp) ?_
            refine AllReadyH.cons rfl (fun K hK => ?_) AllReadyH.nil
            go_simp
            refine hK.out _ _ (KP.out _ (Below.set6 bw3.out (Nat.le_refl _) _ _ _ _ _ _ _ _ _ _ _ _)) (fun hHeld => ?_)
            clear hK K
            (try simp only [Act.put, List.setIfInBounds_toArray, List.set_cons_zero, List.set_cons_succ])
            (refine wpAnyH_take (i := 12) (v := ?_) rfl (by kernel_rfl) (by kernel_rfl) (by kernel_rfl) (fun _ _ _ h => h) (Or.inl ⟨by rfl, ?_⟩) (by assumption) ?_; rotate_left 1; (intro W0 hSw; (try dsimp only at hSw); go_simp; (try with_reducible rfl)); (try simp only [Act.put, List.setIfInBounds_toArray, List.set_cons_zero, List.set_cons_succ]))
            refine wpAnyH_done (by kernel_rfl) ?_ _
            (try dsimp only [Act.put, List.getElem_toArray, List.getElem_cons_succ, List.getElem_cons_zero, List.setIfInBounds_toArray, List.set_cons_zero, List.set_cons_succ])
            (try simp only [Act.put, List.getElem_toArray, List.getElem_cons_succ, List.getElem_cons_zero, List.setIfInBounds_toArray, List.set_cons_zero, List.set_cons_succ])
            have hs3' := hs3.out
            obtain ⟨arr', _, _, _, hrg, _⟩ := set6_row (o := 0) HZB.out (by decide) (.int .i64 gk) (.bool gb) (.int .i64 gi) (.string gs) (.slice gal gnl gcl) (.slice gam gnm gcm)
            simp only [Nat.zero_add] at hrg
            have hlg0 := lies_set6A (M := wx.heap.size) HLG.out (by omega) 0 1 2 3 4 5 (.int .i64 gk) (.bool gb) (.int .i64 gi) (.string gs) (.slice gal gnl gcl) (.slice gam gnm gcm)
            have b4 := Below.set6 (M := wx.heap.size) bw3.out (Nat.le_refl _) 0 1 2 3 4 5 (.int .i64 gk) (.bool gb) (.int .i64 gi) (.string gs) (.slice gal gnl gcl) (.slice gam gnm gcm)
            have hNb : wx.heap.size < w3.heap.size := by
              rcases Nat.lt_or_ge wx.heap.size w3.heap.size with h | h
              · exact h
              · have := HZB.out; rw [Array.getElem?_eq_none h] at this; cases this
            have hze : ((((((w3.setCell ⟨wx.heap.size, 0, none⟩ (.int .i64 gk)).setCell ⟨wx.heap.size, 1, none⟩ (.bool gb)).setCell ⟨wx.heap.size, 2, none⟩ (.int .i64 gi)).setCell ⟨wx.heap.size, 3, none⟩ (.string gs)).setCell ⟨wx.heap.size, 4, none⟩ (.slice gal gnl gcl)).setCell ⟨wx.heap.size, 5, none⟩ (.slice gam gnm gcm)).heap.size = w3.heap.size := by simp only [size_set1]
            rw [← hze] at hNb
            generalize ((((((w3.setCell ⟨wx.heap.size, 0, none⟩ (.int .i64 gk)).setCell ⟨wx.heap.size, 1, none⟩ (.bool gb)).setCell ⟨wx.heap.size, 2, none⟩ (.int .i64 gi)).setCell ⟨wx.heap.size, 3, none⟩ (.string gs)).setCell ⟨wx.heap.size, 4, none⟩ (.slice gal gnl gcl)).setCell ⟨wx.heap.size, 5, none⟩ (.slice gam gnm gcm)) = wy at *
            have hlg : (l[j]).2.lies false wy (Old wy) [.int .i64 gk, .bool gb, .int .i64 gi, .string gs, .slice gal gnl gcl, .slice gam gnm gcm] := V.lies_keep (fun h => h) (fun _ _ => rfl) (fun x hx => hx.2) _ hlg0
            clear hlg0 HLG bw3 hs3 HNA HA BA BD KP HG z0 z1 z2 z3 z4 z5 zf HZB hze
            have hB4 := HTx.out wy (bx.out.trans (b4.mono hzx))
            have By := (K0.out wy hB4.1.1).1
            have hzy := b4.size
            obtain ⟨_, _, csj, hrow, hlj⟩ := liesM_get (HL.out wy By).2.1 j hjl
            have hlj0 := hlj
            obtain ⟨hk, hb, hi, hs, hal, hnl, hcl, ham, hnm, hcm, rfl⟩ := V.ten hlj
            obtain ⟨q, q0, q1, q2, q3, q4, q5⟩ := row7 hrow
            obtain ⟨f0, f1, f2, f3, f4, f5⟩ := row6z hrg
            have hbmy : bm < wy.heap.size := Nat.lt_of_lt_of_le hbm hzy
            have CI : Hid (∀ x : Sub wy.heap.size wy, Calls Tryd.prog 13 #[.agg #[.int .i64 gk, .bool gb, .int .i64 gi, .string gs, .slice gal gnl gcl, .slice gam gnm gcm], .agg #[.int .i64 hk, .bool hb, .int .i64 hi, .string hs, .slice hal hnl hcl, .slice ham hnm hcm]] x.w fun e w'' => e = .returned (.bool true) ∧ ∃ y : Sub wy.heap.size wy, w'' = y.w) := fun x =>
              sub_call (fun w' hb => by
                have h := same_any (l[j]).2 false false (l[j]).2 (Old wy) (Old wy) _ _ w' (V.lies_keep (fun h => h) (fun y hy => hb.block y hy) (fun _ h => h) _ hlg) (V.lies_keep (fun h => h) (fun y hy => hb.block y hy) (fun _ h => h) _ hlj0) (fun y hy => Nat.lt_of_lt_of_le hy hb.size) (fun y hy => Nat.lt_of_lt_of_le hy hb.size)
                rw [V.eqB_refl] at h
                exact h.mono fun e w'' ⟨he, h2⟩ => ⟨he, hb.trans (h2.mono hb.size)⟩) x
            have a0 : ∀ x : Sub wy.heap.size wy, _ := sub_cell q0 hbmy
            have a1 : ∀ x : Sub wy.heap.size wy, _ := sub_cell q1 hbmy
            have a2 : ∀ x : Sub wy.heap.size wy, _ := sub_cell q2 hbmy
            have a3 : ∀ x : Sub wy.heap.size wy, _ := sub_cell q3 hbmy
            have a4 : ∀ x : Sub wy.heap.size wy, _ := sub_cell q4 hbmy
            have a5 : ∀ x : Sub wy.heap.size wy, _ := sub_cell q5 hbmy
            have k0 : ∀ x : Sub wy.heap.size wy, _ := sub_cell f0 hNb
            have k1 : ∀ x : Sub wy.heap.size wy, _ := sub_cell f1 hNb
            have k2 : ∀ x : Sub wy.heap.size wy, _ := sub_cell f2 hNb
            have k3 : ∀ x : Sub wy.heap.size wy, _ := sub_cell f3 hNb
            have k4 : ∀ x : Sub wy.heap.size wy, _ := sub_cell f4 hNb
            have k5 : ∀ x : Sub wy.heap.size wy, _ := sub_cell f5 hNb
            have c5 := bx.out.trans (b4.mono hzx)
            have hz5y := c5.size
            clear hrow hlj hlj0 hlg hrg q q0 q1 q2 q3 q4 q5 f0 f1 f2 f3 f4 f5 hB4
            go_wp2_with fail
            refine wp_region_sub wy.heap.size (by kernel_rfl) (by kernel_rfl) ?_
            repeat (go_big_quiet_step (exact CI.out _))
            refine wpQuiet_nil ?_
            rintro _ ⟨⟨wz, bz⟩, rfl⟩
            have b10 := c5.trans (bz.mono hz5y)
            go_wp2_with fail
            go_roundw
            case rel => exact ⟨j + 1, by omega, by go_num, b10⟩
            case measure => simp [RowKit.intOf]; omega
        · obtain rfl : j = l.length := by omega
          have y1 : ¬ (l.length : Int) < l.length := by omega
          clear hA
          go_wp2_with fail
          go_ret
          exact ⟨rfl, Bx⟩
    · have hnull := HVA.out.1 he
      have y1 : ¬ (ea : Int) = 0 := by omega
      have cN := num_any (ea : Int) w10
      clear HVA CBX CBL CTL CTM CBT
      go_wp2_with fail
      refine cN.mono ?_
      rintro e w11 ⟨rfl, b11⟩
      have c11 := c10.trans (b11.mono c10.size)
      clear cN b11 c10
      obtain ⟨hA, _⟩ := HTx.out w11 c11
      obtain ⟨f0, f1, f2, f3, f4, f5⟩ := row6z hA.2.1
      have cS := same_any va false false nullV (New w4 w5) (fun _ => False) _ [.int .i64 0, .bool false, .int .i64 0, .string ⟨#[]⟩, .slice none 0 0, .slice none 0 0] w11 hA.2.2.1 (null_lies _ _) (fun x h => by have := h.2; have := hA.2.2.2; omega) (fun x h => h.elim)
      have HE : Hid (V.eqB va nullV = true) := by show _ = _; rw [hnull, V.eqB_refl]
      rw [HE.out] at cS
      have hB := (K0.out w11 hA.1).1
      clear hA hnull
      go_wp2_with fail
      refine cS.mono ?_
      rintro e w12 ⟨rfl, b12⟩
      have BZ := hB.trans (b12.mono hB.size)
      clear f0 f1 f2 f3 f4 f5
      go_wp2_with fail
      go_ret
      exact ⟨rfl, BZ⟩
  | true =>
    obtain ⟨hve, hvo⟩ := map_is hmb
    have HB : Hid (bvV m = ((V.mk k b i s l0 m), 0)) := by show _ = _; rw [hve] at hvo ⊢; exact bv_map hvo
    clear hmb hve hvo
    obtain ⟨d0, d1, d2, d3, d4, d5⟩ := row6z (K0.out w4 c4).2
    have cT := CTM.out w4 (K0.out w4 c4).1
    go_wp2_with fail
    refine cT.mono ?_
    rintro e q5 ⟨ta, tc, tb, tq, rfl, hdt, hlt, b5⟩
    have c5 := c4.trans (b5.mono c4.size)
    have cX := CBT.out q5 (K0.out q5 c5).1 m ta tc tb tq hmm hdt hlt
    rw [HB.out] at cX
    clear cT hlt d0 d1 d2 d3 d4 d5 b5 c4
    go_wp2_with fail
    refine cX.mono ?_
    rintro e q6 ⟨csp, rfl, hlp, b6⟩
    have HP0 : Hid ((V.mk k b i s l0 m).lies false q6 (New q5 q6) csp) := hlp
    obtain ⟨pk, pb, pi, ps, pal, pnl, pcl, pam, pnm, pcm, rfl⟩ := V.ten hlp
    have c6 := c5.trans (b6.mono c5.size)
    have hz7 := alloc_size q6 (.cells #[.int .i64 pk, .bool pb, .int .i64 pi, .string ps, .slice pal pnl pcl, .slice pam pnm pcm] 25)
    have b7 : Below q6.heap.size q6 (q6.alloc (.cells #[.int .i64 pk, .bool pb, .int .i64 pi, .string ps, .slice pal pnl pcl, .slice pam pnm pcm] 25)) := (Below.refl _ _).alloc (Nat.le_refl _) _
    have hbp := box_row q6 [.int .i64 pk, .bool pb, .int .i64 pi, .string ps, .slice pal pnl pcl, .slice pam pnm pcm] 25
    have c7 : Below w0.heap.size w0 (q6.alloc (.cells #[.int .i64 pk, .bool pb, .int .i64 pi, .string ps, .slice pal pnl pcl, .slice pam pnm pcm] 25)) := c6.trans (b7.mono c6.size)
    have hz6 := b6.size
    have cN := num_any 0 (q6.alloc (.cells #[.int .i64 pk, .bool pb, .int .i64 pi, .string ps, .slice pal pnl pcl, .slice pam pnm pcm] 25))
    clear hlp cX
    go_wp2_with fail
    have HPx : Hid (∀ W, Below (q6.alloc (.cells #[.int .i64 pk, .bool pb, .int .i64 pi, .string ps, .slice pal pnl pcl, .slice pam pnm pcm] 25)).heap.size (q6.alloc (.cells #[.int .i64 pk, .bool pb, .int .i64 pi, .string ps, .slice pal pnl pcl, .slice pam pnm pcm] 25)) W → Below w0.heap.size w0 W ∧ rowAt W q6.heap.size 0 [.int .i64 pk, .bool pb, .int .i64 pi, .string ps, .slice pal pnl pcl, .slice pam pnm pcm] ∧ (V.mk k b i s l0 m).lies false W (New q5 q6) [.int .i64 pk, .bool pb, .int .i64 pi, .string ps, .slice pal pnl pcl, .slice pam pnm pcm] ∧ q6.heap.size < W.heap.size) := fun W hb => ⟨c7.trans (hb.mono c7.size), hbp.keep (hb.block _ (by omega)), V.lies_keep (fun h => h) (fun x hx => (hb.block x (by have := hx.2; omega)).trans (b7.block x hx.2)) (fun _ h => h) _ HP0.out, by have := hb.size; omega⟩
    clear hbp b7 c7 c6 c5 b6 HP0 hdt
    generalize (q6.alloc (.cells #[.int .i64 pk, .bool pb, .int .i64 pi, .string ps, .slice pal pnl pcl, .slice pam pnm pcm] 25)) = q7 at *
    refine cN.mono ?_
    rintro e q8 ⟨rfl, c8⟩
    obtain ⟨h1, h2, h3, h4⟩ := HPx.out q8 c8
    obtain ⟨f0, f1, f2, f3, f4, f5⟩ := row6z h2
    obtain ⟨d0, d1, d2, d3, d4, d5⟩ := row6z (K0.out q8 h1).2
    have cS := same_any (V.mk k b i s l0 m) false false (V.mk k b i s l0 m) (New q5 q6) (Old q8) _ _ q8 h3 (HL.out q8 (K0.out q8 h1).1).1 (fun x h => by have := h.2; omega) (fun x h => h)
    rw [V.eqB_refl] at cS
    clear h2 h3 cN
    go_wp2_with fail
    refine cS.mono ?_
    rintro e w4 ⟨rfl, b9⟩
    have c4 := h1.trans (b9.mono h1.size)
    clear cS b9 h1 h4 c8 HPx HB f0 f1 f2 f3 f4 f5 d0 d1 d2 d3 d4 d5
    have CB := CBL.out w4 (K0.out w4 c4).1
    have HVA : Hid ((¬ (bvV l).2 = 0 → (bvV l).1 = nullV) ∧ ((bvV l).2 = 0 → ∃ s, s.Perm l ∧ Srt s ∧ (bvV l).1 = V.mk 5 false 0 ⟨#[]⟩ [] s ∧ okV (V.mk 5 false 0 ⟨#[]⟩ [] s) = true)) := ⟨bv_bad, bv_good⟩
    have CBX : Hid (∀ W, Below w.heap.size w W → ∀ (a : Option Addr) (c bx o : Nat), Headed a l.length c bx o → liesM false W (Old W) (trnL l n) bx o → Calls Tryd.prog 10 #[.slice a l.length c] W (VePost (bvV l).1 (bvV l).2 W)) := fun W hB a c bx o hd hx => CBT.out W hB l a c bx o hwl hd hx
    generalize (bvV l).1 = va at *
    generalize (bvV l).2 = ea at *
    go_wp2_with fail
    refine CB.mono ?_
    rintro e w5 ⟨csu, rfl, hlu, b5⟩
    have HU0 : Hid (va.lies false w5 (New w4 w5) csu) := hlu
    obtain ⟨uk, ub, ui, us, ual, unl, ucl, uam, unm, ucm, rfl⟩ := V.ten hlu
    have hz5 := b5.size
    have hz6 := alloc_size w5 (.cells #[.int .i64 uk, .bool ub, .int .i64 ui, .string us, .slice ual unl ucl, .slice uam unm ucm] 25)
    have b6 : Below w5.heap.size w5 (w5.alloc (.cells #[.int .i64 uk, .bool ub, .int .i64 ui, .string us, .slice ual unl ucl, .slice uam unm ucm] 25)) := (Below.refl _ _).alloc (Nat.le_refl _) _
    have hbu := box_row w5 [.int .i64 uk, .bool ub, .int .i64 ui, .string us, .slice ual unl ucl, .slice uam unm ucm] 25
    have c6 : Below w0.heap.size w0 (w5.alloc (.cells #[.int .i64 uk, .bool ub, .int .i64 ui, .string us, .slice ual unl ucl, .slice uam unm ucm] 25)) := (c4.trans (b5.mono c4.size)).trans (b6.mono (by have := c4.size; omega))
    have cT := CTL.out _ (K0.out _ c6).1
    clear hlu CB
    go_wp2_with fail
    have HUx : Hid (∀ W, Below (w5.alloc (.cells #[.int .i64 uk, .bool ub, .int .i64 ui, .string us, .slice ual unl ucl, .slice uam unm ucm] 25)).heap.size (w5.alloc (.cells #[.int .i64 uk, .bool ub, .int .i64 ui, .string us, .slice ual unl ucl, .slice uam unm ucm] 25)) W → Below w0.heap.size w0 W ∧ rowAt W w5.heap.size 0 [.int .i64 uk, .bool ub, .int .i64 ui, .string us, .slice ual unl ucl, .slice uam unm ucm] ∧ va.lies false W (New w4 w5) [.int .i64 uk, .bool ub, .int .i64 ui, .string us, .slice ual unl ucl, .slice uam unm ucm] ∧ w5.heap.size < W.heap.size) := fun W hb => ⟨c6.trans (hb.mono c6.size), hbu.keep (hb.block _ (by omega)), V.lies_keep (fun h => h) (fun x hx => (hb.block x (by have := hx.2; omega)).trans (b6.block x hx.2)) (fun _ h => h) _ HU0.out, by have := hb.size; omega⟩
    clear hbu b6 c6 HU0 b5 c4
    generalize (w5.alloc (.cells #[.int .i64 uk, .bool ub, .int .i64 ui, .string us, .slice ual unl ucl, .slice uam unm ucm] 25)) = w6 at *
    refine cT.mono ?_
    rintro e w7 ⟨ta, tc, tb, tq, rfl, hdt, hlt, c7⟩
    have cX := CBX.out w7 (K0.out w7 (HUx.out w7 c7).1).1 ta tc tb tq hdt hlt
    clear cT hlt
    go_wp2_with fail
    refine cX.mono ?_
    rintro e w8 ⟨cst, rfl, hlt, b8⟩
    have HT0 : Hid (va.lies false w8 (New w7 w8) cst) := hlt
    obtain ⟨tk, tb, ti, ts, tal, tnl, tcl, tam, tnm, tcm, rfl⟩ := V.ten hlt
    have c8 := c7.trans (b8.mono c7.size)
    have hz9 := alloc_size w8 (.cells #[.int .i64 tk, .bool tb, .int .i64 ti, .string ts, .slice tal tnl tcl, .slice tam tnm tcm] 25)
    have b9 : Below w8.heap.size w8 (w8.alloc (.cells #[.int .i64 tk, .bool tb, .int .i64 ti, .string ts, .slice tal tnl tcl, .slice tam tnm tcm] 25)) := (Below.refl _ _).alloc (Nat.le_refl _) _
    have hbt := box_row w8 [.int .i64 tk, .bool tb, .int .i64 ti, .string ts, .slice tal tnl tcl, .slice tam tnm tcm] 25
    have c9 : Below w6.heap.size w6 (w8.alloc (.cells #[.int .i64 tk, .bool tb, .int .i64 ti, .string ts, .slice tal tnl tcl, .slice tam tnm tcm] 25)) := c8.trans (b9.mono c8.size)
    have hz8 := b8.size
    clear hlt cX
    have cN := num_any (ea : Int) (w8.alloc (.cells #[.int .i64 tk, .bool tb, .int .i64 ti, .string ts, .slice tal tnl tcl, .slice tam tnm tcm] 25))
    go_wp2_with fail
    have HTx : Hid (∀ W, Below (w8.alloc (.cells #[.int .i64 tk, .bool tb, .int .i64 ti, .string ts, .slice tal tnl tcl, .slice tam tnm tcm] 25)).heap.size (w8.alloc (.cells #[.int .i64 tk, .bool tb, .int .i64 ti, .string ts, .slice tal tnl tcl, .slice tam tnm tcm] 25)) W → (Below w0.heap.size w0 W ∧ rowAt W w5.heap.size 0 [.int .i64 uk, .bool ub, .int .i64 ui, .string us, .slice ual unl ucl, .slice uam unm ucm] ∧ va.lies false W (New w4 w5) [.int .i64 uk, .bool ub, .int .i64 ui, .string us, .slice ual unl ucl, .slice uam unm ucm] ∧ w5.heap.size < W.heap.size) ∧ rowAt W w8.heap.size 0 [.int .i64 tk, .bool tb, .int .i64 ti, .string ts, .slice tal tnl tcl, .slice tam tnm tcm] ∧ va.lies false W (New w7 w8) [.int .i64 tk, .bool tb, .int .i64 ti, .string ts, .slice tal tnl tcl, .slice tam tnm tcm] ∧ w8.heap.size < W.heap.size) := fun W hb => ⟨HUx.out W (c9.trans (hb.mono c9.size)), hbt.keep (hb.block _ (by omega)), V.lies_keep (fun h => h) (fun x hx => (hb.block x (by have := hx.2; omega)).trans (b9.block x hx.2)) (fun _ h => h) _ HT0.out, by have := hb.size; omega⟩
    clear hbt b9 c9 HT0 b8 c8 c7 HUx hdt
    generalize (w8.alloc (.cells #[.int .i64 tk, .bool tb, .int .i64 ti, .string ts, .slice tal tnl tcl, .slice tam tnm tcm] 25)) = w9 at *
    refine cN.mono ?_
    rintro e w10 ⟨rfl, c10⟩
    clear cN
    by_cases he : ea = 0
    · subst he
      obtain ⟨sl, hsp, hss, hva, hso⟩ := HVA.out.2 rfl
      have HVV : Hid (va = V.mk 5 false 0 ⟨#[]⟩ [] sl) := hva
      have HSL : Hid (sl.Perm l ∧ Srt sl ∧ okV (V.mk 5 false 0 ⟨#[]⟩ [] sl) = true) := ⟨hsp, hss, hso⟩
      have hsl : sl.length = l.length := hsp.length_eq
      have HNM : Hid (∀ W, va.lies false W (New w4 w5) [.int .i64 uk, .bool ub, .int .i64 ui, .string us, .slice ual unl ucl, .slice uam unm ucm] → unm = l.length) := fun W h => by
        rw [HVV.out, V.lies] at h
        obtain ⟨_, _, _, _, _, _, _, _, e, _⟩ := h
        simp at e
        omega
      clear hsp hss hso hva HVA CBX CBL CTL CTM CBT
      have hnm : unm = l.length := HNM.out w10 (HTx.out w10 c10).1.2.2.1
      subst hnm
      have cN := num_any 0 w10
      go_wp2_with fail
      refine cN.mono ?_
      rintro e w11 ⟨rfl, b11⟩
      have c11 := c10.trans (b11.mono c10.size)
      clear cN b11 c10
      obtain ⟨hA, hT1, hT2, hT3⟩ := HTx.out w11 c11
      obtain ⟨f0, f1, f2, f3, f4, f5⟩ := row6z hA.2.1
      obtain ⟨g0, g1, g2, g3, g4, g5⟩ := row6z hT1
      have cS := same_any va false false va (New w4 w5) (New w7 w8) _ _ w11 hA.2.2.1 hT2 (fun x h => by have := h.2; have := hA.2.2.2; omega) (fun x h => by have := h.2; omega)
      rw [V.eqB_refl] at cS
      clear hA hT1 hT2 hT3
      go_wp2_with fail
      refine cS.mono ?_
      rintro e w12 ⟨rfl, b12⟩
      have c12 := c11.trans (b12.mono c11.size)
      clear cS b12 c11 f0 f1 f2 f3 f4 f5 g0 g1 g2 g3 g4 g5
      obtain ⟨hA, _⟩ := HTx.out w12 c12
      obtain ⟨f0, f1, f2, f3, f4, f5⟩ := row6z hA.2.1
      have cP := lmapOf_any false va (New w4 w5) _ w12 (HT.out w12 (K0.out w12 hA.1).1) hA.2.2.1 (fun x h => by have := h.2; have := hA.2.2.2; omega) (HWA.out va HVV.out HSL.out.1)
      have hmb : mapB va = true := by rw [HVV.out]; simp [mapB, kindOf, HSL.out.2.2]
      rw [hmb] at cP
      clear hA hmb
      go_wp2_with fail
      refine cP.mono ?_
      rintro e w13 ⟨rfl, b13⟩
      have c13 := c12.trans (b13.mono c12.size)
      clear cP b13 c12 f0 f1 f2 f3 f4 f5
      obtain ⟨hA, _⟩ := HTx.out w13 c13
      obtain ⟨f0, f1, f2, f3, f4, f5⟩ := row6z hA.2.1
      clear hA
      go_wp2_with fail
      clear f0 f1 f2 f3 f4 f5
      go_loopw [14] (fun e14 wq => ∃ j : Nat, j ≤ l.length ∧ e14 = .int .i64 (j : Int) ∧ Hid (Below w9.heap.size w9 wq)) (fun e14 _ => l.length - (RowKit.intOf e14).toNat)
      case atStart => exact ⟨0, by omega, rfl, c13⟩
      case round =>
        rename World => wx
        obtain ⟨j, hj, rfl, bx⟩ := hrel
        have hzx := bx.out.size
        obtain ⟨hA, _⟩ := HTx.out wx bx.out
        have Bx := (K0.out wx hA.1).1
        by_cases hjl : j < l.length
        · have y1 : (j : Int) < l.length := by omega
          obtain rfl : am = some ⟨bm, om, none⟩ := ham.at_.resolve_left (by omega)
          obtain ⟨hSb, hks, csj, hrow, hlj⟩ := liesM_get (HL.out wx Bx).2.1 j hjl
          have hbm : bm < wx.heap.size := hSb
          have HJ : Hid ((l[j]).2.lies false wx (Old wx) csj) := hlj
          obtain ⟨ek, eb, ei, es, eal, enl, ecl, eam, enm, ecm, rfl⟩ := V.ten hlj
          obtain ⟨ikey, hik⟩ : ∃ ikey, (l[j]).1 = ikey := ⟨_, rfl⟩
          have HEG : Hid (getV va ikey = ((l[j]).2, true)) := by show _ = _; rw [HVV.out, ← hik]; exact get_hit HSL.out.1 HSL.out.2.1 HSL.out.2.2 hjl
          have HG : Hid (∀ W, Below wx.heap.size wx W → Calls Tryd.prog 14 #[.agg #[.int .i64 uk, .bool ub, .int .i64 ui, .string us, .slice ual unl ucl, .slice uam l.length ucm], .string ikey] W (GtPost ((l[j]).2, true) W)) := fun W hb => by
            have hB := HTx.out W (bx.out.trans (hb.mono hzx))
            have h := get_any va ikey false (New w4 w5) _ W (HT.out W (K0.out W hB.1.1).1) hB.1.2.2.1 (fun x h => by have := h.2; have := hB.1.2.2.2; omega) (HWA.out va HVV.out HSL.out.1)
            rw [HEG.out] at h
            exact h
          rw [hik] at hrow
          obtain ⟨q, q0, q1, q2, q3, q4, q5⟩ := row7 hrow
          obtain ⟨f0, f1, f2, f3, f4, f5⟩ := row6z hA.2.1
          have hw5 := hA.2.2.2
          have KP : Hid (∀ W', Below wx.heap.size wx W' → W'.cell? ⟨w5.heap.size, 0, none⟩ = some (.int .i64 uk) ∧ W'.cell? ⟨w5.heap.size, 1, none⟩ = some (.bool ub) ∧ W'.cell? ⟨w5.heap.size, 2, none⟩ = some (.int .i64 ui) ∧ W'.cell? ⟨w5.heap.size, 3, none⟩ = some (.string us) ∧ W'.cell? ⟨w5.heap.size, 4, none⟩ = some (.slice ual unl ucl) ∧ W'.cell? ⟨w5.heap.size, 5, none⟩ = some (.slice uam l.length ucm) ∧ W'.cell? ⟨bm, om + j * 7, none⟩ = some (.string ikey)) := fun W' hb =>
            ⟨(hb.cell (p := ⟨w5.heap.size, 0, none⟩) hw5).trans f0, (hb.cell (p := ⟨w5.heap.size, 1, none⟩) hw5).trans f1, (hb.cell (p := ⟨w5.heap.size, 2, none⟩) hw5).trans f2, (hb.cell (p := ⟨w5.heap.size, 3, none⟩) hw5).trans f3, (hb.cell (p := ⟨w5.heap.size, 4, none⟩) hw5).trans f4, (hb.cell (p := ⟨w5.heap.size, 5, none⟩) hw5).trans f5, (hb.cell (p := ⟨bm, om + j * 7, none⟩) hbm).trans q⟩
          have BD : Hid (Below wx.heap.size wx wx.drew) := (Below.refl _ _).drew
          have BA : Hid (Below wx.heap.size wx (wx.alloc (.cells #[.int .i64 0, .bool false, .int .i64 0, .string ⟨#[]⟩, .slice none 0 0, .slice none 0 0] 25)).drew) := ((Below.refl _ _).alloc (Nat.le_refl _) _).drew
          have hzA : (wx.alloc (.cells #[.int .i64 0, .bool false, .int .i64 0, .string ⟨#[]⟩, .slice none 0 0, .slice none 0 0] 25)).drew.heap.size = wx.heap.size + 1 := alloc_size wx _
          have hAn : (wx.alloc (.cells #[.int .i64 0, .bool false, .int .i64 0, .string ⟨#[]⟩, .slice none 0 0, .slice none 0 0] 25)).drew.heap[wx.heap.size]? = some (.cells #[.int .i64 0, .bool false, .int .i64 0, .string ⟨#[]⟩, .slice none 0 0, .slice none 0 0] 25 (0, 0)) := heap_alloc_new wx _
          have HA : Hid (∀ w3 : World, Below (wx.alloc (.cells #[.int .i64 0, .bool false, .int .i64 0, .string ⟨#[]⟩, .slice none 0 0, .slice none 0 0] 25)).drew.heap.size (wx.alloc (.cells #[.int .i64 0, .bool false, .int .i64 0, .string ⟨#[]⟩, .slice none 0 0, .slice none 0 0] 25)).drew w3 → w3.heap[wx.heap.size]? = some (.cells #[.int .i64 0, .bool false, .int .i64 0, .string ⟨#[]⟩, .slice none 0 0, .slice none 0 0] 25 (0, 0)) ∧ Below wx.heap.size wx w3 ∧ wx.heap.size ≤ w3.heap.size) := fun w3 h =>
            ⟨(h.block _ (by rw [hzA]; omega)).trans hAn, BA.out.trans (h.mono (by rw [hzA]; omega)), by have := h.size; rw [hzA] at this; omega⟩
          have HNA : Hid (∀ (w3 : World) (x : Nat), New (wx.alloc (.cells #[.int .i64 0, .bool false, .int .i64 0, .string ⟨#[]⟩, .slice none 0 0, .slice none 0 0] 25)).drew w3 x → From (wx.heap.size + 1) w3 x) := fun w3 x h => ⟨by have h1 := h.1; rw [hzA] at h1; exact h1, h.2⟩
          clear hAn hzA hrow hlj q q0 q1 q2 q3 q4 q5 f0 f1 f2 f3 f4 f5 hA hik
          go_wp2_with fail
          refine wp_region_held_drew (S := (fun W' => W'.cell? ⟨w5.heap.size, 0, none⟩ = some (.int .i64 uk) ∧ W'.cell? ⟨w5.heap.size, 1, none⟩ = some (.bool ub) ∧ W'.cell? ⟨w5.heap.size, 2, none⟩ = some (.int .i64 ui) ∧ W'.cell? ⟨w5.heap.size, 3, none⟩ = some (.string us) ∧ W'.cell? ⟨w5.heap.size, 4, none⟩ = some (.slice ual unl ucl) ∧ W'.cell? ⟨w5.heap.size, 5, none⟩ = some (.slice uam l.length ucm) ∧ W'.cell? ⟨bm, om + j * 7, none⟩ = some (.string ikey))) (by kernel_rfl) (KP.out _ BD.out) (fun hHeld => ?_)
          (refine wpAnyH_take (i := 0) (v := ?_) rfl (by kernel_rfl) (by kernel_rfl) (by kernel_rfl) (fun _ _ _ h => h) (Or.inl ⟨by rfl, ?_⟩) (by assumption) ?_; rotate_left 1; (intro W0 hSw; (try dsimp only at hSw); go_simp; (try with_reducible rfl)); (try simp only [Act.put, List.setIfInBounds_toArray, List.set_cons_zero, List.set_cons_succ]))
          (refine wpAnyH_take (i := 1) (v := ?_) rfl (by kernel_rfl) (by kernel_rfl) (by kernel_rfl) (fun _ _ _ h => h) (Or.inl ⟨by rfl, ?_⟩) (by assumption) ?_; rotate_left 1; (intro W0 hSw; (try dsimp only at hSw); go_simp; (try with_reducible rfl)); (try simp only [Act.put, List.setIfInBounds_toArray, List.set_cons_zero, List.set_cons_succ]))
          (refine wpAnyH_take (i := 2) (v := ?_) rfl (by kernel_rfl) (by kernel_rfl) (by kernel_rfl) (fun _ _ _ h => h) (Or.inl ⟨by rfl, ?_⟩) (by assumption) ?_; rotate_left 1; (intro W0 hSw; (try dsimp only at hSw); go_simp; (try with_reducible rfl)); (try simp only [Act.put, List.setIfInBounds_toArray, List.set_cons_zero, List.set_cons_succ]))
          (refine wpAnyH_take (i := 3) (v := ?_) rfl (by kernel_rfl) (by kernel_rfl) (by kernel_rfl) (fun _ _ _ h => h) (Or.inl ⟨by rfl, ?_⟩) (by assumption) ?_; rotate_left 1; (intro W0 hSw; (try dsimp only at hSw); go_simp; (try with_reducible rfl)); (try simp only [Act.put, List.setIfInBounds_toArray, List.set_cons_zero, List.set_cons_succ]))
          (refine wpAnyH_take (i := 4) (v := ?_) rfl (by kernel_rfl) (by kernel_rfl) (by kernel_rfl) (fun _ _ _ h => h) (Or.inl ⟨by rfl, ?_⟩) (by assumption) ?_; rotate_left 1; (intro W0 hSw; (try dsimp only at hSw); go_simp; (try with_reducible rfl)); (try simp only [Act.put, List.setIfInBounds_toArray, List.set_cons_zero, List.set_cons_succ]))
          (refine wpAnyH_take (i := 5) (v := ?_) rfl (by kernel_rfl) (by kernel_rfl) (by kernel_rfl) (fun _ _ _ h => h) (Or.inl ⟨by rfl, ?_⟩) (by assumption) ?_; rotate_left 1; (intro W0 hSw; (try dsimp only at hSw); go_simp; (try with_reducible rfl)); (try simp only [Act.put, List.setIfInBounds_toArray, List.set_cons_zero, List.set_cons_succ]))
          refine wpAnyH_ready (rs := [6, 10]) (by kernel_rfl) (by simp) ?_
          refine AllReadyH.cons rfl (fun K hK => ?_) (AllReadyH.cons rfl (fun K hK => ?_) AllReadyH.nil)
          · go_simp
            refine (HG.out wx.drew BD.out).mono ?_
            rintro e w3 ⟨csg, rfl, hlg, b3⟩
            have HLG : Hid ((l[j]).2.lies false w3 (From wx.heap.size w3) csg) := V.lies_keep (fun h => h) (fun _ _ => rfl) (fun x hx => ⟨hx.1, hx.2⟩) _ hlg
            obtain ⟨gk, gb, gi, gs, gal, gnl, gcl, gam, gnm, gcm, rfl⟩ := V.ten hlg
            have bw3 : Hid (Below wx.heap.size wx w3) := BD.out.trans b3
            have hs3 : Hid (wx.heap.size ≤ w3.heap.size) := b3.size
            clear hlg b3
            go_wp2_with fail
            refine hK.out _ _ (KP.out _ bw3.out) (fun hHeld => ?_)
            clear hK K
            (try simp only [Act.put, List.setIfInBounds_toArray, List.set_cons_zero, List.set_cons_succ])
            (refine wpAnyH_take (i := 7) (v := ?_) rfl (by kernel_rfl) (by kernel_rfl) (by kernel_rfl) (fun _ _ _ h => h) (Or.inl ⟨by rfl, ?_⟩) (by assumption) ?_; rotate_left 1; (intro W0 hSw; (try dsimp only at hSw); go_simp; (try with_reducible rfl)); (try simp only [Act.put, List.setIfInBounds_toArray, List.set_cons_zero, List.set_cons_succ]))
            (refine wpAnyH_take (i := 8) (v := ?_) rfl (by kernel_rfl) (by kernel_rfl) (by kernel_rfl) (fun _ _ _ h => h) (Or.inl ⟨by rfl, ?_⟩) (by assumption) ?_; rotate_left 1; (intro W0 hSw; (try dsimp only at hSw); go_simp; (try with_reducible rfl)); (try simp only [Act.put, List.setIfInBounds_toArray, List.set_cons_zero, List.set_cons_succ]))
            (refine wpAnyH_take (i := 9) (v := ?_) rfl (by kernel_rfl) (by kernel_rfl) (by kernel_rfl) (fun _ _ _ h => h) (Or.inl ⟨by rfl, ?_⟩) (by assumption) ?_; rotate_left 1; (intro W0 hSw; (try dsimp only at hSw); go_simp; (try with_reducible rfl)); (try simp only [Act.put, List.setIfInBounds_toArray, List.set_cons_zero, List.set_cons_succ]))
            refine wpAnyH_ready (rs := [10]) (by kernel_rfl) (by simp) ?_
            refine AllReadyH.cons rfl (fun K hK => ?_) AllReadyH.nil
            go_simp
            refine hK.out _ _ (KP.out _ (bw3.out.alloc hs3.out _)) (fun hHeld => ?_)
            clear hK K
            (try simp only [Act.put, List.setIfInBounds_toArray, List.set_cons_zero, List.set_cons_succ])
            refine wpAnyH_ready (rs := [11]) (by kernel_rfl) (by simp) ?_
            refine AllReadyH.cons rfl (fun K hK => ?_) AllReadyH.nil
            go_simp
            refine hK.out _ _ (by first | exact KP.out _ (bw3.out.alloc hs3.out _) | exact KP.out _ (Below.set6 (bw3.out.alloc hs3.out _) hs3.out _ _ _ _ _ _ _ _ _ _ _ _)) (fun hHeld => ?_)
            clear hK K
            (try simp only [Act.put, List.setIfInBounds_toArray, List.set_cons_zero, List.set_cons_succ])
            (refine wpAnyH_take (i := 12) (v := ?_) rfl (by kernel_rfl) (by kernel_rfl) (by kernel_rfl) (fun _ _ _ h => h) (Or.inl ⟨by rfl, ?_⟩) (by assumption) ?_; rotate_left 1; (intro W0 hSw; (try dsimp only at hSw); go_simp; (try with_reducible rfl)); (try simp only [Act.put, List.setIfInBounds_toArray, List.set_cons_zero, List.set_cons_succ]))
            refine wpAnyH_done (by kernel_rfl) ?_ _
            (try dsimp only [Act.put, List.getElem_toArray, List.getElem_cons_succ, List.getElem_cons_zero, List.setIfInBounds_toArray, List.set_cons_zero, List.set_cons_succ])
            (try simp only [Act.put, List.getElem_toArray, List.getElem_cons_succ, List.getElem_cons_zero, List.setIfInBounds_toArray, List.set_cons_zero, List.set_cons_succ])
            have hs3' := hs3.out
            have hz4 := alloc_size w3 (.cells #[.int .i64 gk, .bool gb, .int .i64 gi, .string gs, .slice gal gnl gcl, .slice gam gnm gcm] 25)
            have ba : Below w3.heap.size w3 (w3.alloc (.cells #[.int .i64 gk, .bool gb, .int .i64 gi, .string gs, .slice gal gnl gcl, .slice gam gnm gcm] 25)) := (Below.refl _ _).alloc (Nat.le_refl _) _
            have hrg := box_row w3 [.int .i64 gk, .bool gb, .int .i64 gi, .string gs, .slice gal gnl gcl, .slice gam gnm gcm] 25
            have hlg : (l[j]).2.lies false (w3.alloc (.cells #[.int .i64 gk, .bool gb, .int .i64 gi, .string gs, .slice gal gnl gcl, .slice gam gnm gcm] 25)) (Old (w3.alloc (.cells #[.int .i64 gk, .bool gb, .int .i64 gi, .string gs, .slice gal gnl gcl, .slice gam gnm gcm] 25))) [.int .i64 gk, .bool gb, .int .i64 gi, .string gs, .slice gal gnl gcl, .slice gam gnm gcm] := V.lies_keep (fun h => h) (fun x hx => ba.block x hx.2) (fun x hx => Nat.lt_of_lt_of_le hx.2 ba.size) _ HLG.out
            have b4 : Below wx.heap.size wx (w3.alloc (.cells #[.int .i64 gk, .bool gb, .int .i64 gi, .string gs, .slice gal gnl gcl, .slice gam gnm gcm] 25)) := bw3.out.trans (ba.mono hs3')
            have hNb : w3.heap.size < (w3.alloc (.cells #[.int .i64 gk, .bool gb, .int .i64 gi, .string gs, .slice gal gnl gcl, .slice gam gnm gcm] 25)).heap.size := by omega
            generalize (w3.alloc (.cells #[.int .i64 gk, .bool gb, .int .i64 gi, .string gs, .slice gal gnl gcl, .slice gam gnm gcm] 25)) = wy at *
            clear ba HLG bw3 hs3 HNA HA BA BD KP HG
            have hB4 := HTx.out wy (bx.out.trans (b4.mono hzx))
            have By := (K0.out wy hB4.1.1).1
            have hzy := b4.size
            obtain ⟨_, _, csj, hrow, hlj⟩ := liesM_get (HL.out wy By).2.1 j hjl
            have hlj0 := hlj
            obtain ⟨hk, hb, hi, hs, hal, hnl, hcl, ham, hnm, hcm, rfl⟩ := V.ten hlj
            obtain ⟨q, q0, q1, q2, q3, q4, q5⟩ := row7 hrow
            obtain ⟨f0, f1, f2, f3, f4, f5⟩ := row6z hrg
            have hbmy : bm < wy.heap.size := Nat.lt_of_lt_of_le hbm hzy
            have CI : Hid (∀ x : Sub wy.heap.size wy, Calls Tryd.prog 13 #[.agg #[.int .i64 gk, .bool gb, .int .i64 gi, .string gs, .slice gal gnl gcl, .slice gam gnm gcm], .agg #[.int .i64 hk, .bool hb, .int .i64 hi, .string hs, .slice hal hnl hcl, .slice ham hnm hcm]] x.w fun e w'' => e = .returned (.bool true) ∧ ∃ y : Sub wy.heap.size wy, w'' = y.w) := fun x =>
              sub_call (fun w' hb => by
                have h := same_any (l[j]).2 false false (l[j]).2 (Old wy) (Old wy) _ _ w' (V.lies_keep (fun h => h) (fun y hy => hb.block y hy) (fun _ h => h) _ hlg) (V.lies_keep (fun h => h) (fun y hy => hb.block y hy) (fun _ h => h) _ hlj0) (fun y hy => Nat.lt_of_lt_of_le hy hb.size) (fun y hy => Nat.lt_of_lt_of_le hy hb.size)
                rw [V.eqB_refl] at h
                exact h.mono fun e w'' ⟨he, h2⟩ => ⟨he, hb.trans (h2.mono hb.size)⟩) x
            have a0 : ∀ x : Sub wy.heap.size wy, _ := sub_cell q0 hbmy
            have a1 : ∀ x : Sub wy.heap.size wy, _ := sub_cell q1 hbmy
            have a2 : ∀ x : Sub wy.heap.size wy, _ := sub_cell q2 hbmy
            have a3 : ∀ x : Sub wy.heap.size wy, _ := sub_cell q3 hbmy
            have a4 : ∀ x : Sub wy.heap.size wy, _ := sub_cell q4 hbmy
            have a5 : ∀ x : Sub wy.heap.size wy, _ := sub_cell q5 hbmy
            have k0 : ∀ x : Sub wy.heap.size wy, _ := sub_cell f0 hNb
            have k1 : ∀ x : Sub wy.heap.size wy, _ := sub_cell f1 hNb
            have k2 : ∀ x : Sub wy.heap.size wy, _ := sub_cell f2 hNb
            have k3 : ∀ x : Sub wy.heap.size wy, _ := sub_cell f3 hNb
            have k4 : ∀ x : Sub wy.heap.size wy, _ := sub_cell f4 hNb
            have k5 : ∀ x : Sub wy.heap.size wy, _ := sub_cell f5 hNb
            have c5 := bx.out.trans (b4.mono hzx)
            have hz5y := c5.size
            clear hrow hlj hlj0 hlg hrg q q0 q1 q2 q3 q4 q5 f0 f1 f2 f3 f4 f5 hB4
            go_wp2_with fail
            refine wp_region_sub wy.heap.size (by kernel_rfl) (by kernel_rfl) ?_
            repeat (go_big_quiet_step (exact CI.out _))
            refine wpQuiet_nil ?_
            rintro _ ⟨⟨wz, bz⟩, rfl⟩
            have b10 := c5.trans (bz.mono hz5y)
            go_wp2_with fail
            go_roundw
            case rel => exact ⟨j + 1, by omega, by go_num, b10⟩
            case measure => simp [RowKit.intOf]; omega
          · go_simp
            refine hK.out _ _ (KP.out _ BA.out) (fun hHeld => ?_)
            clear hK K
            (try simp only [Act.put, List.setIfInBounds_toArray, List.set_cons_zero, List.set_cons_succ])
            refine wpAnyH_ready (rs := [6]) (by kernel_rfl) (by simp) ?_
            refine AllReadyH.cons rfl (fun K hK => ?_) AllReadyH.nil
            go_simp
            refine (HG.out _ BA.out).mono ?_
            rintro e w3 ⟨csg, rfl, hlg, b3⟩
            have HLG : Hid ((l[j]).2.lies false w3 (From (wx.heap.size + 1) w3) csg) := V.lies_keep (fun h => h) (fun _ _ => rfl) (fun x hx => HNA.out w3 x hx) _ hlg
            obtain ⟨gk, gb, gi, gs, gal, gnl, gcl, gam, gnm, gcm, rfl⟩ := V.ten hlg
            have zb := (HA.out w3 b3).1
            have z0 : w3.cell? ⟨wx.heap.size, 0, none⟩ = some (.int .i64 0) := by rw [cell_of_block zb]; rfl
            have z1 : w3.cell? ⟨wx.heap.size, 1, none⟩ = some (.bool false) := by rw [cell_of_block zb]; rfl
            have z2 : w3.cell? ⟨wx.heap.size, 2, none⟩ = some (.int .i64 0) := by rw [cell_of_block zb]; rfl
            have z3 : w3.cell? ⟨wx.heap.size, 3, none⟩ = some (.string ⟨#[]⟩) := by rw [cell_of_block zb]; rfl
            have z4 : w3.cell? ⟨wx.heap.size, 4, none⟩ = some (.slice none 0 0) := by rw [cell_of_block zb]; rfl
            have z5 : w3.cell? ⟨wx.heap.size, 5, none⟩ = some (.slice none 0 0) := by rw [cell_of_block zb]; rfl
            have zf : ∀ i, w3.frozen? ⟨wx.heap.size, i, none⟩ = false := frozen_of_block zb
            have HZB : Hid (w3.heap[wx.heap.size]? = some (.cells #[.int .i64 0, .bool false, .int .i64 0, .string ⟨#[]⟩, .slice none 0 0, .slice none 0 0] 25 (0, 0))) := zb
            have bw3 : Hid (Below wx.heap.size wx w3) := (HA.out w3 b3).2.1
            have hs3 : Hid (wx.heap.size ≤ w3.heap.size) := (HA.out w3 b3).2.2
            clear hlg b3 zb
            go_wp2_with fail
            refine hK.out _ _ (KP.out _ bw3.out) (fun hHeld => ?_)
            clear hK K
            (try simp only [Act.put, List.setIfInBounds_toArray, List.set_cons_zero, List.set_cons_succ])
            (refine wpAnyH_take (i := 7) (v := ?_) rfl (by kernel_rfl) (by kernel_rfl) (by kernel_rfl) (fun _ _ _ h => h) (Or.inl ⟨by rfl, ?_⟩) (by assumption) ?_; rotate_left 1; (intro W0 hSw; (try dsimp only at hSw); go_simp; (try with_reducible rfl)); (try simp only [Act.put, List.setIfInBounds_toArray, List.set_cons_zero, List.set_cons_succ]))
            (refine wpAnyH_take (i := 8) (v := ?_) rfl (by kernel_rfl) (by kernel_rfl) (by kernel_rfl) (fun _ _ _ h => h) (Or.inl ⟨by rfl, ?_⟩) (by assumption) ?_; rotate_left 1; (intro W0 hSw; (try dsimp only at hSw); go_simp; (try with_reducible rfl)); (try simp only [Act.put, List.setIfInBounds_toArray, List.set_cons_zero, List.set_cons_succ]))
            (refine wpAnyH_take (i := 9) (v := ?_) rfl (by kernel_rfl) (by kernel_rfl) (by kernel_rfl) (fun _ _ _ h => h) (Or.inl ⟨by rfl, ?_⟩) (by assumption) ?_; rotate_left 1; (intro W0 hSw; (try dsimp only at hSw); go_simp; (try with_reducible rfl)); (try simp only [Act.put, List.setIfInBounds_toArray, List.set_cons_zero, List.set_cons_succ]))
            refine wpAnyH_ready (rs := [11]) (by kernel_rfl) (by simp) ?_
            refine AllReadyH.cons rfl (fun K hK => ?_) AllReadyH.nil
            go_simp
            refine hK.out _ _ (KP.out _ (Below.set6 bw3.out (Nat.le_refl _) _ _ _ _ _ _ _ _ _ _ _ _)) (fun hHeld => ?_)
            clear hK K
            (try simp only [Act.put, List.setIfInBounds_toArray, List.set_cons_zero, List.set_cons_succ])
            (refine wpAnyH_take (i := 12) (v := ?_) rfl (by kernel_rfl) (by kernel_rfl) (by kernel_rfl) (fun _ _ _ h => h) (Or.inl ⟨by rfl, ?_⟩) (by assumption) ?_; rotate_left 1; (intro W0 hSw; (try dsimp only at hSw); go_simp; (try with_reducible rfl)); (try simp only [Act.put, List.setIfInBounds_toArray, List.set_cons_zero, List.set_cons_succ]))
            refine wpAnyH_done (by kernel_rfl) ?_ _
            (try dsimp only [Act.put, List.getElem_toArray, List.getElem_cons_succ, List.getElem_cons_zero, List.setIfInBounds_toArray, List.set_cons_zero, List.set_cons_succ])
            (try simp only [Act.put, List.getElem_toArray, List.getElem_cons_succ, List.getElem_cons_zero, List.setIfInBounds_toArray, List.set_cons_zero, List.set_cons_succ])
            have hs3' := hs3.out
            obtain ⟨arr', _, _, _, hrg, _⟩ := set6_row (o := 0) HZB.out (by decide) (.int .i64 gk) (.bool gb) (.int .i64 gi) (.string gs) (.slice gal gnl gcl) (.slice gam gnm gcm)
            simp only [Nat.zero_add] at hrg
            have hlg0 := lies_set6A (M := wx.heap.size) HLG.out (by omega) 0 1 2 3 4 5 (.int .i64 gk) (.bool gb) (.int .i64 gi) (.string gs) (.slice gal gnl gcl) (.slice gam gnm gcm)
            have b4 := Below.set6 (M := wx.heap.size) bw3.out (Nat.le_refl _) 0 1 2 3 4 5 (.int .i64 gk) (.bool gb) (.int .i64 gi) (.string gs) (.slice gal gnl gcl) (.slice gam gnm gcm)
            have hNb : wx.heap.size < w3.heap.size := by
              rcases Nat.lt_or_ge wx.heap.size w3.heap.size with h | h
              · exact h
              · have := HZB.out; rw [Array.getElem?_eq_none h] at this; cases this
            have hze : ((((((w3.setCell ⟨wx.heap.size, 0, none⟩ (.int .i64 gk)).setCell ⟨wx.heap.size, 1, none⟩ (.bool gb)).setCell ⟨wx.heap.size, 2, none⟩ (.int .i64 gi)).setCell ⟨wx.heap.size, 3, none⟩ (.string gs)).setCell ⟨wx.heap.size, 4, none⟩ (.slice gal gnl gcl)).setCell ⟨wx.heap.size, 5, none⟩ (.slice gam gnm gcm)).heap.size = w3.heap.size := by simp only [size_set1]
            rw [← hze] at hNb
            generalize ((((((w3.setCell ⟨wx.heap.size, 0, none⟩ (.int .i64 gk)).setCell ⟨wx.heap.size, 1, none⟩ (.bool gb)).setCell ⟨wx.heap.size, 2, none⟩ (.int .i64 gi)).setCell ⟨wx.heap.size, 3, none⟩ (.string gs)).setCell ⟨wx.heap.size, 4, none⟩ (.slice gal gnl gcl)).setCell ⟨wx.heap.size, 5, none⟩ (.slice gam gnm gcm)) = wy at *
            have hlg : (l[j]).2.lies false wy (Old wy) [.int .i64 gk, .bool gb, .int .i64 gi, .string gs, .slice gal gnl gcl, .slice gam gnm gcm] := V.lies_keep (fun h => h) (fun _ _ => rfl) (fun x hx => hx.2) _ hlg0
            clear hlg0 HLG bw3 hs3 HNA HA BA BD KP HG z0 z1 z2 z3 z4 z5 zf HZB hze
            have hB4 := HTx.out wy (bx.out.trans (b4.mono hzx))
            have By := (K0.out wy hB4.1.1).1
            have hzy := b4.size
            obtain ⟨_, _, csj, hrow, hlj⟩ := liesM_get (HL.out wy By).2.1 j hjl
            have hlj0 := hlj
            obtain ⟨hk, hb, hi, hs, hal, hnl, hcl, ham, hnm, hcm, rfl⟩ := V.ten hlj
            obtain ⟨q, q0, q1, q2, q3, q4, q5⟩ := row7 hrow
            obtain ⟨f0, f1, f2, f3, f4, f5⟩ := row6z hrg
            have hbmy : bm < wy.heap.size := Nat.lt_of_lt_of_le hbm hzy
            have CI : Hid (∀ x : Sub wy.heap.size wy, Calls Tryd.prog 13 #[.agg #[.int .i64 gk, .bool gb, .int .i64 gi, .string gs, .slice gal gnl gcl, .slice gam gnm gcm], .agg #[.int .i64 hk, .bool hb, .int .i64 hi, .string hs, .slice hal hnl hcl, .slice ham hnm hcm]] x.w fun e w'' => e = .returned (.bool true) ∧ ∃ y : Sub wy.heap.size wy, w'' = y.w) := fun x =>
              sub_call (fun w' hb => by
                have h := same_any (l[j]).2 false false (l[j]).2 (Old wy) (Old wy) _ _ w' (V.lies_keep (fun h => h) (fun y hy => hb.block y hy) (fun _ h => h) _ hlg) (V.lies_keep (fun h => h) (fun y hy => hb.block y hy) (fun _ h => h) _ hlj0) (fun y hy => Nat.lt_of_lt_of_le hy hb.size) (fun y hy => Nat.lt_of_lt_of_le hy hb.size)
                rw [V.eqB_refl] at h
                exact h.mono fun e w'' ⟨he, h2⟩ => ⟨he, hb.trans (h2.mono hb.size)⟩) x
            have a0 : ∀ x : Sub wy.heap.size wy, _ := sub_cell q0 hbmy
            have a1 : ∀ x : Sub wy.heap.size wy, _ := sub_cell q1 hbmy
            have a2 : ∀ x : Sub wy.heap.size wy, _ := sub_cell q2 hbmy
            have a3 : ∀ x : Sub wy.heap.size wy, _ := sub_cell q3 hbmy
            have a4 : ∀ x : Sub wy.heap.size wy, _ := sub_cell q4 hbmy
            have a5 : ∀ x : Sub wy.heap.size wy, _ := sub_cell q5 hbmy
            have k0 : ∀ x : Sub wy.heap.size wy, _ := sub_cell f0 hNb
            have k1 : ∀ x : Sub wy.heap.size wy, _ := sub_cell f1 hNb
            have k2 : ∀ x : Sub wy.heap.size wy, _ := sub_cell f2 hNb
            have k3 : ∀ x : Sub wy.heap.size wy, _ := sub_cell f3 hNb
            have k4 : ∀ x : Sub wy.heap.size wy, _ := sub_cell f4 hNb
            have k5 : ∀ x : Sub wy.heap.size wy, _ := sub_cell f5 hNb
            have c5 := bx.out.trans (b4.mono hzx)
            have hz5y := c5.size
            clear hrow hlj hlj0 hlg hrg q q0 q1 q2 q3 q4 q5 f0 f1 f2 f3 f4 f5 hB4
            go_wp2_with fail
            refine wp_region_sub wy.heap.size (by kernel_rfl) (by kernel_rfl) ?_
            repeat (go_big_quiet_step (exact CI.out _))
            refine wpQuiet_nil ?_
            rintro _ ⟨⟨wz, bz⟩, rfl⟩
            have b10 := c5.trans (bz.mono hz5y)
            go_wp2_with fail
            go_roundw
            case rel => exact ⟨j + 1, by omega, by go_num, b10⟩
            case measure => simp [RowKit.intOf]; omega
        · obtain rfl : j = l.length := by omega
          have y1 : ¬ (l.length : Int) < l.length := by omega
          clear hA
          go_wp2_with fail
          go_ret
          exact ⟨rfl, Bx⟩
    · have hnull := HVA.out.1 he
      have y1 : ¬ (ea : Int) = 0 := by omega
      have cN := num_any (ea : Int) w10
      clear HVA CBX CBL CTL CTM CBT
      go_wp2_with fail
      refine cN.mono ?_
      rintro e w11 ⟨rfl, b11⟩
      have c11 := c10.trans (b11.mono c10.size)
      clear cN b11 c10
      obtain ⟨hA, _⟩ := HTx.out w11 c11
      obtain ⟨f0, f1, f2, f3, f4, f5⟩ := row6z hA.2.1
      have cS := same_any va false false nullV (New w4 w5) (fun _ => False) _ [.int .i64 0, .bool false, .int .i64 0, .string ⟨#[]⟩, .slice none 0 0, .slice none 0 0] w11 hA.2.2.1 (null_lies _ _) (fun x h => by have := h.2; have := hA.2.2.2; omega) (fun x h => h.elim)
      have HE : Hid (V.eqB va nullV = true) := by show _ = _; rw [hnull, V.eqB_refl]
      rw [HE.out] at cS
      have hB := (K0.out w11 hA.1).1
      clear hA hnull
      go_wp2_with fail
      refine cS.mono ?_
      rintro e w12 ⟨rfl, b12⟩
      have BZ := hB.trans (b12.mono hB.size)
      clear f0 f1 f2 f3 f4 f5
      go_wp2_with fail
      go_ret
      exact ⟨rfl, BZ⟩
end Go.Proofs.YtljgofmmihmmfabDoor
