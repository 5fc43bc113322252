import Derived.Test.YthlhkhcbkgbhfaaGreatDoorJonU
import Derived.Test.YthlhkhcbkgbhfaaGreatDoorJonM
import Derived.Test.YthlhkhcbkgbhfaaGreatDoorWinJ
/- PathsetLaws: the law's own walk. -/
set_option linter.unusedSimpArgs false
set_option linter.unusedVariables false
namespace Go.Proofs.YthlhkhcbkgbhfaaGreatDoor
open Go Go.RowKit Go.Lib Go.Shelf
theorem all_good {l : List (List El)} (h : Good l) : l.all pathB = true := List.all_eq_true.2 h
theorem all_bad {l : List (List El)} (h : ¬ Good l) : l.all pathB = false := by
  rw [Bool.eq_false_iff]; intro h2; exact h (List.all_eq_true.1 h2)
theorem bw_out {R : List (List El)} {er : Nat} {w : World} {e : Ending} {w' : World} (h : BwPost R er (Old w) w e w') : ∃ a c b o, e = .returned (.tuple #[.slice a R.length c, .int .i64 (er : Int)]) ∧ Headed a R.length c b o ∧ Hid (∀ W, Below w'.heap.size w' W → liesQ W (Old W) R b o) ∧ Below w.heap.size w w' := by
  obtain ⟨a, c, b, o, h1, h2, h3, h4⟩ := h
  exact ⟨a, c, b, o, h1, h2, fun W hb => liesQ_old hb (liesQ_tw h4 h3), h4⟩
set_option maxHeartbeats 32000000 in
set_option maxRecDepth 100000 in
theorem laws_walk (a b c : List (List El)) (aa : Option Addr) (ca ba oa : Nat) (ab : Option Addr) (cb bb ob : Nat) (ac : Option Addr) (cc bc oc : Nat) (w : World) (tb : Tb w) (hha : Headed aa a.length ca ba oa) (hla : liesQ w (Old w) a ba oa) (hhb : Headed ab b.length cb bb ob) (hlb : liesQ w (Old w) b bb ob) (hhc : Headed ac c.length cc bc oc) (hlc : liesQ w (Old w) c bc oc) :
    Calls Tryz.prog 3 #[.slice aa a.length ca, .slice ab b.length cb, .slice ac c.length cc] w (BPost true w) := by
  have HA := hmk hla
  have HB := hmk hlb
  have HC := hmk hlc
  have HT := hmk tb
  clear hla hlb hlc tb
  have c1 := hmk (bpathsQ_any a (Old w) aa ca ba oa w hha HA.out (old_lt w))
  go_enter Tryz.func3, Tryz.ntmps3
  go_wp2_with fail
  refine c1.out.mono ?_
  rintro e w1 ⟨r, rfl, hwa, b1⟩
  cases r
  case true =>
    go_wp2_with fail
    go_ret
    exact ⟨rfl, b1⟩
  replace hwa := hwa rfl
  have c2 := hmk (bpathsQ_any b (Old w1) ab cb bb ob w1 hhb (liesQ_old b1 HB.out) (old_lt w1))
  clear c1
  go_wp2_with fail
  refine c2.out.mono ?_
  rintro e w2 ⟨r, rfl, hwb, b2⟩
  have B2 := b1.trans (b2.mono b1.size)
  clear b1 b2 c2
  cases r
  case true =>
    go_wp2_with fail
    go_ret
    exact ⟨rfl, B2⟩
  replace hwb := hwb rfl
  have c3 := hmk (bpathsQ_any c (Old w2) ac cc bc oc w2 hhc (liesQ_old B2 HC.out) (old_lt w2))
  go_wp2_with fail
  refine c3.out.mono ?_
  rintro e w3 ⟨r, rfl, hwc, b3⟩
  have B3 := B2.trans (b3.mono B2.size)
  clear b3 c3 B2
  cases r
  case true =>
    go_wp2_with fail
    go_ret
    exact ⟨rfl, B3⟩
  replace hwc := hwc rfl
  have c4 := hmk (awake_any w3 (HT.out.below B3 HT.out.z))
  go_wp2_with fail
  refine c4.out.mono ?_
  rintro e w4 ⟨rfl, b4⟩
  have B4 := B3.trans (b4.mono B3.size)
  have c5 := hmk (sets_any a b c aa ca ba oa ab cb bb ob ac cc bc oc w4 (HT.out.below B4 HT.out.z) hha (liesQ_old B4 HA.out) hhb (liesQ_old B4 HB.out) hhc (liesQ_old B4 HC.out) hwa hwb hwc)
  clear c4 b4 B3
  go_wp2_with fail
  refine c5.out.mono ?_
  rintro e w5 ⟨b5, h5⟩
  have B5 := B4.trans (b5.mono B4.size)
  have WA : Hid (∀ p ∈ a, wtP p ≤ 2147483647) := fun p hp => by have := wtQ_mem hp; omega
  have WB : Hid (∀ p ∈ b, wtP p ≤ 2147483647) := fun p hp => by have := wtQ_mem hp; omega
  have WC : Hid (∀ p ∈ c, wtP p ≤ 2147483647) := fun p hp => by have := wtQ_mem hp; omega
  have CPA : Hid (∀ W, Below w.heap.size w W → Calls Tryz.prog 8 #[.slice aa a.length ca] W (BPost (a.all pathB) W)) := fun W hb => paths_any a (Old W) aa ca ba oa W (HT.out.below hb HT.out.z) hha (liesQ_old hb HA.out) (old_lt W) WA.out
  have CPB : Hid (∀ W, Below w.heap.size w W → Calls Tryz.prog 8 #[.slice ab b.length cb] W (BPost (b.all pathB) W)) := fun W hb => paths_any b (Old W) ab cb bb ob W (HT.out.below hb HT.out.z) hhb (liesQ_old hb HB.out) (old_lt W) WB.out
  have CPC : Hid (∀ W, Below w.heap.size w W → Calls Tryz.prog 8 #[.slice ac c.length cc] W (BPost (c.all pathB) W)) := fun W hb => paths_any c (Old W) ac cc bc oc W (HT.out.below hb HT.out.z) hhc (liesQ_old hb HC.out) (old_lt W) WC.out
  clear c5 b5 B4
  have cA := hmk (CPA.out w5 B5)
  rcases h5 with ⟨⟨ga, gb, gc⟩, x, y, z, xa, xc, xb, xo, ya, yc, yb, yo, za, zc, zb, zo, ⟨rx, ry, rz⟩, rfl, ⟨hx, lx⟩, ⟨hy, ly⟩, ⟨hz, lz⟩⟩ | ⟨hbad, X, Y, Z, rfl⟩
  rotate_left
  · by_cases g1 : Good a
    rotate_left
    · rw [all_bad g1] at cA
      go_wp2_with fail
      refine cA.out.mono ?_
      rintro e w6 ⟨rfl, b6⟩
      go_wp2_with fail
      go_ret
      exact ⟨rfl, B5.trans (b6.mono B5.size)⟩
    rw [all_good g1] at cA
    by_cases g2 : Good b
    rotate_left
    · rw [all_bad g2] at CPB
      go_wp2_with fail
      refine cA.out.mono ?_
      rintro e w6 ⟨rfl, b6⟩
      have B6 := B5.trans (b6.mono B5.size)
      have cB := hmk (CPB.out w6 B6)
      go_wp2_with fail
      refine cB.out.mono ?_
      rintro e w7 ⟨rfl, b7⟩
      go_wp2_with fail
      go_ret
      exact ⟨rfl, B6.trans (b7.mono B6.size)⟩
    have g3 : ¬ Good c := fun h => hbad ⟨g1, g2, h⟩
    rw [all_good g2] at CPB
    rw [all_bad g3] at CPC
    go_wp2_with fail
    refine cA.out.mono ?_
    rintro e w6 ⟨rfl, b6⟩
    have B6 := B5.trans (b6.mono B5.size)
    have cB := hmk (CPB.out w6 B6)
    go_wp2_with fail
    refine cB.out.mono ?_
    rintro e w7 ⟨rfl, b7⟩
    have B7 := B6.trans (b7.mono B6.size)
    have cC := hmk (CPC.out w7 B7)
    go_wp2_with fail
    refine cC.out.mono ?_
    rintro e w8 ⟨rfl, b8⟩
    go_wp2_with fail
    go_ret
    exact ⟨rfl, B7.trans (b8.mono B7.size)⟩
  rw [all_good ga] at cA
  rw [all_good gb] at CPB
  rw [all_good gc] at CPC
  clear CPA
  go_wp2_with fail
  refine cA.out.mono ?_
  rintro e w6 ⟨rfl, b6⟩
  have B6 := B5.trans (b6.mono B5.size)
  have cB := hmk (CPB.out w6 B6)
  clear cA CPB
  go_wp2_with fail
  refine cB.out.mono ?_
  rintro e w7 ⟨rfl, b7⟩
  have B7 := B6.trans (b7.mono B6.size)
  have b57 := b6.trans (b7.mono b6.size)
  have cC := hmk (CPC.out w7 B7)
  clear cB CPC b6 b7 B6
  go_wp2_with fail
  refine cC.out.mono ?_
  rintro e w8 ⟨rfl, b8⟩
  have B8 := B7.trans (b8.mono B7.size)
  have b58 := b57.trans (b8.mono b57.size)
  have SX := hmk (rs_set ga rx)
  have SY := hmk (rs_set gb ry)
  have SZ := hmk (rs_set gc rz)
  have BX : Hid (∀ p ∈ x, wtP p ≤ 2147483647) := fun p hp => WA.out p ((rx.2 p).1 hp)
  have BY : Hid (∀ p ∈ y, wtP p ≤ 2147483647) := fun p hp => WB.out p ((ry.2 p).1 hp)
  have BZ : Hid (∀ p ∈ z, wtP p ≤ 2147483647) := fun p hp => WC.out p ((rz.2 p).1 hp)
  have hwx : x.length + wtQ x ≤ 2147483647 := Nat.le_trans (set_wt x a rx.1 (fun q hq => (rx.2 q).1 hq)) hwa
  have hwy : y.length + wtQ y ≤ 2147483647 := Nat.le_trans (set_wt y b ry.1 (fun q hq => (ry.2 q).1 hq)) hwb
  have hwz : z.length + wtQ z ≤ 2147483647 := Nat.le_trans (set_wt z c rz.1 (fun q hq => (rz.2 q).1 hq)) hwc
  have GA := hmk ga
  have GB := hmk gb
  have GC := hmk gc
  have RX := hmk rx
  have RY := hmk ry
  have RZ := hmk rz
  have XQ : Hid (∀ W, Below w8.heap.size w8 W → liesQ W (Old W) x xb xo) := fun W hb => liesQ_old (b58.trans (hb.mono b58.size)) lx
  have YQ : Hid (∀ W, Below w8.heap.size w8 W → liesQ W (Old W) y yb yo) := fun W hb => liesQ_old (b58.trans (hb.mono b58.size)) ly
  have ZQ : Hid (∀ W, Below w8.heap.size w8 W → liesQ W (Old W) z zb zo) := fun W hb => liesQ_old (b58.trans (hb.mono b58.size)) lz
  have hEJ : errJ x y = 0 := errJ_ok SX.out SY.out
  clear cC b57 b8 B7 b58 lx ly lz ga gb gc rx ry rz B5
  have TW : Hid (∀ W, Below w8.heap.size w8 W → Tb W) := fun W hb => HT.out.below (B8.trans (hb.mono B8.size)) HT.out.z
  have c9 := hmk (union_any x y (Old w8) xa xc xb xo ya yc yb yo w8 (TW.out w8 (Below.refl _ _)) hx (XQ.out w8 (Below.refl _ _)) hy (YQ.out w8 (Below.refl _ _)) (old_lt w8) (bq_of hwx) (bq_of hwy))
  rw [hEJ] at c9
  go_wp2_with fail
  refine c9.out.mono ?_
  intro e w9 hpst
  obtain ⟨ua, uc, ub, uo, rfl, hu, UQ, b9⟩ := bw_out hpst
  have c10 := hmk (meet_any x y (Old w9) xa xc xb xo ya yc yb yo w9 (TW.out w9 b9) hx (XQ.out w9 b9) hy (YQ.out w9 b9) (old_lt w9) (bq_of hwx) (bq_of hwy))
  rw [hEJ] at c10
  clear hpst c9
  go_wp2_with fail
  refine c10.out.mono ?_
  intro e w10 hpst
  obtain ⟨ma, mc, mb, mo, rfl, hm, MQ, b10⟩ := bw_out hpst
  have b8_10 := b9.trans (b10.mono b9.size)
  have c11 := hmk (minus_any x y (Old w10) xa xc xb xo ya yc yb yo w10 (TW.out w10 b8_10) hx (XQ.out w10 b8_10) hy (YQ.out w10 b8_10) (old_lt w10) (bq_of hwx) (bq_of hwy))
  rw [hEJ] at c11
  clear hpst c10
  go_wp2_with fail
  refine c11.out.mono ?_
  intro e w11 hpst
  obtain ⟨qa, qc, qb, qo, rfl, hq, DQ, b11⟩ := bw_out hpst
  have b8_11 := b8_10.trans (b11.mono b8_10.size)
  have b9_11 := b10.trans (b11.mono b10.size)
  have B11 := B8.trans (b8_11.mono B8.size)
  have Qa : Hid (∀ W, Below w11.heap.size w11 W → liesQ W (Old W) a ba oa) := fun W hb => liesQ_old (B11.trans (hb.mono B11.size)) HA.out
  have Qb : Hid (∀ W, Below w11.heap.size w11 W → liesQ W (Old W) b bb ob) := fun W hb => liesQ_old (B11.trans (hb.mono B11.size)) HB.out
  have Qc : Hid (∀ W, Below w11.heap.size w11 W → liesQ W (Old W) c bc oc) := fun W hb => liesQ_old (B11.trans (hb.mono B11.size)) HC.out
  have Qx : Hid (∀ W, Below w11.heap.size w11 W → liesQ W (Old W) x xb xo) := fun W hb => XQ.out W (b8_11.trans (hb.mono b8_11.size))
  have Qy : Hid (∀ W, Below w11.heap.size w11 W → liesQ W (Old W) y yb yo) := fun W hb => YQ.out W (b8_11.trans (hb.mono b8_11.size))
  have Qz : Hid (∀ W, Below w11.heap.size w11 W → liesQ W (Old W) z zb zo) := fun W hb => ZQ.out W (b8_11.trans (hb.mono b8_11.size))
  have Qu : Hid (∀ W, Below w11.heap.size w11 W → liesQ W (Old W) (joL tU x y) ub uo) := fun W hb => UQ.out W (b9_11.trans (hb.mono b9_11.size))
  have Qm : Hid (∀ W, Below w11.heap.size w11 W → liesQ W (Old W) (joL tM x y) mb mo) := fun W hb => MQ.out W (b11.trans (hb.mono b11.size))
  have Qd : Hid (∀ W, Below w11.heap.size w11 W → liesQ W (Old W) (joL tN x y) qb qo) := fun W hb => DQ.out W hb
  have T11 : Hid (∀ W, Below w11.heap.size w11 W → Tb W) := fun W hb => TW.out W (b8_11.trans (hb.mono b8_11.size))
  have hlu := jo_len (t := tU) x y
  have hlm := jo_len (t := tM) x y
  have hld := jo_len (t := tN) x y
  have SU := hmk (jo_set (t := tU) SX.out SY.out)
  have SM := hmk (jo_set (t := tM) SX.out SY.out)
  have SD := hmk (jo_set (t := tN) SX.out SY.out)
  have BU := hmk (jo_bq (t := tU) SX.out SY.out BX.out BY.out)
  have BM := hmk (jo_bq (t := tM) SX.out SY.out BX.out BY.out)
  have BD := hmk (jo_bq (t := tN) SX.out SY.out BX.out BY.out)
  have L1 : Hid (joL tU y x = joL tU x y) := law_comm SX.out SY.out
  have L2 : Hid (joL tM y x = joL tM x y) := law_meet SX.out SY.out
  have L3 : Hid (joL tU (joL tM x y) (joL tN x y) = x) := law_both SX.out SY.out
  have L4 : Hid (joL tM (joL tM x y) (joL tN x y) = []) := law_none SX.out SY.out
  have L5 : Hid (joL tU x (joL tU y z) = joL tU (joL tU x y) z) := law_assoc SX.out SY.out SZ.out
  have L6 : Hid (wiB x y = decide ((joL tN x y).length = 0)) := wi_len SX.out SY.out
  have M1 : Hid (∀ p, pathB p = true → memB x p = memB a p ∧ hasB x p = memB a p ∧ memB (joL tU x y) p = (memB a p || memB b p) ∧ memB (joL tM x y) p = (memB a p && memB b p) ∧ memB (joL tN x y) p = (memB a p && !memB b p)) := fun p hp => by
    have e1 := rs_memB GA.out RX.out hp
    have e2 := rs_memB GB.out RY.out hp
    refine ⟨e1, rs_hasB GA.out RX.out hp, ?_, ?_, ?_⟩
    · rw [un_memB SX.out SY.out hp, e1, e2]
    · rw [me_memB SX.out SY.out hp, e1, e2]
    · rw [mi_memB SX.out SY.out hp, e1, e2]
  have M2 : Hid (∀ p ∈ joL tU x y, memB a p = true ∨ memB b p = true) := fun p hp => by
    have hpp := SU.out.1 p hp
    rcases (un_mem SX.out SY.out p).1 hp with h | h
    · exact .inl ((mem_memB GA.out hpp).2 ((RX.out.2 p).1 h))
    · exact .inr ((mem_memB GB.out hpp).2 ((RY.out.2 p).1 h))
  generalize hu_ : joL tU x y = u at *
  generalize hm_ : joL tM x y = m at *
  generalize hd_ : joL tN x y = d at *
  clear hpst c11 UQ MQ DQ XQ YQ ZQ b9 b10 b11 b8_10 b9_11 TW HA HB HC
  have crx := hmk (rises_any x (Old w11) xa xc xb xo w11 (T11.out w11 (Below.refl w11.heap.size w11)) hx (Qx.out w11 (Below.refl w11.heap.size w11)) (old_lt w11) BX.out (by omega) SX.out.1 SX.out.2)
  go_wp2_with fail
  refine crx.out.mono ?_
  rintro e w12 ⟨rfl, d12⟩
  have D12 : Below w11.heap.size w11 w12 := (Below.refl w11.heap.size w11).trans (d12.mono (Below.refl w11.heap.size w11).size)
  clear crx d12
  have cru := hmk (rises_any u (Old w12) ua uc ub uo w12 (T11.out w12 D12) hu (Qu.out w12 D12) (old_lt w12) BU.out (by omega) SU.out.1 SU.out.2)
  go_wp2_with fail
  refine cru.out.mono ?_
  rintro e w13 ⟨rfl, d13⟩
  have D13 : Below w11.heap.size w11 w13 := D12.trans (d13.mono D12.size)
  clear cru d13
  have crm := hmk (rises_any m (Old w13) ma mc mb mo w13 (T11.out w13 D13) hm (Qm.out w13 D13) (old_lt w13) BM.out (by omega) SM.out.1 SM.out.2)
  go_wp2_with fail
  refine crm.out.mono ?_
  rintro e w14 ⟨rfl, d14⟩
  have D14 : Below w11.heap.size w11 w14 := D13.trans (d14.mono D13.size)
  clear crm d14
  have crd := hmk (rises_any d (Old w14) qa qc qb qo w14 (T11.out w14 D14) hq (Qd.out w14 D14) (old_lt w14) BD.out (by omega) SD.out.1 SD.out.2)
  go_wp2_with fail
  refine crd.out.mono ?_
  rintro e w15 ⟨rfl, d15⟩
  have D15 : Below w11.heap.size w11 w15 := D14.trans (d15.mono D14.size)
  clear crd d15
  have cck := hmk (schk_any x (Old w15) xa xc xb xo w15 (T11.out w15 D15) hx (Qx.out w15 D15) (old_lt w15) hwx)
  rw [SX.out.ok] at cck
  go_wp2_with fail
  refine cck.out.mono ?_
  rintro e w16 ⟨rfl, d16⟩
  have D16 : Below w11.heap.size w11 w16 := D15.trans (d16.mono D15.size)
  clear cck d16 D12 D13 D14 D15
  obtain ⟨pa, epa, hpa⟩ := pc_of (Qa.out w16 D16)
  obtain ⟨pb, epb, hpb⟩ := pc_of (Qb.out w16 D16)
  obtain ⟨pc, epc, hpc⟩ := pc_of (Qc.out w16 D16)
  have npa : pa.length = a.length := by rw [← epa, List.length_map]
  have npb : pb.length = b.length := by rw [← epb, List.length_map]
  have npc : pc.length = c.length := by rw [← epc, List.length_map]
  obtain ⟨i0, hi0, hz0, hz1, hz2⟩ := info_parts info33
  have hI : Hid (Tryz.prog.info? 32 = some i0 ∧ i0.zero = some (.slice none 0 0) ∧ i0.size = 1 ∧ i0.bytes = 24) := ⟨hi0, hz0, hz1, hz2⟩
  clear hi0 hz0 hz1 hz2
  have CLa : Hid (∀ (W : World), Below w16.heap.size w16 W → ∀ j v, (pa.map PC.enc)[j]? = some v → W.cell? ⟨ba, oa + j, none⟩ = some v) := fun W hb j v hv => by
    rw [List.getElem?_map] at hv
    cases hj : pa[j]? with
    | none => rw [hj] at hv; cases hv
    | some X =>
      rw [hj] at hv
      obtain ⟨h1, h2⟩ := List.getElem?_eq_some_iff.1 hj
      have := hpa j h1
      rw [(hb.cell (p := ⟨ba, oa + j, none⟩) (World.block_lt_of_cell? w16 _ this)), this, h2]
      exact hv
  have CLb : Hid (∀ (W : World), Below w16.heap.size w16 W → ∀ j v, (pb.map PC.enc)[j]? = some v → W.cell? ⟨bb, ob + j, none⟩ = some v) := fun W hb j v hv => by
    rw [List.getElem?_map] at hv
    cases hj : pb[j]? with
    | none => rw [hj] at hv; cases hv
    | some X =>
      rw [hj] at hv
      obtain ⟨h1, h2⟩ := List.getElem?_eq_some_iff.1 hj
      have := hpb j h1
      rw [(hb.cell (p := ⟨bb, ob + j, none⟩) (World.block_lt_of_cell? w16 _ this)), this, h2]
      exact hv
  have CLc : Hid (∀ (W : World), Below w16.heap.size w16 W → ∀ j v, (pc.map PC.enc)[j]? = some v → W.cell? ⟨bc, oc + j, none⟩ = some v) := fun W hb j v hv => by
    rw [List.getElem?_map] at hv
    cases hj : pc[j]? with
    | none => rw [hj] at hv; cases hv
    | some X =>
      rw [hj] at hv
      obtain ⟨h1, h2⟩ := List.getElem?_eq_some_iff.1 hj
      have := hpc j h1
      rw [(hb.cell (p := ⟨bc, oc + j, none⟩) (World.block_lt_of_cell? w16 _ this)), this, h2]
      exact hv
  have hbase := Nat.le_refl w16.heap.size
  go_wp2_with (at_builtin; go_loud (refine wpl_catP rfl (.tmp 120) (.tmp 121) 22 rfl w16.heap.size 32 i0 _ 1 24 Tryz.underlying22 hI.out.1 hI.out.2.1 hI.out.2.2.1 hI.out.2.2.2 rfl (by decide) (by decide) (.slice none 0 0) 0 [] rfl (World.ownsRow_nil w16 _ 32 1) aa a.length ca ba oa rfl hha (pa.map PC.enc) (by rw [List.length_map]; omega) (CLa.out w16 (Below.refl _ _)) enc_one (by omega) hbase ?_))
  intro v1 w17 o1 g1
  have d17 : Below w16.heap.size w16 w17 := (Below.refl _ _).grown g1 (by omega) (fun r e => by simp [Value.ownBlock] at e)
  have hv1 : Hid (∀ r, v1.ownBlock = some r → w16.heap.size ≤ r ∧ r < w17.heap.size) := fun r hr => o1.lt r hr
  have O1 := hmk o1
  have z17 := d17.size
  clear o1 g1
  go_wp2_with (at_builtin; go_loud (refine wpl_catP rfl (.tmp 123) (.tmp 124) 22 rfl w16.heap.size 32 i0 _ 1 24 Tryz.underlying22 hI.out.1 hI.out.2.1 hI.out.2.2.1 hI.out.2.2.2 rfl (by decide) (by decide) v1 _ _ rfl O1.out ab b.length cb bb ob rfl hhb (pb.map PC.enc) (by rw [List.length_map]; omega) (CLb.out w17 d17) enc_one (by omega) (by omega) ?_))
  intro v2 w18 o2 g2
  have d18 : Below w16.heap.size w16 w18 := d17.grown g2 (by omega) (fun r e => (hv1.out r e).1)
  have hv2 : Hid (∀ r, v2.ownBlock = some r → w16.heap.size ≤ r ∧ r < w18.heap.size) := fun r hr => o2.lt r hr
  have O2 := hmk o2
  have z18 := d18.size
  clear o2 g2 O1
  go_wp2_with (at_builtin; go_loud (refine wpl_catP rfl (.tmp 126) (.tmp 127) 22 rfl w16.heap.size 32 i0 _ 1 24 Tryz.underlying22 hI.out.1 hI.out.2.1 hI.out.2.2.1 hI.out.2.2.2 rfl (by decide) (by decide) v2 _ _ rfl O2.out ac c.length cc bc oc rfl hhc (pc.map PC.enc) (by rw [List.length_map]; omega) (CLc.out w18 d18) enc_one (by omega) (by omega) ?_))
  intro v3 w19 o3 g3
  have d19 : Below w16.heap.size w16 w19 := d18.grown g3 (by omega) (fun r e => (hv2.out r e).1)
  have O3 : Hid (w19.ownsRow w16.heap.size 32 1 v3 (pa ++ pb ++ pc).length ((pa ++ pb ++ pc).map PC.enc)) := by
    have e1 : (pa ++ pb ++ pc).length = a.length + b.length + c.length := by simp only [List.length_append]; omega
    have e2 : (pa ++ pb ++ pc).map PC.enc = pa.map PC.enc ++ (pb.map PC.enc ++ pc.map PC.enc) := by simp
    show World.ownsRow _ _ _ _ _ _ _
    rw [e1, e2]
    first
    | exact o3
    | simpa using o3
  have HAL : Hid (∀ X ∈ pa ++ pb ++ pc, pathB X.p = true ∧ wtP X.p ≤ 2147483647) := fun X hX => by
    rcases List.mem_append.1 hX with h | h
    · rcases List.mem_append.1 h with h | h
      · have : X.p ∈ a := by rw [← epa]; exact List.mem_map_of_mem h
        exact ⟨GA.out _ this, WA.out _ this⟩
      · have : X.p ∈ b := by rw [← epb]; exact List.mem_map_of_mem h
        exact ⟨GB.out _ this, WB.out _ this⟩
    · have : X.p ∈ c := by rw [← epc]; exact List.mem_map_of_mem h
      exact ⟨GC.out _ this, WC.out _ this⟩
  have hNl : (pa ++ pb ++ pc).length ≤ 8589934592 := by simp only [List.length_append]; omega
  obtain ⟨la, lc, lb, lo, rfl, hrd⟩ := rdr_own (T := fun _ => True) O3.out (fun _ _ => trivial)
  have RD := hmk hrd
  have D19 : Below w11.heap.size w11 w19 := D16.trans (d19.mono D16.size)
  clear o3 g3 O2 O3 hrd hv1 hv2 CLa CLb CLc hpa hpb hpc epa epb epc npa npb npc d17 d18 z17 z18 hI
  generalize pa ++ pb ++ pc = AL at *
  have AM : Hid (∀ (l : List (List El)) (al : Option Addr) (cl bl ol : Nat) (X : PC w16 (Old w16)) (W : World), Headed al l.length cl bl ol → liesQ W (Old W) l bl ol → Good l → pathB X.p = true → Below w16.heap.size w16 W → Calls Tryz.prog 14 #[.slice al l.length cl, .slice X.ao X.p.length X.cap] W (BPost (memB l X.p) W)) := fun l al cl bl ol X W h1 h2 h3 h4 hb => among_any l X.p (Old W) (Old W) al cl bl ol X.ao X.cap X.b X.o W h1 h2 X.hh (liesP_old hb X.hl) (old_lt W) (old_lt W) h3 h4
  go_wp2_with fail
  go_loopw [18] (fun e18 wr => ∃ i : Nat, i ≤ AL.length ∧ e18 = .int .i64 (i : Int) ∧ Below w19.heap.size w19 wr) (fun e18 _ => AL.length - (RowKit.intOf e18).toNat)
  case atStart => exact ⟨0, by omega, rfl, Below.refl _ _⟩
  case round =>
    obtain ⟨i, hi, rfl, bi⟩ := hrel
    by_cases hil : i < AL.length
    rotate_left
    · obtain rfl : i = AL.length := by omega
      have y1 : ¬ (AL.length : Int) < AL.length := by omega
      have Di : Below w11.heap.size w11 wr := D19.trans (bi.mono D19.size)
      clear AM RD HAL bi
      go_wp2_with fail
      go_loopw [22] (fun e22 wr => ∃ i : Nat, i ≤ u.length ∧ e22 = .int .i64 (i : Int) ∧ Below w11.heap.size w11 wr) (fun e22 _ => u.length - (RowKit.intOf e22).toNat)
      case atStart => exact ⟨0, by omega, rfl, Di⟩
      case round =>
        clear Di
        obtain ⟨i, hi, rfl, Di⟩ := hrel
        by_cases hil : i < u.length
        rotate_left
        · obtain rfl : i = u.length := by omega
          have y2 : ¬ (u.length : Int) < u.length := by omega
          have c30 := hmk (union_any y x (Old wr) ya yc yb yo xa xc xb xo wr (T11.out wr Di) hy (Qy.out wr Di) hx (Qx.out wr Di) (old_lt wr) (bq_of hwy) (bq_of hwx))
          rw [errJ_ok SY.out SX.out, L1.out] at c30
          go_wp2_with fail
          refine c30.out.mono ?_
          intro e w30 hpst
          obtain ⟨va, vc, vb, vo, rfl, hv, Vv, d30⟩ := bw_out hpst
          have D30 : Below w11.heap.size w11 w30 := Di.trans (d30.mono Di.size)
          clear hpst c30
          have c31 := hmk (meet_any y x (Old w30) ya yc yb yo xa xc xb xo w30 (T11.out w30 D30) hy (Qy.out w30 D30) hx (Qx.out w30 D30) (old_lt w30) (bq_of hwy) (bq_of hwx))
          rw [errJ_ok SY.out SX.out, L2.out] at c31
          go_wp2_with fail
          refine c31.out.mono ?_
          intro e w31 hpst
          obtain ⟨wa, wc, wb_, wo, rfl, hw_, Vw, d31⟩ := bw_out hpst
          have D31 : Below w11.heap.size w11 w31 := D30.trans (d31.mono D30.size)
          clear hpst c31
          have c32 := hmk (union_any m d (Old w31) ma mc mb mo qa qc qb qo w31 (T11.out w31 D31) hm (Qm.out w31 D31) hq (Qd.out w31 D31) (old_lt w31) ⟨by omega, BM.out⟩ ⟨by omega, BD.out⟩)
          rw [errJ_ok SM.out SD.out, L3.out] at c32
          go_wp2_with fail
          refine c32.out.mono ?_
          intro e w32 hpst
          obtain ⟨ea, ec, eb, eo, rfl, he, Vo, d32⟩ := bw_out hpst
          have D32 : Below w11.heap.size w11 w32 := D31.trans (d32.mono D31.size)
          clear hpst c32
          have c33 := hmk (meet_any m d (Old w32) ma mc mb mo qa qc qb qo w32 (T11.out w32 D32) hm (Qm.out w32 D32) hq (Qd.out w32 D32) (old_lt w32) ⟨by omega, BM.out⟩ ⟨by omega, BD.out⟩)
          rw [errJ_ok SM.out SD.out, L4.out] at c33
          go_wp2_with fail
          refine c33.out.mono ?_
          intro e w33 hpst
          obtain ⟨na_, nc, nb_, no, rfl, hn, Vn, d33⟩ := bw_out hpst
          have D33 : Below w11.heap.size w11 w33 := D32.trans (d33.mono D32.size)
          clear hpst c33
          have t30 : Below w30.heap.size w30 w33 := d31.trans ((d32.trans (d33.mono d32.size)).mono d31.size)
          have t31 : Below w31.heap.size w31 w33 := d32.trans (d33.mono d32.size)
          have s1 := hmk (sspath_any u (Old w33) (Old w33) ua uc ub uo va vc vb vo w33 hu (Qu.out w33 D33) hv (Vv.out w33 t30) (old_lt w33) (old_lt w33))
          go_wp2_with fail
          refine s1.out.mono ?_
          rintro e w34 ⟨rfl, d34⟩
          have D34 : Below w11.heap.size w11 w34 := D33.trans (d34.mono D33.size)
          have t31b := t31.trans (d34.mono t31.size)
          have t32 : Below w32.heap.size w32 w34 := d33.trans (d34.mono d33.size)
          have s2 := hmk (sspath_any m (Old w34) (Old w34) ma mc mb mo wa wc wb_ wo w34 hm (Qm.out w34 D34) hw_ (Vw.out w34 t31b) (old_lt w34) (old_lt w34))
          clear s1
          go_wp2_with fail
          refine s2.out.mono ?_
          rintro e w35 ⟨rfl, d35⟩
          have D35 : Below w11.heap.size w11 w35 := D34.trans (d35.mono D34.size)
          have t32b := t32.trans (d35.mono t32.size)
          have s3 := hmk (sspath_any x (Old w35) (Old w35) ea ec eb eo xa xc xb xo w35 he (Vo.out w35 t32b) hx (Qx.out w35 D35) (old_lt w35) (old_lt w35))
          clear s2
          go_wp2_with fail
          refine s3.out.mono ?_
          rintro e w36 ⟨rfl, d36⟩
          have D36 : Below w11.heap.size w11 w36 := D35.trans (d36.mono D35.size)
          clear s3 t30 t31 t31b t32 t32b d30 d31 d32 d33 d34 d35 d36 Vv Vw Vo Vn
          have c37 := hmk (union_any u z (Old w36) ua uc ub uo za zc zb zo w36 (T11.out w36 D36) hu (Qu.out w36 D36) hz (Qz.out w36 D36) (old_lt w36) ⟨by omega, BU.out⟩ (bq_of hwz))
          rw [errJ_ok SU.out SZ.out] at c37
          go_wp2_with fail
          refine c37.out.mono ?_
          intro e w37 hpst
          obtain ⟨la_, lc_, lb_, lo_, rfl, hl, Vl, d37⟩ := bw_out hpst
          have D37 : Below w11.heap.size w11 w37 := D36.trans (d37.mono D36.size)
          clear hpst c37
          have c38 := hmk (union_any y z (Old w37) ya yc yb yo za zc zb zo w37 (T11.out w37 D37) hy (Qy.out w37 D37) hz (Qz.out w37 D37) (old_lt w37) (bq_of hwy) (bq_of hwz))
          rw [errJ_ok SY.out SZ.out] at c38
          go_wp2_with fail
          refine c38.out.mono ?_
          intro e w38 hpst
          obtain ⟨ya2, yc2, yb2, yo2, rfl, hyz, Vyz, d38⟩ := bw_out hpst
          have D38 : Below w11.heap.size w11 w38 := D37.trans (d38.mono D37.size)
          clear hpst c38
          have hlyz := jo_len (t := tU) y z
          have c39 := hmk (union_any x (joL tU y z) (Old w38) xa xc xb xo ya2 yc2 yb2 yo2 w38 (T11.out w38 D38) hx (Qx.out w38 D38) hyz (Vyz.out w38 (Below.refl _ _)) (old_lt w38) (bq_of hwx) ⟨by omega, jo_bq SY.out SZ.out BY.out BZ.out⟩)
          rw [errJ_ok SX.out (jo_set SY.out SZ.out), L5.out] at c39
          generalize joL tU y z = yz at *
          generalize joL tU u z = ll at *
          go_wp2_with fail
          refine c39.out.mono ?_
          intro e w39 hpst
          obtain ⟨ra, rc, rb_, ro, rfl, hr, Vr, d39⟩ := bw_out hpst
          have D39 : Below w11.heap.size w11 w39 := D38.trans (d39.mono D38.size)
          clear hpst c39
          have c40 := hmk (within_any x y (Old w39) xa xc xb xo ya yc yb yo w39 (T11.out w39 D39) hx (Qx.out w39 D39) hy (Qy.out w39 D39) (old_lt w39) (bq_of hwx) (bq_of hwy))
          rw [errJ_ok SX.out SY.out, L6.out] at c40
          go_wp2_with fail
          refine c40.out.mono ?_
          rintro e w40 ⟨rfl, d40⟩
          have D40 : Below w11.heap.size w11 w40 := D39.trans (d40.mono D39.size)
          have t37 : Below w37.heap.size w37 w40 := d38.trans ((d39.trans (d40.mono d39.size)).mono d38.size)
          have s4 := hmk (sspath_any ll (Old w40) (Old w40) la_ lc_ lb_ lo_ ra rc rb_ ro w40 hl (Vl.out w40 t37) hr (Vr.out w40 d40) (old_lt w40) (old_lt w40))
          have hdl : d.length ≤ 9223372036854775807 := by omega
          clear c40
          by_cases hd0 : d.length = 0
          · have q1 : (((d.length : Nat) : Int) == 0) = true := by rw [hd0]; rfl
            rw [decide_eq_true hd0]
            go_wp2_with fail
            refine s4.out.mono ?_
            rintro e w41 ⟨rfl, d41⟩
            go_wp2_with fail
            go_ret
            exact ⟨rfl, B11.trans ((D40.trans (d41.mono D40.size)).mono B11.size)⟩
          · have q1 : (((d.length : Nat) : Int) == 0) = false := beq_eq_false_iff_ne.2 (by omega)
            rw [decide_eq_false hd0]
            go_wp2_with fail
            refine s4.out.mono ?_
            rintro e w41 ⟨rfl, d41⟩
            go_wp2_with fail
            go_ret
            exact ⟨rfl, B11.trans ((D40.trans (d41.mono D40.size)).mono B11.size)⟩
        have y2 : (i : Int) < u.length := by omega
        obtain ⟨_, vi, hvi, ax, cx, bx, ox, rfl, hhx, hlx⟩ := Qu.out wr Di i hil
        obtain rfl : ua = some ⟨ub, uo, none⟩ := hu.at_.resolve_left (by omega)
        have hpu := SU.out.1 _ (List.getElem_mem hil)
        have ka := hmk (among_any a u[i] (Old wr) (Old wr) aa ca ba oa ax cx bx ox wr hha (Qa.out wr Di) hhx hlx (old_lt wr) (old_lt wr) GA.out hpu)
        have KB : Hid (∀ W, Below wr.heap.size wr W → Calls Tryz.prog 14 #[.slice ab b.length cb, .slice ax (u[i]).length cx] W (BPost (memB b u[i]) W) ∧ W.cell? ⟨ub, uo + i, none⟩ = some (.slice ax (u[i]).length cx)) := fun W hb => ⟨among_any b u[i] (Old W) (Old W) ab cb bb ob ax cx bx ox W hhb (Qb.out W (Di.trans (hb.mono Di.size))) hhx (liesP_old hb hlx) (old_lt W) (old_lt W) GB.out hpu, (hb.cell (p := ⟨ub, uo + i, none⟩) (World.block_lt_of_cell? wr _ hvi)).trans hvi⟩
        have hor := M2.out _ (List.getElem_mem hil)
        clear hlx hhx hpu
        cases hma : memB a u[i] with
        | true =>
          rw [hma] at ka
          go_wp2_with fail
          refine ka.out.mono ?_
          rintro e w20 ⟨rfl, d20⟩
          go_wp2_with fail
          go_roundw
          case rel => exact ⟨i + 1, by omega, by go_num, Di.trans (d20.mono Di.size)⟩
          case measure => simp [RowKit.intOf]; omega
        | false =>
          have hmb : memB b u[i] = true := hor.resolve_left (by rw [hma]; simp)
          rw [hma] at ka
          rw [hmb] at KB
          go_wp2_with fail
          refine ka.out.mono ?_
          rintro e w20 ⟨rfl, d20⟩
          obtain ⟨kb, rb⟩ := KB.out w20 d20
          have kbh := hmk kb
          clear kb
          go_wp2_with fail
          refine kbh.out.mono ?_
          rintro e w21 ⟨rfl, d21⟩
          go_wp2_with fail
          go_roundw
          case rel => exact ⟨i + 1, by omega, by go_num, Di.trans ((d20.trans (d21.mono d20.size)).mono Di.size)⟩
          case measure => simp [RowKit.intOf]; omega
    have y1 : (i : Int) < AL.length := by omega
    have r1 := (RD.out.below bi).cell i hil
    obtain rfl : la = some ⟨lb, lo, none⟩ := RD.out.hd.at_.resolve_left (by omega)
    obtain ⟨hpX, hwX⟩ := HAL.out _ (List.getElem_mem hil)
    obtain ⟨m1, m2, m3, m4, m5⟩ := M1.out _ hpX
    have Di : Below w11.heap.size w11 wr := D19.trans (bi.mono D19.size)
    have di : Below w16.heap.size w16 wr := d19.trans (bi.mono d19.size)
    generalize AL[i] = X at *
    simp only [PC.enc] at r1
    have CH : Hid (∀ W, Below w16.heap.size w16 W → Calls Tryz.prog 15 #[.slice xa x.length xc, .slice X.ao X.p.length X.cap] W (BPost (memB a X.p) W)) := fun W hb => by
      have := has_any x X.p (Old W) (Old W) xa xc xb xo X.ao X.cap X.b X.o W (T11.out W (D16.trans (hb.mono D16.size))) hx (Qx.out W (D16.trans (hb.mono D16.size))) X.hh (liesP_old hb X.hl) (old_lt W) (old_lt W) hwx hwX
      rwa [m2] at this
    have Ca : Hid (∀ W, Below w16.heap.size w16 W → Calls Tryz.prog 14 #[.slice aa a.length ca, .slice X.ao X.p.length X.cap] W (BPost (memB a X.p) W)) := fun W hb => by
      have := AM.out a aa ca ba oa X W hha (Qa.out W (D16.trans (hb.mono D16.size))) GA.out hpX hb
      exact this
    have Cb : Hid (∀ W, Below w16.heap.size w16 W → Calls Tryz.prog 14 #[.slice ab b.length cb, .slice X.ao X.p.length X.cap] W (BPost (memB b X.p) W)) := fun W hb => by
      have := AM.out b ab cb bb ob X W hhb (Qb.out W (D16.trans (hb.mono D16.size))) GB.out hpX hb
      exact this
    have Cx : Hid (∀ W, Below w16.heap.size w16 W → Calls Tryz.prog 14 #[.slice xa x.length xc, .slice X.ao X.p.length X.cap] W (BPost (memB a X.p) W)) := fun W hb => by
      have := AM.out x xa xc xb xo X W hx (Qx.out W (D16.trans (hb.mono D16.size))) SX.out.1 hpX hb
      rwa [m1] at this
    have Cu : Hid (∀ W, Below w16.heap.size w16 W → Calls Tryz.prog 14 #[.slice ua u.length uc, .slice X.ao X.p.length X.cap] W (BPost ((memB a X.p || memB b X.p)) W)) := fun W hb => by
      have := AM.out u ua uc ub uo X W hu (Qu.out W (D16.trans (hb.mono D16.size))) SU.out.1 hpX hb
      rwa [m3] at this
    have Cm : Hid (∀ W, Below w16.heap.size w16 W → Calls Tryz.prog 14 #[.slice ma m.length mc, .slice X.ao X.p.length X.cap] W (BPost ((memB a X.p && memB b X.p)) W)) := fun W hb => by
      have := AM.out m ma mc mb mo X W hm (Qm.out W (D16.trans (hb.mono D16.size))) SM.out.1 hpX hb
      rwa [m4] at this
    have Cd : Hid (∀ W, Below w16.heap.size w16 W → Calls Tryz.prog 14 #[.slice qa d.length qc, .slice X.ao X.p.length X.cap] W (BPost ((memB a X.p && !memB b X.p)) W)) := fun W hb => by
      have := AM.out d qa qc qb qo X W hq (Qd.out W (D16.trans (hb.mono D16.size))) SD.out.1 hpX hb
      rwa [m5] at this
    generalize X.ao = Xa at *
    generalize X.p.length = Xn at *
    generalize X.cap = Xc at *
    clear m1 m2 m3 m4 m5 hpX hwX AM HAL
    generalize memB a X.p = PA at *
    generalize memB b X.p = PB at *
    clear M1 M2
    cases PA <;> cases PB
    · have k0 := hmk (Ca.out wr di)
      go_wp2_with fail
      refine k0.out.mono ?_
      rintro e v0 ⟨rfl, e0⟩
      have f0 := di.trans (e0.mono di.size)
      have g0 := bi.trans (e0.mono bi.size)
      clear k0 e0
      have k1 := hmk (Cb.out v0 f0)
      go_wp2_with fail
      refine k1.out.mono ?_
      rintro e v1 ⟨rfl, e1⟩
      have f1 := f0.trans (e1.mono f0.size)
      have g1 := g0.trans (e1.mono g0.size)
      clear k1 e1
      have k2 := hmk (Cx.out v1 f1)
      go_wp2_with fail
      refine k2.out.mono ?_
      rintro e v2 ⟨rfl, e2⟩
      have f2 := f1.trans (e2.mono f1.size)
      have g2 := g1.trans (e2.mono g1.size)
      clear k2 e2
      have k3 := hmk (CH.out v2 f2)
      go_wp2_with fail
      refine k3.out.mono ?_
      rintro e v3 ⟨rfl, e3⟩
      have f3 := f2.trans (e3.mono f2.size)
      have g3 := g2.trans (e3.mono g2.size)
      clear k3 e3
      have k4 := hmk (Cu.out v3 f3)
      go_wp2_with fail
      refine k4.out.mono ?_
      rintro e v4 ⟨rfl, e4⟩
      have f4 := f3.trans (e4.mono f3.size)
      have g4 := g3.trans (e4.mono g3.size)
      clear k4 e4
      have k5 := hmk (Cm.out v4 f4)
      go_wp2_with fail
      refine k5.out.mono ?_
      rintro e v5 ⟨rfl, e5⟩
      have f5 := f4.trans (e5.mono f4.size)
      have g5 := g4.trans (e5.mono g4.size)
      clear k5 e5
      have k6 := hmk (Cd.out v5 f5)
      go_wp2_with fail
      refine k6.out.mono ?_
      rintro e v6 ⟨rfl, e6⟩
      have f6 := f5.trans (e6.mono f5.size)
      have g6 := g5.trans (e6.mono g5.size)
      clear k6 e6
      go_wp2_with fail
      go_roundw
      case rel => exact ⟨i + 1, by omega, by go_num, g6⟩
      case measure => simp [RowKit.intOf]; omega
    · have k0 := hmk (Ca.out wr di)
      go_wp2_with fail
      refine k0.out.mono ?_
      rintro e v0 ⟨rfl, e0⟩
      have f0 := di.trans (e0.mono di.size)
      have g0 := bi.trans (e0.mono bi.size)
      clear k0 e0
      have k1 := hmk (Cb.out v0 f0)
      go_wp2_with fail
      refine k1.out.mono ?_
      rintro e v1 ⟨rfl, e1⟩
      have f1 := f0.trans (e1.mono f0.size)
      have g1 := g0.trans (e1.mono g0.size)
      clear k1 e1
      have k2 := hmk (Cx.out v1 f1)
      go_wp2_with fail
      refine k2.out.mono ?_
      rintro e v2 ⟨rfl, e2⟩
      have f2 := f1.trans (e2.mono f1.size)
      have g2 := g1.trans (e2.mono g1.size)
      clear k2 e2
      have k3 := hmk (CH.out v2 f2)
      go_wp2_with fail
      refine k3.out.mono ?_
      rintro e v3 ⟨rfl, e3⟩
      have f3 := f2.trans (e3.mono f2.size)
      have g3 := g2.trans (e3.mono g2.size)
      clear k3 e3
      have k4 := hmk (Cu.out v3 f3)
      go_wp2_with fail
      refine k4.out.mono ?_
      rintro e v4 ⟨rfl, e4⟩
      have f4 := f3.trans (e4.mono f3.size)
      have g4 := g3.trans (e4.mono g3.size)
      clear k4 e4
      have k5 := hmk (Cm.out v4 f4)
      go_wp2_with fail
      refine k5.out.mono ?_
      rintro e v5 ⟨rfl, e5⟩
      have f5 := f4.trans (e5.mono f4.size)
      have g5 := g4.trans (e5.mono g4.size)
      clear k5 e5
      have k6 := hmk (Cd.out v5 f5)
      go_wp2_with fail
      refine k6.out.mono ?_
      rintro e v6 ⟨rfl, e6⟩
      have f6 := f5.trans (e6.mono f5.size)
      have g6 := g5.trans (e6.mono g5.size)
      clear k6 e6
      go_wp2_with fail
      go_roundw
      case rel => exact ⟨i + 1, by omega, by go_num, g6⟩
      case measure => simp [RowKit.intOf]; omega
    · have k0 := hmk (Ca.out wr di)
      go_wp2_with fail
      refine k0.out.mono ?_
      rintro e v0 ⟨rfl, e0⟩
      have f0 := di.trans (e0.mono di.size)
      have g0 := bi.trans (e0.mono bi.size)
      clear k0 e0
      have k1 := hmk (Cb.out v0 f0)
      go_wp2_with fail
      refine k1.out.mono ?_
      rintro e v1 ⟨rfl, e1⟩
      have f1 := f0.trans (e1.mono f0.size)
      have g1 := g0.trans (e1.mono g0.size)
      clear k1 e1
      have k2 := hmk (Cx.out v1 f1)
      go_wp2_with fail
      refine k2.out.mono ?_
      rintro e v2 ⟨rfl, e2⟩
      have f2 := f1.trans (e2.mono f1.size)
      have g2 := g1.trans (e2.mono g1.size)
      clear k2 e2
      have k3 := hmk (CH.out v2 f2)
      go_wp2_with fail
      refine k3.out.mono ?_
      rintro e v3 ⟨rfl, e3⟩
      have f3 := f2.trans (e3.mono f2.size)
      have g3 := g2.trans (e3.mono g2.size)
      clear k3 e3
      have k4 := hmk (Cu.out v3 f3)
      go_wp2_with fail
      refine k4.out.mono ?_
      rintro e v4 ⟨rfl, e4⟩
      have f4 := f3.trans (e4.mono f3.size)
      have g4 := g3.trans (e4.mono g3.size)
      clear k4 e4
      have k5 := hmk (Cm.out v4 f4)
      go_wp2_with fail
      refine k5.out.mono ?_
      rintro e v5 ⟨rfl, e5⟩
      have f5 := f4.trans (e5.mono f4.size)
      have g5 := g4.trans (e5.mono g4.size)
      clear k5 e5
      have k6 := hmk (Cd.out v5 f5)
      go_wp2_with fail
      refine k6.out.mono ?_
      rintro e v6 ⟨rfl, e6⟩
      have f6 := f5.trans (e6.mono f5.size)
      have g6 := g5.trans (e6.mono g5.size)
      clear k6 e6
      go_wp2_with fail
      go_roundw
      case rel => exact ⟨i + 1, by omega, by go_num, g6⟩
      case measure => simp [RowKit.intOf]; omega
    · have k0 := hmk (Ca.out wr di)
      go_wp2_with fail
      refine k0.out.mono ?_
      rintro e v0 ⟨rfl, e0⟩
      have f0 := di.trans (e0.mono di.size)
      have g0 := bi.trans (e0.mono bi.size)
      clear k0 e0
      have k1 := hmk (Cb.out v0 f0)
      go_wp2_with fail
      refine k1.out.mono ?_
      rintro e v1 ⟨rfl, e1⟩
      have f1 := f0.trans (e1.mono f0.size)
      have g1 := g0.trans (e1.mono g0.size)
      clear k1 e1
      have k2 := hmk (Cx.out v1 f1)
      go_wp2_with fail
      refine k2.out.mono ?_
      rintro e v2 ⟨rfl, e2⟩
      have f2 := f1.trans (e2.mono f1.size)
      have g2 := g1.trans (e2.mono g1.size)
      clear k2 e2
      have k3 := hmk (CH.out v2 f2)
      go_wp2_with fail
      refine k3.out.mono ?_
      rintro e v3 ⟨rfl, e3⟩
      have f3 := f2.trans (e3.mono f2.size)
      have g3 := g2.trans (e3.mono g2.size)
      clear k3 e3
      have k4 := hmk (Cu.out v3 f3)
      go_wp2_with fail
      refine k4.out.mono ?_
      rintro e v4 ⟨rfl, e4⟩
      have f4 := f3.trans (e4.mono f3.size)
      have g4 := g3.trans (e4.mono g3.size)
      clear k4 e4
      have k5 := hmk (Cm.out v4 f4)
      go_wp2_with fail
      refine k5.out.mono ?_
      rintro e v5 ⟨rfl, e5⟩
      have f5 := f4.trans (e5.mono f4.size)
      have g5 := g4.trans (e5.mono g4.size)
      clear k5 e5
      have k6 := hmk (Cd.out v5 f5)
      go_wp2_with fail
      refine k6.out.mono ?_
      rintro e v6 ⟨rfl, e6⟩
      have f6 := f5.trans (e6.mono f5.size)
      have g6 := g5.trans (e6.mono g5.size)
      clear k6 e6
      go_wp2_with fail
      go_roundw
      case rel => exact ⟨i + 1, by omega, by go_num, g6⟩
      case measure => simp [RowKit.intOf]; omega
end Go.Proofs.YthlhkhcbkgbhfaaGreatDoor
