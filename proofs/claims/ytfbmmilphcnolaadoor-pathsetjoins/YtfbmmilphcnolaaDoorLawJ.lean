import Derived.Test.YtfbmmilphcnolaaDoorJonU
import Derived.Test.YtfbmmilphcnolaaDoorJonM
import Derived.Test.YtfbmmilphcnolaaDoorWinJ
/- PathsetJoins: the law's own walk. -/
set_option linter.unusedSimpArgs false
set_option linter.unusedVariables false
namespace Go.Proofs.YtfbmmilphcnolaaDoor
open Go Go.RowKit Go.Lib
set_option maxHeartbeats 8000000 in
set_option maxRecDepth 100000 in
theorem joins_walk (a b : List (List El)) (aa : Option Addr) (ca ba oa : Nat) (ab : Option Addr) (cb bb ob : Nat) (w : World) (tb : Tb w) (hha : Headed aa a.length ca ba oa) (hla : liesQ w (Old w) a ba oa) (hhb : Headed ab b.length cb bb ob) (hlb : liesQ w (Old w) b bb ob) :
    Calls Tryd.prog 4 #[.slice aa a.length ca, .slice ab b.length cb] w (BPost true w) := by
  have HL := hmk hla
  have HP := hmk hlb
  have HT := hmk tb
  clear hla hlb tb
  have c1 := hmk (bpathsQ_any a (Old w) aa ca ba oa w hha HL.out (old_lt w))
  go_enter Tryd.func4, Tryd.ntmps4
  go_wp2_with fail
  refine c1.out.mono ?_
  rintro e w1 ⟨r, rfl, hwa, b1⟩
  cases r
  case true =>
    go_wp2_with fail
    go_ret
    exact ⟨rfl, b1⟩
  replace hwa := hwa rfl
  have c2 := hmk (bpathsQ_any b (Old w1) ab cb bb ob w1 hhb (liesQ_old b1 HP.out) (old_lt w1))
  clear c1
  go_wp2_with fail
  refine c2.out.mono ?_
  rintro e w2 ⟨r, rfl, hwb, b2⟩
  have B2 := b1.trans (b2.mono b1.size)
  clear b1 b2 c2
  cases r
  case true =>
    go_wp2_with fail
    go_ret
    exact ⟨rfl, B2⟩
  replace hwb := hwb rfl
  have L2 := hmk (liesQ_old B2 HL.out)
  have P2 := hmk (liesQ_old B2 HP.out)
  have T2 := hmk (HT.out.below B2 HT.out.z)
  clear HL HP HT
  have c3 := hmk (twinq_any a (Old w2) aa ca ba oa w2 hha L2.out (old_lt w2) hwa)
  go_wp2_with fail
  refine c3.out.mono ?_
  rintro e w3 ⟨aa', ca', ba', oa', rfl, hha', hla', b3⟩
  have B3 := B2.trans (b3.mono B2.size)
  have L3' := hmk (liesQ_tw b3 hla')
  have L3 := hmk (liesQ_old b3 L2.out)
  have P3 := hmk (liesQ_old b3 P2.out)
  have T3 := hmk (T2.out.below b3 T2.out.z)
  clear c3 hla' b3 B2 L2 P2 T2
  have c4 := hmk (twinq_any b (Old w3) ab cb bb ob w3 hhb P3.out (old_lt w3) hwb)
  go_wp2_with fail
  refine c4.out.mono ?_
  rintro e w4 ⟨ab', cb', bb', ob', rfl, hhb', hlb', b4⟩
  have B4 := B3.trans (b4.mono B3.size)
  have P4' := hmk (liesQ_tw b4 hlb')
  have L4 := hmk (liesQ_old b4 L3.out)
  have L4' := hmk (liesQ_old b4 L3'.out)
  have P4 := hmk (liesQ_old b4 P3.out)
  have T4 := hmk (T3.out.below b4 T3.out.z)
  clear c4 hlb' b4 B3 L3 P3 T3 L3'
  have CO0 : Hid (∀ W, Below w4.heap.size w4 W → Calls Tryd.prog 15 #[.slice aa' a.length ca', .slice ab' b.length cb'] W (BwPost (joL tU a b) (errJ a b) (Old W) W)) := fun W h => union_any a b (Old W) aa' ca' ba' oa' ab' cb' bb' ob' W (T4.out.below h T4.out.z) hha' (liesQ_old h L4'.out) hhb' (liesQ_old h P4'.out) (old_lt W) hwa hwb
  have CR0 : Hid (∀ W, Below w4.heap.size w4 W → Calls Tryd.prog 16 #[.slice aa a.length ca, .slice ab b.length cb] W (BwPost (joL tU a b) (errJ a b) (Old W) W)) := fun W h => runion_any a b (Old W) aa ca ba oa ab cb bb ob W hha (liesQ_old h L4.out) hhb (liesQ_old h P4.out) (old_lt W) hwa hwb
  have CO1 : Hid (∀ W, Below w4.heap.size w4 W → Calls Tryd.prog 17 #[.slice aa' a.length ca', .slice ab' b.length cb'] W (BwPost (joL tM a b) (errJ a b) (Old W) W)) := fun W h => meet_any a b (Old W) aa' ca' ba' oa' ab' cb' bb' ob' W (T4.out.below h T4.out.z) hha' (liesQ_old h L4'.out) hhb' (liesQ_old h P4'.out) (old_lt W) hwa hwb
  have CR1 : Hid (∀ W, Below w4.heap.size w4 W → Calls Tryd.prog 18 #[.slice aa a.length ca, .slice ab b.length cb] W (BwPost (joL tM a b) (errJ a b) (Old W) W)) := fun W h => rmeet_any a b (Old W) aa ca ba oa ab cb bb ob W hha (liesQ_old h L4.out) hhb (liesQ_old h P4.out) (old_lt W) hwa hwb
  have CO2 : Hid (∀ W, Below w4.heap.size w4 W → Calls Tryd.prog 19 #[.slice aa' a.length ca', .slice ab' b.length cb'] W (BwPost (joL tN a b) (errJ a b) (Old W) W)) := fun W h => minus_any a b (Old W) aa' ca' ba' oa' ab' cb' bb' ob' W (T4.out.below h T4.out.z) hha' (liesQ_old h L4'.out) hhb' (liesQ_old h P4'.out) (old_lt W) hwa hwb
  have CR2 : Hid (∀ W, Below w4.heap.size w4 W → Calls Tryd.prog 20 #[.slice aa a.length ca, .slice ab b.length cb] W (BwPost (joL tN a b) (errJ a b) (Old W) W)) := fun W h => rminus_any a b (Old W) aa ca ba oa ab cb bb ob W hha (liesQ_old h L4.out) hhb (liesQ_old h P4.out) (old_lt W) hwa hwb
  have CO3 : Hid (∀ W, Below w4.heap.size w4 W → Calls Tryd.prog 21 #[.slice aa' a.length ca', .slice ab' b.length cb'] W (WiPost (wiB a b) (errJ a b) W)) := fun W h => within_any a b (Old W) aa' ca' ba' oa' ab' cb' bb' ob' W (T4.out.below h T4.out.z) hha' (liesQ_old h L4'.out) hhb' (liesQ_old h P4'.out) (old_lt W) hwa hwb
  have CR3 : Hid (∀ W, Below w4.heap.size w4 W → Calls Tryd.prog 22 #[.slice aa a.length ca, .slice ab b.length cb] W (WiPost (wiB a b) (errJ a b) W)) := fun W h => rwithin_any a b (Old W) aa ca ba oa ab cb bb ob W hha (liesQ_old h L4.out) hhb (liesQ_old h P4.out) (old_lt W) hwa hwb
  have CS1 : Hid (∀ W, Below w4.heap.size w4 W → Calls Tryd.prog 11 #[.slice aa' a.length ca', .slice aa a.length ca] W (BPost true W)) := fun W h => sspath_any a (Old W) (Old W) aa' ca' ba' oa' aa ca ba oa W hha' (liesQ_old h L4'.out) hha (liesQ_old h L4.out) (old_lt W) (old_lt W)
  have CS2 : Hid (∀ W, Below w4.heap.size w4 W → Calls Tryd.prog 11 #[.slice ab' b.length cb', .slice ab b.length cb] W (BPost true W)) := fun W h => sspath_any b (Old W) (Old W) ab' cb' bb' ob' ab cb bb ob W hhb' (liesQ_old h P4'.out) hhb (liesQ_old h P4.out) (old_lt W) (old_lt W)
  clear L4 L4' P4 P4' T4
  generalize joL tU a b = R0 at *
  generalize joL tM a b = R1 at *
  generalize joL tN a b = R2 at *
  generalize wiB a b = RW at *
  generalize errJ a b = EJ at *
  have yB : (((EJ : Nat) : Int) != (EJ : Int)) = false := by simp
  have yE : (((EJ : Nat) : Int) == (EJ : Int)) = true := by simp
  have yW : (RW == RW) = true := by simp
  have hrf : Below w4.heap.size w4 w4 := Below.refl _ _
  have co0 := hmk (CO0.out w4 hrf)
  clear CO0
  go_wp2_with fail
  refine co0.out.mono ?_
  rintro e w5 ⟨sa, sc, sb, so, rfl, hhs, hls, b5⟩
  have S5 := hmk (liesQ_tw b5 hls)
  have B5 := hrf.trans (b5.mono hrf.size)
  have cr0 := hmk (CR0.out w5 B5)
  clear hls co0 CR0 hrf b5
  go_wp2_with fail
  refine cr0.out.mono ?_
  rintro e w6 ⟨ta, tc, tb', to', rfl, hht, hlt, b6⟩
  have B6 := B5.trans (b6.mono B5.size)
  have cs0 := hmk (sspath_any R0 (Old w6) (Old w6) sa sc sb so ta tc tb' to' w6 hhs (liesQ_old b6 S5.out) hht (liesQ_tw b6 hlt) (old_lt w6) (old_lt w6))
  clear cr0 S5 hlt B5 b6 hhs hht
  go_wp2_with fail
  refine cs0.out.mono ?_
  rintro e w7 ⟨rfl, b7⟩
  have B7 := B6.trans (b7.mono B6.size)
  clear cs0 B6 b7
  have co1 := hmk (CO1.out w7 B7)
  clear CO1
  go_wp2_with fail
  refine co1.out.mono ?_
  rintro e w8 ⟨sa, sc, sb, so, rfl, hhs, hls, b8⟩
  have S8 := hmk (liesQ_tw b8 hls)
  have B8 := B7.trans (b8.mono B7.size)
  have cr1 := hmk (CR1.out w8 B8)
  clear hls co1 CR1 B7 b8
  go_wp2_with fail
  refine cr1.out.mono ?_
  rintro e w9 ⟨ta, tc, tb', to', rfl, hht, hlt, b9⟩
  have B9 := B8.trans (b9.mono B8.size)
  have cs1 := hmk (sspath_any R1 (Old w9) (Old w9) sa sc sb so ta tc tb' to' w9 hhs (liesQ_old b9 S8.out) hht (liesQ_tw b9 hlt) (old_lt w9) (old_lt w9))
  clear cr1 S8 hlt B8 b9 hhs hht
  go_wp2_with fail
  refine cs1.out.mono ?_
  rintro e w10 ⟨rfl, b10⟩
  have B10 := B9.trans (b10.mono B9.size)
  clear cs1 B9 b10
  have co2 := hmk (CO2.out w10 B10)
  clear CO2
  go_wp2_with fail
  refine co2.out.mono ?_
  rintro e w11 ⟨sa, sc, sb, so, rfl, hhs, hls, b11⟩
  have S11 := hmk (liesQ_tw b11 hls)
  have B11 := B10.trans (b11.mono B10.size)
  have cr2 := hmk (CR2.out w11 B11)
  clear hls co2 CR2 B10 b11
  go_wp2_with fail
  refine cr2.out.mono ?_
  rintro e w12 ⟨ta, tc, tb', to', rfl, hht, hlt, b12⟩
  have B12 := B11.trans (b12.mono B11.size)
  have cs2 := hmk (sspath_any R2 (Old w12) (Old w12) sa sc sb so ta tc tb' to' w12 hhs (liesQ_old b12 S11.out) hht (liesQ_tw b12 hlt) (old_lt w12) (old_lt w12))
  clear cr2 S11 hlt B11 b12 hhs hht
  go_wp2_with fail
  refine cs2.out.mono ?_
  rintro e w13 ⟨rfl, b13⟩
  have B13 := B12.trans (b13.mono B12.size)
  clear cs2 B12 b13
  have wi := hmk (CO3.out w13 B13)
  clear CO3
  go_wp2_with fail
  refine wi.out.mono ?_
  rintro e w14 ⟨rfl, b14⟩
  have B14 := B13.trans (b14.mono B13.size)
  clear wi B13 b14
  have wr := hmk (CR3.out w14 B14)
  clear CR3
  go_wp2_with fail
  refine wr.out.mono ?_
  rintro e w15 ⟨rfl, b15⟩
  have B15 := B14.trans (b15.mono B14.size)
  clear wr B14 b15
  have s1 := hmk (CS1.out w15 B15)
  clear CS1
  go_wp2_with fail
  refine s1.out.mono ?_
  rintro e w16 ⟨rfl, b16⟩
  have B16 := B15.trans (b16.mono B15.size)
  clear s1 B15 b16
  have s2 := hmk (CS2.out w16 B16)
  clear CS2
  go_wp2_with fail
  refine s2.out.mono ?_
  rintro e w17 ⟨rfl, b17⟩
  have B17 := B16.trans (b17.mono B16.size)
  clear s2 B16 b17
  go_wp2_with fail
  go_ret
  exact ⟨rfl, B4.trans (B17.mono B4.size)⟩
end Go.Proofs.YtfbmmilphcnolaaDoor
