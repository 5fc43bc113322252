import Derived.Test.YtihcggepeadklaaGreatDoorAlvA
import Derived.Deep.DeepCutAuto
/- PathOrder: the law's own walk. -/
set_option linter.unusedSimpArgs false
set_option linter.unusedVariables false
namespace Go.Proofs.YtihcggepeadklaaGreatDoor
open Go.RowKit Go.Lib
theorem headed_take {aq : Option Addr} {n m cq bq oq : Nat} (h : Headed aq n cq bq oq) (hm : m ≤ n) : Headed aq m cq bq oq :=
  ⟨Nat.le_trans hm h.le, h.max, h.at_.imp (fun e => by omega) id, h.nil⟩
set_option maxHeartbeats 16000000 in
set_option maxRecDepth 100000 in
theorem order_walk (p q r : List El) (ap : Option Addr) (cp bp op : Nat) (aq : Option Addr) (cq bq oq : Nat) (ar : Option Addr) (cr br or : Nat) (w : World) (td : Td w) (hap : Headed ap p.length cp bp op) (hp : liesP w (Old w) p bp op) (haq : Headed aq q.length cq bq oq) (hq : liesP w (Old w) q bq oq) (har : Headed ar r.length cr br or) (hr : liesP w (Old w) r br or) :
    Calls Tryz.prog 4 #[.slice ap p.length cp, .slice aq q.length cq, .slice ar r.length cr] w (BPost true w) := by
  have HP := hmk hp
  have HQ := hmk hq
  have HR := hmk hr
  have HT := hmk td
  clear hp hq hr td
  have KP : Hid (∀ W, Below w.heap.size w W → liesP W (Old w) p bp op ∧ liesP W (Old w) q bq oq ∧ liesP W (Old w) r br or ∧ (∀ x, Old w x → x < W.heap.size) ∧ Td W) := fun W h =>
    ⟨liesP_keep (fun x hx => h.block x hx) (fun _ h => h) HP.out, liesP_keep (fun x hx => h.block x hx) (fun _ h => h) HQ.out, liesP_keep (fun x hx => h.block x hx) (fun _ h => h) HR.out, fun x (hx : x < w.heap.size) => Nat.lt_of_lt_of_le hx h.size, HT.out.below h HT.out.z h.size⟩
  have hnp : p.length ≤ 9223372036854775807 := Nat.le_trans hap.le hap.max
  have hnq : q.length ≤ 9223372036854775807 := Nat.le_trans haq.le haq.max
  have B0 := Below.refl w.heap.size w
  have C7p : Hid (∀ W, Below w.heap.size w W → Calls Tryz.prog 7 #[.slice ap p.length cp] W (PbPost p W)) := fun W h => bpath_any p (Old w) ap cp bp op W hap (KP.out W h).1 (KP.out W h).2.2.2.1
  have C7q : Hid (∀ W, Below w.heap.size w W → Calls Tryz.prog 7 #[.slice aq q.length cq] W (PbPost q W)) := fun W h => bpath_any q (Old w) aq cq bq oq W haq (KP.out W h).2.1 (KP.out W h).2.2.2.1
  have C7r : Hid (∀ W, Below w.heap.size w W → Calls Tryz.prog 7 #[.slice ar r.length cr] W (PbPost r W)) := fun W h => bpath_any r (Old w) ar cr br or W har (KP.out W h).2.2.1 (KP.out W h).2.2.2.1
  have C8 : Hid (∀ W, Below w.heap.size w W → Calls Tryz.prog 8 #[] W (BPost true W)) := fun W h => alive_any W (KP.out W h).2.2.2.2
  go_enter Tryz.func4, Tryz.ntmps4
  go_wp2_with fail
  refine (C7p.out _ B0).mono ?_
  rintro e w1 ⟨r1, rfl, hwp, b1⟩
  have B1 := B0.trans (b1.mono B0.size)
  clear b1 B0
  cases r1
  case true =>
    have HB := hmk B1
    go_wp2_with fail
    go_ret
    exact ⟨rfl, HB.out⟩
  replace hwp := hwp rfl
  go_wp2_with fail
  refine (C7q.out _ B1).mono ?_
  rintro e w2 ⟨r2, rfl, hwq, b2⟩
  have B2 := B1.trans (b2.mono B1.size)
  clear b2 B1
  cases r2
  case true =>
    have HB := hmk B2
    go_wp2_with fail
    go_ret
    exact ⟨rfl, HB.out⟩
  replace hwq := hwq rfl
  go_wp2_with fail
  refine (C7r.out _ B2).mono ?_
  rintro e w3 ⟨r3, rfl, hwr, b3⟩
  have B3 := B2.trans (b3.mono B2.size)
  clear b3 B2
  cases r3
  case true =>
    have HB := hmk B3
    go_wp2_with fail
    go_ret
    exact ⟨rfl, HB.out⟩
  replace hwr := hwr rfl
  go_wp2_with fail
  have Dpq : Hid (∀ W, Below w.heap.size w W → Calls Tryz.prog 13 #[.slice ap p.length cp, .slice aq q.length cq] W (JPost (cmpP p q) W)) := fun W h => cmpP_any p q (Old w) (Old w) ap cp bp op aq cq bq oq W (KP.out W h).2.2.2.2.tb hap (KP.out W h).1 haq (KP.out W h).2.1 (KP.out W h).2.2.2.1 (KP.out W h).2.2.2.1 hwp hwq
  have Dqr : Hid (∀ W, Below w.heap.size w W → Calls Tryz.prog 13 #[.slice aq q.length cq, .slice ar r.length cr] W (JPost (cmpP q r) W)) := fun W h => cmpP_any q r (Old w) (Old w) aq cq bq oq ar cr br or W (KP.out W h).2.2.2.2.tb haq (KP.out W h).2.1 har (KP.out W h).2.2.1 (KP.out W h).2.2.2.1 (KP.out W h).2.2.2.1 hwq hwr
  have Dpr : Hid (∀ W, Below w.heap.size w W → Calls Tryz.prog 13 #[.slice ap p.length cp, .slice ar r.length cr] W (JPost (cmpP p r) W)) := fun W h => cmpP_any p r (Old w) (Old w) ap cp bp op ar cr br or W (KP.out W h).2.2.2.2.tb hap (KP.out W h).1 har (KP.out W h).2.2.1 (KP.out W h).2.2.2.1 (KP.out W h).2.2.2.1 hwp hwr
  have Dpp : Hid (∀ W, Below w.heap.size w W → Calls Tryz.prog 13 #[.slice ap p.length cp, .slice ap p.length cp] W (JPost (cmpP p p) W)) := fun W h => cmpP_any p p (Old w) (Old w) ap cp bp op ap cp bp op W (KP.out W h).2.2.2.2.tb hap (KP.out W h).1 hap (KP.out W h).1 (KP.out W h).2.2.2.1 (KP.out W h).2.2.2.1 hwp hwp
  have Dqp : Hid (∀ W, Below w.heap.size w W → Calls Tryz.prog 13 #[.slice aq q.length cq, .slice ap p.length cp] W (JPost (cmpP q p) W)) := fun W h => cmpP_any q p (Old w) (Old w) aq cq bq oq ap cp bp op W (KP.out W h).2.2.2.2.tb haq (KP.out W h).2.1 hap (KP.out W h).1 (KP.out W h).2.2.2.1 (KP.out W h).2.2.2.1 hwq hwp
  have Vpq : Hid (∀ W, Below w.heap.size w W → Calls Tryz.prog 14 #[.slice ap p.length cp, .slice aq q.length cq] W (BPost (abvP p q) W)) := fun W h => abvP_any p q (Old w) (Old w) ap cp bp op aq cq bq oq W (KP.out W h).2.2.2.2.tb hap (KP.out W h).1 haq (KP.out W h).2.1 (KP.out W h).2.2.2.1 (KP.out W h).2.2.2.1 hwp hwq
  have Vpr : Hid (∀ W, Below w.heap.size w W → Calls Tryz.prog 14 #[.slice ap p.length cp, .slice ar r.length cr] W (BPost (abvP p r) W)) := fun W h => abvP_any p r (Old w) (Old w) ap cp bp op ar cr br or W (KP.out W h).2.2.2.2.tb hap (KP.out W h).1 har (KP.out W h).2.2.1 (KP.out W h).2.2.2.1 (KP.out W h).2.2.2.1 hwp hwr
  have Ep : Hid (∀ W, Below w.heap.size w W → Calls Tryz.prog 10 #[.slice ap p.length cp] W (NPost (errP p) W)) := fun W h => pcheck_any p (Old w) ap cp bp op W (KP.out W h).2.2.2.2.tb hap (KP.out W h).1 (KP.out W h).2.2.2.1 hwp
  have Eq : Hid (∀ W, Below w.heap.size w W → Calls Tryz.prog 10 #[.slice aq q.length cq] W (NPost (errP q) W)) := fun W h => pcheck_any q (Old w) aq cq bq oq W (KP.out W h).2.2.2.2.tb haq (KP.out W h).2.1 (KP.out W h).2.2.2.1 hwq
  have Er : Hid (∀ W, Below w.heap.size w W → Calls Tryz.prog 10 #[.slice ar r.length cr] W (NPost (errP r) W)) := fun W h => pcheck_any r (Old w) ar cr br or W (KP.out W h).2.2.2.2.tb har (KP.out W h).2.2.1 (KP.out W h).2.2.2.1 hwr
  have S12 : Hid (∀ W, Below w.heap.size w W → pathB p = true → pathB q = true → ∀ E : Bool, (E = true ↔ p = q) → Calls Tryz.prog 12 #[.slice ap p.length cp, .slice aq q.length cq] W (BPost E W)) := fun W h g1 g2 E hE => pcmp_any p q g1 g2 (Old w) (Old w) ap cp bp op aq cq bq oq W hap (KP.out W h).1 haq (KP.out W h).2.1 (KP.out W h).2.2.2.1 (KP.out W h).2.2.2.1 E hE
  have S13 : Hid (∀ W, Below w.heap.size w W → pathB p = true → pathB q = true → p.length ≤ q.length → ∀ E : Bool, (E = true ↔ p = q.take p.length) → Calls Tryz.prog 12 #[.slice ap p.length cp, .slice aq p.length cq] W (BPost E W)) := fun W h g1 g2 hl E hE => by
    have htl : (q.take p.length).length = p.length := by rw [List.length_take]; omega
    have c := pcmp_any p (q.take p.length) g1 (pathB_take g2 _) (Old w) (Old w) ap cp bp op aq cq bq oq W hap (KP.out W h).1 (by rw [htl]; exact headed_take haq hl) (liesP_sub (KP.out W h).2.1 _) (KP.out W h).2.2.2.1 (KP.out W h).2.2.2.1 E hE
    rw [htl] at c
    exact c
  have hcq := haq.nil
  have hlq := haq.le
  clear C7p C7q C7r hwp hwq hwr KP HP HQ HR HT
  refine (C8.out _ B3).mono ?_
  rintro e w4 ⟨rfl, b4⟩
  have B4 := B3.trans (b4.mono B3.size)
  clear b4 B3 C8
  go_wp2_with fail
  refine (Dpq.out _ B4).mono ?_
  rintro e w5 ⟨rfl, b5⟩
  have B5 := B4.trans (b5.mono B4.size)
  clear b5 B4
  go_wp2_with fail
  refine (Dqr.out _ B5).mono ?_
  rintro e w6 ⟨rfl, b6⟩
  have B6 := B5.trans (b6.mono B5.size)
  clear b6 B5
  go_wp2_with fail
  refine (Dpr.out _ B6).mono ?_
  rintro e w7 ⟨rfl, b7⟩
  have B7 := B6.trans (b7.mono B6.size)
  clear b7 B6
  have HA : Hid (cmpP p q = cmpP p q) := rfl
  cases hgp : pathB p with
  | false =>
    have e1 : errP p = 90 := errP_no hgp
    have e2 : cmpP p q = 0 := cmpP_no (by rw [hgp]; simp)
    have e3 : abvP p q = false := abvP_no (by rw [hgp]; simp)
    have e4 : cmpP q p = 0 := cmpP_no (by rw [hgp]; simp)
    rw [e1] at Ep
    rw [e3] at Vpq
    rw [e4] at Dqp
    rw [e2]
    clear e1 e2 e3 e4 HA hgp
    go_wp2_with fail
    refine (Ep.out _ B7).mono ?_
    rintro e w8 ⟨rfl, b8⟩
    have B8 := B7.trans (b8.mono B7.size)
    clear b8 B7
    go_wp2_with fail
    refine (Vpq.out _ B8).mono ?_
    rintro e w9 ⟨rfl, b9⟩
    have B9 := B8.trans (b9.mono B8.size)
    clear b9 B8
    go_wp2_with fail
    refine (Dqp.out _ B9).mono ?_
    rintro e w10 ⟨rfl, b10⟩
    have B10 := B9.trans (b10.mono B9.size)
    clear b10 B9
    have HB := hmk B10
    go_wp2_with fail
    go_ret
    exact ⟨rfl, HB.out⟩
  | true =>
  have e1 : errP p = 0 := errP_yes hgp
  rw [e1] at Ep
  clear e1
  go_wp2_with fail
  refine (Ep.out _ B7).mono ?_
  rintro e w8 ⟨rfl, b8⟩
  have B8 := B7.trans (b8.mono B7.size)
  clear b8 B7
  cases hgq : pathB q with
  | false =>
    have e1 : errP q = 90 := errP_no hgq
    have e2 : cmpP p q = 0 := cmpP_no (by rw [hgq]; simp)
    have e3 : abvP p q = false := abvP_no (by rw [hgq]; simp)
    have e4 : cmpP q p = 0 := cmpP_no (by rw [hgq]; simp)
    rw [e1] at Eq
    rw [e3] at Vpq
    rw [e4] at Dqp
    rw [e2]
    clear e1 e2 e3 e4 HA hgq
    go_wp2_with fail
    refine (Eq.out _ B8).mono ?_
    rintro e w9 ⟨rfl, b9⟩
    have B9 := B8.trans (b9.mono B8.size)
    clear b9 B8
    go_wp2_with fail
    refine (Vpq.out _ B9).mono ?_
    rintro e w10 ⟨rfl, b10⟩
    have B10 := B9.trans (b10.mono B9.size)
    clear b10 B9
    go_wp2_with fail
    refine (Dqp.out _ B10).mono ?_
    rintro e w11 ⟨rfl, b11⟩
    have B11 := B10.trans (b11.mono B10.size)
    clear b11 B10
    have HB := hmk B11
    go_wp2_with fail
    go_ret
    exact ⟨rfl, HB.out⟩
  | true =>
  have e1 : errP q = 0 := errP_yes hgq
  rw [e1] at Eq
  clear e1 HA
  obtain ⟨f1, f2, f3, f4, f5, f6⟩ := or2_of hgp hgq
  rw [f1] at Dpp
  rw [f2] at Dqp
  have HTR := hmk (fun hgr => @or3_tri p q r hgp hgq hgr)
  have HMI := hmk (fun hgr => @or3_mid p q r hgp hgq hgr)
  have HLE := hmk (abv_le hgp hgq)
  have HGP := hmk hgp
  have HGQ := hmk hgq
  have HF6 := hmk f6
  have SE : Hid (∀ W, Below w.heap.size w W → Calls Tryz.prog 12 #[.slice ap p.length cp, .slice aq q.length cq] W (BPost (cmpP p q == 0) W)) := fun W h => S12.out W h hgp hgq _ (by rw [beq_iff_eq]; exact f3)
  have HC0 : Hid (pathB r = false → cmpP q r = 0 ∧ cmpP p r = 0) := fun h => ⟨cmpP_no (by rw [h]; simp), cmpP_no (by rw [h]; simp)⟩
  clear f1 f2 f3 f6 hgp hgq S12
  generalize cmpP p q = A at *
  generalize cmpP q r = Bq at *
  generalize cmpP p r = C at *
  generalize abvP p q = X at *
  generalize abvP p r = Y at *
  have y1 : (-A != -A) = false := by simp
  have y2 : ((A == 0) != (A == 0)) = false := by simp
  go_wp2_with fail
  refine (Eq.out _ B8).mono ?_
  rintro e w9 ⟨rfl, b9⟩
  have B9 := B8.trans (b9.mono B8.size)
  clear b9 B8
  go_wp2_with fail
  refine (Dpp.out _ B9).mono ?_
  rintro e w10 ⟨rfl, b10⟩
  have B10 := B9.trans (b10.mono B9.size)
  clear b10 B9
  go_wp2_with fail
  refine (Dqp.out _ B10).mono ?_
  rintro e w11 ⟨rfl, b11⟩
  have B11 := B10.trans (b11.mono B10.size)
  clear b11 B10
  go_wp2_with fail
  refine (SE.out _ B11).mono ?_
  rintro e w12 ⟨rfl, b12⟩
  have B12 := B11.trans (b12.mono B11.size)
  clear b12 B11
  go_wp2_with fail
  refine (Vpq.out _ B12).mono ?_
  rintro e w13 ⟨rfl, b13⟩
  have B13 := B12.trans (b13.mono B12.size)
  clear b13 B12
  go_upto_region 12 with fail
  go_cut [0, 1, 11, 111] (fun e0 e1 e11 e111 wx => e0 = .slice ap p.length cp ∧ e1 = .slice aq q.length cq ∧ e11 = .bool X ∧ e111 = .bool false ∧ Below w.heap.size w wx)
  case first =>
    cases hX : X with
    | true =>
      have hg0 := HLE.out hX
      have hg1 : decide (0 < A) = false := decide_eq_false (by omega)
      obtain ⟨hl, he⟩ := HF6.out.1 hX
      have c := hmk (S13.out _ B13 HGP.out HGQ.out hl true (by simp [← he]))
      have y3 : (p.length : Int) ≤ q.length := by omega
      have y4 : min (p.length : Int) (q.length : Int) = p.length := by omega
      have y5 : (p.length : Int) ≤ cq := by omega
      have hBn := hmk B13
      have HX := hmk hX
      clear hX he hl
      cases aq with
      | none =>
        have hc0 : cq = 0 := hcq rfl
        have h0 : p.length = 0 := by omega
        have h1 : q.length = 0 := by omega
        subst hc0
        have H0 := hmk h0
        have H1 := hmk h1
        rw [h0] at c y3 y4 y5 ⊢
        rw [h1] at y3 y4 ⊢
        go_wp2_with fail
        refine c.out.mono ?_
        rintro e wz ⟨rfl, bz⟩
        go_wp2_with fail
        go_meet
        case rel => exact ⟨by rw [H0.out], by rw [H1.out], by rw [HX.out], by first | rfl | rw [hg1], hBn.out.trans (bz.mono hBn.out.size)⟩
      | some ad =>
        go_wp2_with fail
        refine c.out.mono ?_
        rintro e wz ⟨rfl, bz⟩
        go_wp2_with fail
        go_meet
        case rel => exact ⟨rfl, rfl, by rw [HX.out], by first | rfl | rw [hg1], hBn.out.trans (bz.mono hBn.out.size)⟩
    | false =>
      by_cases hl : p.length ≤ q.length
      · have he : ¬ p = q.take p.length := fun e => by have := HF6.out.2 ⟨hl, e⟩; rw [hX] at this; cases this
        have c := hmk (S13.out _ B13 HGP.out HGQ.out hl false (by simp [he]))
        have y3 : (p.length : Int) ≤ q.length := by omega
        have y4 : min (p.length : Int) (q.length : Int) = p.length := by omega
        have y5 : (p.length : Int) ≤ cq := by omega
        have hBn := hmk B13
        have HX := hmk hX
        clear hX he hl
        cases aq with
        | none =>
          have hc0 : cq = 0 := hcq rfl
          have h0 : p.length = 0 := by omega
          have h1 : q.length = 0 := by omega
          subst hc0
          have H0 := hmk h0
          have H1 := hmk h1
          rw [h0] at c y3 y4 y5 ⊢
          rw [h1] at y3 y4 ⊢
          go_wp2_with fail
          refine c.out.mono ?_
          rintro e wz ⟨rfl, bz⟩
          go_wp2_with fail
          go_meet
          case rel => exact ⟨by rw [H0.out], by rw [H1.out], by rw [HX.out], rfl, hBn.out.trans (bz.mono hBn.out.size)⟩
        | some ad =>
          go_wp2_with fail
          refine c.out.mono ?_
          rintro e wz ⟨rfl, bz⟩
          go_wp2_with fail
          go_meet
          case rel => exact ⟨rfl, rfl, by rw [HX.out], rfl, hBn.out.trans (bz.mono hBn.out.size)⟩
      · have y3 : ¬ (p.length : Int) ≤ q.length := by omega
        have hBn := hmk B13
        have HX := hmk hX
        clear hX
        go_wp2_with fail
        go_meet
        case rel => exact ⟨rfl, rfl, by rw [HX.out], rfl, hBn.out⟩
  case rest =>
    obtain ⟨rfl, rfl, rfl, rfl, BC⟩ := hcut
    clear HF6 HLE S13
    cases hgr : pathB r with
    | false =>
      have e1 : errP r = 90 := errP_no hgr
      obtain ⟨h1, h2⟩ := HC0.out hgr
      subst h1
      subst h2
      rw [e1] at Er
      clear e1 hgr HC0 HTR HMI
      go_wp2_with fail
      refine (Er.out _ BC).mono ?_
      rintro e wy ⟨rfl, by_⟩
      have HB := hmk (BC.trans (by_.mono BC.size))
      go_wp2_with fail
      go_ret
      exact ⟨rfl, HB.out⟩
    | true =>
    have e1 : errP r = 0 := errP_yes hgr
    rw [e1] at Er
    have HTR2 := hmk (HTR.out hgr)
    have HMI2 := hmk (HMI.out hgr)
    clear e1 hgr HC0 HTR HMI
    go_wp2_with fail
    refine (Er.out _ BC).mono ?_
    rintro e wy ⟨rfl, by_⟩
    have BY := BC.trans (by_.mono BC.size)
    clear by_ BC
    by_cases hA : A ≤ 0
    rotate_left
    · go_wp2_with fail
      refine (Vpr.out _ BY).mono ?_
      rintro e wz ⟨rfl, bz⟩
      have HB := hmk (BY.trans (bz.mono BY.size))
      cases hY : Y with
      | false =>
        clear hY
        go_wp2_with fail
        go_ret
        exact ⟨rfl, HB.out⟩
      | true =>
        skip
        clear hY
        go_wp2_with fail
        go_ret
        exact ⟨rfl, HB.out⟩
    by_cases hB : Bq ≤ 0
    rotate_left
    · go_wp2_with fail
      refine (Vpr.out _ BY).mono ?_
      rintro e wz ⟨rfl, bz⟩
      have HB := hmk (BY.trans (bz.mono BY.size))
      cases hY : Y with
      | false =>
        clear hY
        go_wp2_with fail
        go_ret
        exact ⟨rfl, HB.out⟩
      | true =>
        skip
        clear hY
        go_wp2_with fail
        go_ret
        exact ⟨rfl, HB.out⟩
    obtain ⟨hc, hz⟩ := HTR2.out hA hB
    by_cases hC : C = 0
    · obtain ⟨h1, h2⟩ := hz hC
      subst hC
      subst h1
      subst h2
      go_wp2_with fail
      refine (Vpr.out _ BY).mono ?_
      rintro e wz ⟨rfl, bz⟩
      have HB := hmk (BY.trans (bz.mono BY.size))
      cases hY : Y with
      | false =>
        clear hY
        go_wp2_with fail
        go_ret
        exact ⟨rfl, HB.out⟩
      | true =>
        obtain rfl : X = true := HMI2.out hY hA hB
        clear hY
        go_wp2_with fail
        go_ret
        exact ⟨rfl, HB.out⟩
    · have yC : (C == 0) = false := beq_eq_false_iff_ne.2 hC
      go_wp2_with fail
      refine (Vpr.out _ BY).mono ?_
      rintro e wz ⟨rfl, bz⟩
      have HB := hmk (BY.trans (bz.mono BY.size))
      cases hY : Y with
      | false =>
        clear hY
        go_wp2_with fail
        go_ret
        exact ⟨rfl, HB.out⟩
      | true =>
        obtain rfl : X = true := HMI2.out hY hA hB
        clear hY
        go_wp2_with fail
        go_ret
        exact ⟨rfl, HB.out⟩
end Go.Proofs.YtihcggepeadklaaGreatDoor
