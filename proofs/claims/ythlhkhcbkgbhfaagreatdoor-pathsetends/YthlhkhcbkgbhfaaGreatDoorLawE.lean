import Derived.Test.YthlhkhcbkgbhfaaGreatDoorAmgL
import Derived.Test.YthlhkhcbkgbhfaaGreatDoorAwkL
/- PathsetEnds: the law's own walk. -/
set_option linter.unusedSimpArgs false
set_option linter.unusedVariables false
namespace Go.Proofs.YthlhkhcbkgbhfaaGreatDoor
open Go Go.RowKit Go.Lib
theorem setC_ok : ∀ (l : List (List El)) (pv : Option (List El)), (∀ p ∈ l, pathB p = true) → l.Pairwise (fun a b => lexL oeE a b < 0) → (∀ q, pv = some q → ∀ p ∈ l, lexL oeE q p < 0) → setC pv l = 0
  | [], pv, _, _, _ => rfl
  | p :: t, pv, h1, h2, h3 => by
    rw [List.pairwise_cons] at h2
    have hok : okPv pv p = true := by
      cases pv with
      | none => rfl
      | some q => exact decide_eq_true (h3 q rfl p List.mem_cons_self)
    rw [setC, if_pos (h1 p List.mem_cons_self), if_pos hok]
    exact setC_ok t (some p) (fun q hq => h1 q (List.mem_cons_of_mem _ hq)) h2.2 (fun q hq x hx => by cases hq; exact h2.1 x hx)
def GP (q : List El) : Prop := pathB q = true ∧ wtP q ≤ 2147483647
def ovB (l : List (List El)) (x : List El) (i k : Nat) : Bool := decide (∃ t, ∃ h : t < l.length, t < k ∧ t ≠ i ∧ cabP x l[t] = true)
theorem ov_no {l : List (List El)} {x : List El} {i k : Nat} (hk : k < l.length) (h : ¬ (k ≠ i ∧ cabP x l[k] = true)) : ovB l x i (k + 1) = ovB l x i k := by
  rw [ovB, ovB]
  congr 1
  refine propext ⟨fun ⟨t, a, b, c, d⟩ => ⟨t, a, ?_, c, d⟩, fun ⟨t, a, b, c, d⟩ => ⟨t, a, by omega, c, d⟩⟩
  have : t ≠ k := fun e => h (by subst e; exact ⟨c, d⟩)
  omega
theorem ov_yes {l : List (List El)} {x : List El} {i k : Nat} (hk : k < l.length) (h : k ≠ i) (hc : cabP x l[k] = true) : ovB l x i (k + 1) = true := by
  rw [ovB]; exact decide_eq_true ⟨k, hk, by omega, h, hc⟩
theorem ov_end {l : List (List El)} (hr : l.Pairwise (fun a b => lexL oeE a b < 0)) {i : Nat} (hi : i < l.length) : ovB l l[i] i l.length = !endB l l[i] := by
  rw [over_end hr hi, Bool.not_not, ovB]
  congr 1
  exact propext ⟨fun ⟨t, a, b, c, d⟩ => ⟨t, a, c, d⟩, fun ⟨t, a, c, d⟩ => ⟨t, a, a, c, d⟩⟩
/-- where the first below it stands -/
def Fst (l : List (List El)) (p : List El) (i : Nat) (f : Int) : Prop := (f = -1 ∧ ∀ k, (hk : k < l.length) → k < i → isB p l[k] = false) ∨ (∃ F : Nat, f = (F : Int) ∧ F < i ∧ (∃ h : F < l.length, isB p l[F] = true) ∧ ∀ k, (hk : k < l.length) → k < F → isB p l[k] = false)
theorem fst_no {l : List (List El)} {p : List El} {i : Nat} {f : Int} (hi : i < l.length) (h : Fst l p i f) (hb : isB p l[i] = false) : Fst l p (i + 1) f := by
  rcases h with ⟨h1, h2⟩ | ⟨F, h1, h2, h3, h4⟩
  · refine .inl ⟨h1, fun k hk hki => ?_⟩
    by_cases e : k = i
    · subst e; exact hb
    · exact h2 k hk (by omega)
  · exact .inr ⟨F, h1, by omega, h3, h4⟩
theorem fst_new {l : List (List El)} {p : List El} {i : Nat} (hi : i < l.length) (h : Fst l p i (-1)) (hb : isB p l[i] = true) : Fst l p (i + 1) (i : Int) ∧ ∀ k, (hk : k < l.length) → k < i → isB p l[k] = false := by
  rcases h with ⟨h1, h2⟩ | ⟨F, h1, _⟩
  · exact ⟨.inr ⟨i, rfl, by omega, ⟨hi, hb⟩, h2⟩, h2⟩
  · omega
set_option maxHeartbeats 16000000 in
set_option maxRecDepth 100000 in
theorem ends_walk (a : List (List El)) (p : List El) (aa : Option Addr) (ca ba oa : Nat) (ap : Option Addr) (cp bp op : Nat) (w : World) (tb : Tb w) (hha : Headed aa a.length ca ba oa) (hla : liesQ w (Old w) a ba oa) (hhp : Headed ap p.length cp bp op) (hlp : liesP w (Old w) p bp op) :
    Calls Tryz.prog 4 #[.slice aa a.length ca, .slice ap p.length cp] w (BPost true w) := by
  have HA := hmk hla
  have HP := hmk hlp
  have HT := hmk tb
  clear hla hlp tb
  have c1 := hmk (bpathsQ_any a (Old w) aa ca ba oa w hha HA.out (old_lt w))
  go_enter Tryz.func4, Tryz.ntmps4
  go_wp2_with fail
  refine c1.out.mono ?_
  rintro e w1 ⟨r, rfl, hwa, b1⟩
  cases r
  case true =>
    go_wp2_with fail
    go_ret
    exact ⟨rfl, b1⟩
  replace hwa := hwa rfl
  have c2 := hmk (bpath_any p (Old w1) ap cp bp op w1 hhp (liesP_old b1 HP.out) (old_lt w1))
  clear c1
  go_wp2_with fail
  refine c2.out.mono ?_
  rintro e w2 ⟨r, rfl, hwp, b2⟩
  have B2 := b1.trans (b2.mono b1.size)
  clear b1 b2 c2
  cases r
  case true =>
    go_wp2_with fail
    go_ret
    exact ⟨rfl, B2⟩
  replace hwp := hwp rfl
  have T2 := hmk (HT.out.below B2 HT.out.z)
  have c3 := hmk (awake_any w2 T2.out)
  go_wp2_with fail
  refine c3.out.mono ?_
  rintro e w3 ⟨rfl, b3⟩
  have B3 := B2.trans (b3.mono B2.size)
  have A3 := hmk (liesQ_old B3 HA.out)
  clear c3 b3 B2 T2 HA
  have c4 := hmk (twinq_any a (Old w3) aa ca ba oa w3 hha A3.out (old_lt w3) hwa)
  go_wp2_with fail
  refine c4.out.mono ?_
  rintro e w4 ⟨aa', ca', ba', oa', rfl, hha', hla', b4⟩
  have B4 := B3.trans (b4.mono B3.size)
  have A4 := hmk (liesQ_tw b4 hla')
  have T4 := hmk (HT.out.below B4 HT.out.z)
  clear c4 hla' b4 B3 A3
  have c5 := hmk (of_any a (Old w4) aa' ca' ba' oa' w4 T4.out hha' A4.out (old_lt w4) hwa)
  go_wp2_with fail
  refine c5.out.mono ?_
  rintro e w5 ⟨b5, h5⟩
  have B5 := B4.trans (b5.mono B4.size)
  clear c5 A4 T4
  rcases h5 with ⟨hall, l, sa, sc, sb, so, hRs, rfl, hds, hls⟩ | ⟨hno, rfl⟩
  rotate_left
  · go_wp2_with fail
    go_ret
    exact ⟨rfl, B5⟩
  have L5 : Hid (liesQ w5 (Old w5) l sb so) := liesQ_keep (fun _ _ => rfl) (fun x hx => hx.2) hls
  have HLG : Hid (∀ q ∈ l, pathB q = true) := fun q hq => hall q ((hRs.2 q).1 hq)
  have HR : Hid (l.Pairwise (fun a b => lexL oeE a b < 0)) := hRs.1
  have hwl : l.length + wtQ l ≤ 2147483647 := Nat.le_trans (set_wt l a hRs.1 (fun q hq => (hRs.2 q).1 hq)) hwa
  have hES : errS l = 0 := setC_ok l none HLG.out HR.out (fun q h => by cases h)
  clear hall hRs hls b5
  have c6 := hmk (pcheck_any p (Old w5) ap cp bp op w5 (HT.out.below B5 HT.out.z) hhp (liesP_old B5 HP.out) (old_lt w5) hwp)
  cases hpb : pathB p with
  | false =>
    rw [errP_no hpb] at c6
    go_wp2_with fail
    refine c6.out.mono ?_
    rintro e w6 ⟨rfl, b6⟩
    go_wp2_with fail
    go_ret
    exact ⟨rfl, B5.trans (b6.mono B5.size)⟩
  | true =>
  rw [errP_yes hpb] at c6
  have hEB : errB l p = 0 := by rw [errB, if_pos hES, errP_yes hpb]
  have hBL : belL l p = l.filter (isB p) := by rw [belL, if_pos hEB]
  have hEL : endL l = l.filter (endB l) := by rw [endL, if_pos hES]
  go_wp2_with fail
  refine c6.out.mono ?_
  rintro e w6 ⟨rfl, b6⟩
  have B6 := B5.trans (b6.mono B5.size)
  have L6 := hmk (liesQ_old b6 L5.out)
  have c7 := hmk (below_any l p (Old w6) sa sc sb so ap cp bp op w6 (HT.out.below B6 HT.out.z) hds L6.out hhp (liesP_old B6 HP.out) (old_lt w6) hwl hwp)
  rw [hBL, hEB] at c7
  clear c6 L5 b6 B5
  go_wp2_with fail
  refine c7.out.mono ?_
  rintro e w7 ⟨ua, uc, ub, uo, rfl, hdu, hlu, b7⟩
  have B7 := B6.trans (b7.mono B6.size)
  have L7 := hmk (liesQ_old b7 L6.out)
  have U7 := hmk (liesQ_tw b7 hlu)
  have c8 := hmk (ends_any l (Old w7) sa sc sb so w7 (HT.out.below B7 HT.out.z) hds L7.out (old_lt w7) hwl)
  rw [hEL, hES] at c8
  clear c7 L6 b7 B6 hlu
  go_wp2_with fail
  refine c8.out.mono ?_
  rintro e w8 ⟨ea, ec, eb, eo, rfl, hde, hle, b8⟩
  have B8 := B7.trans (b8.mono B7.size)
  have HL := hmk (liesQ_old b8 L7.out)
  have HU := hmk (liesQ_old b8 U7.out)
  have HE := hmk (liesQ_tw b8 hle)
  have HP8 := hmk (liesP_old B8 HP.out)
  have HT8 := hmk (HT.out.below B8 HT.out.z)
  clear c8 L7 U7 b8 B7 hle HP
  have hll : l.length ≤ 2147483647 := by omega
  have HWL : Hid (∀ q ∈ l, wtP q ≤ 2147483647) := fun q hq => by have := wtQ_mem hq; omega
  have HGP : Hid (∀ i, (hi : i < l.length) → GP l[i]) := fun i hi => ⟨HLG.out _ (List.getElem_mem hi), HWL.out _ (List.getElem_mem hi)⟩
  have CV : Hid (∀ i, (hi : i < l.length) → (l.filter (endB l)).any (cabP l[i]) = true) := fun i hi => by
    obtain ⟨e, h1, h2⟩ := to_end (fun x hx => (pathB_all (HLG.out x hx)).1) 32 l[i] (List.getElem_mem hi) (by omega)
    exact List.any_eq_true.2 ⟨e, h1, h2⟩
  have HUM : Hid (∀ i, (hi : i < l.length) → memB (l.filter (isB p)) l[i] = isB p l[i]) := fun i hi => mem_filter_memB HLG.out _ hi
  have HEM : Hid (∀ i, (hi : i < l.length) → memB (l.filter (endB l)) l[i] = endB l l[i]) := fun i hi => mem_filter_memB HLG.out _ hi
  have HBA : Hid (∀ F i, (hF : F ≤ i) → (hi : i < l.length) → (∀ k, (hk : k < l.length) → k < F → isB p l[k] = false) → isB p (l[F]'(by omega)) = true → isB p l[i] = true → ∃ h : i - F < (l.filter (isB p)).length, (l.filter (isB p))[i - F] = l[i]) := fun F i hF hi h1 h2 h3 => below_at HR.out hF hi h1 h2 h3
  have HGU : Hid (∀ q ∈ l.filter (isB p), pathB q = true ∧ wtP q ≤ 2147483647) := fun q hq => ⟨HLG.out q (List.mem_filter.1 hq).1, HWL.out q (List.mem_filter.1 hq).1⟩
  have HGEm : Hid (∀ q ∈ l.filter (endB l), pathB q = true ∧ wtP q ≤ 2147483647) := fun q hq => ⟨HLG.out q (List.mem_filter.1 hq).1, HWL.out q (List.mem_filter.1 hq).1⟩
  have HRU : Hid ((l.filter (isB p)).Pairwise (fun a b => lexL oeE a b < 0)) := HR.out.sublist List.filter_sublist
  have HRE : Hid ((l.filter (endB l)).Pairwise (fun a b => lexL oeE a b < 0)) := HR.out.sublist List.filter_sublist
  have hul : (l.filter (isB p)).length ≤ 2147483647 := Nat.le_trans (List.length_filter_le _ _) hll
  have hel : (l.filter (endB l)).length ≤ 2147483647 := Nat.le_trans (List.length_filter_le _ _) hll
  generalize l.filter (isB p) = U at *
  generalize l.filter (endB l) = E at *
  clear hBL hEL hEB
  have HGE : Hid (∀ i, (hi : i < E.length) → GP E[i]) := fun i hi => HGEm.out _ (List.getElem_mem hi)
  have CELL : Hid (∀ W, Below w8.heap.size w8 W → ∀ i, i < l.length → ∀ v, w8.cell? ⟨sb, so + i, none⟩ = some v → W.cell? ⟨sb, so + i, none⟩ = some v) := fun W hb i hi v hv => (hb.cell (p := ⟨sb, so + i, none⟩) (World.block_lt_of_cell? w8 _ hv)).trans hv
  have CELE : Hid (∀ W, Below w8.heap.size w8 W → ∀ i, i < E.length → ∀ v, w8.cell? ⟨eb, eo + i, none⟩ = some v → W.cell? ⟨eb, eo + i, none⟩ = some v) := fun W hb i hi v hv => (hb.cell (p := ⟨eb, eo + i, none⟩) (World.block_lt_of_cell? w8 _ hv)).trans hv
  have CELU : Hid (∀ W, Below w8.heap.size w8 W → ∀ i, i < U.length → ∀ v, w8.cell? ⟨ub, uo + i, none⟩ = some v → W.cell? ⟨ub, uo + i, none⟩ = some v) := fun W hb i hi v hv => (hb.cell (p := ⟨ub, uo + i, none⟩) (World.block_lt_of_cell? w8 _ hv)).trans hv
  have ABV : Hid (∀ (x y : List El) (ax : Option Addr) (cx bx ox : Nat) (ay : Option Addr) (cy by_ oy : Nat) (W : World), Headed ax x.length cx bx ox → liesP w8 (Old w8) x bx ox → Headed ay y.length cy by_ oy → liesP w8 (Old w8) y by_ oy → GP x → GP y → Below w8.heap.size w8 W → Calls Tryz.prog 24 #[.slice ax x.length cx, .slice ay y.length cy] W (BPost (cabP x y) W)) := fun x y ax cx bx ox ay cy by_ oy W h1 h2 h3 h4 g1 g2 hb => by
    have := abvP_any x y (Old W) (Old W) ax cx bx ox ay cy by_ oy W (HT8.out.below hb HT8.out.z) h1 (liesP_old hb h2) h3 (liesP_old hb h4) (old_lt W) (old_lt W) g1.2 g2.2
    rwa [abvP_cab g1.1 g2.1] at this
  have AMU : Hid (∀ (x : List El) (ax : Option Addr) (cx bx ox : Nat) (W : World), Headed ax x.length cx bx ox → liesP w8 (Old w8) x bx ox → GP x → Below w8.heap.size w8 W → Calls Tryz.prog 14 #[.slice ua U.length uc, .slice ax x.length cx] W (BPost (memB U x) W)) := fun x ax cx bx ox W h1 h2 g1 hb => among_any U x (Old W) (Old W) ua uc ub uo ax cx bx ox W hdu (liesQ_old hb HU.out) h1 (liesP_old hb h2) (old_lt W) (old_lt W) (fun q hq => (HGU.out q hq).1) g1.1
  have AME : Hid (∀ (x : List El) (ax : Option Addr) (cx bx ox : Nat) (W : World), Headed ax x.length cx bx ox → liesP w8 (Old w8) x bx ox → GP x → Below w8.heap.size w8 W → Calls Tryz.prog 14 #[.slice ea E.length ec, .slice ax x.length cx] W (BPost (memB E x) W)) := fun x ax cx bx ox W h1 h2 g1 hb => among_any E x (Old W) (Old W) ea ec eb eo ax cx bx ox W hde (liesQ_old hb HE.out) h1 (liesP_old hb h2) (old_lt W) (old_lt W) (fun q hq => (HGEm.out q hq).1) g1.1
  have c9 := hmk (rises_any U (Old w8) ua uc ub uo w8 HT8.out hdu HU.out (old_lt w8) (fun q hq => (HGU.out q hq).2) (by omega) (fun q hq => (HGU.out q hq).1) HRU.out)
  have C10 : Hid (∀ W, Below w8.heap.size w8 W → Calls Tryz.prog 12 #[.slice ea E.length ec] W (BPost true W)) := fun W hb => rises_any E (Old W) ea ec eb eo W (HT8.out.below hb HT8.out.z) hde (liesQ_old hb HE.out) (old_lt W) (fun q hq => (HGEm.out q hq).2) (by omega) (fun q hq => (HGEm.out q hq).1) HRE.out
  clear HRU HRE
  go_wp2_with fail
  refine c9.out.mono ?_
  rintro e w9 ⟨rfl, b9⟩
  have c10 := hmk (C10.out w9 b9)
  clear c9 C10
  go_wp2_with fail
  refine c10.out.mono ?_
  rintro e w10 ⟨rfl, b10⟩
  have B10 := b9.trans (b10.mono b9.size)
  have GPP : GP p := ⟨hpb, hwp⟩
  clear c10 b9 b10
  go_wp2_with fail
  go_loopw [11, 12] (fun e11 e12 wr => ∃ (i : Nat) (f : Int), i ≤ l.length ∧ e12 = .int .i64 (i : Int) ∧ e11 = .int .i64 f ∧ Below w8.heap.size w8 wr ∧ Hid (Fst l p i f)) (fun _ e12 _ => l.length - (RowKit.intOf e12).toNat)
  case atStart => exact ⟨0, -1, by omega, rfl, rfl, B10, .inl ⟨rfl, fun k hk h => by omega⟩⟩
  case round =>
    clear B10
    obtain ⟨i, f, hi, rfl, rfl, bj, HFS⟩ := hrel
    by_cases hil : i < l.length
    case neg =>
      obtain rfl : i = l.length := by omega
      have y3 : ¬ (l.length : Int) < l.length := by omega
      go_wp2_with fail
      go_ret
      exact ⟨rfl, B8.trans (bj.mono B8.size)⟩
    have y3 : (i : Int) < l.length := by omega
    obtain ⟨_, vi, hvi, ax, cx, bx, ox, rfl, hhx, hlx⟩ := HL.out i hil
    obtain rfl : sa = some ⟨sb, so, none⟩ := hds.at_.resolve_left (by omega)
    have RC : Hid (∀ W, Below w8.heap.size w8 W → W.cell? ⟨sb, so + i, none⟩ = some (.slice ax (l[i]).length cx)) := fun W hb => CELL.out W hb i hil _ hvi
    have CU : ∀ W, Below w8.heap.size w8 W → Calls Tryz.prog 14 #[.slice ua U.length uc, .slice ax (l[i]).length cx] W (BPost (isB p l[i]) W) := fun W hb => by
      have := AMU.out l[i] ax cx bx ox W hhx hlx (HGP.out i hil) hb
      rwa [HUM.out i hil] at this
    have CEN : ∀ W, Below w8.heap.size w8 W → Calls Tryz.prog 14 #[.slice ea E.length ec, .slice ax (l[i]).length cx] W (BPost (endB l l[i]) W) := fun W hb => by
      have := AME.out l[i] ax cx bx ox W hhx hlx (HGP.out i hil) hb
      rwa [HEM.out i hil] at this
    have cA := hmk (ABV.out p l[i] ap cp bp op ax cx bx ox wr hhp HP8.out hhx hlx GPP (HGP.out i hil) bj)
    have ri := RC.out wr bj
    have hlxn : (l[i]).length ≤ 9223372036854775807 := Nat.le_trans hhx.le hhx.max
    have hlpn : p.length ≤ 9223372036854775807 := Nat.le_trans hhp.le hhp.max
    cases hcb : cabP p l[i] with
    | false =>
      have hib : isB p l[i] = false := by rw [isB, hcb, Bool.and_false]
      have HNX := hmk (fst_no hil HFS.out hib)
      rw [hcb] at cA
      go_wp2_with fail
      refine cA.out.mono ?_
      rintro e wq ⟨rfl, bq⟩
      have BQ := bj.trans (bq.mono bj.size)
      clear cA bq bj ri
      have cU := hmk (CU wq BQ)
      have rq := RC.out wq BQ
      go_wp2_with fail
      refine cU.out.mono ?_
      rintro e w3 ⟨rfl, b3⟩
      have B3 := BQ.trans (b3.mono BQ.size)
      clear cU b3 BQ rq
      rw [hib]
      have rc3 := RC.out w3 B3
      clear rc3
      go_wp2_with fail
      refine wp_region_sub w3.heap.size (by kernel_rfl) (by kernel_rfl) ?_
      repeat (go_big_quiet_step (fail))
      refine wpQuiet_nil ?_
      rintro w4 ⟨⟨w4', b4⟩, hq⟩
      have hq' : w4 = w4' := hq
      subst hq'
      clear hq
      have B4 := B3.trans (b4.mono B3.size)
      clear b4 B3
      go_wp2_with fail
      go_loopw [14, 15] (fun e14 e15 wr => ∃ k : Nat, k ≤ E.length ∧ e14 = .bool ((E.take k).any (cabP l[i])) ∧ e15 = .int .i64 (k : Int) ∧ Below w8.heap.size w8 wr) (fun _ e15 _ => E.length - (RowKit.intOf e15).toNat)
      case atStart => exact ⟨0, by omega, by simp, rfl, B4⟩
      case round =>
        clear B4
        obtain ⟨k, hk, rfl, rfl, BK⟩ := hrel
        by_cases hkl : k < E.length
        rotate_left
        · obtain rfl : k = E.length := by omega
          have y4 : ¬ (E.length : Int) < E.length := by omega
          have HCV : Hid ((E.take E.length).any (cabP l[i]) = true) := by show _ = _; rw [List.take_length]; exact CV.out i hil
          rw [HCV.out]
          go_wp2_with fail
          go_loopw [16, 17] (fun e16 e17 wr => ∃ k : Nat, k ≤ l.length ∧ e16 = .bool (ovB l l[i] i k) ∧ e17 = .int .i64 (k : Int) ∧ Below w8.heap.size w8 wr) (fun _ e17 _ => l.length - (RowKit.intOf e17).toNat)
          case atStart => exact ⟨0, by omega, by rw [show ovB l l[i] i 0 = false by simp [ovB]], rfl, BK⟩
          case round =>
            clear BK
            obtain ⟨k, hk, rfl, rfl, BK⟩ := hrel
            by_cases hkl : k < l.length
            rotate_left
            · obtain rfl : k = l.length := by omega
              have y5 : ¬ (l.length : Int) < l.length := by omega
              have rc5 := RC.out wr BK
              have cE := hmk (CEN wr BK)
              rw [ov_end HR.out hil]
              generalize endB l l[i] = EB at *
              cases EB
              · go_wp2_with fail
                refine cE.out.mono ?_
                rintro e w6 ⟨rfl, b6⟩
                go_wp2_with fail
                go_roundw
                case rel => exact ⟨i + 1, f, by omega, by go_num, rfl, BK.trans (b6.mono BK.size), HNX⟩
                case measure => simp [RowKit.intOf]; omega
              · go_wp2_with fail
                refine cE.out.mono ?_
                rintro e w6 ⟨rfl, b6⟩
                go_wp2_with fail
                go_roundw
                case rel => exact ⟨i + 1, f, by omega, by go_num, rfl, BK.trans (b6.mono BK.size), HNX⟩
                case measure => simp [RowKit.intOf]; omega
            have y5 : (k : Int) < l.length := by omega
            by_cases hki : k = i
            · subst hki
              have y6 : ((k : Int) != (k : Int)) = false := by simp
              have HOV : Hid (ovB l l[k] k (k + 1) = ovB l l[k] k k) := ov_no hkl (fun h => h.1 rfl)
              generalize ovB l l[k] k k = OV at *
              go_wp2_with fail
              refine wp_region_sub wr.heap.size (by kernel_rfl) (by kernel_rfl) ?_
              repeat (go_big_quiet_step (fail))
              refine wpQuiet_nil ?_
              rintro w6 ⟨⟨w6', b6⟩, hq⟩
              have hq' : w6 = w6' := hq
              subst hq'
              clear hq
              go_wp2_with fail
              go_roundw
              case rel => exact ⟨k + 1, by omega, by rw [HOV.out], by go_num, BK.trans (b6.mono BK.size)⟩
              case measure => simp [RowKit.intOf]; omega
            have y6 : ((k : Int) != (i : Int)) = true := bne_iff_ne.2 (by omega)
            obtain ⟨_, vk, hvk, ay, cy, by_, oy, rfl, hhy, hly⟩ := HL.out k hkl
            have rk := CELL.out wr BK k hkl _ hvk
            have rx := RC.out wr BK
            have t0 : ∀ z : Sub wr.heap.size wr, _ := sub_cell rk (World.block_lt_of_cell? wr _ rk)
            have t1 : ∀ z : Sub wr.heap.size wr, _ := sub_cell rx (World.block_lt_of_cell? wr _ rx)
            have CI : Hid (∀ z : Sub wr.heap.size wr, Calls Tryz.prog 24 #[.slice ax (l[i]).length cx, .slice ay (l[k]).length cy] z.w fun e w'' => e = .returned (.bool (cabP l[i] l[k])) ∧ ∃ y : Sub wr.heap.size wr, w'' = y.w) := sub_call fun w' hb => (ABV.out l[i] l[k] ax cx bx ox ay cy by_ oy w' hhx hlx hhy hly (HGP.out i hil) (HGP.out k hkl) (BK.trans (hb.mono BK.size))).mono fun e w'' h => ⟨h.1, hb.trans (h.2.mono hb.size)⟩
            have HO1 : Hid (cabP l[i] l[k] = false → ovB l l[i] i (k + 1) = ovB l l[i] i k) := fun h => ov_no hkl (fun q => by rw [h] at q; cases q.2)
            have HO2 : Hid (cabP l[i] l[k] = true → ovB l l[i] i (k + 1) = true) := fun h => ov_yes hkl hki h
            clear hvk hhy hly rk rx
            generalize cabP l[i] l[k] = CB at *
            generalize ovB l l[i] i k = OV at *
            generalize l[k] = lk at *
            go_wp2_with fail
            refine wp_region_sub wr.heap.size (by kernel_rfl) (by kernel_rfl) ?_
            repeat (go_big_quiet_step (exact CI.out _))
            refine wpQuiet_nil ?_
            rintro w6 ⟨⟨w6', b6⟩, hq⟩
            have hq' : w6 = w6' := hq
            subst hq'
            clear hq t0 t1 CI
            cases CB
            · have HF := hmk (HO1.out rfl)
              go_wp2_with fail
              go_roundw
              case rel => exact ⟨k + 1, by omega, by rw [HF.out], by go_num, BK.trans (b6.mono BK.size)⟩
              case measure => simp [RowKit.intOf]; omega
            · have HF := hmk (HO2.out rfl)
              go_wp2_with fail
              go_roundw
              case rel => exact ⟨k + 1, by omega, by rw [HF.out], by go_num, BK.trans (b6.mono BK.size)⟩
              case measure => simp [RowKit.intOf]; omega
        have y4 : (k : Int) < E.length := by omega
        obtain ⟨_, vk, hvk, ay, cy, by_, oy, rfl, hhy, hly⟩ := HE.out k hkl
        have rk := CELE.out wr BK k hkl _ hvk
        have rx := RC.out wr BK
        obtain rfl : ea = some ⟨eb, eo, none⟩ := hde.at_.resolve_left (by omega)
        have t0 : ∀ z : Sub wr.heap.size wr, _ := sub_cell rk (World.block_lt_of_cell? wr _ rk)
        have t1 : ∀ z : Sub wr.heap.size wr, _ := sub_cell rx (World.block_lt_of_cell? wr _ rx)
        have CI : Hid (∀ z : Sub wr.heap.size wr, Calls Tryz.prog 24 #[.slice ax (l[i]).length cx, .slice ay (E[k]).length cy] z.w fun e w'' => e = .returned (.bool (cabP l[i] E[k])) ∧ ∃ y : Sub wr.heap.size wr, w'' = y.w) := sub_call fun w' hb => (ABV.out l[i] E[k] ax cx bx ox ay cy by_ oy w' hhx hlx hhy hly (HGP.out i hil) (HGE.out k hkl) (BK.trans (hb.mono BK.size))).mono fun e w'' h => ⟨h.1, hb.trans (h.2.mono hb.size)⟩
        have HAN : Hid ((E.take (k + 1)).any (cabP l[i]) = ((E.take k).any (cabP l[i]) || cabP l[i] E[k])) := by show _ = _; rw [List.take_succ_eq_append_getElem hkl, List.any_append]; simp
        clear hvk hhy hly rk rx
        generalize cabP l[i] E[k] = CB at *
        generalize (E.take k).any (cabP l[i]) = VV at *
        generalize E[k] = ek at *
        go_wp2_with fail
        refine wp_region_sub wr.heap.size (by kernel_rfl) (by kernel_rfl) ?_
        repeat (go_big_quiet_step (exact CI.out _))
        refine wpQuiet_nil ?_
        rintro w6 ⟨⟨w6', b6⟩, hq⟩
        have hq' : w6 = w6' := hq
        subst hq'
        clear hq t0 t1 CI
        cases CB
        · have HF : Hid ((E.take (k + 1)).any (cabP l[i]) = VV) := by show _ = _; rw [HAN.out, Bool.or_false]
          go_wp2_with fail
          go_roundw
          case rel => exact ⟨k + 1, by omega, by rw [HF.out], by go_num, BK.trans (b6.mono BK.size)⟩
          case measure => simp [RowKit.intOf]; omega
        · have HF : Hid ((E.take (k + 1)).any (cabP l[i]) = true) := by show _ = _; rw [HAN.out, Bool.or_true]
          go_wp2_with fail
          go_roundw
          case rel => exact ⟨k + 1, by omega, by rw [HF.out], by go_num, BK.trans (b6.mono BK.size)⟩
          case measure => simp [RowKit.intOf]; omega
    | true =>
      rw [hcb] at cA
      by_cases hlong : p.length < (l[i]).length
      rotate_left
      · have hib : isB p l[i] = false := by rw [isB, decide_eq_false hlong, Bool.false_and]
        have HNX := hmk (fst_no hil HFS.out hib)
        have y9 : ¬ (p.length : Int) < ((l[i]).length : Int) := by omega
        go_wp2_with fail
        refine cA.out.mono ?_
        rintro e wq ⟨rfl, bq⟩
        have BQ := bj.trans (bq.mono bj.size)
        clear cA bq bj ri
        have cU := hmk (CU wq BQ)
        have rq := RC.out wq BQ
        go_wp2_with fail
        refine cU.out.mono ?_
        rintro e w3 ⟨rfl, b3⟩
        have B3 := BQ.trans (b3.mono BQ.size)
        clear cU b3 BQ rq
        rw [hib]
        have rc3 := RC.out w3 B3
        clear rc3
        go_wp2_with fail
        refine wp_region_sub w3.heap.size (by kernel_rfl) (by kernel_rfl) ?_
        repeat (go_big_quiet_step (fail))
        refine wpQuiet_nil ?_
        rintro w4 ⟨⟨w4', b4⟩, hq⟩
        have hq' : w4 = w4' := hq
        subst hq'
        clear hq
        have B4 := B3.trans (b4.mono B3.size)
        clear b4 B3
        go_wp2_with fail
        go_loopw [14, 15] (fun e14 e15 wr => ∃ k : Nat, k ≤ E.length ∧ e14 = .bool ((E.take k).any (cabP l[i])) ∧ e15 = .int .i64 (k : Int) ∧ Below w8.heap.size w8 wr) (fun _ e15 _ => E.length - (RowKit.intOf e15).toNat)
        case atStart => exact ⟨0, by omega, by simp, rfl, B4⟩
        case round =>
          clear B4
          obtain ⟨k, hk, rfl, rfl, BK⟩ := hrel
          by_cases hkl : k < E.length
          rotate_left
          · obtain rfl : k = E.length := by omega
            have y4 : ¬ (E.length : Int) < E.length := by omega
            have HCV : Hid ((E.take E.length).any (cabP l[i]) = true) := by show _ = _; rw [List.take_length]; exact CV.out i hil
            rw [HCV.out]
            go_wp2_with fail
            go_loopw [16, 17] (fun e16 e17 wr => ∃ k : Nat, k ≤ l.length ∧ e16 = .bool (ovB l l[i] i k) ∧ e17 = .int .i64 (k : Int) ∧ Below w8.heap.size w8 wr) (fun _ e17 _ => l.length - (RowKit.intOf e17).toNat)
            case atStart => exact ⟨0, by omega, by rw [show ovB l l[i] i 0 = false by simp [ovB]], rfl, BK⟩
            case round =>
              clear BK
              obtain ⟨k, hk, rfl, rfl, BK⟩ := hrel
              by_cases hkl : k < l.length
              rotate_left
              · obtain rfl : k = l.length := by omega
                have y5 : ¬ (l.length : Int) < l.length := by omega
                have rc5 := RC.out wr BK
                have cE := hmk (CEN wr BK)
                rw [ov_end HR.out hil]
                generalize endB l l[i] = EB at *
                cases EB
                · go_wp2_with fail
                  refine cE.out.mono ?_
                  rintro e w6 ⟨rfl, b6⟩
                  go_wp2_with fail
                  go_roundw
                  case rel => exact ⟨i + 1, f, by omega, by go_num, rfl, BK.trans (b6.mono BK.size), HNX⟩
                  case measure => simp [RowKit.intOf]; omega
                · go_wp2_with fail
                  refine cE.out.mono ?_
                  rintro e w6 ⟨rfl, b6⟩
                  go_wp2_with fail
                  go_roundw
                  case rel => exact ⟨i + 1, f, by omega, by go_num, rfl, BK.trans (b6.mono BK.size), HNX⟩
                  case measure => simp [RowKit.intOf]; omega
              have y5 : (k : Int) < l.length := by omega
              by_cases hki : k = i
              · subst hki
                have y6 : ((k : Int) != (k : Int)) = false := by simp
                have HOV : Hid (ovB l l[k] k (k + 1) = ovB l l[k] k k) := ov_no hkl (fun h => h.1 rfl)
                generalize ovB l l[k] k k = OV at *
                go_wp2_with fail
                refine wp_region_sub wr.heap.size (by kernel_rfl) (by kernel_rfl) ?_
                repeat (go_big_quiet_step (fail))
                refine wpQuiet_nil ?_
                rintro w6 ⟨⟨w6', b6⟩, hq⟩
                have hq' : w6 = w6' := hq
                subst hq'
                clear hq
                go_wp2_with fail
                go_roundw
                case rel => exact ⟨k + 1, by omega, by rw [HOV.out], by go_num, BK.trans (b6.mono BK.size)⟩
                case measure => simp [RowKit.intOf]; omega
              have y6 : ((k : Int) != (i : Int)) = true := bne_iff_ne.2 (by omega)
              obtain ⟨_, vk, hvk, ay, cy, by_, oy, rfl, hhy, hly⟩ := HL.out k hkl
              have rk := CELL.out wr BK k hkl _ hvk
              have rx := RC.out wr BK
              have t0 : ∀ z : Sub wr.heap.size wr, _ := sub_cell rk (World.block_lt_of_cell? wr _ rk)
              have t1 : ∀ z : Sub wr.heap.size wr, _ := sub_cell rx (World.block_lt_of_cell? wr _ rx)
              have CI : Hid (∀ z : Sub wr.heap.size wr, Calls Tryz.prog 24 #[.slice ax (l[i]).length cx, .slice ay (l[k]).length cy] z.w fun e w'' => e = .returned (.bool (cabP l[i] l[k])) ∧ ∃ y : Sub wr.heap.size wr, w'' = y.w) := sub_call fun w' hb => (ABV.out l[i] l[k] ax cx bx ox ay cy by_ oy w' hhx hlx hhy hly (HGP.out i hil) (HGP.out k hkl) (BK.trans (hb.mono BK.size))).mono fun e w'' h => ⟨h.1, hb.trans (h.2.mono hb.size)⟩
              have HO1 : Hid (cabP l[i] l[k] = false → ovB l l[i] i (k + 1) = ovB l l[i] i k) := fun h => ov_no hkl (fun q => by rw [h] at q; cases q.2)
              have HO2 : Hid (cabP l[i] l[k] = true → ovB l l[i] i (k + 1) = true) := fun h => ov_yes hkl hki h
              clear hvk hhy hly rk rx
              generalize cabP l[i] l[k] = CB at *
              generalize ovB l l[i] i k = OV at *
              generalize l[k] = lk at *
              go_wp2_with fail
              refine wp_region_sub wr.heap.size (by kernel_rfl) (by kernel_rfl) ?_
              repeat (go_big_quiet_step (exact CI.out _))
              refine wpQuiet_nil ?_
              rintro w6 ⟨⟨w6', b6⟩, hq⟩
              have hq' : w6 = w6' := hq
              subst hq'
              clear hq t0 t1 CI
              cases CB
              · have HF := hmk (HO1.out rfl)
                go_wp2_with fail
                go_roundw
                case rel => exact ⟨k + 1, by omega, by rw [HF.out], by go_num, BK.trans (b6.mono BK.size)⟩
                case measure => simp [RowKit.intOf]; omega
              · have HF := hmk (HO2.out rfl)
                go_wp2_with fail
                go_roundw
                case rel => exact ⟨k + 1, by omega, by rw [HF.out], by go_num, BK.trans (b6.mono BK.size)⟩
                case measure => simp [RowKit.intOf]; omega
          have y4 : (k : Int) < E.length := by omega
          obtain ⟨_, vk, hvk, ay, cy, by_, oy, rfl, hhy, hly⟩ := HE.out k hkl
          have rk := CELE.out wr BK k hkl _ hvk
          have rx := RC.out wr BK
          obtain rfl : ea = some ⟨eb, eo, none⟩ := hde.at_.resolve_left (by omega)
          have t0 : ∀ z : Sub wr.heap.size wr, _ := sub_cell rk (World.block_lt_of_cell? wr _ rk)
          have t1 : ∀ z : Sub wr.heap.size wr, _ := sub_cell rx (World.block_lt_of_cell? wr _ rx)
          have CI : Hid (∀ z : Sub wr.heap.size wr, Calls Tryz.prog 24 #[.slice ax (l[i]).length cx, .slice ay (E[k]).length cy] z.w fun e w'' => e = .returned (.bool (cabP l[i] E[k])) ∧ ∃ y : Sub wr.heap.size wr, w'' = y.w) := sub_call fun w' hb => (ABV.out l[i] E[k] ax cx bx ox ay cy by_ oy w' hhx hlx hhy hly (HGP.out i hil) (HGE.out k hkl) (BK.trans (hb.mono BK.size))).mono fun e w'' h => ⟨h.1, hb.trans (h.2.mono hb.size)⟩
          have HAN : Hid ((E.take (k + 1)).any (cabP l[i]) = ((E.take k).any (cabP l[i]) || cabP l[i] E[k])) := by show _ = _; rw [List.take_succ_eq_append_getElem hkl, List.any_append]; simp
          clear hvk hhy hly rk rx
          generalize cabP l[i] E[k] = CB at *
          generalize (E.take k).any (cabP l[i]) = VV at *
          generalize E[k] = ek at *
          go_wp2_with fail
          refine wp_region_sub wr.heap.size (by kernel_rfl) (by kernel_rfl) ?_
          repeat (go_big_quiet_step (exact CI.out _))
          refine wpQuiet_nil ?_
          rintro w6 ⟨⟨w6', b6⟩, hq⟩
          have hq' : w6 = w6' := hq
          subst hq'
          clear hq t0 t1 CI
          cases CB
          · have HF : Hid ((E.take (k + 1)).any (cabP l[i]) = VV) := by show _ = _; rw [HAN.out, Bool.or_false]
            go_wp2_with fail
            go_roundw
            case rel => exact ⟨k + 1, by omega, by rw [HF.out], by go_num, BK.trans (b6.mono BK.size)⟩
            case measure => simp [RowKit.intOf]; omega
          · have HF : Hid ((E.take (k + 1)).any (cabP l[i]) = true) := by show _ = _; rw [HAN.out, Bool.or_true]
            go_wp2_with fail
            go_roundw
            case rel => exact ⟨k + 1, by omega, by rw [HF.out], by go_num, BK.trans (b6.mono BK.size)⟩
            case measure => simp [RowKit.intOf]; omega
      have hib : isB p l[i] = true := by rw [isB, hcb, decide_eq_true hlong]; rfl
      have y9 : (p.length : Int) < ((l[i]).length : Int) := by omega
      by_cases hf : f < 0
      · obtain rfl : f = -1 := by
          rcases HFS.out with ⟨h, _⟩ | ⟨F, h, _⟩
          · exact h
          · omega
        obtain ⟨hN, hNo⟩ := fst_new hil HFS.out hib
        have HNX := hmk hN
        obtain ⟨hu, hue⟩ := HBA.out i i (Nat.le_refl _) hil hNo hib hib
        clear hN hNo
        have y10 : ((i : Int) - (i : Int)) = 0 := by omega
        have hu0 : 0 < U.length := by omega
        have y11 : ¬ ((U.length : Int) ≤ 0) := by omega
        have z11 : decide ((U.length : Int) ≤ 0) = false := decide_eq_false y11
        have z12 : decide ((U.length : Int) ≤ (i : Int) - (i : Int)) = false := decide_eq_false (by omega)
        have z14 : decide (U.length ≤ 0) = false := decide_eq_false (by omega)
        have z15 : decide (U.length = 0) = false := decide_eq_false (by omega)
        have z16 : U ≠ [] := fun h => by rw [h] at hu0; simp at hu0
        have z17 : U.isEmpty = false := by rw [Bool.eq_false_iff]; intro h; exact z16 (List.isEmpty_iff.1 h)
        have y12 : (0 : Int) < (U.length : Int) := by omega
        have hue0 : U[0] = l[i] := by
          have e : i - i = 0 := by omega
          simp only [e] at hue
          exact hue
        obtain ⟨_, vu, hvu, uax, ucx, ubx, uox, rfl, hhu, hlu⟩ := HU.out 0 hu0
        obtain rfl : ua = some ⟨ub, uo, none⟩ := hdu.at_.resolve_left (by omega)
        rw [hue0] at hvu hhu hlu
        have UC : Hid (∀ W, Below w8.heap.size w8 W → W.cell? ⟨ub, uo, none⟩ = some (.slice uax (l[i]).length ucx)) := fun W hb => CELU.out W hb 0 hu0 _ hvu
        have CSP : ∀ W, Below w8.heap.size w8 W → Calls Tryz.prog 25 #[.slice uax (l[i]).length ucx, .slice ax (l[i]).length cx] W (BPost true W) := fun W hb => spath_any l[i] (Old W) (Old W) uax ucx ubx uox ax cx bx ox W hhu (liesP_old hb hlu) hhx (liesP_old hb hlx) (old_lt W) (old_lt W)
        go_wp2_with fail
        refine cA.out.mono ?_
        rintro e wq ⟨rfl, bq⟩
        have BQ := bj.trans (bq.mono bj.size)
        clear cA bq bj ri
        have cU := hmk (CU wq BQ)
        have rq := RC.out wq BQ
        go_wp2_with fail
        refine cU.out.mono ?_
        rintro e w3 ⟨rfl, b3⟩
        have B3 := BQ.trans (b3.mono BQ.size)
        clear cU b3 BQ rq
        rw [hib]
        have rc3 := RC.out w3 B3
        have uc3 := UC.out w3 B3
        have s0 : ∀ z : Sub w3.heap.size w3, _ := sub_cell rc3 (World.block_lt_of_cell? w3 _ rc3)
        have s1 : ∀ z : Sub w3.heap.size w3, _ := sub_cell uc3 (World.block_lt_of_cell? w3 _ uc3)
        have SP : Hid (∀ z : Sub w3.heap.size w3, Calls Tryz.prog 25 #[.slice uax (l[i]).length ucx, .slice ax (l[i]).length cx] z.w fun e w'' => e = .returned (.bool true) ∧ ∃ y : Sub w3.heap.size w3, w'' = y.w) := sub_call fun w' hb => (CSP w' (B3.trans (hb.mono B3.size))).mono fun e w'' h => ⟨h.1, hb.trans (h.2.mono hb.size)⟩
        clear rc3 uc3
        go_wp2_with fail
        refine wp_region_sub w3.heap.size (by kernel_rfl) (by kernel_rfl) ?_
        repeat (go_big_quiet_step (exact SP.out _))
        refine wpQuiet_nil ?_
        rintro w4 ⟨⟨w4', b4⟩, hq⟩
        have hq' : w4 = w4' := hq
        subst hq'
        clear hq
        have B4 := B3.trans (b4.mono B3.size)
        clear b4 B3 s0 s1 SP
        go_wp2_with fail
        go_loopw [14, 15] (fun e14 e15 wr => ∃ k : Nat, k ≤ E.length ∧ e14 = .bool ((E.take k).any (cabP l[i])) ∧ e15 = .int .i64 (k : Int) ∧ Below w8.heap.size w8 wr) (fun _ e15 _ => E.length - (RowKit.intOf e15).toNat)
        case atStart => exact ⟨0, by omega, by simp, rfl, B4⟩
        case round =>
          clear B4
          obtain ⟨k, hk, rfl, rfl, BK⟩ := hrel
          by_cases hkl : k < E.length
          rotate_left
          · obtain rfl : k = E.length := by omega
            have y4 : ¬ (E.length : Int) < E.length := by omega
            have HCV : Hid ((E.take E.length).any (cabP l[i]) = true) := by show _ = _; rw [List.take_length]; exact CV.out i hil
            rw [HCV.out]
            go_wp2_with fail
            go_loopw [16, 17] (fun e16 e17 wr => ∃ k : Nat, k ≤ l.length ∧ e16 = .bool (ovB l l[i] i k) ∧ e17 = .int .i64 (k : Int) ∧ Below w8.heap.size w8 wr) (fun _ e17 _ => l.length - (RowKit.intOf e17).toNat)
            case atStart => exact ⟨0, by omega, by rw [show ovB l l[i] i 0 = false by simp [ovB]], rfl, BK⟩
            case round =>
              clear BK
              obtain ⟨k, hk, rfl, rfl, BK⟩ := hrel
              by_cases hkl : k < l.length
              rotate_left
              · obtain rfl : k = l.length := by omega
                have y5 : ¬ (l.length : Int) < l.length := by omega
                have rc5 := RC.out wr BK
                have cE := hmk (CEN wr BK)
                rw [ov_end HR.out hil]
                generalize endB l l[i] = EB at *
                cases EB
                · go_wp2_with fail
                  refine cE.out.mono ?_
                  rintro e w6 ⟨rfl, b6⟩
                  go_wp2_with fail
                  go_roundw
                  case rel => exact ⟨i + 1, (i : Int), by omega, by go_num, rfl, BK.trans (b6.mono BK.size), HNX⟩
                  case measure => simp [RowKit.intOf]; omega
                · go_wp2_with fail
                  refine cE.out.mono ?_
                  rintro e w6 ⟨rfl, b6⟩
                  go_wp2_with fail
                  go_roundw
                  case rel => exact ⟨i + 1, (i : Int), by omega, by go_num, rfl, BK.trans (b6.mono BK.size), HNX⟩
                  case measure => simp [RowKit.intOf]; omega
              have y5 : (k : Int) < l.length := by omega
              by_cases hki : k = i
              · subst hki
                have y6 : ((k : Int) != (k : Int)) = false := by simp
                have HOV : Hid (ovB l l[k] k (k + 1) = ovB l l[k] k k) := ov_no hkl (fun h => h.1 rfl)
                generalize ovB l l[k] k k = OV at *
                go_wp2_with fail
                refine wp_region_sub wr.heap.size (by kernel_rfl) (by kernel_rfl) ?_
                repeat (go_big_quiet_step (fail))
                refine wpQuiet_nil ?_
                rintro w6 ⟨⟨w6', b6⟩, hq⟩
                have hq' : w6 = w6' := hq
                subst hq'
                clear hq
                go_wp2_with fail
                go_roundw
                case rel => exact ⟨k + 1, by omega, by rw [HOV.out], by go_num, BK.trans (b6.mono BK.size)⟩
                case measure => simp [RowKit.intOf]; omega
              have y6 : ((k : Int) != (i : Int)) = true := bne_iff_ne.2 (by omega)
              obtain ⟨_, vk, hvk, ay, cy, by_, oy, rfl, hhy, hly⟩ := HL.out k hkl
              have rk := CELL.out wr BK k hkl _ hvk
              have rx := RC.out wr BK
              have t0 : ∀ z : Sub wr.heap.size wr, _ := sub_cell rk (World.block_lt_of_cell? wr _ rk)
              have t1 : ∀ z : Sub wr.heap.size wr, _ := sub_cell rx (World.block_lt_of_cell? wr _ rx)
              have CI : Hid (∀ z : Sub wr.heap.size wr, Calls Tryz.prog 24 #[.slice ax (l[i]).length cx, .slice ay (l[k]).length cy] z.w fun e w'' => e = .returned (.bool (cabP l[i] l[k])) ∧ ∃ y : Sub wr.heap.size wr, w'' = y.w) := sub_call fun w' hb => (ABV.out l[i] l[k] ax cx bx ox ay cy by_ oy w' hhx hlx hhy hly (HGP.out i hil) (HGP.out k hkl) (BK.trans (hb.mono BK.size))).mono fun e w'' h => ⟨h.1, hb.trans (h.2.mono hb.size)⟩
              have HO1 : Hid (cabP l[i] l[k] = false → ovB l l[i] i (k + 1) = ovB l l[i] i k) := fun h => ov_no hkl (fun q => by rw [h] at q; cases q.2)
              have HO2 : Hid (cabP l[i] l[k] = true → ovB l l[i] i (k + 1) = true) := fun h => ov_yes hkl hki h
              clear hvk hhy hly rk rx
              generalize cabP l[i] l[k] = CB at *
              generalize ovB l l[i] i k = OV at *
              generalize l[k] = lk at *
              go_wp2_with fail
              refine wp_region_sub wr.heap.size (by kernel_rfl) (by kernel_rfl) ?_
              repeat (go_big_quiet_step (exact CI.out _))
              refine wpQuiet_nil ?_
              rintro w6 ⟨⟨w6', b6⟩, hq⟩
              have hq' : w6 = w6' := hq
              subst hq'
              clear hq t0 t1 CI
              cases CB
              · have HF := hmk (HO1.out rfl)
                go_wp2_with fail
                go_roundw
                case rel => exact ⟨k + 1, by omega, by rw [HF.out], by go_num, BK.trans (b6.mono BK.size)⟩
                case measure => simp [RowKit.intOf]; omega
              · have HF := hmk (HO2.out rfl)
                go_wp2_with fail
                go_roundw
                case rel => exact ⟨k + 1, by omega, by rw [HF.out], by go_num, BK.trans (b6.mono BK.size)⟩
                case measure => simp [RowKit.intOf]; omega
          have y4 : (k : Int) < E.length := by omega
          obtain ⟨_, vk, hvk, ay, cy, by_, oy, rfl, hhy, hly⟩ := HE.out k hkl
          have rk := CELE.out wr BK k hkl _ hvk
          have rx := RC.out wr BK
          obtain rfl : ea = some ⟨eb, eo, none⟩ := hde.at_.resolve_left (by omega)
          have t0 : ∀ z : Sub wr.heap.size wr, _ := sub_cell rk (World.block_lt_of_cell? wr _ rk)
          have t1 : ∀ z : Sub wr.heap.size wr, _ := sub_cell rx (World.block_lt_of_cell? wr _ rx)
          have CI : Hid (∀ z : Sub wr.heap.size wr, Calls Tryz.prog 24 #[.slice ax (l[i]).length cx, .slice ay (E[k]).length cy] z.w fun e w'' => e = .returned (.bool (cabP l[i] E[k])) ∧ ∃ y : Sub wr.heap.size wr, w'' = y.w) := sub_call fun w' hb => (ABV.out l[i] E[k] ax cx bx ox ay cy by_ oy w' hhx hlx hhy hly (HGP.out i hil) (HGE.out k hkl) (BK.trans (hb.mono BK.size))).mono fun e w'' h => ⟨h.1, hb.trans (h.2.mono hb.size)⟩
          have HAN : Hid ((E.take (k + 1)).any (cabP l[i]) = ((E.take k).any (cabP l[i]) || cabP l[i] E[k])) := by show _ = _; rw [List.take_succ_eq_append_getElem hkl, List.any_append]; simp
          clear hvk hhy hly rk rx
          generalize cabP l[i] E[k] = CB at *
          generalize (E.take k).any (cabP l[i]) = VV at *
          generalize E[k] = ek at *
          go_wp2_with fail
          refine wp_region_sub wr.heap.size (by kernel_rfl) (by kernel_rfl) ?_
          repeat (go_big_quiet_step (exact CI.out _))
          refine wpQuiet_nil ?_
          rintro w6 ⟨⟨w6', b6⟩, hq⟩
          have hq' : w6 = w6' := hq
          subst hq'
          clear hq t0 t1 CI
          cases CB
          · have HF : Hid ((E.take (k + 1)).any (cabP l[i]) = VV) := by show _ = _; rw [HAN.out, Bool.or_false]
            go_wp2_with fail
            go_roundw
            case rel => exact ⟨k + 1, by omega, by rw [HF.out], by go_num, BK.trans (b6.mono BK.size)⟩
            case measure => simp [RowKit.intOf]; omega
          · have HF : Hid ((E.take (k + 1)).any (cabP l[i]) = true) := by show _ = _; rw [HAN.out, Bool.or_true]
            go_wp2_with fail
            go_roundw
            case rel => exact ⟨k + 1, by omega, by rw [HF.out], by go_num, BK.trans (b6.mono BK.size)⟩
            case measure => simp [RowKit.intOf]; omega
      obtain ⟨F, rfl, hFi, ⟨hFl, hFb⟩, hFn⟩ : ∃ F : Nat, f = (F : Int) ∧ F < i ∧ (∃ h : F < l.length, isB p l[F] = true) ∧ ∀ k, (hk : k < l.length) → k < F → isB p l[k] = false := by
        rcases HFS.out with ⟨h, _⟩ | h
        · omega
        · exact h
      have HNX : Hid (Fst l p (i + 1) (F : Int)) := .inr ⟨F, rfl, by omega, ⟨hFl, hFb⟩, hFn⟩
      obtain ⟨hu, hue⟩ := HBA.out F i (by omega) hil hFn hFb hib
      have y10 : ((i : Int) - (F : Int)) = ((i - F : Nat) : Int) := by omega
      have y11 : ¬ ((U.length : Int) ≤ ((i - F : Nat) : Int)) := by omega
      have z11 : decide ((U.length : Int) ≤ ((i - F : Nat) : Int)) = false := decide_eq_false y11
      have z12 : decide ((U.length : Int) ≤ (i : Int) - (F : Int)) = false := decide_eq_false (by omega)
      have z13 : ¬ ((U.length : Int) ≤ (i : Int) - (F : Int)) := by omega
      have z14 : decide (U.length ≤ i - F) = false := decide_eq_false (by omega)
      have y12 : (((i - F : Nat) : Int)) < (U.length : Int) := by omega
      obtain ⟨_, vu, hvu, uax, ucx, ubx, uox, rfl, hhu, hlu⟩ := HU.out (i - F) hu
      obtain rfl : ua = some ⟨ub, uo, none⟩ := hdu.at_.resolve_left (by omega)
      rw [hue] at hvu hhu hlu
      have UC : Hid (∀ W, Below w8.heap.size w8 W → W.cell? ⟨ub, uo + (i - F), none⟩ = some (.slice uax (l[i]).length ucx)) := fun W hb => CELU.out W hb (i - F) hu _ hvu
      have CSP : ∀ W, Below w8.heap.size w8 W → Calls Tryz.prog 25 #[.slice uax (l[i]).length ucx, .slice ax (l[i]).length cx] W (BPost true W) := fun W hb => spath_any l[i] (Old W) (Old W) uax ucx ubx uox ax cx bx ox W hhu (liesP_old hb hlu) hhx (liesP_old hb hlx) (old_lt W) (old_lt W)
      go_wp2_with fail
      refine cA.out.mono ?_
      rintro e wq ⟨rfl, bq⟩
      have BQ := bj.trans (bq.mono bj.size)
      clear cA bq bj ri
      have cU := hmk (CU wq BQ)
      have rq := RC.out wq BQ
      go_wp2_with fail
      refine cU.out.mono ?_
      rintro e w3 ⟨rfl, b3⟩
      have B3 := BQ.trans (b3.mono BQ.size)
      clear cU b3 BQ rq
      rw [hib]
      have rc3 := RC.out w3 B3
      have uc3 := UC.out w3 B3
      have s0 : ∀ z : Sub w3.heap.size w3, _ := sub_cell rc3 (World.block_lt_of_cell? w3 _ rc3)
      have s1 : ∀ z : Sub w3.heap.size w3, _ := sub_cell uc3 (World.block_lt_of_cell? w3 _ uc3)
      have SP : Hid (∀ z : Sub w3.heap.size w3, Calls Tryz.prog 25 #[.slice uax (l[i]).length ucx, .slice ax (l[i]).length cx] z.w fun e w'' => e = .returned (.bool true) ∧ ∃ y : Sub w3.heap.size w3, w'' = y.w) := sub_call fun w' hb => (CSP w' (B3.trans (hb.mono B3.size))).mono fun e w'' h => ⟨h.1, hb.trans (h.2.mono hb.size)⟩
      clear rc3 uc3
      go_wp2_with fail
      refine wp_region_sub w3.heap.size (by kernel_rfl) (by kernel_rfl) ?_
      repeat (go_big_quiet_step (exact SP.out _))
      refine wpQuiet_nil ?_
      rintro w4 ⟨⟨w4', b4⟩, hq⟩
      have hq' : w4 = w4' := hq
      subst hq'
      clear hq
      have B4 := B3.trans (b4.mono B3.size)
      clear b4 B3 s0 s1 SP
      go_wp2_with fail
      go_loopw [14, 15] (fun e14 e15 wr => ∃ k : Nat, k ≤ E.length ∧ e14 = .bool ((E.take k).any (cabP l[i])) ∧ e15 = .int .i64 (k : Int) ∧ Below w8.heap.size w8 wr) (fun _ e15 _ => E.length - (RowKit.intOf e15).toNat)
      case atStart => exact ⟨0, by omega, by simp, rfl, B4⟩
      case round =>
        clear B4
        obtain ⟨k, hk, rfl, rfl, BK⟩ := hrel
        by_cases hkl : k < E.length
        rotate_left
        · obtain rfl : k = E.length := by omega
          have y4 : ¬ (E.length : Int) < E.length := by omega
          have HCV : Hid ((E.take E.length).any (cabP l[i]) = true) := by show _ = _; rw [List.take_length]; exact CV.out i hil
          rw [HCV.out]
          go_wp2_with fail
          go_loopw [16, 17] (fun e16 e17 wr => ∃ k : Nat, k ≤ l.length ∧ e16 = .bool (ovB l l[i] i k) ∧ e17 = .int .i64 (k : Int) ∧ Below w8.heap.size w8 wr) (fun _ e17 _ => l.length - (RowKit.intOf e17).toNat)
          case atStart => exact ⟨0, by omega, by rw [show ovB l l[i] i 0 = false by simp [ovB]], rfl, BK⟩
          case round =>
            clear BK
            obtain ⟨k, hk, rfl, rfl, BK⟩ := hrel
            by_cases hkl : k < l.length
            rotate_left
            · obtain rfl : k = l.length := by omega
              have y5 : ¬ (l.length : Int) < l.length := by omega
              have rc5 := RC.out wr BK
              have cE := hmk (CEN wr BK)
              rw [ov_end HR.out hil]
              generalize endB l l[i] = EB at *
              cases EB
              · go_wp2_with fail
                refine cE.out.mono ?_
                rintro e w6 ⟨rfl, b6⟩
                go_wp2_with fail
                go_roundw
                case rel => exact ⟨i + 1, (F : Int), by omega, by go_num, rfl, BK.trans (b6.mono BK.size), HNX⟩
                case measure => simp [RowKit.intOf]; omega
              · go_wp2_with fail
                refine cE.out.mono ?_
                rintro e w6 ⟨rfl, b6⟩
                go_wp2_with fail
                go_roundw
                case rel => exact ⟨i + 1, (F : Int), by omega, by go_num, rfl, BK.trans (b6.mono BK.size), HNX⟩
                case measure => simp [RowKit.intOf]; omega
            have y5 : (k : Int) < l.length := by omega
            by_cases hki : k = i
            · subst hki
              have y6 : ((k : Int) != (k : Int)) = false := by simp
              have HOV : Hid (ovB l l[k] k (k + 1) = ovB l l[k] k k) := ov_no hkl (fun h => h.1 rfl)
              generalize ovB l l[k] k k = OV at *
              go_wp2_with fail
              refine wp_region_sub wr.heap.size (by kernel_rfl) (by kernel_rfl) ?_
              repeat (go_big_quiet_step (fail))
              refine wpQuiet_nil ?_
              rintro w6 ⟨⟨w6', b6⟩, hq⟩
              have hq' : w6 = w6' := hq
              subst hq'
              clear hq
              go_wp2_with fail
              go_roundw
              case rel => exact ⟨k + 1, by omega, by rw [HOV.out], by go_num, BK.trans (b6.mono BK.size)⟩
              case measure => simp [RowKit.intOf]; omega
            have y6 : ((k : Int) != (i : Int)) = true := bne_iff_ne.2 (by omega)
            obtain ⟨_, vk, hvk, ay, cy, by_, oy, rfl, hhy, hly⟩ := HL.out k hkl
            have rk := CELL.out wr BK k hkl _ hvk
            have rx := RC.out wr BK
            have t0 : ∀ z : Sub wr.heap.size wr, _ := sub_cell rk (World.block_lt_of_cell? wr _ rk)
            have t1 : ∀ z : Sub wr.heap.size wr, _ := sub_cell rx (World.block_lt_of_cell? wr _ rx)
            have CI : Hid (∀ z : Sub wr.heap.size wr, Calls Tryz.prog 24 #[.slice ax (l[i]).length cx, .slice ay (l[k]).length cy] z.w fun e w'' => e = .returned (.bool (cabP l[i] l[k])) ∧ ∃ y : Sub wr.heap.size wr, w'' = y.w) := sub_call fun w' hb => (ABV.out l[i] l[k] ax cx bx ox ay cy by_ oy w' hhx hlx hhy hly (HGP.out i hil) (HGP.out k hkl) (BK.trans (hb.mono BK.size))).mono fun e w'' h => ⟨h.1, hb.trans (h.2.mono hb.size)⟩
            have HO1 : Hid (cabP l[i] l[k] = false → ovB l l[i] i (k + 1) = ovB l l[i] i k) := fun h => ov_no hkl (fun q => by rw [h] at q; cases q.2)
            have HO2 : Hid (cabP l[i] l[k] = true → ovB l l[i] i (k + 1) = true) := fun h => ov_yes hkl hki h
            clear hvk hhy hly rk rx
            generalize cabP l[i] l[k] = CB at *
            generalize ovB l l[i] i k = OV at *
            generalize l[k] = lk at *
            go_wp2_with fail
            refine wp_region_sub wr.heap.size (by kernel_rfl) (by kernel_rfl) ?_
            repeat (go_big_quiet_step (exact CI.out _))
            refine wpQuiet_nil ?_
            rintro w6 ⟨⟨w6', b6⟩, hq⟩
            have hq' : w6 = w6' := hq
            subst hq'
            clear hq t0 t1 CI
            cases CB
            · have HF := hmk (HO1.out rfl)
              go_wp2_with fail
              go_roundw
              case rel => exact ⟨k + 1, by omega, by rw [HF.out], by go_num, BK.trans (b6.mono BK.size)⟩
              case measure => simp [RowKit.intOf]; omega
            · have HF := hmk (HO2.out rfl)
              go_wp2_with fail
              go_roundw
              case rel => exact ⟨k + 1, by omega, by rw [HF.out], by go_num, BK.trans (b6.mono BK.size)⟩
              case measure => simp [RowKit.intOf]; omega
        have y4 : (k : Int) < E.length := by omega
        obtain ⟨_, vk, hvk, ay, cy, by_, oy, rfl, hhy, hly⟩ := HE.out k hkl
        have rk := CELE.out wr BK k hkl _ hvk
        have rx := RC.out wr BK
        obtain rfl : ea = some ⟨eb, eo, none⟩ := hde.at_.resolve_left (by omega)
        have t0 : ∀ z : Sub wr.heap.size wr, _ := sub_cell rk (World.block_lt_of_cell? wr _ rk)
        have t1 : ∀ z : Sub wr.heap.size wr, _ := sub_cell rx (World.block_lt_of_cell? wr _ rx)
        have CI : Hid (∀ z : Sub wr.heap.size wr, Calls Tryz.prog 24 #[.slice ax (l[i]).length cx, .slice ay (E[k]).length cy] z.w fun e w'' => e = .returned (.bool (cabP l[i] E[k])) ∧ ∃ y : Sub wr.heap.size wr, w'' = y.w) := sub_call fun w' hb => (ABV.out l[i] E[k] ax cx bx ox ay cy by_ oy w' hhx hlx hhy hly (HGP.out i hil) (HGE.out k hkl) (BK.trans (hb.mono BK.size))).mono fun e w'' h => ⟨h.1, hb.trans (h.2.mono hb.size)⟩
        have HAN : Hid ((E.take (k + 1)).any (cabP l[i]) = ((E.take k).any (cabP l[i]) || cabP l[i] E[k])) := by show _ = _; rw [List.take_succ_eq_append_getElem hkl, List.any_append]; simp
        clear hvk hhy hly rk rx
        generalize cabP l[i] E[k] = CB at *
        generalize (E.take k).any (cabP l[i]) = VV at *
        generalize E[k] = ek at *
        go_wp2_with fail
        refine wp_region_sub wr.heap.size (by kernel_rfl) (by kernel_rfl) ?_
        repeat (go_big_quiet_step (exact CI.out _))
        refine wpQuiet_nil ?_
        rintro w6 ⟨⟨w6', b6⟩, hq⟩
        have hq' : w6 = w6' := hq
        subst hq'
        clear hq t0 t1 CI
        cases CB
        · have HF : Hid ((E.take (k + 1)).any (cabP l[i]) = VV) := by show _ = _; rw [HAN.out, Bool.or_false]
          go_wp2_with fail
          go_roundw
          case rel => exact ⟨k + 1, by omega, by rw [HF.out], by go_num, BK.trans (b6.mono BK.size)⟩
          case measure => simp [RowKit.intOf]; omega
        · have HF : Hid ((E.take (k + 1)).any (cabP l[i]) = true) := by show _ = _; rw [HAN.out, Bool.or_true]
          go_wp2_with fail
          go_roundw
          case rel => exact ⟨k + 1, by omega, by rw [HF.out], by go_num, BK.trans (b6.mono BK.size)⟩
          case measure => simp [RowKit.intOf]; omega
end Go.Proofs.YthlhkhcbkgbhfaaGreatDoor
