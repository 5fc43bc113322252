import Derived.Test.YtihcggepeadklaaGreatDoorAlvA
/- PathRows: the law's own walk. -/
set_option linter.unusedSimpArgs false
set_option linter.unusedVariables false
namespace Go.Proofs.YtihcggepeadklaaGreatDoor
open Go.RowKit Go.Lib
theorem set_wt : ∀ (R l : List (List El)), R.Pairwise (fun a b => lexL oeE a b < 0) → (∀ p ∈ R, p ∈ l) → R.length + wtQ R ≤ l.length + wtQ l ∧ R.length ≤ l.length
  | [], l, _, _ => by simp [wtQ]
  | x :: t, l, hr, hs => by
    obtain ⟨l1, l2, rfl⟩ := List.append_of_mem (hs x List.mem_cons_self)
    rw [List.pairwise_cons] at hr
    have ih := set_wt t (l1 ++ l2) hr.2 fun p hp => by
      have h1 := hs p (List.mem_cons_of_mem _ hp)
      have hne : p ≠ x := fun e => by have := hr.1 p hp; rw [e, wk_P.self] at this; omega
      rw [List.mem_append, List.mem_cons] at h1
      rw [List.mem_append]
      exact h1.elim .inl (fun h => h.elim (fun e => absurd e hne) .inr)
    simp only [List.length_append, List.length_cons, wtQ_app, wtQ] at ih ⊢
    omega
theorem wtQ_rev : ∀ l : List (List El), wtQ l.reverse = wtQ l
  | [] => rfl
  | x :: t => by rw [List.reverse_cons, wtQ_app, wtQ_rev t]; simp [wtQ]; omega
theorem rs_self {l R : List (List El)} (h : Rs l R) : Rs R R := ⟨h.1, fun p => Iff.rfl⟩
theorem rs_rev {l R : List (List El)} (h : Rs l.reverse R) : Rs l R := ⟨h.1, fun p => (h.2 p).trans List.mem_reverse⟩
theorem rise_cmp {R : List (List El)} (h : R.Pairwise (fun a b => lexL oeE a b < 0)) (hg : ∀ p ∈ R, pathB p = true) {i : Nat} (hi : i + 1 < R.length) : cmpP (R[i]'(by omega)) (R[i + 1]'hi) = -1 := by
  rw [cmp_oe (hg _ (List.getElem_mem _)) (hg _ (List.getElem_mem _))]
  have := List.pairwise_iff_getElem.1 h i (i + 1) (by omega) hi (by omega)
  rcases t3_L t3_E R[i] R[i + 1] with h | h | h <;> omega
/-- are the last n of them paths? -/
def tgB (l : List (List El)) (n : Nat) : Bool := (l.reverse.take n).all pathB
theorem tg_zero (l : List (List El)) : tgB l 0 = true := rfl
theorem tg_succ {l : List (List El)} {n : Nat} (h : n < l.length) : tgB l (n + 1) = (tgB l n && pathB (l[l.length - 1 - n]'(by omega))) := by
  unfold tgB
  rw [List.take_succ_eq_append_getElem (by simpa using h), List.all_append]
  simp
theorem tg_all {l : List (List El)} : tgB l l.length = true ↔ ∀ p ∈ l, pathB p = true := by
  unfold tgB
  rw [List.take_of_length_le (by simp), List.all_eq_true]
  simp
set_option maxHeartbeats 16000000 in
set_option maxRecDepth 100000 in
theorem rows_walk (l : List (List El)) (al : Option Addr) (cl bl ol : Nat) (w : World) (td : Td w) (hal : Headed al l.length cl bl ol) (hl : liesQ w (Old w) l bl ol) :
    Calls Tryz.prog 5 #[.slice al l.length cl] w (BPost true w) := by
  have HL := hmk hl
  have HT := hmk td
  clear hl td
  have KP : Hid (∀ W, Below w.heap.size w W → liesQ W (Old w) l bl ol ∧ (∀ x, Old w x → x < W.heap.size) ∧ Td W) := fun W h =>
    ⟨liesQ_keep (fun x hx => h.block x hx) (fun _ h => h) HL.out, fun x (hx : x < w.heap.size) => Nat.lt_of_lt_of_le hx h.size, HT.out.below h HT.out.z h.size⟩
  have hll : l.length ≤ 9223372036854775807 := Nat.le_trans hal.le hal.max
  obtain ⟨k1, k2, k3⟩ := KP.out w (Below.refl _ _)
  have c1 := hmk (bpathsQ_any l (Old w) al cl bl ol w hal k1 k2)
  clear k1 k2 k3
  go_enter Tryz.func5, Tryz.ntmps5
  go_wp2_with fail
  refine c1.out.mono ?_
  rintro e w1 ⟨r, rfl, hwt, b1⟩
  cases r
  case true =>
    go_wp2_with fail
    go_ret
    exact ⟨rfl, b1⟩
  replace hwt := hwt rfl
  have c2 := hmk (alive_any w1 (KP.out w1 b1).2.2)
  clear c1
  go_wp2_with fail
  refine c2.out.mono ?_
  rintro e w2 ⟨rfl, b2⟩
  have B2 := b1.trans (b2.mono b1.size)
  clear b1 b2 c2
  obtain ⟨i1, hi1, hy0, hy1, hy2⟩ := info_parts info33
  have hJ : Hid (Tryz.prog.info? 23 = some i1 ∧ i1.zero = some (.slice none 0 0) ∧ i1.size = 1 ∧ i1.bytes = 24) := ⟨hi1, hy0, hy1, hy2⟩
  clear hi1 hy0 hy1 hy2
  go_wp2_with fail
  go_loopw [4, 5, 6] (fun e4 e5 e6 wq => ∃ (n : Nat) (SM : Nat → Prop), n ≤ l.length ∧ e6 = .int .i64 ((l.length : Int) - 1 - n) ∧ e5 = .bool (tgB l n) ∧ Below w.heap.size w wq ∧ OwnQ wq 0 SM e4 (l.reverse.take n) ∧ Hid (∀ r, e4.ownBlock = some r → w.heap.size ≤ r) ∧ Hid (∀ b, SM b → b < w.heap.size)) (fun _ _ e6 _ => (RowKit.intOf e6 + 1).toNat)
  case atStart => exact ⟨0, _, by omega, by go_num, by rw [tg_zero], B2, OwnR.nil _ _, hmk (fun r h => by simp [Value.ownBlock] at h), hmk (fun b (h : False) => h.elim)⟩
  case round =>
    clear B2
    obtain ⟨n, SM, hn, rfl, rfl, bq, oq, HOM, HSM⟩ := hrel
    by_cases hnl : n < l.length
    · obtain ⟨m, hm⟩ : ∃ m : Nat, m = l.length - 1 - n := ⟨_, rfl⟩
      have hml : m < l.length := by omega
      have hmz : (l.length : Int) - 1 - n = (m : Int) := by omega
      have HNN : Hid (l.length = m + 1 + n) := by show _ = _; omega
      have HTS : Hid (tgB l (n + 1) = (tgB l n && pathB l[m])) := by show _ = _; rw [tg_succ hnl]; congr 2; simp [hm]
      have HTK : Hid (l.reverse.take (n + 1) = l.reverse.take n ++ [l[m]]) := by
        show _ = _
        rw [List.take_succ_eq_append_getElem (by simpa using hnl)]
        congr 2
        simp [hm]
      rw [hmz]
      clear hm hmz
      have y1 : (m : Int) < l.length := by omega
      have y2 : (m : Int) ≥ 0 := by omega
      obtain ⟨hSb, v, hv, aq, cq, bz, oz, rfl, hhq, hlq⟩ := HL.out m hml
      obtain rfl : al = some ⟨bl, ol, none⟩ := hal.at_.resolve_left (by omega)
      have HK : Hid (∀ W, Below w.heap.size w W → W.cell? ⟨bl, ol + m, none⟩ = some (.slice aq (l[m]).length cq) ∧ liesP W (Old w) l[m] bz oz) := fun W h =>
        ⟨(World.cell?_of_block (w := w) (a := ⟨bl, ol + m, none⟩) (h.block bl hSb)).trans hv, liesP_keep (fun x hx => h.block x hx) (fun _ h => h) hlq⟩
      have r0 := (HK.out wr bq).1
      have bA : Below w.heap.size w (wr.alloc (.cells #[.slice aq (l[m]).length cq] 23)) := bq.alloc bq.size _
      have HEQ : Hid (EQ l[m] (wr.alloc (.cells #[.slice aq (l[m]).length cq] 23)) (Old w) [.slice aq (l[m]).length cq]) := ⟨_, rfl, aq, cq, bz, oz, rfl, hhq, (HK.out _ bA).2⟩
      have HSX : Hid (∀ b, Old w b → 0 ≤ b ∧ b < (wr.alloc (.cells #[.slice aq (l[m]).length cq] 23)).heap.size ∧ some b ≠ u4.ownBlock) := fun b (hb : b < w.heap.size) => ⟨Nat.zero_le _, Nat.lt_of_lt_of_le hb bA.size, fun e => by have := HOM.out b e.symm; omega⟩
      have hlt : (l.reverse.take n).length = n := by rw [List.length_take, List.length_reverse]; omega
      have HLT := hmk hlt
      have hC : Hid (∀ W, Below w.heap.size w W → Calls Tryz.prog 10 #[.slice aq (l[m]).length cq] W (NPost (errP l[m]) W)) := fun W h => pcheck_any l[m] (Old w) aq cq bz oz W (KP.out W h).2.2.tb hhq (HK.out W h).2 (KP.out W h).2.1 (by have := wtQ_mem (List.getElem_mem hml); omega)
      have oA := oq.alloc keepQ (.cells #[.slice aq (l[m]).length cq] 23)
      have HKC : Hid (∀ W, Below w.heap.size w W → W.cell? ⟨bl, ol + m, none⟩ = some (.slice aq (l[m]).length cq)) := fun W h => (HK.out W h).1
      clear hv hhq hlq hSb oq hlt HK
      generalize (l[m]).length = nm at *
      go_wp2_with (at_builtin; go_loud (refine wpl_push keepQ _ rfl (.tmp 27) (.tmp 32) 36 rfl 0 i1 _ 24 Tryz.underlying36 hJ.out.1 hJ.out.2.1 hJ.out.2.2.1 hJ.out.2.2.2 rfl (by decide) (by decide) u4 l[m] rfl oA wr.heap.size 1 (0, 0) rfl (heap_alloc_new wr _) rfl oneQ HEQ.out HSX.out (by have := HLT.out; omega) (Nat.zero_le _) ?_))
      intro g' cap w5 o5 g5 e5
      have HZR := hmk bq.size
      have b5 : Below w.heap.size w w5 := bA.grown g5 bA.size (fun k hk => HOM.out k hk)
      have HG5 : Hid (w.heap.size ≤ g') := by
        show _ ≤ _
        rcases e5 with e | e
        · exact HOM.out g' e
        · have := HZR.out; omega
      have hlt2 : min n l.length = n := by omega
      have HO5 : Hid (OwnQ w5 0 (fun b => SM b ∨ Old w b) (.slice (some ⟨g', 0, none⟩) (n + 1) cap) (l.reverse.take (n + 1))) := by rw [HTK.out]; exact o5
      have r5 := HKC.out w5 b5
      clear g5 e5 oA bA r0 o5 bq
      have HOM2 : Hid (∀ r, (Value.slice (some ⟨g', 0, none⟩) (n + 1) cap).ownBlock = some r → w.heap.size ≤ r) := fun r h => by
        simp [Value.ownBlock] at h
        have := HG5.out
        omega
      have HSM2 : Hid (∀ b, (SM b ∨ Old w b) → b < w.heap.size) := fun b hb => hb.elim (HSM.out b) id
      generalize hg : tgB l n = TG at *
      cases TG with
      | false =>
        have HTF : Hid (tgB l (n + 1) = false) := by show _ = _; rw [HTS.out]; rfl
        clear hg
        go_wp2_with fail
        go_roundw
        case rel => exact ⟨n + 1, _, by omega, by have := HNN.out; go_num, by rw [HTF.out], b5, HO5.out, HOM2, HSM2⟩
        case measure => simp [RowKit.intOf]
      | true =>
        clear hg
        cases hpb : pathB l[m] with
        | false =>
          have HTF : Hid (tgB l (n + 1) = false) := by show _ = _; rw [HTS.out, hpb]; rfl
          have e1 : errP l[m] = 90 := errP_no hpb
          rw [e1] at hC
          clear hpb e1
          go_wp2_with fail
          refine (hC.out _ b5).mono ?_
          rintro e w6 ⟨rfl, b6⟩
          have b56 := b5.trans (b6.mono b5.size)
          have HO6 := hmk (HO5.out.below keepQ b6)
          clear b5 b6
          go_wp2_with fail
          go_roundw
          case rel => exact ⟨n + 1, _, by omega, by have := HNN.out; go_num, by rw [HTF.out], b56, HO6.out, HOM2, HSM2⟩
          case measure => simp [RowKit.intOf]
        | true =>
          have HTF : Hid (tgB l (n + 1) = true) := by show _ = _; rw [HTS.out, hpb]; rfl
          have e1 : errP l[m] = 0 := errP_yes hpb
          rw [e1] at hC
          clear hpb e1
          go_wp2_with fail
          refine (hC.out _ b5).mono ?_
          rintro e w6 ⟨rfl, b6⟩
          have b56 := b5.trans (b6.mono b5.size)
          have HO6 := hmk (HO5.out.below keepQ b6)
          clear b5 b6
          go_wp2_with fail
          go_roundw
          case rel => exact ⟨n + 1, _, by omega, by have := HNN.out; go_num, by rw [HTF.out], b56, HO6.out, HOM2, HSM2⟩
          case measure => simp [RowKit.intOf]
    · obtain rfl : n = l.length := by omega
      have hrv : l.reverse.take l.length = l.reverse := List.take_of_length_le (by simp)
      rw [hrv] at oq
      obtain ⟨ta, tc, tb, to_, rfl, htd, htl⟩ := own_listQ (T := fun b => b < wr.heap.size) oq (fun b hb => Nat.lt_of_lt_of_le (HSM.out b hb) bq.size) (fun g hg => (oq.lt hg).2)
      rw [List.length_reverse] at htd ⊢
      have y0 : ¬ ((l.length : Int) - 1 - l.length ≥ 0) := by omega
      have HTG := hmk (@tg_all l)
      have C1 := hmk (sort_any l (Old w) al cl bl ol wr (KP.out wr bq).2.2.tb hal (KP.out wr bq).1 (KP.out wr bq).2.1 hwt)
      have HTL := hmk htl
      have C2 : Hid (∀ W, Below wr.heap.size wr W → Calls Tryz.prog 16 #[.slice ta l.length tc] W (SoPost l.reverse W)) := fun W h => by
        have hb := bq.trans (h.mono bq.size)
        have c := sort_any l.reverse (fun b => b < wr.heap.size) ta tc tb to_ W (KP.out W hb).2.2.tb (by rw [List.length_reverse]; exact htd) (liesQ_keep (fun x hx => h.block x hx) (fun _ h => h) HTL.out) (fun b hb => Nat.lt_of_lt_of_le hb h.size) (by rw [List.length_reverse, wtQ_rev]; exact hwt)
        rw [List.length_reverse] at c
        exact c
      have BQ := hmk bq
      clear oq hrv htl HSM HOM bq hnl hn
      generalize tgB l l.length = TG at *
      go_wp2_with fail
      refine C1.out.mono ?_
      rintro e w1' ⟨b1, h1⟩
      rcases h1 with ⟨hgd, R, ra, rc, rb, ro, hR, rfl, hrh, hrl⟩ | ⟨hbad, rfl⟩
      rotate_left
      · have hTF : TG = false := by
          cases TG with
          | false => rfl
          | true => exact absurd (HTG.out.1 rfl) hbad
        subst hTF
        have HBD := hmk hbad
        clear hbad
        go_wp2_with fail
        refine (C2.out _ b1).mono ?_
        rintro e w2' ⟨b2, h2⟩
        rcases h2 with ⟨hgd, _⟩ | ⟨_, rfl⟩
        · exact absurd (fun p hp => hgd p (List.mem_reverse.2 hp)) HBD.out
        have HB := hmk (BQ.out.trans ((b1.trans (b2.mono b1.size)).mono BQ.out.size))
        go_wp2_with fail
        go_ret
        exact ⟨rfl, HB.out⟩
      have hTT : TG = true := HTG.out.2 hgd
      subst hTT
      have HGD := hmk hgd
      have HR := hmk hR
      have HRL := hmk hrl
      clear hgd hR hrl
      go_wp2_with fail
      refine (C2.out _ b1).mono ?_
      rintro e w2' ⟨b2, h2⟩
      rcases h2 with ⟨_, R2, sa, sc, sb, so, hR2, rfl, hsh, hsl⟩ | ⟨hbad, rfl⟩
      rotate_left
      · exact absurd (fun p hp => HGD.out p (List.mem_reverse.1 hp)) hbad
      obtain rfl : R2 = R := (rs_rev hR2).uniq HR.out
      have HSL := hmk hsl
      have hsw := set_wt R2 l HR.out.1 (fun p hp => (HR.out.2 p).1 hp)
      have HGR : Hid (∀ p ∈ R2, pathB p = true) := fun p hp => HGD.out p ((HR.out.2 p).1 hp)
      have B2 := b1.trans (b2.mono b1.size)
      have C3 := hmk (sort_any R2 (New wr w1') ra rc rb ro w2' (KP.out w2' (BQ.out.trans (B2.mono BQ.out.size))).2.2.tb hrh (liesQ_keep (fun x hx => b2.block x hx.2) (fun _ h => h) HRL.out) (fun x hx => Nat.lt_of_lt_of_le hx.2 b2.size) (by omega))
      clear hsl hR2 C1 C2
      go_wp2_with fail
      refine C3.out.mono ?_
      rintro e w3' ⟨b3, h3⟩
      rcases h3 with ⟨_, R3, qa, qc, qb, qo, hR3, rfl, hqh, hql⟩ | ⟨hbad, rfl⟩
      rotate_left
      · exact absurd HGR.out hbad
      obtain rfl : R3 = R2 := hR3.uniq (rs_self HR.out)
      have B3 := B2.trans (b3.mono B2.size)
      have HQL := hmk hql
      have hz2 := b2.size
      have hz3 := b3.size
      have KM : Hid (∀ W, Below w3'.heap.size w3' W → liesQ W (New wr w1') R3 rb ro ∧ liesQ W (New w1' w2') R3 sb so ∧ liesQ W (New w2' w3') R3 qb qo ∧ (∀ x, New wr w1' x → x < W.heap.size) ∧ (∀ x, New w1' w2' x → x < W.heap.size) ∧ (∀ x, New w2' w3' x → x < W.heap.size) ∧ Below w.heap.size w W) := fun W h => by
        have hzW := h.size
        exact ⟨liesQ_keep (fun x hx => (h.block x (by have := hx.2; omega)).trans ((b3.block x (by have := hx.2; omega)).trans (b2.block x hx.2))) (fun _ h => h) HRL.out, liesQ_keep (fun x hx => (h.block x (by have := hx.2; omega)).trans (b3.block x hx.2)) (fun _ h => h) HSL.out, liesQ_keep (fun x hx => h.block x hx.2) (fun _ h => h) HQL.out, fun x hx => by have := hx.2; omega, fun x hx => by have := hx.2; omega, fun x hx => by have := hx.2; omega, BQ.out.trans ((B3.trans (h.mono B3.size)).mono BQ.out.size)⟩
      have HR3 := hmk HR.out
      generalize New wr w1' = SA at KM
      generalize New w1' w2' = SB at KM
      generalize New w2' w3' = SC at KM
      clear hql hR3 C3 b1 b2 b3 B2 B3 hz2 hz3 HRL HSL HQL HR
      obtain ⟨j1, j2, j3, j4, j5, j6, j7⟩ := KM.out w3' (Below.refl _ _)
      have c4 := hmk (pssame_any R3 SA SB ra rc rb ro sa sc sb so w3' hrh j1 hsh j2 j4 j5)
      clear j1 j2 j3 j4 j5 j6 j7
      go_wp2_with fail
      refine c4.out.mono ?_
      rintro e w4 ⟨rfl, b4⟩
      obtain ⟨j1, j2, j3, j4, j5, j6, j7⟩ := KM.out w4 b4
      have c5 := hmk (pssame_any R3 SA SC ra rc rb ro qa qc qb qo w4 hrh j1 hqh j3 j4 j6)
      have yl : ¬ (R3.length : Int) > l.length := by have := hsw.2; omega
      have hnr : R3.length ≤ 9223372036854775807 := Nat.le_trans hrh.le hrh.max
      clear j1 j2 j3 j4 j5 j6 j7 c4
      go_wp2_with fail
      refine c5.out.mono ?_
      rintro e w5 ⟨rfl, b5⟩
      have B5 := b4.trans (b5.mono b4.size)
      clear b4 b5 c5
      go_wp2_with fail
      go_loopw [13] (fun e wq => ∃ j : Nat, j ≤ R3.length ∧ e = .int .i64 (j : Int) ∧ Below w3'.heap.size w3' wq) (fun e _ => R3.length - (RowKit.intOf e).toNat)
      case atStart => exact ⟨0, by omega, rfl, B5⟩
      case round =>
        clear B5
        obtain ⟨j, hj, rfl, bj⟩ := hrel
        by_cases hjl : j < R3.length
        · have y1 : (j : Int) < R3.length := by omega
          obtain ⟨j1, _, _, j4, _, _, j7⟩ := KM.out wr bj
          obtain ⟨k1, k2, k3⟩ := KP.out wr j7
          obtain ⟨hSb, v, hv, xa, xc, xb, xo, rfl, hxh, hxl⟩ := j1 j hjl
          obtain rfl : ra = some ⟨rb, ro, none⟩ := hrh.at_.resolve_left (by omega)
          have hrb : rb < wr.heap.size := World.block_lt_of_cell? wr _ hv
          have p0 : ∀ x : Sub wr.heap.size wr, x.w.cell? ⟨rb, ro + j, none⟩ = some (.slice xa (R3[j]).length xc) := sub_cell hv hrb
          have CW : Hid (∀ x : Sub wr.heap.size wr, Calls Tryz.prog 18 #[.slice al l.length cl, .slice xa (R3[j]).length xc] x.w fun e w'' => e = .returned (.bool true) ∧ ∃ y : Sub wr.heap.size wr, w'' = y.w) :=
            sub_call fun w' hb => by
              refine (within_any l R3[j] HGD.out (HGR.out _ (List.getElem_mem hjl)) (Old w) SA al cl bl ol xa xc xb xo w' hal (liesQ_keep (fun x hx => hb.block x (k2 x hx)) (fun _ h => h) k1) hxh (liesP_keep (fun x hx => hb.block x (j4 x hx)) (fun _ h => h) hxl) (fun x hx => Nat.lt_of_lt_of_le (k2 x hx) hb.size) (fun x hx => Nat.lt_of_lt_of_le (j4 x hx) hb.size) ((HR3.out.2 _).1 (List.getElem_mem hjl))).mono ?_
              rintro e w'' ⟨he, h2⟩
              exact ⟨he, hb.trans (h2.mono hb.size)⟩
          rcases Nat.eq_zero_or_pos j with h0 | h0
          · subst h0
            have p00 : ∀ x : Sub wr.heap.size wr, x.w.cell? ⟨rb, ro, none⟩ = some (.slice xa (R3[0]).length xc) := p0
            clear j1 j4 j7 k1 k2 k3 hv hxh hxl hSb p0
            generalize (R3[0]).length = n0 at *
            go_wp2_with fail
            refine wp_region_sub wr.heap.size (by kernel_rfl) (by kernel_rfl) ?_
            repeat (go_big_quiet_step (first | with_reducible exact CW.out _))
            refine wpQuiet_nil ?_
            rintro wq ⟨⟨wq', bq⟩, hq⟩
            have hq' : wq = wq' := hq
            subst hq'
            clear hq
            have bjq := bj.trans (bq.mono bj.size)
            clear bj bq
            go_wp2_with fail
            go_roundw
            case rel => exact ⟨0 + 1, by omega, by go_num, bjq⟩
            case measure => simp [RowKit.intOf]; omega
          · obtain ⟨q, rfl⟩ : ∃ q, j = q + 1 := ⟨j - 1, by omega⟩
            obtain ⟨hSc, v, hv2, za, zc, zb, zo, rfl, hzh, hzl⟩ := j1 q (by omega)
            have p1 : ∀ x : Sub wr.heap.size wr, x.w.cell? ⟨rb, ro + q, none⟩ = some (.slice za (R3[q]'(by omega)).length zc) := sub_cell hv2 hrb
            have hwq1 : wtP (R3[q]'(by omega)) ≤ 2147483647 := by have := wtQ_mem (List.getElem_mem (l := R3) (n := q) (by omega)); omega
            have hwq2 : wtP R3[q + 1] ≤ 2147483647 := by have := wtQ_mem (List.getElem_mem hjl); omega
            have hcm := rise_cmp HR3.out.1 HGR.out hjl
            have CC : Hid (∀ x : Sub wr.heap.size wr, Calls Tryz.prog 13 #[.slice za (R3[q]'(by omega)).length zc, .slice xa (R3[q + 1]).length xc] x.w fun e w'' => e = .returned (.int .i64 (-1)) ∧ ∃ y : Sub wr.heap.size wr, w'' = y.w) :=
              sub_call fun w' hb => by
                have c := cmpP_any (R3[q]'(by omega)) R3[q + 1] SA SA za zc zb zo xa xc xb xo w' (k3.below hb k3.z hb.size).tb hzh (liesP_keep (fun x hx => hb.block x (j4 x hx)) (fun _ h => h) hzl) hxh (liesP_keep (fun x hx => hb.block x (j4 x hx)) (fun _ h => h) hxl) (fun x hx => Nat.lt_of_lt_of_le (j4 x hx) hb.size) (fun x hx => Nat.lt_of_lt_of_le (j4 x hx) hb.size) hwq1 hwq2
                rw [hcm] at c
                refine c.mono ?_
                rintro e w'' ⟨he, h2⟩
                exact ⟨he, hb.trans (h2.mono hb.size)⟩
            have y2 : (q : Int) < R3.length := by omega
            have y3 : decide ((0 : Int) < (q : Int) + 1) = true := by simp
            clear j1 j4 j7 k1 k2 k3 hv hv2 hxh hxl hzh hzl hSb hSc hwq1 hwq2 hcm
            generalize (R3[q + 1]).length = n1 at *
            generalize (R3[q]'(by omega)).length = n0 at *
            go_wp2_with fail
            refine wp_region_sub wr.heap.size (by kernel_rfl) (by kernel_rfl) ?_
            repeat (go_big_quiet_step (first | with_reducible exact CW.out _ | with_reducible exact CC.out _))
            refine wpQuiet_nil ?_
            rintro wq ⟨⟨wq', bq⟩, hq⟩
            have hq' : wq = wq' := hq
            subst hq'
            clear hq
            have bjq := bj.trans (bq.mono bj.size)
            clear bj bq
            go_wp2_with fail
            go_roundw
            case rel => exact ⟨q + 1 + 1, by omega, by go_num, bjq⟩
            case measure => simp [RowKit.intOf]; omega
        · obtain rfl : j = R3.length := by omega
          have y2 : ¬ (R3.length : Int) < R3.length := by omega
          go_wp2_with fail
          go_loopw [14] (fun e wq => ∃ j : Nat, j ≤ l.length ∧ e = .int .i64 (j : Int) ∧ Below w3'.heap.size w3' wq) (fun e _ => l.length - (RowKit.intOf e).toNat)
          case atStart => exact ⟨0, by omega, rfl, bj⟩
          case round =>
            clear bj
            obtain ⟨i, hi, rfl, bi⟩ := hrel
            by_cases hil : i < l.length
            · have y1 : (i : Int) < l.length := by omega
              obtain ⟨j1, _, _, j4, _, _, j7⟩ := KM.out wr bi
              obtain ⟨k1, k2, k3⟩ := KP.out wr j7
              obtain ⟨hSb, v, hv, xa, xc, xb, xo, rfl, hxh, hxl⟩ := k1 i hil
              obtain rfl : al = some ⟨bl, ol, none⟩ := hal.at_.resolve_left (by omega)
              have c := hmk (within_any R3 l[i] HGR.out (HGD.out _ (List.getElem_mem hil)) SA (Old w) ra rc rb ro xa xc xb xo wr hrh j1 hxh hxl j4 k2 ((HR3.out.2 _).2 (List.getElem_mem hil)))
              clear j1 j4 j7 k1 k2 k3 hxh hxl hSb
              generalize (l[i]).length = n1 at *
              go_wp2_with fail
              refine c.out.mono ?_
              rintro e w7 ⟨rfl, b7⟩
              have b8 := bi.trans (b7.mono bi.size)
              clear b7
              go_wp2_with fail
              go_roundw
              case rel => exact ⟨i + 1, by omega, by go_num, b8⟩
              case measure => simp [RowKit.intOf]; omega
            · obtain rfl : i = l.length := by omega
              have y1 : ¬ (l.length : Int) < l.length := by omega
              have HB := hmk (KM.out wr bi).2.2.2.2.2.2
              go_wp2_with fail
              go_ret
              exact ⟨rfl, HB.out⟩
end Go.Proofs.YtihcggepeadklaaGreatDoor
