import Derived.Test.YtihcggepeadklaaGreatDoorAlvA
import Derived.Deep.DeepCutAuto
/- PathBack: the law's own walk, for what is of a bulk. -/
set_option linter.unusedSimpArgs false
set_option linter.unusedVariables false
namespace Go.Proofs.YtihcggepeadklaaGreatDoor
open Go.RowKit Go.Lib
set_option maxHeartbeats 16000000 in
set_option maxRecDepth 100000 in
theorem back_walk (p q : List El) (s : ByteArray) (ap : Option Addr) (cp bp op : Nat) (aq : Option Addr) (cq bq oq : Nat) (w : World) (td : Td w) (hap : Headed ap p.length cp bp op) (hp : liesP w (Old w) p bp op) (haq : Headed aq q.length cq bq oq) (hq : liesP w (Old w) q bq oq) (hwp : wtP p ≤ 1048576) (hwq : wtP q ≤ 1048576) (hws : s.size ≤ 1048576) :
    Calls Tryz.prog 3 #[.slice ap p.length cp, .slice aq q.length cq, .string s] w (BPost true w) := by
  obtain ⟨A, hA⟩ : ∃ A : ByteArray, Hid (A = ⟨(tT p).toArray⟩) := ⟨_, rfl⟩
  obtain ⟨A', hA'⟩ : ∃ A' : ByteArray, Hid (A' = ⟨(tT q).toArray⟩) := ⟨_, rfl⟩
  obtain ⟨n, hn⟩ : ∃ n : Nat, Hid (n = errP p) := ⟨_, rfl⟩
  obtain ⟨n', hn'⟩ : ∃ n' : Nat, Hid (n' = errP q) := ⟨_, rfl⟩
  have HIP := hmk (in64_liesP hp)
  have HIQ := hmk (in64_liesP hq)
  have HP := hmk hp
  have HQ := hmk hq
  have HT := hmk td
  have HWP := hmk hwp
  have HWQ := hmk hwq
  have HWS := hmk hws
  clear hp hq td hwp hwq hws
  have KP : Hid (∀ W, Below w.heap.size w W → liesP W (Old w) p bp op ∧ liesP W (Old w) q bq oq ∧ (∀ x, Old w x → x < W.heap.size) ∧ Td W) := fun W h =>
    ⟨liesP_keep (fun x hx => h.block x hx) (fun _ h => h) HP.out, liesP_keep (fun x hx => h.block x hx) (fun _ h => h) HQ.out, fun x (hx : x < w.heap.size) => Nat.lt_of_lt_of_le hx h.size, HT.out.below h HT.out.z h.size⟩
  have B0 := Below.refl w.heap.size w
  have hwp2 : Hid (wtP p ≤ 2147483647) := Nat.le_trans HWP.out (by decide)
  have hwq2 : Hid (wtP q ≤ 2147483647) := Nat.le_trans HWQ.out (by decide)
  have C7p : Hid (∀ W, Below w.heap.size w W → Calls Tryz.prog 7 #[.slice ap p.length cp] W (PbPost p W)) := fun W h => bpath_any p (Old w) ap cp bp op W hap (KP.out W h).1 (KP.out W h).2.2.1
  have C7q : Hid (∀ W, Below w.heap.size w W → Calls Tryz.prog 7 #[.slice aq q.length cq] W (PbPost q W)) := fun W h => bpath_any q (Old w) aq cq bq oq W haq (KP.out W h).2.1 (KP.out W h).2.2.1
  have C8 : Hid (∀ W, Below w.heap.size w W → Calls Tryz.prog 8 #[] W (BPost true W)) := fun W h => alive_any W (KP.out W h).2.2.2
  have C9p : Hid (∀ W, Below w.heap.size w W → Calls Tryz.prog 9 #[.slice ap p.length cp] W (fun e w' => e = .returned (.tuple #[.string A, .int .i64 (n : Int)]) ∧ Below W.heap.size W w')) := fun W h => by
    rw [hA.out, hn.out]
    exact text_any p (Old w) ap cp bp op W (KP.out W h).2.2.2 hap (KP.out W h).1 (KP.out W h).2.2.1 hwp2.out
  have C9q : Hid (∀ W, Below w.heap.size w W → Calls Tryz.prog 9 #[.slice aq q.length cq] W (fun e w' => e = .returned (.tuple #[.string A', .int .i64 (n' : Int)]) ∧ Below W.heap.size W w')) := fun W h => by
    rw [hA'.out, hn'.out]
    exact text_any q (Old w) aq cq bq oq W (KP.out W h).2.2.2 haq (KP.out W h).2.1 (KP.out W h).2.2.1 hwq2.out
  have CEp : Hid (∀ W, Below w.heap.size w W → Calls Tryz.prog 10 #[.slice ap p.length cp] W (NPost n W)) := fun W h => by
    rw [hn.out]
    exact pcheck_any p (Old w) ap cp bp op W (KP.out W h).2.2.2.tb hap (KP.out W h).1 (KP.out W h).2.2.1 hwp2.out
  have S12 : Hid (∀ W, Below w.heap.size w W → pathB p = true → pathB q = true → ∀ E : Bool, (E = true ↔ p = q) → Calls Tryz.prog 12 #[.slice ap p.length cp, .slice aq q.length cq] W (BPost E W)) := fun W h g1 g2 E hE => pcmp_any p q g1 g2 (Old w) (Old w) ap cp bp op aq cq bq oq W hap (KP.out W h).1 haq (KP.out W h).2.1 (KP.out W h).2.2.1 (KP.out W h).2.2.1 E hE
  have SR : Hid (∀ (W W1 : World) (a' : Option Addr) (c' b' o' : Nat), Below w.heap.size w W1 → pathB p = true → Headed a' p.length c' b' o' → liesP W1 (New W W1) p b' o' → Calls Tryz.prog 12 #[.slice a' p.length c', .slice ap p.length cp] W1 (BPost true W1)) := fun W W1 a' c' b' o' h g1 ha hl => pcmp_any p p g1 g1 (New W W1) (Old w) a' c' b' o' ap cp bp op W1 ha hl hap (KP.out W1 h).1 (fun x hx => hx.2) (KP.out W1 h).2.2.1 true ⟨fun _ => rfl, fun _ => rfl⟩
  have CA : Hid (∀ W, Below w.heap.size w W → pathB p = true → Calls Tryz.prog 11 #[.string A] W (fun e w' => ∃ a' c' b' o', e = .returned (.tuple #[.slice a' p.length c', .int .i64 (-1), .int .i64 0]) ∧ Headed a' p.length c' b' o' ∧ liesP w' (New W w') p b' o' ∧ Below W.heap.size W w')) := fun W h g => by
    have e2 : tT p = txT p := by rw [tT, if_pos g]
    rw [hA.out, e2]
    have hl := txT_len p HIP.out
    have hwp := HWP.out
    have c := parse_any ⟨(txT p).toArray⟩ W (KP.out W h).2.2.2 (by show (txT p).toArray.size ≤ _; rw [List.size_toArray]; omega)
    rw [show ((⟨(txT p).toArray⟩ : ByteArray)).data.toList = txT p from rfl, par_txT g HIP.out] at c
    exact c
  have CS : Hid (∀ W, Below w.heap.size w W → Calls Tryz.prog 11 #[.string s] W (BkP s W)) := fun W h => parse_back s W (KP.out W h).2.2.2 HWS.out
  have CT : Hid (∀ (W W1 W2 : World) (r : List El) (a' : Option Addr) (c' b' o' : Nat), Below w.heap.size w W2 → Below W1.heap.size W1 W2 → Headed a' r.length c' b' o' → liesP W1 (New W W1) r b' o' → wtP r ≤ 2147483647 → pathB r = true → tT r = s.data.toList → Calls Tryz.prog 9 #[.slice a' r.length c'] W2 (fun e w' => e = .returned (.tuple #[.string s, .int .i64 0]) ∧ Below W2.heap.size W2 w') ∧ Calls Tryz.prog 10 #[.slice a' r.length c'] W2 (NPost 0 W2)) := fun W W1 W2 r a' c' b' o' h hb ha hl hw hg ht => by
    have hl2 := liesP_keep (fun x (hx : New W W1 x) => hb.block x hx.2) (fun _ h => h) hl
    have hlt : ∀ x, New W W1 x → x < W2.heap.size := fun x hx => Nat.lt_of_lt_of_le hx.2 hb.size
    have e0 : errP r = 0 := errP_yes hg
    have c1 := text_any r (New W W1) a' c' b' o' W2 (KP.out W2 h).2.2.2 ha hl2 hlt hw
    have c2 := pcheck_any r (New W W1) a' c' b' o' W2 (KP.out W2 h).2.2.2.tb ha hl2 hlt hw
    unfold TPost at c1
    rw [e0, bytes_back ht] at c1
    rw [e0] at c2
    exact ⟨c1, c2⟩
  have HTd : Hid (∀ W, Below w.heap.size w W → Td W) := fun W h => (KP.out W h).2.2.2
  have ETX : Hid (pathB p = true → pathB q = true → (A = A' ↔ p = q)) := fun g1 g2 => by
    have e2 : tT p = txT p := by rw [tT, if_pos g1]
    have e3 : tT q = txT q := by rw [tT, if_pos g2]
    rw [hA.out, hA'.out, e2, e3]
    constructor
    · intro h
      have h2 : (txT p).toArray = (txT q).toArray := congrArg ByteArray.data h
      exact txT_inj g1 g2 HIP.out HIQ.out (by simpa using h2)
    · intro h; rw [h]
  clear KP HP HQ HT hwp2 hwq2 HWP HWQ HWS HIP HIQ hap haq
  go_enter Tryz.func3, Tryz.ntmps3
  go_wp2_with fail
  refine (C7p.out _ B0).mono ?_
  rintro e w1 ⟨r1, rfl, -, b1⟩
  have B1 := B0.trans (b1.mono B0.size)
  clear b1 B0 C7p
  cases r1
  case true =>
    have HB := hmk B1
    go_wp2_with fail
    go_ret
    exact ⟨rfl, HB.out⟩
  go_wp2_with fail
  refine (C7q.out _ B1).mono ?_
  rintro e w2 ⟨r2, rfl, -, b2⟩
  have B2 := B1.trans (b2.mono B1.size)
  clear b2 B1 C7q
  cases r2
  case true =>
    have HB := hmk B2
    go_wp2_with fail
    go_ret
    exact ⟨rfl, HB.out⟩
  go_wp2_with fail
  refine (C8.out _ B2).mono ?_
  rintro e w3 ⟨rfl, b3⟩
  have B3 := B2.trans (b3.mono B2.size)
  clear b3 B2 C8
  go_wp2_with fail
  refine (C9p.out _ B3).mono ?_
  rintro e w4 ⟨rfl, b4⟩
  have B4 := B3.trans (b4.mono B3.size)
  clear b4 B3 C9p
  go_wp2_with fail
  refine (C9q.out _ B4).mono ?_
  rintro e w5 ⟨rfl, b5⟩
  have B5 := B4.trans (b5.mono B4.size)
  clear b5 B4 C9q
  cases hgp : pathB p with
  | false =>
    have e1 : n = 90 := hn.out.trans (errP_no hgp)
    have e2 : A = ⟨#[]⟩ := hA.out.trans (by rw [tT, hgp]; rfl)
    clear hA hA' hn hn'
    subst e1
    subst e2
    clear hgp S12 SR CA ETX
    go_wp2_with fail
    refine (CEp.out _ B5).mono ?_
    rintro e w6 ⟨rfl, b6⟩
    have B6 := B5.trans (b6.mono B5.size)
    clear b6 B5 CEp
    go_wp2_with fail
    refine (CS.out _ B6).mono ?_
    rintro e wt1 (⟨r, a', c', b', o', rfl, ha', hl', hg', ht', hw', bt1⟩ | ⟨j, a', c', rfl, hj, cj, bt1⟩)
    · have BT := B6.trans (bt1.mono B6.size)
      have c := CT.out _ wt1 wt1 r a' c' b' o' BT (Below.refl _ _) ha' hl' hw' hg' ht'
      have D9 : Hid (Calls Tryz.prog 9 #[.slice a' r.length c'] wt1 (fun e w' => e = .returned (.tuple #[.string s, .int .i64 0]) ∧ Below wt1.heap.size wt1 w')) := c.1
      have D10 : Hid (∀ W2, Below w.heap.size w W2 → Below wt1.heap.size wt1 W2 → Calls Tryz.prog 10 #[.slice a' r.length c'] W2 (NPost 0 W2)) := fun W2 h1 h2 => (CT.out _ wt1 W2 r a' c' b' o' h1 h2 ha' hl' hw' hg' ht').2
      clear c ha' hl' hw' hg' ht' B6
      go_wp2_with fail
      refine D9.out.mono ?_
      rintro e wt2 ⟨rfl, bt2⟩
      have BT2 := BT.trans (bt2.mono BT.size)
      have c10 := hmk (D10.out _ BT2 bt2)
      clear D9 D10 BT bt2 bt1
      go_wp2_with fail
      refine c10.out.mono ?_
      rintro e wt3 ⟨rfl, bt3⟩
      have HB := hmk (BT2.trans (bt3.mono BT2.size))
      clear BT2 bt3 c10
      go_wp2_with fail
      go_ret
      exact ⟨rfl, HB.out⟩
    · have BT := B6.trans (bt1.mono B6.size)
      have CJ := hmk cj
      have hj1 : ((j : Int) ≤ (s.size : Int)) := by omega
      have hj2 : ((j : Int) < (s.size : Int)) := by omega
      have hj3 : (0 : Int) ≤ (j : Int) := by omega
      clear cj B6 bt1
      go_wp2_with fail
      have hmm : (max 0 (min (j : Int) (s.size : Int))).toNat = j := by omega
      rw [hmm]
      clear hmm
      refine (CJ.out _ (HTd.out _ BT)).mono ?_
      rintro e wt2 ⟨ax, nx, cx, rfl, bt2⟩
      have HB := hmk (BT.trans (bt2.mono BT.size))
      clear BT bt2 CJ
      go_wp2_with fail
      go_ret
      exact ⟨rfl, HB.out⟩
  | true =>
  have e1 : n = 0 := hn.out.trans (errP_yes hgp)
  clear hA hn
  subst e1
  have CA' : Hid (∀ W, Below w.heap.size w W → Calls Tryz.prog 11 #[.string A] W (fun e w' => ∃ a' c' b' o', e = .returned (.tuple #[.slice a' p.length c', .int .i64 (-1), .int .i64 0]) ∧ Headed a' p.length c' b' o' ∧ liesP w' (New W w') p b' o' ∧ Below W.heap.size W w')) := fun W h => CA.out W h hgp
  have HGP := hmk hgp
  clear hgp CA
  go_wp2_with fail
  refine (CEp.out _ B5).mono ?_
  rintro e w6 ⟨rfl, b6⟩
  have B6 := B5.trans (b6.mono B5.size)
  clear b6 B5 CEp
  go_wp2_with fail
  refine (CA'.out _ B6).mono ?_
  rintro e w7 ⟨a', c', b', o', rfl, ha', hl', b7⟩
  have B7 := B6.trans (b7.mono B6.size)
  have cr := hmk (SR.out w6 w7 a' c' b' o' B7 HGP.out ha' hl')
  clear b7 B6 CA' SR ha' hl'
  go_wp2_with fail
  refine cr.out.mono ?_
  rintro e w8 ⟨rfl, b8⟩
  have B8 := B7.trans (b8.mono B7.size)
  clear b8 B7 cr
  cases hgq : pathB q with
  | false =>
    have e1 : n' = 90 := hn'.out.trans (errP_no hgq)
    have e2 : A' = ⟨#[]⟩ := hA'.out.trans (by rw [tT, hgq]; rfl)
    clear hA' hn'
    subst e1
    subst e2
    clear hgq S12 ETX
    go_wp2_with fail
    refine (CS.out _ B8).mono ?_
    rintro e wt1 (⟨r, a', c', b', o', rfl, ha', hl', hg', ht', hw', bt1⟩ | ⟨j, a', c', rfl, hj, cj, bt1⟩)
    · have BT := B8.trans (bt1.mono B8.size)
      have c := CT.out _ wt1 wt1 r a' c' b' o' BT (Below.refl _ _) ha' hl' hw' hg' ht'
      have D9 : Hid (Calls Tryz.prog 9 #[.slice a' r.length c'] wt1 (fun e w' => e = .returned (.tuple #[.string s, .int .i64 0]) ∧ Below wt1.heap.size wt1 w')) := c.1
      have D10 : Hid (∀ W2, Below w.heap.size w W2 → Below wt1.heap.size wt1 W2 → Calls Tryz.prog 10 #[.slice a' r.length c'] W2 (NPost 0 W2)) := fun W2 h1 h2 => (CT.out _ wt1 W2 r a' c' b' o' h1 h2 ha' hl' hw' hg' ht').2
      clear c ha' hl' hw' hg' ht' B8
      go_wp2_with fail
      refine D9.out.mono ?_
      rintro e wt2 ⟨rfl, bt2⟩
      have BT2 := BT.trans (bt2.mono BT.size)
      have c10 := hmk (D10.out _ BT2 bt2)
      clear D9 D10 BT bt2 bt1
      go_wp2_with fail
      refine c10.out.mono ?_
      rintro e wt3 ⟨rfl, bt3⟩
      have HB := hmk (BT2.trans (bt3.mono BT2.size))
      clear BT2 bt3 c10
      go_wp2_with fail
      go_ret
      exact ⟨rfl, HB.out⟩
    · have BT := B8.trans (bt1.mono B8.size)
      have CJ := hmk cj
      have hj1 : ((j : Int) ≤ (s.size : Int)) := by omega
      have hj2 : ((j : Int) < (s.size : Int)) := by omega
      have hj3 : (0 : Int) ≤ (j : Int) := by omega
      clear cj B8 bt1
      go_wp2_with fail
      have hmm : (max 0 (min (j : Int) (s.size : Int))).toNat = j := by omega
      rw [hmm]
      clear hmm
      refine (CJ.out _ (HTd.out _ BT)).mono ?_
      rintro e wt2 ⟨ax, nx, cx, rfl, bt2⟩
      have HB := hmk (BT.trans (bt2.mono BT.size))
      clear BT bt2 CJ
      go_wp2_with fail
      go_ret
      exact ⟨rfl, HB.out⟩
  | true =>
  have e1 : n' = 0 := hn'.out.trans (errP_yes hgq)
  clear hA' hn'
  subst e1
  have hE := ETX.out HGP.out hgq
  have HGQ := hmk hgq
  clear hgq ETX
  by_cases hpq : p = q
  · have hAA : A = A' := hE.2 hpq
    have cE := hmk (S12.out _ B8 HGP.out HGQ.out true ⟨fun _ => hpq, fun _ => rfl⟩)
    clear S12 hE hpq
    subst hAA
    go_wp2_with fail
    refine cE.out.mono ?_
    rintro e w9 ⟨rfl, b9⟩
    have B9 := B8.trans (b9.mono B8.size)
    clear b9 B8 cE
    go_wp2_with fail
    refine (CS.out _ B9).mono ?_
    rintro e wt1 (⟨r, a', c', b', o', rfl, ha', hl', hg', ht', hw', bt1⟩ | ⟨j, a', c', rfl, hj, cj, bt1⟩)
    · have BT := B9.trans (bt1.mono B9.size)
      have c := CT.out _ wt1 wt1 r a' c' b' o' BT (Below.refl _ _) ha' hl' hw' hg' ht'
      have D9 : Hid (Calls Tryz.prog 9 #[.slice a' r.length c'] wt1 (fun e w' => e = .returned (.tuple #[.string s, .int .i64 0]) ∧ Below wt1.heap.size wt1 w')) := c.1
      have D10 : Hid (∀ W2, Below w.heap.size w W2 → Below wt1.heap.size wt1 W2 → Calls Tryz.prog 10 #[.slice a' r.length c'] W2 (NPost 0 W2)) := fun W2 h1 h2 => (CT.out _ wt1 W2 r a' c' b' o' h1 h2 ha' hl' hw' hg' ht').2
      clear c ha' hl' hw' hg' ht' B9
      go_wp2_with fail
      refine D9.out.mono ?_
      rintro e wt2 ⟨rfl, bt2⟩
      have BT2 := BT.trans (bt2.mono BT.size)
      have c10 := hmk (D10.out _ BT2 bt2)
      clear D9 D10 BT bt2 bt1
      go_wp2_with fail
      refine c10.out.mono ?_
      rintro e wt3 ⟨rfl, bt3⟩
      have HB := hmk (BT2.trans (bt3.mono BT2.size))
      clear BT2 bt3 c10
      go_wp2_with fail
      go_ret
      exact ⟨rfl, HB.out⟩
    · have BT := B9.trans (bt1.mono B9.size)
      have CJ := hmk cj
      have hj1 : ((j : Int) ≤ (s.size : Int)) := by omega
      have hj2 : ((j : Int) < (s.size : Int)) := by omega
      have hj3 : (0 : Int) ≤ (j : Int) := by omega
      clear cj B9 bt1
      go_wp2_with fail
      have hmm : (max 0 (min (j : Int) (s.size : Int))).toNat = j := by omega
      rw [hmm]
      clear hmm
      refine (CJ.out _ (HTd.out _ BT)).mono ?_
      rintro e wt2 ⟨ax, nx, cx, rfl, bt2⟩
      have HB := hmk (BT.trans (bt2.mono BT.size))
      clear BT bt2 CJ
      go_wp2_with fail
      go_ret
      exact ⟨rfl, HB.out⟩
  · have hAA : ¬ A = A' := fun h => hpq (hE.1 h)
    have hAB : (A.toList == A'.toList) = false := beq_eq_false_iff_ne.2 (fun h => hAA (bytes_eq h))
    have cE := hmk (S12.out _ B8 HGP.out HGQ.out false ⟨(fun h => by cases h), fun h => absurd h hpq⟩)
    clear S12 hE hpq
    go_wp2_with fail
    refine cE.out.mono ?_
    rintro e w9 ⟨rfl, b9⟩
    have B9 := B8.trans (b9.mono B8.size)
    clear b9 B8 cE
    go_wp2_with fail
    refine (CS.out _ B9).mono ?_
    rintro e wt1 (⟨r, a', c', b', o', rfl, ha', hl', hg', ht', hw', bt1⟩ | ⟨j, a', c', rfl, hj, cj, bt1⟩)
    · have BT := B9.trans (bt1.mono B9.size)
      have c := CT.out _ wt1 wt1 r a' c' b' o' BT (Below.refl _ _) ha' hl' hw' hg' ht'
      have D9 : Hid (Calls Tryz.prog 9 #[.slice a' r.length c'] wt1 (fun e w' => e = .returned (.tuple #[.string s, .int .i64 0]) ∧ Below wt1.heap.size wt1 w')) := c.1
      have D10 : Hid (∀ W2, Below w.heap.size w W2 → Below wt1.heap.size wt1 W2 → Calls Tryz.prog 10 #[.slice a' r.length c'] W2 (NPost 0 W2)) := fun W2 h1 h2 => (CT.out _ wt1 W2 r a' c' b' o' h1 h2 ha' hl' hw' hg' ht').2
      clear c ha' hl' hw' hg' ht' B9
      go_wp2_with fail
      refine D9.out.mono ?_
      rintro e wt2 ⟨rfl, bt2⟩
      have BT2 := BT.trans (bt2.mono BT.size)
      have c10 := hmk (D10.out _ BT2 bt2)
      clear D9 D10 BT bt2 bt1
      go_wp2_with fail
      refine c10.out.mono ?_
      rintro e wt3 ⟨rfl, bt3⟩
      have HB := hmk (BT2.trans (bt3.mono BT2.size))
      clear BT2 bt3 c10
      go_wp2_with fail
      go_ret
      exact ⟨rfl, HB.out⟩
    · have BT := B9.trans (bt1.mono B9.size)
      have CJ := hmk cj
      have hj1 : ((j : Int) ≤ (s.size : Int)) := by omega
      have hj2 : ((j : Int) < (s.size : Int)) := by omega
      have hj3 : (0 : Int) ≤ (j : Int) := by omega
      clear cj B9 bt1
      go_wp2_with fail
      have hmm : (max 0 (min (j : Int) (s.size : Int))).toNat = j := by omega
      rw [hmm]
      clear hmm
      refine (CJ.out _ (HTd.out _ BT)).mono ?_
      rintro e wt2 ⟨ax, nx, cx, rfl, bt2⟩
      have HB := hmk (BT.trans (bt2.mono BT.size))
      clear BT bt2 CJ
      go_wp2_with fail
      go_ret
      exact ⟨rfl, HB.out⟩
end Go.Proofs.YtihcggepeadklaaGreatDoor
