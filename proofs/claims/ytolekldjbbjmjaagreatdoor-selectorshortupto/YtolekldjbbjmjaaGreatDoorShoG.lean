import Derived.Test.YtolekldjbbjmjaaGreatDoorShoE
import Derived.Test.YtolekldjbbjmjaaGreatDoorG48
/- SelectorShort: the law's own walk. -/
set_option linter.unusedSimpArgs false
set_option linter.unusedVariables false
namespace Go.Proofs.YtolekldjbbjmjaaGreatDoor
open Go.RowKit Go.Lib
theorem witT_one (s : List Trm) (oth : Nat → ByteArray) (i : Nat) : (witT s oth i).length ≤ 1 := by
  unfold witT
  split
  · simp
  · split
    · simp
    · split
      · split <;> simp
      · simp
theorem witL_len (s : List Trm) (oth : Nat → ByteArray) : (witL s oth).length ≤ s.length := by
  unfold witL
  rw [List.length_flatMap]
  have : ∀ n, ((List.range n).map (fun i => (witT s oth i).length)).sum ≤ n := by
    intro n
    induction n with
    | zero => simp
    | succ n ih =>
      rw [List.range_succ, List.map_append, List.sum_append]
      have := witT_one s oth n
      simp only [List.map_cons, List.map_nil, List.sum_cons, List.sum_nil]
      omega
  exact this _
theorem short_same {l s : List Trm} (h : simplV l = some s) (m : List Mem) : matchB s m = matchB l m := by
  have h1 := simp_terms (m := m) h
  have h2 := (simp_again h).2
  unfold matchB
  rw [h1.1, h2, h1.2]
theorem short_wit {l s : List Trm} (h : simplV l = some s) {oth : Nat → ByteArray} (ho : ∀ (i : Nat) (hi : i + 1 < s.length), (s[i]'(by omega)).2.1 = 1 → (s[i + 1]).1 = (s[i]'(by omega)).1 → oth i ∉ (s[i + 1]).2.2) : matchB s ((witL s oth).map memV) = true := by
  unfold matchB
  rw [(simp_again h).2, wit_ok h ho]
  rfl
set_option maxHeartbeats 16000000 in
set_option maxRecDepth 100000 in
theorem short_walk (l : List Trm) (lb : List Lab) (al : Option Addr) (cl bl ol : Nat) (ab : Option Addr) (cb bb ob : Nat) (w : World) (hT : Tq w)
    (hh : Headed al l.length cl bl ol) (hl : liesT false w (Old w) l bl ol) (hh2 : Headed ab lb.length cb bb ob) (hl2 : liesB w (Old w) lb bb ob) (hlm : lb.length ≤ 1048576) :
    Calls Tryz.prog 4 #[.slice al l.length cl, .slice ab lb.length cb] w (BPost true w) := by
  have HH := hmk hh
  have HL : Hid (∀ W, Below w.heap.size w W → liesT false W (Old w) l bl ol) := fun W hW => hl.keep (fun h => h) (fun y hy => hW.block y hy) (fun _ h => h)
  have HH2 := hmk hh2
  have HL2 : Hid (∀ W, Below w.heap.size w W → liesB W (Old w) lb bb ob) := fun W hW => hl2.keep (fun y hy => hW.block y hy) (fun _ h => h)
  have HTQ : Hid (∀ W, Below w.heap.size w W → Tq W) := fun W hW => hT.below hW hT.z
  have HOLD : Hid (∀ W, Below w.heap.size w W → ∀ y, Old w y → y < W.heap.size) := fun W hW y hy => Nat.lt_of_lt_of_le hy hW.size
  have H0 := hmk (terms_any l false (Old w) al cl bl ol w hh hl (fun y hy => hy))
  have HLM := hmk hlm
  clear hh hl hh2 hl2 hT hlm
  go_enter Tryz.func4, Tryz.ntmps4
  go_wp2_with fail
  refine H0.out.mono ?_
  rintro e w1 ⟨r, rfl, hr, b1⟩
  have B1 := hmk b1
  cases r with
  | true =>
    go_wp2_with fail
    go_ret
    exact ⟨rfl, B1.out⟩
  | false =>
    have HWT : Hid (wtT l ≤ 2147483647) := hr rfl
    have HLL : Hid (l.length ≤ 2147483647) := Nat.le_trans (wtT_len l) HWT.out
    clear hr b1 H0
    have CA := hmk (awake_any w1 (HTQ.out _ B1.out))
    go_wp2_with fail
    refine CA.out.mono ?_
    rintro e w2 ⟨rfl, b2⟩
    have B2 := hmk (B1.out.trans (b2.mono B1.out.size))
    have CB := hmk (members_any lb (Old w) ab cb bb ob w2 HH2.out (HL2.out _ B2.out) (HOLD.out _ B2.out) (by have := HLM.out; omega))
    clear b2 CA
    go_wp2_with fail
    refine CB.out.mono ?_
    rintro e w3 ⟨v3, rfl, o3, b3⟩
    obtain ⟨am, cm, bm, om, rfl, hhm, hlm⟩ := own_mems o3
    have B3 := hmk (B2.out.trans (b3.mono B2.out.size))
    have hml : (lb.map memV).length = lb.length := by simp
    have HHM : Hid (Headed am lb.length cm bm om) := by rw [hml] at hhm; exact hhm
    have HMS : Hid (∀ W, Below w3.heap.size w3 W → liesM false W (fun y => w2.heap.size ≤ y ∧ y < w3.heap.size) (lb.map memV) bm om ∧ ∀ y, (w2.heap.size ≤ y ∧ y < w3.heap.size) → y < W.heap.size) := fun W hW => ⟨liesM_keep (fun h => h) (fun y hy => hW.block y hy.2) (fun _ h => h) _ hlm, fun y hy => Nat.lt_of_lt_of_le hy.2 hW.size⟩
    rw [hml]
    have HMA : Hid (∀ (x : List Trm) (S : Nat → Prop) (a : Option Addr) (c b o : Nat) (W : World), Below w3.heap.size w3 W → Headed a x.length c b o → liesT false W S x b o → (∀ y, S y → y < W.heap.size) → wtT x ≤ 2147483647 →
        Calls Tryz.prog 13 #[.slice a x.length c, .slice am lb.length cm] W (BPost (matchB x (lb.map memV)) W)) := fun x S a c b o W hW h1 h2 h3 h4 => by
      have c := match_any x (lb.map memV) false false S _ a c b o am cm bm om W h1 h2 h3 (by rw [hml]; exact HHM.out) (HMS.out W hW).1 (HMS.out W hW).2 (by rw [hml]; have := HLM.out; omega) h4 (HTQ.out W (B3.out.trans (hW.mono B3.out.size))).t.t
      rw [hml] at c
      exact c
    have CM := hmk (HMA.out l _ al cl bl ol w3 (Below.refl _ _) HH.out (HL.out _ B3.out) (HOLD.out _ B3.out) HWT.out)
    clear b3 CB o3 hhm hlm hml
    go_wp2_with fail
    refine CM.out.mono ?_
    rintro e w4 ⟨rfl, b4⟩
    have B34 := hmk b4
    have B4 := hmk (B3.out.trans (b4.mono B3.out.size))
    have CS := hmk (simp_any l false (Old w) al cl bl ol w4 HH.out (HL.out _ B4.out) (HOLD.out _ B4.out) HWT.out (HTQ.out _ B4.out).t.t)
    clear b4 CM
    cases hs : simplV l with
    | none =>
      rw [hs] at CS
      have hno := simp_no (lb.map memV) hs
      rw [hno]
      have CS : Hid (Calls Tryz.prog 14 #[.slice al l.length cl] w4 (fun e w' => ∃ a c b o, e = .returned (.tuple #[.slice a 0 c, .bool false]) ∧ Headed a 0 c b o ∧ liesT false w' (New w4 w') [] b o ∧ Below w4.heap.size w4 w')) := CS
      clear hno hs HMA HMS HHM
      go_wp2_with fail
      refine CS.out.mono ?_
      rintro e w5 ⟨a5, c5, b5', o5, rfl, _, _, b5⟩
      have B5 := hmk (B4.out.trans (b5.mono B4.out.size))
      clear b5 CS
      go_wp2_with fail
      go_ret
      exact ⟨rfl, B5.out⟩
    | some s =>
      rw [hs] at CS
      have CS : Hid (Calls Tryz.prog 14 #[.slice al l.length cl] w4 (fun e w' => ∃ a c b o, e = .returned (.tuple #[.slice a s.length c, .bool true]) ∧ Headed a s.length c b o ∧ liesT false w' (New w4 w') s b o ∧ Below w4.heap.size w4 w')) := CS
      have HSS := hmk hs
      have hshort := simp_shorter hs
      have HWS : Hid (wtT s ≤ 2147483647) := Nat.le_trans (simp_wt hs) HWT.out
      have HSA := hmk (short_same hs)
      clear hs
      have HMS2 := hmk (HSA.out (lb.map memV))
      obtain ⟨yb, hyb⟩ : ∃ yb, matchB l (lb.map memV) = yb := ⟨_, rfl⟩
      rw [hyb] at HMS2 ⊢
      clear hyb
      go_wp2_with fail
      refine CS.out.mono ?_
      rintro e w5 ⟨a5, c5, b5', o5, rfl, hh5, hl5, b5⟩
      have B35 := hmk (B34.out.trans (b5.mono B34.out.size))
      have B5 := hmk (B4.out.trans (b5.mono B4.out.size))
      have HH5 := hmk hh5
      have HL5 : Hid (∀ W, Below w5.heap.size w5 W → liesT false W (New w4 w5) s b5' o5 ∧ ∀ y, New w4 w5 y → y < W.heap.size) := fun W hW => ⟨hl5.keep (fun h => h) (fun y hy => hW.block y hy.2) (fun _ h => h), fun y hy => Nat.lt_of_lt_of_le hy.2 hW.size⟩
      have CS2 := simp_any s false _ a5 c5 b5' o5 w5 hh5 hl5 (fun y hy => hy.2) HWS.out (HTQ.out _ B5.out).t.t
      rw [(simp_again HSS.out).1] at CS2
      have CS2 : Hid (Calls Tryz.prog 14 #[.slice a5 s.length c5] w5 (fun e w' => ∃ a c b o, e = .returned (.tuple #[.slice a s.length c, .bool true]) ∧ Headed a s.length c b o ∧ liesT false w' (New w5 w') s b o ∧ Below w5.heap.size w5 w')) := CS2
      clear b5 CS hh5 hl5
      go_wp2_with fail
      refine CS2.out.mono ?_
      rintro e w6 ⟨a6, c6, b6', o6, rfl, hh6, hl6, b6⟩
      have B36 := hmk (B35.out.trans (b6.mono B35.out.size))
      have B56 := hmk b6
      have B6 := hmk (B5.out.trans (b6.mono B5.out.size))
      have CSM : Hid (Calls Tryz.prog 15 #[.slice a6 s.length c6, .slice a5 s.length c5] w6 (BPost true w6)) := same_any s false false _ _ a6 a5 c6 c5 b6' b5' o6 o5 w6 hh6 HH5.out hl6 (HL5.out w6 b6).1 (fun y hy => hy.2) (HL5.out w6 b6).2
      have HCM : Hid (∀ W, Below w5.heap.size w5 W → Calls Tryz.prog 13 #[.slice a5 s.length c5, .slice am lb.length cm] W (BPost yb W)) := fun W hW => by
        have c := HMA.out s _ a5 c5 b5' o5 W (B35.out.trans (hW.mono B35.out.size)) HH5.out (HL5.out W hW).1 (HL5.out W hW).2 HWS.out
        rw [HMS2.out] at c
        exact c
      have ysh : ¬ ((s.length : Int) > l.length) := by omega
      have yyb : (yb != yb) = false := by simp
      clear b6 CS2 hh6 hl6 HMA HMS HHM
      go_wp2_with (first | (go_at_call 15; refine CSM.out.mono ?_; rintro e w7 ⟨rfl, b7⟩; have B57 := hmk (B56.out.trans (b7.mono B56.out.size))) | (go_at_call 13; refine (HCM.out _ B57.out).mono ?_; rintro e w8 ⟨rfl, b8⟩))
      have B58 := hmk (B57.out.trans (b8.mono B57.out.size))
      have B8 := hmk (B5.out.trans (B58.out.mono B5.out.size))
      have CW := hmk (witness_any s false _ a5 c5 b5' o5 w8 HH5.out (HL5.out w8 B58.out).1 (HL5.out w8 B58.out).2 HWS.out)
      clear b7 b8 CSM HCM B57 B56
      refine CW.out.mono ?_
      rintro e w9 ⟨v9, oth, rfl, o9, ho9, b9⟩
      have B59 := hmk (B58.out.trans (b9.mono B58.out.size))
      have B9 := hmk (B8.out.trans (b9.mono B8.out.size))
      obtain ⟨a9, c9, b9', o9', rfl, hh9, hl9⟩ := own_labs o9
      have HYES := hmk (short_wit HSS.out ho9)
      have HWL : Hid ((witL s oth).length ≤ 2147483647) := by
        have h1 := witL_len s oth
        have h2 := wtT_len s
        have h3 := HWS.out
        show _ ≤ _
        omega
      have CB2 := hmk (members_any (witL s oth) _ a9 c9 b9' o9' w9 hh9 hl9 (fun y hy => hy.2) HWL.out)
      have HYESL : Hid (matchB l ((witL s oth).map memV) = true) := by show _ = _; rw [← HSA.out]; exact HYES.out
      clear o9 ho9 b9 CW hh9 hl9 HSA
      generalize witL s oth = wl at *
      go_wp2_with fail
      refine CB2.out.mono ?_
      rintro e w10 ⟨v10, rfl, o10, b10⟩
      obtain ⟨an, cn, bn, on, rfl, hhn, hln⟩ := own_mems o10
      have B510 := hmk (B59.out.trans (b10.mono B59.out.size))
      have B10 := hmk (B9.out.trans (b10.mono B9.out.size))
      have hnl : (wl.map memV).length = wl.length := by simp
      have HHN : Hid (Headed an wl.length cn bn on) := by rw [hnl] at hhn; exact hhn
      have HNS : Hid (∀ W, Below w10.heap.size w10 W → liesM false W (fun y => w9.heap.size ≤ y ∧ y < w10.heap.size) (wl.map memV) bn on ∧ ∀ y, (w9.heap.size ≤ y ∧ y < w10.heap.size) → y < W.heap.size) := fun W hW => ⟨liesM_keep (fun h => h) (fun y hy => hW.block y hy.2) (fun _ h => h) _ hln, fun y hy => Nat.lt_of_lt_of_le hy.2 hW.size⟩
      rw [hnl]
      have HMA2 : Hid (∀ (x : List Trm) (S : Nat → Prop) (a : Option Addr) (c b o : Nat) (W : World), matchB x (wl.map memV) = true → Below w10.heap.size w10 W → Headed a x.length c b o → liesT false W S x b o → (∀ y, S y → y < W.heap.size) → wtT x ≤ 2147483647 →
          Calls Tryz.prog 13 #[.slice a x.length c, .slice an wl.length cn] W (BPost true W)) := fun x S a c b o W hyes hW h1 h2 h3 h4 => by
        have c := match_any x (wl.map memV) false false S _ a c b o an cn bn on W h1 h2 h3 (by rw [hnl]; exact HHN.out) (HNS.out W hW).1 (HNS.out W hW).2 (by rw [hnl]; exact HWL.out) h4 (HTQ.out W (B10.out.trans (hW.mono B10.out.size))).t.t
        rw [hnl, hyes] at c
        exact c
      have CM1 := hmk (HMA2.out s _ a5 c5 b5' o5 w10 HYES.out (Below.refl _ _) HH5.out (HL5.out w10 B510.out).1 (HL5.out w10 B510.out).2 HWS.out)
      have CM2 : Hid (∀ W, Below w10.heap.size w10 W → Calls Tryz.prog 13 #[.slice al l.length cl, .slice an wl.length cn] W (BPost true W)) := fun W hW => HMA2.out l _ al cl bl ol W HYESL.out hW HH.out (HL.out W (B10.out.trans (hW.mono B10.out.size))) (HOLD.out W (B10.out.trans (hW.mono B10.out.size))) HWT.out
      clear b10 CB2 o10 hhn hln hnl HMA2 HNS HHN HYES HYESL
      go_wp2_with fail
      refine CM1.out.mono ?_
      rintro e w11 ⟨rfl, b11⟩
      have B11 := hmk (B10.out.trans (b11.mono B10.out.size))
      have C11 := hmk (CM2.out w11 b11)
      clear b11 CM1 CM2
      go_wp2_with fail
      refine C11.out.mono ?_
      rintro e w12 ⟨rfl, b12⟩
      have B12 := hmk (B11.out.trans (b12.mono B11.out.size))
      clear b12 C11
      go_wp2_with fail
      go_ret
      exact ⟨rfl, B12.out⟩
end Go.Proofs.YtolekldjbbjmjaaGreatDoor
