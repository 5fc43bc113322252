import Derived.Test.YtolekldjbbjmjaaGreatDoorG27
/- witness: labels that short terms choose (layer 20's law). -/
set_option linter.unusedSimpArgs false
set_option linter.unusedVariables false
namespace Go.Proofs.YtolekldjbbjmjaaGreatDoor
open Go.RowKit Go.Lib
def witR (l : List Trm) (oth : Nat → ByteArray) (i : Nat) : List Lab := (List.range i).flatMap (witT l oth)
theorem witR_next (l : List Trm) (oth : Nat → ByteArray) (i : Nat) : witR l oth (i + 1) = witR l oth i ++ witT l oth i := by
  unfold witR
  rw [List.range_succ, List.flatMap_append]
  simp
theorem witT_same {l : List Trm} {f g : Nat → ByteArray} {i : Nat} (h : f i = g i) : witT l f i = witT l g i := by
  unfold witT
  rw [h]
theorem witR_same {l : List Trm} {f g : Nat → ByteArray} : ∀ (i : Nat), (∀ k, k < i → f k = g k) → witR l f i = witR l g i
  | 0, _ => rfl
  | i + 1, h => by rw [witR_next, witR_next, witR_same i (fun k hk => h k (by omega)), witT_same (h i (by omega))]
theorem witR_len (l : List Trm) (oth : Nat → ByteArray) : ∀ i, (witR l oth i).length ≤ i
  | 0 => Nat.le_refl _
  | i + 1 => by
    have h := witR_len l oth i
    rw [witR_next, List.length_append]
    have : (witT l oth i).length ≤ 1 := by
      unfold witT
      split
      · simp
      · split
        · simp
        · split
          · split <;> simp
          · simp
    omega
theorem wit_next {l : List Trm} {g : Nat → ByteArray} {i : Nat} (h : i < l.length) (h1 : (l[i]).2.1 = 1) (hn : i + 1 < l.length) (hk : (l[i + 1]).1 = (l[i]).1) : witT l g i = [((l[i]).1, g i, 0)] := by
  unfold witT
  rw [List.getElem?_eq_getElem h, List.getElem?_eq_getElem hn]
  simp only
  rw [if_pos h1, if_pos hk]
theorem wit_far {l : List Trm} {g : Nat → ByteArray} {i : Nat} (h : i < l.length) (h1 : (l[i]).2.1 = 1) (hn : ∀ hn : i + 1 < l.length, (l[i + 1]).1 ≠ (l[i]).1) : witT l g i = [((l[i]).1, vS 1, 0)] := by
  unfold witT
  rw [List.getElem?_eq_getElem h]
  simp only
  rw [if_pos h1]
  by_cases hl : i + 1 < l.length
  · rw [List.getElem?_eq_getElem hl]
    simp only
    rw [if_neg (hn hl)]
  · rw [List.getElem?_eq_none (by omega)]
theorem wit_in {l : List Trm} {g : Nat → ByteArray} {i : Nat} (h : i < l.length) (h3 : (l[i]).2.1 = 3) {x : ByteArray} {t : List ByteArray} (hv : (l[i]).2.2 = x :: t) : witT l g i = [((l[i]).1, x, 0)] := by
  unfold witT
  rw [List.getElem?_eq_getElem h]
  simp only
  rw [if_neg (by rw [h3]; simp), if_pos h3, hv]
theorem wit_no {l : List Trm} {g : Nat → ByteArray} {i : Nat} (h : i < l.length) (h1 : (l[i]).2.1 ≠ 1) (h3 : (l[i]).2.1 = 3 → (l[i]).2.2.length = 0) : witT l g i = [] := by
  unfold witT
  rw [List.getElem?_eq_getElem h]
  simp only
  rw [if_neg h1]
  split
  · rename_i h
    rw [List.length_eq_zero_iff.1 (h3 h)]
  · rfl
def WiPost (l : List Trm) (w : World) (e : Ending) (w' : World) : Prop := ∃ (v : Value) (oth : Nat → ByteArray), e = .returned v ∧ OwnB w' w.heap.size (fun _ => False) v (witL l oth) ∧ (∀ (i : Nat) (hi : i + 1 < l.length), (l[i]'(by omega)).2.1 = 1 → (l[i + 1]).1 = (l[i]'(by omega)).1 → oth i ∉ (l[i + 1]).2.2) ∧ Below w.heap.size w w'
set_option maxHeartbeats 16000000 in
set_option maxRecDepth 100000 in
theorem witness_any (l : List Trm) (R : Bool) (S : Nat → Prop) (al : Option Addr) (cl bl ol : Nat) (w : World) (hh : Headed al l.length cl bl ol) (hl : liesT R w S l bl ol) (hS : ∀ y, S y → y < w.heap.size) (hwt : wtT l ≤ 2147483647) :
    Calls Tryz.prog 16 #[.slice al l.length cl] w (WiPost l w) := by
  have HH := hmk hh
  have hm : l.length ≤ 2147483647 := Nat.le_trans (wtT_len l) hwt
  obtain ⟨i5, hi5, hz5⟩ := Option.map_eq_some_iff.1 info54
  simp only [Prod.mk.injEq] at hz5
  have hJ := hmk (And.intro hi5 hz5)
  have HLW : Hid (∀ W, Below w.heap.size w W → ∀ j (hj : j < l.length), ∃ ta tc tb to', (W.cell? ⟨bl, ol + j * 3, none⟩ = some (.string (l[j]).1) ∧ W.cell? ⟨bl, ol + j * 3 + 1, none⟩ = some (.int .i64 (l[j]).2.1) ∧ W.cell? ⟨bl, ol + j * 3 + 2, none⟩ = some (.slice ta (l[j]).2.2.length tc)) ∧ Headed ta (l[j]).2.2.length tc tb to' ∧ liesS W S (l[j]).2.2 tb to' ∧ (l[j]).1.size ≤ 140737488355328 ∧ bl < w.heap.size ∧ ∀ y, S y → y < W.heap.size) := fun W hW j hj => by
    obtain ⟨s1, cs, row1, t1⟩ := hl j hj
    obtain ⟨ta, tc, tb, to', rfl, _, hks, hd1, ts1, _⟩ := t1
    exact ⟨ta, tc, tb, to', row3 (row1.keep (hW.block _ (hS _ s1))), hd1, ts1.keep (fun y hy => hW.block y (hS y hy)) (fun _ h => h), hks, hS _ s1, fun y hy => Nat.lt_of_lt_of_le (hS y hy) hW.size⟩
  have HWT : Hid (∀ t ∈ l, t.2.2.length ≤ 2147483647) := fun t ht => by have := wtT_mem ht; have := wtS_len t.2.2; show _ ≤ _; omega
  have hv1 : (⟨#[118]⟩ : ByteArray) = vS 1 := by decide
  have HV1 := hmk hv1
  have HSX : Hid (∀ y, S y → y < w.heap.size) := hS
  clear hh hl hi5 hz5 hv1
  go_enter Tryz.func16, Tryz.ntmps16
  go_wp2_with fail
  go_loopw [3, 4] (fun e3 e4 wr => ∃ (i : Nat) (oth : Nat → ByteArray), i ≤ l.length ∧ e4 = .int .i64 (i : Int) ∧ Below w.heap.size w wr ∧ Hid (OwnB wr w.heap.size (fun _ => False) e3 (witR l oth i)) ∧ Hid (∀ (j : Nat) (hj : j + 1 < l.length), j < i → (l[j]'(by omega)).2.1 = 1 → (l[j + 1]).1 = (l[j]'(by omega)).1 → oth j ∉ (l[j + 1]).2.2)) (fun _ e4 _ => l.length - (RowKit.intOf e4).toNat)
  case atStart => exact ⟨0, fun _ => ⟨#[]⟩, by omega, rfl, Below.refl _ _, OwnR.nil _ _, fun j _ h => by omega⟩
  case round =>
    obtain ⟨i, oth, hi, rfl, Bi, HO, HP⟩ := hrel
    have hzr := Bi.size
    have hwl := witR_len l oth i
    have hob : ∀ r, u3.ownBlock = some r → w.heap.size ≤ r := fun r hr => (HO.out.lt hr).1
    by_cases hil : i < l.length
    · have y1 : (i : Int) < l.length := by omega
      obtain rfl : al = some ⟨bl, ol, none⟩ := HH.out.at_.resolve_left (by omega)
      obtain ⟨ta, tc, tb, to', ⟨q, q0, q1⟩, hd1, ts1, hks, hbl, hSW⟩ := HLW.out wr Bi i hil
      have hTS : l[i]? = some l[i] := List.getElem?_eq_getElem hil
      have HWR : Hid (∀ g, witR l g (i + 1) = witR l g i ++ witT l g i) := fun g => witR_next l g i
      have HPN : Hid (∀ g : Nat → ByteArray, (∀ k, k < i → g k = oth k) → (∀ hj : i + 1 < l.length, (l[i]).2.1 = 1 → (l[i + 1]).1 = (l[i]).1 → g i ∉ (l[i + 1]).2.2) → ∀ (j : Nat) (hj : j + 1 < l.length), j < i + 1 → (l[j]'(by omega)).2.1 = 1 → (l[j + 1]).1 = (l[j]'(by omega)).1 → g j ∉ (l[j + 1]).2.2) := fun g h1 h2 j hj hji a1 a2 => by
        by_cases e : j = i
        · subst e; exact h2 hj a1 a2
        · rw [h1 j (by omega)]; exact HP.out j hj (by omega) a1 a2
      by_cases h1 : (l[i]).2.1 = 1
      · have q0' : wr.cell? ⟨bl, ol + i * 3 + 1, none⟩ = some (.int .i64 1) := by rw [q0, h1]
        clear q0
        have HOP := hmk h1
        clear h1
        by_cases hn : i + 1 < l.length
        · have yd : decide ((i : Int) + 1 < l.length) = true := decide_eq_true (by omega)
          obtain ⟨na, nc, nb, no', ⟨p, p0, p1⟩, hd2, ts2, _, _, hSW2⟩ := HLW.out wr Bi (i + 1) hn
          have hoff : ol + (i + 1) * 3 = ol + i * 3 + 3 := by omega
          rw [hoff] at p p0 p1
          clear p0
          by_cases hk : ((l[i + 1]).1.toList == (l[i]).1.toList) = true
          · have hkk : (l[i + 1]).1 = (l[i]).1 := bytes_ext9 (by simpa using hk)
            have z0 : ∀ x : Sub wr.heap.size wr, _ := sub_cell q (by omega)
            have z1 : ∀ x : Sub wr.heap.size wr, _ := sub_cell p (by omega)
            have HKS := hmk hks
            go_upto_region 8 with fail
            refine wp_region_sub wr.heap.size (by kernel_rfl) (by kernel_rfl) ?_
            repeat (go_big_quiet_step (fail))
            refine wpQuiet_nil ?_
            rintro wq ⟨⟨wq', bq⟩, hq⟩
            have hq' : wq = wq' := hq
            subst hq'
            clear hq z0 z1
            have Bq := Bi.trans (bq.mono hzr)
            have HQ := hmk (HO.out.below keepB9 bq)
            clear HO bq
            obtain ⟨ta2, tc2, tb2, to2, ⟨q, q0, q1⟩, _, _, _, _, _⟩ := HLW.out wq Bq i hil
            rw [HOP.out] at q0
            obtain ⟨ma, mc, mb, mo, ⟨_, _, p1⟩, hd3, ts3, _, _, _⟩ := HLW.out wq Bq (i + 1) hn
            rw [hoff] at p1
            have OT := hmk (other_any (l[i + 1]).2.2 S ma mc mb mo wq hd3 ts3 (HWT.out _ (List.getElem_mem hn)))
            unfold OtPost at OT
            have HNV := hmk (HWT.out _ (List.getElem_mem hn))
            clear hd3 ts3
            go_wp2_with fail
            refine OT.out.mono ?_
            rintro e w2 ⟨⟨n, rfl, hn1, hn2⟩, hw2⟩
            obtain rfl : wq = w2 := hw2.symm
            clear hw2 OT
            have hnn := HNV.out
            have hvn : (vS n).size ≤ 140737488355328 := by rw [vS_size]; omega
            have HN2 := hmk hn2
            have HVN := hmk hvn
            clear hn1 hn2 hvn
            have hzq := Bq.size
            have hT1 := heap_alloc_new wq (.cells #[.string (l[i]).1, .string (vS n), .int .i64 0] 64)
            have HAL1 : Hid (OwnB (wq.alloc (.cells #[.string (l[i]).1, .string (vS n), .int .i64 0] 64)) w.heap.size (fun _ => False) u3 (witR l oth i)) := HQ.out.alloc keepB9 _
            have HLN1 : Hid ((witR l oth i).length ≤ 4294967296) := by show _ ≤ _; omega
            have HBS1 : Hid (w.heap.size ≤ (wq.alloc (.cells #[.string (l[i]).1, .string (vS n), .int .i64 0] 64)).heap.size) := by show _ ≤ _; rw [alloc_size]; omega
            have HEB : Hid (∀ W, EB ((l[i]).1, (vS n), 0) W (fun _ => False) [.string (l[i]).1, .string (vS n), .int .i64 0]) := fun W => ⟨rfl, HKS.out, HVN.out, by show In64 0; unfold In64; omega⟩
            have HG := hmk (fun (v : Value) (W : World) (h : OwnB W w.heap.size (fun _ => False) v (witR l oth i ++ [((l[i]).1, (vS n), (0 : Int))])) => (show OwnB W w.heap.size (fun _ => False) v (witR l (fun x => if x = i then vS n else oth x) (i + 1)) by rw [HWR.out, witR_same (f := (fun x => if x = i then vS n else oth x)) (g := oth) i (fun k hk => if_neg (by omega)), wit_next hil HOP.out hn hkk, if_pos rfl]; exact h))
            have HF := hmk (HPN.out ((fun x => if x = i then vS n else oth x)) (fun k hk => if_neg (by omega)) (fun hj _ _ => by show (if i = i then vS n else oth i) ∉ _; rw [if_pos rfl]; exact HN2.out))
            generalize (l[i]).1 = key at *
            go_wp2_with (at_builtin; go_loud (refine wpl_push keepB9 _ rfl (.tmp 45) (.tmp 53) 23 rfl w.heap.size i5 _ 40 Tryz.underlying23 hJ.out.1 hJ.out.2.1 hJ.out.2.2.1 hJ.out.2.2.2 rfl (by decide) (by decide) (Sx := fun _ => False) _ (key, (vS n), (0 : Int)) rfl HAL1.out wq.heap.size 1 (0, 0) rfl hT1 rfl one3b (HEB.out _) (fun b hb => hb.elim) HLN1.out HBS1.out ?_))
            intro g1 cap1 w1 o1 gr1 e1
            have B1 : Below w.heap.size w w1 := (Bq.alloc (by omega) _).grown gr1 HBS1.out hob
            have HO1 := hmk (HG.out _ _ (by simpa using o1))
            clear HAL1 hT1 o1 gr1
            go_wp2_with fail
            go_roundw
            case rel => exact ⟨i + 1, (fun x => if x = i then vS n else oth x), by omega, by go_num, B1, HO1, HF.out⟩
            case measure => simp [RowKit.intOf]; omega
          · have hkk : (l[i + 1]).1 ≠ (l[i]).1 := fun e => hk (by rw [e]; simp)
            have z0 : ∀ x : Sub wr.heap.size wr, _ := sub_cell q (by omega)
            have z1 : ∀ x : Sub wr.heap.size wr, _ := sub_cell p (by omega)
            have hk' : ((l[i + 1]).1.toList == (l[i]).1.toList) = false := by simpa using hk
            have HKS := hmk hks
            go_upto_region 8 with fail
            refine wp_region_sub wr.heap.size (by kernel_rfl) (by kernel_rfl) ?_
            repeat (go_big_quiet_step (fail))
            refine wpQuiet_nil ?_
            rintro wq ⟨⟨wq', bq⟩, hq⟩
            have hq' : wq = wq' := hq
            subst hq'
            clear hq z0 z1
            have Bq := Bi.trans (bq.mono hzr)
            have HQ := hmk (HO.out.below keepB9 bq)
            clear HO bq
            obtain ⟨ta2, tc2, tb2, to2, ⟨q, q0, q1⟩, _, _, _, _, _⟩ := HLW.out wq Bq i hil
            rw [HOP.out] at q0
            have hv1 := HV1.out
            have hzq := Bq.size
            have hT1 := heap_alloc_new wq (.cells #[.string (l[i]).1, .string (vS 1), .int .i64 0] 64)
            have HAL1 : Hid (OwnB (wq.alloc (.cells #[.string (l[i]).1, .string (vS 1), .int .i64 0] 64)) w.heap.size (fun _ => False) u3 (witR l oth i)) := HQ.out.alloc keepB9 _
            have HLN1 : Hid ((witR l oth i).length ≤ 4294967296) := by show _ ≤ _; omega
            have HBS1 : Hid (w.heap.size ≤ (wq.alloc (.cells #[.string (l[i]).1, .string (vS 1), .int .i64 0] 64)).heap.size) := by show _ ≤ _; rw [alloc_size]; omega
            have HEB : Hid (∀ W, EB ((l[i]).1, (vS 1), 0) W (fun _ => False) [.string (l[i]).1, .string (vS 1), .int .i64 0]) := fun W => ⟨rfl, HKS.out, (by show (vS 1).size ≤ _; rw [vS_size]; omega), by show In64 0; unfold In64; omega⟩
            have HG := hmk (fun (v : Value) (W : World) (h : OwnB W w.heap.size (fun _ => False) v (witR l oth i ++ [((l[i]).1, (vS 1), (0 : Int))])) => (show OwnB W w.heap.size (fun _ => False) v (witR l oth (i + 1)) by rw [HWR.out, witR_same (f := oth) (g := oth) i (fun k hk => rfl), wit_far hil HOP.out (fun _ => hkk)]; exact h))
            have HF := hmk (HPN.out (oth) (fun k hk => rfl) (fun hj _ e => absurd e hkk))
            generalize (l[i]).1 = key at *
            go_wp2_with (at_builtin; go_loud (refine wpl_push keepB9 _ rfl (.tmp 45) (.tmp 53) 23 rfl w.heap.size i5 _ 40 Tryz.underlying23 hJ.out.1 hJ.out.2.1 hJ.out.2.2.1 hJ.out.2.2.2 rfl (by decide) (by decide) (Sx := fun _ => False) _ (key, (vS 1), (0 : Int)) rfl HAL1.out wq.heap.size 1 (0, 0) rfl hT1 rfl one3b (HEB.out _) (fun b hb => hb.elim) HLN1.out HBS1.out ?_))
            intro g1 cap1 w1 o1 gr1 e1
            have B1 : Below w.heap.size w w1 := (Bq.alloc (by omega) _).grown gr1 HBS1.out hob
            have HO1 := hmk (HG.out _ _ (by simpa using o1))
            clear HAL1 hT1 o1 gr1
            go_wp2_with fail
            go_roundw
            case rel => exact ⟨i + 1, oth, by omega, by go_num, B1, HO1, HF.out⟩
            case measure => simp [RowKit.intOf]; omega
        · skip
          have yd : decide ((i : Int) + 1 < l.length) = false := decide_eq_false (by omega)
          have z0 : ∀ x : Sub wr.heap.size wr, _ := sub_cell q (by omega)
          have HKS := hmk hks
          go_upto_region 8 with fail
          refine wp_region_sub wr.heap.size (by kernel_rfl) (by kernel_rfl) ?_
          repeat (go_big_quiet_step (fail))
          refine wpQuiet_nil ?_
          rintro wq ⟨⟨wq', bq⟩, hq⟩
          have hq' : wq = wq' := hq
          subst hq'
          clear hq z0
          have Bq := Bi.trans (bq.mono hzr)
          have HQ := hmk (HO.out.below keepB9 bq)
          clear HO bq
          obtain ⟨ta2, tc2, tb2, to2, ⟨q, q0, q1⟩, _, _, _, _, _⟩ := HLW.out wq Bq i hil
          rw [HOP.out] at q0
          have hv1 := HV1.out
          have hzq := Bq.size
          have hT1 := heap_alloc_new wq (.cells #[.string (l[i]).1, .string (vS 1), .int .i64 0] 64)
          have HAL1 : Hid (OwnB (wq.alloc (.cells #[.string (l[i]).1, .string (vS 1), .int .i64 0] 64)) w.heap.size (fun _ => False) u3 (witR l oth i)) := HQ.out.alloc keepB9 _
          have HLN1 : Hid ((witR l oth i).length ≤ 4294967296) := by show _ ≤ _; omega
          have HBS1 : Hid (w.heap.size ≤ (wq.alloc (.cells #[.string (l[i]).1, .string (vS 1), .int .i64 0] 64)).heap.size) := by show _ ≤ _; rw [alloc_size]; omega
          have HEB : Hid (∀ W, EB ((l[i]).1, (vS 1), 0) W (fun _ => False) [.string (l[i]).1, .string (vS 1), .int .i64 0]) := fun W => ⟨rfl, HKS.out, (by show (vS 1).size ≤ _; rw [vS_size]; omega), by show In64 0; unfold In64; omega⟩
          have HG := hmk (fun (v : Value) (W : World) (h : OwnB W w.heap.size (fun _ => False) v (witR l oth i ++ [((l[i]).1, (vS 1), (0 : Int))])) => (show OwnB W w.heap.size (fun _ => False) v (witR l oth (i + 1)) by rw [HWR.out, witR_same (f := oth) (g := oth) i (fun k hk => rfl), wit_far hil HOP.out (fun h => absurd h hn)]; exact h))
          have HF := hmk (HPN.out (oth) (fun k hk => rfl) (fun hj _ e => absurd hj hn))
          generalize (l[i]).1 = key at *
          go_wp2_with (at_builtin; go_loud (refine wpl_push keepB9 _ rfl (.tmp 45) (.tmp 53) 23 rfl w.heap.size i5 _ 40 Tryz.underlying23 hJ.out.1 hJ.out.2.1 hJ.out.2.2.1 hJ.out.2.2.2 rfl (by decide) (by decide) (Sx := fun _ => False) _ (key, (vS 1), (0 : Int)) rfl HAL1.out wq.heap.size 1 (0, 0) rfl hT1 rfl one3b (HEB.out _) (fun b hb => hb.elim) HLN1.out HBS1.out ?_))
          intro g1 cap1 w1 o1 gr1 e1
          have B1 : Below w.heap.size w w1 := (Bq.alloc (by omega) _).grown gr1 HBS1.out hob
          have HO1 := hmk (HG.out _ _ (by simpa using o1))
          clear HAL1 hT1 o1 gr1
          go_wp2_with fail
          go_roundw
          case rel => exact ⟨i + 1, oth, by omega, by go_num, B1, HO1, HF.out⟩
          case measure => simp [RowKit.intOf]; omega
      · have hno1 : ((l[i]).2.1 == 1) = false := by rw [beq_eq_false_iff_ne]; exact h1
        by_cases h3 : (l[i]).2.1 = 3
        · have q0' : wr.cell? ⟨bl, ol + i * 3 + 1, none⟩ = some (.int .i64 3) := by rw [q0, h3]
          have HOP := hmk h3
          clear q0
          cases hv : (l[i]).2.2 with
          | nil =>
            have HW0 : Hid (witR l oth (i + 1) = witR l oth i) := by show _ = _; rw [HWR.out, wit_no hil h1 (fun _ => by rw [hv]; rfl), List.append_nil]
            have HF := hmk (HPN.out oth (fun k _ => rfl) (fun hj e _ => absurd e h1))
            have q1' : wr.cell? ⟨bl, ol + i * 3 + 2, none⟩ = some (.slice ta 0 tc) := by rw [q1, hv]; rfl
            clear h1 h3 hv q1 hno1 HOP
            go_wp2_with fail
            go_roundw
            case rel => exact ⟨i + 1, oth, by omega, by go_num, Bi, by rw [HW0.out]; exact HO, HF.out⟩
            case measure => simp [RowKit.intOf]; omega
          | cons x rest =>
            have h0 : 0 < (l[i]).2.2.length := by rw [hv]; simp
            have hx0 : (l[i]).2.2[0] = x := by simp [hv]
            obtain rfl : ta = some ⟨tb, to', none⟩ := hd1.at_.resolve_left (by omega)
            obtain ⟨hSb, hxs, qx⟩ := ts1 0 h0
            rw [hx0] at qx hxs
            have qx : wr.cell? ⟨tb, to', none⟩ = some (.string x) := qx
            have HW0 : Hid (witR l oth (i + 1) = witR l oth i ++ [((l[i]).1, x, 0)]) := by show _ = _; rw [HWR.out, wit_in hil HOP.out hv]
            have HF := hmk (HPN.out oth (fun k _ => rfl) (fun hj e _ => absurd e h1))
            have yz : (0 : Int) < (l[i]).2.2.length := by omega
            have hbs := hSW tb hSb
            have HKS := hmk hks
            have HXS := hmk hxs
            have hlc := hd1.le
            have hmx := hd1.max
            clear h1 h3 hv hx0 hno1 HOP hd1 ts1 hks hxs
            generalize (l[i]).2.2.length = n at *
            generalize (l[i]).1 = key at *
            go_upto_region 13 with fail
            have d0 : wr.cell? ⟨bl, ol + i * 3, none⟩ = some (.string key) ∧ wr.cell? ⟨bl, ol + i * 3 + 2, none⟩ = some (.slice (some ⟨tb, to', none⟩) n tc) ∧ wr.cell? ⟨tb, to', none⟩ = some (.string x) := ⟨q, q1, qx⟩
            have hT1 := heap_alloc_new wr.drew (.cells #[.string key, .string x, .int .i64 0] 64)
            have HAL1 : Hid (OwnB (wr.drew.alloc (.cells #[.string key, .string x, .int .i64 0] 64)) w.heap.size (fun _ => False) u3 (witR l oth i)) := (HO.out.drew keepB9).alloc keepB9 _
            have HLN1 : Hid ((witR l oth i).length ≤ 4294967296) := by show _ ≤ _; omega
            have HBS1 : Hid (w.heap.size ≤ (wr.drew.alloc (.cells #[.string key, .string x, .int .i64 0] 64)).heap.size) := by show _ ≤ _; rw [alloc_size]; show _ ≤ wr.heap.size + 1; omega
            have HEB : Hid (∀ W, EB (key, x, 0) W (fun _ => False) [.string key, .string x, .int .i64 0]) := fun W => ⟨rfl, HKS.out, HXS.out, by show In64 0; unfold In64; omega⟩
            have bA : Below wr.heap.size wr (wr.drew.alloc (.cells #[.string key, .string x, .int .i64 0] 64)) := ((Below.refl _ _).drew).alloc (Nat.le_refl _) _
            have d1 : (wr.drew.alloc (.cells #[.string key, .string x, .int .i64 0] 64)).cell? ⟨bl, ol + i * 3, none⟩ = some (.string key) ∧ (wr.drew.alloc (.cells #[.string key, .string x, .int .i64 0] 64)).cell? ⟨bl, ol + i * 3 + 2, none⟩ = some (.slice (some ⟨tb, to', none⟩) n tc) ∧ (wr.drew.alloc (.cells #[.string key, .string x, .int .i64 0] 64)).cell? ⟨tb, to', none⟩ = some (.string x) :=
              ⟨(bA.cell (p := ⟨bl, ol + i * 3, none⟩) (by show bl < _; omega)).trans q, (bA.cell (p := ⟨bl, ol + i * 3 + 2, none⟩) (by show bl < _; omega)).trans q1, (bA.cell (p := ⟨tb, to', none⟩) hbs).trans qx⟩
            clear q q1 qx q0'
            refine wp_region_held_drew (S := fun Y => Y.cell? ⟨bl, ol + i * 3, none⟩ = some (.string key) ∧ Y.cell? ⟨bl, ol + i * 3 + 2, none⟩ = some (.slice (some ⟨tb, to', none⟩) n tc) ∧ Y.cell? ⟨tb, to', none⟩ = some (.string x)) (by kernel_rfl) d0 (fun hHeld => ?_)
            (refine wpAnyH_take (i := 0) (v := ?_) rfl (by kernel_rfl) (by kernel_rfl) (by kernel_rfl) (fun _ _ _ h => h) (Or.inl ⟨by kernel_rfl, ?_⟩) (by assumption) ?_; rotate_left 1; (intro W0 hSw; (obtain ⟨s0, s1, s2⟩ := hSw); go_simp; (try with_reducible rfl)); (try simp only [Act.put, List.setIfInBounds_toArray, List.set_cons_zero, List.set_cons_succ]))
            (refine wpAnyH_take (i := 1) (v := ?_) rfl (by kernel_rfl) (by kernel_rfl) (by kernel_rfl) (fun _ _ _ h => h) (Or.inl ⟨by kernel_rfl, ?_⟩) (by assumption) ?_; rotate_left 1; (intro W0 hSw; (obtain ⟨s0, s1, s2⟩ := hSw); go_simp; (try with_reducible rfl)); (try simp only [Act.put, List.setIfInBounds_toArray, List.set_cons_zero, List.set_cons_succ]))
            (refine wpAnyH_take (i := 2) (v := ?_) rfl (by kernel_rfl) (by kernel_rfl) (by kernel_rfl) (fun _ _ _ h => h) (Or.inl ⟨by kernel_rfl, ?_⟩) (by assumption) ?_; rotate_left 1; (intro W0 hSw; (obtain ⟨s0, s1, s2⟩ := hSw); go_simp; (try with_reducible rfl)); (try simp only [Act.put, List.setIfInBounds_toArray, List.set_cons_zero, List.set_cons_succ]))
            (refine wpAnyH_take (i := 3) (v := ?_) rfl (by kernel_rfl) (by kernel_rfl) (by kernel_rfl) (fun _ _ _ h => h) (Or.inl ⟨by kernel_rfl, ?_⟩) (by assumption) ?_; rotate_left 1; (intro W0 hSw; (obtain ⟨s0, s1, s2⟩ := hSw); go_simp; (try with_reducible rfl)); (try simp only [Act.put, List.setIfInBounds_toArray, List.set_cons_zero, List.set_cons_succ]))
            (refine wpAnyH_take (i := 4) (v := ?_) rfl (by kernel_rfl) (by kernel_rfl) (by kernel_rfl) (fun _ _ _ h => h) (Or.inl ⟨by kernel_rfl, ?_⟩) (by assumption) ?_; rotate_left 1; (intro W0 hSw; (obtain ⟨s0, s1, s2⟩ := hSw); go_simp; (try with_reducible rfl)); (try simp only [Act.put, List.setIfInBounds_toArray, List.set_cons_zero, List.set_cons_succ]))
            (refine wpAnyH_take (i := 5) (v := ?_) rfl (by kernel_rfl) (by kernel_rfl) (by kernel_rfl) (fun _ _ _ h => h) (Or.inl ⟨by kernel_rfl, ?_⟩) (by assumption) ?_; rotate_left 1; (intro W0 hSw; (obtain ⟨s0, s1, s2⟩ := hSw); go_simp; (try with_reducible rfl)); (try simp only [Act.put, List.setIfInBounds_toArray, List.set_cons_zero, List.set_cons_succ]))
            (refine wpAnyH_take (i := 6) (v := ?_) rfl (by kernel_rfl) (by kernel_rfl) (by kernel_rfl) (fun _ _ _ h => h) (Or.inl ⟨by kernel_rfl, ?_⟩) (by assumption) ?_; rotate_left 1; (intro W0 hSw; (obtain ⟨s0, s1, s2⟩ := hSw); go_simp; (try with_reducible rfl)); (try simp only [Act.put, List.setIfInBounds_toArray, List.set_cons_zero, List.set_cons_succ]))
            (refine wpAnyH_take (i := 7) (v := ?_) rfl (by kernel_rfl) (by kernel_rfl) (by kernel_rfl) (fun _ _ _ h => h) (Or.inl ⟨by kernel_rfl, ?_⟩) (by assumption) ?_; rotate_left 1; (intro W0 hSw; (obtain ⟨s0, s1, s2⟩ := hSw); go_simp; (try with_reducible rfl)); (try simp only [Act.put, List.setIfInBounds_toArray, List.set_cons_zero, List.set_cons_succ]))
            (refine wpAnyH_take (i := 8) (v := ?_) rfl (by kernel_rfl) (by kernel_rfl) (by kernel_rfl) (fun _ _ _ h => h) (Or.inl ⟨by kernel_rfl, ?_⟩) (by assumption) ?_; rotate_left 1; (intro W0 hSw; (obtain ⟨s0, s1, s2⟩ := hSw); go_simp; (try with_reducible rfl)); (try simp only [Act.put, List.setIfInBounds_toArray, List.set_cons_zero, List.set_cons_succ]))
            (refine wpAnyH_take (i := 9) (v := ?_) rfl (by kernel_rfl) (by kernel_rfl) (by kernel_rfl) (fun _ _ _ h => h) (Or.inl ⟨by kernel_rfl, ?_⟩) (by assumption) ?_; rotate_left 1; (intro W0 hSw; (obtain ⟨s0, s1, s2⟩ := hSw); go_simp; (try with_reducible rfl)); (try simp only [Act.put, List.setIfInBounds_toArray, List.set_cons_zero, List.set_cons_succ]))
            (refine wpAnyH_take (i := 10) (v := ?_) rfl (by kernel_rfl) (by kernel_rfl) (by kernel_rfl) (fun _ _ _ h => h) (Or.inl ⟨by kernel_rfl, ?_⟩) (by assumption) ?_; rotate_left 1; (intro W0 hSw; (obtain ⟨s0, s1, s2⟩ := hSw); go_simp; (try with_reducible rfl)); (try simp only [Act.put, List.setIfInBounds_toArray, List.set_cons_zero, List.set_cons_succ]))
            (refine wpAnyH_take (i := 11) (v := ?_) rfl (by kernel_rfl) (by kernel_rfl) (by kernel_rfl) (fun _ _ _ h => h) (Or.inl ⟨by kernel_rfl, ?_⟩) (by assumption) ?_; rotate_left 1; (intro W0 hSw; (obtain ⟨s0, s1, s2⟩ := hSw); go_simp; (try with_reducible rfl)); (try simp only [Act.put, List.setIfInBounds_toArray, List.set_cons_zero, List.set_cons_succ]))
            (refine wpAnyH_take (i := 12) (v := ?_) rfl (by kernel_rfl) (by kernel_rfl) (by kernel_rfl) (fun _ _ _ h => h) (Or.inl ⟨by kernel_rfl, ?_⟩) (by assumption) ?_; rotate_left 1; (intro W0 hSw; (obtain ⟨s0, s1, s2⟩ := hSw); go_simp; (try with_reducible rfl)); (try simp only [Act.put, List.setIfInBounds_toArray, List.set_cons_zero, List.set_cons_succ]))
            refine wpAnyH_ready (rs := [13]) (by kernel_rfl) (by simp) ?_
            refine AllReadyH.cons rfl (fun K hK => ?_) AllReadyH.nil
            go_simp
            refine hK.out _ _ d0 (fun _ => ?_)
            clear hK K
            (try simp only [Act.put, List.setIfInBounds_toArray, List.set_cons_zero, List.set_cons_succ])
            refine wpAnyH_ready (rs := [14]) (by kernel_rfl) (by simp) ?_
            refine AllReadyH.cons rfl (fun K hK => ?_) AllReadyH.nil
            go_simp
            refine hK.out _ _ d1 (fun _ => ?_)
            clear hK K
            (try simp only [Act.put, List.setIfInBounds_toArray, List.set_cons_zero, List.set_cons_succ])
            refine wpAnyH_ready (rs := [15]) (by kernel_rfl) (by simp) ?_
            refine AllReadyH.cons rfl (fun K hK => ?_) AllReadyH.nil
            refine step_push keepB9 rfl (.tmp 64) (.tmp 78) 23 rfl w.heap.size i5 _ 40 Tryz.underlying23 hJ.out.1 hJ.out.2.1 hJ.out.2.2.1 hJ.out.2.2.2 rfl (by decide) (by decide) (Sx := fun _ => False) _ (key, x, (0 : Int)) rfl HAL1.out wr.heap.size 1 (0, 0) rfl hT1 rfl one3b (HEB.out _) (fun b hb => hb.elim) HLN1.out HBS1.out ?_
            intro g1 cap1 w1 o1 gr1 e1
            have hne : ∀ y, y < w.heap.size → some y ≠ u3.ownBlock := fun y hy e => by have := hob y e.symm; omega
            have d2 : w1.cell? ⟨bl, ol + i * 3, none⟩ = some (.string key) ∧ w1.cell? ⟨bl, ol + i * 3 + 2, none⟩ = some (.slice (some ⟨tb, to', none⟩) n tc) ∧ w1.cell? ⟨tb, to', none⟩ = some (.string x) := by
              have hA : ∀ y, y < w.heap.size → w1.heap[y]? = (wr.drew.alloc (.cells #[.string key, .string x, .int .i64 0] 64)).heap[y]? := fun y hy => gr1.block y (Nat.lt_of_lt_of_le hy HBS1.out) (hne y hy)
              have htb : tb < w.heap.size := HSX.out _ hSb
              exact ⟨(World.cell?_of_block (a := ⟨bl, ol + i * 3, none⟩) (hA bl hbl)).trans d1.1, (World.cell?_of_block (a := ⟨bl, ol + i * 3 + 2, none⟩) (hA bl hbl)).trans d1.2.1, (World.cell?_of_block (a := ⟨tb, to', none⟩) (hA tb htb)).trans d1.2.2⟩
            refine hK.out _ _ d2 (fun _ => ?_)
            clear hK K
            (try simp only [Act.put, List.setIfInBounds_toArray, List.set_cons_zero, List.set_cons_succ])
            (refine wpAnyH_take (i := 16) (v := ?_) rfl (by kernel_rfl) (by kernel_rfl) (by kernel_rfl) (fun _ _ _ h => h) (Or.inl ⟨by kernel_rfl, ?_⟩) (by assumption) ?_; rotate_left 1; (intro W0 hSw; (obtain ⟨s0, s1, s2⟩ := hSw); go_simp; (try with_reducible rfl)); (try simp only [Act.put, List.setIfInBounds_toArray, List.set_cons_zero, List.set_cons_succ]))
            refine wpAnyH_done (by kernel_rfl) ?_ _
            (try dsimp only [Act.put, List.getElem_toArray, List.getElem_cons_succ, List.getElem_cons_zero, List.setIfInBounds_toArray, List.set_cons_zero, List.set_cons_succ])
            have B1 : Below w.heap.size w w1 := (Bi.trans (bA.mono hzr)).grown gr1 HBS1.out hob
            have HO1 : Hid (OwnB w1 w.heap.size (fun _ => False) (.slice (some ⟨g1, 0, none⟩) ((witR l oth i).length + 1) cap1) (witR l oth (i + 1))) := by show OwnB _ _ _ _ _; rw [HW0.out]; simpa using o1
            clear HAL1 hT1 o1 HO gr1 d0 d1 d2 hHeld bA
            go_wp2_with fail
            go_roundw
            case rel => exact ⟨i + 1, oth, by omega, by go_num, B1, HO1, HF.out⟩
            case measure => simp [RowKit.intOf]; omega
        · have hno3 : ((l[i]).2.1 == 3) = false := by rw [beq_eq_false_iff_ne]; exact h3
          have HW0 : Hid (witR l oth (i + 1) = witR l oth i) := by show _ = _; rw [HWR.out, wit_no hil h1 (fun h => absurd h h3), List.append_nil]
          have HF := hmk (HPN.out oth (fun k _ => rfl) (fun hj e _ => absurd e h1))
          clear h1 h3
          generalize (l[i]).2.1 = op at *
          go_wp2_with fail
          go_roundw
          case rel => exact ⟨i + 1, oth, by omega, by go_num, Bi, by rw [HW0.out]; exact HO, HF.out⟩
          case measure => simp [RowKit.intOf]; omega
    · obtain rfl : i = l.length := by omega
      have y1 : ¬ (l.length : Int) < l.length := by omega
      go_wp2_with fail
      (try simp only [Exit.inBlock, Exit.then])
      go_ret
      exact ⟨_, oth, rfl, HO.out, fun j hj a1 a2 => HP.out j hj (by omega) a1 a2, Bi⟩
end Go.Proofs.YtolekldjbbjmjaaGreatDoor
