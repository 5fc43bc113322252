import Derived.Test.YtagjbphadakifaaDoorSimE
/- the document's Simplify (layer 20). -/
set_option linter.unusedSimpArgs false
set_option linter.unusedVariables false
namespace Go.Proofs.YtagjbphadakifaaDoor
open Go.RowKit Go.Lib
set_option maxHeartbeats 16000000 in
set_option maxRecDepth 100000 in
theorem rsimp_any (l : List Trm) (R : Bool) (S : Nat → Prop) (al : Option Addr) (cl bl ol : Nat) (w : World) (hh : Headed al l.length cl bl ol) (hl : liesT R w S l bl ol) (hS : ∀ y, S y → y < w.heap.size) (hwt : wtT l ≤ 2147483647) :
    Calls Tryd.prog 19 #[.slice al l.length cl] w (SmPost (simplV l) w) := by
  have HH := hmk hh
  have hm : l.length ≤ 2147483647 := Nat.le_trans (wtT_len l) hwt
  have C0 := hmk (rgood_any l R S al cl bl ol w hh hl hS)
  have HKY : Hid (∀ t ∈ l, t.1.size ≤ 140737488355328 ∧ SmallS t.2.2) := fun t ht => by
    obtain ⟨j, hj, rfl⟩ := List.mem_iff_getElem.1 ht
    obtain ⟨_, cs, _, t1⟩ := hl j hj
    obtain ⟨_, _, _, _, _, _, hks, _, ts1, _⟩ := t1
    exact ⟨hks, fun s hs => by
      obtain ⟨k, hk, rfl⟩ := List.mem_iff_getElem.1 hs
      exact (ts1 k hk).2.1⟩
  have HLW : Hid (∀ W, Below w.heap.size w W → liesT R W S l bl ol ∧ ∀ y, S y → y < W.heap.size) := fun W hW => ⟨hl.keep (fun h => h) (fun y hy => hW.block y (hS y hy)) (fun _ h => h), fun y hy => Nat.lt_of_lt_of_le (hS y hy) hW.size⟩
  have HC42 : Hid (∀ W, Below w.heap.size w W → ∀ (k : ByteArray) (op : Int), Calls Tryd.prog 42 #[.slice al l.length cl, .string k, .int .i64 op] W (fun e w' => e = .returned (.bool (hasOp l k op)) ∧ w' = W)) := fun W hW k op => rhas_any l k op R S al cl bl ol W HH.out (HLW.out W hW).1
  have HC41 : Hid (∀ W, Below w.heap.size w W → ∀ (k : ByteArray), Calls Tryd.prog 41 #[.slice al l.length cl, .string k] W (fun e w' => ∃ v, e = .returned v ∧ OwnSt w' W.heap.size (fun _ => False) v (gatV 4 l k) ∧ Below W.heap.size W w')) := fun W hW k => rbarred_any l k R S al cl bl ol W HH.out (HLW.out W hW).1 (HLW.out W hW).2 hwt
  have HC40 : Hid (∀ W, Below w.heap.size w W → ∀ (k : ByteArray), Calls Tryd.prog 40 #[.slice al l.length cl, .string k] W (fun e w' => ∃ v, e = .returned v ∧ OwnSt w' W.heap.size (fun _ => False) v (allowV l k (gatV 4 l k) l) ∧ Below W.heap.size W w')) := fun W hW k => rallowed_any l k R S al cl bl ol W HH.out (HLW.out W hW).1 (HLW.out W hW).2 hwt (gatV_small (fun t ht => (HKY.out t ht).2))
  have HQ : Hid (∀ W, Below w.heap.size w W → ∀ j (hj : j < l.length), W.cell? ⟨bl, ol + j * 3, none⟩ = some (.string (l[j]).1)) := fun W hW j hj => by
    obtain ⟨s1, cs, row1, t1⟩ := (HLW.out W hW).1 j hj
    obtain ⟨ta, tc, tb, to', rfl, _⟩ := t1
    exact (row3 row1).1
  clear hh hl
  go_enter Tryd.func19, Tryd.ntmps19
  go_wp2_with fail
  refine C0.out.mono ?_
  rintro e w1 ⟨rfl, b1⟩
  have B1 := hmk b1
  have hz1 := b1.size
  clear b1 C0
  cases hg : l.all goodB with
  | false =>
    have HV : Hid (simplV l = none) := by show _ = _; unfold simplV; rw [hg]; rfl
    go_wp2_with fail
    go_ret2
    rw [HV.out]
    exact sm_none B1.out
  | true =>
    obtain ⟨kx, hkx⟩ : ∃ kx, l.map (·.1) = kx := ⟨_, rfl⟩
    have hkl : kx.length = l.length := by rw [← hkx]; simp
    have HKA : Hid (∀ j (hj : j < l.length), (l[j]).1 = kx[j]'(by omega)) := fun j hj => by subst hkx; simp
    have HKS : Hid (SmallS kx) := fun s hs => by
      rw [← hkx] at hs
      obtain ⟨t, ht, rfl⟩ := List.mem_map.1 hs
      exact (HKY.out t ht).1
    have HV : Hid (simplV l = simpW l (addsV [] kx)) := by show _ = _; unfold simplV keysV; rw [hg, if_pos rfl, hkx]
    clear hkx hg
    go_wp2_with fail
    go_loopw [5, 6] (fun e5 e6 wr => ∃ j : Nat, j ≤ l.length ∧ e6 = .int .i64 (j : Int) ∧ Below w.heap.size w wr ∧ Hid (OwnSt wr w.heap.size (fun _ => False) e5 (addsV [] (kx.take j)))) (fun _ e6 _ => l.length - (RowKit.intOf e6).toNat)
    case atStart => exact ⟨0, by omega, rfl, B1.out, (by show OwnSt _ _ _ _ _; simpa [addsV] using OwnR.nil _ _)⟩
    case round =>
      obtain ⟨j, hj, rfl, Bj, HO⟩ := hrel
      have hzr := Bj.size
      by_cases hjl : j < l.length
      · have y1 : (j : Int) < l.length := by omega
        obtain rfl : al = some ⟨bl, ol, none⟩ := HH.out.at_.resolve_left (by omega)
        have q := HQ.out _ Bj j hjl
        rw [HKA.out j hjl] at q
        have hjk : j < kx.length := by omega
        have hal := addsV_len (kx.take j) []
        have htl : (kx.take j).length ≤ j := List.length_take_le _ _
        have h0 : ([] : List ByteArray).length = 0 := rfl
        have C := hmk (own_add (addsV [] (kx.take j)) kx[j] u5 w.heap.size wr HO.out hzr (addsV_small (fun s hs => by cases hs) (fun s hs => HKS.out s (List.mem_of_mem_take hs))) (by omega))
        have HNX := hmk (addsV_next (acc := []) hjk)
        clear hal htl HO h0
        generalize kx[j] = x at *
        go_wp2_with fail
        refine C.out.mono ?_
        rintro e w2 ⟨v2, rfl, o2, b2⟩
        have O2 : Hid (OwnSt w2 w.heap.size (fun _ => False) v2 (addsV [] (kx.take (j + 1)))) := by show OwnSt _ _ _ _ _; rw [HNX.out]; exact o2
        have B2 := Bj.trans (b2.mono hzr)
        clear o2 b2 C
        go_wp2_with fail
        go_roundw
        case rel => exact ⟨j + 1, by omega, by go_num, B2, O2⟩
        case measure => simp [RowKit.intOf]; omega
      · rename World => w2
        obtain rfl : j = l.length := by omega
        have y1 : ¬ (l.length : Int) < l.length := by omega
        rw [← hkl, List.take_length] at HO
        have hal := addsV_len kx []
        have h0 : ([] : List ByteArray).length = 0 := rfl
        have HSM : Hid (SmallS (addsV [] kx)) := addsV_small (fun s hs => by cases hs) HKS.out
        have hkn : (addsV [] kx).length ≤ 2147483647 := by omega
        clear hal h0 HKA HQ
        generalize addsV [] kx = ks at *
        obtain ⟨ka, kc, kb, ko, rfl, hkh, hkr⟩ := own_read1 HO.out HSM.out
        have HKH := hmk hkh
        have hklt : ∀ r, (Value.slice ka ks.length kc).ownBlock = some r → r < w2.heap.size := fun r hr => (HO.out.lt hr).2
        have HKQ : Hid (∀ W, Below w2.heap.size w2 W → ∀ i (hi : i < ks.length), W.cell? ⟨kb, ko + i, none⟩ = some (.string ks[i])) := fun W hW i hi => by
          obtain ⟨h1, _, h3⟩ := hkr i hi
          exact (hW.cell (p := ⟨kb, ko + i, none⟩) (hklt _ h1)).trans h3
        have BR := hmk Bj
        have HZR : Hid (w.heap.size ≤ w2.heap.size) := hzr
        have HB1 : Hid (∀ W, Below w2.heap.size w2 W → Below w.heap.size w W) := fun W hW => BR.out.trans (hW.mono HZR.out)
        clear HO hkh hkr hklt Bj hzr
        go_wp2_with fail
        (try simp only [Exit.inBlock, Exit.then])
        go_wp2_with fail
        go_loopw [7, 8] (fun e7 e8 wi => ∃ (i : Nat) (SM : Nat → Prop) (out : List Trm), i ≤ ks.length ∧ e8 = .int .i64 (i : Int) ∧ Below w2.heap.size w2 wi ∧ Hid (OwnF wi w2.heap.size SM e7 out) ∧ Hid (simpW l (ks.take i) = some out) ∧ out.length ≤ 2 * i) (fun _ e8 _ => ks.length - (RowKit.intOf e8).toNat)
        case atStart => exact ⟨0, fun _ => False, [], by omega, rfl, Below.refl _ _, OwnR.nil _ _, rfl, by simp⟩
        case round =>
          obtain ⟨i, SM, out, hi, rfl, Bi, HO, HW, hol⟩ := hrel
          have hzi := Bi.size
          by_cases hil : i < ks.length
          · have y2 : (i : Int) < ks.length := by omega
            have q := HKQ.out _ Bi i hil
            obtain rfl : ka = some ⟨kb, ko, none⟩ := HKH.out.at_.resolve_left (by omega)
            have HKK : Hid ((ks[i]).size ≤ 140737488355328) := HSM.out _ (List.getElem_mem hil)
            have HGO : Hid (∀ x, simpT l ks[i] = some x → simpW l (ks.take (i + 1)) = some (out ++ x)) := fun x hx => simpW_go hil HW.out hx
            have HNO : Hid (simpT l ks[i] = none → simpW l ks = none) := fun hx => simpW_stop hil hx
            generalize ks[i] = k at *
            have BW := hmk (HB1.out _ Bi)
            have C40 := hmk (HC40.out _ BW.out k)
            go_wp2_with fail
            refine C40.out.mono ?_
            rintro e wa ⟨va, rfl, oa, ba⟩
            have Ba := hmk (Bi.trans (ba.mono hzi))
            have C41 := hmk (HC41.out _ (HB1.out _ Ba.out) k)
            have hza := ba.size
            clear C40
            obtain ⟨aa, ac, rfl⟩ := own_slice oa
            go_wp2_with fail
            refine C41.out.mono ?_
            rintro e wb ⟨vb, rfl, ob, bb⟩
            obtain ⟨na, nc, rfl⟩ := own_slice ob
            have hzb := bb.size
            have Bb := hmk (Ba.out.trans (bb.mono Ba.out.size))
            have OA := hmk (oa.below keepS bb)
            have OB := hmk ob
            have HOL : Hid (∀ r, u7.ownBlock = some r → w2.heap.size ≤ r ∧ r < wr.heap.size) := fun r hr => HO.out.lt hr
            have HOB := hmk ((HO.out.below keepF ba).below keepF bb)
            have HZ : Hid (wr.heap.size ≤ wa.heap.size ∧ wa.heap.size ≤ wb.heap.size ∧ w2.heap.size ≤ wr.heap.size) := ⟨hza, hzb, hzi⟩
            have CH : Hid (∀ op : Int, Calls Tryd.prog 42 #[.slice al l.length cl, .string k, .int .i64 op] wb (fun e w' => e = .returned (.bool (hasOp l k op)) ∧ w' = wb)) := fun op => HC42.out wb (HB1.out _ Bb.out) k op
            have HSO : Hid (SmallS (allowV l k (gatV 4 l k) l)) := allowV_small (fun t ht => (HKY.out t ht).2)
            have HSN : Hid (SmallS (gatV 4 l k)) := gatV_small (fun t ht => (HKY.out t ht).2)
            have HT0 : Hid (simpT l k = if hasOp l k 2 then (if hasOp l k 1 || hasOp l k 3 then none else some [(k, 2, [])])
              else if hasOp l k 3 then (if (allowV l k (gatV 4 l k) l).length = 0 then none else some [(k, 3, allowV l k (gatV 4 l k) l)])
              else some ((if hasOp l k 1 then [(k, 1, [])] else []) ++ (if (gatV 4 l k).length = 0 then [] else [(k, 4, gatV 4 l k)]))) := rfl
            have hsl : (allowV l k (gatV 4 l k) l).length ≤ 9223372036854775807 := by
              obtain ⟨a9, c9, b9, o9, e9, h9, _⟩ := own_read1 OA.out HSO.out
              exact Nat.le_trans h9.le h9.max
            have hnl : (gatV 4 l k).length ≤ 9223372036854775807 := by
              obtain ⟨a9, c9, b9, o9, e9, h9, _⟩ := own_read1 OB.out HSN.out
              exact Nat.le_trans h9.le h9.max
            have HLN : Hid (out.length ≤ 4294967296) := by show _ ≤ _; omega
            have HBS : Hid (w2.heap.size ≤ wb.heap.size) := Bb.out.size
            clear oa ba ob bb C41 HO hza hzb
            generalize allowV l k (gatV 4 l k) l = so at *
            generalize gatV 4 l k = no at *
            have C1 := hmk (CH.out 1)
            have C2 := hmk (CH.out 2)
            have C3 := hmk (CH.out 3)
            clear CH
            generalize hasOp l k 1 = p1 at *
            generalize hasOp l k 2 = p2 at *
            generalize hasOp l k 3 = p3 at *
            cases p2 with
            | true =>
              cases p1 with
              | true =>
                replace HT0 : Hid (simpT l k = none) := HT0
                go_wp2_with fail
                refine C2.out.mono ?_
                rintro e w9 ⟨rfl, hw9⟩
                obtain rfl : wb = w9 := hw9.symm
                clear hw9
                go_wp2_with fail
                refine C1.out.mono ?_
                rintro e w9 ⟨rfl, hw9⟩
                obtain rfl : wb = w9 := hw9.symm
                clear hw9
                go_wp2_with fail
                go_ret2
                rw [HV.out, HNO.out HT0.out]
                exact sm_none (HB1.out _ Bb.out)
              | false =>
                cases p3 with
                | true =>
                  replace HT0 : Hid (simpT l k = none) := HT0
                  go_wp2_with fail
                  refine C2.out.mono ?_
                  rintro e w9 ⟨rfl, hw9⟩
                  obtain rfl : wb = w9 := hw9.symm
                  clear hw9
                  go_wp2_with fail
                  refine C1.out.mono ?_
                  rintro e w9 ⟨rfl, hw9⟩
                  obtain rfl : wb = w9 := hw9.symm
                  clear hw9
                  go_wp2_with fail
                  refine C3.out.mono ?_
                  rintro e w9 ⟨rfl, hw9⟩
                  obtain rfl : wb = w9 := hw9.symm
                  clear hw9
                  go_wp2_with fail
                  go_ret2
                  rw [HV.out, HNO.out HT0.out]
                  exact sm_none (HB1.out _ Bb.out)
                | false =>
                  replace HT0 : Hid (simpT l k = some [(k, 2, [])]) := HT0
                  go_wp2_with fail
                  refine C2.out.mono ?_
                  rintro e w9 ⟨rfl, hw9⟩
                  obtain rfl : wb = w9 := hw9.symm
                  clear hw9
                  go_wp2_with fail
                  refine C1.out.mono ?_
                  rintro e w9 ⟨rfl, hw9⟩
                  obtain rfl : wb = w9 := hw9.symm
                  clear hw9
                  go_wp2_with fail
                  refine C3.out.mono ?_
                  rintro e w9 ⟨rfl, hw9⟩
                  obtain rfl : wb = w9 := hw9.symm
                  clear hw9
                  go_wp2_with (at_builtin; go_loud (refine wpl_term _ rfl (.tmp 74) (.tmp 77) rfl w2.heap.size rfl HOB.out k 2 (v := (.slice none 0 0)) 0 (OwnR.nil _ _) (by unfold In64; omega) HKK.out (fun s hs => by cases hs) (fun r hr => by cases hr) rfl HLN.out HBS.out ?_))
                  intro g1 cap1 wc1 o1 gr1 e1
                  have B1c : Hid (Below w2.heap.size w2 wc1) := Bb.out.grown gr1 HBS.out (fun r hr => (HOL.out r hr).1)
                  have O1 : Hid (OwnF wc1 w2.heap.size _ (.slice (some ⟨g1, 0, none⟩) (out.length + 1) cap1) (out ++ [(k, 2, [])])) := o1
                  clear o1 gr1 HOB OA OB
                  go_wp2_with fail
                  go_roundw
                  case rel => exact ⟨i + 1, _, out ++ [(k, 2, [])], by omega, by go_num, B1c.out, O1, HGO.out _ HT0.out, by simp; omega⟩
                  case measure => simp [RowKit.intOf]; omega
            | false =>
              cases p3 with
              | true =>
                by_cases h0 : so.length = 0
                · have HT1 : Hid (simpT l k = none) := by have := HT0.out; rw [if_neg (by simp), if_pos rfl, if_pos h0] at this; exact this
                  have yz : ((so.length : Int) == 0) = true := by rw [beq_iff_eq]; omega
                  clear HT0
                  have HT0 := HT1
                  go_wp2_with fail
                  refine C2.out.mono ?_
                  rintro e w9 ⟨rfl, hw9⟩
                  obtain rfl : wb = w9 := hw9.symm
                  clear hw9
                  go_wp2_with fail
                  refine C3.out.mono ?_
                  rintro e w9 ⟨rfl, hw9⟩
                  obtain rfl : wb = w9 := hw9.symm
                  clear hw9
                  go_wp2_with fail
                  go_ret2
                  rw [HV.out, HNO.out HT0.out]
                  exact sm_none (HB1.out _ Bb.out)
                · have HT1 : Hid (simpT l k = some [(k, 3, so)]) := by have := HT0.out; rw [if_neg (by simp), if_pos rfl, if_neg h0] at this; exact this
                  have yz : ((so.length : Int) == 0) = false := by rw [beq_eq_false_iff_ne]; omega
                  clear HT0
                  have HT0 := HT1
                  go_wp2_with fail
                  refine C2.out.mono ?_
                  rintro e w9 ⟨rfl, hw9⟩
                  obtain rfl : wb = w9 := hw9.symm
                  clear hw9
                  go_wp2_with fail
                  refine C3.out.mono ?_
                  rintro e w9 ⟨rfl, hw9⟩
                  obtain rfl : wb = w9 := hw9.symm
                  clear hw9
                  go_wp2_with (at_builtin; go_loud (refine wpl_term _ rfl (.tmp 86) (.tmp 90) rfl w2.heap.size rfl HOB.out k 3 (v := (.slice aa so.length ac)) wr.heap.size OA.out (by unfold In64; omega) HKK.out HSO.out (fun r hr => by have h1 := OA.out.lt hr; have h2 := HZ.out; exact ⟨by omega, fun e => by have := (HOL.out r e.symm).2; omega⟩) rfl HLN.out HBS.out ?_))
                  intro g1 cap1 wc1 o1 gr1 e1
                  have B1c : Hid (Below w2.heap.size w2 wc1) := Bb.out.grown gr1 HBS.out (fun r hr => (HOL.out r hr).1)
                  have O1 : Hid (OwnF wc1 w2.heap.size _ (.slice (some ⟨g1, 0, none⟩) (out.length + 1) cap1) (out ++ [(k, 3, so)])) := o1
                  clear o1 gr1 HOB OA OB
                  go_wp2_with fail
                  go_roundw
                  case rel => exact ⟨i + 1, _, out ++ [(k, 3, so)], by omega, by go_num, B1c.out, O1, HGO.out _ HT0.out, by simp; omega⟩
                  case measure => simp [RowKit.intOf]; omega
              | false =>
                by_cases h0 : no.length = 0
                · have yz : ¬ (0 : Int) < no.length := by omega
                  cases p1 with
                  | true =>
                    have HT1 : Hid (simpT l k = some [(k, 1, [])]) := by have := HT0.out; rw [if_neg (by simp), if_neg (by simp), if_pos rfl, if_pos h0] at this; exact this
                    clear HT0
                    have HT0 := HT1
                    go_wp2_with fail
                    refine C2.out.mono ?_
                    rintro e w9 ⟨rfl, hw9⟩
                    obtain rfl : wb = w9 := hw9.symm
                    clear hw9
                    go_wp2_with fail
                    refine C3.out.mono ?_
                    rintro e w9 ⟨rfl, hw9⟩
                    obtain rfl : wb = w9 := hw9.symm
                    clear hw9
                    go_wp2_with fail
                    refine C1.out.mono ?_
                    rintro e w9 ⟨rfl, hw9⟩
                    obtain rfl : wb = w9 := hw9.symm
                    clear hw9
                    go_wp2_with (at_builtin; go_loud (refine wpl_term _ rfl (.tmp 48) (.tmp 51) rfl w2.heap.size rfl HOB.out k 1 (v := (.slice none 0 0)) 0 (OwnR.nil _ _) (by unfold In64; omega) HKK.out (fun s hs => by cases hs) (fun r hr => by cases hr) rfl HLN.out HBS.out ?_))
                    intro g1 cap1 wc1 o1 gr1 e1
                    have B1c : Hid (Below w2.heap.size w2 wc1) := Bb.out.grown gr1 HBS.out (fun r hr => (HOL.out r hr).1)
                    have O1 : Hid (OwnF wc1 w2.heap.size _ (.slice (some ⟨g1, 0, none⟩) (out.length + 1) cap1) (out ++ [(k, 1, [])])) := o1
                    clear o1 gr1 HOB OA OB
                    go_wp2_with fail
                    go_roundw
                    case rel => exact ⟨i + 1, _, out ++ [(k, 1, [])], by omega, by go_num, B1c.out, O1, HGO.out _ HT0.out, by simp; omega⟩
                    case measure => simp [RowKit.intOf]; omega
                  | false =>
                    have HT1 : Hid (simpT l k = some []) := by have := HT0.out; rw [if_neg (by simp), if_neg (by simp), if_neg (by simp), if_pos h0] at this; exact this
                    clear HT0
                    have HT0 := HT1
                    go_wp2_with fail
                    refine C2.out.mono ?_
                    rintro e w9 ⟨rfl, hw9⟩
                    obtain rfl : wb = w9 := hw9.symm
                    clear hw9
                    go_wp2_with fail
                    refine C3.out.mono ?_
                    rintro e w9 ⟨rfl, hw9⟩
                    obtain rfl : wb = w9 := hw9.symm
                    clear hw9
                    go_wp2_with fail
                    refine C1.out.mono ?_
                    rintro e w9 ⟨rfl, hw9⟩
                    obtain rfl : wb = w9 := hw9.symm
                    clear hw9
                    go_wp2_with fail
                    go_roundw
                    case rel => exact ⟨i + 1, _, out ++ [], by omega, by go_num, Bb.out, (by rw [List.append_nil]; exact HOB), HGO.out _ HT0.out, by simp; omega⟩
                    case measure => simp [RowKit.intOf]; omega
                · have yz : (0 : Int) < no.length := by omega
                  cases p1 with
                  | true =>
                    have HT1 : Hid (simpT l k = some [(k, 1, []), (k, 4, no)]) := by have := HT0.out; rw [if_neg (by simp), if_neg (by simp), if_pos rfl, if_neg h0] at this; exact this
                    clear HT0
                    have HT0 := HT1
                    go_wp2_with fail
                    refine C2.out.mono ?_
                    rintro e w9 ⟨rfl, hw9⟩
                    obtain rfl : wb = w9 := hw9.symm
                    clear hw9
                    go_wp2_with fail
                    refine C3.out.mono ?_
                    rintro e w9 ⟨rfl, hw9⟩
                    obtain rfl : wb = w9 := hw9.symm
                    clear hw9
                    go_wp2_with fail
                    refine C1.out.mono ?_
                    rintro e w9 ⟨rfl, hw9⟩
                    obtain rfl : wb = w9 := hw9.symm
                    clear hw9
                    go_wp2_with (at_builtin; go_loud (refine wpl_term _ rfl (.tmp 48) (.tmp 51) rfl w2.heap.size rfl HOB.out k 1 (v := (.slice none 0 0)) 0 (OwnR.nil _ _) (by unfold In64; omega) HKK.out (fun s hs => by cases hs) (fun r hr => by cases hr) rfl HLN.out HBS.out ?_))
                    intro g1 cap1 wc1 o1 gr1 e1
                    have B1c : Hid (Below w2.heap.size w2 wc1) := Bb.out.grown gr1 HBS.out (fun r hr => (HOL.out r hr).1)
                    have O1 : Hid (OwnF wc1 w2.heap.size _ (.slice (some ⟨g1, 0, none⟩) (out.length + 1) cap1) (out ++ [(k, 1, [])])) := o1
                    have hg1 : u7.ownBlock = some g1 ∨ wb.heap.size ≤ g1 := e1
                    have OB1 : Hid (OwnSt wc1 wa.heap.size (fun _ => False) (.slice na no.length nc) no) := OB.out.keep keepS gr1 (fun r hr => ⟨fun h => h, fun e => by have h1 := OB.out.lt e; have h2 := HZ.out; have := (HOL.out r hr).2; omega⟩)
                    have HSEP : Hid (∀ r, (Value.slice na no.length nc).ownBlock = some r → w2.heap.size ≤ r ∧ some r ≠ (Value.slice (some ⟨g1, 0, none⟩) (out.length + 1) cap1).ownBlock) := fun r hr => by
                      have h1 := OB.out.lt hr
                      have h2 := HZ.out
                      refine ⟨by omega, fun e => ?_⟩
                      have e2 : r = g1 := Option.some.inj e
                      rcases hg1 with h | h
                      · have := (HOL.out g1 h).2; omega
                      · omega
                    have HLN1 : Hid ((out ++ [(k, (1 : Int), ([] : List ByteArray))]).length ≤ 4294967296) := by show _ ≤ _; simp; omega
                    have HBS1 : Hid (w2.heap.size ≤ wc1.heap.size) := B1c.out.size
                    have HG1 : Hid (w2.heap.size ≤ g1) := by
                      rcases hg1 with h | h
                      · exact (HOL.out g1 h).1
                      · have := HZ.out; show _ ≤ _; omega
                    clear o1 gr1 HOB OA OB hg1 e1
                    go_wp2_with (at_builtin; go_loud (refine wpl_term _ rfl (.tmp 56) (.tmp 60) rfl w2.heap.size rfl O1.out k 4 (v := (.slice na no.length nc)) wa.heap.size OB1.out (by unfold In64; omega) HKK.out HSN.out HSEP.out rfl HLN1.out HBS1.out ?_))
                    intro g2 cap2 wc2 o2 gr2 e2
                    have B2c : Hid (Below w2.heap.size w2 wc2) := B1c.out.grown gr2 HBS1.out (fun r hr => by have h : g1 = r := Option.some.inj hr; rw [← h]; exact HG1.out)
                    (try rw [List.append_assoc] at o2)
                    have O2 := hmk o2
                    clear o2 gr2 O1
                    go_wp2_with fail
                    go_roundw
                    case rel => exact ⟨i + 1, _, out ++ [(k, 1, []), (k, 4, no)], by omega, by go_num, B2c.out, O2, HGO.out _ HT0.out, by simp; omega⟩
                    case measure => simp [RowKit.intOf]; omega
                  | false =>
                    have HT1 : Hid (simpT l k = some [(k, 4, no)]) := by have := HT0.out; rw [if_neg (by simp), if_neg (by simp), if_neg (by simp), if_neg h0] at this; exact this
                    clear HT0
                    have HT0 := HT1
                    go_wp2_with fail
                    refine C2.out.mono ?_
                    rintro e w9 ⟨rfl, hw9⟩
                    obtain rfl : wb = w9 := hw9.symm
                    clear hw9
                    go_wp2_with fail
                    refine C3.out.mono ?_
                    rintro e w9 ⟨rfl, hw9⟩
                    obtain rfl : wb = w9 := hw9.symm
                    clear hw9
                    go_wp2_with fail
                    refine C1.out.mono ?_
                    rintro e w9 ⟨rfl, hw9⟩
                    obtain rfl : wb = w9 := hw9.symm
                    clear hw9
                    go_wp2_with (at_builtin; go_loud (refine wpl_term _ rfl (.tmp 56) (.tmp 60) rfl w2.heap.size rfl HOB.out k 4 (v := (.slice na no.length nc)) wa.heap.size OB.out (by unfold In64; omega) HKK.out HSN.out (fun r hr => by have h1 := OB.out.lt hr; have h2 := HZ.out; exact ⟨by omega, fun e => by have := (HOL.out r e.symm).2; omega⟩) rfl HLN.out HBS.out ?_))
                    intro g1 cap1 wc1 o1 gr1 e1
                    have B1c : Hid (Below w2.heap.size w2 wc1) := Bb.out.grown gr1 HBS.out (fun r hr => (HOL.out r hr).1)
                    have O1 : Hid (OwnF wc1 w2.heap.size _ (.slice (some ⟨g1, 0, none⟩) (out.length + 1) cap1) (out ++ [(k, 4, no)])) := o1
                    clear o1 gr1 HOB OA OB
                    go_wp2_with fail
                    go_roundw
                    case rel => exact ⟨i + 1, _, out ++ [(k, 4, no)], by omega, by go_num, B1c.out, O1, HGO.out _ HT0.out, by simp; omega⟩
                    case measure => simp [RowKit.intOf]; omega
          · obtain rfl : i = ks.length := by omega
            have y2 : ¬ (ks.length : Int) < ks.length := by omega
            rw [List.take_length] at HW
            have HF := hmk (HB1.out _ Bi)
            have HO2 := hmk (HO.out.base HZR.out)
            go_wp2_with fail
            (try simp only [Exit.inBlock, Exit.then])
            go_ret2
            rw [HV.out, HW.out]
            exact sm_some HO2.out HF.out
end Go.Proofs.YtagjbphadakifaaDoor
