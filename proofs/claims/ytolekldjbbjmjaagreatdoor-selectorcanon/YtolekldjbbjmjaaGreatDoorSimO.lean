import Derived.Test.YtolekldjbbjmjaaGreatDoorSimN
/- the program's Simplify (layer 20). -/
set_option linter.unusedSimpArgs false
set_option linter.unusedVariables false
namespace Go.Proofs.YtolekldjbbjmjaaGreatDoor
open Go.RowKit Go.Lib Go.Maps
theorem step_upd {P : Program} {ops : Array Oper} {o : Oper} {a : Act} {w w' : World} {K' : Act → World → Prop} {Q : Exit → Act → World → Prop} {D : Prop} (hgd : o.guard = none) (m x v : Operand) (t : TypeId) (hop : o.op = Op.mapUpdate t m x v)
    (b : Nat) (key val : Value) (hm : a.eval m = .map (some b)) (hx : a.eval x = key) (hv : a.eval v = val) (hrun : (Instr.mapUpdate t (.map (some b)) key val).run P w = .ok () w')
    (h : K' (a.put o.dst undef) w') : if Region.wanted o (yielded ops a.tmps) = true then Oper.wp P o a w K' Q else D := by
  have hw : Region.wanted o (yielded ops a.tmps) = true := by simp [Region.wanted, hgd]
  rw [if_pos hw]
  unfold Oper.wp
  simp [execOp, hop, hm, hx, hv, hrun, Result.andThen]
  exact h
set_option maxHeartbeats 16000000 in
set_option maxRecDepth 100000 in
theorem simp_any (l : List Trm) (R : Bool) (S : Nat → Prop) (al : Option Addr) (cl bl ol : Nat) (w : World) (hh : Headed al l.length cl bl ol) (hl : liesT R w S l bl ol) (hS : ∀ y, S y → y < w.heap.size) (hwt : wtT l ≤ 2147483647) (hT : Tb w) :
    Calls Tryz.prog 14 #[.slice al l.length cl] w (SmPost (simplV l) w) := by
  have HH := hmk hh
  have hm : l.length ≤ 2147483647 := Nat.le_trans (wtT_len l) hwt
  have C0 := hmk (issel_any l R S al cl bl ol w hh hl hS hT)
  have HKY : Hid (∀ t ∈ l, t.1.size ≤ 140737488355328 ∧ SmallS t.2.2) := fun t ht => by
    obtain ⟨j, hj, rfl⟩ := List.mem_iff_getElem.1 ht
    obtain ⟨_, cs, _, t1⟩ := hl j hj
    obtain ⟨_, _, _, _, _, _, hks, _, ts1, _⟩ := t1
    exact ⟨hks, fun s hs => by
      obtain ⟨k, hk, rfl⟩ := List.mem_iff_getElem.1 hs
      exact (ts1 k hk).2.1⟩
  have HLW : Hid (∀ W, Below w.heap.size w W → liesT R W S l bl ol) := fun W hW => hl.keep (fun h => h) (fun y hy => hW.block y (hS y hy)) (fun _ h => h)
  have HSB : Hid (∀ y, S y → y < w.heap.size) := hS
  clear hh hl hT hS
  go_enter Tryz.func14, Tryz.ntmps14
  go_wp2_with fail
  refine C0.out.mono ?_
  rintro e w1 ⟨rfl, b1⟩
  have B1 := hmk b1
  clear b1 C0
  cases hg : l.all goodB with
  | false =>
    have HV : Hid (simplV l = none) := by show _ = _; unfold simplV; rw [hg]; rfl
    go_wp2_with fail
    go_ret2
    rw [HV.out]
    exact sm_none B1.out
  | true =>
    have HG := hmk hg
    have HV : Hid (simplV l = simpW l (keysV l)) := by show _ = _; unfold simplV; rw [hg, if_pos rfl]
    clear hg
    have hmk69 := mk69 w1
    obtain ⟨b, hb⟩ : ∃ b, w1.heap.size = b := ⟨_, rfl⟩
    have HM0 : Hid ((w1.alloc (.map #[] 0)).ownsMap Tryz.prog 9 oRd b 0 (.map [])) := by show World.ownsMap _ _ _ _ _ _ _; rw [← hb]; exact World.ownsMap_made w1 Tryz.prog 9 oRd
    have HB0 : Hid (Below w.heap.size w (w1.alloc (.map #[] 0))) := B1.out.alloc B1.out.size _
    have HZ0 : Hid ((w1.alloc (.map #[] 0)).heap.size = b + 1) := by show _ = _; rw [alloc_size, hb]
    have HWB : Hid (w.heap.size ≤ b) := by have := B1.out.size; show _ ≤ _; omega
    rw [hb] at hmk69
    go_wp2_with fail
    clear hmk69 hb B1
    generalize (w1.alloc (.map #[] 0)) = w2 at *
    go_loopw [17] (fun e17 wr => ∃ (j n : Nat) (D : DataW Unit) (sv nv : ByteArray → Value), j ≤ l.length ∧ n ≤ j ∧ e17 = .int .i64 (j : Int) ∧ Hid (Below w.heap.size w wr) ∧ Hid (wr.ownsMap Tryz.prog 9 oRd b n D) ∧ Hid (Gat wr (b + 1) (l.take j) D sv nv) ∧ Hid (b + 1 ≤ wr.heap.size)) (fun e17 _ => l.length - (RowKit.intOf e17).toNat)
    case atStart => exact ⟨0, 0, .map [], _, _, by omega, by omega, rfl, HB0, HM0, Gat.start _ _, (by show _ ≤ _; have := HZ0.out; omega)⟩
    case round =>
      clear HM0 HB0 HZ0
      obtain ⟨j, n, D, sv, nv, hj, hn, rfl, HB, HM, HGT, HZ⟩ := hrel
      by_cases hjl : j < l.length
      · have y1 : (j : Int) < l.length := by omega
        obtain rfl : al = some ⟨bl, ol, none⟩ := HH.out.at_.resolve_left (by omega)
        obtain ⟨s1, cs, row1, t1⟩ := HLW.out _ HB.out j hjl
        obtain ⟨ta, tc, tb, to', rfl, hop, hks, hd1, ts1, _⟩ := t1
        have hbl := HSB.out _ s1
        obtain ⟨q, q0, q1⟩ := row3 row1
        have HJL := hmk hjl
        have HBD := hmk (pdOf_bounds (l := l) (fun t ht => (HKY.out t ht).2) j hj (l[j]).1)
        have hgt : goodB l[j] = true := List.all_eq_true.1 HG.out _ (List.getElem_mem hjl)
        have HGG := hmk hgt
        have hvl : (l[j]).2.2.length ≤ 2147483647 := by have h1 := wtT_mem (List.getElem_mem hjl); have h2 := wtS_len (l[j]).2.2; omega
        have HST : Hid (∀ (w' w3 wz : World) (sv' nv' : Value), OwnSt w' (b + 1) (fun _ => False) sv' ((pdOf (l.take j) (l[j]).1).add l[j]).s → OwnSt w' (b + 1) (fun _ => False) nv' ((pdOf (l.take j) (l[j]).1).add l[j]).n → Gat wz (b + 1) (l.take j) D sv nv → wz.grownBy w' (nv (l[j]).1).ownBlock → (sv' = sv (l[j]).1 ∨ ∀ r, sv'.ownBlock = some r → wz.heap.size ≤ r) → (nv'.ownBlock = (nv (l[j]).1).ownBlock ∨ ∀ r, nv'.ownBlock = some r → wz.heap.size ≤ r) → (∀ r, nv'.ownBlock = some r → sv'.ownBlock ≠ some r) → w'.grownBy w3 (some b) → ∃ sv2 nv2, Gat w3 (b + 1) (l.take (j + 1)) (D.put (kL (l[j]).1) (datD ((pdOf (l.take j) (l[j]).1).add l[j]) sv' nv')) sv2 nv2) := fun w' w3 wz sv' nv' h1 h2 h0 h3 h4 h5 h6 h7 => ⟨_, _, h0.step hjl rfl h1 h2 h3 h4 h5 h6 h7 (by omega)⟩
        have HTS : Hid (∀ W, Below wr.heap.size wr W → liesS W S (l[j]).2.2 tb to') := fun W hW => ts1.keep (fun y hy => hW.block y (Nat.lt_of_lt_of_le (HSB.out y hy) HB.out.size)) (fun _ h => h)
        have HTD := hmk hd1
        have HKS := hmk hks
        clear row1 ts1 hd1 hks s1 hgt hop
        generalize l[j] = t at *
        obtain ⟨key, op, vs⟩ := t
        dsimp only at q q0 q1 HBD HGG HST HTS HTD HKS hvl
        have hX := heap_alloc_new wr (.cells #[.string key, .int .i64 op, .slice ta vs.length tc] 35)
        have HA : Hid (Below wr.heap.size wr (wr.alloc (.cells #[.string key, .int .i64 op, .slice ta vs.length tc] 35))) := (Below.refl _ _).alloc (Nat.le_refl _) _
        have HBX := hmk (HB.out.alloc HB.out.size (.cells #[.string key, .int .i64 op, .slice ta vs.length tc] 35))
        have HMX := hmk (HM.out.alloc (.cells #[.string key, .int .i64 op, .slice ta vs.length tc] 35))
        have HGX : Hid (Gat (wr.alloc (.cells #[.string key, .int .i64 op, .slice ta vs.length tc] 35)) (b + 1) (l.take j) D sv nv) := HGT.out.keep (row := none) (World.grownBy_alloc wr _ _) (fun r hr => by cases hr)
        have HZX : Hid ((wr.alloc (.cells #[.string key, .int .i64 op, .slice ta vs.length tc] 35)).heap.size = wr.heap.size + 1) := by show _ = _; rw [alloc_size]
        have HTX := hmk (HTS.out _ HA.out)
        have HRB : Hid (∀ x r, ((sv x).ownBlock = some r → r < wr.heap.size) ∧ ((nv x).ownBlock = some r → r < wr.heap.size)) := fun x r => ⟨fun hr => ((HGT.out.s x).lt hr).2, fun hr => ((HGT.out.n x).lt hr).2⟩
        go_upto_region 7 with fail
        generalize (wr.alloc (.cells #[.string key, .int .i64 op, .slice ta vs.length tc] 35)) = wx at *
        have HX0 := hmk hX
        have HSX : Hid (∀ y, S y → y < wr.heap.size) := fun y hy => Nat.lt_of_lt_of_le (HSB.out y hy) HB.out.size
        clear HB HM HGT HA HTS q q0 q1 hX
        generalize wr.heap.size = X at *
        have HLK := hmk (fun (W : World) (hW : W.ownsMap Tryz.prog 9 oRd b n D) => HGX.out.look hW key (by have := HKS.out; unfold maxLen; omega))
        have AND := hmk (and_any (pdOf (l.take j) key) (key, op, vs) S (sv key) (nv key) (b + 1) ta tc tb to' wx.drew ((HGX.out.s key).drew keepS) ((HGX.out.n key).drew keepS) (by have := HZ.out; have := HZX.out; show _ ≤ wx.heap.size; omega) HBD.out.1 (by have := HBD.out.2.2.1; omega) (by have := HBD.out.2.2.2; omega) HTD.out HTX.out (fun y hy => by have := HSX.out y hy; have := HZX.out; show _ < wx.heap.size; omega) hvl HGG.out (fun r hr => HGX.out.sep key key r hr))
        have HGS := hmk (fun w' w3 => HST.out w' w3 wx)
        have hHB : Hid (∀ r, (nv key).ownBlock = some r → r < X ∧ b + 1 ≤ r) := fun r hr => ⟨(HRB.out key r).2 hr, ((HGX.out.n key).lt hr).1⟩
        unfold AndPost at AND
        clear HRB HST HBD
        obtain ⟨d, hd⟩ : ∃ d, pdOf (l.take j) key = d := ⟨_, rfl⟩
        rw [hd] at AND HGS HLK
        have HDD := hmk hd
        clear hd
        obtain ⟨sk, hsk⟩ : ∃ sk, sv key = sk := ⟨_, rfl⟩
        obtain ⟨nk, hnk⟩ : ∃ nk, nv key = nk := ⟨_, rfl⟩
        rw [hsk, hnk] at AND HGS HLK
        rw [hnk] at hHB
        clear hsk hnk
        have d0 : wx.cell? ⟨X, 0, none⟩ = some (.string key) ∧ wx.cell? ⟨X, 1, none⟩ = some (.int .i64 op) ∧ wx.cell? ⟨X, 2, none⟩ = some (.slice ta vs.length tc) := by
          refine ⟨?_, ?_, ?_⟩ <;> (rw [cell_of_block HX0.out]; rfl)
        have HGXH := HGX
        clear HGX
        refine wp_region_held_drew (S := fun Y => Y.cell? ⟨X, 0, none⟩ = some (.string key) ∧ Y.cell? ⟨X, 1, none⟩ = some (.int .i64 op) ∧ Y.cell? ⟨X, 2, none⟩ = some (.slice ta vs.length tc)) (by kernel_rfl) d0 (fun hHeld => ?_)
        (refine wpAnyH_take (i := 0) (v := ?_) rfl (by kernel_rfl) (by kernel_rfl) (by kernel_rfl) (fun _ _ _ h => h) (Or.inl ⟨by kernel_rfl, ?_⟩) (by assumption) ?_; rotate_left 1; (intro W0 hSw; (obtain ⟨s0, s1, s2⟩ := hSw); go_simp; (try with_reducible rfl)); (try simp only [Act.put, List.setIfInBounds_toArray, List.set_cons_zero, List.set_cons_succ]))
        (refine wpAnyH_take (i := 1) (v := ?_) rfl (by kernel_rfl) (by kernel_rfl) (by kernel_rfl) (fun _ _ _ h => h) (Or.inl ⟨by kernel_rfl, ?_⟩) (by assumption) ?_; rotate_left 1; (intro W0 hSw; (obtain ⟨s0, s1, s2⟩ := hSw); go_simp; (try with_reducible rfl)); (try simp only [Act.put, List.setIfInBounds_toArray, List.set_cons_zero, List.set_cons_succ]))
        (refine wpAnyH_take (i := 2) (v := ?_) rfl (by kernel_rfl) (by kernel_rfl) (by kernel_rfl) (fun _ _ _ h => h) (Or.inl ⟨by kernel_rfl, ?_⟩) (by assumption) ?_; rotate_left 1; (intro W0 hSw; (obtain ⟨s0, s1, s2⟩ := hSw); go_simp; (try with_reducible rfl)); (try simp only [Act.put, List.setIfInBounds_toArray, List.set_cons_zero, List.set_cons_succ]))
        (refine wpAnyH_take (i := 3) (v := ?_) rfl (by kernel_rfl) (by kernel_rfl) (by kernel_rfl) (fun _ _ _ h => h) (Or.inl ⟨by kernel_rfl, ?_⟩) (by assumption) ?_; rotate_left 1; (intro W0 hSw; (obtain ⟨s0, s1, s2⟩ := hSw); go_simp; (try with_reducible rfl)); (try simp only [Act.put, List.setIfInBounds_toArray, List.set_cons_zero, List.set_cons_succ]))
        (refine wpAnyH_take (i := 4) (v := ?_) rfl (by kernel_rfl) (by kernel_rfl) (by kernel_rfl) (fun _ _ _ h => h) (Or.inl ⟨by kernel_rfl, ?_⟩) (by assumption) ?_; rotate_left 1; (intro W0 hSw; (obtain ⟨s0, s1, s2⟩ := hSw); go_simp; (try with_reducible rfl)); (try simp only [Act.put, List.setIfInBounds_toArray, List.set_cons_zero, List.set_cons_succ]))
        (refine wpAnyH_take (i := 5) (v := ?_) rfl (by kernel_rfl) (by kernel_rfl) (by kernel_rfl) (fun _ _ _ h => h) (Or.inl ⟨by kernel_rfl, ?_⟩) (by assumption) ?_; rotate_left 1; (intro W0 hSw; (obtain ⟨s0, s1, s2⟩ := hSw); go_simp; (try with_reducible rfl)); (try simp only [Act.put, List.setIfInBounds_toArray, List.set_cons_zero, List.set_cons_succ]))
        (refine wpAnyH_take (i := 7) (v := ?_) rfl (by kernel_rfl) (by kernel_rfl) (by kernel_rfl) (fun _ _ _ h => h) (Or.inl ⟨by kernel_rfl, ?_⟩) (by assumption) ?_; rotate_left 1; (intro W0 hSw; (obtain ⟨s0, s1, s2⟩ := hSw); go_simp; (try with_reducible rfl)); (try simp only [Act.put, List.setIfInBounds_toArray, List.set_cons_zero, List.set_cons_succ]))
        have hlk := HLK.out wx.drew HMX.out.drew
        refine wpAnyH_ready (rs := [6]) (by kernel_rfl) (by simp) ?_
        refine AllReadyH.cons rfl (fun K hK => ?_) AllReadyH.nil
        go_simp
        refine hK.out _ _ d0 (fun _ => ?_)
        clear hK K hlk
        (try simp only [Act.put, List.setIfInBounds_toArray, List.set_cons_zero, List.set_cons_succ])
        have bd : Below wx.heap.size wx wx.drew := (Below.refl _ _).drew
        refine wpAnyH_ready (rs := [8]) (by kernel_rfl) (by simp) ?_
        refine AllReadyH.cons rfl (fun K hK => ?_) AllReadyH.nil
        go_simp
        refine AND.out.mono ?_
        rintro e w4 ⟨sv', nv', rfl, os4, on4, g4, r1, r2, r3⟩
        have hXne : some X ≠ nk.ownBlock := fun e => by have := (hHB.out X e.symm).1; omega
        have hbne : some b ≠ nk.ownBlock := fun e => by have := (hHB.out b e.symm).2; omega
        have hX4 : w4.heap[X]? = some (.cells #[.string key, .int .i64 op, .slice ta vs.length tc] 35) := (g4.block X (by show X < wx.heap.size; have := HZX.out; omega) hXne).trans HX0.out
        have d4 : w4.cell? ⟨X, 0, none⟩ = some (.string key) ∧ w4.cell? ⟨X, 1, none⟩ = some (.int .i64 op) ∧ w4.cell? ⟨X, 2, none⟩ = some (.slice ta vs.length tc) := by
          refine ⟨?_, ?_, ?_⟩ <;> (rw [cell_of_block hX4]; rfl)
        refine hK.out _ _ d4 (fun _ => ?_)
        clear hK K
        (try simp only [Act.put, List.setIfInBounds_toArray, List.set_cons_zero, List.set_cons_succ])
        have hM4 := (HMX.out.drew).kept g4 hbne
        obtain ⟨w5, hrun5, m5, g5⟩ := hM4.update law9 Tryz.underlying68 (by unfold maxLen; omega) (key_of key (by have := HKS.out; unfold maxLen; omega)) (oRd_of (d.add (key, op, vs)) os4 on4)
        have hX5 : w5.heap[X]? = some (.cells #[.string key, .int .i64 op, .slice ta vs.length tc] 35) := (g5.block X (lt_blk hX4) (fun e => by have e2 := Option.some.inj e; have := HZ.out; omega)).trans hX4
        have d5 : w5.cell? ⟨X, 0, none⟩ = some (.string key) ∧ w5.cell? ⟨X, 1, none⟩ = some (.int .i64 op) ∧ w5.cell? ⟨X, 2, none⟩ = some (.slice ta vs.length tc) := by
          refine ⟨?_, ?_, ?_⟩ <;> (rw [cell_of_block hX5]; rfl)
        have g4' := grown_trans (grown_below (row := nk.ownBlock) bd) g4
        obtain ⟨sv2, nv2, G5⟩ := HGS.out w4 w5 sv' nv' os4 on4 HGXH.out g4' r1 r2 r3 g5
        have z45 : wx.heap.size ≤ w4.heap.size := g4'.size
        have B5 : Hid (Below w.heap.size w w5) := (HBX.out.grown g4' HBX.out.size (fun r hr => by have := (hHB.out r hr).2; have := HWB.out; omega)).grown g5 (by have := HBX.out.size; omega) (fun r hr => by have e2 := Option.some.inj hr; have := HWB.out; omega)
        have M5 := hmk m5
        have HG5 := hmk G5
        have Z5 : Hid (b + 1 ≤ w5.heap.size) := by have := g5.size; have := HZ.out; have := HZX.out; show _ ≤ _; omega
        refine wpAnyH_ready (rs := [9]) (by kernel_rfl) (by simp) ?_
        refine AllReadyH.cons rfl (fun K hK => ?_) AllReadyH.nil
        refine step_upd rfl (.tmp 21) (.tmp 23) (.tmp 29) 68 rfl b (.string key) (encD (d.add (key, op, vs)) sv' nv') rfl rfl rfl hrun5 ?_
        refine hK.out _ _ d5 (fun _ => ?_)
        clear hK K
        (try simp only [Act.put, List.setIfInBounds_toArray, List.set_cons_zero, List.set_cons_succ])
        refine wpAnyH_done (by kernel_rfl) ?_ _
        (try dsimp only [Act.put, List.getElem_toArray, List.getElem_cons_succ, List.getElem_cons_zero, List.setIfInBounds_toArray, List.set_cons_zero, List.set_cons_succ])
        clear hHeld hX4 hX5 d4 d5 g4 g4' g5 m5 G5 hM4 hrun5 os4 on4 r1 r2 r3 d0 z45 bd hXne hbne
        go_wp2_with fail
        go_roundw
        case rel => exact ⟨j + 1, n + 1, _, sv2, nv2, by omega, by omega, by go_num, B5, M5, HG5, Z5⟩
        case measure => simp [RowKit.intOf]; omega
      · rename World => w3
        obtain rfl : j = l.length := by omega
        have y1 : ¬ (l.length : Int) < l.length := by omega
        rw [List.take_length] at HGT
        have hsz := HM.out.size_le
        have C35 := hmk (Tryz.maps_keys b w3)
        have C34 := hmk (Tryz.sorted_keys b n D oRd w3 HM.out (by unfold maxLen; omega) (by omega))
        go_wp2_with fail
        refine C35.out.mono ?_
        rintro e w9 ⟨rfl, rfl⟩
        have HZA : Hid ((w3.alloc (.cells #[.map (some b)] 68)).heap.size = w3.heap.size + 1) := by show _ = _; rw [alloc_size]
        have HBA : Hid (Below w3.heap.size w3 (w3.alloc (.cells #[.map (some b)] 68))) := (Below.refl _ _).alloc (Nat.le_refl _) _
        clear C35 hsz
        go_wp2_with fail
        refine C34.out.mono ?_
        rintro e w4 ⟨kv, ss, rfl, hS, hrow, hnil, hb4⟩
        have hsort := keys_sorted HM.out HGT.out.keys hS
        have hslen : ss.length = (keysV l).length := by
          have h1 := congrArg List.length hsort
          simpa using h1
        have hrow2 : w4.ownsRow (w3.heap.size + 1) 9 1 kv (keysV l).length ((keysV l).map Value.string) := by
          rw [hsort, enc_bs, hslen, HZA.out] at hrow
          exact hrow
        have hok := own_strs hrow2
        have HKSM : Hid (SmallS (keysV l)) := fun s hs => by
          obtain ⟨t, ht, e⟩ := keysV_mem.1 hs
          rw [← e]; exact (HKY.out t ht).1
        have HNOD : Hid ((keysV l).Nodup) := ris_nodup (keysV_ris l)
        have B34 : Hid (Below w3.heap.size w3 w4) := HBA.out.trans (hb4.mono (by have := HZA.out; omega))
        have HBW : Hid (Below w.heap.size w w4) := HB.out.trans (B34.out.mono HB.out.size)
        have HM4 : Hid (w4.ownsMap Tryz.prog 9 oRd b n D) := HM.out.kept (grown_below (row := none) B34.out) (by simp)
        have HG4 : Hid (Gat w4 (b + 1) l D sv nv) := HGT.out.keep (row := none) (grown_below B34.out) (fun r hr => by cases hr)
        have HLT : Hid (∀ x r, ((nv x).ownBlock = some r → b + 1 ≤ r ∧ r < w3.heap.size) ∧ ((sv x).ownBlock = some r → r < w3.heap.size)) := fun x r => ⟨fun h => (HGT.out.n x).lt h, fun h => ((HGT.out.s x).lt h).2⟩
        have HKN : Hid ((keysV l).length ≤ 2147483647) := by
          have h1 := addsV_len (l.map (·.1)) []
          have h0 : ([] : List ByteArray).length = 0 := rfl
          show (addsV [] (l.map (·.1))).length ≤ _
          rw [List.length_map] at h1; omega
        have HPB : Hid (∀ k, SmallS (pdOf l k).s ∧ SmallS (pdOf l k).n ∧ (pdOf l k).s.length ≤ 2147483647 ∧ (pdOf l k).n.length ≤ 2147483647) := fun k => by
          have h := pdOf_bounds (l := l) (fun t ht => (HKY.out t ht).2) l.length (Nat.le_refl _) k
          rw [List.take_length] at h
          exact ⟨h.1, h.2.1, by omega, by omega⟩
        have HPS : Hid (∀ k, simpT l k = if canB ⟨(pdOf l k).h, (pdOf l k).hn, (pdOf l k).i, (pdOf l k).s.filter (fun x => !(amongB (noneB (pdOf l k).n) x)), noneB (pdOf l k).n⟩ then some (tellV k ⟨(pdOf l k).h, (pdOf l k).hn, (pdOf l k).i, (pdOf l k).s.filter (fun x => !(amongB (noneB (pdOf l k).n) x)), noneB (pdOf l k).n⟩) else none) := fun k => by
          have h1 : noneB (pdOf l k).n = gatV 4 l k := pd_none HG.out k (comp_sort_ris _) (fun x => comp_sort_mem _ x)
          have h2 := pd_some HG.out k
          have h3 := pd_of HG.out k
          have e : (⟨(pdOf l k).h, (pdOf l k).hn, (pdOf l k).i, (pdOf l k).s.filter (fun x => !(amongB (noneB (pdOf l k).n) x)), noneB (pdOf l k).n⟩ : Pd) = pdS l k := by
            rw [h1, h2]
            unfold pdS
            have a1 : (pdOf l k).h = hasOp l k 1 := by have := h3.h; simpa [pdZ, pdOf] using this
            have a2 : (pdOf l k).hn = hasOp l k 2 := by have := h3.hn; simpa [pdZ, pdOf] using this
            have a3 : (pdOf l k).i = hasOp l k 3 := by have := h3.i; simpa [pdZ, pdOf] using this
            rw [a1, a2, a3]
          rw [e]; exact simpT_is l k
        clear hsort hslen hrow hrow2 hnil hS HM HGT HB C34
        generalize keysV l = ks at *
        obtain ⟨ka, kc, kb, ko, rfl, hkh, hkr⟩ := own_read1 hok HKSM.out
        have HKB : Hid (∀ r, (Value.slice ka ks.length kc).ownBlock = some r → w3.heap.size + 1 ≤ r ∧ r < w4.heap.size) := fun r hr => hok.lt hr
        have HKH := hmk hkh
        have HKR := hmk hkr
        have HZ34 : Hid (w3.heap.size + 1 ≤ w4.heap.size) := by have := hb4.size; have := HZA.out; show _ ≤ _; omega
        have HB3 : Hid (b + 1 ≤ w3.heap.size) := HZ.out
        have HW4 : Hid (w.heap.size ≤ w4.heap.size) := HBW.out.size
        clear hok hkh hkr hb4 HZA HBA HZ
        go_wp2_with fail
        (try simp only [Exit.inBlock, Exit.then])
        go_wp2_with fail
        go_loopw [7, 35] (fun e7 e35 wi => ∃ (i : Nat) (SM : Nat → Prop) (out : List Trm), i ≤ ks.length ∧ e35 = .int .i64 (i : Int) ∧ out.length ≤ 2 * i ∧ Hid (Below w.heap.size w wi) ∧ Hid (w4.heap.size ≤ wi.heap.size) ∧ Hid (wi.ownsMap Tryz.prog 9 oRd b n D) ∧ Hid (liesS wi (fun y => (Value.slice ka ks.length kc).ownBlock = some y) ks kb ko) ∧ Hid (OwnF wi (b + 1) SM e7 out) ∧ Hid (simpW l (ks.take i) = some out) ∧ Hid (∀ y, SM y → w4.heap.size ≤ y ∨ ∃ x ∈ ks.take i, (nv x).ownBlock = some y) ∧ Hid (∀ r, e7.ownBlock = some r → w4.heap.size ≤ r) ∧ Hid (∀ x ∈ ks.drop i, OwnSt wi (b + 1) (fun _ => False) (sv x) (pdOf l x).s ∧ OwnSt wi (b + 1) (fun _ => False) (nv x) (pdOf l x).n)) (fun _ e35 _ => ks.length - (RowKit.intOf e35).toNat)
        case atStart => exact ⟨0, fun _ => False, [], by omega, rfl, by simp, HBW, Nat.le_refl _, HM4, HKR, OwnR.nil _ _, rfl, fun y hy => hy.elim, fun r hr => (by cases hr), fun x hx => ⟨HG4.out.s x, HG4.out.n x⟩⟩
        case round =>
          clear HM4 HKR HBW
          obtain ⟨i, SM, out, hi, rfl, hol, HBi, HZi, HMi, HKi, HOi, HWi, HSi, HUi, HRi⟩ := hrel
          by_cases hil : i < ks.length
          · have y2 : (i : Int) < ks.length := by omega
            have hkn := HKN.out
            obtain rfl : ka = some ⟨kb, ko, none⟩ := HKH.out.at_.resolve_left (by omega)
            obtain ⟨_, hkk, q⟩ := HKi.out i hil
            have HKK := hmk hkk
            have hkd : ks.drop i = ks[i] :: ks.drop (i + 1) := List.drop_eq_getElem_cons hil
            have HGO : Hid (∀ x, simpT l ks[i] = some x → simpW l (ks.take (i + 1)) = some (out ++ x)) := fun x hx => simpW_go hil HWi.out hx
            have HNO : Hid (simpT l ks[i] = none → simpW l ks = none) := fun hx => simpW_stop hil hx
            have HR0 := hmk (HRi.out ks[i] (by rw [hkd]; exact List.Mem.head _))
            have HR1 : Hid (∀ x ∈ ks.drop (i + 1), x ≠ ks[i] ∧ OwnSt wr (b + 1) (fun _ => False) (sv x) (pdOf l x).s ∧ OwnSt wr (b + 1) (fun _ => False) (nv x) (pdOf l x).n) := fun x hx => by
              refine ⟨fun e => ?_, HRi.out x (by rw [hkd]; exact List.mem_cons_of_mem _ hx)⟩
              have h1 : (ks.drop i).Nodup := HNOD.out.sublist (List.drop_sublist _ _)
              rw [hkd, List.nodup_cons] at h1
              exact h1.1 (e ▸ hx)
            have HNT : Hid (ks[i] ∉ ks.take i) := fun h => by
              have h1 := HNOD.out
              rw [← List.take_append_drop i ks, List.nodup_append, hkd] at h1
              exact h1.2.2 _ h _ (List.Mem.head _) rfl
            have HTK : Hid (∀ x, (x ∈ ks.take i ∨ x = ks[i]) → x ∈ ks.take (i + 1)) := fun x hx => by
              rw [List.take_succ_eq_append_getElem hil, List.mem_append]
              exact hx.imp id (fun h => by rw [h]; simp)
            have hps := HPS.out ks[i]
            have hpb := HPB.out ks[i]
            have HPSi := hmk hps
            have HPBi := hmk hpb
            have hlk := HG4.out.look HMi.out ks[i] (by unfold maxLen; omega)
            have HINJ : Hid (∀ x r, (nv ks[i]).ownBlock = some r → (nv x).ownBlock = some r → x = ks[i]) := fun x r h1 h2 => HG4.out.inj x _ r h2 h1
            have HSEP : Hid (∀ x r, (nv ks[i]).ownBlock = some r → (sv x).ownBlock ≠ some r) := fun x r h1 => HG4.out.sep _ x r h1
            have HLTi : Hid (∀ r, (nv ks[i]).ownBlock = some r → b + 1 ≤ r ∧ r < w3.heap.size) := fun r h => (HLT.out _ r).1 h
            have HX := hmk hlk
            clear hps hpb hkd HRi hlk
            generalize ks[i] = k at *
            generalize hdd : pdOf l k = d at *
            have HDD := hmk hdd
            clear hdd
            obtain ⟨p1, p2, p3, sl, nl⟩ := d
            dsimp only at HPSi HPBi HX HR0
            have C36 := hmk (settled_any p1 p2 p3 sl nl (sv k) (nv k) (b + 1) wr HR0.out.1 HR0.out.2 HPBi.out.1 HPBi.out.2.1 HPBi.out.2.2.1 HPBi.out.2.2.2 (fun r hr => HSEP.out k r hr))
            have HFF : Hid (SmallS (sl.filter (fun x => !(amongB (noneB nl) x)))) := fun s hs => HPBi.out.1 s (List.mem_filter.1 hs).1
            have hfl : (sl.filter (fun x => !(amongB (noneB nl) x))).length ≤ 2147483647 := Nat.le_trans (List.length_filter_le _ _) HPBi.out.2.2.1
            have hnl : (noneB nl).length ≤ 2147483647 := Nat.le_trans (noneB_len _) HPBi.out.2.2.2
            unfold StPost at C36
            generalize sl.filter (fun x => !(amongB (noneB nl) x)) = ff at *
            generalize noneB nl = nn at *
            generalize hnk : nv k = nk at *
            have HNK := hmk hnk
            have hlk := HX.out
            generalize hsk : sv k = sk at *
            clear hnk hsk
            go_wp2_with fail
            refine C36.out.mono ?_
            rintro e w5 ⟨sv', na, nc, nb, no, rfl, hd5, hl5, os5, g5⟩
            have hos := fun r hr => os5.lt (g := r) hr
            obtain ⟨va, vc, vb, vo, rfl, hds, hls⟩ := own_read1 os5 HFF.out
            have hnlt : ∀ r, nk.ownBlock = some r → b + 1 ≤ r ∧ r < w3.heap.size := HLTi.out
            have hz5 := g5.size
            -- what stood, behind settled
            have HO5 : OwnF w5 (b + 1) SM u7 out := HOi.out.keep keepF g5 (fun r hr => by
              have h1 := hnlt r hr
              have h2 := HZ34.out
              refine ⟨fun h => ?_, fun h => by have := HUi.out r h; omega⟩
              rcases HSi.out r h with h3 | ⟨x, hx, h3⟩
              · omega
              · have e := HINJ.out x r hr h3
                exact HNT.out (e ▸ hx))
            have HM5 := HMi.out.kept g5 (fun e => by have := hnlt b e.symm; omega)
            have HK5 := HKi.out.keep (fun y hy => g5.block y (by have := HKB.out y hy; have := HZi.out; omega) (fun e => by have h1 := HKB.out y hy; have h2 := hnlt y e.symm; omega)) (fun _ h => h)
            have HR5 : ∀ x ∈ ks.drop (i + 1), OwnSt w5 (b + 1) (fun _ => False) (sv x) (pdOf l x).s ∧ OwnSt w5 (b + 1) (fun _ => False) (nv x) (pdOf l x).n := fun x hx => by
              obtain ⟨h1, h2, h3⟩ := HR1.out x hx
              exact ⟨h2.keep keepS g5 (fun r hr => ⟨fun h => h, HSEP.out x r hr⟩), h3.keep keepS g5 (fun r hr => ⟨fun h => h, fun e => h1 (HINJ.out x r hr e)⟩)⟩
            have HB5 := HBi.out.grown g5 HBi.out.size (fun r hr => by have := hnlt r hr; have := HWB.out; omega)
            -- the box
            obtain ⟨wx, hwx⟩ : ∃ wx, w5.alloc (.cells #[.bool p1, .bool p2, .bool p3, .slice va ff.length vc, .slice na nn.length nc] 70) = wx := ⟨_, rfl⟩
            have hzx : wx.heap.size = w5.heap.size + 1 := by rw [← hwx]; simp
            have b5x : Below w5.heap.size w5 wx := by rw [← hwx]; exact (Below.refl _ _).alloc (Nat.le_refl _) _
            have hX : wx.heap[w5.heap.size]? = some (.cells #[.bool p1, .bool p2, .bool p3, .slice va ff.length vc, .slice na nn.length nc] 70) := by rw [← hwx]; exact heap_alloc_new _ _
            have HDX : Hid (∀ W : World, Below wx.heap.size wx W → W.cell? ⟨w5.heap.size, 0, none⟩ = some (.bool p1) ∧ W.cell? ⟨w5.heap.size, 1, none⟩ = some (.bool p2) ∧ W.cell? ⟨w5.heap.size, 2, none⟩ = some (.bool p3) ∧ W.cell? ⟨w5.heap.size, 3, none⟩ = some (.slice va ff.length vc) ∧ W.cell? ⟨w5.heap.size, 4, none⟩ = some (.slice na nn.length nc)) := fun W hW => by
              have h := (hW.block _ (by omega)).trans hX
              refine ⟨?_, ?_, ?_, ?_, ?_⟩ <;> (rw [cell_of_block h]; rfl)
            obtain ⟨c0, c1, c2, c3, c4⟩ := HDX.out wx (Below.refl _ _)
            have C37 := hmk (canbe_any p1 p2 p3 ff nn va na vc nn.length nc wx hfl)
            obtain ⟨cb, hcb⟩ : ∃ cb, canB ⟨p1, p2, p3, ff, nn⟩ = cb := ⟨_, rfl⟩
            rw [hcb] at C37 HPSi
            clear hcb
            have HB5' := hmk HB5
            have HO5' := hmk HO5
            have HM5' := hmk HM5
            have HK5' := hmk HK5
            have HR5' := hmk HR5
            have HOS := hmk hos
            have HNLT := hmk hnlt
            have HDS := hmk (And.intro hds hls)
            have HD5 := hmk (And.intro hd5 hl5)
            have HZ5 := hmk hz5
            have HZX := hmk hzx
            have HBX := hmk b5x
            clear HB5 HO5 HM5 HK5 HR5 hos hnlt hds hls hd5 hl5 hz5 hzx b5x hX os5 g5 C36 q hlk
            go_wp2_with fail
            (try simp only [hwx] at *)
            refine C37.out.mono ?_
            rintro e w6 ⟨rfl, b6⟩
            clear c0 c1 c2 c3 c4 hwx C37
            obtain ⟨c0, c1, c2, c3, c4⟩ := HDX.out w6 b6
            have B56 : Hid (Below w5.heap.size w5 w6) := HBX.out.trans (b6.mono (by have := HZX.out; omega))
            have HZ6 : Hid (w5.heap.size ≤ w6.heap.size) := B56.out.size
            clear b6
            cases cb with
            | false =>
              have HTN : Hid (simpT l k = none) := by have := HPSi.out; rw [if_neg (by simp)] at this; exact this
              have HBF := hmk (HB5'.out.trans (B56.out.mono HB5'.out.size))
              go_wp2_with fail
              go_ret2
              rw [HV.out, HNO.out HTN.out]
              exact sm_none HBF.out
            | true =>
              have HTS : Hid (simpT l k = some (tellV k ⟨p1, p2, p3, ff, nn⟩)) := by have := HPSi.out; rw [if_pos rfl] at this; exact this
              have hu7 : ∀ r, u7.ownBlock = some r → w4.heap.size ≤ r ∧ r < wr.heap.size := fun r hr => ⟨HUi.out r hr, (HOi.out.lt hr).2⟩
              have C38 := hmk (tell_any k p1 p2 p3 ff nn va na vc nc vb vo nb no (fun y => (Value.slice va ff.length vc).ownBlock = some y) (fun y => nk.ownBlock = some y) (b + 1) SM u7 out w6
                HDS.out.1 (HDS.out.2.keep (fun y hy => B56.out.block y (HOS.out y hy).2) (fun _ h => h)) HD5.out.1 (HD5.out.2.keep (fun y hy => B56.out.block y (by have := HNLT.out y hy; have := HZ34.out; have := HZi.out; have := HZ5.out; omega)) (fun _ h => h)) (HO5'.out.below keepF B56.out)
                (fun y hy => by have h1 := HOS.out y hy; have h2 := HB3.out; have h3 := HZ34.out; have h4 := HZi.out; have h5 := HZ6.out; exact ⟨by omega, by omega, fun e => by have := (hu7 y e.symm).2; omega⟩)
                (fun y hy => by have h1 := HNLT.out y hy; have h3 := HZ34.out; have h4 := HZi.out; have h5 := HZ5.out; have h6 := HZ6.out; exact ⟨h1.1, by omega, fun e => by have := (hu7 y e.symm).1; omega⟩)
                HKK.out (by omega) (by have h2 := HB3.out; have h3 := HZ34.out; have h4 := HZi.out; have h5 := HZ5.out; have h6 := HZ6.out; omega) hfl hnl)
              have HU7 := hmk hu7
              clear hu7
              unfold TlPost at C38
              have htl : (tellV k ⟨p1, p2, p3, ff, nn⟩).length ≤ 2 := simpT_len HTS.out
              generalize tellV k ⟨p1, p2, p3, ff, nn⟩ = tl at *
              go_wp2_with fail
              refine C38.out.mono ?_
              rintro e w7 ⟨v7, SM7, rfl, o7, g7, hsub, how⟩
              have hb7 : ∀ r, u7.ownBlock = some r → w4.heap.size ≤ r := fun r hr => (HU7.out r hr).1
              have B7 : Hid (Below w.heap.size w w7) := (HB5'.out.trans (B56.out.mono HB5'.out.size)).grown g7 (by have := HB5'.out.size; have := HZ6.out; omega) (fun r hr => by have := hb7 r hr; have := HW4.out; omega)
              have Z7 : Hid (w4.heap.size ≤ w7.heap.size) := by have := g7.size; have := HZi.out; have := HZ5.out; have := HZ6.out; show _ ≤ _; omega
              have M7 : Hid (w7.ownsMap Tryz.prog 9 oRd b n D) := ((HM5'.out.kept (grown_below (row := none) B56.out) (by simp)).kept g7 (fun e => by have := hb7 b e.symm; have := HB3.out; have := HZ34.out; omega))
              have K7 : Hid (liesS w7 (fun y => (Value.slice (some ⟨kb, ko, none⟩) ks.length kc).ownBlock = some y) ks kb ko) := HK5'.out.keep (fun y hy => (g7.block y (by have := HKB.out y hy; have := HZi.out; have := HZ5.out; have := HZ6.out; omega) (fun e => by have h1 := HKB.out y hy; have h2 := hb7 y e.symm; omega)).trans (B56.out.block y (by have := HKB.out y hy; have := HZi.out; have := HZ5.out; omega))) (fun _ h => h)
              have S7 : Hid (∀ y, SM7 y → w4.heap.size ≤ y ∨ ∃ x ∈ ks.take (i + 1), (nv x).ownBlock = some y) := fun y hy => by
                rcases hsub y hy with h | h | h
                · rcases HSi.out y h with h2 | ⟨x, hx, h2⟩
                  · exact .inl h2
                  · exact .inr ⟨x, HTK.out x (.inl hx), h2⟩
                · have h1 := HOS.out y h; have h4 := HZi.out; exact .inl (by omega)
                · exact .inr ⟨k, HTK.out k (.inr rfl), by rw [HNK.out]; exact h⟩
              have U7 : Hid (∀ r, v7.ownBlock = some r → w4.heap.size ≤ r) := fun r hr => by
                rcases how with h | h
                · exact hb7 r (by rw [← h]; exact hr)
                · have := h r hr; have := HZi.out; have := HZ5.out; have := HZ6.out; omega
              have R7 : Hid (∀ x ∈ ks.drop (i + 1), OwnSt w7 (b + 1) (fun _ => False) (sv x) (pdOf l x).s ∧ OwnSt w7 (b + 1) (fun _ => False) (nv x) (pdOf l x).n) := fun x hx => by
                obtain ⟨h2, h3⟩ := HR5'.out x hx
                exact ⟨(h2.below keepS B56.out).keep keepS g7 (fun r hr => ⟨fun h => h, fun e => by have := hb7 r hr; have := (HLT.out x r).2 e; have := HZ34.out; omega⟩), (h3.below keepS B56.out).keep keepS g7 (fun r hr => ⟨fun h => h, fun e => by have := hb7 r hr; have := (HLT.out x r).1 e; have := HZ34.out; omega⟩)⟩
              have O7 := hmk o7
              have W7 : Hid (simpW l (ks.take (i + 1)) = some (out ++ tl)) := HGO.out _ HTS.out
              have L7 : (out ++ tl).length ≤ 2 * (i + 1) := by rw [List.length_append]; omega
              clear o7 g7 hsub how hb7 C38 c0 c1 c2 c3 c4
              go_wp2_with fail
              go_roundw
              case rel => exact ⟨i + 1, SM7, out ++ tl, by omega, by go_num, L7, B7, Z7, M7, K7, O7, W7, S7, U7, R7⟩
              case measure => simp [RowKit.intOf]; omega
          · obtain rfl : i = ks.length := by omega
            have y2 : ¬ (ks.length : Int) < ks.length := by omega
            rw [List.take_length] at HWi
            have HO2 := hmk (HOi.out.base (base' := w.heap.size) (by have := HWB.out; omega))
            go_wp2_with fail
            (try simp only [Exit.inBlock, Exit.then])
            go_ret2
            rw [HV.out, HWi.out]
            exact sm_some HO2.out HBi.out
end Go.Proofs.YtolekldjbbjmjaaGreatDoor
