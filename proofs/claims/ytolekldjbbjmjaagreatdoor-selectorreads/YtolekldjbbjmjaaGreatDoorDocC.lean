import Derived.Test.YtolekldjbbjmjaaGreatDoorG41
/- SelectorReads: the document's reader: word. -/
set_option linter.unusedSimpArgs false
set_option linter.unusedVariables false
namespace Go.Proofs.YtolekldjbbjmjaaGreatDoor
open Go.RowKit Go.Lib
theorem plain_valid : ∀ x : List UInt8, (∀ c ∈ x, plainN c.toNat = true) → validD x = true
  | [], _ => rfl
  | c :: t, h => by
    have hc := h c (by simp)
    unfold plainN at hc
    have hc := of_decide_eq_true hc
    rw [Lib.validD_cons _ _ (by omega)]
    exact plain_valid t (fun y hy => h y (List.mem_cons_of_mem _ hy))
theorem plnT_plain (l : List UInt8) (k : Nat) : ∀ c ∈ plnT l k, plainN c.toNat = true := fun c hc => by
  unfold plnT at hc
  exact List.all_eq_true.1 (List.all_takeWhile (l := l.drop k) (p := fun c : UInt8 => plainN c.toNat)) c hc
theorem word_of {x : List UInt8} (hv : validD x = true) (h : x.length ≤ 64) : wordB ⟨x.toArray⟩ = true := by
  unfold wordB utfB
  rw [ofB_size, decide_eq_true h]
  simpa using hv
theorem word_long {x : List UInt8} (h : ¬ x.length ≤ 64) : wordB ⟨x.toArray⟩ = false := by
  unfold wordB
  rw [ofB_size, decide_eq_false h]
  rfl
/-- a word was read, or a fault stands at the place behind the blanks -/
def WdPost (R : Option (ByteArray × Nat)) (g : Nat) (s : ByteArray) (k : Nat) (w : World) (e : Ending) (w' : World) : Prop :=
  (∃ x k1, R = some (x, k1) ∧ e = .returned (.string x) ∧ x.size ≤ 64 ∧ DP g s w w' k1 (-1)) ∨ (R = none ∧ e = .returned (.string ⟨#[]⟩) ∧ ∃ k2, DP g s w w' k2 (k : Int))
set_option maxHeartbeats 8000000 in
set_option maxRecDepth 100000 in
theorem dword_any (g : Nat) (s : ByteArray) (k0 least : Nat) (w : World) (h : DB g s k0 (-1) w) (hk0 : k0 ≤ s.size) (hs : s.size ≤ 140737488351232) (hl1 : least ≤ 1) :
    Calls Tryz.prog 58 #[.pointer (some ⟨g, 0, none⟩), .int .i64 (least : Int)] w (WdPost (wrdF s.data.toList least (skp s.data.toList k0)) g s (skp s.data.toList k0) w) := by
  have hll : s.data.toList.length = s.size := by simp
  have CB : Hid (Calls Tryz.prog 37 #[.pointer (some ⟨g, 0, none⟩)] w (fun e w' => e = .returned (.tuple #[]) ∧ DP g s w w' (skp s.data.toList k0) (-1))) := blanks_any g s k0 w h hk0 (by omega)
  have CBL : Hid (∀ W k, DP g s w W k (-1) → Calls Tryz.prog 37 #[.pointer (some ⟨g, 0, none⟩)] W (fun e w' => e = .returned (.tuple #[]) ∧ DP g s W w' (skp s.data.toList k) (-1))) := fun W k r => blanks_any g s k W r.db r.le (by omega)
  have CF : Hid (∀ W k (z : Int), DP g s w W k (-1) → Calls Tryz.prog 77 #[.pointer (some ⟨g, 0, none⟩), .int .i64 z] W (fun e w' => e = .returned (.tuple #[]) ∧ DP g s W w' k z)) := fun W k z r => dfail_any g s k z W r.db r.le
  obtain ⟨k, hk⟩ : ∃ k, skp s.data.toList k0 = k := ⟨_, rfl⟩
  rw [hk] at CB ⊢
  clear hk h
  obtain ⟨RES, hRES⟩ : ∃ RES, wrdF s.data.toList least k = RES := ⟨_, rfl⟩
  rw [hRES]
  have HR := hmk hRES
  clear hRES
  have hlz : (least : Int) ≤ 1 := by omega
  go_enter Tryz.func58, Tryz.ntmps58
  go_wp2_with fail
  refine CB.out.mono ?_
  rintro e w1 ⟨rfl, r1⟩
  have hks := r1.le
  have c0 := r1.db.c0
  have c1 := r1.db.c1
  clear CB
  by_cases hl : k < s.size
  · have y : decide ((k : Int) < s.size) = true := by simp; omega
    by_cases hq : s[k] = 34
    · have y2 : (s[k].toNat : Int) = 34 := by rw [hq]; rfl
      have h34 : hit s k 34 = true := by unfold hit; exact decide_eq_true ⟨hl, by rw [hq]; rfl⟩
      have hU := Q.unqAll_in s k hks
      rw [if_pos h34] at hU
      obtain ⟨r, pl, er, hRU⟩ : ∃ r pl er, Q.unqAll s.data.toList (k : Int) = (r, pl, er) := ⟨_, _, _, rfl⟩
      have hinv := Q.unqAll_inv s.data.toList (k : Int)
      rw [hRU] at hinv hU
      simp only at hinv
      rw [hll] at hinv
      have CU : Hid (∀ W, DP g s w W k (-1) → Calls Tryz.prog 76 #[.string s, .int .i64 (k : Int)] W (fun e w' => e = .returned (.tuple #[.string ⟨r.toArray⟩, .int .i64 (pl : Int), .int .i64 (er : Int)]) ∧ Below W.heap.size W w')) := fun W rw_ => refUnquote_yes s k W hs h34 (r, pl, er) hU.symm
      have hpn : plnT s.data.toList k = [] := pln_no hl (by rw [hq]; decide)
      have HW : Hid (RES = if er = 0 then wrdE s.data.toList least r pl else none) := by
        show _ = _
        rw [← HR.out]
        unfold wrdF
        rw [if_pos hpn, hRU]
      have hrs : (⟨r.toArray⟩ : ByteArray).size = r.length := ofB_size r
      clear hU hpn HR hRU
      go_wp2_with fail
      go_quiet (fail)
      have r2 := r1.drewN nq
      have d0 := r2.db.c0
      have d1 := r2.db.c1
      go_wp2_with fail
      go_upto_region 4 with fail
      have dS : (w1.drewN nq).drew.cell? ⟨g, 0, none⟩ = some (.string s) ∧ (w1.drewN nq).drew.cell? ⟨g, 1, none⟩ = some (.int .i64 (k : Int)) := ⟨d0, d1⟩
      refine wp_region_held_drew (S := fun Y => Y.cell? ⟨g, 0, none⟩ = some (.string s) ∧ Y.cell? ⟨g, 1, none⟩ = some (.int .i64 (k : Int))) (by kernel_rfl) dS (fun hHeld => ?_)
      (refine wpAnyH_take (i := 0) (v := ?_) rfl (by kernel_rfl) (by kernel_rfl) (by kernel_rfl) (fun _ _ _ h => h) (Or.inl ⟨by kernel_rfl, ?_⟩) (by assumption) ?_; rotate_left 1; (intro W0 hSw; (obtain ⟨s0, s1⟩ := hSw); go_simp; (try with_reducible rfl)); (try dsimp only [Act.put, List.getElem_toArray, List.getElem_cons_succ, List.getElem_cons_zero, List.setIfInBounds_toArray, List.set_cons_zero, List.set_cons_succ]); (try simp only [Act.put, List.setIfInBounds_toArray, List.set_cons_zero, List.set_cons_succ]))
      (refine wpAnyH_take (i := 1) (v := ?_) rfl (by kernel_rfl) (by kernel_rfl) (by kernel_rfl) (fun _ _ _ h => h) (Or.inl ⟨by kernel_rfl, ?_⟩) (by assumption) ?_; rotate_left 1; (intro W0 hSw; (obtain ⟨s0, s1⟩ := hSw); go_simp; (try with_reducible rfl)); (try dsimp only [Act.put, List.getElem_toArray, List.getElem_cons_succ, List.getElem_cons_zero, List.setIfInBounds_toArray, List.set_cons_zero, List.set_cons_succ]); (try simp only [Act.put, List.setIfInBounds_toArray, List.set_cons_zero, List.set_cons_succ]))
      (refine wpAnyH_take (i := 2) (v := ?_) rfl (by kernel_rfl) (by kernel_rfl) (by kernel_rfl) (fun _ _ _ h => h) (Or.inl ⟨by kernel_rfl, ?_⟩) (by assumption) ?_; rotate_left 1; (intro W0 hSw; (obtain ⟨s0, s1⟩ := hSw); go_simp; (try with_reducible rfl)); (try dsimp only [Act.put, List.getElem_toArray, List.getElem_cons_succ, List.getElem_cons_zero, List.setIfInBounds_toArray, List.set_cons_zero, List.set_cons_succ]); (try simp only [Act.put, List.setIfInBounds_toArray, List.set_cons_zero, List.set_cons_succ]))
      (refine wpAnyH_take (i := 3) (v := ?_) rfl (by kernel_rfl) (by kernel_rfl) (by kernel_rfl) (fun _ _ _ h => h) (Or.inl ⟨by kernel_rfl, ?_⟩) (by assumption) ?_; rotate_left 1; (intro W0 hSw; (obtain ⟨s0, s1⟩ := hSw); go_simp; (try with_reducible rfl)); (try dsimp only [Act.put, List.getElem_toArray, List.getElem_cons_succ, List.getElem_cons_zero, List.setIfInBounds_toArray, List.set_cons_zero, List.set_cons_succ]); (try simp only [Act.put, List.setIfInBounds_toArray, List.set_cons_zero, List.set_cons_succ]))
      (refine wpAnyH_take (i := 4) (v := ?_) rfl (by kernel_rfl) (by kernel_rfl) (by kernel_rfl) (fun _ _ _ h => h) (Or.inl ⟨by kernel_rfl, ?_⟩) (by assumption) ?_; rotate_left 1; (intro W0 hSw; (obtain ⟨s0, s1⟩ := hSw); go_simp; (try with_reducible rfl)); (try dsimp only [Act.put, List.getElem_toArray, List.getElem_cons_succ, List.getElem_cons_zero, List.setIfInBounds_toArray, List.set_cons_zero, List.set_cons_succ]); (try simp only [Act.put, List.setIfInBounds_toArray, List.set_cons_zero, List.set_cons_succ]))
      (refine wpAnyH_take (i := 5) (v := ?_) rfl (by kernel_rfl) (by kernel_rfl) (by kernel_rfl) (fun _ _ _ h => h) (Or.inl ⟨by kernel_rfl, ?_⟩) (by assumption) ?_; rotate_left 1; (intro W0 hSw; (obtain ⟨s0, s1⟩ := hSw); go_simp; (try with_reducible rfl)); (try dsimp only [Act.put, List.getElem_toArray, List.getElem_cons_succ, List.getElem_cons_zero, List.setIfInBounds_toArray, List.set_cons_zero, List.set_cons_succ]); (try simp only [Act.put, List.setIfInBounds_toArray, List.set_cons_zero, List.set_cons_succ]))
      (refine wpAnyH_take (i := 6) (v := ?_) rfl (by kernel_rfl) (by kernel_rfl) (by kernel_rfl) (fun _ _ _ h => h) (Or.inl ⟨by kernel_rfl, ?_⟩) (by assumption) ?_; rotate_left 1; (intro W0 hSw; (obtain ⟨s0, s1⟩ := hSw); go_simp; (try with_reducible rfl)); (try dsimp only [Act.put, List.getElem_toArray, List.getElem_cons_succ, List.getElem_cons_zero, List.setIfInBounds_toArray, List.set_cons_zero, List.set_cons_succ]); (try simp only [Act.put, List.setIfInBounds_toArray, List.set_cons_zero, List.set_cons_succ]))
      (refine wpAnyH_take (i := 7) (v := ?_) rfl (by kernel_rfl) (by kernel_rfl) (by kernel_rfl) (fun _ _ _ h => h) (Or.inl ⟨by kernel_rfl, ?_⟩) (by assumption) ?_; rotate_left 1; (intro W0 hSw; (obtain ⟨s0, s1⟩ := hSw); go_simp; (try with_reducible rfl)); (try dsimp only [Act.put, List.getElem_toArray, List.getElem_cons_succ, List.getElem_cons_zero, List.setIfInBounds_toArray, List.set_cons_zero, List.set_cons_succ]); (try simp only [Act.put, List.setIfInBounds_toArray, List.set_cons_zero, List.set_cons_succ]))
      refine wpAnyH_ready (rs := [8]) (by kernel_rfl) (by simp) ?_
      refine AllReadyH.cons rfl (fun K hK => ?_) AllReadyH.nil
      refine step_open rfl ?_
      have r3 := r2.drewN 1
      go_wp2_with (go_at_call 76; refine (CU.out _ r3).mono ?_; rintro e w3 ⟨rfl, b3⟩)
      have r4 := r3.below b3
      have dS2 : w3.cell? ⟨g, 0, none⟩ = some (.string s) ∧ w3.cell? ⟨g, 1, none⟩ = some (.int .i64 (k : Int)) := ⟨r4.db.c0, r4.db.c1⟩
      refine hK.out _ _ dS2 (fun _ => ?_)
      clear hK K
      (try dsimp only [Act.put, List.getElem_toArray, List.getElem_cons_succ, List.getElem_cons_zero, List.setIfInBounds_toArray, List.set_cons_zero, List.set_cons_succ]); (try simp only [Act.put, List.setIfInBounds_toArray, List.set_cons_zero, List.set_cons_succ])
      (refine wpAnyH_take (i := 9) (v := ?_) rfl (by kernel_rfl) (by kernel_rfl) (by kernel_rfl) (fun _ _ _ h => h) (Or.inl ⟨by kernel_rfl, ?_⟩) (by assumption) ?_; rotate_left 1; (intro W0 hSw; (obtain ⟨s0, s1⟩ := hSw); go_simp; (try with_reducible rfl)); (try dsimp only [Act.put, List.getElem_toArray, List.getElem_cons_succ, List.getElem_cons_zero, List.setIfInBounds_toArray, List.set_cons_zero, List.set_cons_succ]); (try simp only [Act.put, List.setIfInBounds_toArray, List.set_cons_zero, List.set_cons_succ]))
      (refine wpAnyH_take (i := 10) (v := ?_) rfl (by kernel_rfl) (by kernel_rfl) (by kernel_rfl) (fun _ _ _ h => h) (Or.inl ⟨by kernel_rfl, ?_⟩) (by assumption) ?_; rotate_left 1; (intro W0 hSw; (obtain ⟨s0, s1⟩ := hSw); go_simp; (try with_reducible rfl)); (try dsimp only [Act.put, List.getElem_toArray, List.getElem_cons_succ, List.getElem_cons_zero, List.setIfInBounds_toArray, List.set_cons_zero, List.set_cons_succ]); (try simp only [Act.put, List.setIfInBounds_toArray, List.set_cons_zero, List.set_cons_succ]))
      (refine wpAnyH_take (i := 11) (v := ?_) rfl (by kernel_rfl) (by kernel_rfl) (by kernel_rfl) (fun _ _ _ h => h) (Or.inl ⟨by kernel_rfl, ?_⟩) (by assumption) ?_; rotate_left 1; (intro W0 hSw; (obtain ⟨s0, s1⟩ := hSw); go_simp; (try with_reducible rfl)); (try dsimp only [Act.put, List.getElem_toArray, List.getElem_cons_succ, List.getElem_cons_zero, List.setIfInBounds_toArray, List.set_cons_zero, List.set_cons_succ]); (try simp only [Act.put, List.setIfInBounds_toArray, List.set_cons_zero, List.set_cons_succ]))
      (refine wpAnyH_take (i := 12) (v := ?_) rfl (by kernel_rfl) (by kernel_rfl) (by kernel_rfl) (fun _ _ _ h => h) (Or.inl ⟨by kernel_rfl, ?_⟩) (by assumption) ?_; rotate_left 1; (intro W0 hSw; (obtain ⟨s0, s1⟩ := hSw); go_simp; (try with_reducible rfl)); (try dsimp only [Act.put, List.getElem_toArray, List.getElem_cons_succ, List.getElem_cons_zero, List.setIfInBounds_toArray, List.set_cons_zero, List.set_cons_succ]); (try simp only [Act.put, List.setIfInBounds_toArray, List.set_cons_zero, List.set_cons_succ]))
      (refine wpAnyH_take (i := 13) (v := ?_) rfl (by kernel_rfl) (by kernel_rfl) (by kernel_rfl) (fun _ _ _ h => h) (Or.inl ⟨by kernel_rfl, ?_⟩) (by assumption) ?_; rotate_left 1; (intro W0 hSw; (obtain ⟨s0, s1⟩ := hSw); go_simp; (try with_reducible rfl)); (try dsimp only [Act.put, List.getElem_toArray, List.getElem_cons_succ, List.getElem_cons_zero, List.setIfInBounds_toArray, List.set_cons_zero, List.set_cons_succ]); (try simp only [Act.put, List.setIfInBounds_toArray, List.set_cons_zero, List.set_cons_succ]))
      (refine wpAnyH_take (i := 14) (v := ?_) rfl (by kernel_rfl) (by kernel_rfl) (by kernel_rfl) (fun _ _ _ h => h) (Or.inl ⟨by kernel_rfl, ?_⟩) (by assumption) ?_; rotate_left 1; (intro W0 hSw; (obtain ⟨s0, s1⟩ := hSw); go_simp; (try with_reducible rfl)); (try dsimp only [Act.put, List.getElem_toArray, List.getElem_cons_succ, List.getElem_cons_zero, List.setIfInBounds_toArray, List.set_cons_zero, List.set_cons_succ]); (try simp only [Act.put, List.setIfInBounds_toArray, List.set_cons_zero, List.set_cons_succ]))
      (refine wpAnyH_take (i := 15) (v := ?_) rfl (by kernel_rfl) (by kernel_rfl) (by kernel_rfl) (fun _ _ _ h => h) (Or.inl ⟨by kernel_rfl, ?_⟩) (by assumption) ?_; rotate_left 1; (intro W0 hSw; (obtain ⟨s0, s1⟩ := hSw); go_simp; (try with_reducible rfl)); (try dsimp only [Act.put, List.getElem_toArray, List.getElem_cons_succ, List.getElem_cons_zero, List.setIfInBounds_toArray, List.set_cons_zero, List.set_cons_succ]); (try simp only [Act.put, List.setIfInBounds_toArray, List.set_cons_zero, List.set_cons_succ]))
      refine wpAnyH_done (by kernel_rfl) ?_ _
      (try dsimp only [Act.put, List.getElem_toArray, List.getElem_cons_succ, List.getElem_cons_zero, List.setIfInBounds_toArray, List.set_cons_zero, List.set_cons_succ])
      clear hHeld dS dS2 d0 d1 b3
      by_cases he : er = 0
      · subst he
        obtain ⟨hv, _, hpl2, _, hrl⟩ := hinv.2 rfl
        have hpl := hinv.1
        by_cases ha : least ≤ r.length
        · have ya : ¬ ((r.length : Int) < (least : Int)) := by omega
          by_cases hb : r.length ≤ 64
          · have yb : ¬ ((r.length : Int) > 64) := by omega
            have HY : Hid (RES = some (⟨r.toArray⟩, skp s.data.toList pl)) := by
              show _ = _
              rw [HW.out, if_pos rfl]
              unfold wrdE
              rw [if_pos ⟨ha, word_of hv hb⟩]
            have r5 := r4.put1 pl (pl : Int) rfl hpl
            have d1 := r4.db.fz 1
            clear HW
            go_wp2_with (first | (go_at_call 37; refine (CBL.out _ _ r5).mono ?_; rintro e w5 ⟨rfl, r6⟩) | fail)
            go_ret
            exact .inl ⟨_, _, HY.out, rfl, by rw [hrs]; exact hb, r5.trans r6⟩
          · have yb : (r.length : Int) > 64 := by omega
            have HN : Hid (RES = none) := by
              show _ = _
              rw [HW.out, if_pos rfl]; unfold wrdE; rw [if_neg (by rw [word_long hb]; simp)]
            clear HW
            go_wp2_with (first | (go_at_call 77; refine (CF.out _ _ _ r4).mono ?_; rintro e w5 ⟨rfl, r5⟩) | fail)
            go_ret
            exact .inr ⟨HN.out, rfl, _, r4.trans r5⟩
        · have ya : (r.length : Int) < (least : Int) := by omega
          have HN : Hid (RES = none) := by
            show _ = _
            rw [HW.out, if_pos rfl]; unfold wrdE; rw [if_neg (by intro q; exact ha q.1)]
          clear HW
          go_wp2_with (first | (go_at_call 77; refine (CF.out _ _ _ r4).mono ?_; rintro e w5 ⟨rfl, r5⟩) | fail)
          go_ret
          exact .inr ⟨HN.out, rfl, _, r4.trans r5⟩
      · have ye : ((er : Int) == 0) = false := by rw [beq_eq_false_iff_ne]; omega
        have HN : Hid (RES = none) := by
          show _ = _
          rw [HW.out, if_neg he]
        clear HW
        go_wp2_with (first | (go_at_call 77; refine (CF.out _ _ _ r4).mono ?_; rintro e w5 ⟨rfl, r5⟩) | fail)
        go_ret
        exact .inr ⟨HN.out, rfl, _, r4.trans r5⟩
    · have y2 : ((s[k].toNat : Int) == 34) = false := by
        rw [beq_eq_false_iff_ne]
        intro q
        exact hq (UInt8.toNat_inj.1 (by show _ = 34; omega))
      have HUN : Q.unqAll s.data.toList (k : Int) = ([], k, 10) := by
        rw [Q.unqAll_in s k hks, if_neg]
        intro q
        obtain ⟨_, q2⟩ := hit_yes q
        exact hq (UInt8.toNat_inj.1 (by rw [q2]; rfl))
      have hwr : plnT s.data.toList k = [] → RES = none := fun q => by
        rw [← HR.out]
        unfold wrdF
        rw [if_pos q, HUN, if_neg (by simp)]
      have hwr2 : plnT s.data.toList k ≠ [] → RES = wrdE s.data.toList least (plnT s.data.toList k) (k + (plnT s.data.toList k).length) := fun q => by
        rw [← HR.out]
        unfold wrdF
        rw [if_neg q]
      have HWR := hmk (And.intro hwr hwr2)
      clear hwr hwr2 HR HUN
      go_wp2_with fail
      go_quiet (fail)
      have r2 := r1.drewN nq
      go_wp2_with fail
      go_loopw [] (fun wr => ∃ j : Nat, k ≤ j ∧ j ≤ s.size ∧ DP g s w wr j (-1) ∧ Hid ((plnT s.data.toList k).length = j - k + (plnT s.data.toList j).length)) (fun wr => s.size - at_ g wr)
      case atStart => exact ⟨k, Nat.le_refl _, hks, r2, by show _ = _; omega⟩
      case round =>
        obtain ⟨j, hkj, hj, rj, HJ⟩ := hrel
        have e0 := rj.db.c0
        have e1 := rj.db.c1
        by_cases hlj : j < s.size
        · have yj : decide ((j : Int) < s.size) = true := by simp; omega
          have HP := hmk (fun W => rplainbyte_any (s[j]).toNat (UInt8.toNat_lt _) W)
          cases ht : plainN (s[j]).toNat with
          | true =>
            rw [ht] at HP
            have HJ2 : Hid ((plnT s.data.toList k).length = j + 1 - k + (plnT s.data.toList (j + 1)).length) := by
              have a := HJ.out
              rw [pln_yes hlj ht, List.length_cons] at a
              show _ = _
              omega
            clear ht HJ
            go_wp2_with fail
            go_quiet ((go_at_call 78; exact Calls.quiet_of_same (HP.out _)))
            have rj2 := rj.drewN nq
            have e12 := rj2.db.c1
            have f12 := rj2.db.fz 1
            have rj3 := rj2.put1 (j + 1) ((j : Int) + 1) (by omega) (by omega)
            go_wp2_with fail
            go_roundw
            case rel => exact ⟨j + 1, by omega, by omega, rj3, HJ2.out⟩
            case measure => rw [rj.db.at_, DB.at_ (k := j + 1) (s := s) (bad := -1)] <;> first | omega | exact rj3.db
          | false =>
            rw [ht] at HP
            have hlen : (plnT s.data.toList k).length = j - k := by
              have a := HJ.out
              rw [pln_no hlj ht, List.length_nil] at a
              omega
            clear ht HJ
            have HS := fun W => slice_mid s k (j - k) (j : Int) (by omega) (by omega) W
            rw [show k + (j - k) = j by omega] at HS
            have hxe := pln_ext hkj hj hlen
            have hxs : (s.extract k j).size = j - k := by rw [hxe, ofB_size, hlen]
            have hxz : ((s.extract k j).size : Int) = j - k := by omega
            go_wp2_with fail
            go_quiet ((go_at_call 78; exact Calls.quiet_of_same (HP.out _)))
            have rj2 := rj.drewN nq
            generalize wr.drewN nq = wq at *
            have e02 := rj2.db.c0
            have e12 := rj2.db.c1
            go_wp2_with fail
            go_quiet (fail)
            have r4 := rj2.drewN nq
            generalize wq.drewN nq = wq2 at *
            by_cases ha : j = k
            · have ya : ((s.extract k j).size : Int) < 1 := by omega
              have HN : Hid (RES = none) := HWR.out.1 (List.eq_nil_of_length_eq_zero (by omega))
              go_wp2_with (first | (go_at_call 77; refine (CF.out _ _ _ r4).mono ?_; rintro e w5 ⟨rfl, r5⟩) | fail)
              (try simp only [Exit.inBlock, Exit.then])
              go_ret
              exact .inr ⟨HN.out, rfl, _, r4.trans r5⟩
            · have ya : ¬ ((s.extract k j).size : Int) < 1 := by omega
              have hne : plnT s.data.toList k ≠ [] := fun q => by rw [q] at hlen; simp at hlen; omega
              by_cases hb : j - k ≤ 64
              · have yb : ¬ ((s.extract k j).size : Int) > 64 := by omega
                have HY : Hid (RES = some (s.extract k j, skp s.data.toList j)) := by
                  show _ = _
                  rw [HWR.out.2 hne]
                  unfold wrdE
                  rw [if_pos ⟨by omega, word_of (plain_valid _ (plnT_plain _ _)) (by omega)⟩, hxe, hlen, show k + (j - k) = j by omega]
                go_wp2_with (first | (go_at_call 37; refine (CBL.out _ _ r4).mono ?_; rintro e w5 ⟨rfl, r6⟩) | fail)
                (try simp only [Exit.inBlock, Exit.then])
                go_ret
                exact .inl ⟨_, _, HY.out, congrArg (fun r => Ending.returned (.string r)) hxe.symm, by omega, r4.trans r6⟩
              · have yb : ((s.extract k j).size : Int) > 64 := by omega
                have HN : Hid (RES = none) := by
                  show _ = _
                  rw [HWR.out.2 hne]
                  unfold wrdE
                  rw [if_neg (by rw [word_long (by omega)]; simp)]
                go_wp2_with (first | (go_at_call 77; refine (CF.out _ _ _ r4).mono ?_; rintro e w5 ⟨rfl, r5⟩) | fail)
                (try simp only [Exit.inBlock, Exit.then])
                go_ret
                exact .inr ⟨HN.out, rfl, _, r4.trans r5⟩
        · obtain rfl : j = s.size := by omega
          have yj : decide ((s.size : Int) < s.size) = false := by simp
          have hlen : (plnT s.data.toList k).length = s.size - k := by
            have a := HJ.out
            rw [pln_end, List.length_nil] at a
            omega
          clear HJ
          have HS := fun W => slice_mid s k (s.size - k) (s.size : Int) (by omega) (by omega) W
          rw [show k + (s.size - k) = s.size by omega] at HS
          have hxe := pln_ext hkj hj hlen
          have hxs : (s.extract k s.size).size = s.size - k := by rw [hxe, ofB_size, hlen]
          have hxz : ((s.extract k s.size).size : Int) = s.size - k := by omega
          go_wp2_with fail
          go_quiet (fail)
          have rj2 := rj.drewN nq
          generalize wr.drewN nq = wq at *
          have e02 := rj2.db.c0
          have e12 := rj2.db.c1
          go_wp2_with fail
          go_quiet (fail)
          have r4 := rj2.drewN nq
          generalize wq.drewN nq = wq2 at *
          by_cases ha : s.size = k
          · have ya : ((s.extract k s.size).size : Int) < 1 := by omega
            have HN : Hid (RES = none) := HWR.out.1 (List.eq_nil_of_length_eq_zero (by omega))
            go_wp2_with (first | (go_at_call 77; refine (CF.out _ _ _ r4).mono ?_; rintro e w5 ⟨rfl, r5⟩) | fail)
            (try simp only [Exit.inBlock, Exit.then])
            go_ret
            exact .inr ⟨HN.out, rfl, _, r4.trans r5⟩
          · have ya : ¬ ((s.extract k s.size).size : Int) < 1 := by omega
            have hne : plnT s.data.toList k ≠ [] := fun q => by rw [q] at hlen; simp at hlen; omega
            by_cases hb : s.size - k ≤ 64
            · have yb : ¬ ((s.extract k s.size).size : Int) > 64 := by omega
              have HY : Hid (RES = some (s.extract k s.size, skp s.data.toList s.size)) := by
                show _ = _
                rw [HWR.out.2 hne]
                unfold wrdE
                rw [if_pos ⟨by omega, word_of (plain_valid _ (plnT_plain _ _)) (by omega)⟩, hxe, hlen, show k + (s.size - k) = s.size by omega]
              go_wp2_with (first | (go_at_call 37; refine (CBL.out _ _ r4).mono ?_; rintro e w5 ⟨rfl, r6⟩) | fail)
              (try simp only [Exit.inBlock, Exit.then])
              go_ret
              exact .inl ⟨_, _, HY.out, congrArg (fun r => Ending.returned (.string r)) hxe.symm, by omega, r4.trans r6⟩
            · have yb : ((s.extract k s.size).size : Int) > 64 := by omega
              have HN : Hid (RES = none) := by
                show _ = _
                rw [HWR.out.2 hne]
                unfold wrdE
                rw [if_neg (by rw [word_long (by omega)]; simp)]
              go_wp2_with (first | (go_at_call 77; refine (CF.out _ _ _ r4).mono ?_; rintro e w5 ⟨rfl, r5⟩) | fail)
              (try simp only [Exit.inBlock, Exit.then])
              go_ret
              exact .inr ⟨HN.out, rfl, _, r4.trans r5⟩
  · have y : decide ((k : Int) < s.size) = false := by simp; omega
    have HUN : Q.unqAll s.data.toList (k : Int) = ([], k, 10) := by
      rw [Q.unqAll_in s k hks, if_neg]
      intro q
      obtain ⟨q1, _⟩ := hit_yes q
      omega
    have hwr : plnT s.data.toList k = [] → RES = none := fun q => by
      rw [← HR.out]
      unfold wrdF
      rw [if_pos q, HUN, if_neg (by simp)]
    have hwr2 : plnT s.data.toList k ≠ [] → RES = wrdE s.data.toList least (plnT s.data.toList k) (k + (plnT s.data.toList k).length) := fun q => by
      rw [← HR.out]
      unfold wrdF
      rw [if_neg q]
    have HWR := hmk (And.intro hwr hwr2)
    clear hwr hwr2 HR HUN
    go_wp2_with fail
    go_quiet (fail)
    have r2 := r1.drewN nq
    go_wp2_with fail
    go_loopw [] (fun wr => ∃ j : Nat, k ≤ j ∧ j ≤ s.size ∧ DP g s w wr j (-1) ∧ Hid ((plnT s.data.toList k).length = j - k + (plnT s.data.toList j).length)) (fun wr => s.size - at_ g wr)
    case atStart => exact ⟨k, Nat.le_refl _, hks, r2, by show _ = _; omega⟩
    case round =>
      obtain ⟨j, hkj, hj, rj, HJ⟩ := hrel
      have e0 := rj.db.c0
      have e1 := rj.db.c1
      have hje : j = k := by omega
      subst hje
      have hlen : (plnT s.data.toList j).length = j - j := by
        rw [show j = s.size by omega, pln_end]
        simp
      have HS := fun W => slice_mid s j (j - j) (j : Int) (by omega) (by omega) W
      rw [show j + (j - j) = j by omega] at HS
      have hxe := pln_ext hkj hj hlen
      have hxs : (s.extract j j).size = j - j := by rw [hxe, ofB_size, hlen]
      have hxz : ((s.extract j j).size : Int) = j - j := by omega
      go_wp2_with fail
      go_quiet (fail)
      have rj2 := rj.drewN nq
      generalize wr.drewN nq = wq at *
      have e02 := rj2.db.c0
      have e12 := rj2.db.c1
      go_wp2_with fail
      go_quiet (fail)
      have r4 := rj2.drewN nq
      generalize wq.drewN nq = wq2 at *
      have ya : ((s.extract j j).size : Int) < 1 := by omega
      have HN : Hid (RES = none) := HWR.out.1 (List.eq_nil_of_length_eq_zero (by omega))
      go_wp2_with (first | (go_at_call 77; refine (CF.out _ _ _ r4).mono ?_; rintro e w5 ⟨rfl, r5⟩) | fail)
      (try simp only [Exit.inBlock, Exit.then])
      go_ret
      exact .inr ⟨HN.out, rfl, _, r4.trans r5⟩
end Go.Proofs.YtolekldjbbjmjaaGreatDoor
