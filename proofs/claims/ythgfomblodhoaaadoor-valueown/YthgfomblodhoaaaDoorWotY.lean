import Derived.Test.YthgfomblodhoaaaDoorClnX
/- without_ap: the answer's lists and maps, each in a block of its own. -/
set_option linter.unusedSimpArgs false
set_option linter.unusedVariables false
namespace Go.Proofs.YthgfomblodhoaaaDoor
open Go.RowKit Go.Lib
set_option maxHeartbeats 2000000 in
set_option maxRecDepth 100000 in
theorem without_ap (v : V) (key : ByteArray) (R : Bool) (S : Nat → Prop) (cs : List Value) (w : World) (tb : Tb w) (hv : v.lies R w S cs) (hS : ∀ b, S b → b < w.heap.size) (hwt : v.wt ≤ 2147483648) :
    Calls Tryd.prog 17 #[.agg cs.toArray, .string key] w (ApPost (woutV v key) w) := by
  obtain ⟨k, b, i, s, l, m⟩ := v
  have hv0 := hv
  rw [V.lies] at hv
  obtain ⟨al, cl, bl, ol, am, cm, bm, om, rfl, hk, hi, hs, hal, ham, hl0, hm, _⟩ := hv
  have hz2 : ((w.alloc (.cells #[.int .i64 k, .bool b, .int .i64 i, .string s, .slice al l.length cl, .slice am m.length cm] 25)).alloc (.cells #[.int .i64 0, .bool false, .int .i64 0, .string ⟨#[]⟩, .slice none 0 0, .slice none 0 0] 25)).heap.size = w.heap.size + 2 := by rw [alloc_size, alloc_size]
  have B0 : Below w.heap.size w ((w.alloc (.cells #[.int .i64 k, .bool b, .int .i64 i, .string s, .slice al l.length cl, .slice am m.length cm] 25)).alloc (.cells #[.int .i64 0, .bool false, .int .i64 0, .string ⟨#[]⟩, .slice none 0 0, .slice none 0 0] 25)) := two_below w _ _
  have h0 := alloc2_keep1 w (.cells #[.int .i64 k, .bool b, .int .i64 i, .string s, .slice al l.length cl, .slice am m.length cm] 25) (.cells #[.int .i64 0, .bool false, .int .i64 0, .string ⟨#[]⟩, .slice none 0 0, .slice none 0 0] 25)
  have h1 := alloc2_new w (.cells #[.int .i64 k, .bool b, .int .i64 i, .string s, .slice al l.length cl, .slice am m.length cm] 25) (.cells #[.int .i64 0, .bool false, .int .i64 0, .string ⟨#[]⟩, .slice none 0 0, .slice none 0 0] 25)
  have HV : Hid (∀ W, Below w.heap.size w W → (V.mk k b i s l m).lies R W S [.int .i64 k, .bool b, .int .i64 i, .string s, .slice al l.length cl, .slice am m.length cm] ∧ (∀ b, S b → b < W.heap.size)) := fun W hb => ⟨V.lies_keep (fun h => h) (fun x hx => hb.block x (hS x hx)) (fun _ h => h) _ hv0, fun x hx => Nat.lt_of_lt_of_le (hS x hx) hb.size⟩
  have HB : Hid (∀ W, Below w.heap.size w W → Tb W) := fun W hb => tb.below hb tb.z
  have HM : Hid (∀ W, Below w.heap.size w W → liesM false W (Old W) m bm om ∧ liesL false W S l bl ol ∧ liesM R W S m bm om) := fun W hb => ⟨liesM_keep (fun h => by cases h) (fun x hx => hb.block x (hS x hx)) (fun x h => Nat.lt_of_lt_of_le (hS x h) hb.size) _ hm, liesL_keep (fun h => by cases h) (fun x hx => hb.block x (hS x hx)) (fun _ h => h) _ hl0, liesM_keep (fun h => h) (fun x hx => hb.block x (hS x hx)) (fun _ h => h) _ hm⟩
  have hml : m.length ≤ 2147483648 := by have := wtM_len m; simp only [V.wt] at hwt; omega
  have d0 : ((w.alloc (.cells #[.int .i64 k, .bool b, .int .i64 i, .string s, .slice al l.length cl, .slice am m.length cm] 25)).alloc (.cells #[.int .i64 0, .bool false, .int .i64 0, .string ⟨#[]⟩, .slice none 0 0, .slice none 0 0] 25)).cell? ⟨w.heap.size, 0, none⟩ = some (.int .i64 k) := by rw [cell_of_block h0]; rfl
  have d1 : ((w.alloc (.cells #[.int .i64 k, .bool b, .int .i64 i, .string s, .slice al l.length cl, .slice am m.length cm] 25)).alloc (.cells #[.int .i64 0, .bool false, .int .i64 0, .string ⟨#[]⟩, .slice none 0 0, .slice none 0 0] 25)).cell? ⟨w.heap.size, 1, none⟩ = some (.bool b) := by rw [cell_of_block h0]; rfl
  have d2 : ((w.alloc (.cells #[.int .i64 k, .bool b, .int .i64 i, .string s, .slice al l.length cl, .slice am m.length cm] 25)).alloc (.cells #[.int .i64 0, .bool false, .int .i64 0, .string ⟨#[]⟩, .slice none 0 0, .slice none 0 0] 25)).cell? ⟨w.heap.size, 2, none⟩ = some (.int .i64 i) := by rw [cell_of_block h0]; rfl
  have d3 : ((w.alloc (.cells #[.int .i64 k, .bool b, .int .i64 i, .string s, .slice al l.length cl, .slice am m.length cm] 25)).alloc (.cells #[.int .i64 0, .bool false, .int .i64 0, .string ⟨#[]⟩, .slice none 0 0, .slice none 0 0] 25)).cell? ⟨w.heap.size, 3, none⟩ = some (.string s) := by rw [cell_of_block h0]; rfl
  have d4 : ((w.alloc (.cells #[.int .i64 k, .bool b, .int .i64 i, .string s, .slice al l.length cl, .slice am m.length cm] 25)).alloc (.cells #[.int .i64 0, .bool false, .int .i64 0, .string ⟨#[]⟩, .slice none 0 0, .slice none 0 0] 25)).cell? ⟨w.heap.size, 4, none⟩ = some (.slice al l.length cl) := by rw [cell_of_block h0]; rfl
  have d5 : ((w.alloc (.cells #[.int .i64 k, .bool b, .int .i64 i, .string s, .slice al l.length cl, .slice am m.length cm] 25)).alloc (.cells #[.int .i64 0, .bool false, .int .i64 0, .string ⟨#[]⟩, .slice none 0 0, .slice none 0 0] 25)).cell? ⟨w.heap.size, 5, none⟩ = some (.slice am m.length cm) := by rw [cell_of_block h0]; rfl
  clear hv0 hm hl0 tb
  go_enter Tryd.func17, Tryd.ntmps17
  go_wp2_with fail
  clear d0 d1 d2 d3 d4 d5
  generalize ((w.alloc (.cells #[.int .i64 k, .bool b, .int .i64 i, .string s, .slice al l.length cl, .slice am m.length cm] 25)).alloc (.cells #[.int .i64 0, .bool false, .int .i64 0, .string ⟨#[]⟩, .slice none 0 0, .slice none 0 0] 25)) = w0 at *
  refine (taken_any R (V.mk k b i s l m) S _ w0 (HB.out w0 B0) (HV.out w0 B0).1 (HV.out w0 B0).2 (by omega)).mono ?_
  rintro e w1 ⟨rfl, b1⟩
  have hz1 := b1.size
  have B1 := B0.trans (b1.mono (by omega))
  have t0 := (b1.block w.heap.size (by omega)).trans h0
  have t1 := (b1.block (w.heap.size + 1) (by omega)).trans h1
  clear h0 h1 B0 b1
  cases ho : okV (V.mk k b i s l m) with
  | false =>
    have HF : Hid (woutV (V.mk k b i s l m) key = nullV) := by show _ = _; rw [woutV, if_neg (by rw [ho]; simp)]
    have r0 : w1.cell? ⟨w.heap.size + 1, 0, none⟩ = some (.int .i64 0) := by rw [cell_of_block t1]; rfl
    have r1 : w1.cell? ⟨w.heap.size + 1, 1, none⟩ = some (.bool false) := by rw [cell_of_block t1]; rfl
    have r2 : w1.cell? ⟨w.heap.size + 1, 2, none⟩ = some (.int .i64 0) := by rw [cell_of_block t1]; rfl
    have r3 : w1.cell? ⟨w.heap.size + 1, 3, none⟩ = some (.string ⟨#[]⟩) := by rw [cell_of_block t1]; rfl
    have r4 : w1.cell? ⟨w.heap.size + 1, 4, none⟩ = some (.slice none 0 0) := by rw [cell_of_block t1]; rfl
    have r5 : w1.cell? ⟨w.heap.size + 1, 5, none⟩ = some (.slice none 0 0) := by rw [cell_of_block t1]; rfl
    have rf : ∀ i, w1.frozen? ⟨w.heap.size + 1, i, none⟩ = false := frozen_of_block t1
    clear t0 t1 ho
    go_wp2_with fail
    (try simp only [Exit.inBlock, Exit.then])
    refine bodyPost_ret (v := .agg #[.int .i64 0, .bool false, .int .i64 0, .string ⟨#[]⟩, .slice none 0 0, .slice none 0 0]) (by rw [results_cell1 rfl]; go_simp) rfl ?_
    rw [HF.out]
    exact ⟨[.int .i64 0, .bool false, .int .i64 0, .string ⟨#[]⟩, .slice none 0 0, .slice none 0 0], rfl, null_ap _ (by have := B1.size; simp only [size_set1]; omega), Below.set6 B1 (by omega) _ _ _ _ _ _ _ _ _ _ _ _⟩
  | true =>
    have HF : Hid (woutV (V.mk k b i s l m) key = V.mk k b i s l (woutM m key)) := by show _ = _; rw [woutV, if_pos ho]
    have HP : Hid (∀ W, Below w.heap.size w W → Calls Tryd.prog 36 #[.slice am m.length cm, .string key] W (fun e w' => e = .returned (.tuple #[.int .i64 (posF m key : Int), .bool (keyIs key m[posF m key]?)]) ∧ Below W.heap.size W w')) := fun W hb => find_any m key R S am cm bm om W ham (HM.out W hb).2.2 (HV.out W hb).2 (srt_ok ho) (by omega)
    have q5 : w1.cell? ⟨w.heap.size, 5, none⟩ = some (.slice am m.length cm) := by rw [cell_of_block t0]; rfl
    clear ho
    obtain ⟨p, hp⟩ : ∃ p, posF m key = p := ⟨_, rfl⟩
    have HA : Hid (woutM m key = if keyIs key m[p]? = true then m.take p ++ m.drop (p + 1) else m) := by show _ = _; rw [woutM, hp]
    have HI : Hid (keyIs key m[p]? = true → p < m.length) := fun h => by
      rcases Nat.lt_or_ge p m.length with h1 | h1
      · exact h1
      · rw [List.getElem?_eq_none h1] at h; simp [keyIs] at h
    rw [hp] at HP
    clear hp
    generalize keyIs key m[p]? = q at *
    go_wp2_with fail
    refine (HP.out w1 B1).mono ?_
    rintro e w2 ⟨rfl, b2⟩
    have hz4 := b2.size
    have B2 := B1.trans (b2.mono (by omega))
    have t0' := (b2.block w.heap.size (by omega)).trans t0
    have t1' := (b2.block (w.heap.size + 1) (by omega)).trans t1
    clear t0 t1 q5 b2 HP
    cases q with
    | false =>
      have d0 : w2.cell? ⟨w.heap.size, 0, none⟩ = some (.int .i64 k) := by rw [cell_of_block t0']; rfl
      have d1 : w2.cell? ⟨w.heap.size, 1, none⟩ = some (.bool b) := by rw [cell_of_block t0']; rfl
      have d2 : w2.cell? ⟨w.heap.size, 2, none⟩ = some (.int .i64 i) := by rw [cell_of_block t0']; rfl
      have d3 : w2.cell? ⟨w.heap.size, 3, none⟩ = some (.string s) := by rw [cell_of_block t0']; rfl
      have d4 : w2.cell? ⟨w.heap.size, 4, none⟩ = some (.slice al l.length cl) := by rw [cell_of_block t0']; rfl
      have d5 : w2.cell? ⟨w.heap.size, 5, none⟩ = some (.slice am m.length cm) := by rw [cell_of_block t0']; rfl
      have hwm : (V.mk k b i s l m).wt ≤ 1099511627776 := by omega
      go_wp2_with fail
      refine (anew_ap (V.mk k b i s l m) R S _ w2 (HV.out w2 B2).1 (HV.out w2 B2).2 hwm).mono ?_
      rintro e w3 ⟨csu, rfl, hlu, b3⟩
      obtain ⟨uk, ub, ui, us, ual, unl, ucl, uam, unm, ucm, rfl⟩ := V.ten (V.ap_lies _ hlu)
      have hz5 := b3.size
      have B3 := B2.trans (b3.mono (by omega))
      have t1 := (b3.block (w.heap.size + 1) (by omega)).trans t1'
      have HU : Hid ((V.mk k b i s l m).ap w3 (w.heap.size + 2) w3.heap.size [.int .i64 uk, .bool ub, .int .i64 ui, .string us, .slice ual unl ucl, .slice uam unm ucm]) := V.ap_wide hlu (by omega) (Nat.le_refl _)
      clear hlu b3 t1' t0' d0 d1 d2 d3 d4 d5
      have r0 : w3.cell? ⟨w.heap.size + 1, 0, none⟩ = some (.int .i64 0) := by rw [cell_of_block t1]; rfl
      have r1 : w3.cell? ⟨w.heap.size + 1, 1, none⟩ = some (.bool false) := by rw [cell_of_block t1]; rfl
      have r2 : w3.cell? ⟨w.heap.size + 1, 2, none⟩ = some (.int .i64 0) := by rw [cell_of_block t1]; rfl
      have r3 : w3.cell? ⟨w.heap.size + 1, 3, none⟩ = some (.string ⟨#[]⟩) := by rw [cell_of_block t1]; rfl
      have r4 : w3.cell? ⟨w.heap.size + 1, 4, none⟩ = some (.slice none 0 0) := by rw [cell_of_block t1]; rfl
      have r5 : w3.cell? ⟨w.heap.size + 1, 5, none⟩ = some (.slice none 0 0) := by rw [cell_of_block t1]; rfl
      have rf : ∀ i, w3.frozen? ⟨w.heap.size + 1, i, none⟩ = false := frozen_of_block t1
      clear t1
      go_wp2_with fail
      (try simp only [Exit.inBlock, Exit.then])
      refine bodyPost_ret (v := .agg #[.int .i64 uk, .bool ub, .int .i64 ui, .string us, .slice ual unl ucl, .slice uam unm ucm]) (by rw [results_cell1 rfl]; go_simp) rfl ?_
      rw [HF.out, HA.out]
      exact ⟨[.int .i64 uk, .bool ub, .int .i64 ui, .string us, .slice ual unl ucl, .slice uam unm ucm], rfl, V.ap_wide (ap_set6 HU.out (show w.heap.size + 1 < w.heap.size + 2 by omega) _ _ _ _ _ _ _ _ _ _ _ _) (by omega) (by simp only [size_set1]; exact Nat.le_refl _), Below.set6 B3 (by omega) _ _ _ _ _ _ _ _ _ _ _ _⟩
    | true =>
      have hpl := HI.out rfl
      have y1 : (p : Int) < m.length := by omega
      obtain rfl : am = some ⟨bm, om, none⟩ := ham.at_.resolve_left (by omega)
      have hcl := ham.le
      have y2 : (p : Int) ≤ cm := by omega
      have y3 : ((p : Int) + 1) ≤ m.length := by omega
      have y4 : IntKind.i64.wrap ((p : Int) + 1) = ((p + 1 : Nat) : Int) := by simp [IntKind.wrap, IntKind.bits, IntKind.signed]; omega
      have y5 : ((p + 1 : Nat) : Int) ≤ m.length := by omega
      have y6 : (m.length : Int) ≤ cm := by omega
      have q5 : w2.cell? ⟨w.heap.size, 5, none⟩ = some (.slice (some ⟨bm, om, none⟩) m.length cm) := by rw [cell_of_block t0']; rfl
      have BD : Hid (Below w2.heap.size w2 w2.drew) := (Below.refl _ _).drew
      have y7 : (0 : Int) ≤ (p : Int) + 1 := by omega
      obtain ⟨sx, hsx⟩ : ∃ sx, (if cm = p + 1 then some ⟨bm, om, none⟩ else some ⟨bm, om + (p + 1) * 7, none⟩ : Option Addr) = sx := ⟨_, rfl⟩
      have HSX : Hid (Headed sx (m.drop (p + 1)).length (cm - (p + 1)) bm (om + (p + 1) * 7)) := by
        have hmx := ham.max
        refine ⟨by rw [List.length_drop]; omega, by omega, ?_, fun h => ?_⟩
        · by_cases hc : cm = p + 1
          · exact .inl (by rw [List.length_drop]; omega)
          · rw [if_neg hc] at hsx; exact .inr hsx.symm
        · rw [h] at hsx; split at hsx <;> cases hsx
      have HTP : Hid ((m.take p).length = p) := by show _ = _; rw [List.length_take]; omega
      have HDP : Hid ((m.drop (p + 1)).length = m.length - (p + 1)) := List.length_drop ..
      have HC : Hid (∀ W, Below w2.heap.size w2 W → W.cell? ⟨w2.heap.size, 0, none⟩ = some (.slice (some ⟨bm, om, none⟩) p cm) → W.cell? ⟨w2.heap.size, 1, none⟩ = some (.slice sx (m.length - (p + 1)) (cm - (p + 1))) → w2.heap.size < W.heap.size → Calls Tryd.prog 38 #[.slice (some ⟨w2.heap.size, 0, none⟩) 2 2] W (ConPost S (m.take p ++ m.drop (p + 1)) W)) := fun W hb z0 z1 hlt => by
        have hB := B2.trans (hb.mono B2.size)
        have hmW := liesM_keep (R' := false) (S' := S) (fun h => by cases h) (fun _ _ => rfl) (fun _ h => h) _ (HM.out W hB).2.2
        have h := concat_any [⟨some ⟨bm, om, none⟩, m.take p, cm, bm, om⟩, ⟨sx, m.drop (p + 1), cm - (p + 1), bm, om + (p + 1) * 7⟩] S w2.heap.size 0 2 W (fun i hi => by
          rcases i with _ | _ | i
          · show W.cell? ⟨w2.heap.size, 0 + 0, none⟩ = some (.slice (some ⟨bm, om, none⟩) (m.take p).length cm)
            rw [HTP.out]; exact z0
          · show W.cell? ⟨w2.heap.size, 0 + 1, none⟩ = some (.slice sx (m.drop (p + 1)).length (cm - (p + 1)))
            rw [HDP.out]; exact z1
          · exact absurd hi (by simp only [List.length_cons, List.length_nil]; omega)) hlt (by simp) (fun g hg => by
          simp only [List.mem_cons, List.not_mem_nil, or_false] at hg
          rcases hg with rfl | rfl
          · exact ⟨⟨by show (m.take p).length ≤ cm; rw [HTP.out]; omega, ham.max, .inr rfl, fun h => by cases h⟩, liesM_take p hmW⟩
          · exact ⟨HSX.out, liesM_drop (p + 1) hmW⟩) (HV.out W hB).2 (by simp [catL]; omega)
        simpa [catL] using h
      have HWT : Hid (wtM (m.take p ++ m.drop (p + 1)) ≤ wtM m) := by
        show _ ≤ _
        have e : wtM m = wtM (m.take p) + wtM (m.drop p) := by rw [← wtM_app, List.take_append_drop]
        rw [List.drop_eq_getElem_cons hpl] at e
        rcases hx : m[p] with ⟨kx, vx⟩
        rw [hx] at e
        rw [wtM_app, e]
        simp only [wtM]; omega
      obtain ⟨L, hL⟩ : ∃ L, m.take p ++ m.drop (p + 1) = L := ⟨_, rfl⟩
      have HWO : Hid (woutM m key = L) := by show _ = _; rw [HA.out, if_pos rfl]; exact hL
      rw [hL] at HC HWT
      have HWL : Hid ((V.mk k b i s l L).wt ≤ 1099511627776) := by
        have := HWT.out
        show _ ≤ _
        simp only [V.wt] at hwt ⊢; omega
      clear hL
      have q5 : w2.cell? ⟨w.heap.size, 5, none⟩ = some (.slice (some ⟨bm, om, none⟩) m.length cm) := by rw [cell_of_block t0']; rfl
      have hz2w := B2.size
      go_wp2_with fail
      refine wp_region_held_drew (S := fun _ => True) (by kernel_rfl) trivial (fun hHeld => ?_)
      (refine wpAnyH_take (i := 0) (v := ?_) rfl (by kernel_rfl) (by kernel_rfl) (by kernel_rfl) (fun _ _ _ h => h) (Or.inl ⟨by rfl, ?_⟩) (by assumption) ?_; rotate_left 1; (intro W0 hSw; (try dsimp only at hSw); go_simp; (try with_reducible rfl)); (try simp only [Act.put, List.setIfInBounds_toArray, List.set_cons_zero, List.set_cons_succ]))
      (refine wpAnyH_take (i := 2) (v := ?_) rfl (by kernel_rfl) (by kernel_rfl) (by kernel_rfl) (fun _ _ _ h => h) (Or.inl ⟨by rfl, ?_⟩) (by assumption) ?_; rotate_left 1; (intro W0 hSw; (try dsimp only at hSw); go_simp; (try with_reducible rfl)); (try simp only [Act.put, List.setIfInBounds_toArray, List.set_cons_zero, List.set_cons_succ]))
      (refine wpAnyH_take (i := 4) (v := ?_) rfl (by kernel_rfl) (by kernel_rfl) (by kernel_rfl) (fun _ _ _ h => h) (Or.inl ⟨by rfl, ?_⟩) (by assumption) ?_; rotate_left 1; (intro W0 hSw; (try dsimp only at hSw); go_simp; (try with_reducible rfl)); (try simp only [Act.put, List.setIfInBounds_toArray, List.set_cons_zero, List.set_cons_succ]))
      (refine wpAnyH_take (i := 6) (v := ?_) rfl (by kernel_rfl) (by kernel_rfl) (by kernel_rfl) (fun _ _ _ h => h) (Or.inl ⟨by rfl, ?_⟩) (by assumption) ?_; rotate_left 1; (intro W0 hSw; (try dsimp only at hSw); go_simp; (try with_reducible rfl)); (try simp only [Act.put, List.setIfInBounds_toArray, List.set_cons_zero, List.set_cons_succ]))
      (refine wpAnyH_take (i := 7) (v := ?_) rfl (by kernel_rfl) (by kernel_rfl) (by kernel_rfl) (fun _ _ _ h => h) (Or.inl ⟨by rfl, ?_⟩) (by assumption) ?_; rotate_left 1; (intro W0 hSw; (try dsimp only at hSw); go_simp; (try with_reducible rfl)); (try simp only [Act.put, List.setIfInBounds_toArray, List.set_cons_zero, List.set_cons_succ]))
      refine wpAnyH_ready (rs := [1, 5]) (by kernel_rfl) (by simp) ?_
      refine AllReadyH.cons rfl (fun K hK => ?_) (AllReadyH.cons rfl (fun K hK => ?_) AllReadyH.nil)
      · go_simp
        refine hK.out _ _ trivial (fun hHeld => ?_)
        clear hK K
        (try simp only [Act.put, List.setIfInBounds_toArray, List.set_cons_zero, List.set_cons_succ])
        (refine wpAnyH_take (i := 3) (v := ?_) rfl (by kernel_rfl) (by kernel_rfl) (by kernel_rfl) (fun _ _ _ h => h) (Or.inl ⟨by rfl, ?_⟩) (by assumption) ?_; rotate_left 1; (intro W0 hSw; (try dsimp only at hSw); go_simp; (try with_reducible rfl)); (try simp only [Act.put, List.setIfInBounds_toArray, List.set_cons_zero, List.set_cons_succ]))
        refine wpAnyH_ready (rs := [5]) (by kernel_rfl) (by simp) ?_
        refine AllReadyH.cons rfl (fun K hK => ?_) AllReadyH.nil
        go_simp
        refine hK.out _ _ trivial (fun hHeld => ?_)
        clear hK K
        (try simp only [Act.put, List.setIfInBounds_toArray, List.set_cons_zero, List.set_cons_succ])
        (refine wpAnyH_take (i := 8) (v := ?_) rfl (by kernel_rfl) (by kernel_rfl) (by kernel_rfl) (fun _ _ _ h => h) (Or.inl ⟨by rfl, ?_⟩) (by assumption) ?_; rotate_left 1; (intro W0 hSw; (try dsimp only at hSw); go_simp; (try with_reducible rfl)); (try simp only [Act.put, List.setIfInBounds_toArray, List.set_cons_zero, List.set_cons_succ]))
        (try rw [hsx])
        refine wpAnyH_ready (rs := [9]) (by kernel_rfl) (by simp) ?_
        refine AllReadyH.cons rfl (fun K hK => ?_) AllReadyH.nil
        go_simp
        refine hK.out _ _ trivial (fun hHeld => ?_)
        clear hK K
        (try simp only [Act.put, List.setIfInBounds_toArray, List.set_cons_zero, List.set_cons_succ])
        refine wpAnyH_ready (rs := [10]) (by kernel_rfl) (by simp) ?_
        refine AllReadyH.cons rfl (fun K hK => ?_) AllReadyH.nil
        go_simp
        refine (HC.out (w2.drew.alloc (.cells #[.slice (some ⟨bm, om, none⟩) p cm, .slice sx (m.length - (p + 1)) (cm - (p + 1))] 23)) (BD.out.alloc (Nat.le_refl _) _) (cell_of_block (b := w2.heap.size) (heap_alloc_new w2.drew (.cells #[.slice (some ⟨bm, om, none⟩) p cm, .slice sx (m.length - (p + 1)) (cm - (p + 1))] 23)) 0) (cell_of_block (b := w2.heap.size) (heap_alloc_new w2.drew (.cells #[.slice (some ⟨bm, om, none⟩) p cm, .slice sx (m.length - (p + 1)) (cm - (p + 1))] 23)) 1) (by rw [alloc_size]; exact Nat.lt_succ_self _)).mono ?_
        rintro e w3 ⟨ca, cc, cb, co, rfl, hdc, hlc, b3⟩
        have hzA : (w2.drew.alloc (.cells #[.slice (some ⟨bm, om, none⟩) p cm, .slice sx (m.length - (p + 1)) (cm - (p + 1))] 23)).heap.size = w2.heap.size + 1 := alloc_size w2.drew _
        have HLC : Hid (liesM false w3 (fun x => S x ∨ (w2.heap.size < x ∧ x < w3.heap.size)) L cb co) := liesM_keep (fun h => h) (fun _ _ => rfl) (fun x hx => hx.elim .inl (fun h => .inr ⟨by have h1 := h.1; rw [hzA] at h1; exact h1, h.2⟩)) _ hlc
        have c3 : Below w2.heap.size w2 w3 := (BD.out.alloc (Nat.le_refl _) _).trans (b3.mono (by rw [hzA]; omega))
        have hz3 : w2.heap.size < w3.heap.size := by have := b3.size; rw [hzA] at this; omega
        have B3 := B2.trans (c3.mono hz2w)
        have t3 := (c3.block w.heap.size (by omega)).trans t0'
        have t31 := (c3.block (w.heap.size + 1) (by omega)).trans t1'
        have s5 : w3.cell? ⟨w.heap.size, 5, none⟩ = some (.slice (some ⟨bm, om, none⟩) m.length cm) := by rw [cell_of_block t3]; rfl
        have sf : w3.frozen? ⟨w.heap.size, 5, none⟩ = false := frozen_of_block t3 5
        clear hlc b3 hzA
        go_wp2_with fail
        refine hK.out _ _ trivial (fun hHeld => ?_)
        clear hK K
        (try simp only [Act.put, List.setIfInBounds_toArray, List.set_cons_zero, List.set_cons_succ])
        (refine wpAnyH_take (i := 11) (v := ?_) rfl (by kernel_rfl) (by kernel_rfl) (by kernel_rfl) (fun _ _ _ h => h) (Or.inl ⟨by rfl, ?_⟩) (by assumption) ?_; rotate_left 1; (intro W0 hSw; (try dsimp only at hSw); go_simp; (try with_reducible rfl)); (try simp only [Act.put, List.setIfInBounds_toArray, List.set_cons_zero, List.set_cons_succ]))
        refine wpAnyH_ready (rs := [12]) (by kernel_rfl) (by simp) ?_
        refine AllReadyH.cons rfl (fun K hK => ?_) AllReadyH.nil
        go_simp
        refine hK.out _ _ trivial (fun hHeld => ?_)
        clear hK K
        (try simp only [Act.put, List.setIfInBounds_toArray, List.set_cons_zero, List.set_cons_succ])
        refine wpAnyH_done (by kernel_rfl) ?_ _
        (try dsimp only [Act.put, List.getElem_toArray, List.getElem_cons_succ, List.getElem_cons_zero, List.setIfInBounds_toArray, List.set_cons_zero, List.set_cons_succ])
        have g4 := grown_set1 w3 w.heap.size 5 (.slice ca L.length cc)
        have t4 : (w3.setCell ⟨w.heap.size, 5, none⟩ (.slice ca L.length cc)).heap[w.heap.size]? = some (.cells #[.int .i64 k, .bool b, .int .i64 i, .string s, .slice al l.length cl, .slice ca L.length cc] 25 (0, 0)) := by rw [set_block t3]; rfl
        have t41 : (w3.setCell ⟨w.heap.size, 5, none⟩ (.slice ca L.length cc)).heap[w.heap.size + 1]? = some (.cells #[.int .i64 0, .bool false, .int .i64 0, .string ⟨#[]⟩, .slice none 0 0, .slice none 0 0] 25 (0, 0)) := (g4.block _ (by omega) (fun e => by have := Option.some.inj e; omega)).trans t31
        have B4 : Below w.heap.size w (w3.setCell ⟨w.heap.size, 5, none⟩ (.slice ca L.length cc)) := B3.setCell (p := ⟨w.heap.size, 5, none⟩) (Nat.le_refl _) _
        have hz4' : (w3.setCell ⟨w.heap.size, 5, none⟩ (.slice ca L.length cc)).heap.size = w3.heap.size := size_set1 _ _ _ _
        have hne : ∀ x, (S x ∨ (w2.heap.size < x ∧ x < w3.heap.size)) → x ≠ w.heap.size ∧ x < w3.heap.size := fun x hx => by
          rcases hx with h | h
          · have := hS x h; exact ⟨by omega, by omega⟩
          · exact ⟨by omega, h.2⟩
        have HLC4 : Hid (liesM false (w3.setCell ⟨w.heap.size, 5, none⟩ (.slice ca L.length cc)) (fun x => S x ∨ (w2.heap.size < x ∧ x < w3.heap.size)) L cb co) := liesM_keep (fun h => h) (fun x hx => g4.block x (hne x hx).2 (fun e => (hne x hx).1 (Option.some.inj e))) (fun _ h => h) _ HLC.out
        have HV4 : Hid ((V.mk k b i s l L).lies false (w3.setCell ⟨w.heap.size, 5, none⟩ (.slice ca L.length cc)) (fun x => S x ∨ (w2.heap.size < x ∧ x < w3.heap.size)) [.int .i64 k, .bool b, .int .i64 i, .string s, .slice al l.length cl, .slice ca L.length cc]) := lies_S hk hi hs hal hdc (liesL_keep (fun h => h) (fun _ _ => rfl) (fun _ h => .inl h) _ (HM.out _ B4).2.1) HLC4.out
        generalize (w3.setCell ⟨w.heap.size, 5, none⟩ (.slice ca L.length cc)) = w4 at *
        have d0 : w4.cell? ⟨w.heap.size, 0, none⟩ = some (.int .i64 k) := by rw [cell_of_block t4]; rfl
        have d1 : w4.cell? ⟨w.heap.size, 1, none⟩ = some (.bool b) := by rw [cell_of_block t4]; rfl
        have d2 : w4.cell? ⟨w.heap.size, 2, none⟩ = some (.int .i64 i) := by rw [cell_of_block t4]; rfl
        have d3 : w4.cell? ⟨w.heap.size, 3, none⟩ = some (.string s) := by rw [cell_of_block t4]; rfl
        have d4 : w4.cell? ⟨w.heap.size, 4, none⟩ = some (.slice al l.length cl) := by rw [cell_of_block t4]; rfl
        have d5 : w4.cell? ⟨w.heap.size, 5, none⟩ = some (.slice ca L.length cc) := by rw [cell_of_block t4]; rfl
        clear t3 t31 s5 sf g4 t4 HLC HLC4 q5 t0' t1' c3 B3
        go_wp2_with fail
        refine (anew_ap (V.mk k b i s l L) false _ _ w4 HV4.out (fun x hx => by have := (hne x hx).2; omega) HWL.out).mono ?_
        rintro e w5 ⟨csu, rfl, hlu, b5⟩
        obtain ⟨uk, ub, ui, us, ual, unl, ucl, uam, unm, ucm, rfl⟩ := V.ten (V.ap_lies _ hlu)
        have hz6 := b5.size
        have B5 := B4.trans (b5.mono (by omega))
        have t1 := (b5.block (w.heap.size + 1) (by omega)).trans t41
        have HU : Hid ((V.mk k b i s l L).ap w5 (w.heap.size + 2) w5.heap.size [.int .i64 uk, .bool ub, .int .i64 ui, .string us, .slice ual unl ucl, .slice uam unm ucm]) := V.ap_wide hlu (by omega) (Nat.le_refl _)
        clear hlu b5 d0 d1 d2 d3 d4 d5 t41
        have r0 : w5.cell? ⟨w.heap.size + 1, 0, none⟩ = some (.int .i64 0) := by rw [cell_of_block t1]; rfl
        have r1 : w5.cell? ⟨w.heap.size + 1, 1, none⟩ = some (.bool false) := by rw [cell_of_block t1]; rfl
        have r2 : w5.cell? ⟨w.heap.size + 1, 2, none⟩ = some (.int .i64 0) := by rw [cell_of_block t1]; rfl
        have r3 : w5.cell? ⟨w.heap.size + 1, 3, none⟩ = some (.string ⟨#[]⟩) := by rw [cell_of_block t1]; rfl
        have r4 : w5.cell? ⟨w.heap.size + 1, 4, none⟩ = some (.slice none 0 0) := by rw [cell_of_block t1]; rfl
        have r5 : w5.cell? ⟨w.heap.size + 1, 5, none⟩ = some (.slice none 0 0) := by rw [cell_of_block t1]; rfl
        have rf : ∀ i, w5.frozen? ⟨w.heap.size + 1, i, none⟩ = false := frozen_of_block t1
        clear t1
        go_wp2_with fail
        (try simp only [Exit.inBlock, Exit.then])
        refine bodyPost_ret (v := .agg #[.int .i64 uk, .bool ub, .int .i64 ui, .string us, .slice ual unl ucl, .slice uam unm ucm]) (by rw [results_cell1 rfl]; go_simp) rfl ?_
        rw [HF.out, HWO.out]
        exact ⟨[.int .i64 uk, .bool ub, .int .i64 ui, .string us, .slice ual unl ucl, .slice uam unm ucm], rfl, V.ap_wide (ap_set6 HU.out (show w.heap.size + 1 < w.heap.size + 2 by omega) _ _ _ _ _ _ _ _ _ _ _ _) (by omega) (by simp only [size_set1]; exact Nat.le_refl _), Below.set6 B5 (by omega) _ _ _ _ _ _ _ _ _ _ _ _⟩
      · go_simp
        refine hK.out _ _ trivial (fun hHeld => ?_)
        clear hK K
        (try simp only [Act.put, List.setIfInBounds_toArray, List.set_cons_zero, List.set_cons_succ])
        (refine wpAnyH_take (i := 8) (v := ?_) rfl (by kernel_rfl) (by kernel_rfl) (by kernel_rfl) (fun _ _ _ h => h) (Or.inl ⟨by rfl, ?_⟩) (by assumption) ?_; rotate_left 1; (intro W0 hSw; (try dsimp only at hSw); go_simp; (try with_reducible rfl)); (try simp only [Act.put, List.setIfInBounds_toArray, List.set_cons_zero, List.set_cons_succ]))
        refine wpAnyH_ready (rs := [1]) (by kernel_rfl) (by simp) ?_
        refine AllReadyH.cons rfl (fun K hK => ?_) AllReadyH.nil
        go_simp
        refine hK.out _ _ trivial (fun hHeld => ?_)
        clear hK K
        (try simp only [Act.put, List.setIfInBounds_toArray, List.set_cons_zero, List.set_cons_succ])
        (refine wpAnyH_take (i := 3) (v := ?_) rfl (by kernel_rfl) (by kernel_rfl) (by kernel_rfl) (fun _ _ _ h => h) (Or.inl ⟨by rfl, ?_⟩) (by assumption) ?_; rotate_left 1; (intro W0 hSw; (try dsimp only at hSw); go_simp; (try with_reducible rfl)); (try simp only [Act.put, List.setIfInBounds_toArray, List.set_cons_zero, List.set_cons_succ]))
        (try rw [hsx])
        refine wpAnyH_ready (rs := [9]) (by kernel_rfl) (by simp) ?_
        refine AllReadyH.cons rfl (fun K hK => ?_) AllReadyH.nil
        go_simp
        refine hK.out _ _ trivial (fun hHeld => ?_)
        clear hK K
        (try simp only [Act.put, List.setIfInBounds_toArray, List.set_cons_zero, List.set_cons_succ])
        refine wpAnyH_ready (rs := [10]) (by kernel_rfl) (by simp) ?_
        refine AllReadyH.cons rfl (fun K hK => ?_) AllReadyH.nil
        go_simp
        refine (HC.out (w2.drew.alloc (.cells #[.slice (some ⟨bm, om, none⟩) p cm, .slice sx (m.length - (p + 1)) (cm - (p + 1))] 23)) (BD.out.alloc (Nat.le_refl _) _) (cell_of_block (b := w2.heap.size) (heap_alloc_new w2.drew (.cells #[.slice (some ⟨bm, om, none⟩) p cm, .slice sx (m.length - (p + 1)) (cm - (p + 1))] 23)) 0) (cell_of_block (b := w2.heap.size) (heap_alloc_new w2.drew (.cells #[.slice (some ⟨bm, om, none⟩) p cm, .slice sx (m.length - (p + 1)) (cm - (p + 1))] 23)) 1) (by rw [alloc_size]; exact Nat.lt_succ_self _)).mono ?_
        rintro e w3 ⟨ca, cc, cb, co, rfl, hdc, hlc, b3⟩
        have hzA : (w2.drew.alloc (.cells #[.slice (some ⟨bm, om, none⟩) p cm, .slice sx (m.length - (p + 1)) (cm - (p + 1))] 23)).heap.size = w2.heap.size + 1 := alloc_size w2.drew _
        have HLC : Hid (liesM false w3 (fun x => S x ∨ (w2.heap.size < x ∧ x < w3.heap.size)) L cb co) := liesM_keep (fun h => h) (fun _ _ => rfl) (fun x hx => hx.elim .inl (fun h => .inr ⟨by have h1 := h.1; rw [hzA] at h1; exact h1, h.2⟩)) _ hlc
        have c3 : Below w2.heap.size w2 w3 := (BD.out.alloc (Nat.le_refl _) _).trans (b3.mono (by rw [hzA]; omega))
        have hz3 : w2.heap.size < w3.heap.size := by have := b3.size; rw [hzA] at this; omega
        have B3 := B2.trans (c3.mono hz2w)
        have t3 := (c3.block w.heap.size (by omega)).trans t0'
        have t31 := (c3.block (w.heap.size + 1) (by omega)).trans t1'
        have s5 : w3.cell? ⟨w.heap.size, 5, none⟩ = some (.slice (some ⟨bm, om, none⟩) m.length cm) := by rw [cell_of_block t3]; rfl
        have sf : w3.frozen? ⟨w.heap.size, 5, none⟩ = false := frozen_of_block t3 5
        clear hlc b3 hzA
        go_wp2_with fail
        refine hK.out _ _ trivial (fun hHeld => ?_)
        clear hK K
        (try simp only [Act.put, List.setIfInBounds_toArray, List.set_cons_zero, List.set_cons_succ])
        (refine wpAnyH_take (i := 11) (v := ?_) rfl (by kernel_rfl) (by kernel_rfl) (by kernel_rfl) (fun _ _ _ h => h) (Or.inl ⟨by rfl, ?_⟩) (by assumption) ?_; rotate_left 1; (intro W0 hSw; (try dsimp only at hSw); go_simp; (try with_reducible rfl)); (try simp only [Act.put, List.setIfInBounds_toArray, List.set_cons_zero, List.set_cons_succ]))
        refine wpAnyH_ready (rs := [12]) (by kernel_rfl) (by simp) ?_
        refine AllReadyH.cons rfl (fun K hK => ?_) AllReadyH.nil
        go_simp
        refine hK.out _ _ trivial (fun hHeld => ?_)
        clear hK K
        (try simp only [Act.put, List.setIfInBounds_toArray, List.set_cons_zero, List.set_cons_succ])
        refine wpAnyH_done (by kernel_rfl) ?_ _
        (try dsimp only [Act.put, List.getElem_toArray, List.getElem_cons_succ, List.getElem_cons_zero, List.setIfInBounds_toArray, List.set_cons_zero, List.set_cons_succ])
        have g4 := grown_set1 w3 w.heap.size 5 (.slice ca L.length cc)
        have t4 : (w3.setCell ⟨w.heap.size, 5, none⟩ (.slice ca L.length cc)).heap[w.heap.size]? = some (.cells #[.int .i64 k, .bool b, .int .i64 i, .string s, .slice al l.length cl, .slice ca L.length cc] 25 (0, 0)) := by rw [set_block t3]; rfl
        have t41 : (w3.setCell ⟨w.heap.size, 5, none⟩ (.slice ca L.length cc)).heap[w.heap.size + 1]? = some (.cells #[.int .i64 0, .bool false, .int .i64 0, .string ⟨#[]⟩, .slice none 0 0, .slice none 0 0] 25 (0, 0)) := (g4.block _ (by omega) (fun e => by have := Option.some.inj e; omega)).trans t31
        have B4 : Below w.heap.size w (w3.setCell ⟨w.heap.size, 5, none⟩ (.slice ca L.length cc)) := B3.setCell (p := ⟨w.heap.size, 5, none⟩) (Nat.le_refl _) _
        have hz4' : (w3.setCell ⟨w.heap.size, 5, none⟩ (.slice ca L.length cc)).heap.size = w3.heap.size := size_set1 _ _ _ _
        have hne : ∀ x, (S x ∨ (w2.heap.size < x ∧ x < w3.heap.size)) → x ≠ w.heap.size ∧ x < w3.heap.size := fun x hx => by
          rcases hx with h | h
          · have := hS x h; exact ⟨by omega, by omega⟩
          · exact ⟨by omega, h.2⟩
        have HLC4 : Hid (liesM false (w3.setCell ⟨w.heap.size, 5, none⟩ (.slice ca L.length cc)) (fun x => S x ∨ (w2.heap.size < x ∧ x < w3.heap.size)) L cb co) := liesM_keep (fun h => h) (fun x hx => g4.block x (hne x hx).2 (fun e => (hne x hx).1 (Option.some.inj e))) (fun _ h => h) _ HLC.out
        have HV4 : Hid ((V.mk k b i s l L).lies false (w3.setCell ⟨w.heap.size, 5, none⟩ (.slice ca L.length cc)) (fun x => S x ∨ (w2.heap.size < x ∧ x < w3.heap.size)) [.int .i64 k, .bool b, .int .i64 i, .string s, .slice al l.length cl, .slice ca L.length cc]) := lies_S hk hi hs hal hdc (liesL_keep (fun h => h) (fun _ _ => rfl) (fun _ h => .inl h) _ (HM.out _ B4).2.1) HLC4.out
        generalize (w3.setCell ⟨w.heap.size, 5, none⟩ (.slice ca L.length cc)) = w4 at *
        have d0 : w4.cell? ⟨w.heap.size, 0, none⟩ = some (.int .i64 k) := by rw [cell_of_block t4]; rfl
        have d1 : w4.cell? ⟨w.heap.size, 1, none⟩ = some (.bool b) := by rw [cell_of_block t4]; rfl
        have d2 : w4.cell? ⟨w.heap.size, 2, none⟩ = some (.int .i64 i) := by rw [cell_of_block t4]; rfl
        have d3 : w4.cell? ⟨w.heap.size, 3, none⟩ = some (.string s) := by rw [cell_of_block t4]; rfl
        have d4 : w4.cell? ⟨w.heap.size, 4, none⟩ = some (.slice al l.length cl) := by rw [cell_of_block t4]; rfl
        have d5 : w4.cell? ⟨w.heap.size, 5, none⟩ = some (.slice ca L.length cc) := by rw [cell_of_block t4]; rfl
        clear t3 t31 s5 sf g4 t4 HLC HLC4 q5 t0' t1' c3 B3
        go_wp2_with fail
        refine (anew_ap (V.mk k b i s l L) false _ _ w4 HV4.out (fun x hx => by have := (hne x hx).2; omega) HWL.out).mono ?_
        rintro e w5 ⟨csu, rfl, hlu, b5⟩
        obtain ⟨uk, ub, ui, us, ual, unl, ucl, uam, unm, ucm, rfl⟩ := V.ten (V.ap_lies _ hlu)
        have hz6 := b5.size
        have B5 := B4.trans (b5.mono (by omega))
        have t1 := (b5.block (w.heap.size + 1) (by omega)).trans t41
        have HU : Hid ((V.mk k b i s l L).ap w5 (w.heap.size + 2) w5.heap.size [.int .i64 uk, .bool ub, .int .i64 ui, .string us, .slice ual unl ucl, .slice uam unm ucm]) := V.ap_wide hlu (by omega) (Nat.le_refl _)
        clear hlu b5 d0 d1 d2 d3 d4 d5 t41
        have r0 : w5.cell? ⟨w.heap.size + 1, 0, none⟩ = some (.int .i64 0) := by rw [cell_of_block t1]; rfl
        have r1 : w5.cell? ⟨w.heap.size + 1, 1, none⟩ = some (.bool false) := by rw [cell_of_block t1]; rfl
        have r2 : w5.cell? ⟨w.heap.size + 1, 2, none⟩ = some (.int .i64 0) := by rw [cell_of_block t1]; rfl
        have r3 : w5.cell? ⟨w.heap.size + 1, 3, none⟩ = some (.string ⟨#[]⟩) := by rw [cell_of_block t1]; rfl
        have r4 : w5.cell? ⟨w.heap.size + 1, 4, none⟩ = some (.slice none 0 0) := by rw [cell_of_block t1]; rfl
        have r5 : w5.cell? ⟨w.heap.size + 1, 5, none⟩ = some (.slice none 0 0) := by rw [cell_of_block t1]; rfl
        have rf : ∀ i, w5.frozen? ⟨w.heap.size + 1, i, none⟩ = false := frozen_of_block t1
        clear t1
        go_wp2_with fail
        (try simp only [Exit.inBlock, Exit.then])
        refine bodyPost_ret (v := .agg #[.int .i64 uk, .bool ub, .int .i64 ui, .string us, .slice ual unl ucl, .slice uam unm ucm]) (by rw [results_cell1 rfl]; go_simp) rfl ?_
        rw [HF.out, HWO.out]
        exact ⟨[.int .i64 uk, .bool ub, .int .i64 ui, .string us, .slice ual unl ucl, .slice uam unm ucm], rfl, V.ap_wide (ap_set6 HU.out (show w.heap.size + 1 < w.heap.size + 2 by omega) _ _ _ _ _ _ _ _ _ _ _ _) (by omega) (by simp only [size_set1]; exact Nat.le_refl _), Below.set6 B5 (by omega) _ _ _ _ _ _ _ _ _ _ _ _⟩
end Go.Proofs.YthgfomblodhoaaaDoor
